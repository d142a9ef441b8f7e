/- What the table of types says of an edge. -/
import Derived.Test.YtbhngncnhabbkaaHRefE
import Derived.Deep.Upon
namespace Go.Proofs.Ytbhngncnhabbkaa

theorem Try.edgeInfo : (Try.prog.info? 43).map (fun i => (i.zero, i.size, i.bytes)) = some (some (.agg #[.int .i64 0, .int .i64 0]), 2, 16) := by kernel_rfl

end Go.Proofs.Ytbhngncnhabbkaa

/- All of a slice of edges put behind a row of the call's own. -/
namespace Go.Proofs.Ytbhngncnhabbkaa
open Go.RowKit Go.Deep

theorem wpList_append_all {ops : Array Oper} {rest : List Oper} {o : Oper} {a : Act} {Q : Exit → Act → World → Prop} (w : World) (hgd : o.guard = none) (s x : Operand)
    (ho : o.op = .call { callee := .builtin .append, args := #[s, x], argTypes := #[22, 22] })
    (base : Nat) (v : Value) (n : Nat) (E : List (Int × Int)) (hs : a.eval s = v) (hown : w.ownsRow base 43 2 v n (ecells E))
    (xv : Value) (L : List (Int × Int)) (hx : a.eval x = xv) (hL : Edg w xv L) (h63 : n + L.length ≤ 1000000) (hbase : base ≤ w.heap.size)
    (h : ∀ v' w', w'.ownsRow base 43 2 v' (n + L.length) (ecells (E ++ L)) → w.grownBy w' v.ownBlock → wpList Try.prog ops Q rest (a.put o.dst v') w') : wpList Try.prog ops Q (o :: rest) a w := by
  obtain ⟨i0, hi0, hz0, hz1, hz2⟩ := info_parts Try.edgeInfo
  obtain ⟨ad, cap, rfl, hcap, hc⟩ := id hL
  have main : ∀ ad', ad = some ad' → wpList Try.prog ops Q (o :: rest) a w := by
    rintro ad' rfl
    refine wpList_append_own w hgd s x 22 ho base 43 i0 (.agg #[.int .i64 0, .int .i64 0]) 2 16 Try.underlying22 hi0 hz0 hz1 hz2 rfl (by decide) v n (ecells E) hs hown ad' L.length cap (ecells L) hx (by rw [ecells_len]) ?_ ?_ (by unfold maxLen; omega) (by omega) hbase ?_
    · intro j u hj
      rcases hc with rfl | ⟨b, off, e, hc⟩
      · simp [ecells] at hj
      · simp only [Option.some.injEq] at e
        subst e
        rw [Go.WideShapes.add_plain]
        exact cells_of hc j u hj
    · intro u hu
      exact ecells_one L u hu
    · intro v' w' h1 h2 _
      rw [← ecells_app] at h1
      exact h v' w' h1 h2
  cases ad with
  | some ad' => exact main ad' rfl
  | none =>
    obtain rfl : L = [] := hc.elim id (by rintro ⟨b, off, e, _⟩; cases e)
    have hr : ∀ ty, (Builtin.append_ #[22, 22] ty #[v, .slice none 0 cap]).run Try.prog w = .ok v w := fun ty => by
      rcases hown.2 with ⟨rfl, _⟩ | ⟨g, c, cur, rfl, _, _, hle, _⟩
      · exact run_append_nothing w _ _ ty _ _ Try.underlying22 hi0 none 0 0 (Nat.le_refl _) _ (Src.ofNil w Try.underlying22 cap)
      · exact run_append_nothing w _ _ ty _ _ Try.underlying22 hi0 _ n c hle _ (Src.ofNil w Try.underlying22 cap)
    refine wpList_plain hgd fun K hK => ?_
    unfold Oper.wp execOp
    simp only [ho, resolve, invoke, builtin, Sem.run_bind, Sem.run_pure, Result.andThen_ok, List.map_toArray, List.map_cons, List.map_nil, hs, hx]
    rw [show (Value.slice none ([] : List (Int × Int)).length cap) = .slice none 0 cap from rfl, hr]
    exact hK _ _ (h v w (by simpa using hown) (World.grownBy.refl _ _))

end Go.Proofs.Ytbhngncnhabbkaa
