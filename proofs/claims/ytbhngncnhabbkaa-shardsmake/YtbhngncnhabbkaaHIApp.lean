/- Lists of numbers put behind a row of the call's own, or behind a slice without room; an append of which it is known what it comes to, in both kinds of regions. -/
import Derived.Test.YtbhngncnhabbkaaHOpen
import Derived.Deep.Upon
namespace Go.Proofs.Ytbhngncnhabbkaa
open Go.RowKit Go.Deep

theorem ints_cells {W : World} {b off : Nat} {l : List Int} (h : ∀ j, j < l.length → W.cell? ⟨b, off + j, none⟩ = some (.int .i64 (l.getD j 0))) :
    ∀ j u, (icells l)[j]? = some u → W.cell? ⟨b, off + j, none⟩ = some u := by
  intro j u hj
  have hlt : j < l.length := by
    have := (List.getElem?_eq_some_iff.1 hj).1
    simpa [icells] using this
  rw [h j hlt, ← hj]
  simp [icells, List.getD, hlt]
theorem icells_one (l : List Int) : ∀ u ∈ icells l, u.oneCell' = true := by
  intro u hu
  obtain ⟨x, _, rfl⟩ := List.mem_map.1 hu
  rfl
theorem icells_app (a b : List Int) : icells (a ++ b) = icells a ++ icells b := by simp [icells]

/-- All of a list behind a row of the call's own. -/
theorem run_app_own (w : World) (base : Nat) (v : Value) (n : Nat) (A : List Int) (hown : w.ownsRow base 3 1 v n (icells A)) (xv : Value) (L : List Int) (hL : Ints w xv L) (h63 : n + L.length ≤ 1000000) (hbase : base ≤ w.heap.size) (ty : TypeId) :
    ∃ v' w', (Builtin.append_ #[41, 41] ty #[v, xv]).run Try.prog w = .ok v' w' ∧ w'.ownsRow base 3 1 v' (n + L.length) (icells (A ++ L)) ∧ w.grownBy w' v.ownBlock := by
  obtain ⟨i0, hi0, hz0, hz1, hz2⟩ := info_parts Try.intInfo2
  obtain ⟨ad, cap, rfl, hc⟩ := id hL
  cases ad with
  | some ad =>
    obtain ⟨v', w', h1, h2, h3, _⟩ := run_append_own (P := Try.prog) w base 41 ty 3 i0 (.int .i64 0) 1 8 Try.underlying41 hi0 hz0 hz1 hz2 rfl (by decide) v n (icells A) hown ad L.length cap (icells L) (by simp [icells]) (by
      intro j u hj
      rcases hc with rfl | ⟨b, off, e, _, hc⟩
      · simp [icells] at hj
      · simp only [Option.some.injEq] at e
        subst e
        rw [Go.WideShapes.add_plain]
        exact ints_cells hc j u hj) (icells_one L) (by unfold maxLen; omega) (by omega) hbase
    rw [← icells_app] at h2
    exact ⟨v', w', h1, h2, h3⟩
  | none =>
    obtain rfl : L = [] := hc.elim id (by rintro ⟨b, off, e, _⟩; cases e)
    have hr : (Builtin.append_ #[41, 41] ty #[v, .slice none 0 cap]).run Try.prog w = .ok v w := by
      rcases hown.2 with ⟨rfl, _⟩ | ⟨g, c, cur, rfl, _, _, hle, _⟩
      · exact run_append_nothing w _ _ ty _ _ Try.underlying41 hi0 none 0 0 (Nat.le_refl _) _ (Src.ofNil w Try.underlying41 cap)
      · exact run_append_nothing w _ _ ty _ _ Try.underlying41 hi0 _ n c hle _ (Src.ofNil w Try.underlying41 cap)
    exact ⟨v, w, hr, by simpa using hown, World.grownBy.refl _ _⟩

/-- A number more behind a slice that has no room. -/
theorem run_app_cut (w : World) (a : Option Addr) (k : Nat) (A : List Int) (hk : A.length = k) (hn : a = none → k = 0) (hA : A = [] ∨ ∃ b off, a = some ⟨b, off, none⟩ ∧ ∀ j, j < A.length → w.cell? ⟨b, off + j, none⟩ = some (.int .i64 (A.getD j 0)))
    (z : Int) (ad : Addr) (c : Nat) (hz : w.cell? ad = some (.int .i64 z)) (h63 : k ≤ 1000000) (ty : TypeId) :
    ∃ v' w', (Builtin.append_ #[41, 41] ty #[.slice a k k, .slice (some ad) 1 c]).run Try.prog w = .ok v' w' ∧ w'.ownsRow w.heap.size 3 1 v' (k + 1) (icells (A ++ [z])) ∧ w.grownBy w' none := by
  obtain ⟨i0, hi0, hz0, hz1, hz2⟩ := info_parts Try.intInfo2
  have hnews : ∀ (j : Nat) (u : Value), ([Value.int .i64 z] : List Value)[j]? = some u → w.cell? (ad.add j) = some u := by
    intro j u hj
    match j, hj with
    | 0, hj =>
      simp at hj
      subst hj
      have e : ad.add 0 = ad := by
        obtain ⟨b, off, s⟩ := ad
        cases s <;> simp [Addr.add]
      rw [e]; exact hz
  rw [icells_app]
  cases a with
  | some b =>
    exact run_append_arg_grows (P := Try.prog) w 41 ty 3 i0 (.int .i64 0) 1 8 Try.underlying41 hi0 hz0 hz1 hz2 rfl (by decide) b k k (icells A) (by simp [icells, hk]) (by
      intro j u hj
      rcases hA with rfl | ⟨b', off, e, hc⟩
      · simp [icells] at hj
      · simp only [Option.some.injEq] at e
        subst e
        rw [Go.WideShapes.add_plain]
        exact ints_cells hc j u hj) ad 1 c [.int .i64 z] rfl hnews (by omega) (by unfold maxLen; omega) (by omega)
  | none =>
    obtain rfl := hn rfl
    obtain rfl : A = [] := List.length_eq_zero_iff.1 hk
    obtain ⟨v', w', h1, h2, h3, _⟩ := run_append_own (P := Try.prog) w w.heap.size 41 ty 3 i0 (.int .i64 0) 1 8 Try.underlying41 hi0 hz0 hz1 hz2 rfl (by decide) (.slice none 0 0) 0 [] (World.ownsRow_nil w _ _ _) ad 1 c [.int .i64 z] rfl hnews (by simp [Value.oneCell']) (by unfold maxLen; omega) (by omega) (Nat.le_refl _)
    exact ⟨v', w', h1, h2, h3⟩

section
variable {w w' : World} {ops : Array Oper} {o : Oper} {a : Act} {v x' : Value} {t : TypeId}
theorem wp_append_run {K : Act → World → Prop} {Q : Exit → Act → World → Prop} (s x : Operand) (ho : o.op = .call { callee := .builtin .append, args := #[s, x], argTypes := #[t, t] }) (hs : a.eval s = v) (hx : a.eval x = x') {v' : Value}
    (hr : (Builtin.append_ #[t, t] o.type #[v, x']).run Try.prog w = .ok v' w') (h : K (a.put o.dst v') w') : o.wp Try.prog a w K Q := by
  unfold Oper.wp execOp
  simp only [ho, resolve, invoke, builtin, Sem.run_bind, Sem.run_pure, Result.andThen_ok, List.map_toArray, List.map_cons, List.map_nil, hs, hx, hr]
  exact h
theorem wpList_append_run {rest : List Oper} {Q : Exit → Act → World → Prop} (hgd : o.guard = none) (s x : Operand) (ho : o.op = .call { callee := .builtin .append, args := #[s, x], argTypes := #[t, t] }) (hs : a.eval s = v) (hx : a.eval x = x')
    (hr : ∃ v' w', (Builtin.append_ #[t, t] o.type #[v, x']).run Try.prog w = .ok v' w' ∧ wpList Try.prog ops Q rest (a.put o.dst v') w') : wpList Try.prog ops Q (o :: rest) a w := by
  obtain ⟨v', w', hr, h⟩ := hr
  exact wpList_plain hgd fun _ hK => wp_append_run s x ho hs hx hr (hK _ _ h)
theorem step_append_run {K : Act → World → Prop} {Q : Exit → Act → World → Prop} {E : Prop} (hgd : o.guard = none) (s x : Operand) (ho : o.op = .call { callee := .builtin .append, args := #[s, x], argTypes := #[t, t] }) (hs : a.eval s = v) (hx : a.eval x = x')
    (hr : ∃ v' w', (Builtin.append_ #[t, t] o.type #[v, x']).run Try.prog w = .ok v' w' ∧ K (a.put o.dst v') w') : if Region.wanted o (yielded ops a.tmps) = true then Oper.wp Try.prog o a w K Q else E := by
  obtain ⟨v', w', hr, h⟩ := hr
  rw [if_pos (show Region.wanted o (yielded ops a.tmps) = true by simp [Region.wanted, hgd])]
  exact wp_append_run s x ho hs hx hr h
end

end Go.Proofs.Ytbhngncnhabbkaa
