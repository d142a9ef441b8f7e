/- Lists of numbers put behind a row of the call's own, or behind a slice without room; an append of which it is known what it comes to, in both kinds of regions. -/
import Derived.Test.YtbhngncnhabbkaaGreatHRefB2
import Derived.Deep.Upon
namespace Go.Proofs.YtbhngncnhabbkaaGreat
open Go.RowKit Go.Deep

theorem ints_cells {W : World} {b off : Nat} {l : List Int} (h : ∀ j, j < l.length → W.cell? ⟨b, off + j, none⟩ = some (.int .i64 (l.getD j 0))) :
    ∀ j u, (icells l)[j]? = some u → W.cell? ⟨b, off + j, none⟩ = some u := by
  intro j u hj
  have hlt : j < l.length := by
    have := (List.getElem?_eq_some_iff.1 hj).1
    simpa [icells] using this
  rw [h j hlt, ← hj]
  simp [icells, List.getD, hlt]
theorem icells_one (l : List Int) : ∀ u ∈ icells l, u.oneCell' = true := by
  intro u hu
  obtain ⟨x, _, rfl⟩ := List.mem_map.1 hu
  rfl
theorem icells_app (a b : List Int) : icells (a ++ b) = icells a ++ icells b := by simp [icells]

/-- All of a list behind a row of the call's own. -/
theorem run_app_own (w : World) (base : Nat) (v : Value) (n : Nat) (A : List Int) (hown : w.ownsRow base 3 1 v n (icells A)) (xv : Value) (L : List Int) (hL : Ints w xv L) (h63 : n + L.length ≤ 1000000) (hbase : base ≤ w.heap.size) (ty : TypeId) :
    ∃ v' w', (Builtin.append_ #[58, 58] ty #[v, xv]).run Tryz.prog w = .ok v' w' ∧ w'.ownsRow base 3 1 v' (n + L.length) (icells (A ++ L)) ∧ w.grownBy w' v.ownBlock := by
  obtain ⟨i0, hi0, hz0, hz1, hz2⟩ := info_parts Tryz.intInfo2
  obtain ⟨ad, cap, rfl, hc⟩ := id hL
  cases ad with
  | some ad =>
    obtain ⟨v', w', h1, h2, h3, _⟩ := run_append_own (P := Tryz.prog) w base 58 ty 3 i0 (.int .i64 0) 1 8 Tryz.underlying58 hi0 hz0 hz1 hz2 rfl (by decide) v n (icells A) hown ad L.length cap (icells L) (by simp [icells]) (by
      intro j u hj
      rcases hc with rfl | ⟨b, off, e, _, hc⟩
      · simp [icells] at hj
      · simp only [Option.some.injEq] at e
        subst e
        rw [Go.WideShapes.add_plain]
        exact ints_cells hc j u hj) (icells_one L) (by unfold maxLen; omega) (by omega) hbase
    rw [← icells_app] at h2
    exact ⟨v', w', h1, h2, h3⟩
  | none =>
    obtain rfl : L = [] := hc.elim id (by rintro ⟨b, off, e, _⟩; cases e)
    have hr : (Builtin.append_ #[58, 58] ty #[v, .slice none 0 cap]).run Tryz.prog w = .ok v w := by
      rcases hown.2 with ⟨rfl, _⟩ | ⟨g, c, cur, rfl, _, _, hle, _⟩
      · exact run_append_nothing w _ _ ty _ _ Tryz.underlying58 hi0 none 0 0 (Nat.le_refl _) _ (Src.ofNil w Tryz.underlying58 cap)
      · exact run_append_nothing w _ _ ty _ _ Tryz.underlying58 hi0 _ n c hle _ (Src.ofNil w Tryz.underlying58 cap)
    exact ⟨v, w, hr, by simpa using hown, World.grownBy.refl _ _⟩

/-- A number more behind a slice that has no room. -/
theorem run_app_cut (w : World) (a : Option Addr) (k : Nat) (A : List Int) (hk : A.length = k) (hn : a = none → k = 0) (hA : A = [] ∨ ∃ b off, a = some ⟨b, off, none⟩ ∧ ∀ j, j < A.length → w.cell? ⟨b, off + j, none⟩ = some (.int .i64 (A.getD j 0)))
    (z : Int) (ad : Addr) (c : Nat) (hz : w.cell? ad = some (.int .i64 z)) (h63 : k ≤ 1000000) (ty : TypeId) :
    ∃ v' w', (Builtin.append_ #[58, 58] ty #[.slice a k k, .slice (some ad) 1 c]).run Tryz.prog w = .ok v' w' ∧ w'.ownsRow w.heap.size 3 1 v' (k + 1) (icells (A ++ [z])) ∧ w.grownBy w' none := by
  obtain ⟨i0, hi0, hz0, hz1, hz2⟩ := info_parts Tryz.intInfo2
  have hnews : ∀ (j : Nat) (u : Value), ([Value.int .i64 z] : List Value)[j]? = some u → w.cell? (ad.add j) = some u := by
    intro j u hj
    match j, hj with
    | 0, hj =>
      simp at hj
      subst hj
      have e : ad.add 0 = ad := by
        obtain ⟨b, off, s⟩ := ad
        cases s <;> simp [Addr.add]
      rw [e]; exact hz
  rw [icells_app]
  cases a with
  | some b =>
    exact run_append_arg_grows (P := Tryz.prog) w 58 ty 3 i0 (.int .i64 0) 1 8 Tryz.underlying58 hi0 hz0 hz1 hz2 rfl (by decide) b k k (icells A) (by simp [icells, hk]) (by
      intro j u hj
      rcases hA with rfl | ⟨b', off, e, hc⟩
      · simp [icells] at hj
      · simp only [Option.some.injEq] at e
        subst e
        rw [Go.WideShapes.add_plain]
        exact ints_cells hc j u hj) ad 1 c [.int .i64 z] rfl hnews (by omega) (by unfold maxLen; omega) (by omega)
  | none =>
    obtain rfl := hn rfl
    obtain rfl : A = [] := List.length_eq_zero_iff.1 hk
    obtain ⟨v', w', h1, h2, h3, _⟩ := run_append_own (P := Tryz.prog) w w.heap.size 58 ty 3 i0 (.int .i64 0) 1 8 Tryz.underlying58 hi0 hz0 hz1 hz2 rfl (by decide) (.slice none 0 0) 0 [] (World.ownsRow_nil w _ _ _) ad 1 c [.int .i64 z] rfl hnews (by simp [Value.oneCell']) (by unfold maxLen; omega) (by omega) (Nat.le_refl _)
    exact ⟨v', w', h1, h2, h3⟩

section
variable {w w' : World} {ops : Array Oper} {o : Oper} {a : Act} {v x' : Value} {t : TypeId}
theorem wp_append_run {K : Act → World → Prop} {Q : Exit → Act → World → Prop} (s x : Operand) (ho : o.op = .call { callee := .builtin .append, args := #[s, x], argTypes := #[t, t] }) (hs : a.eval s = v) (hx : a.eval x = x') {v' : Value}
    (hr : (Builtin.append_ #[t, t] o.type #[v, x']).run Tryz.prog w = .ok v' w') (h : K (a.put o.dst v') w') : o.wp Tryz.prog a w K Q := by
  unfold Oper.wp execOp
  simp only [ho, resolve, invoke, builtin, Sem.run_bind, Sem.run_pure, Result.andThen_ok, List.map_toArray, List.map_cons, List.map_nil, hs, hx, hr]
  exact h
theorem wpList_append_run {rest : List Oper} {Q : Exit → Act → World → Prop} (hgd : o.guard = none) (s x : Operand) (ho : o.op = .call { callee := .builtin .append, args := #[s, x], argTypes := #[t, t] }) (hs : a.eval s = v) (hx : a.eval x = x')
    (hr : ∃ v' w', (Builtin.append_ #[t, t] o.type #[v, x']).run Tryz.prog w = .ok v' w' ∧ wpList Tryz.prog ops Q rest (a.put o.dst v') w') : wpList Tryz.prog ops Q (o :: rest) a w := by
  obtain ⟨v', w', hr, h⟩ := hr
  exact wpList_plain hgd fun _ hK => wp_append_run s x ho hs hx hr (hK _ _ h)
theorem step_append_run {K : Act → World → Prop} {Q : Exit → Act → World → Prop} {E : Prop} (hgd : o.guard = none) (s x : Operand) (ho : o.op = .call { callee := .builtin .append, args := #[s, x], argTypes := #[t, t] }) (hs : a.eval s = v) (hx : a.eval x = x')
    (hr : ∃ v' w', (Builtin.append_ #[t, t] o.type #[v, x']).run Tryz.prog w = .ok v' w' ∧ K (a.put o.dst v') w') : if Region.wanted o (yielded ops a.tmps) = true then Oper.wp Tryz.prog o a w K Q else E := by
  obtain ⟨v', w', hr, h⟩ := hr
  rw [if_pos (show Region.wanted o (yielded ops a.tmps) = true by simp [Region.wanted, hgd])]
  exact wp_append_run s x ho hs hx hr h
end

end Go.Proofs.YtbhngncnhabbkaaGreat

/- A row of slices of the call's own, each of which holds a list of numbers in a block apart from it; what slicing leaves of a list. -/
namespace Go.Proofs.YtbhngncnhabbkaaGreat
open Go.RowKit Go.Deep

theorem Tryz.rowInfo : (Tryz.prog.info? 58).map (fun i => (i.zero, i.size, i.bytes)) = some (some (.slice none 0 0), 1, 24) := by kernel_rfl

/-- A list that lies in a block that has not turned. -/
theorem Ints.grown {W W' : World} {r : Option Nat} {v : Value} {l : List Int} (h : Ints W v l) (hg : W.grownBy W' r) (hne : ∀ q, v.ownBlock = some q → r ≠ some q) : Ints W' v l := by
  obtain ⟨a, cap, rfl, h⟩ := h
  refine ⟨a, cap, rfl, ?_⟩
  rcases h with h | ⟨g, off, rfl, hlt, hc⟩
  · exact .inl h
  · exact .inr ⟨g, off, rfl, Nat.lt_of_lt_of_le hlt hg.size, fun j hj => hg.cell (hc j hj) fun e => hne g rfl e.symm⟩

structure Rws (W : World) (base : Nat) (ov : Value) (xs : List Value) (o : List (List Int)) : Prop where
  own : W.ownsRow base 58 1 ov xs.length xs
  len : xs.length = o.length
  each : ∀ j, j < o.length → Ints W (xs.getD j (.bool false)) (o.getD j []) ∧ ∀ q, (xs.getD j (.bool false)).ownBlock = some q → base ≤ q ∧ q < W.heap.size ∧ ov.ownBlock ≠ some q

section
variable {W W2 : World} {base : Nat} {ov : Value} {xs : List Value} {o : List (List Int)}
theorem Rws.nil (W : World) (base : Nat) : Rws W base (.slice none 0 0) [] [] := ⟨World.ownsRow_nil _ _ _ _, rfl, fun j hj => by simp at hj⟩
theorem Rws.turn (h : Rws W base ov xs o) {P : Nat} (ho : Oth P W W2) (hP : P < base) : Rws W2 base ov xs o :=
  ⟨h.own.kept ho (by
    cases hv : ov.ownBlock with
    | none => exact .inl rfl
    | some q => exact .inr fun e => by have := (h.own.lt q hv).1; simp at e; omega), h.len, fun j hj => by
    obtain ⟨h1, h2⟩ := h.each j hj
    exact ⟨h1.grown ho (fun q hq e => by have := (h2 q hq).1; simp at e; omega), fun q hq => ⟨(h2 q hq).1, Nat.lt_of_lt_of_le (h2 q hq).2.1 ho.size, (h2 q hq).2.2⟩⟩⟩
theorem Rws.later (h : Rws W base ov xs o) (hb : Below W.heap.size W W2) : Rws W2 base ov xs o :=
  ⟨own_later h.own hb, h.len, fun j hj => ⟨(h.each j hj).1.later hb, fun q hq => ⟨((h.each j hj).2 q hq).1, Nat.lt_of_lt_of_le ((h.each j hj).2 q hq).2.1 hb.size, ((h.each j hj).2 q hq).2.2⟩⟩⟩
theorem Rws.push (h : Rws W base ov xs o) {x v' : Value} {q : List Int} (hx : Ints W x q) (hxo : ∀ k, x.ownBlock = some k → base ≤ k ∧ k < W.heap.size ∧ ov.ownBlock ≠ some k)
    (hown : W2.ownsRow base 58 1 v' (xs.length + 1) (xs ++ [x])) (hg : W.grownBy W2 ov.ownBlock) (hat : v'.ownBlock = ov.ownBlock ∨ v'.ownBlock = some W.heap.size) : Rws W2 base v' (xs ++ [x]) (o ++ [q]) := by
  have hne : ∀ k, k < W.heap.size → ov.ownBlock ≠ some k → v'.ownBlock ≠ some k := fun k h1 h2 e => by
    rcases hat with h3 | h3
    · rw [h3] at e; exact h2 e
    · rw [h3] at e; simp at e; omega
  refine ⟨by rw [List.length_append]; exact hown, by simp [h.len], fun j hj => ?_⟩
  by_cases e : j < o.length
  · obtain ⟨h1, h2⟩ := h.each j e
    have e1 : (xs ++ [x]).getD j (.bool false) = xs.getD j (.bool false) := by simp [List.getD, List.getElem?_append, h.len, e]
    have e2 : (o ++ [q]).getD j [] = o.getD j [] := by simp [List.getD, List.getElem?_append, e]
    rw [e1, e2]
    exact ⟨h1.grown hg (fun k hk => (h2 k hk).2.2), fun k hk => ⟨(h2 k hk).1, Nat.lt_of_lt_of_le (h2 k hk).2.1 hg.size, hne k (h2 k hk).2.1 (h2 k hk).2.2⟩⟩
  · obtain rfl : j = o.length := by simp at hj; omega
    have e1 : (xs ++ [x]).getD o.length (.bool false) = x := by simp [List.getD, h.len]
    have e2 : (o ++ [q]).getD o.length [] = q := by simp [List.getD]
    rw [e1, e2]
    exact ⟨hx.grown hg (fun k hk => (hxo k hk).2.2), fun k hk => ⟨(hxo k hk).1, Nat.lt_of_lt_of_le (hxo k hk).2.1 hg.size, hne k (hxo k hk).2.1 (hxo k hk).2.2⟩⟩
theorem Rws.lists (h : Rws W base ov xs o) : Lists W ov o := by
  rcases h.own.2 with ⟨rfl, h0⟩ | ⟨g, cap, cur, rfl, hb, hcell, hle, _⟩
  · have : o = [] := List.length_eq_zero_iff.1 (by rw [← h.len]; exact h0)
    subst this
    exact lists_nil _
  · have hl := h.len
    refine ⟨_, cap, by rw [hl], by omega, .inr ⟨g, 0, rfl, fun j hj => ⟨xs.getD j (.bool false), ?_, (h.each j hj).1⟩⟩⟩
    have := h.own.cellAt j (by omega)
    rw [Nat.zero_add, this]
    simp [List.getD, show j < xs.length by omega]
end

section
variable {ops : Array Oper} {o : Oper} {act : Act}
theorem wpList_app_own {rest : List Oper} {Q : Exit → Act → World → Prop} (w : World) (hgd : o.guard = none) (s x : Operand) (ho : o.op = .call { callee := .builtin .append, args := #[s, x], argTypes := #[58, 58] })
    (base : Nat) (v : Value) (n : Nat) (A : List Int) (hs : act.eval s = v) (hown : w.ownsRow base 3 1 v n (icells A)) (xv : Value) (L : List Int) (hx : act.eval x = xv) (hL : Ints w xv L) (h63 : n + L.length ≤ 1000000) (hbase : base ≤ w.heap.size)
    (h : ∀ v' w', w'.ownsRow base 3 1 v' (n + L.length) (icells (A ++ L)) → w.grownBy w' v.ownBlock → wpList Tryz.prog ops Q rest (act.put o.dst v') w') : wpList Tryz.prog ops Q (o :: rest) act w := by
  obtain ⟨v', w', h1, h2, h3⟩ := run_app_own w base v n A hown xv L hL h63 hbase o.type
  exact wpList_append_run hgd s x ho hs hx ⟨v', w', h1, h v' w' h2 h3⟩
theorem step_app_own {K : Act → World → Prop} {Q : Exit → Act → World → Prop} {E : Prop} (w : World) (hgd : o.guard = none) (s x : Operand) (ho : o.op = .call { callee := .builtin .append, args := #[s, x], argTypes := #[58, 58] })
    (base : Nat) (v : Value) (n : Nat) (A : List Int) (hs : act.eval s = v) (hown : w.ownsRow base 3 1 v n (icells A)) (xv : Value) (L : List Int) (hx : act.eval x = xv) (hL : Ints w xv L) (h63 : n + L.length ≤ 1000000) (hbase : base ≤ w.heap.size)
    (h : ∀ v' w', w'.ownsRow base 3 1 v' (n + L.length) (icells (A ++ L)) → w.grownBy w' v.ownBlock → K (act.put o.dst v') w') : if Region.wanted o (yielded ops act.tmps) = true then Oper.wp Tryz.prog o act w K Q else E := by
  obtain ⟨v', w', h1, h2, h3⟩ := run_app_own w base v n A hown xv L hL h63 hbase o.type
  exact step_append_run hgd s x ho hs hx ⟨v', w', h1, h v' w' h2 h3⟩
theorem step_app_cut {K : Act → World → Prop} {Q : Exit → Act → World → Prop} {E : Prop} (w : World) (hgd : o.guard = none) (s x : Operand) (ho : o.op = .call { callee := .builtin .append, args := #[s, x], argTypes := #[58, 58] })
    (a : Option Addr) (k : Nat) (A : List Int) (hs : act.eval s = .slice a k k) (hA : A.length = k ∧ (a = none → k = 0) ∧ (A = [] ∨ ∃ b off, a = some ⟨b, off, none⟩ ∧ ∀ j, j < A.length → w.cell? ⟨b, off + j, none⟩ = some (.int .i64 (A.getD j 0))))
    (z : Int) (ad : Addr) (c : Nat) (hx : act.eval x = .slice (some ad) 1 c) (hz : w.cell? ad = some (.int .i64 z)) (h63 : k ≤ 1000000)
    (h : ∀ v' w', w'.ownsRow w.heap.size 3 1 v' (k + 1) (icells (A ++ [z])) → w.grownBy w' none → K (act.put o.dst v') w') : if Region.wanted o (yielded ops act.tmps) = true then Oper.wp Tryz.prog o act w K Q else E := by
  obtain ⟨v', w', h1, h2, h3⟩ := run_app_cut w a k A hA.1 hA.2.1 hA.2.2 z ad c hz h63 o.type
  exact step_append_run hgd s x ho hs hx ⟨v', w', h1, h v' w' h2 h3⟩
end

/-- What is left of a list behind its first q numbers. -/
theorem ints_drop {W : World} {va : Option Addr} {n cap q : Nat} {A : List Int} (h : Ints W (.slice va n cap) A) (hq : q ≤ n) (hc : n ≤ cap) : Ints W (.slice (if cap = q then va else va.map (·.add q)) (n - q) (cap - q)) (A.drop q) := by
  obtain ⟨a, c, e, h⟩ := h
  simp only [Value.slice.injEq] at e
  obtain ⟨rfl, rfl, rfl⟩ := e
  refine ⟨_, _, by rw [List.length_drop], ?_⟩
  by_cases hd : A.length ≤ q
  · exact .inl (List.drop_eq_nil_of_le hd)
  · rw [if_neg (by omega)]
    rcases h with rfl | ⟨b, off, rfl, hlt, hcell⟩
    · simp at hd
    · refine .inr ⟨b, off + q, by rw [Option.map_some, Go.WideShapes.add_plain], hlt, fun j hj => ?_⟩
      rw [List.length_drop] at hj
      have := hcell (q + j) (by omega)
      rw [← Nat.add_assoc] at this
      rw [this]
      simp [List.getD]
/-- The first q numbers of a list. -/
theorem ints_cut {W : World} {va : Option Addr} {n cap q : Nat} {A : List Int} (h : Ints W (.slice va n cap) A) (hq : q ≤ n) :
    (A.take q).length = q ∧ (va = none → q = 0) ∧ (A.take q = [] ∨ ∃ b off, va = some ⟨b, off, none⟩ ∧ ∀ j, j < (A.take q).length → W.cell? ⟨b, off + j, none⟩ = some (.int .i64 ((A.take q).getD j 0))) := by
  obtain ⟨a, c, e, h⟩ := h
  simp only [Value.slice.injEq] at e
  obtain ⟨rfl, rfl, rfl⟩ := e
  have hl : (A.take q).length = q := by rw [List.length_take]; omega
  refine ⟨hl, ?_, ?_⟩
  · rintro rfl
    rcases h with rfl | ⟨b, off, e, _⟩
    · simpa using hq
    · cases e
  · rcases h with rfl | ⟨b, off, rfl, _, hcell⟩
    · simp
    · refine .inr ⟨b, off, rfl, fun j hj => ?_⟩
      rw [hl] at hj
      rw [hcell j (by omega)]
      simp [List.getD, hj]

end Go.Proofs.YtbhngncnhabbkaaGreat

/- Where the parts of a shard's bytes stand, in plain words. -/
namespace Go.Proofs.YtbhngncnhabbkaaGreat
namespace Sh

def at1 (s : Shard) : Nat := 2 + (Vi.putL s.1.1).length
def at2 (s : Shard) : Nat := at1 s + (Vi.putL s.1.2).length
/-- Where list k begins. -/
def plc (s : Shard) (k : Nat) : Nat := at2 s + 1 + (s.2.length * wd s.2 + 7) / 8 + (lists (s.2.take k)).length

theorem enc_at1 {s : Shard} (h : may s = true) : Vi.getS (enc s) 2 = (s.1.1, (at1 s : Int), true) := by
  have hp := mayP_iff.1 (may_iff.1 h).1
  have := Gp.getS_put [115, 104] (Vi.putL s.1.2 ++ (UInt8.ofNat (wd s.2) :: (Pk.pk (deg s.2) (wd s.2) ++ (lists s.2 ++ Vi.putL (many s.2)))) ++ Cr.four (Cr.sum (raw s))) s.1.1 (by omega) (by omega)
  have e : enc s = [115, 104] ++ (Vi.putL s.1.1 ++ (Vi.putL s.1.2 ++ (UInt8.ofNat (wd s.2) :: (Pk.pk (deg s.2) (wd s.2) ++ (lists s.2 ++ Vi.putL (many s.2)))) ++ Cr.four (Cr.sum (raw s)))) := by
    unfold enc sealB
    conv => lhs; arg 1; unfold raw
    simp
  rw [← e] at this
  unfold at1
  rw [show ((2 : Int)) = (([115, 104] : List UInt8).length : Int) from rfl, this]
  simp
theorem enc_at2 {s : Shard} (h : may s = true) : Vi.getS (enc s) (at1 s) = (s.1.2, (at2 s : Int), true) := by
  have hp := mayP_iff.1 (may_iff.1 h).1
  have := Gp.getS_put (115 :: 104 :: Vi.putL s.1.1) (UInt8.ofNat (wd s.2) :: (Pk.pk (deg s.2) (wd s.2) ++ (lists s.2 ++ Vi.putL (many s.2))) ++ Cr.four (Cr.sum (raw s))) s.1.2 (by omega) (by omega)
  have e : enc s = (115 :: 104 :: Vi.putL s.1.1) ++ (Vi.putL s.1.2 ++ (UInt8.ofNat (wd s.2) :: (Pk.pk (deg s.2) (wd s.2) ++ (lists s.2 ++ Vi.putL (many s.2))) ++ Cr.four (Cr.sum (raw s)))) := by
    unfold enc sealB
    conv => lhs; arg 1; unfold raw
    simp
  rw [← e] at this
  have e2 : (115 :: 104 :: Vi.putL s.1.1 : List UInt8).length = at1 s := by unfold at1; simp; omega
  rw [e2] at this
  rw [this]
  unfold at2
  simp
theorem enc_at3 (s : Shard) : (enc s)[at2 s]? = some (UInt8.ofNat (wd s.2)) := by
  have e : enc s = (115 :: 104 :: (Vi.putL s.1.1 ++ Vi.putL s.1.2)) ++ (UInt8.ofNat (wd s.2) :: (Pk.pk (deg s.2) (wd s.2) ++ (lists s.2 ++ Vi.putL (many s.2))) ++ Cr.four (Cr.sum (raw s))) := by
    unfold enc sealB
    conv => lhs; arg 1; unfold raw
    simp
  have e2 : (115 :: 104 :: (Vi.putL s.1.1 ++ Vi.putL s.1.2) : List UInt8).length = at2 s := by unfold at2 at1; simp; omega
  rw [e, List.getElem?_append_right (by rw [e2]; exact Nat.le_refl _), e2]
  simp
theorem enc_plc {s : Shard} (h : may s = true) {k : Nat} (hk : k < s.2.length) : Gp.dec (enc s) (plc s k) = some (s.2.getD k [], (plc s (k + 1) : Int)) := by
  obtain ⟨g1, g2, g3⟩ := may_good h _ (List.mem_of_getElem? (i := k) (a := s.2.getD k []) (by rw [List.getD_eq_getElem?_getD, List.getElem?_eq_getElem hk]; rfl))
  have hl : lists s.2 = lists (s.2.take k) ++ (Gp.enc (s.2.getD k []) ++ lists (s.2.drop (k + 1))) := by
    conv => lhs; rw [← List.take_append_drop (k + 1) s.2]
    rw [take_snoc_o s.2 k hk]
    unfold lists
    simp
  have := Gp.dec_enc (115 :: 104 :: (Vi.putL s.1.1 ++ (Vi.putL s.1.2 ++ (UInt8.ofNat (wd s.2) :: (Pk.pk (deg s.2) (wd s.2) ++ lists (s.2.take k)))))) (lists (s.2.drop (k + 1)) ++ Vi.putL (many s.2) ++ Cr.four (Cr.sum (raw s))) (s.2.getD k []) g1 g2 g3
  have e : enc s = (115 :: 104 :: (Vi.putL s.1.1 ++ (Vi.putL s.1.2 ++ (UInt8.ofNat (wd s.2) :: (Pk.pk (deg s.2) (wd s.2) ++ lists (s.2.take k)))))) ++ (Gp.enc (s.2.getD k []) ++ (lists (s.2.drop (k + 1)) ++ Vi.putL (many s.2) ++ Cr.four (Cr.sum (raw s)))) := by
    unfold enc sealB
    conv => lhs; arg 1; unfold raw
    rw [hl]
    simp
  rw [← e] at this
  have e2 : (115 :: 104 :: (Vi.putL s.1.1 ++ (Vi.putL s.1.2 ++ (UInt8.ofNat (wd s.2) :: (Pk.pk (deg s.2) (wd s.2) ++ lists (s.2.take k))))) : List UInt8).length = plc s k := by
    unfold plc at2 at1
    simp only [List.length_cons, List.length_append, Pk.pk_length, deg_len, Pk.size]
    omega
  rw [e2] at this
  rw [this]
  unfold plc
  rw [lists_take s.2 k hk, List.length_append]
  congr 2
  omega
theorem enc_at4 (s : Shard) : plc s 0 = at2 s + 1 + (s.2.length * wd s.2 + 7) / 8 := by
  unfold plc lists; simp
theorem wd_u8 {s : Shard} (h : may s = true) : (UInt8.ofNat (wd s.2)).toNat = wd s.2 := by
  have := wd_le (may_iff.1 h).2.2.2
  simp; omega

/-- What has been read, if the bytes are a shard's. -/
def Reads (b : List UInt8) (p : Int × Int) (o : List (List Int)) (i : Int) : Prop := ∀ s, may s = true → enc s = b → s.1 = p ∧ o.length ≤ s.2.length ∧ o = s.2.take o.length ∧ i = (plc s o.length : Int)
theorem reads_first {b : List UInt8} {n1 n2 x1 : Int} {x2 : Nat} {y : UInt8} {n : Nat} (h1 : Vi.getS b 2 = (n1, x1, true)) (h2 : Vi.getS b x1 = (n2, (x2 : Int), true)) (h3 : b[x2]? = some y) (hn : n2 - n1 = (n : Int)) :
    Reads b (n1, n2) [] ((x2 : Int) + 1 + ((n * y.toNat + 7) / 8 : Nat)) := fun s hs he => by
  subst he
  rw [enc_at1 hs] at h1
  simp only [Prod.mk.injEq, and_true] at h1
  obtain ⟨e1, e2⟩ := h1
  rw [← e2, enc_at2 hs] at h2
  simp only [Prod.mk.injEq, and_true] at h2
  obtain ⟨e3, e4⟩ := h2
  have e5 : at2 s = x2 := by omega
  subst e5
  rw [enc_at3] at h3
  have e6 := Option.some.inj h3
  subst e6
  rw [wd_u8 hs]
  have hlen := (may_iff.1 hs).2.1
  have : s.2.length = n := by omega
  refine ⟨Prod.ext e1 e3, Nat.zero_le _, rfl, ?_⟩
  rw [List.length_nil, enc_at4, this]
  omega
theorem reads_step {b : List UInt8} {p : Int × Int} {o : List (List Int)} {i x : Int} {l : List Int} (h : Reads b p o i) (ho : (o.length : Int) < p.2 - p.1) (hd : Gp.dec b i = some (l, x)) : Reads b p (o ++ [l]) x := fun s hs he => by
  obtain ⟨h1, h2, h3, h4⟩ := h s hs he
  subst he
  have hlen := (may_iff.1 hs).2.1
  have hk : o.length < s.2.length := by rw [h1] at hlen; omega
  rw [h4, enc_plc hs hk] at hd
  simp only [Option.some.injEq, Prod.mk.injEq] at hd
  obtain ⟨rfl, rfl⟩ := hd
  refine ⟨h1, by simp; omega, ?_, by simp⟩
  rw [List.length_append, List.length_singleton, take_snoc_o s.2 o.length hk, ← h3]
theorem reads_stop {b : List UInt8} {p : Int × Int} {o : List (List Int)} {i : Int} (h : Reads b p o i) (ho : (o.length : Int) < p.2 - p.1) (hd : Gp.dec b i = none) : ∀ s, may s = true → enc s ≠ b := fun s hs he => by
  obtain ⟨h1, h2, h3, h4⟩ := h s hs he
  subst he
  have hlen := (may_iff.1 hs).2.1
  have hk : o.length < s.2.length := by rw [h1] at hlen; omega
  rw [h4, enc_plc hs hk] at hd
  cases hd
theorem reads_end {b : List UInt8} {p : Int × Int} {o : List (List Int)} {i : Int} (h : Reads b p o i) (ho : (o.length : Int) = p.2 - p.1) : ∀ s, may s = true → enc s = b → s = (p, o) := fun s hs he => by
  obtain ⟨h1, h2, h3, h4⟩ := h s hs he
  have hlen := (may_iff.1 hs).2.1
  have hk : o.length = s.2.length := by rw [h1] at hlen; omega
  rw [hk, List.take_length] at h3
  exact Prod.ext h1 h3.symm
theorem dec_told_no {b : List UInt8} (h : ∀ s, may s = true → enc s ≠ b) : decE b = 10 ∧ decS b = none_ := by
  unfold decE decS
  rw [dec_none h]
  exact ⟨rfl, rfl⟩
theorem dec_told_yes {s : Shard} (h : may s = true) : decE (enc s) = 0 ∧ decS (enc s) = s := by
  unfold decE decS
  rw [dec_enc h]
  exact ⟨rfl, rfl⟩
theorem no_get1 {b : List UInt8} {n x : Int} (h : Vi.getS b 2 = (n, x, false)) : ∀ s, may s = true → enc s ≠ b := fun s hs he => by
  subst he
  rw [enc_at1 hs] at h
  simp at h
theorem no_get2 {b : List UInt8} {n1 x1 n x : Int} (h1 : Vi.getS b 2 = (n1, x1, true)) (h : Vi.getS b x1 = (n, x, false)) : ∀ s, may s = true → enc s ≠ b := fun s hs he => by
  subst he
  rw [enc_at1 hs] at h1
  simp only [Prod.mk.injEq, and_true] at h1
  rw [← h1.2, enc_at2 hs] at h
  simp at h
theorem got_two {b : List UInt8} {n1 x1 n2 x2 : Int} (h1 : Vi.getS b 2 = (n1, x1, true)) (h2 : Vi.getS b x1 = (n2, x2, true)) (s : Shard) (hs : may s = true) (he : enc s = b) : s.1 = (n1, n2) ∧ x2 < (b.length : Int) := by
  subst he
  rw [enc_at1 hs] at h1
  simp only [Prod.mk.injEq, and_true] at h1
  rw [← h1.2, enc_at2 hs] at h2
  simp only [Prod.mk.injEq, and_true] at h2
  have := (List.getElem?_eq_some_iff.1 (enc_at3 s)).1
  exact ⟨Prod.ext h1.1 h2.1, by omega⟩
theorem no_part {b : List UInt8} {n1 x1 n2 x2 : Int} (h1 : Vi.getS b 2 = (n1, x1, true)) (h2 : Vi.getS b x1 = (n2, x2, true)) (hm : mayP (n1, n2) = false) : ∀ s, may s = true → enc s ≠ b := fun s hs he => by
  have := (may_iff.1 hs).1
  rw [(got_two h1 h2 s hs he).1, hm] at this
  cases this
theorem no_room {b : List UInt8} {n1 x1 n2 x2 : Int} (h1 : Vi.getS b 2 = (n1, x1, true)) (h2 : Vi.getS b x1 = (n2, x2, true)) (hm : (b.length : Int) ≤ x2) : ∀ s, may s = true → enc s ≠ b := fun s hs he => by
  have := (got_two h1 h2 s hs he).2
  omega

end Sh

end Go.Proofs.YtbhngncnhabbkaaGreat
