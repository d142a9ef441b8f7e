/- A row of slices of the call's own, each of which holds a list of numbers in a block apart from it; what slicing leaves of a list. -/
import Derived.Test.YtbhngncnhabbkaaHRefM
namespace Go.Proofs.Ytbhngncnhabbkaa
open Go.RowKit Go.Deep

theorem Try.rowInfo : (Try.prog.info? 41).map (fun i => (i.zero, i.size, i.bytes)) = some (some (.slice none 0 0), 1, 24) := by kernel_rfl

/-- A list that lies in a block that has not turned. -/
theorem Ints.grown {W W' : World} {r : Option Nat} {v : Value} {l : List Int} (h : Ints W v l) (hg : W.grownBy W' r) (hne : ∀ q, v.ownBlock = some q → r ≠ some q) : Ints W' v l := by
  obtain ⟨a, cap, rfl, h⟩ := h
  refine ⟨a, cap, rfl, ?_⟩
  rcases h with h | ⟨g, off, rfl, hlt, hc⟩
  · exact .inl h
  · exact .inr ⟨g, off, rfl, Nat.lt_of_lt_of_le hlt hg.size, fun j hj => hg.cell (hc j hj) fun e => hne g rfl e.symm⟩

structure Rws (W : World) (base : Nat) (ov : Value) (xs : List Value) (o : List (List Int)) : Prop where
  own : W.ownsRow base 41 1 ov xs.length xs
  len : xs.length = o.length
  each : ∀ j, j < o.length → Ints W (xs.getD j (.bool false)) (o.getD j []) ∧ ∀ q, (xs.getD j (.bool false)).ownBlock = some q → base ≤ q ∧ q < W.heap.size ∧ ov.ownBlock ≠ some q

section
variable {W W2 : World} {base : Nat} {ov : Value} {xs : List Value} {o : List (List Int)}
theorem Rws.nil (W : World) (base : Nat) : Rws W base (.slice none 0 0) [] [] := ⟨World.ownsRow_nil _ _ _ _, rfl, fun j hj => by simp at hj⟩
theorem Rws.turn (h : Rws W base ov xs o) {P : Nat} (ho : Oth P W W2) (hP : P < base) : Rws W2 base ov xs o :=
  ⟨h.own.kept ho (by
    cases hv : ov.ownBlock with
    | none => exact .inl rfl
    | some q => exact .inr fun e => by have := (h.own.lt q hv).1; simp at e; omega), h.len, fun j hj => by
    obtain ⟨h1, h2⟩ := h.each j hj
    exact ⟨h1.grown ho (fun q hq e => by have := (h2 q hq).1; simp at e; omega), fun q hq => ⟨(h2 q hq).1, Nat.lt_of_lt_of_le (h2 q hq).2.1 ho.size, (h2 q hq).2.2⟩⟩⟩
theorem Rws.later (h : Rws W base ov xs o) (hb : Below W.heap.size W W2) : Rws W2 base ov xs o :=
  ⟨own_later h.own hb, h.len, fun j hj => ⟨(h.each j hj).1.later hb, fun q hq => ⟨((h.each j hj).2 q hq).1, Nat.lt_of_lt_of_le ((h.each j hj).2 q hq).2.1 hb.size, ((h.each j hj).2 q hq).2.2⟩⟩⟩
theorem Rws.push (h : Rws W base ov xs o) {x v' : Value} {q : List Int} (hx : Ints W x q) (hxo : ∀ k, x.ownBlock = some k → base ≤ k ∧ k < W.heap.size ∧ ov.ownBlock ≠ some k)
    (hown : W2.ownsRow base 41 1 v' (xs.length + 1) (xs ++ [x])) (hg : W.grownBy W2 ov.ownBlock) (hat : v'.ownBlock = ov.ownBlock ∨ v'.ownBlock = some W.heap.size) : Rws W2 base v' (xs ++ [x]) (o ++ [q]) := by
  have hne : ∀ k, k < W.heap.size → ov.ownBlock ≠ some k → v'.ownBlock ≠ some k := fun k h1 h2 e => by
    rcases hat with h3 | h3
    · rw [h3] at e; exact h2 e
    · rw [h3] at e; simp at e; omega
  refine ⟨by rw [List.length_append]; exact hown, by simp [h.len], fun j hj => ?_⟩
  by_cases e : j < o.length
  · obtain ⟨h1, h2⟩ := h.each j e
    have e1 : (xs ++ [x]).getD j (.bool false) = xs.getD j (.bool false) := by simp [List.getD, List.getElem?_append, h.len, e]
    have e2 : (o ++ [q]).getD j [] = o.getD j [] := by simp [List.getD, List.getElem?_append, e]
    rw [e1, e2]
    exact ⟨h1.grown hg (fun k hk => (h2 k hk).2.2), fun k hk => ⟨(h2 k hk).1, Nat.lt_of_lt_of_le (h2 k hk).2.1 hg.size, hne k (h2 k hk).2.1 (h2 k hk).2.2⟩⟩
  · obtain rfl : j = o.length := by simp at hj; omega
    have e1 : (xs ++ [x]).getD o.length (.bool false) = x := by simp [List.getD, h.len]
    have e2 : (o ++ [q]).getD o.length [] = q := by simp [List.getD]
    rw [e1, e2]
    exact ⟨hx.grown hg (fun k hk => (hxo k hk).2.2), fun k hk => ⟨(hxo k hk).1, Nat.lt_of_lt_of_le (hxo k hk).2.1 hg.size, hne k (hxo k hk).2.1 (hxo k hk).2.2⟩⟩
theorem Rws.lists (h : Rws W base ov xs o) : Lists W ov o := by
  rcases h.own.2 with ⟨rfl, h0⟩ | ⟨g, cap, cur, rfl, hb, hcell, hle, _⟩
  · have : o = [] := List.length_eq_zero_iff.1 (by rw [← h.len]; exact h0)
    subst this
    exact lists_nil _
  · have hl := h.len
    refine ⟨_, cap, by rw [hl], by omega, .inr ⟨g, 0, rfl, fun j hj => ⟨xs.getD j (.bool false), ?_, (h.each j hj).1⟩⟩⟩
    have := h.own.cellAt j (by omega)
    rw [Nat.zero_add, this]
    simp [List.getD, show j < xs.length by omega]
end

section
variable {ops : Array Oper} {o : Oper} {act : Act}
theorem wpList_app_own {rest : List Oper} {Q : Exit → Act → World → Prop} (w : World) (hgd : o.guard = none) (s x : Operand) (ho : o.op = .call { callee := .builtin .append, args := #[s, x], argTypes := #[41, 41] })
    (base : Nat) (v : Value) (n : Nat) (A : List Int) (hs : act.eval s = v) (hown : w.ownsRow base 3 1 v n (icells A)) (xv : Value) (L : List Int) (hx : act.eval x = xv) (hL : Ints w xv L) (h63 : n + L.length ≤ 1000000) (hbase : base ≤ w.heap.size)
    (h : ∀ v' w', w'.ownsRow base 3 1 v' (n + L.length) (icells (A ++ L)) → w.grownBy w' v.ownBlock → wpList Try.prog ops Q rest (act.put o.dst v') w') : wpList Try.prog ops Q (o :: rest) act w := by
  obtain ⟨v', w', h1, h2, h3⟩ := run_app_own w base v n A hown xv L hL h63 hbase o.type
  exact wpList_append_run hgd s x ho hs hx ⟨v', w', h1, h v' w' h2 h3⟩
theorem step_app_own {K : Act → World → Prop} {Q : Exit → Act → World → Prop} {E : Prop} (w : World) (hgd : o.guard = none) (s x : Operand) (ho : o.op = .call { callee := .builtin .append, args := #[s, x], argTypes := #[41, 41] })
    (base : Nat) (v : Value) (n : Nat) (A : List Int) (hs : act.eval s = v) (hown : w.ownsRow base 3 1 v n (icells A)) (xv : Value) (L : List Int) (hx : act.eval x = xv) (hL : Ints w xv L) (h63 : n + L.length ≤ 1000000) (hbase : base ≤ w.heap.size)
    (h : ∀ v' w', w'.ownsRow base 3 1 v' (n + L.length) (icells (A ++ L)) → w.grownBy w' v.ownBlock → K (act.put o.dst v') w') : if Region.wanted o (yielded ops act.tmps) = true then Oper.wp Try.prog o act w K Q else E := by
  obtain ⟨v', w', h1, h2, h3⟩ := run_app_own w base v n A hown xv L hL h63 hbase o.type
  exact step_append_run hgd s x ho hs hx ⟨v', w', h1, h v' w' h2 h3⟩
theorem step_app_cut {K : Act → World → Prop} {Q : Exit → Act → World → Prop} {E : Prop} (w : World) (hgd : o.guard = none) (s x : Operand) (ho : o.op = .call { callee := .builtin .append, args := #[s, x], argTypes := #[41, 41] })
    (a : Option Addr) (k : Nat) (A : List Int) (hs : act.eval s = .slice a k k) (hA : A.length = k ∧ (a = none → k = 0) ∧ (A = [] ∨ ∃ b off, a = some ⟨b, off, none⟩ ∧ ∀ j, j < A.length → w.cell? ⟨b, off + j, none⟩ = some (.int .i64 (A.getD j 0))))
    (z : Int) (ad : Addr) (c : Nat) (hx : act.eval x = .slice (some ad) 1 c) (hz : w.cell? ad = some (.int .i64 z)) (h63 : k ≤ 1000000)
    (h : ∀ v' w', w'.ownsRow w.heap.size 3 1 v' (k + 1) (icells (A ++ [z])) → w.grownBy w' none → K (act.put o.dst v') w') : if Region.wanted o (yielded ops act.tmps) = true then Oper.wp Try.prog o act w K Q else E := by
  obtain ⟨v', w', h1, h2, h3⟩ := run_app_cut w a k A hA.1 hA.2.1 hA.2.2 z ad c hz h63 o.type
  exact step_append_run hgd s x ho hs hx ⟨v', w', h1, h v' w' h2 h3⟩
end

/-- What is left of a list behind its first q numbers. -/
theorem ints_drop {W : World} {va : Option Addr} {n cap q : Nat} {A : List Int} (h : Ints W (.slice va n cap) A) (hq : q ≤ n) (hc : n ≤ cap) : Ints W (.slice (if cap = q then va else va.map (·.add q)) (n - q) (cap - q)) (A.drop q) := by
  obtain ⟨a, c, e, h⟩ := h
  simp only [Value.slice.injEq] at e
  obtain ⟨rfl, rfl, rfl⟩ := e
  refine ⟨_, _, by rw [List.length_drop], ?_⟩
  by_cases hd : A.length ≤ q
  · exact .inl (List.drop_eq_nil_of_le hd)
  · rw [if_neg (by omega)]
    rcases h with rfl | ⟨b, off, rfl, hlt, hcell⟩
    · simp at hd
    · refine .inr ⟨b, off + q, by rw [Option.map_some, Go.WideShapes.add_plain], hlt, fun j hj => ?_⟩
      rw [List.length_drop] at hj
      have := hcell (q + j) (by omega)
      rw [← Nat.add_assoc] at this
      rw [this]
      simp [List.getD]
/-- The first q numbers of a list. -/
theorem ints_cut {W : World} {va : Option Addr} {n cap q : Nat} {A : List Int} (h : Ints W (.slice va n cap) A) (hq : q ≤ n) :
    (A.take q).length = q ∧ (va = none → q = 0) ∧ (A.take q = [] ∨ ∃ b off, va = some ⟨b, off, none⟩ ∧ ∀ j, j < (A.take q).length → W.cell? ⟨b, off + j, none⟩ = some (.int .i64 ((A.take q).getD j 0))) := by
  obtain ⟨a, c, e, h⟩ := h
  simp only [Value.slice.injEq] at e
  obtain ⟨rfl, rfl, rfl⟩ := e
  have hl : (A.take q).length = q := by rw [List.length_take]; omega
  refine ⟨hl, ?_, ?_⟩
  · rintro rfl
    rcases h with rfl | ⟨b, off, e, _⟩
    · simpa using hq
    · cases e
  · rcases h with rfl | ⟨b, off, rfl, _, hcell⟩
    · simp
    · refine .inr ⟨b, off, rfl, fun j hj => ?_⟩
      rw [hl] at hj
      rw [hcell j (by omega)]
      simp [List.getD, hj]

end Go.Proofs.Ytbhngncnhabbkaa
