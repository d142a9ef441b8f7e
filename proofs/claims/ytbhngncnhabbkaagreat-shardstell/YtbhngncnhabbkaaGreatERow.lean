/- Slices of edges and of ints; the walks of the statements' helpers Same: what they return, for all slices. -/
import Derived.Test.YtbhngncnhabbkaaGreatEMath
import Derived.BigQuiet
import Derived.Laws.StructEq
namespace Go.Proofs.YtbhngncnhabbkaaGreat
open Go.RowKit

/-- An edge that is none. -/
def e0 : Int × Int := (0, 0)

/-- The slice v holds the edges l. -/
def Edg (W : World) (v : Value) (l : List (Int × Int)) : Prop :=
  ∃ a cap, v = .slice a l.length cap ∧ l.length ≤ cap ∧ (l = [] ∨ ∃ b off, a = some ⟨b, off, none⟩ ∧ ∀ j, j < l.length → W.cell? ⟨b, off + j * 2, none⟩ = some (.int .i64 (l.getD j e0).1) ∧ W.cell? ⟨b, off + j * 2 + 1, none⟩ = some (.int .i64 (l.getD j e0).2))

theorem Edg.later {w w' : World} {v : Value} {l : List (Int × Int)} (h : Edg w v l) (hb : Below w.heap.size w w') : Edg w' v l := by
  obtain ⟨a, cap, rfl, hc, h⟩ := h
  refine ⟨a, cap, rfl, hc, ?_⟩
  rcases h with h | ⟨b, off, rfl, h⟩
  · exact .inl h
  · exact .inr ⟨b, off, rfl, fun j hj => ⟨cell_after hb (h j hj).1, cell_after hb (h j hj).2⟩⟩

theorem edg_nil (W : World) : Edg W (.slice none 0 0) [] := ⟨none, 0, rfl, Nat.le_refl _, .inl rfl⟩
theorem ints_nil (W : World) : Ints W (.slice none 0 0) [] := ⟨none, 0, rfl, .inl rfl⟩

/-- An edge's two cells. -/
def encE (x : Int × Int) : List Value := [.int .i64 x.1, .int .i64 x.2]
/-- The cells of edges. -/
def ecells (l : List (Int × Int)) : List Value := l.flatMap encE

theorem ecells_len (l : List (Int × Int)) : (ecells l).length = l.length * 2 := by
  unfold ecells
  induction l with
  | nil => rfl
  | cons x l ih => rw [List.flatMap_cons, List.length_append, ih, List.length_cons]; simp [encE]; omega
theorem ecells_app (l m : List (Int × Int)) : ecells (l ++ m) = ecells l ++ ecells m := by simp [ecells]
theorem ecells_get : ∀ (l : List (Int × Int)) (j : Nat), j < l.length → (ecells l)[j * 2]? = some (.int .i64 (l.getD j e0).1) ∧ (ecells l)[j * 2 + 1]? = some (.int .i64 (l.getD j e0).2)
  | [], j, h => by simp at h
  | x :: l, 0, _ => by constructor <;> rfl
  | x :: l, j + 1, h => by
    have := ecells_get l j (by simpa using h)
    have e : ecells (x :: l) = .int .i64 x.1 :: .int .i64 x.2 :: ecells l := rfl
    rw [e, show (j + 1) * 2 = j * 2 + 1 + 1 by omega, show j * 2 + 1 + 1 + 1 = (j * 2 + 1) + 1 + 1 by omega]
    simpa using this
theorem ecells_one (l : List (Int × Int)) : ∀ u ∈ ecells l, u.oneCell' = true := by
  intro u hu
  obtain ⟨x, _, hx⟩ := List.mem_flatMap.1 hu
  simp [encE] at hx
  rcases hx with rfl | rfl <;> rfl
theorem ecells_take (l : List (Int × Int)) (n : Nat) : (ecells l).take (n * 2) = ecells (l.take n) := by
  induction l generalizing n with
  | nil => simp [ecells]
  | cons x l ih =>
    cases n with
    | zero => simp [ecells]
    | succ n =>
      rw [show (n + 1) * 2 = n * 2 + 1 + 1 by omega]
      have e : ecells (x :: l) = .int .i64 x.1 :: .int .i64 x.2 :: ecells l := rfl
      rw [e, List.take_succ_cons, List.take_succ_cons, ih]
      rfl

theorem Edg.of_own {w : World} {base n : Nat} {v : Value} {l : List (Int × Int)} (h : w.ownsRow base 56 2 v n (ecells l)) : Edg w v l := by
  have hcell := fun g hg => h.cells (g := g) hg
  have hn : l.length = n := by have := h.1; rw [ecells_len] at this; omega
  rcases h.2 with ⟨rfl, h0⟩ | ⟨g, cap, cur, rfl, _, _, hcap, _⟩
  · have : l = [] := List.length_eq_zero_iff.1 (by omega)
    subst this
    exact edg_nil w
  · subst hn
    refine ⟨_, cap, rfl, hcap, .inr ⟨g, 0, rfl, fun j hj => ?_⟩⟩
    obtain ⟨g1, g2⟩ := ecells_get l j hj
    have c1 := hcell g rfl _ _ g1
    have c2 := hcell g rfl _ _ g2
    rw [Addr.add_lit] at c1 c2
    exact ⟨c1, by rw [← Nat.add_assoc] at c2; exact c2⟩

/-- What the cells of the first n edges hold, one behind the other. -/
theorem cells_of {W : World} {b off : Nat} {l : List (Int × Int)} (h : ∀ j, j < l.length → W.cell? ⟨b, off + j * 2, none⟩ = some (.int .i64 (l.getD j e0).1) ∧ W.cell? ⟨b, off + j * 2 + 1, none⟩ = some (.int .i64 (l.getD j e0).2)) :
    ∀ j u, (ecells l)[j]? = some u → W.cell? ⟨b, off + j, none⟩ = some u := by
  intro j u hj
  have hlt : j < l.length * 2 := by rw [← ecells_len]; exact (List.getElem?_eq_some_iff.1 hj).1
  obtain ⟨g1, g2⟩ := ecells_get l (j / 2) (by omega)
  obtain ⟨h1, h2⟩ := h (j / 2) (by omega)
  rcases Nat.mod_two_eq_zero_or_one j with e | e
  · have : j / 2 * 2 = j := by omega
    rw [this] at g1 h1
    rw [h1, ← g1, hj]
  · have : j / 2 * 2 + 1 = j := by omega
    rw [Nat.add_assoc, this] at h2
    rw [this] at g2
    rw [h2, ← g2, hj]

theorem take_succ_e (l : List (Int × Int)) (k : Nat) (h : k < l.length) : l.take (k + 1) = l.take k ++ [l.getD k e0] := by
  rw [List.take_add_one, List.getElem?_eq_getElem h]
  simp [List.getD, h]
theorem same_upto_e {xs ys : List (Int × Int)} {k : Nat} (hk : k = xs.length) (hl : xs.length = ys.length) (h : xs.take k = ys.take k) : xs = ys := by
  subst hk
  rw [List.take_length] at h
  rw [hl, List.take_length] at h
  exact h
theorem same_stop_e {xs ys : List (Int × Int)} {k : Nat} (h : xs.getD k e0 ≠ ys.getD k e0) : xs ≠ ys := by
  rintro rfl
  exact h rfl
theorem getD_mem_e {l : List (Int × Int)} {k : Nat} (h : k < l.length) : l.getD k e0 ∈ l := by
  rw [List.getD_eq_getElem?_getD, List.getElem?_eq_getElem h]; exact List.getElem_mem h

/-- The model's tests on edges. -/
theorem edge_equal (x y : Int × Int) (w : World) : (Op.equalIn 10000 56 (.agg #[.int .i64 x.1, .int .i64 x.2]) (.agg #[.int .i64 y.1, .int .i64 y.2])).run Tryz.prog w = .ok (decide (x = y)) w := by
  have hS : Tryz.prog.underlying 56 = some (.struct (Tryz.prog.fieldsOf 56)) := by kernel_rfl
  have hp : Tryz.prog.stoodInHeld 56 = false := by kernel_rfl
  have u3 := Tryz.underlying3
  have a3 := Tryz.isAgg3
  have z3 := Tryz.sizeOf3
  rw [show (10000 : Nat) = 9999 + 1 from rfl, run_equalIn_agg w 9999 56 _ _ hS hp]
  simp only [Program.fieldsOf, Tryz.underlying56]
  go_simp
  have e : decide (x = y) = decide (x.1 = y.1 ∧ x.2 = y.2) := decide_eq_decide.2 Prod.ext_iff
  rw [e]
  by_cases h1 : x.1 = y.1 <;> by_cases h2 : x.2 = y.2 <;> simp [h1, h2]
theorem edge_eql (x y : Int × Int) (w : World) : Sem.run Tryz.prog (binOp .eql 56 (.agg #[.int .i64 x.1, .int .i64 x.2]) (.agg #[.int .i64 y.1, .int .i64 y.2])) w = .ok (.bool (decide (x = y))) w := by
  rw [run_eql_struct, edge_equal]; rfl
theorem edge_neq (x y : Int × Int) (w : World) : Sem.run Tryz.prog (binOp .neq 56 (.agg #[.int .i64 x.1, .int .i64 x.2]) (.agg #[.int .i64 y.1, .int .i64 y.2])) w = .ok (.bool (!decide (x = y))) w := by
  rw [run_neq_struct, edge_equal]; rfl
theorem edge_guard (op : BinOp) (a b : Operand) (xs ys : Array Value) (w : World) : Sem.run Tryz.prog (eqGuard op 56 a b (.agg xs) (.agg ys)) w = .ok () w :=
  run_eqGuard_agg w op 56 a b xs ys (by kernel_rfl)

set_option maxHeartbeats 1000000 in
theorem same_edg (v u : Value) (xs ys : List (Int × Int)) (w : World) (hx : Edg w v xs) (hy : Edg w u ys) (lx : xs.length ≤ 1000000000000) (ly : ys.length ≤ 1000000000000) :
    Calls Tryz.prog 15 #[v, u] w fun e w' => e = .returned (.bool (decide (xs = ys))) ∧ Below w.heap.size w w' := by
  obtain ⟨a, cap, rfl, _, hx⟩ := hx
  obtain ⟨a', cap', rfl, _, hy⟩ := hy
  by_cases hl : xs.length = ys.length
  · rcases hx with rfl | ⟨b, off, rfl, hc⟩
    · have hy0 : ys = [] := List.length_eq_zero_iff.1 hl.symm
      have HE : Hid (([] : List (Int × Int)) = ys) := hy0.symm
      subst hy0
      go_enter Tryz.func15, Tryz.ntmps15
      go_wp2
      refine wp_loop_rounds 1 ?_
      rw [rounds_succ]
      go_wp2
      go_ret
      exact ⟨ret_true HE.out, Below.refl _ _⟩
    · rcases hy with rfl | ⟨b', off', rfl, hc'⟩
      · have hx0 : xs = [] := List.length_eq_zero_iff.1 hl
        have HE : Hid (xs = ([] : List (Int × Int))) := hx0
        subst hx0
        go_enter Tryz.func15, Tryz.ntmps15
        go_wp2
        refine wp_loop_rounds 1 ?_
        rw [rounds_succ]
        go_wp2
        go_ret
        exact ⟨ret_true HE.out, Below.refl _ _⟩
      · have HC : Hid _ := hc
        have HC' : Hid _ := hc'
        have HL : Hid _ := hl
        clear hc hc'
        generalize hn : xs.length = n at *
        have HN : Hid _ := hn
        rw [← HL.out]
        clear hl hn
        go_enter Tryz.func15, Tryz.ntmps15
        go_wp2
        go_loopw [5] (fun i wr => ∃ k : Nat, k ≤ n ∧ i = .int .i64 k ∧ Hid (xs.take k = ys.take k) ∧ Hid (Below w.heap.size w wr)) (fun i _ => n - (intOf i).toNat)
        case atStart => exact ⟨0, Nat.zero_le _, rfl, rfl, Below.refl _ _⟩
        case round =>
          obtain ⟨k, hk, rfl, HT, hbel⟩ := hrel
          by_cases hk2 : k < n
          · have hp := HC.out k hk2
            have hq := HC'.out k (by rw [← HL.out]; exact hk2)
            have hc1 := cell_after hbel.out hp.1
            have hc2 := cell_after hbel.out hp.2
            have hc3 := cell_after hbel.out hq.1
            have hc4 := cell_after hbel.out hq.2
            clear hp hq
            have HX : Hid _ := take_succ_e xs k (by rw [HN.out]; exact hk2)
            have HY : Hid _ := take_succ_e ys k (by rw [← HL.out]; exact hk2)
            have HS : Hid (xs.getD k e0 ≠ ys.getD k e0 → xs ≠ ys) := same_stop_e
            generalize xs.getD k e0 = p at *
            generalize ys.getD k e0 = q at *
            have hgd := edge_guard
            by_cases hpq : p = q
            · have hne : ∀ w, Sem.run Tryz.prog (binOp .neq 56 (.agg #[.int .i64 p.1, .int .i64 p.2]) (.agg #[.int .i64 q.1, .int .i64 q.2])) w = .ok (.bool false) w := fun w => by rw [edge_neq, decide_eq_true hpq]; rfl
              have HPQ : Hid (p = q) := hpq
              clear hpq
              go_wp2
              go_region
              all_goals go_wp2
              go_roundw
              case rel => exact ⟨k + 1, by omega, by go_num, by rw [Hid, HX.out, HY.out, HT.out, HPQ.out], hbel.out.drew⟩
              case measure => simp [intOf]; omega
            · have hne : ∀ w, Sem.run Tryz.prog (binOp .neq 56 (.agg #[.int .i64 p.1, .int .i64 p.2]) (.agg #[.int .i64 q.1, .int .i64 q.2])) w = .ok (.bool true) w := fun w => by rw [edge_neq, decide_eq_false hpq]; rfl
              have HPQ : Hid (xs ≠ ys) := HS.out hpq
              clear hpq HS
              go_wp2
              go_region
              all_goals go_wp2
              go_ret
              exact ⟨ret_false HPQ.out, hbel.out.drew⟩
          · obtain rfl : k = n := by omega
            go_wp2
            go_ret
            exact ⟨ret_true (same_upto_e HN.out.symm (HN.out.trans HL.out) HT.out), hbel.out⟩
  · have hne : ¬ xs = ys := fun e => hl (by rw [e])
    have hb : ((xs.length : Int) == (ys.length : Int)) = false := by simp; omega
    clear hx hy
    generalize xs.length = n at *
    generalize ys.length = m at *
    go_enter Tryz.func15, Tryz.ntmps15
    go_wp2
    go_ret
    exact ⟨ret_false hne, Below.refl _ _⟩

end Go.Proofs.YtbhngncnhabbkaaGreat
