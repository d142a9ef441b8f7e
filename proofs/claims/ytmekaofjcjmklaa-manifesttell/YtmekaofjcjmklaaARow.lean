/- Slices of parts; the walk of the statements' helpers Same: what they return, for all slices. -/
import Derived.Test.YtmekaofjcjmklaaAMath
import Derived.BigQuiet
import Derived.Laws.StructEq
namespace Go.Proofs.Ytmekaofjcjmklaa
open Go.RowKit

/-- A part that is none. -/
def p0 : Int × Int := (0, 0)

/-- The slice v holds the parts l. -/
def Prt (W : World) (v : Value) (l : List (Int × Int)) : Prop :=
  ∃ a cap, v = .slice a l.length cap ∧ l.length ≤ cap ∧ (l = [] ∨ ∃ b off, a = some ⟨b, off, none⟩ ∧ ∀ j, j < l.length → W.cell? ⟨b, off + j * 2, none⟩ = some (.int .i64 (l.getD j p0).1) ∧ W.cell? ⟨b, off + j * 2 + 1, none⟩ = some (.int .i64 (l.getD j p0).2))

theorem Prt.later {w w' : World} {v : Value} {l : List (Int × Int)} (h : Prt w v l) (hb : Below w.heap.size w w') : Prt w' v l := by
  obtain ⟨a, cap, rfl, hc, h⟩ := h
  refine ⟨a, cap, rfl, hc, ?_⟩
  rcases h with h | ⟨b, off, rfl, h⟩
  · exact .inl h
  · exact .inr ⟨b, off, rfl, fun j hj => ⟨cell_after hb (h j hj).1, cell_after hb (h j hj).2⟩⟩

theorem prt_nil (W : World) : Prt W (.slice none 0 0) [] := ⟨none, 0, rfl, Nat.le_refl _, .inl rfl⟩

/-- A part's two cells. -/
def encP (x : Int × Int) : List Value := [.int .i64 x.1, .int .i64 x.2]
/-- The cells of parts. -/
def pcells (l : List (Int × Int)) : List Value := l.flatMap encP

theorem pcells_len (l : List (Int × Int)) : (pcells l).length = l.length * 2 := by
  unfold pcells
  induction l with
  | nil => rfl
  | cons x l ih => rw [List.flatMap_cons, List.length_append, ih, List.length_cons]; simp [encP]; omega
theorem pcells_app (l m : List (Int × Int)) : pcells (l ++ m) = pcells l ++ pcells m := by simp [pcells]
theorem pcells_get : ∀ (l : List (Int × Int)) (j : Nat), j < l.length → (pcells l)[j * 2]? = some (.int .i64 (l.getD j p0).1) ∧ (pcells l)[j * 2 + 1]? = some (.int .i64 (l.getD j p0).2)
  | [], j, h => by simp at h
  | x :: l, 0, _ => by constructor <;> rfl
  | x :: l, j + 1, h => by
    have := pcells_get l j (by simpa using h)
    have e : pcells (x :: l) = .int .i64 x.1 :: .int .i64 x.2 :: pcells l := rfl
    rw [e, show (j + 1) * 2 = j * 2 + 1 + 1 by omega, show j * 2 + 1 + 1 + 1 = (j * 2 + 1) + 1 + 1 by omega]
    simpa using this
theorem pcells_one (l : List (Int × Int)) : ∀ u ∈ pcells l, u.oneCell' = true := by
  intro u hu
  obtain ⟨x, _, hx⟩ := List.mem_flatMap.1 hu
  simp [encP] at hx
  rcases hx with rfl | rfl <;> rfl
theorem pcells_take (l : List (Int × Int)) (n : Nat) : (pcells l).take (n * 2) = pcells (l.take n) := by
  induction l generalizing n with
  | nil => simp [pcells]
  | cons x l ih =>
    cases n with
    | zero => simp [pcells]
    | succ n =>
      rw [show (n + 1) * 2 = n * 2 + 1 + 1 by omega]
      have e : pcells (x :: l) = .int .i64 x.1 :: .int .i64 x.2 :: pcells l := rfl
      rw [e, List.take_succ_cons, List.take_succ_cons, ih]
      rfl

theorem Prt.of_own {w : World} {base n : Nat} {v : Value} {l : List (Int × Int)} (h : w.ownsRow base 49 2 v n (pcells l)) : Prt w v l := by
  have hcell := fun g hg => h.cells (g := g) hg
  have hn : l.length = n := by have := h.1; rw [pcells_len] at this; omega
  rcases h.2 with ⟨rfl, h0⟩ | ⟨g, cap, cur, rfl, _, _, hcap, _⟩
  · have : l = [] := List.length_eq_zero_iff.1 (by omega)
    subst this
    exact prt_nil w
  · subst hn
    refine ⟨_, cap, rfl, hcap, .inr ⟨g, 0, rfl, fun j hj => ?_⟩⟩
    obtain ⟨g1, g2⟩ := pcells_get l j hj
    have c1 := hcell g rfl _ _ g1
    have c2 := hcell g rfl _ _ g2
    rw [Addr.add_lit] at c1 c2
    exact ⟨c1, by rw [← Nat.add_assoc] at c2; exact c2⟩

/-- What the cells of the first n parts hold, one behind the other. -/
theorem cells_of {W : World} {b off : Nat} {l : List (Int × Int)} (h : ∀ j, j < l.length → W.cell? ⟨b, off + j * 2, none⟩ = some (.int .i64 (l.getD j p0).1) ∧ W.cell? ⟨b, off + j * 2 + 1, none⟩ = some (.int .i64 (l.getD j p0).2)) :
    ∀ j u, (pcells l)[j]? = some u → W.cell? ⟨b, off + j, none⟩ = some u := by
  intro j u hj
  have hlt : j < l.length * 2 := by rw [← pcells_len]; exact (List.getElem?_eq_some_iff.1 hj).1
  obtain ⟨g1, g2⟩ := pcells_get l (j / 2) (by omega)
  obtain ⟨h1, h2⟩ := h (j / 2) (by omega)
  rcases Nat.mod_two_eq_zero_or_one j with e | e
  · have : j / 2 * 2 = j := by omega
    rw [this] at g1 h1
    rw [h1, ← g1, hj]
  · have : j / 2 * 2 + 1 = j := by omega
    rw [Nat.add_assoc, this] at h2
    rw [this] at g2
    rw [h2, ← g2, hj]

theorem take_succ_e (l : List (Int × Int)) (k : Nat) (h : k < l.length) : l.take (k + 1) = l.take k ++ [l.getD k p0] := by
  rw [List.take_add_one, List.getElem?_eq_getElem h]
  simp [List.getD, h]
theorem same_upto_e {xs ys : List (Int × Int)} {k : Nat} (hk : k = xs.length) (hl : xs.length = ys.length) (h : xs.take k = ys.take k) : xs = ys := by
  subst hk
  rw [List.take_length] at h
  rw [hl, List.take_length] at h
  exact h
theorem same_stop_e {xs ys : List (Int × Int)} {k : Nat} (h : xs.getD k p0 ≠ ys.getD k p0) : xs ≠ ys := by
  rintro rfl
  exact h rfl
theorem getD_mem_e {l : List (Int × Int)} {k : Nat} (h : k < l.length) : l.getD k p0 ∈ l := by
  rw [List.getD_eq_getElem?_getD, List.getElem?_eq_getElem h]; exact List.getElem_mem h

/-- The model's tests on parts. -/
theorem part_equal (x y : Int × Int) (w : World) : (Op.equalIn 10000 49 (.agg #[.int .i64 x.1, .int .i64 x.2]) (.agg #[.int .i64 y.1, .int .i64 y.2])).run Try.prog w = .ok (decide (x = y)) w := by
  have hS : Try.prog.underlying 49 = some (.struct (Try.prog.fieldsOf 49)) := by kernel_rfl
  have hp : Try.prog.stoodInHeld 49 = false := by kernel_rfl
  have u3 := Try.underlying3
  have a3 := Try.isAgg3
  have z3 := Try.sizeOf3
  rw [show (10000 : Nat) = 9999 + 1 from rfl, run_equalIn_agg w 9999 49 _ _ hS hp]
  simp only [Program.fieldsOf, Try.underlying49]
  go_simp
  have e : decide (x = y) = decide (x.1 = y.1 ∧ x.2 = y.2) := decide_eq_decide.2 Prod.ext_iff
  rw [e]
  by_cases h1 : x.1 = y.1 <;> by_cases h2 : x.2 = y.2 <;> simp [h1, h2]
theorem part_eql (x y : Int × Int) (w : World) : Sem.run Try.prog (binOp .eql 49 (.agg #[.int .i64 x.1, .int .i64 x.2]) (.agg #[.int .i64 y.1, .int .i64 y.2])) w = .ok (.bool (decide (x = y))) w := by
  rw [run_eql_struct, part_equal]; rfl
theorem part_neq (x y : Int × Int) (w : World) : Sem.run Try.prog (binOp .neq 49 (.agg #[.int .i64 x.1, .int .i64 x.2]) (.agg #[.int .i64 y.1, .int .i64 y.2])) w = .ok (.bool (!decide (x = y))) w := by
  rw [run_neq_struct, part_equal]; rfl
theorem part_guard (op : BinOp) (a b : Operand) (xs ys : Array Value) (w : World) : Sem.run Try.prog (eqGuard op 49 a b (.agg xs) (.agg ys)) w = .ok () w :=
  run_eqGuard_agg w op 49 a b xs ys (by kernel_rfl)

set_option maxHeartbeats 1000000 in
theorem same_prt (v u : Value) (xs ys : List (Int × Int)) (w : World) (hx : Prt w v xs) (hy : Prt w u ys) (lx : xs.length ≤ 1000000000000) (ly : ys.length ≤ 1000000000000) :
    Calls Try.prog 28 #[v, u] w fun e w' => e = .returned (.bool (decide (xs = ys))) ∧ Below w.heap.size w w' := by
  obtain ⟨a, cap, rfl, _, hx⟩ := hx
  obtain ⟨a', cap', rfl, _, hy⟩ := hy
  by_cases hl : xs.length = ys.length
  · rcases hx with rfl | ⟨b, off, rfl, hc⟩
    · have hy0 : ys = [] := List.length_eq_zero_iff.1 hl.symm
      have HE : Hid (([] : List (Int × Int)) = ys) := hy0.symm
      subst hy0
      go_enter Try.func28, Try.ntmps28
      go_wp2
      refine wp_loop_rounds 1 ?_
      rw [rounds_succ]
      go_wp2
      go_ret
      exact ⟨ret_true HE.out, Below.refl _ _⟩
    · rcases hy with rfl | ⟨b', off', rfl, hc'⟩
      · have hx0 : xs = [] := List.length_eq_zero_iff.1 hl
        have HE : Hid (xs = ([] : List (Int × Int))) := hx0
        subst hx0
        go_enter Try.func28, Try.ntmps28
        go_wp2
        refine wp_loop_rounds 1 ?_
        rw [rounds_succ]
        go_wp2
        go_ret
        exact ⟨ret_true HE.out, Below.refl _ _⟩
      · have HC : Hid _ := hc
        have HC' : Hid _ := hc'
        have HL : Hid _ := hl
        clear hc hc'
        generalize hn : xs.length = n at *
        have HN : Hid _ := hn
        rw [← HL.out]
        clear hl hn
        go_enter Try.func28, Try.ntmps28
        go_wp2
        go_loopw [5] (fun i wr => ∃ k : Nat, k ≤ n ∧ i = .int .i64 k ∧ Hid (xs.take k = ys.take k) ∧ Hid (Below w.heap.size w wr)) (fun i _ => n - (intOf i).toNat)
        case atStart => exact ⟨0, Nat.zero_le _, rfl, rfl, Below.refl _ _⟩
        case round =>
          obtain ⟨k, hk, rfl, HT, hbel⟩ := hrel
          by_cases hk2 : k < n
          · have hp := HC.out k hk2
            have hq := HC'.out k (by rw [← HL.out]; exact hk2)
            have hc1 := cell_after hbel.out hp.1
            have hc2 := cell_after hbel.out hp.2
            have hc3 := cell_after hbel.out hq.1
            have hc4 := cell_after hbel.out hq.2
            clear hp hq
            have HX : Hid _ := take_succ_e xs k (by rw [HN.out]; exact hk2)
            have HY : Hid _ := take_succ_e ys k (by rw [← HL.out]; exact hk2)
            have HS : Hid (xs.getD k p0 ≠ ys.getD k p0 → xs ≠ ys) := same_stop_e
            generalize xs.getD k p0 = p at *
            generalize ys.getD k p0 = q at *
            have hgd := part_guard
            by_cases hpq : p = q
            · have hne : ∀ w, Sem.run Try.prog (binOp .neq 49 (.agg #[.int .i64 p.1, .int .i64 p.2]) (.agg #[.int .i64 q.1, .int .i64 q.2])) w = .ok (.bool false) w := fun w => by rw [part_neq, decide_eq_true hpq]; rfl
              have HPQ : Hid (p = q) := hpq
              clear hpq
              go_wp2
              go_region
              all_goals go_wp2
              go_roundw
              case rel => exact ⟨k + 1, by omega, by go_num, by rw [Hid, HX.out, HY.out, HT.out, HPQ.out], hbel.out.drew⟩
              case measure => simp [intOf]; omega
            · have hne : ∀ w, Sem.run Try.prog (binOp .neq 49 (.agg #[.int .i64 p.1, .int .i64 p.2]) (.agg #[.int .i64 q.1, .int .i64 q.2])) w = .ok (.bool true) w := fun w => by rw [part_neq, decide_eq_false hpq]; rfl
              have HPQ : Hid (xs ≠ ys) := HS.out hpq
              clear hpq HS
              go_wp2
              go_region
              all_goals go_wp2
              go_ret
              exact ⟨ret_false HPQ.out, hbel.out.drew⟩
          · obtain rfl : k = n := by omega
            go_wp2
            go_ret
            exact ⟨ret_true (same_upto_e HN.out.symm (HN.out.trans HL.out) HT.out), hbel.out⟩
  · have hne : ¬ xs = ys := fun e => hl (by rw [e])
    have hb : ((xs.length : Int) == (ys.length : Int)) = false := by simp; omega
    clear hx hy
    generalize xs.length = n at *
    generalize ys.length = m at *
    go_enter Try.func28, Try.ntmps28
    go_wp2
    go_ret
    exact ⟨ret_false hne, Below.refl _ _⟩

theorem grown_trans {a b c : World} {r : Option Nat} (h : a.grownBy b r) (k : b.grownBy c r) : a.grownBy c r :=
  ⟨k.os.trans h.os, k.tape.trans h.tape, k.output.trans h.output, Nat.le_trans h.size k.size, fun i hi hne => (k.block i (Nat.lt_of_lt_of_le hi h.size) hne).trans (h.block i hi hne)⟩

theorem pcells_set : ∀ (l : List (Int × Int)) (k : Nat) (u : Int × Int), ((pcells l).set (k * 2) (.int .i64 u.1)).set (k * 2 + 1) (.int .i64 u.2) = pcells (l.set k u)
  | [], k, u => by simp [pcells]
  | x :: l, 0, u => by simp [pcells, encP]
  | x :: l, k + 1, u => by
    have e : pcells (x :: l) = .int .i64 x.1 :: .int .i64 x.2 :: pcells l := rfl
    rw [e, show (k + 1) * 2 = k * 2 + 1 + 1 by omega, List.set_cons_succ, List.set_cons_succ, List.set_cons_succ, List.set_cons_succ, pcells_set l k u, List.set_cons_succ]
    rfl

theorem own_at {W : World} {base g n cap : Nat} {l : List (Int × Int)} (h : W.ownsRow base 49 2 (.slice (some ⟨g, 0, none⟩) n cap) n (pcells l)) (hl : l.length = n) {j : Nat} (hj : j < n) :
    W.cell? ⟨g, j * 2, none⟩ = some (.int .i64 (l.getD j p0).1) ∧ W.cell? ⟨g, j * 2 + 1, none⟩ = some (.int .i64 (l.getD j p0).2) ∧ W.frozen? ⟨g, j * 2, none⟩ = false ∧ W.frozen? ⟨g, j * 2 + 1, none⟩ = false := by
  obtain ⟨g1, g2⟩ := pcells_get l j (by omega)
  rw [h.cellAt (j * 2) (by omega), h.cellAt (j * 2 + 1) (by omega)]
  exact ⟨g1, g2, h.frozenAt _, h.frozenAt _⟩

/-- A store of a part into a row of the call's own. -/
theorem own_put {W : World} {base g n cap : Nat} {l : List (Int × Int)} (h : W.ownsRow base 49 2 (.slice (some ⟨g, 0, none⟩) n cap) n (pcells l)) (j : Nat) (u : Int × Int) :
    ((W.setCell ⟨g, j * 2, none⟩ (.int .i64 u.1)).setCell ⟨g, j * 2 + 1, none⟩ (.int .i64 u.2)).ownsRow base 49 2 (.slice (some ⟨g, 0, none⟩) n cap) n (pcells (l.set j u)) ∧
    W.grownBy ((W.setCell ⟨g, j * 2, none⟩ (.int .i64 u.1)).setCell ⟨g, j * 2 + 1, none⟩ (.int .i64 u.2)) (some g) := by
  obtain ⟨h1, h2⟩ := h.stored (j * 2) (.int .i64 u.1)
  obtain ⟨h3, h4⟩ := h1.stored (j * 2 + 1) (.int .i64 u.2)
  rw [pcells_set] at h3
  exact ⟨h3, grown_trans h2 h4⟩

theorem grown_below {w w' : World} {B : Nat} {a : World} {v : Value} {base e size n : Nat} {xs : List Value} (hb : Below B a w) (hB : B ≤ w.heap.size) (h : w.ownsRow base e size v n xs) (hbase : B ≤ base) (hg : w.grownBy w' v.ownBlock) : Below B a w' :=
  hb.grown hg hB fun k hk => Nat.le_trans hbase (h.lt k hk).1

/-- Prtes that are written out. -/
theorem prt_new (W : World) (l : List (Int × Int)) (arr : Array Value) (n : Nat) (h : arr.toList = pcells l) (hn : arr.size = n * 2) (hm : n ≤ maxLen) : Prt (W.alloc (.cells arr 49)) (.slice (some ⟨W.heap.size, 0, none⟩) n n) l := by
  have hown := World.ownsRow_lit (e := 49) (size := 2) (base := W.heap.size) W arr n (Nat.le_refl _) hm hn
  rw [h] at hown
  exact Prt.of_own hown

theorem Prt.hid {w w' : World} {v : Value} {l : List (Int × Int)} (h : Hid (Prt w v l)) (hb : Below w.heap.size w w') : Hid (Prt w' v l) := h.out.later hb
theorem above {w W : World} (o : Obj) (h : Hid (Below w.heap.size w W)) : Hid (Below w.heap.size w (W.alloc o)) := h.out.alloc h.out.size _
theorem alloc_below (W : World) (o : Obj) : Below W.heap.size W (W.alloc o) := (Below.refl _ W).alloc (Nat.le_refl _) _

theorem Try.partInfo : (Try.prog.info? 49).map (fun i => (i.zero, i.size, i.bytes)) = some (some (.agg #[.int .i64 0, .int .i64 0]), 2, 16) := by kernel_rfl

theorem made_parts (n : Nat) : (madeCells #[.int .i64 0, .int .i64 0] (n * 2)).toList = pcells (List.replicate n (0, 0)) := by
  have hz : ∀ i, (#[Value.int .i64 0, Value.int .i64 0] : Array Value)[i % 2]! = .int .i64 0 := fun i => by
    rcases Nat.mod_two_eq_zero_or_one i with m | m <;> rw [m] <;> rfl
  have hl : (madeCells #[.int .i64 0, .int .i64 0] (n * 2)).toList = (List.range (n * 2)).map fun _ => Value.int .i64 0 := by
    unfold madeCells
    rw [Array.toList_map, Array.toList_range]
    exact List.map_congr_left fun i _ => hz i
  rw [hl]
  apply List.ext_getElem?
  intro j
  by_cases hj : j < n * 2
  · obtain ⟨g1, g2⟩ := pcells_get (List.replicate n (0, 0)) (j / 2) (by simp; omega)
    have e : (List.replicate n ((0, 0) : Int × Int)).getD (j / 2) p0 = (0, 0) := by
      rw [List.getD_eq_getElem?_getD, List.getElem?_replicate, if_pos (by omega)]; rfl
    rw [e] at g1 g2
    rw [List.getElem?_map, List.getElem?_range hj]
    rcases Nat.mod_two_eq_zero_or_one j with m | m
    · rw [show j / 2 * 2 = j by omega] at g1
      rw [g1]; rfl
    · rw [show j / 2 * 2 + 1 = j by omega] at g2
      rw [g2]; rfl
  · rw [List.getElem?_eq_none (by simp; omega), List.getElem?_eq_none (by rw [pcells_len]; simp; omega)]

theorem cell_two_new (w : World) (x y : Value) (t : TypeId) : ∀ j u, [x, y][j]? = some u → (w.alloc (.cells #[x, y] t)).cell? ((⟨w.heap.size, 0, none⟩ : Addr).add j) = some u := by
  intro j u hj
  rw [Addr.add_lit]
  match j, hj with
  | 0, hj => simp at hj; subst hj; simp
  | 1, hj => simp at hj; subst hj; simp

/-- A part more behind a row of the call's own. -/
theorem pcells_snoc (l : List (Int × Int)) (x : Int × Int) : pcells l ++ [.int .i64 x.1, .int .i64 x.2] = pcells (l ++ [x]) := by
  rw [pcells_app]; rfl

end Go.Proofs.Ytmekaofjcjmklaa
