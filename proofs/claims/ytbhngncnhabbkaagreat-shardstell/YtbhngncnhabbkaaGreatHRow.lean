/- Slices of parts; the walk of the statements' helpers Same: what they return, for all slices. -/
import Derived.Test.YtbhngncnhabbkaaGreatAMath
import Derived.BigQuiet
import Derived.Laws.StructEq
namespace Go.Proofs.YtbhngncnhabbkaaGreat
open Go.RowKit

/-- A part that is none. -/
def p0 : Int × Int := (0, 0)

/-- The slice v holds the parts l. -/
def Prt (W : World) (v : Value) (l : List (Int × Int)) : Prop :=
  ∃ a cap, v = .slice a l.length cap ∧ l.length ≤ cap ∧ (l = [] ∨ ∃ b off, a = some ⟨b, off, none⟩ ∧ ∀ j, j < l.length → W.cell? ⟨b, off + j * 2, none⟩ = some (.int .i64 (l.getD j p0).1) ∧ W.cell? ⟨b, off + j * 2 + 1, none⟩ = some (.int .i64 (l.getD j p0).2))

theorem Prt.later {w w' : World} {v : Value} {l : List (Int × Int)} (h : Prt w v l) (hb : Below w.heap.size w w') : Prt w' v l := by
  obtain ⟨a, cap, rfl, hc, h⟩ := h
  refine ⟨a, cap, rfl, hc, ?_⟩
  rcases h with h | ⟨b, off, rfl, h⟩
  · exact .inl h
  · exact .inr ⟨b, off, rfl, fun j hj => ⟨cell_after hb (h j hj).1, cell_after hb (h j hj).2⟩⟩

theorem prt_nil (W : World) : Prt W (.slice none 0 0) [] := ⟨none, 0, rfl, Nat.le_refl _, .inl rfl⟩

/-- A part's two cells. -/
def encP (x : Int × Int) : List Value := [.int .i64 x.1, .int .i64 x.2]
/-- The cells of parts. -/
def pcells (l : List (Int × Int)) : List Value := l.flatMap encP

theorem pcells_len (l : List (Int × Int)) : (pcells l).length = l.length * 2 := by
  unfold pcells
  induction l with
  | nil => rfl
  | cons x l ih => rw [List.flatMap_cons, List.length_append, ih, List.length_cons]; simp [encP]; omega
theorem pcells_app (l m : List (Int × Int)) : pcells (l ++ m) = pcells l ++ pcells m := by simp [pcells]
theorem pcells_get : ∀ (l : List (Int × Int)) (j : Nat), j < l.length → (pcells l)[j * 2]? = some (.int .i64 (l.getD j p0).1) ∧ (pcells l)[j * 2 + 1]? = some (.int .i64 (l.getD j p0).2)
  | [], j, h => by simp at h
  | x :: l, 0, _ => by constructor <;> rfl
  | x :: l, j + 1, h => by
    have := pcells_get l j (by simpa using h)
    have e : pcells (x :: l) = .int .i64 x.1 :: .int .i64 x.2 :: pcells l := rfl
    rw [e, show (j + 1) * 2 = j * 2 + 1 + 1 by omega, show j * 2 + 1 + 1 + 1 = (j * 2 + 1) + 1 + 1 by omega]
    simpa using this
theorem pcells_one (l : List (Int × Int)) : ∀ u ∈ pcells l, u.oneCell' = true := by
  intro u hu
  obtain ⟨x, _, hx⟩ := List.mem_flatMap.1 hu
  simp [encP] at hx
  rcases hx with rfl | rfl <;> rfl
theorem pcells_take (l : List (Int × Int)) (n : Nat) : (pcells l).take (n * 2) = pcells (l.take n) := by
  induction l generalizing n with
  | nil => simp [pcells]
  | cons x l ih =>
    cases n with
    | zero => simp [pcells]
    | succ n =>
      rw [show (n + 1) * 2 = n * 2 + 1 + 1 by omega]
      have e : pcells (x :: l) = .int .i64 x.1 :: .int .i64 x.2 :: pcells l := rfl
      rw [e, List.take_succ_cons, List.take_succ_cons, ih]
      rfl

theorem Prt.of_own {w : World} {base n : Nat} {v : Value} {l : List (Int × Int)} (h : w.ownsRow base 23 2 v n (pcells l)) : Prt w v l := by
  have hcell := fun g hg => h.cells (g := g) hg
  have hn : l.length = n := by have := h.1; rw [pcells_len] at this; omega
  rcases h.2 with ⟨rfl, h0⟩ | ⟨g, cap, cur, rfl, _, _, hcap, _⟩
  · have : l = [] := List.length_eq_zero_iff.1 (by omega)
    subst this
    exact prt_nil w
  · subst hn
    refine ⟨_, cap, rfl, hcap, .inr ⟨g, 0, rfl, fun j hj => ?_⟩⟩
    obtain ⟨g1, g2⟩ := pcells_get l j hj
    have c1 := hcell g rfl _ _ g1
    have c2 := hcell g rfl _ _ g2
    rw [Addr.add_lit] at c1 c2
    exact ⟨c1, by rw [← Nat.add_assoc] at c2; exact c2⟩

/-- What the cells of the first n parts hold, one behind the other. -/
theorem cells_ofXA {W : World} {b off : Nat} {l : List (Int × Int)} (h : ∀ j, j < l.length → W.cell? ⟨b, off + j * 2, none⟩ = some (.int .i64 (l.getD j p0).1) ∧ W.cell? ⟨b, off + j * 2 + 1, none⟩ = some (.int .i64 (l.getD j p0).2)) :
    ∀ j u, (pcells l)[j]? = some u → W.cell? ⟨b, off + j, none⟩ = some u := by
  intro j u hj
  have hlt : j < l.length * 2 := by rw [← pcells_len]; exact (List.getElem?_eq_some_iff.1 hj).1
  obtain ⟨g1, g2⟩ := pcells_get l (j / 2) (by omega)
  obtain ⟨h1, h2⟩ := h (j / 2) (by omega)
  rcases Nat.mod_two_eq_zero_or_one j with e | e
  · have : j / 2 * 2 = j := by omega
    rw [this] at g1 h1
    rw [h1, ← g1, hj]
  · have : j / 2 * 2 + 1 = j := by omega
    rw [Nat.add_assoc, this] at h2
    rw [this] at g2
    rw [h2, ← g2, hj]

theorem take_succ_eXA (l : List (Int × Int)) (k : Nat) (h : k < l.length) : l.take (k + 1) = l.take k ++ [l.getD k p0] := by
  rw [List.take_add_one, List.getElem?_eq_getElem h]
  simp [List.getD, h]
theorem same_stop_eXA {xs ys : List (Int × Int)} {k : Nat} (h : xs.getD k p0 ≠ ys.getD k p0) : xs ≠ ys := by
  rintro rfl
  exact h rfl
theorem getD_mem_eXA {l : List (Int × Int)} {k : Nat} (h : k < l.length) : l.getD k p0 ∈ l := by
  rw [List.getD_eq_getElem?_getD, List.getElem?_eq_getElem h]; exact List.getElem_mem h

/-- The model's tests on parts. -/
theorem part_equal (x y : Int × Int) (w : World) : (Op.equalIn 10000 23 (.agg #[.int .i64 x.1, .int .i64 x.2]) (.agg #[.int .i64 y.1, .int .i64 y.2])).run Tryz.prog w = .ok (decide (x = y)) w := by
  have hS : Tryz.prog.underlying 23 = some (.struct (Tryz.prog.fieldsOf 23)) := by kernel_rfl
  have hp : Tryz.prog.stoodInHeld 23 = false := by kernel_rfl
  have u3 := Tryz.underlying3
  have a3 := Tryz.isAgg3
  have z3 := Tryz.sizeOf3
  rw [show (10000 : Nat) = 9999 + 1 from rfl, run_equalIn_agg w 9999 23 _ _ hS hp]
  simp only [Program.fieldsOf, Tryz.underlying23]
  go_simp
  have e : decide (x = y) = decide (x.1 = y.1 ∧ x.2 = y.2) := decide_eq_decide.2 Prod.ext_iff
  rw [e]
  by_cases h1 : x.1 = y.1 <;> by_cases h2 : x.2 = y.2 <;> simp [h1, h2]
theorem part_eql (x y : Int × Int) (w : World) : Sem.run Tryz.prog (binOp .eql 23 (.agg #[.int .i64 x.1, .int .i64 x.2]) (.agg #[.int .i64 y.1, .int .i64 y.2])) w = .ok (.bool (decide (x = y))) w := by
  rw [run_eql_struct, part_equal]; rfl
theorem part_neq (x y : Int × Int) (w : World) : Sem.run Tryz.prog (binOp .neq 23 (.agg #[.int .i64 x.1, .int .i64 x.2]) (.agg #[.int .i64 y.1, .int .i64 y.2])) w = .ok (.bool (!decide (x = y))) w := by
  rw [run_neq_struct, part_equal]; rfl
theorem part_guard (op : BinOp) (a b : Operand) (xs ys : Array Value) (w : World) : Sem.run Tryz.prog (eqGuard op 23 a b (.agg xs) (.agg ys)) w = .ok () w :=
  run_eqGuard_agg w op 23 a b xs ys (by kernel_rfl)


theorem grown_trans {a b c : World} {r : Option Nat} (h : a.grownBy b r) (k : b.grownBy c r) : a.grownBy c r :=
  ⟨k.os.trans h.os, k.tape.trans h.tape, k.output.trans h.output, Nat.le_trans h.size k.size, fun i hi hne => (k.block i (Nat.lt_of_lt_of_le hi h.size) hne).trans (h.block i hi hne)⟩

theorem pcells_set : ∀ (l : List (Int × Int)) (k : Nat) (u : Int × Int), ((pcells l).set (k * 2) (.int .i64 u.1)).set (k * 2 + 1) (.int .i64 u.2) = pcells (l.set k u)
  | [], k, u => by simp [pcells]
  | x :: l, 0, u => by simp [pcells, encP]
  | x :: l, k + 1, u => by
    have e : pcells (x :: l) = .int .i64 x.1 :: .int .i64 x.2 :: pcells l := rfl
    rw [e, show (k + 1) * 2 = k * 2 + 1 + 1 by omega, List.set_cons_succ, List.set_cons_succ, List.set_cons_succ, List.set_cons_succ, pcells_set l k u, List.set_cons_succ]
    rfl

theorem own_at {W : World} {base g n cap : Nat} {l : List (Int × Int)} (h : W.ownsRow base 23 2 (.slice (some ⟨g, 0, none⟩) n cap) n (pcells l)) (hl : l.length = n) {j : Nat} (hj : j < n) :
    W.cell? ⟨g, j * 2, none⟩ = some (.int .i64 (l.getD j p0).1) ∧ W.cell? ⟨g, j * 2 + 1, none⟩ = some (.int .i64 (l.getD j p0).2) ∧ W.frozen? ⟨g, j * 2, none⟩ = false ∧ W.frozen? ⟨g, j * 2 + 1, none⟩ = false := by
  obtain ⟨g1, g2⟩ := pcells_get l j (by omega)
  rw [h.cellAt (j * 2) (by omega), h.cellAt (j * 2 + 1) (by omega)]
  exact ⟨g1, g2, h.frozenAt _, h.frozenAt _⟩

/-- A store of a part into a row of the call's own. -/
theorem own_put {W : World} {base g n cap : Nat} {l : List (Int × Int)} (h : W.ownsRow base 23 2 (.slice (some ⟨g, 0, none⟩) n cap) n (pcells l)) (j : Nat) (u : Int × Int) :
    ((W.setCell ⟨g, j * 2, none⟩ (.int .i64 u.1)).setCell ⟨g, j * 2 + 1, none⟩ (.int .i64 u.2)).ownsRow base 23 2 (.slice (some ⟨g, 0, none⟩) n cap) n (pcells (l.set j u)) ∧
    W.grownBy ((W.setCell ⟨g, j * 2, none⟩ (.int .i64 u.1)).setCell ⟨g, j * 2 + 1, none⟩ (.int .i64 u.2)) (some g) := by
  obtain ⟨h1, h2⟩ := h.stored (j * 2) (.int .i64 u.1)
  obtain ⟨h3, h4⟩ := h1.stored (j * 2 + 1) (.int .i64 u.2)
  rw [pcells_set] at h3
  exact ⟨h3, grown_trans h2 h4⟩

theorem grown_below {w w' : World} {B : Nat} {a : World} {v : Value} {base e size n : Nat} {xs : List Value} (hb : Below B a w) (hB : B ≤ w.heap.size) (h : w.ownsRow base e size v n xs) (hbase : B ≤ base) (hg : w.grownBy w' v.ownBlock) : Below B a w' :=
  hb.grown hg hB fun k hk => Nat.le_trans hbase (h.lt k hk).1

/-- Prtes that are written out. -/
theorem prt_new (W : World) (l : List (Int × Int)) (arr : Array Value) (n : Nat) (h : arr.toList = pcells l) (hn : arr.size = n * 2) (hm : n ≤ maxLen) : Prt (W.alloc (.cells arr 23)) (.slice (some ⟨W.heap.size, 0, none⟩) n n) l := by
  have hown := World.ownsRow_lit (e := 23) (size := 2) (base := W.heap.size) W arr n (Nat.le_refl _) hm hn
  rw [h] at hown
  exact Prt.of_own hown

theorem Prt.hid {w w' : World} {v : Value} {l : List (Int × Int)} (h : Hid (Prt w v l)) (hb : Below w.heap.size w w') : Hid (Prt w' v l) := h.out.later hb
theorem above {w W : World} (o : Obj) (h : Hid (Below w.heap.size w W)) : Hid (Below w.heap.size w (W.alloc o)) := h.out.alloc h.out.size _
theorem alloc_below (W : World) (o : Obj) : Below W.heap.size W (W.alloc o) := (Below.refl _ W).alloc (Nat.le_refl _) _

theorem Tryz.partInfo : (Tryz.prog.info? 23).map (fun i => (i.zero, i.size, i.bytes)) = some (some (.agg #[.int .i64 0, .int .i64 0]), 2, 16) := by kernel_rfl

theorem made_parts (n : Nat) : (madeCells #[.int .i64 0, .int .i64 0] (n * 2)).toList = pcells (List.replicate n (0, 0)) := by
  have hz : ∀ i, (#[Value.int .i64 0, Value.int .i64 0] : Array Value)[i % 2]! = .int .i64 0 := fun i => by
    rcases Nat.mod_two_eq_zero_or_one i with m | m <;> rw [m] <;> rfl
  have hl : (madeCells #[.int .i64 0, .int .i64 0] (n * 2)).toList = (List.range (n * 2)).map fun _ => Value.int .i64 0 := by
    unfold madeCells
    rw [Array.toList_map, Array.toList_range]
    exact List.map_congr_left fun i _ => hz i
  rw [hl]
  apply List.ext_getElem?
  intro j
  by_cases hj : j < n * 2
  · obtain ⟨g1, g2⟩ := pcells_get (List.replicate n (0, 0)) (j / 2) (by simp; omega)
    have e : (List.replicate n ((0, 0) : Int × Int)).getD (j / 2) p0 = (0, 0) := by
      rw [List.getD_eq_getElem?_getD, List.getElem?_replicate, if_pos (by omega)]; rfl
    rw [e] at g1 g2
    rw [List.getElem?_map, List.getElem?_range hj]
    rcases Nat.mod_two_eq_zero_or_one j with m | m
    · rw [show j / 2 * 2 = j by omega] at g1
      rw [g1]; rfl
    · rw [show j / 2 * 2 + 1 = j by omega] at g2
      rw [g2]; rfl
  · rw [List.getElem?_eq_none (by simp; omega), List.getElem?_eq_none (by rw [pcells_len]; simp; omega)]

theorem cell_two_new (w : World) (x y : Value) (t : TypeId) : ∀ j u, [x, y][j]? = some u → (w.alloc (.cells #[x, y] t)).cell? ((⟨w.heap.size, 0, none⟩ : Addr).add j) = some u := by
  intro j u hj
  rw [Addr.add_lit]
  match j, hj with
  | 0, hj => simp at hj; subst hj; simp
  | 1, hj => simp at hj; subst hj; simp

/-- A part more behind a row of the call's own. -/
theorem pcells_snoc (l : List (Int × Int)) (x : Int × Int) : pcells l ++ [.int .i64 x.1, .int .i64 x.2] = pcells (l ++ [x]) := by
  rw [pcells_app]; rfl

end Go.Proofs.YtbhngncnhabbkaaGreat

/- Slices of slices of ints, and shards, in memory; the walks of the statements' helpers Great and Same. -/
namespace Go.Proofs.YtbhngncnhabbkaaGreat
open Go.RowKit

/-- The slice v holds the lists o. -/
def Lists (W : World) (v : Value) (o : List (List Int)) : Prop :=
  ∃ a cap, v = .slice a o.length cap ∧ o.length ≤ cap ∧ (o = [] ∨ ∃ b off, a = some ⟨b, off, none⟩ ∧ ∀ j, j < o.length → ∃ x, W.cell? ⟨b, off + j, none⟩ = some x ∧ Ints W x (o.getD j []))
/-- The cells of a shard whose lists the slice v holds. -/
def scells (s : Sh.Shard) (v : Value) : Array Value := #[.int .i64 s.1.1, .int .i64 s.1.2, v]
/-- The shard s. -/
def Shd (W : World) (u : Value) (s : Sh.Shard) : Prop := ∃ v, u = .agg (scells s v) ∧ Lists W v s.2
/-- Lists that are no greater than a million. -/
def FitS (o : List (List Int)) : Prop := o.length ≤ 1000000 ∧ ∀ l ∈ o, l.length ≤ 1000000 ∧ Gp.Fit l

theorem Lists.later {w w' : World} {v : Value} {o : List (List Int)} (h : Lists w v o) (hb : Below w.heap.size w w') : Lists w' v o := by
  obtain ⟨a, cap, rfl, hc, h⟩ := h
  refine ⟨a, cap, rfl, hc, ?_⟩
  rcases h with h | ⟨b, off, rfl, h⟩
  · exact .inl h
  · refine .inr ⟨b, off, rfl, fun j hj => ?_⟩
    obtain ⟨x, hx, hi⟩ := h j hj
    exact ⟨x, cell_after hb hx, hi.later hb⟩
theorem Shd.later {w w' : World} {u : Value} {s : Sh.Shard} (h : Shd w u s) (hb : Below w.heap.size w w') : Shd w' u s := by
  obtain ⟨v, rfl, h⟩ := h
  exact ⟨v, rfl, h.later hb⟩
theorem Lists.hid {w w' : World} {v : Value} {o : List (List Int)} (h : Hid (Lists w v o)) (hb : Below w.heap.size w w') : Hid (Lists w' v o) := h.out.later hb
theorem Shd.hid {w w' : World} {u : Value} {s : Sh.Shard} (h : Hid (Shd w u s)) (hb : Below w.heap.size w w') : Hid (Shd w' u s) := h.out.later hb
theorem lists_nil (W : World) : Lists W (.slice none 0 0) [] := ⟨none, 0, rfl, Nat.le_refl _, .inl rfl⟩
theorem getD_mem_o {o : List (List Int)} {k : Nat} (h : k < o.length) : o.getD k [] ∈ o := by
  rw [List.getD_eq_getElem?_getD, List.getElem?_eq_getElem h]; exact List.getElem_mem h
/-- What lies at place k: a slice of so many ints. -/
theorem Lists.at_ {W : World} {a : Option Addr} {n cap : Nat} {o : List (List Int)} (h : Lists W (.slice a n cap) o) {k : Nat} (hk : k < o.length) :
    ∃ b off, a = some ⟨b, off, none⟩ ∧ ∃ x, W.cell? ⟨b, off + k, none⟩ = some x ∧ Ints W x (o.getD k []) := by
  obtain ⟨a', cap', e, _, h⟩ := h
  simp only [Value.slice.injEq] at e
  obtain ⟨rfl, _, _⟩ := e
  rcases h with rfl | ⟨b, off, rfl, h⟩
  · simp at hk
  · exact ⟨b, off, rfl, h k hk⟩
theorem many_step {o : List (List Int)} {k : Nat} (h : k < o.length) : Sh.many (o.take (k + 1)) = Sh.many (o.take k) + (o.getD k []).length := Sh.many_take o k h

theorem own_later {w w' : World} {base e size n : Nat} {v : Value} {xs : List Value} (h : w.ownsRow base e size v n xs) (hb : Below w.heap.size w w') : w'.ownsRow base e size v n xs :=
  h.kept ⟨hb.os, hb.tape, hb.output, hb.size, fun k hk _ => hb.block k hk⟩ (row := none) (by cases v.ownBlock <;> simp)

/-- Is it no more than is gone through? -/
def Less (o : List (List Int)) : Prop := o.length ≤ 300 ∧ Sh.many o ≤ 5000 ∧ ∀ l ∈ o, l.length ≤ 300
/-- What Great tells. -/
def gr (o : List (List Int)) : Bool := !(decide (o.length ≤ 300) && decide (Sh.many o ≤ 5000) && o.all fun l => decide (l.length ≤ 300))
theorem gr_iff {o : List (List Int)} : gr o = false ↔ Less o := by
  unfold gr Less
  simp [and_assoc]
theorem many_mono {o : List (List Int)} (k : Nat) : Sh.many (o.take k) ≤ Sh.many o := by
  have e : Sh.many o = Sh.many (o.take k) + Sh.many (o.drop k) := by
    conv => lhs; rw [← List.take_append_drop k o]
    unfold Sh.many
    rw [List.map_append, List.sum_append]
  omega

set_option maxHeartbeats 400000 in
set_option maxRecDepth 100000 in
theorem great_any (s : Sh.Shard) (v : Value) (w : World) (h : Lists w v s.2) (hl : s.2.length ≤ 9223372036854775807) (hll : ∀ l ∈ s.2, l.length ≤ 9223372036854775807) :
    Calls Tryz.prog 7 #[.agg (scells s v)] w fun e w' => e = .returned (.bool (gr s.2)) ∧ Below w.heap.size w w' := by
  obtain ⟨⟨p1, p2⟩, o⟩ := s
  unfold scells
  dsimp only at h hl hll ⊢
  obtain ⟨a, cap, rfl, hcap, _⟩ := id h
  obtain ⟨wa, hwa⟩ : ∃ wa, w.alloc (.cells #[.int .i64 p1, .int .i64 p2, .slice a o.length cap] 26) = wa := ⟨_, rfl⟩
  have c3 : wa.cell? ⟨w.heap.size, 2, none⟩ = some (.slice a o.length cap) := by rw [← hwa]; simp
  have hba : Hid (Below w.heap.size w wa) := by rw [← hwa]; exact (Below.refl _ w).alloc (Nat.le_refl _) _
  have HL : Hid (Lists wa (.slice a o.length cap) o) := h.later hba.out
  have HLL : Hid (∀ l ∈ o, l.length ≤ 9223372036854775807) := hll
  have HGT : Hid (¬ Less o → gr o = true) := fun h => by
    cases hg : gr o with
    | true => rfl
    | false => exact absurd (gr_iff.1 hg) h
  have HGF : Hid (Less o → gr o = false) := fun h => gr_iff.2 h
  generalize gr o = r at *
  clear h hll
  go_enter Tryz.func7, Tryz.ntmps7
  go_wp2
  go_loopw [3, 4] (fun m i wr => ∃ k : Nat, k ≤ o.length ∧ i = .int .i64 k ∧ m = .int .i64 (Sh.many (o.take k)) ∧ Sh.many (o.take k) ≤ 5000 ∧ Hid (∀ j, j < k → (o.getD j []).length ≤ 300) ∧ wr = wa) (fun _ i _ => o.length - (intOf i).toNat)
  case atStart => exact ⟨0, Nat.zero_le _, rfl, rfl, by simp [Sh.many], fun j hj => by omega, rfl⟩
  case round =>
    obtain ⟨k, hk, rfl, rfl, hm, HJ, rfl⟩ := hrel
    by_cases hlt : k < o.length
    · obtain ⟨b, off, rfl, x, hx, hi⟩ := HL.out.at_ hlt
      obtain ⟨ax, cx, rfl, _⟩ := hi
      have hxl := HLL.out _ (getD_mem_o hlt)
      have HM : Hid (Sh.many (o.take (k + 1)) = Sh.many (o.take k) + (o.getD k []).length) := many_step hlt
      have HJ2 : Hid ((o.getD k []).length ≤ 300 → ∀ j, j < k + 1 → (o.getD j []).length ≤ 300) := fun h j hj => by
        by_cases e : j = k
        · rw [e]; exact h
        · exact HJ.out j (by omega)
      have HMM : Hid (Sh.many (o.take (k + 1)) ≤ Sh.many o) := many_mono _
      have HNN : Hid (Less o → (o.getD k []).length ≤ 300) := fun hh => hh.2.2 _ (getD_mem_o hlt)
      generalize (o.getD k []).length = n at *
      generalize Sh.many (o.take k) = m at *
      by_cases h3 : n ≤ 300
      · by_cases h5 : m + n ≤ 5000
        · go_wp2
          go_roundw
          case rel => exact ⟨k + 1, by omega, by go_num, by rw [HM.out]; go_num, by rw [HM.out]; exact h5, HJ2.out h3, trivial⟩
          case measure => simp [intOf]; omega
        · have HR : Hid (r = true) := HGT.out fun hh => by have := HMM.out; have := HM.out; have := hh.2.1; omega
          go_wp2
          go_ret
          exact ⟨ret_bool HR.out.symm, hba.out⟩
      · have HR : Hid (r = true) := HGT.out fun hh => h3 (HNN.out hh)
        go_wp2
        go_ret
        exact ⟨ret_bool HR.out.symm, hba.out⟩
    · obtain rfl : k = o.length := by omega
      rw [List.take_length] at hm
      have HS : Hid (o.length ≤ 300 → r = false) := fun h => HGF.out ⟨h, hm, fun l hl => by
        obtain ⟨j, hj, rfl⟩ := List.mem_iff_getElem.1 hl
        have := HJ.out j hj
        simpa [List.getD, hj] using this⟩
      clear hm
      generalize Sh.many (o.take o.length) = m at *
      by_cases h3 : o.length ≤ 300
      · have HR : Hid (r = false) := HS.out h3
        have hd : decide ((300 : Int) < o.length) = false := by simp; omega
        go_wp2
        go_ret
        exact ⟨ret_bool HR.out.symm, hba.out⟩
      · have HR : Hid (r = true) := HGT.out fun hh => h3 hh.1
        have hd : decide ((300 : Int) < o.length) = true := by simp; omega
        go_wp2
        go_ret
        exact ⟨ret_bool HR.out.symm, hba.out⟩

end Go.Proofs.YtbhngncnhabbkaaGreat
