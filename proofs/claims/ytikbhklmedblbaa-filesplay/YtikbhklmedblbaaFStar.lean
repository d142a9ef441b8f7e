/- Steps of a region that draws its order: make, and an append of strings that fits; in whatever world. -/
import Derived.Test.YtikbhklmedblbaaFBoth
import Derived.Laws.OwnMore
namespace Go.Proofs.Ytikbhklmedblbaa
open Go.RowKit Go.Maps

theorem step_make_strs {P : Program} {w : World} {ops : Array Oper} {o : Oper} {a : Act} {K : Act → World → Prop} {Q : Exit → Act → World → Prop} {E : Prop} (hgd : o.guard = none) (s x : Operand) (t : TypeId)
    (ho : o.op = .makeSlice t s x) (base : Nat) (e : TypeId) (i : TypeInfo) (ht : P.underlying t = some (.slice e)) (hi : P.info? e = some i) (hz : i.zero = some (.string ⟨#[]⟩)) (h1 : i.size = 1) (h16 : i.bytes = 16)
    (c : Nat) (hs : a.eval s = .int .i64 0) (hx : a.eval x = .int .i64 (c : Int)) (hc : c ≤ 1000000) (hbase : base ≤ w.heap.size) (H : Nat) (hH : w.heap.size = H)
    (h : ∀ w', w'.ownsRow base e 1 (.slice (some ⟨H, 0, none⟩) 0 c) 0 [] → w.grownBy w' none → K (a.put o.dst (.slice (some ⟨H, 0, none⟩) 0 c)) w') :
    if Region.wanted o (yielded ops a.tmps) = true then Oper.wp P o a w K Q else E := by
  have hw : Region.wanted o (yielded ops a.tmps) = true := by simp [Region.wanted, hgd]
  rw [if_pos hw]
  subst hH
  obtain ⟨w', hr, h2, h3⟩ := run_make_own (P := P) w base t e i (.string ⟨#[]⟩) 1 ht hi hz h1 .i64 .i64 c (by rw [h16]; omega) (by unfold maxLen; omega) hbase
  unfold Oper.wp execOp
  simp only [ho, Sem.run_bind, Sem.run_pure, Result.andThen_ok, hs, hx, hr]
  exact h w' h2 h3

theorem run_append_strs {P : Program} (w : World) (base : Nat) (t ty e : TypeId) (i : TypeInfo) (ht : P.underlying t = some (.slice e)) (hi : P.info? e = some i) (h1 : i.size = 1)
    (g n cap : Nat) (xs : List Value) (hown : w.ownsRow base e 1 (.slice (some ⟨g, 0, none⟩) n cap) n xs) (v : Value) (l : List ByteArray) (hv : Strs w v l) (hroom : n + l.length ≤ cap) :
    ∃ w', (Builtin.append_ #[t, t] ty #[.slice (some ⟨g, 0, none⟩) n cap, v]).run P w = .ok (.slice (some ⟨g, 0, none⟩) (n + l.length) cap) w' ∧
      w'.ownsRow base e 1 (.slice (some ⟨g, 0, none⟩) (n + l.length) cap) (n + l.length) (xs ++ scells l) ∧ w.grownBy w' (some g) := by
  obtain ⟨p, c, rfl, hc, hs⟩ := hv
  by_cases hl0 : l = []
  · subst hl0
    refine ⟨w, ?_, by simpa [scells] using hown, World.grownBy.refl _ _⟩
    simp at hroom
    cases p <;> simp [Builtin.append_, run_underlying ht, sizeOf, typeInfo, hi, Builtin.lenOf, Builtin.firstCells, loadCells, loadCellsFrom, storeCells, hroom]
  · rcases hs with hs | ⟨b, off, rfl, hs⟩
    · exact absurd hs hl0
    exact run_append_fits (P := P) w base t ty e i 1 ht hi h1 g n cap xs hown ⟨b, off, none⟩ l.length c (scells l) (by rw [scells_length, Nat.mul_one]) (strs_cells hs) (scells_one l) hroom

theorem step_append_strs {P : Program} {w : World} {ops : Array Oper} {o : Oper} {a : Act} {K : Act → World → Prop} {Q : Exit → Act → World → Prop} {E : Prop} (hgd : o.guard = none) (s x : Operand) (t : TypeId)
    (ho : o.op = .call { callee := .builtin .append, args := #[s, x], argTypes := #[t, t] }) (base : Nat) (e : TypeId) (i : TypeInfo) (ht : P.underlying t = some (.slice e)) (hi : P.info? e = some i) (h1 : i.size = 1)
    (g n cap : Nat) (xs : List Value) (hs : a.eval s = .slice (some ⟨g, 0, none⟩) n cap) (hown : w.ownsRow base e 1 (.slice (some ⟨g, 0, none⟩) n cap) n xs) (v : Value) (l : List ByteArray) (hx : a.eval x = v) (hv : Strs w v l) (hroom : n + l.length ≤ cap) (m : Nat) (hm : n + l.length = m)
    (h : ∀ w', w'.ownsRow base e 1 (.slice (some ⟨g, 0, none⟩) m cap) m (xs ++ scells l) → w.grownBy w' (some g) → K (a.put o.dst (.slice (some ⟨g, 0, none⟩) m cap)) w') :
    if Region.wanted o (yielded ops a.tmps) = true then Oper.wp P o a w K Q else E := by
  have hw : Region.wanted o (yielded ops a.tmps) = true := by simp [Region.wanted, hgd]
  rw [if_pos hw]
  subst hm
  obtain ⟨w', hr, h2, h3⟩ := run_append_strs (P := P) w base t o.type e i ht hi h1 g n cap xs hown v l hv hroom
  unfold Oper.wp execOp
  simp only [ho, resolve, invoke, builtin, Sem.run_bind, Sem.run_pure, Result.andThen_ok, List.map_toArray, List.map_cons, List.map_nil, hs, hx, hr]
  exact h w' h2 h3

theorem below_alloc {w W : World} (h : Below w.heap.size w W) (o : Obj) : Below w.heap.size w (W.alloc o) := h.alloc h.size o

/-- make([]string, 0, c), in whatever world. -/
theorem made_strs {P : Program} (t e : TypeId) (i : TypeInfo) (ht : P.underlying t = some (.slice e)) (hi : P.info? e = some i) (hz : i.zero = some (.string ⟨#[]⟩)) (h1 : i.size = 1) (h16 : i.bytes = 16) (c : Nat) (hc : c ≤ 1000000) :
    ∃ C : Array Value, ∀ w : World, (Instr.makeSlice t (.int .i64 0) (.int .i64 (c : Int))).run P w = .ok (.slice (some ⟨w.heap.size, 0, none⟩) 0 c) (w.alloc (.cells C e)) ∧ ∀ base, base ≤ w.heap.size → (w.alloc (.cells C e)).ownsRow base e 1 (.slice (some ⟨w.heap.size, 0, none⟩) 0 c) 0 [] := by
  refine ⟨madeCells (Value.string ⟨#[]⟩).cells (c * i.size), fun w => ?_⟩
  have hr := run_make (P := P) w t e i (.string ⟨#[]⟩) ht hi hz .i64 .i64 0 (c : Int) (by omega) (by omega) (by rw [h16]; omega) (by omega)
  simp only [Int.toNat_natCast, Int.toNat_zero] at hr
  refine ⟨hr, fun base hb => ?_⟩
  obtain ⟨w', hr2, h2, _⟩ := run_make_own (P := P) w base t e i (.string ⟨#[]⟩) 1 ht hi hz h1 .i64 .i64 c (by rw [h16]; omega) (by unfold maxLen; omega) hb
  rw [hr] at hr2
  injection hr2 with _ h4
  rw [h4]
  exact h2

theorem star_under (wB : World) (C : Array Value) : ((wB.drew.alloc (.cells #[.string ⟨#[42]⟩] 9)).alloc (.cells C 9)).heap[wB.heap.size]? = some (.cells #[.string ⟨#[42]⟩] 9 (0, 0)) :=
  (heap_alloc_old (wB.drew.alloc (.cells #[.string ⟨#[42]⟩] 9)) _ wB.heap.size (by simp)).trans (heap_alloc_new wB.drew _)

/-- The star, in a block of its own. -/
theorem star_strs {W : World} {B : Nat} {s : ByteArray} (h : W.heap[B]? = some (.cells #[.string s] 9 (0, 0))) : Strs W (.slice (some ⟨B, 0, none⟩) 1 1) [s] := by
  refine ⟨_, 1, rfl, Nat.le_refl _, .inr ⟨B, 0, rfl, fun j hj => ?_⟩⟩
  have : j = 0 := by simpa using hj
  subst this
  rw [cell_of_row W B _ _ _ _ h]
  rfl

end Go.Proofs.Ytikbhklmedblbaa
