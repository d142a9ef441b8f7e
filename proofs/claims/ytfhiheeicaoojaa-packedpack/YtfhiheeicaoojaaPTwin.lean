/- The walks of the statements' helpers Twin and Left: a list in memory of its own with a number behind it, and whether it is as it was. -/
import Derived.Test.YtfhiheeicaoojaaPFrame
namespace Go.Proofs.Ytfhiheeicaoojaa
open Go.RowKit

/-- The row of a twin: the list, and -77 behind it. -/
abbrev TwinRow (w0 w : World) (g : Nat) (zs : List Int) : Prop :=
  w.ownsRow w0.heap.size 3 1 (.slice (some ⟨g, 0, none⟩) (zs.length + 1) (zs.length + 1)) (zs.length + 1) ((zs ++ [-77]).map (Value.int .i64))

theorem append_none (W : World) (g m cap : Nat) (i : TypeInfo) (hi : Try.prog.info? 3 = some i) (ty : TypeId) :
    (Builtin.append_ #[22, 22] ty #[.slice (some ⟨g, 0, none⟩) 0 m, .slice none 0 cap]).run Try.prog W = .ok (.slice (some ⟨g, 0, none⟩) 0 m) W := by
  simp [Builtin.append_, run_underlying Try.underlying22, sizeOf, typeInfo, hi, Builtin.lenOf, Builtin.firstCells, storeCells]

set_option maxHeartbeats 2000000 in
set_option maxRecDepth 100000 in
theorem twin_none (cap : Nat) (w : World) :
    Calls Try.prog 8 #[.slice none 0 cap] w fun e w' => ∃ g, e = .returned (.slice (some ⟨g, 0, none⟩) 0 1) ∧ TwinRow w w' g [] ∧ Below w.heap.size w w' := by
  obtain ⟨i0, hi0, hz0, hz1, hz2⟩ := info_parts Try.intInfo
  go_enter Try.func8, Try.ntmps8
  go_wp2_with (at_make; refine wpList_make_own _ rfl _ _ 22 rfl w.heap.size 3 i0 (.int .i64 0) 1 Try.underlying22 hi0 hz0 hz1 _ _ _ 1 rfl rfl rfl ?b2 ?b3 ?b4 ?_)
  case b2 => rw [hz2]; decide
  case b3 => decide
  case b4 => exact Nat.le_refl _
  intro w1 hown1 hgrow1
  have hap := append_none w1 w.heap.size 1 cap i0 hi0 22
  have hb1 : Below w.heap.size w w1 := (Below.refl _ _).grown hgrow1 (Nat.le_refl _) (by simp)
  go_wp2_with (at_builtin; refine wpList_append_fits _ rfl _ _ 22 rfl w.heap.size 3 i0 1 Try.underlying22 hi0 hz1 w.heap.size 0 1 _ rfl (hown1.alloc _) ⟨w1.heap.size, 0, none⟩ 1 1 [.int .i64 (-77)] rfl rfl (cell_one_new _ _ _) (by simp [Value.oneCell']) (by omega) ?_; intro w2 hown2 hgrow2)
  go_ret
  exact ⟨_, rfl, hown2, (hb1.alloc hb1.size _).grown hgrow2 (by have := hb1.size; simp; omega) (fun q e => by cases e; exact Nat.le_refl _)⟩

set_option maxHeartbeats 2000000 in
set_option maxRecDepth 100000 in
theorem twin_some (ad : Addr) (cap : Nat) (zs : List Int) (w : World) (hl : zs.length ≤ 1000000000) (hc : ∀ j u, (zs.map (Value.int .i64))[j]? = some u → w.cell? (ad.add j) = some u ∧ (ad.add j).block < w.heap.size) :
    Calls Try.prog 8 #[.slice (some ad) zs.length cap] w fun e w' => ∃ g, e = .returned (.slice (some ⟨g, 0, none⟩) zs.length (zs.length + 1)) ∧ TwinRow w w' g zs ∧ Below w.heap.size w w' := by
  obtain ⟨i0, hi0, hz0, hz1, hz2⟩ := info_parts Try.intInfo
  have HC : Hid _ := hc
  clear hc
  go_enter Try.func8, Try.ntmps8
  go_wp2_with (at_make; refine wpList_make_own _ rfl _ _ 22 rfl w.heap.size 3 i0 (.int .i64 0) 1 Try.underlying22 hi0 hz0 hz1 _ _ _ (zs.length + 1) rfl rfl (by simp) ?b2 ?b3 ?b4 ?_)
  case b2 => rw [hz2]; omega
  case b3 => unfold maxLen; omega
  case b4 => exact Nat.le_refl _
  intro w1 hown1 hgrow1
  have hb1 : Below w.heap.size w w1 := (Below.refl _ _).grown hgrow1 (Nat.le_refl _) (by simp)
  go_wp2_with (at_builtin; refine wpList_append_fits _ rfl _ _ 22 rfl w.heap.size 3 i0 1 Try.underlying22 hi0 hz1 w.heap.size 0 (zs.length + 1) _ rfl hown1 ad zs.length cap (zs.map (Value.int .i64)) rfl (by simp) (fun j u hu => (hb1.cell (HC.out j u hu).2).trans (HC.out j u hu).1) (by intro u hu; obtain ⟨z, _, rfl⟩ := List.mem_map.1 hu; rfl) (by omega) ?_)
  intro w2 hown2 hgrow2
  have hb2 : Below w.heap.size w w2 := hb1.grown hgrow2 hb1.size (fun q e => by cases e; exact Nat.le_refl _)
  clear hown1 hgrow1 hgrow2 hb1
  go_wp2_with (at_builtin; refine wpList_append_fits _ rfl _ _ 22 rfl w.heap.size 3 i0 1 Try.underlying22 hi0 hz1 w.heap.size zs.length (zs.length + 1) _ rfl (hown2.alloc _) ⟨w2.heap.size, 0, none⟩ 1 1 [.int .i64 (-77)] rfl rfl (cell_one_new _ _ _) (by simp [Value.oneCell']) (by omega) ?_; intro w3 hown3 hgrow3)
  go_ret
  exact ⟨_, rfl, by unfold TwinRow; simpa using hown3, (hb2.alloc hb2.size _).grown hgrow3 (by have := hb2.size; simp; omega) (fun q e => by cases e; exact Nat.le_refl _)⟩

theorem twin_any (a : Option Addr) (cap : Nat) (zs : List Int) (w : World) (h : Ints w (.slice a zs.length cap) zs) (hl : zs.length ≤ 1000000000) :
    Calls Try.prog 8 #[.slice a zs.length cap] w fun e w' => ∃ g, e = .returned (.slice (some ⟨g, 0, none⟩) zs.length (zs.length + 1)) ∧ TwinRow w w' g zs ∧ Below w.heap.size w w' := by
  obtain ⟨a', cap', e, h⟩ := h
  simp only [Value.slice.injEq, true_and] at e
  obtain ⟨rfl, rfl⟩ := e
  rcases h with rfl | ⟨b, off, rfl, hlt, hc⟩
  · cases a with
    | none => exact twin_none cap w
    | some ad => exact twin_some ad cap [] w (by simp) (fun j u hu => by simp at hu)
  · refine twin_some _ cap zs w hl (fun j u hu => ?_)
    rw [List.getElem?_map] at hu
    obtain ⟨z, hz, rfl⟩ := Option.map_eq_some_iff.1 hu
    have hj := (List.getElem?_eq_some_iff.1 hz).1
    rw [Addr.add_lit]
    refine ⟨(hc j hj).trans ?_, hlt⟩
    simp [List.getD, hz]

/-- A twin is the list. -/
theorem TwinRow.ints {w0 w : World} {g : Nat} {zs : List Int} (h : TwinRow w0 w g zs) : Ints w (.slice (some ⟨g, 0, none⟩) zs.length (zs.length + 1)) zs := by
  refine ⟨_, _, rfl, .inr ⟨g, 0, rfl, (h.lt g rfl).2, fun j hj => ?_⟩⟩
  have := h.cellAt j (by omega)
  rw [Nat.zero_add, this, List.getElem?_map, List.getElem?_append_left hj, List.getElem?_eq_getElem hj]
  simp [List.getD, List.getElem?_eq_getElem hj]

theorem TwinRow.last {w0 w : World} {g : Nat} {zs : List Int} (h : TwinRow w0 w g zs) : w.cell? ⟨g, zs.length, none⟩ = some (.int .i64 (-77)) := by
  have := h.cellAt zs.length (by omega)
  rw [this, List.getElem?_map, List.getElem?_append_right (Nat.le_refl _), Nat.sub_self]
  rfl

set_option maxHeartbeats 2000000 in
set_option maxRecDepth 100000 in
theorem left_any (g : Nat) (a : Option Addr) (cap : Nat) (zs : List Int) (w : World) (h1 : Ints w (.slice (some ⟨g, 0, none⟩) zs.length (zs.length + 1)) zs) (h2 : Ints w (.slice a zs.length cap) zs) (hc : w.cell? ⟨g, zs.length, none⟩ = some (.int .i64 (-77))) (hl : zs.length ≤ 1000000000) :
    Calls Try.prog 13 #[.slice (some ⟨g, 0, none⟩) zs.length (zs.length + 1), .slice a zs.length cap] w fun e w' => e = .returned (.bool true) ∧ Below w.heap.size w w' := by
  go_enter Try.func13, Try.ntmps13
  go_wp2_with fail
  refine (same_any _ _ zs zs _ h1 h2 (by omega) (by omega)).mono ?_
  rintro e w1 ⟨rfl, hb1⟩
  rw [show decide (zs = zs) = true by simp]
  have hc1 := cell_after hb1 hc
  clear h1 h2 hc
  generalize zs.length = n at *
  go_wp2
  go_ret
  exact ⟨rfl, hb1⟩

end Go.Proofs.Ytfhiheeicaoojaa
