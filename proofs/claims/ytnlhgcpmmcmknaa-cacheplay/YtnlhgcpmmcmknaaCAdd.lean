/- The walk of cache's add. -/
import Derived.Test.YtnlhgcpmmcmknaaCUse
namespace Go.Proofs.Ytnlhgcpmmcmknaa
open Go.RowKit Go.Maps

/-- Room is made, if as many are there as may be. -/
def roomK (most : Nat) (K : List Ke) : List Ke := if most ≤ K.length then K.eraseP fun x => decide (x.f.p = 0) else K
theorem roomK_sub (most : Nat) (K : List Ke) : (roomK most K).Sublist K := by
  unfold roomK
  split
  · exact List.eraseP_sublist
  · exact List.Sublist.refl K
theorem roomK_fr (most : Nat) (K : List Ke) : (roomK most K).map (·.f) = Ca.room most (K.map (·.f)) := by
  unfold roomK Ca.room Ca.evict
  rw [List.length_map]
  split
  · rw [List.eraseP_map]; rfl
  · rfl

section
variable {c mb p most u : Nat} {K : List Ke}

theorem box_apart {w3 : World} {B : Nat} {n : ByteArray} {i : Int} (h3 : CSits w3 c mb p most u K) (hbox : w3.heap[B]? = some (.cells #[.string n, .int .i64 i] 84 (0, 0))) : ¬ COwn c mb K B := by
  rintro (rfl | rfl | ⟨x, hx, rfl⟩)
  · rw [h3.block] at hbox; simp at hbox
  · obtain ⟨es, clock, hb⟩ := h3.mapBlock
    rw [hb] at hbox; cases hbox
  · rw [h3.each x hx] at hbox; simp [Ke.cells] at hbox

/-- Behind the name's copy: the page is laid, and stored. -/
theorem add_tail {w w3 : World} {B : Nat} {n : ByteArray} {i : Int} {K' : List Ke} (T3 : Turn (COwn c mb K) w (COwn c mb K') w3) (hB : w.heap.size ≤ B) (h3 : CSits w3 c mb p most u K') (hbox : w3.heap[B]? = some (.cells #[.string n, .int .i64 i] 84 (0, 0))) (hk : KeyOk n i) (hm : K'.length ≤ 64) (hno : ∀ x ∈ K', ¬ (x.f.n = n ∧ x.f.i = i)) :
    w3.frozen? ⟨B, 0, none⟩ = false ∧ w3.cell? ⟨B, 0, none⟩ = some (.string n) ∧ ∃ w5 w6, (w3.setCell ⟨B, 0, none⟩ (.string n)).alloc (.cells #[.string ⟨#[]⟩, .int .i64 0, .int .i64 0] 87) = w5 ∧ w5.cell? ⟨B, 0, none⟩ = some (.string n) ∧ w5.cell? ⟨B, 1, none⟩ = some (.int .i64 i) ∧ w5.cell? ⟨c, 2, none⟩ = some (.map (some mb)) ∧
      (Instr.mapUpdate 51 (.map (some mb)) (.agg #[.string n, .int .i64 i]) (.pointer (some ⟨w3.heap.size, 0, none⟩))).run Try.prog w5.drew = .ok () w6 ∧
      CSits w6 c mb p most u (K' ++ [⟨⟨n, i, ByteArray.empty, 0⟩, w3.heap.size, 0⟩]) ∧ Turn (COwn c mb K) w (COwn c mb (K' ++ [⟨⟨n, i, ByteArray.empty, 0⟩, w3.heap.size, 0⟩])) w6 := by
  have hap := box_apart h3 hbox
  have hoth : ∀ k, k ≠ B → (w3.setCell ⟨B, 0, none⟩ (.string n)).heap[k]? = w3.heap[k]? := fun k hk => Below.heap_setCell _ _ _ _ hk
  have h4 : CSits (w3.setCell ⟨B, 0, none⟩ (.string n)) c mb p most u K' := h3.stays fun k hk => hoth k (fun e => hap (e ▸ hk))
  have hbox4 : (w3.setCell ⟨B, 0, none⟩ (.string n)).heap[B]? = some (.cells #[.string n, .int .i64 i] 84 (0, 0)) := heap_setCell_same w3 B 0 _ _ _ hbox
  have T4 : Turn (COwn c mb K) w (COwn c mb K') (w3.setCell ⟨B, 0, none⟩ (.string n)) := ⟨T3.os, T3.tape, T3.output, by have := T3.size; simpa [World.setCell] using this, fun k hk ho => (hoth k (by omega)).trans (T3.block k hk ho), T3.grows⟩
  have hs4 : (w3.setCell ⟨B, 0, none⟩ (.string n)).heap.size = w3.heap.size := by simp [World.setCell]
  generalize w3.setCell ⟨B, 0, none⟩ (.string n) = w4 at *
  have hb5 : Below w4.heap.size w4 (w4.alloc (.cells #[.string ⟨#[]⟩, .int .i64 0, .int .i64 0] 87)) := (Below.refl _ w4).alloc (Nat.le_refl _) _
  have hnew := heap_alloc_new w4 (.cells #[.string ⟨#[]⟩, .int .i64 0, .int .i64 0] 87)
  generalize w4.alloc (.cells #[.string ⟨#[]⟩, .int .i64 0, .int .i64 0] 87) = w5 at *
  have h5 := h4.later hb5
  obtain ⟨D, hown, hp⟩ := h5.map
  obtain ⟨w6, hrun, hown6, hturn6⟩ := hown.drew.store Try.placeKeyed Try.underlying51 (by unfold maxLen; omega) (place_key hk) (val := .pointer (some ⟨w3.heap.size, 0, none⟩)) rfl
  have hbox5 : w5.heap[B]? = _ := (hb5.block B (Array.getElem?_eq_some_iff.1 hbox4).1).trans hbox4
  have hadd := h4.add hk hno (b := w3.heap.size) rfl hb5.drew (by omega) (W1 := w5.drew) (by rw [hs4] at hnew; exact hnew) hp hown6 hturn6
  exact ⟨by simp [World.frozen?, hbox], by simp [World.cell?, hbox], w5, w6, rfl, by simp [World.cell?, hbox5], by simp [World.cell?, hbox5], h5.cell2, hrun, hadd.1, T4.trans hadd.2⟩

set_option maxRecDepth 100000 in
set_option maxHeartbeats 1000000 in
theorem cadd_any (n : ByteArray) (i : Int) (w : World) (h : CSits w c mb p most u K) (hr : K.Pairwise fun x y => x.u < y.u) (hm : K.length ≤ 64) (hk : KeyOk n i) (hn : n.size ≤ 1000) (hno : ∀ x ∈ K, ¬ (x.f.n = n ∧ x.f.i = i)) :
    Calls Try.prog 57 #[at_ c, spot n i] w fun e w' => ∃ b, e = .returned (at_ b) ∧ CSits w' c mb p most u (roomK most K ++ [⟨⟨n, i, ByteArray.empty, 0⟩, b, 0⟩]) ∧ Turn (COwn c mb K) w (COwn c mb (roomK most K ++ [⟨⟨n, i, ByteArray.empty, 0⟩, b, 0⟩])) w' := by
  have hba : Below w.heap.size w (w.alloc (.cells #[.string n, .int .i64 i] 84)) := (Below.refl _ w).alloc (Nat.le_refl _) _
  have hbox := heap_alloc_new w (.cells #[.string n, .int .i64 i] 84)
  obtain ⟨wa, ha⟩ : ∃ wa, w.alloc (.cells #[.string n, .int .i64 i] 84) = wa := ⟨_, rfl⟩
  rw [ha] at hba hbox
  have HF : Hid (Calls _ _ _ _ _) := cfull_any wa (h.later hba)
  have HS : Hid (CSits _ _ _ _ _ _ _) := h
  have HBA : Hid (Below w.heap.size w wa) := hba
  have HBX : Hid (wa.heap[w.heap.size]? = _) := hbox
  have HRI : Hid (K.Pairwise fun x y => x.u < y.u) := hr
  clear h hba hbox hr
  unfold at_ spot at *
  go_enter Try.func57, Try.ntmps57
  go_wp2_with fail
  refine Calls.mono HF.out ?_
  rintro e w1 ⟨rfl, hb1⟩
  have hbox1 : w1.heap[w.heap.size]? = some (.cells #[.string n, .int .i64 i] 84 (0, 0)) := (hb1.block _ (Array.getElem?_eq_some_iff.1 HBX.out).1).trans HBX.out
  have hbw1 : Below w.heap.size w w1 := bnext HBA.out hb1
  have HB1 : Hid (Below w.heap.size w w1) := hbw1
  have HX1 : Hid (w1.heap[w.heap.size]? = _) := hbox1
  clear hb1 hbox1 hbw1
  by_cases hf : most ≤ K.length
  · have HO : Hid (Calls _ _ _ _ _) := oldest_any w1 (HS.out.later HB1.out) HRI.out
    rw [decide_eq_true hf]
    unfold at_ at HO
    go_wp2_with fail
    refine Calls.mono HO.out ?_
    rintro e w2 ⟨rfl, hs2, ht2⟩
    have hbx2 : w2.heap[w.heap.size]? = some (.cells #[.string n, .int .i64 i] 84 (0, 0)) := (ht2.block _ (Array.getElem?_eq_some_iff.1 HX1.out).1 (box_apart (HS.out.later HB1.out) HX1.out)).trans HX1.out
    have c0 : w2.cell? ⟨w.heap.size, 0, none⟩ = some (.string n) := by simp [World.cell?, hbx2]
    have HE : Hid ((K.eraseP fun x => decide (x.f.p = 0)) = roomK most K) := by show _ = _; unfold roomK; rw [if_pos hf]
    have HS2 : Hid (CSits w2 c mb p most u (roomK most K)) := by rw [← HE.out]; exact hs2
    have HT2 : Hid (Turn (COwn c mb K) w (COwn c mb (roomK most K)) w2) := by rw [← HE.out]; exact (Turn.below HB1.out).trans ht2
    have HX2 : Hid (w2.heap[w.heap.size]? = _) := hbx2
    have HC : Hid (Calls _ _ _ _ _) := clone_any n w2 (by omega)
    clear hs2 ht2 hbx2 HE
    go_wp2_with fail
    refine Calls.mono HC.out ?_
    rintro e w3 ⟨rfl, hb3⟩
    obtain ⟨f3, k3, w5, w6, e5, k0, k1, k2, hrun, hs6, ht6⟩ := add_tail (HT2.out.trans (Turn.below hb3)) (Nat.le_refl _) (HS2.out.later hb3) ((hb3.block _ (Array.getElem?_eq_some_iff.1 HX2.out).1).trans HX2.out) hk (Nat.le_trans (roomK_sub most K).length_le hm) (fun x hx => hno x ((roomK_sub most K).subset hx))
    have H6 : Hid (_ ∧ _) := And.intro hs6 ht6
    clear hs6 ht6 hb3 HC
    go_wp2
    go_region
    all_goals go_wp2
    all_goals go_ret
    all_goals exact ⟨_, rfl, H6.out⟩
  · rw [decide_eq_false hf]
    have c0 : w1.cell? ⟨w.heap.size, 0, none⟩ = some (.string n) := by simp [World.cell?, HX1.out]
    have HE : Hid (K = roomK most K) := by show _ = _; unfold roomK; rw [if_neg hf]
    have HS2 : Hid (CSits w1 c mb p most u (roomK most K)) := by rw [← HE.out]; exact HS.out.later HB1.out
    have HT2 : Hid (Turn (COwn c mb K) w (COwn c mb (roomK most K)) w1) := by rw [← HE.out]; exact Turn.below HB1.out
    have HC : Hid (Calls _ _ _ _ _) := clone_any n w1 (by omega)
    clear HE
    go_wp2_with fail
    refine Calls.mono HC.out ?_
    rintro e w3 ⟨rfl, hb3⟩
    obtain ⟨f3, k3, w5, w6, e5, k0, k1, k2, hrun, hs6, ht6⟩ := add_tail (HT2.out.trans (Turn.below hb3)) (Nat.le_refl _) (HS2.out.later hb3) ((hb3.block _ (Array.getElem?_eq_some_iff.1 HX1.out).1).trans HX1.out) hk (Nat.le_trans (roomK_sub most K).length_le hm) (fun x hx => hno x ((roomK_sub most K).subset hx))
    have H6 : Hid (_ ∧ _) := And.intro hs6 ht6
    clear hs6 ht6 hb3 HC
    go_wp2
    go_region
    all_goals go_wp2
    all_goals go_ret
    all_goals exact ⟨_, rfl, H6.out⟩

end
end Go.Proofs.Ytnlhgcpmmcmknaa
