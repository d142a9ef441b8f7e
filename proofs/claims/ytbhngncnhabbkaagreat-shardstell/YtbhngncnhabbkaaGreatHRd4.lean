/- The walk of what reads a shard, whole. -/
import Derived.Test.YtbhngncnhabbkaaGreatHRd3
namespace Go.Proofs.YtbhngncnhabbkaaGreat
open Go.RowKit

theorem partR_short (r : Sh.Rd) : (Sh.partR r).1.1.length ≤ r.1.length ∧ 0 ≤ (Sh.partR r).2.1 ∧ (Sh.partR r).2.1 ≤ (Sh.partR r).2.2 ∧ (Sh.partR r).2.2 ≤ 256 := by
  unfold Sh.partR
  have h1 := (numR_short r).1
  have h2 := (numR_short (Sh.numR r).1).1
  by_cases hm : Sh.mayP ((Sh.numR r).2, (Sh.numR (Sh.numR r).1).2) = true
  · rw [if_pos hm]
    have h3 := Sh.mayP_iff.1 hm
    dsimp only at h3 ⊢
    omega
  · rw [if_neg hm]
    exact ⟨Nat.zero_le _, by decide, by decide, by decide⟩
theorem degR_short (r : Sh.Rd) (m : Nat) : (Sh.degR r m).1.1.length ≤ r.1.length ∧ (Sh.degR r m).2.length ≤ 65536 := by
  have h1 := (octR_short r).1
  have h2 := tabR_short (Sh.octR r).1 m (Sh.octR r).2
  unfold Sh.degR
  exact ⟨Nat.le_trans (wantR_short _ _) (Nat.le_trans h2.1 h1), h2.2.2⟩
theorem ListsF.mono {b b' : Nat} {W : World} {v : Value} {o : List (List Int)} (h : ListsF b W v o) (hb : b' ≤ b) : ListsF b' W v o :=
  ⟨h.lists, fun q e => Nat.le_trans hb (h.top q e), fun g off n c e j hj x hx q e2 => Nat.le_trans hb (h.all g off n c e j hj x hx q e2)⟩
theorem ListsF.later {b : Nat} {W W' : World} {v : Value} {o : List (List Int)} (h : ListsF b W v o) (hb : Below W.heap.size W W') : ListsF b W' v o := by
  refine ⟨h.lists.later hb, h.top, fun g off n c e j hj x hx => ?_⟩
  subst e
  obtain ⟨b', off', e2, y, hy, _⟩ := h.lists.at_ (k := j) (by
    obtain ⟨_, _, e, _⟩ := h.lists
    exact hj)
  simp only [Option.some.injEq, Addr.mk.injEq, and_true] at e2
  obtain ⟨rfl, rfl⟩ := e2
  rw [cell_after hb hy] at hx
  cases hx
  exact h.all g off n c rfl j hj _ hy
theorem three_cells {W : World} {P : Nat} {x y z : Value} {T : TypeId} (h : W.heap[P]? = some (.cells #[x, y, z] T (0, 0))) :
    W.cell? ⟨P, 0, none⟩ = some x ∧ W.cell? ⟨P, 1, none⟩ = some y ∧ W.cell? ⟨P, 2, none⟩ = some z ∧ W.frozen? ⟨P, 0, none⟩ = false ∧ W.frozen? ⟨P, 1, none⟩ = false ∧ W.frozen? ⟨P, 2, none⟩ = false := by
  refine ⟨?_, ?_, ?_, ?_, ?_, ?_⟩ <;> simp [World.cell?, World.frozen?, h]

set_option maxHeartbeats 2000000 in
set_option maxRecDepth 100000 in
theorem rshard_any (B : Nat) (r : Sh.Rd) (w : World) (h : RBlk w B r) (hl : r.1.length ≤ 1000000) :
    Calls Tryz.prog 34 #[.pointer (some ⟨B, 0, none⟩)] w fun e w' => ∃ u, e = .returned (.agg (scells (Sh.shR r).2 u)) ∧ ListsF w.heap.size w' u (Sh.shR r).2.2 ∧ RBlk w' B (Sh.shR r).1 ∧ Oth B w w' := by
  obtain ⟨wa, hwa⟩ : ∃ wa, w.alloc (.cells #[.int .i64 0, .int .i64 0, .slice none 0 0] 26) = wa := ⟨_, rfl⟩
  have hba : Below w.heap.size w wa := by rw [← hwa]; exact (Below.refl _ w).alloc (Nat.le_refl _) _
  have hP : wa.heap[w.heap.size]? = some (.cells #[.int .i64 0, .int .i64 0, .slice none 0 0] 26 (0, 0)) := by rw [← hwa]; exact heap_alloc_new _ _
  have HB : RBlk wa B r := h.later hba
  have HBd : RBlk wa.drew B r := HB
  have HNE : Hid (w.heap.size ≠ B) := by have := h.lt; rw [Hid]; omega
  have HO : Hid (Oth B w wa) := Oth.of_below hba
  replace hP : Hid _ := hP
  unfold Sh.shR Sh.outR Sh.headR
  dsimp only
  have HT := text_any B r 2 wa.drew HBd (by omega) (by omega)
  have s1 := (textR_short r 2).2
  generalize Sh.textR r 2 = x1 at *
  obtain ⟨r1, t2⟩ := x1
  dsimp only at HT s1 ⊢
  obtain ⟨b1, hb1, hb2⟩ : ∃ b, (t2 == [115, 104]) = b ∧ decide (t2 = [115, 104]) = b := ⟨_, rfl, by rw [Bool.eq_iff_iff]; simp⟩
  rw [hb2]
  have HW1 : Hid (∀ w1, RBlk w1 B r1 → Calls Tryz.prog 63 #[.pointer (some ⟨B, 0, none⟩), .bool b1] w1 fun e w' => e = .returned (.tuple #[]) ∧ RBlk w' B (Sh.wantR r1 b1) ∧ Oth B w1 w') := fun w1 h1 => want_any B r1 b1 w1 h1
  have s2 := wantR_short r1 b1
  generalize Sh.wantR r1 b1 = r2 at *
  have HPA : Hid (∀ w1, RBlk w1 B r2 → Calls Tryz.prog 65 #[.pointer (some ⟨B, 0, none⟩)] w1 fun e w' => e = .returned (.agg #[.int .i64 (Sh.partR r2).2.1, .int .i64 (Sh.partR r2).2.2]) ∧ RBlk w' B (Sh.partR r2).1 ∧ Oth B w1 w') := fun w1 h1 => rpart_any B r2 w1 h1 (by omega)
  have s3 := partR_short r2
  generalize Sh.partR r2 = x3 at *
  obtain ⟨r3, p1, p2⟩ := x3
  dsimp only at HPA s3 ⊢
  obtain ⟨m, hm, hm2⟩ : ∃ m : Nat, p2 - p1 = (m : Int) ∧ m ≤ 256 := ⟨(p2 - p1).toNat, by omega, by omega⟩
  rw [show (p2 - p1).toNat = m by omega]
  have HDG : Hid (∀ w1, RBlk w1 B r3 → Calls Tryz.prog 67 #[.pointer (some ⟨B, 0, none⟩), .int .i64 m] w1 fun e w' => ∃ v, e = .returned v ∧ Ints w' v (Sh.degR r3 m).2 ∧ RBlk w' B (Sh.degR r3 m).1 ∧ Oth B w1 w') := fun w1 h1 => rdegrees_any B r3 m w1 h1 (by omega) hm2
  have s4 := degR_short r3 m
  generalize Sh.degR r3 m = x4 at *
  obtain ⟨r4, ds⟩ := x4
  dsimp only at HDG s4 ⊢
  have HLS : Hid (∀ w1 v, RBlk w1 B r4 → Ints w1 v ds → Calls Tryz.prog 66 #[.pointer (some ⟨B, 0, none⟩), v] w1 fun e w' => ∃ u, e = .returned u ∧ ListsF w1.heap.size w' u (Sh.lstsR r4 ds).2 ∧ RBlk w' B (Sh.lstsR r4 ds).1 ∧ Oth B w1 w') := fun w1 v h1 h2 => rlists_any B r4 v ds w1 h1 h2 (by omega) s4.2
  have s5 := Sh.lstsR_short ds r4
  have s6 := Sh.lstsR_len ds r4
  generalize Sh.lstsR r4 ds = x5 at *
  obtain ⟨r5, o⟩ := x5
  dsimp only at HLS s5 s6 ⊢
  have HN : Hid (∀ w1, RBlk w1 B r5 → Calls Tryz.prog 68 #[.pointer (some ⟨B, 0, none⟩)] w1 fun e w' => e = .returned (.int .i64 (Sh.numR r5).2) ∧ RBlk w' B (Sh.numR r5).1 ∧ Oth B w1 w') := fun w1 h1 => number_any' B r5 w1 h1 (by omega)
  have HTO : Hid (∀ w1 u, Lists w1 u o → Calls Tryz.prog 27 #[u] w1 fun e w' => e = .returned (.int .i64 (Sh.many o : Nat)) ∧ w' = w1) := fun w1 u h1 => stotal_any u o w1 h1 ⟨by omega, fun l hl' => by obtain ⟨h3, h4⟩ := s5.2 l hl'; exact ⟨by omega, h3⟩⟩
  generalize Sh.numR r5 = x6 at *
  obtain ⟨r6, n⟩ := x6
  dsimp only at HN ⊢
  generalize Sh.many o = t at *
  obtain ⟨b3, hb3, hb4⟩ : ∃ b, (n == (t : Int)) = b ∧ decide (n = (t : Int)) = b := ⟨_, rfl, by rw [Bool.eq_iff_iff]; simp⟩
  rw [hb4]
  have HW2 : Hid (∀ w1, RBlk w1 B r6 → Calls Tryz.prog 63 #[.pointer (some ⟨B, 0, none⟩), .bool b3] w1 fun e w' => e = .returned (.tuple #[]) ∧ RBlk w' B (Sh.wantR r6 b3) ∧ Oth B w1 w') := fun w1 h1 => want_any B r6 b3 w1 h1
  generalize Sh.wantR r6 b3 = r7 at *
  unfold scells
  dsimp only
  replace HT : Hid _ := HT
  clear h hba HB HBd hb2 hb4 s1 s2 s3 s4 s5 s6 hl
  generalize hpb : w.heap.size = P at *
  go_enter Tryz.func34, Tryz.ntmps34
  go_wp2_with fail
  go_region_law (first
    | (go_simp; go_at_call 64; refine Calls.mono HT.out ?_; rintro e w1 ⟨rfl, h1, h2⟩; have HW1b : Hid _ := HW1.out w1 h1; replace h2 : Hid (Oth B wa w1) := h2.undrew; clear h1)
    | (go_simp; go_at_call 63; refine Calls.mono HW1b.out ?_; rintro e w2 ⟨rfl, h3, h4⟩; replace h3 : Hid (RBlk w2 B r2) := h3; replace h4 : Hid (Oth B wa w2) := grown_trans h2.out h4))
  clear h2 HW1 HT
  replace HO : Hid (Oth B w w2) := grown_trans HO.out h4.out
  replace hP : Hid _ := blk_oth hP.out h4.out HNE.out
  have HPA2 : Hid _ := HPA.out w2 h3.out
  clear h3 h4 HPA HW1b
  go_wp2_with fail
  refine Calls.mono HPA2.out ?_
  rintro e w3 ⟨rfl, h5, h6⟩
  replace HO : Hid (Oth B w w3) := grown_trans HO.out h6
  replace hP : Hid _ := blk_oth hP.out h6 HNE.out
  obtain ⟨w4, hw4⟩ : ∃ w4, w3.alloc (.cells #[.int .i64 p1, .int .i64 p2] 23) = w4 := ⟨_, rfl⟩
  have hb4 : Below w3.heap.size w3 w4 := by rw [← hw4]; exact (Below.refl _ w3).alloc (Nat.le_refl _) _
  have hL : w4.heap[w3.heap.size]? = some (.cells #[.int .i64 p1, .int .i64 p2] 23 (0, 0)) := by rw [← hw4]; exact heap_alloc_new w3 _
  have hBL : w3.heap.size ≠ B := by have := h5.lt; omega
  replace h5 : Hid (RBlk w4 B r3) := h5.later hb4
  replace HO : Hid (Oth B w w4) := grown_trans HO.out (Oth.of_below hb4)
  replace hP : Hid _ := blk_later hP.out hb4
  obtain ⟨l0, l1, _, _⟩ := two_cells hL
  have HL : Hid (w4.heap[w3.heap.size]? = some (.cells #[.int .i64 p1, .int .i64 p2] 23 (0, 0))) := hL
  have HBL : Hid (w3.heap.size ≠ B) := hBL
  have HDG2 : Hid _ := HDG.out w4 h5.out
  clear h5 h6 hb4 hL hBL HPA2 HDG
  go_wp2_with fail
  refine Calls.mono HDG2.out ?_
  rintro e w5 ⟨v, rfl, h7, h8, h9⟩
  replace HO : Hid (Oth B w w5) := grown_trans HO.out h9
  replace hP : Hid _ := blk_oth hP.out h9 HNE.out
  replace HL : Hid _ := blk_oth HL.out h9 HBL.out
  have HLS2 : Hid _ := HLS.out w5 v h8 h7
  have hP5 := hP
  clear HDG2 HLS h7 h8 h9 l0 l1
  go_wp2_with fail
  refine Calls.mono HLS2.out ?_
  rintro e w6 ⟨u, rfl, h10, h11, h12⟩
  replace HO : Hid (Oth B w w6) := grown_trans HO.out h12
  replace hP : Hid _ := blk_oth hP.out h12 HNE.out
  replace HL : Hid _ := blk_oth HL.out h12 HBL.out
  obtain ⟨ua, uc, rfl, _, _⟩ := id h10.lists
  have HPL : Hid (P < w5.heap.size) := (Array.getElem?_eq_some_iff.1 hP5.out).1
  have HU : Hid (ListsF w5.heap.size w6 (.slice ua o.length uc) o) := h10
  have HB6 : Hid (RBlk w6 B r5) := h11
  have HU6 : Hid (Lists w6.drew (.slice ua o.length uc) o) := h10.lists
  have HB6d : Hid (RBlk w6.drew B r5) := h11
  clear h10 h11 h12 HLS2
  go_wp2_with fail
  go_region_law (first
    | (go_simp; go_at_call 68; refine Calls.mono (HN.out _ HB6d.out) ?_; rintro e w7 ⟨rfl, h1, h2⟩; have HW3 : Hid _ := HW2.out w7 h1; have HU7 : Hid (Lists w7 (.slice ua o.length uc) o) := HU6.out.oth HB6d.out h2; replace h2 : Hid (Oth B w6 w7) := h2.undrew; clear h1)
    | (go_simp; go_at_call 27; refine Calls.mono (HTO.out _ _ (by first | exact HU7.out | exact HU6.out)) ?_; rintro e w7 ⟨rfl, rfl⟩)
    | (go_simp; go_at_call 63; refine Calls.mono HW3.out ?_; rintro e w8 ⟨rfl, h3, h4⟩; replace h3 : Hid (RBlk w8 B r7) := h3; replace h4 : Hid (Oth B w6 w8) := grown_trans h2.out h4))
  all_goals
    replace HO : Hid (Oth B w w8) := grown_trans HO.out h4.out
    obtain ⟨p0, p1', p2', f0, f1, f2⟩ := three_cells (blk_oth hP.out h4.out HNE.out)
    obtain ⟨l0, l1, _, _⟩ := two_cells (blk_oth HL.out h4.out HBL.out)
    have HU8 : Hid (ListsF w5.heap.size w8 (.slice ua o.length uc) o) := HU.out.oth HB6.out h4.out
    clear h4 h2 HW3 HU7 HU6 HU HL hP HB6 HB6d
    go_wp2
    refine bodyPost_ret (v := .agg #[.int .i64 p1, .int .i64 p2, .slice ua o.length uc]) ?r rfl ⟨_, rfl, (((HU8.out.past HPL.out (oth_set _ _ _ _)).past HPL.out (oth_set _ _ _ _)).past HPL.out (oth_set _ _ _ _)).mono (Nat.le_of_lt HPL.out), ?b1, ?b2⟩
    case r =>
      rw [results_cell rfl]
      go_simp
    case b1 => exact ((RBlk.set_other h3.out HNE.out).set_other HNE.out).set_other HNE.out
    case b2 => exact oth_new (oth_new (oth_new HO.out (Nat.le_of_eq hpb)) (Nat.le_of_eq hpb)) (Nat.le_of_eq hpb)

end Go.Proofs.YtbhngncnhabbkaaGreat
