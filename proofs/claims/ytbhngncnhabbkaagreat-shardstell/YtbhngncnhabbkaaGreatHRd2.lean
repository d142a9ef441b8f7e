/- The walks of what reads a shard: part, degrees, lists, shard. -/
import Derived.Test.YtbhngncnhabbkaaGreatHRd
namespace Go.Proofs.YtbhngncnhabbkaaGreat
open Go.RowKit

theorem numR_short (r : Sh.Rd) : (Sh.numR r).1.1.length ≤ r.1.length ∧ (-9223372036854775808 ≤ (Sh.numR r).2 ∧ (Sh.numR r).2 ≤ 9223372036854775807) := by
  unfold Sh.numR
  dsimp only
  by_cases h : (Vi.getS r.1 0).2.2 = true
  · rw [if_pos h]
    obtain ⟨_, h2, h3, _⟩ := Gp.getS_some r.1 0 h
    refine ⟨?_, by omega, by omega⟩
    show (r.1.drop _).length ≤ _
    rw [List.length_drop]; omega
  · rw [if_neg h]
    have h2 := (Sh.getS_false (l := r.1) (i := 0) (n := (Vi.getS r.1 0).1) (x := (Vi.getS r.1 0).2.1) (by rw [← (by simpa using h : (Vi.getS r.1 0).2.2 = false)])).1
    exact ⟨Nat.zero_le _, by omega, by omega⟩

theorem oth_new {B P i : Nat} {w W : World} {u : Value} (h : Oth B w W) (hP : w.heap.size ≤ P) : Oth B w (W.setCell ⟨P, i, none⟩ u) :=
  ⟨h.os, h.tape, h.output, by have := h.size; simpa [World.setCell] using this, fun k hk hne => (Below.heap_setCell _ _ _ _ (show k ≠ P by omega)).trans (h.block k hk hne)⟩
theorem Oth.undrew {B : Nat} {w w' : World} (h : Oth B w.drew w') : Oth B w w' := ⟨h.os, h.tape, h.output, h.size, h.block⟩
theorem RBlk.set_other {W : World} {B P i : Nat} {u : Value} {r : Sh.Rd} (h : RBlk W B r) (hne : P ≠ B) : RBlk (W.setCell ⟨P, i, none⟩ u) B r := (blk_other (Ne.symm hne)).trans h
theorem two_cells {W : World} {P : Nat} {x y : Value} {T : TypeId} (h : W.heap[P]? = some (.cells #[x, y] T (0, 0))) :
    W.cell? ⟨P, 0, none⟩ = some x ∧ W.cell? ⟨P, 1, none⟩ = some y ∧ W.frozen? ⟨P, 0, none⟩ = false ∧ W.frozen? ⟨P, 1, none⟩ = false := by
  refine ⟨?_, ?_, ?_, ?_⟩ <;> simp [World.cell?, World.frozen?, h]

theorem results_cell {fn : Func} {p : Tmp} {ty : TypeId} (h : fn.results = #[.cell p ty]) (tmps : Array Value) (P : Program) (w : World) :
    (results fn tmps).run P w = ((asAddr (tmps.getD p undef)).run P w).andThen fun a w₁ => (loadVar ty a).run P w₁ := by
  simp only [results, h]
  simp [Sem.run_bind, Result.andThen]
set_option maxHeartbeats 400000 in
theorem rpart_any (B : Nat) (r : Sh.Rd) (w : World) (h : RBlk w B r) (hl : r.1.length ≤ 1000000000000) :
    Calls Tryz.prog 65 #[.pointer (some ⟨B, 0, none⟩)] w fun e w' => e = .returned (.agg #[.int .i64 (Sh.partR r).2.1, .int .i64 (Sh.partR r).2.2]) ∧ RBlk w' B (Sh.partR r).1 ∧ Oth B w w' := by
  obtain ⟨wa, hwa⟩ : ∃ wa, w.alloc (.cells #[.int .i64 0, .int .i64 0] 23) = wa := ⟨_, rfl⟩
  have hba : Below w.heap.size w wa := by rw [← hwa]; exact (Below.refl _ w).alloc (Nat.le_refl _) _
  have hP : wa.heap[w.heap.size]? = some (.cells #[.int .i64 0, .int .i64 0] 23 (0, 0)) := by rw [← hwa]; exact heap_alloc_new _ _
  have HB : Hid (RBlk wa B r) := h.later hba
  have HNE : Hid (w.heap.size ≠ B) := by have := h.lt; rw [Hid]; omega
  have HO : Hid (Oth B w wa) := Oth.of_below hba
  replace hP : Hid _ := hP
  have hs1 := (numR_short r).1
  have HN1 : Hid (Calls _ _ _ _ _) := number_any' B r wa HB.out hl
  unfold Sh.partR
  generalize Sh.numR r = x1 at *
  obtain ⟨r1, a⟩ := x1
  dsimp only at hs1 HN1 ⊢
  have HN2 : Hid (∀ w1, RBlk w1 B r1 → Calls Tryz.prog 68 #[.pointer (some ⟨B, 0, none⟩)] w1 fun e w' => e = .returned (.int .i64 (Sh.numR r1).2) ∧ RBlk w' B (Sh.numR r1).1 ∧ Oth B w1 w') := fun w1 h1 => number_any' B r1 w1 h1 (by omega)
  generalize Sh.numR r1 = x2 at *
  obtain ⟨r2, b⟩ := x2
  dsimp only at HN2 ⊢
  have HM : Hid (∀ W, Calls Tryz.prog 38 #[.agg #[.int .i64 a, .int .i64 b]] W fun e w' => e = .returned (.bool (Sh.mayP (a, b))) ∧ Below W.heap.size W w') := fun W => smayP_any (a, b) W
  have HW : Hid (∀ w1, RBlk w1 B r2 → Calls Tryz.prog 63 #[.pointer (some ⟨B, 0, none⟩), .bool false] w1 fun e w' => e = .returned (.tuple #[]) ∧ RBlk w' B ([], true) ∧ Oth B w1 w') := fun w1 h1 => want_any B r2 false w1 h1
  clear h hba
  generalize hpb : w.heap.size = P at *
  cases hm : Sh.mayP (a, b) with
  | true =>
    rw [hm] at HM
    rw [if_pos rfl]
    dsimp only
    go_enter Tryz.func65, Tryz.ntmps65
    go_wp2_with fail
    refine Calls.mono HN1.out ?_
    rintro e w1 ⟨rfl, h1, h2⟩
    replace hP : Hid _ := blk_oth hP.out h2 HNE.out
    replace HO : Hid (Oth B w w1) := grown_trans HO.out h2
    have HN3 : Hid _ := HN2.out w1 h1
    clear HN1 HN2 h1 h2 HB
    go_wp2_with fail
    refine Calls.mono HN3.out ?_
    rintro e w2 ⟨rfl, h1, h2⟩
    replace hP : Hid _ := blk_oth hP.out h2 HNE.out
    replace HO : Hid (Oth B w w2) := grown_trans HO.out h2
    replace h1 : Hid _ := h1
    clear HN3 h2
    go_wp2_with fail
    refine (HM.out _).mono ?_
    rintro e w3 ⟨rfl, hb3⟩
    have hb23 : Below w2.heap.size w2 w3 := bnext ((Below.refl _ w2).alloc (Nat.le_refl _) _) hb3
    have HP2 : Hid _ := blk_later hP.out hb23
    obtain ⟨p0, p1, p2, p3⟩ := two_cells HP2.out
    have hL : w3.heap[w2.heap.size]? = some (.cells #[.int .i64 a, .int .i64 b] 23 (0, 0)) := blk_later (heap_alloc_new w2 _) hb3
    obtain ⟨l0, l1, _, _⟩ := two_cells hL
    replace h1 : Hid (RBlk w3 B r2) := RBlk.later h1.out hb23
    replace HO : Hid (Oth B w w3) := grown_trans HO.out (Oth.of_below hb23)
    clear hb3 hb23 hL HM
    clear HW
    go_wp2
    refine bodyPost_ret (v := .agg #[.int .i64 a, .int .i64 b]) ?r rfl ⟨rfl, ?b1, ?b2⟩
    case r =>
      rw [results_cell rfl]
      go_simp
    case b1 => exact (RBlk.set_other h1.out HNE.out).set_other HNE.out
    case b2 => exact oth_new (oth_new HO.out (Nat.le_of_eq hpb)) (Nat.le_of_eq hpb)
  | false =>
    rw [hm] at HM
    rw [if_neg (by simp)]
    dsimp only
    go_enter Tryz.func65, Tryz.ntmps65
    go_wp2_with fail
    refine Calls.mono HN1.out ?_
    rintro e w1 ⟨rfl, h1, h2⟩
    replace hP : Hid _ := blk_oth hP.out h2 HNE.out
    replace HO : Hid (Oth B w w1) := grown_trans HO.out h2
    have HN3 : Hid _ := HN2.out w1 h1
    clear HN1 HN2 h1 h2 HB
    go_wp2_with fail
    refine Calls.mono HN3.out ?_
    rintro e w2 ⟨rfl, h1, h2⟩
    replace hP : Hid _ := blk_oth hP.out h2 HNE.out
    replace HO : Hid (Oth B w w2) := grown_trans HO.out h2
    replace h1 : Hid _ := h1
    clear HN3 h2
    go_wp2_with fail
    refine (HM.out _).mono ?_
    rintro e w3 ⟨rfl, hb3⟩
    have hb23 : Below w2.heap.size w2 w3 := bnext ((Below.refl _ w2).alloc (Nat.le_refl _) _) hb3
    have HP2 : Hid _ := blk_later hP.out hb23
    obtain ⟨p0, p1, p2, p3⟩ := two_cells HP2.out
    have hL : w3.heap[w2.heap.size]? = some (.cells #[.int .i64 a, .int .i64 b] 23 (0, 0)) := blk_later (heap_alloc_new w2 _) hb3
    obtain ⟨l0, l1, _, _⟩ := two_cells hL
    replace h1 : Hid (RBlk w3 B r2) := RBlk.later h1.out hb23
    replace HO : Hid (Oth B w w3) := grown_trans HO.out (Oth.of_below hb23)
    clear hb3 hb23 hL HM
    have HW2 : Hid _ := HW.out w3 h1.out
    have HP3 : Hid (∀ w4, Oth B w3 w4 → w4.cell? ⟨P, 0, none⟩ = some (.int .i64 0) ∧ w4.cell? ⟨P, 1, none⟩ = some (.int .i64 0) ∧ w4.frozen? ⟨P, 0, none⟩ = false ∧ w4.frozen? ⟨P, 1, none⟩ = false) := fun w4 h4 => two_cells (T := 23) (blk_oth HP2.out h4 HNE.out)
    clear HW p0 p1 p2 p3 l0 l1
    go_wp2_with fail
    refine Calls.mono HW2.out ?_
    rintro e w4 ⟨rfl, h5, h6⟩
    obtain ⟨p0, p1, p2, p3⟩ := HP3.out _ h6
    replace HO : Hid (Oth B w w4) := grown_trans HO.out h6
    replace h5 : Hid (RBlk w4 B ([], true)) := h5
    clear h6 HW2 HP3
    go_wp2
    refine bodyPost_ret (v := .agg #[.int .i64 0, .int .i64 0]) ?r rfl ⟨rfl, ?b1, ?b2⟩
    case r =>
      rw [results_cell rfl]
      go_simp
    case b1 => exact (RBlk.set_other h5.out HNE.out).set_other HNE.out
    case b2 => exact oth_new (oth_new HO.out (Nat.le_of_eq hpb)) (Nat.le_of_eq hpb)

theorem octR_short (r : Sh.Rd) : (Sh.octR r).1.1.length ≤ r.1.length ∧ (Sh.octR r).2 ≤ 255 := by
  have h := (textR_short r 1).2
  unfold Sh.octR
  refine ⟨h, ?_⟩
  have := UInt8.toNat_lt ((Sh.textR r 1).2.headD 0)
  dsimp only
  omega
theorem wantR_short (r : Sh.Rd) (ok : Bool) : (Sh.wantR r ok).1.length ≤ r.1.length := by
  cases ok
  · exact Nat.zero_le _
  · exact Nat.le_refl _
theorem unpack_fit (s : List UInt8) (m n : Int) : Pk.Fit (Pk.unpack s m n).1 ∧ (Pk.unpack s m n).1.length ≤ 65536 := by
  unfold Pk.unpack
  by_cases h1 : ¬ (0 ≤ n ∧ n ≤ 32) ∨ m < 0
  · rw [if_pos h1]; exact ⟨fun z hz => by simp at hz, Nat.zero_le _⟩
  · by_cases h2 : 65536 < m
    · rw [if_neg h1, if_pos h2]; exact ⟨fun z hz => by simp at hz, Nat.zero_le _⟩
    · rw [if_neg h1, if_neg h2]
      by_cases h3 : Pk.Ok s n.toNat m.toNat
      · rw [if_pos h3]
        refine ⟨fun z hz => ?_, by rw [Pk.un_length]; omega⟩
        have h4 := Pk.may_un s n.toNat m.toNat z hz
        have h5 := Pk.pow32 n.toNat (by omega)
        have h6 : ((2 : Int) ^ n.toNat) = ((2 ^ n.toNat : Nat) : Int) := by rw [Int.natCast_pow]; rfl
        omega
      · rw [if_neg h3]; exact ⟨fun z hz => by simp at hz, Nat.zero_le _⟩
theorem tabR_short (r : Sh.Rd) (m w : Nat) : (Sh.tabR r m w).1.1.length ≤ r.1.length ∧ Pk.Fit (Sh.tabR r m w).2 ∧ (Sh.tabR r m w).2.length ≤ 65536 := by
  have h := textR_short r ((m * w + 7) / 8)
  unfold Sh.tabR
  exact ⟨Nat.le_trans (wantR_short _ _) h.2, unpack_fit _ _ _⟩

set_option maxHeartbeats 400000 in
theorem rdegrees_any (B : Nat) (r : Sh.Rd) (m : Nat) (w : World) (h : RBlk w B r) (hl : r.1.length ≤ 1000000000000) (hm : m ≤ 256) :
    Calls Tryz.prog 67 #[.pointer (some ⟨B, 0, none⟩), .int .i64 m] w fun e w' => ∃ v, e = .returned v ∧ Ints w' v (Sh.degR r m).2 ∧ RBlk w' B (Sh.degR r m).1 ∧ Oth B w w' := by
  have HO : Hid (Calls _ _ _ _ _) := octet_any B r w h hl
  have hs := octR_short r
  unfold Sh.degR
  generalize Sh.octR r = x at *
  obtain ⟨r1, n⟩ := x
  dsimp only at hs HO ⊢
  have HT : Hid (∀ w1, RBlk w1 B r1 → Calls Tryz.prog 93 #[.pointer (some ⟨B, 0, none⟩), .int .i64 m, .int .i64 n] w1 fun e w' => ∃ v, e = .returned v ∧ Ints w' v (Sh.tabR r1 m n).2 ∧ RBlk w' B (Sh.tabR r1 m n).1 ∧ Oth B w1 w') := fun w1 h1 => table_any B r1 m n w1 h1 (by omega) hm hs.2
  have hts := tabR_short r1 m n
  generalize Sh.tabR r1 m n = y at *
  obtain ⟨r2, l⟩ := y
  dsimp only at hts HT ⊢
  obtain ⟨b, hb, hb2⟩ : ∃ b, (((Pk.wid l : Nat) : Int) == (n : Int)) = b ∧ decide (Pk.wid l = n) = b := ⟨_, rfl, by rw [Bool.eq_iff_iff]; simp; omega⟩
  rw [hb2]
  have HWD : Hid (∀ W v, Ints W v l → Calls Tryz.prog 54 #[v] W fun e w' => e = .returned (.int .i64 (Pk.wid l)) ∧ w' = W) := fun W v hI => width_any v l W hI hts.2.1 (by omega)
  have HW : Hid (∀ w1, RBlk w1 B r2 → Calls Tryz.prog 63 #[.pointer (some ⟨B, 0, none⟩), .bool b] w1 fun e w' => e = .returned (.tuple #[]) ∧ RBlk w' B (Sh.wantR r2 b) ∧ Oth B w1 w') := fun w1 h1 => want_any B r2 b w1 h1
  generalize Pk.wid l = wd at *
  clear h hb2 hts
  go_enter Tryz.func67, Tryz.ntmps67
  go_wp2_with fail
  refine Calls.mono HO.out ?_
  rintro e w1 ⟨rfl, h1, h2⟩
  replace h2 : Hid (Oth B w w1) := h2
  have HT2 : Hid _ := HT.out w1 h1
  clear HO HT h1
  go_wp2_with fail
  refine Calls.mono HT2.out ?_
  rintro e w2 ⟨v, rfl, h3, h4, h5⟩
  replace h2 : Hid (Oth B w w2) := grown_trans h2.out h5
  have HWD2 : Hid _ := HWD.out w2.drew v h3
  have HW2 : Hid _ := HW.out w2.drew h4
  replace h3 : Hid (Ints w2 v l) := h3
  replace h4 : Hid (RBlk w2 B r2) := h4
  clear HT2 HWD HW h5
  go_wp2_with fail
  go_region_law (first
    | (go_simp; go_at_call 54; refine Calls.mono HWD2.out ?_; rintro e w3 ⟨rfl, rfl⟩)
    | (go_simp; go_at_call 63; refine Calls.mono HW2.out ?_; rintro e w3 ⟨rfl, h5, h6⟩; replace h5 : Hid (RBlk w3 B (Sh.wantR r2 b)) := h5; replace h6 : Hid (Oth B w2 w3) := h6.undrew))
  all_goals go_wp2
  all_goals go_ret
  all_goals exact ⟨v, rfl, h3.out.oth h4.out h6.out, h5.out, grown_trans h2.out h6.out⟩

end Go.Proofs.YtbhngncnhabbkaaGreat
