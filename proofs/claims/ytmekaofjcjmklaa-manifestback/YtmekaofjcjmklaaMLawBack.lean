/- THE STATEMENT ManifestBack: what is encoded is decoded, and unlike graphs have unlike bytes. For every two lists of bytes and every two uint16. No conditions. -/
import Derived.Test.YtmekaofjcjmklaaMTwo
import Derived.Deep.RegionHeld3
namespace Go.Proofs.Ytmekaofjcjmklaa
open Go.ChangeShapes Go.WideShapes Go.ChangeAt Go.RowKit Go.Deep

set_option maxHeartbeats 4000000 in
set_option maxRecDepth 100000 in
theorem manifestBack_walk (v0 : Value) (l0 : List UInt8) (v1 : Value) (l1 : List UInt8) (m0 m1 : Nat) (w : World) (h0 : Bts w v0 l0) (_hl0 : l0.length ≤ 9223372036854775807) (h1 : Bts w v1 l1) (_hl1 : l1.length ≤ 9223372036854775807) (hm0 : m0 < 65536) (hm1 : m1 < 65536) :
    Calls Try.prog 4 #[v0, v1, .agg #[.int .u16 m0, .int .u16 m1]] w fun e w' => e = .returned (.bool true) ∧ Below w.heap.size w w' := by
  obtain ⟨wa, hwa⟩ : ∃ wa, w.alloc (.cells #[.int .u16 m0, .int .u16 m1] 36) = wa := ⟨_, rfl⟩
  have c0 : wa.cell? ⟨w.heap.size, 0, none⟩ = some (.int .u16 m0) := by rw [← hwa]; simp
  have c1 : wa.cell? ⟨w.heap.size, 1, none⟩ = some (.int .u16 m1) := by rw [← hwa]; simp
  have HB : Hid (Below w.heap.size w wa) := by rw [Hid, ← hwa]; exact (Below.refl _ w).alloc (Nat.le_refl _) _
  have HSZ : w.heap.size < wa.heap.size := by rw [← hwa]; simp
  have HV0 : Hid (Bts wa v0 l0) := h0.later HB.out
  have HV1 : Hid (Bts wa v1 l1) := h1.later HB.out
  have HMA : Hid (∀ W, Bts W v0 l0 → _) := fun W h => made_any v0 l0 m0 W h hm0
  have HMC : Hid (∀ W, Bts W v1 l1 → _) := fun W h => made_any v1 l1 m1 W h hm1
  have HDO : Hid (∀ W, Calls Try.prog 14 #[] W fun e w' => e = .returned (.bool true) ∧ Below W.heap.size W w') := fun W => mdoes_any W
  have hck0 := Mf.mkG_chk l0 m0
  have hck1 := Mf.mkG_chk l1 m1
  have hl16 := Mf.mkG_len l0 m0
  have hr16 := Mf.mkG_len l1 m1
  generalize Mf.mkG l0 m0 = s at *
  generalize Mf.mkG l1 m1 = t at *
  obtain ⟨va, vc, rfl, _, _⟩ := id h0
  obtain ⟨vb, vd, rfl, _, _⟩ := id h1
  obtain ⟨⟨p1, p2⟩, q⟩ := s
  obtain ⟨⟨r1, r2⟩, k⟩ := t
  unfold gcells at HMA HMC
  dsimp only at HMA HMC hl16 hr16
  clear h0 h1
  go_enter Try.func4, Try.ntmps4
  go_wp2_with fail
  refine Code.wp_mono (Q := fun e a W => e = Exit.normal ∧ ∃ (P Q : Nat) (u v : Value), a = { tmps := #[.slice va l0.length vc, .slice vb l1.length vd, .agg #[.int .u16 m0, .int .u16 m1], undef, undef, .pointer (some ⟨w.heap.size, 0, none⟩), .bool false, .pointer (some ⟨P, 0, none⟩), .pointer (some ⟨Q, 0, none⟩), undef, undef, undef, undef, undef, undef, undef, undef, .slice va l0.length vc, .pointer (some ⟨w.heap.size, 0, none⟩), .int .u16 m0, .agg #[.int .i64 p1, .int .i64 p2, u], .slice vb l1.length vd, .pointer (some ⟨w.heap.size, 1, none⟩), .int .u16 m1, .agg #[.int .i64 r1, .int .i64 r2, v], undef, undef, undef, undef, undef, undef, undef, undef, undef, undef, undef, undef, undef, undef, undef, undef, undef, undef, undef, undef, undef, undef, undef, undef, undef, undef, undef, undef, undef, undef, undef, undef, undef, undef, undef, undef, undef, undef, undef, undef, undef, undef, undef, undef, undef, undef, undef, undef, undef, undef, undef, undef, undef, undef, undef, undef, undef, undef, undef, undef, undef, undef, undef, undef, undef, undef, undef, undef, undef, undef, undef, undef, undef, undef, undef, undef, undef, undef, undef, undef, undef, undef, undef, undef, undef], defers := [] } ∧ Both wa W P Q ((p1, p2), q) ((r1, r2), k) u v) ?imp ?wp
  case wp =>
    have hd0 : Two wa w.heap.size (.int .u16 m0) (.int .u16 m1) wa := ⟨Below.refl _ _, c0, c1⟩
    have hd : Two wa w.heap.size (.int .u16 m0) (.int .u16 m1) wa.drew := ⟨(Below.refl _ _).drew, c0, c1⟩
    go_region_held3 (fun W => Below wa.heap.size wa W ∧ W.cell? ⟨w.heap.size, 0, none⟩ = some (.int .u16 m0) ∧ W.cell? ⟨w.heap.size, 1, none⟩ = some (.int .u16 m1)) (first | with_reducible assumption | with_reducible exact two_drew (two_alloc _ hd0) | with_reducible exact two_drew (two_alloc _ (two_alloc _ hd0)) | with_reducible exact two_alloc _ (by with_reducible assumption) | with_reducible exact two_alloc _ (two_alloc _ (by with_reducible assumption)) | with_reducible exact two_store3 (by with_reducible assumption) (by omega) (by omega))
      (first
      | (go_at_call_of 15 m0; refine Calls.mono (HMA.out _ (HV0.out.later (by with_reducible assumption : Below wa.heap.size wa _ ∧ _ ∧ _).1)) ?_; rintro e wA ⟨uA, rfl, hpA, hbA⟩; have B1 := two_later (by with_reducible assumption) hbA; (obtain ⟨aA, nA, cA, rfl⟩ := prtF_slice hpA); have szA := hbA.size; (try simp at szA); (try with_reducible have a1 : Zero wA wa.heap.size := (zd1 wa).later hbA); (try with_reducible have a1 : Zero wA wa.heap.size := (zd2 wa).later hbA); (try with_reducible have a2 : Zero wA (wa.heap.size + 1) := (zd3 wa).later hbA))
      | (go_at_call_of 15 m1; refine Calls.mono (HMC.out _ (HV1.out.later (by with_reducible assumption : Below wa.heap.size wa _ ∧ _ ∧ _).1)) ?_; rintro e wB ⟨uB, rfl, hpB, hbB⟩; have B2 := two_later (by with_reducible assumption) hbB; (obtain ⟨aB, nB, cB, rfl⟩ := prtF_slice hpB); have szB := hbB.size; (try simp at szB); (have kB : Below wA.heap.size wA wB := by first | with_reducible exact hbB | with_reducible exact bnext (below_one _ _) hbB | with_reducible exact bnext (below_two _ _ _) hbB); have hpA2 := hpA.later kB; (try with_reducible have b1 : Zero wB wa.heap.size := a1.later kB); (try with_reducible have b2 : Zero wB (wa.heap.size + 1) := a2.later kB); (try with_reducible have b3 : Zero wB wA.heap.size := (zero_new wA).later hbB); (try with_reducible have b3 : Zero wB wA.heap.size := (z2 wA).later hbB); (try with_reducible have b4 : Zero wB (wA.heap.size + 1) := (z3 wA).later hbB); (try (have hx := b1; obtain ⟨x0a, x0b, x0c, x0d, x0e, x0f⟩ := three_cells hx; clear hx)); (try (have hx := b1; obtain ⟨x1a, x1b, x1c, x1d, x1e, x1f⟩ := three_cells (hx.later (below_one wB zobj)); clear hx)); (try (have hx := b1; obtain ⟨x2a, x2b, x2c, x2d, x2e, x2f⟩ := three_cells (hx.later (below_one wB (gobj (.int .i64 p1) (.int .i64 p2) (.slice aA nA cA)))); clear hx)); (try (have hx := b1; have hn : wB.heap.size ≠ wa.heap.size := Nat.ne_of_gt hx.lt; obtain ⟨x3a, x3b, x3c, x3d, x3e, x3f⟩ := three_cells (three_stored (P := wa.heap.size) (p := .int .i64 p1) (q := .int .i64 p2) (r := .slice aA nA cA) hn (zero_new wB)); clear hx)); (try (have hx := b2; obtain ⟨x4a, x4b, x4c, x4d, x4e, x4f⟩ := three_cells hx; clear hx)); (try (have hx := b2; obtain ⟨x5a, x5b, x5c, x5d, x5e, x5f⟩ := three_cells (hx.later (below_one wB zobj)); clear hx)); (try (have hx := b2; obtain ⟨x6a, x6b, x6c, x6d, x6e, x6f⟩ := three_cells (hx.later (below_one wB (gobj (.int .i64 p1) (.int .i64 p2) (.slice aA nA cA)))); clear hx)); (try (have hx := b2; have hn : wB.heap.size ≠ wa.heap.size + 1 := Nat.ne_of_gt hx.lt; obtain ⟨x7a, x7b, x7c, x7d, x7e, x7f⟩ := three_cells (three_stored (P := wa.heap.size + 1) (p := .int .i64 p1) (q := .int .i64 p2) (r := .slice aA nA cA) hn (zero_new wB)); clear hx)); (try (have hx := b3; obtain ⟨x8a, x8b, x8c, x8d, x8e, x8f⟩ := three_cells hx; clear hx)); (try (have hx := b3; obtain ⟨x9a, x9b, x9c, x9d, x9e, x9f⟩ := three_cells (hx.later (below_one wB zobj)); clear hx)); (try (have hx := b3; obtain ⟨x10a, x10b, x10c, x10d, x10e, x10f⟩ := three_cells (hx.later (below_one wB (gobj (.int .i64 p1) (.int .i64 p2) (.slice aA nA cA)))); clear hx)); (try (have hx := b3; have hn : wB.heap.size ≠ wA.heap.size := Nat.ne_of_gt hx.lt; obtain ⟨x11a, x11b, x11c, x11d, x11e, x11f⟩ := three_cells (three_stored (P := wA.heap.size) (p := .int .i64 p1) (q := .int .i64 p2) (r := .slice aA nA cA) hn (zero_new wB)); clear hx)); (try (have hx := b4; obtain ⟨x12a, x12b, x12c, x12d, x12e, x12f⟩ := three_cells hx; clear hx)); (try (have hx := b4; obtain ⟨x13a, x13b, x13c, x13d, x13e, x13f⟩ := three_cells (hx.later (below_one wB zobj)); clear hx)); (try (have hx := b4; obtain ⟨x14a, x14b, x14c, x14d, x14e, x14f⟩ := three_cells (hx.later (below_one wB (gobj (.int .i64 p1) (.int .i64 p2) (.slice aA nA cA)))); clear hx)); (try (have hx := b4; have hn : wB.heap.size ≠ wA.heap.size + 1 := Nat.ne_of_gt hx.lt; obtain ⟨x15a, x15b, x15c, x15d, x15e, x15f⟩ := three_cells (three_stored (P := wA.heap.size + 1) (p := .int .i64 p1) (q := .int .i64 p2) (r := .slice aA nA cA) hn (zero_new wB)); clear hx)); (try (have hx := b2; have hy := b1; have hn : wa.heap.size + 1 ≠ wa.heap.size := (by omega); obtain ⟨x16a, x16b, x16c, x16d, x16e, x16f⟩ := three_cells (three_stored (P := wa.heap.size) (p := .int .i64 p1) (q := .int .i64 p2) (r := .slice aA nA cA) hn hx); clear hx)); (try (have hx := b3; have hy := b1; have hn : wA.heap.size ≠ wa.heap.size := (by omega); obtain ⟨x17a, x17b, x17c, x17d, x17e, x17f⟩ := three_cells (three_stored (P := wa.heap.size) (p := .int .i64 p1) (q := .int .i64 p2) (r := .slice aA nA cA) hn hx); clear hx)); (try (have hx := b4; have hy := b1; have hn : wA.heap.size + 1 ≠ wa.heap.size := (by omega); obtain ⟨x18a, x18b, x18c, x18d, x18e, x18f⟩ := three_cells (three_stored (P := wa.heap.size) (p := .int .i64 p1) (q := .int .i64 p2) (r := .slice aA nA cA) hn hx); clear hx)); (try (have hx := b1; have hy := b2; have hn : wa.heap.size ≠ wa.heap.size + 1 := (by omega); obtain ⟨x19a, x19b, x19c, x19d, x19e, x19f⟩ := three_cells (three_stored (P := wa.heap.size + 1) (p := .int .i64 p1) (q := .int .i64 p2) (r := .slice aA nA cA) hn hx); clear hx)); (try (have hx := b3; have hy := b2; have hn : wA.heap.size ≠ wa.heap.size + 1 := (by omega); obtain ⟨x20a, x20b, x20c, x20d, x20e, x20f⟩ := three_cells (three_stored (P := wa.heap.size + 1) (p := .int .i64 p1) (q := .int .i64 p2) (r := .slice aA nA cA) hn hx); clear hx)); (try (have hx := b4; have hy := b2; have hn : wA.heap.size + 1 ≠ wa.heap.size + 1 := (by omega); obtain ⟨x21a, x21b, x21c, x21d, x21e, x21f⟩ := three_cells (three_stored (P := wa.heap.size + 1) (p := .int .i64 p1) (q := .int .i64 p2) (r := .slice aA nA cA) hn hx); clear hx)); (try (have hx := b1; have hy := b3; have hn : wa.heap.size ≠ wA.heap.size := (by omega); obtain ⟨x22a, x22b, x22c, x22d, x22e, x22f⟩ := three_cells (three_stored (P := wA.heap.size) (p := .int .i64 p1) (q := .int .i64 p2) (r := .slice aA nA cA) hn hx); clear hx)); (try (have hx := b2; have hy := b3; have hn : wa.heap.size + 1 ≠ wA.heap.size := (by omega); obtain ⟨x23a, x23b, x23c, x23d, x23e, x23f⟩ := three_cells (three_stored (P := wA.heap.size) (p := .int .i64 p1) (q := .int .i64 p2) (r := .slice aA nA cA) hn hx); clear hx)); (try (have hx := b4; have hy := b3; have hn : wA.heap.size + 1 ≠ wA.heap.size := (by omega); obtain ⟨x24a, x24b, x24c, x24d, x24e, x24f⟩ := three_cells (three_stored (P := wA.heap.size) (p := .int .i64 p1) (q := .int .i64 p2) (r := .slice aA nA cA) hn hx); clear hx)); (try (have hx := b1; have hy := b4; have hn : wa.heap.size ≠ wA.heap.size + 1 := (by omega); obtain ⟨x25a, x25b, x25c, x25d, x25e, x25f⟩ := three_cells (three_stored (P := wA.heap.size + 1) (p := .int .i64 p1) (q := .int .i64 p2) (r := .slice aA nA cA) hn hx); clear hx)); (try (have hx := b2; have hy := b4; have hn : wa.heap.size + 1 ≠ wA.heap.size + 1 := (by omega); obtain ⟨x26a, x26b, x26c, x26d, x26e, x26f⟩ := three_cells (three_stored (P := wA.heap.size + 1) (p := .int .i64 p1) (q := .int .i64 p2) (r := .slice aA nA cA) hn hx); clear hx)); (try (have hx := b3; have hy := b4; have hn : wA.heap.size ≠ wA.heap.size + 1 := (by omega); obtain ⟨x27a, x27b, x27c, x27d, x27e, x27f⟩ := three_cells (three_stored (P := wA.heap.size + 1) (p := .int .i64 p1) (q := .int .i64 p2) (r := .slice aA nA cA) hn hx); clear hx)))
      | fail)
    all_goals
      refine ⟨rfl, _, _, _, _, rfl, ?_⟩
      first
      | with_reducible exact both_laid (g := ((p1, p2), q)) (k := ((r1, r2), k)) B2.1 hpA2 hpB
      | with_reducible exact both_laid2 (g := ((p1, p2), q)) (k := ((r1, r2), k)) B2.1 hpA2 hpB
      | with_reducible exact both_stored (g := ((p1, p2), q)) (k := ((r1, r2), k)) B2.1 (by with_reducible assumption) (by with_reducible assumption) (by omega) (by omega) (by omega) hpA2 hpB
      | with_reducible exact both_stored (g := ((p1, p2), q)) (k := ((r1, r2), k)) (two_alloc zobj B2).1 (Zero.later (by with_reducible assumption) (below_one wB zobj)) (zero_new wB) (by omega) (by omega) (by omega) (hpA2.later (below_one wB zobj)) (hpB.later (below_one wB zobj))
      | with_reducible exact both_second (g := ((p1, p2), q)) (k := ((r1, r2), k)) (two_alloc (gobj (.int .i64 p1) (.int .i64 p2) (.slice aA nA cA)) B2).1 (heap_alloc_new wB _) (Zero.later (by with_reducible assumption) (below_one wB _)) (by omega) (by omega) (hpA2.later (below_one wB _)) (hpB.later (below_one wB _))
  case imp =>
    rintro e a W ⟨rfl, P, Q, u, v, rfl, hbo⟩
    have GP : Hid (GBlk W P p1 p2 u) := hbo.one
    have GQ : Hid (GBlk W Q r1 r2 v) := hbo.two
    have PU : Hid (Prt W u q) := hbo.pone
    have PV : Hid (Prt W v k) := hbo.ptwo
    have HBW : Hid (Below w.heap.size w W) := HB.out.trans (hbo.below.mono (Nat.le_of_lt HSZ))
    obtain ⟨ua, uc, rfl, _, _⟩ := id hbo.pone
    obtain ⟨xa, xc, rfl, _, _⟩ := id hbo.ptwo
    clear hbo HMA HMC HV0 HV1 hwa c0 c1 HSZ HB
    have HC0 : Hid ((l0 = [] ∧ Mf.chk ((p1, p2), q) = 2) ∨ (0 < l0.length ∧ Mf.chk ((p1, p2), q) = 0)) := by
      by_cases e : l0 = []
      · rw [if_pos e] at hck0; exact .inl ⟨e, hck0⟩
      · rw [if_neg e] at hck0; exact .inr ⟨List.length_pos_iff.2 e, hck0⟩
    have HC1 : Hid ((l1 = [] ∧ Mf.chk ((r1, r2), k) = 2) ∨ (0 < l1.length ∧ Mf.chk ((r1, r2), k) = 0)) := by
      by_cases e : l1 = []
      · rw [if_pos e] at hck1; exact .inl ⟨e, hck1⟩
      · rw [if_neg e] at hck1; exact .inr ⟨List.length_pos_iff.2 e, hck1⟩
    have HE0 : Hid (∀ W u, Prt W u q → _) := fun W u h => menc_any ((p1, p2), q) u W h (by dsimp only; omega)
    have HE1 : Hid (∀ W u, Prt W u k → _) := fun W u h => menc_any ((r1, r2), k) u W h (by dsimp only; omega)
    unfold gcells at HE0 HE1
    dsimp only at HE0 HE1
    clear hck0 hck1
    obtain ⟨s0, s1, s2, _, _, _⟩ := three_cells GP.out
    have HE0W := HE0.out W _ PU.out
    rcases HC0.out with ⟨e0, ch0⟩ | ⟨e0, ch0⟩
    · subst e0
      rw [Mf.encS_no ch0, ch0] at HE0W
      replace HE0W : Hid _ := HE0W
      go_wp2_with fail
      refine Calls.mono HE0W.out ?_
      rintro e w1 ⟨rfl, hb1⟩
      replace GQ : Hid (GBlk w1 Q r1 r2 _) := blk_later GQ.out hb1
      obtain ⟨t0, t1, t2, _, _, _⟩ := three_cells GQ.out
      have HE1W := HE1.out w1 _ (PV.out.later hb1)
      replace HBW : Hid (Below w.heap.size w w1) := bnext HBW.out hb1
      clear hb1 HE0W s0 s1 s2 GP
      rcases HC1.out with ⟨e1, ch1⟩ | ⟨e1, ch1⟩
      · subst e1
        rw [Mf.encS_no ch1, ch1] at HE1W
        replace HE1W : Hid _ := HE1W
        go_wp2_with fail
        refine Calls.mono HE1W.out ?_
        rintro e w2 ⟨rfl, hb2⟩
        replace HBW : Hid (Below w.heap.size w w2) := bnext HBW.out hb2
        clear hb2 HE1W t0 t1 t2
        go_wp2_with fail
        refine Calls.mono (HDO.out _) ?_
        rintro e w3 ⟨rfl, hb3⟩
        replace HBW : Hid (Below w.heap.size w w3) := bnext HBW.out hb3
        clear hb3
        go_wp2
        go_ret
        exact ⟨rfl, HBW.out⟩
      · rw [ch1] at HE1W
        replace HE1W : Hid _ := HE1W
        generalize (⟨(Mf.encS ((r1, r2), k)).toArray⟩ : ByteArray) = f at *
        generalize l1.length = n1 at *
        go_wp2_with fail
        refine Calls.mono HE1W.out ?_
        rintro e w2 ⟨rfl, hb2⟩
        replace HBW : Hid (Below w.heap.size w w2) := bnext HBW.out hb2
        clear hb2 HE1W t0 t1 t2
        go_wp2_with fail
        refine Calls.mono (HDO.out _) ?_
        rintro e w3 ⟨rfl, hb3⟩
        replace HBW : Hid (Below w.heap.size w w3) := bnext HBW.out hb3
        clear hb3
        go_wp2
        go_ret
        exact ⟨rfl, HBW.out⟩
    · rcases HC1.out with ⟨e1, ch1⟩ | ⟨e1, ch1⟩
      · subst e1
        rw [ch0] at HE0W
        replace HE0W : Hid _ := HE0W
        generalize (⟨(Mf.encS ((p1, p2), q)).toArray⟩ : ByteArray) = f at *
        generalize l0.length = n0 at *
        go_wp2_with fail
        refine Calls.mono HE0W.out ?_
        rintro e w1 ⟨rfl, hb1⟩
        replace GQ : Hid (GBlk w1 Q r1 r2 _) := blk_later GQ.out hb1
        obtain ⟨t0, t1, t2, _, _, _⟩ := three_cells GQ.out
        have HE1W := HE1.out w1 _ (PV.out.later hb1)
        rw [Mf.encS_no ch1, ch1] at HE1W
        replace HE1W : Hid _ := HE1W
        replace HBW : Hid (Below w.heap.size w w1) := bnext HBW.out hb1
        clear hb1 HE0W s0 s1 s2 GP
        go_wp2_with fail
        refine Calls.mono HE1W.out ?_
        rintro e w2 ⟨rfl, hb2⟩
        replace HBW : Hid (Below w.heap.size w w2) := bnext HBW.out hb2
        clear hb2 HE1W t0 t1 t2
        go_wp2_with fail
        refine Calls.mono (HDO.out _) ?_
        rintro e w3 ⟨rfl, hb3⟩
        replace HBW : Hid (Below w.heap.size w w3) := bnext HBW.out hb3
        clear hb3
        go_wp2
        go_ret
        exact ⟨rfl, HBW.out⟩
      · obtain ⟨f, hf⟩ : ∃ f, (⟨(Mf.enc ((p1, p2), q)).toArray⟩ : ByteArray) = f := ⟨_, rfl⟩
        obtain ⟨g, hg⟩ : ∃ g, (⟨(Mf.enc ((r1, r2), k)).toArray⟩ : ByteArray) = g := ⟨_, rfl⟩
        rw [ch0, Mf.encS_yes ch0, hf] at HE0W
        have HD0 : Hid _ := mdec_yes ch0 hf
        have HD1 : Hid _ := mdec_yes ch1 hg
        have HS0 : Hid (∀ W u v, Prt W u q → Prt W v q → Calls Try.prog 13 #[.agg #[.int .i64 p1, .int .i64 p2, u], .agg #[.int .i64 p1, .int .i64 p2, v]] W fun e w' => e = .returned (.bool true) ∧ Below W.heap.size W w') := fun W u v h1 h2 => msame_yes (g := ((p1, p2), q)) W u v h1 h2 (by dsimp only; omega)
        have HS1 : Hid (∀ W u v, Prt W u k → Prt W v k → Calls Try.prog 13 #[.agg #[.int .i64 r1, .int .i64 r2, u], .agg #[.int .i64 r1, .int .i64 r2, v]] W fun e w' => e = .returned (.bool true) ∧ Below W.heap.size W w') := fun W u v h1 h2 => msame_yes (g := ((r1, r2), k)) W u v h1 h2 (by dsimp only; omega)
        have HS2 : Hid (∀ W u v, Prt W u q → Prt W v k → Calls Try.prog 13 #[.agg #[.int .i64 p1, .int .i64 p2, u], .agg #[.int .i64 r1, .int .i64 r2, v]] W fun e w' => e = .returned (.bool (decide ((((p1, p2), q) : Mf.Graph) = ((r1, r2), k)))) ∧ Below W.heap.size W w') := fun W u v h1 h2 => msame_any ((p1, p2), q) ((r1, r2), k) u v W h1 h2 (by dsimp only; omega) (by dsimp only; omega)
        have hni : (f.toList == g.toList) = decide ((((p1, p2), q) : Mf.Graph) = ((r1, r2), k)) := by
          rw [← hf, ← hg, ByteArray.toList_eq, ByteArray.toList_eq, Bool.eq_iff_iff, beq_iff_eq, decide_eq_true_eq]
          exact ⟨fun h => Mf.enc_inj ch0 ch1 h, fun h => by rw [h]⟩
        generalize decide ((((p1, p2), q) : Mf.Graph) = ((r1, r2), k)) = d at *
        have HE1F : Hid (∀ W u, Prt W u k → Calls Try.prog 7 #[.agg #[.int .i64 r1, .int .i64 r2, u]] W fun e w' => e = .returned (.tuple #[.string g, .int .i64 0]) ∧ Below W.heap.size W w') := fun W u h => menc_yes ch1 hg W u h
        unfold gcells at HD0 HD1
        dsimp only at HD0 HD1
        replace HE0W : Hid _ := HE0W
        clear hf hg ch0 ch1 HC0 HC1 HE0 HE1
        generalize l0.length = n0 at *
        generalize l1.length = n1 at *
        go_wp2_with fail
        refine Calls.mono HE0W.out ?_
        rintro e w1 ⟨rfl, hb1⟩
        replace GP : Hid (GBlk w1 P p1 p2 _) := blk_later GP.out hb1
        replace GQ : Hid (GBlk w1 Q r1 r2 _) := blk_later GQ.out hb1
        replace PU : Hid (Prt w1 _ q) := PU.out.later hb1
        replace PV : Hid (Prt w1 _ k) := PV.out.later hb1
        obtain ⟨t0, t1, t2, _, _, _⟩ := three_cells GQ.out
        have HE1W : Hid _ := HE1F.out w1 _ PV.out
        replace HBW : Hid (Below w.heap.size w w1) := bnext HBW.out hb1
        clear hb1 HE0W s0 s1 s2 HE1F
        go_wp2_with fail
        refine Calls.mono HE1W.out ?_
        rintro e w2 ⟨rfl, hb2⟩
        replace GP : Hid (GBlk w2 P p1 p2 _) := blk_later GP.out hb2
        replace GQ : Hid (GBlk w2 Q r1 r2 _) := blk_later GQ.out hb2
        replace PU : Hid (Prt w2 _ q) := PU.out.later hb2
        replace PV : Hid (Prt w2 _ k) := PV.out.later hb2
        replace HBW : Hid (Below w.heap.size w w2) := bnext HBW.out hb2
        have HD0W : Hid _ := HD0.out w2
        clear hb2 HE1W t0 t1 t2 HD0
        go_wp2_with fail
        refine Calls.mono HD0W.out ?_
        rintro e w3 ⟨y, rfl, hy, hb3⟩
        obtain ⟨ya, yc, rfl, _, _⟩ := id hy
        obtain ⟨w4, hw4⟩ : ∃ w4, w3.alloc (.cells #[.int .i64 p1, .int .i64 p2, .slice ya q.length yc] 24) = w4 := ⟨_, rfl⟩
        have hb34 : Below w3.heap.size w3 w4 := by rw [← hw4]; exact (Below.refl _ w3).alloc (Nat.le_refl _) _
        have GY : Hid (GBlk w4 w3.heap.size p1 p2 (.slice ya q.length yc)) := by rw [Hid, ← hw4]; exact heap_alloc_new _ _
        have PY : Hid (Prt w4 _ q) := hy.later hb34
        have hb24 := bnext hb3 hb34
        replace GP : Hid (GBlk w4 P p1 p2 _) := blk_later GP.out hb24
        replace GQ : Hid (GBlk w4 Q r1 r2 _) := blk_later GQ.out hb24
        replace PU : Hid (Prt w4 _ q) := PU.out.later hb24
        replace PV : Hid (Prt w4 _ k) := PV.out.later hb24
        replace HBW : Hid (Below w.heap.size w w4) := bnext HBW.out hb24
        have HD1W : Hid _ := HD1.out w4
        clear hy hb3 hb34 hb24 HD0W HD1
        go_wp2_with fail
        refine Calls.mono HD1W.out ?_
        rintro e w5 ⟨z, rfl, hz, hb5⟩
        obtain ⟨za, zc, rfl, _, _⟩ := id hz
        obtain ⟨w6, hw6⟩ : ∃ w6, w5.alloc (.cells #[.int .i64 r1, .int .i64 r2, .slice za k.length zc] 24) = w6 := ⟨_, rfl⟩
        have hb56 : Below w5.heap.size w5 w6 := by rw [← hw6]; exact (Below.refl _ w5).alloc (Nat.le_refl _) _
        have GZ : Hid (GBlk w6 w5.heap.size r1 r2 (.slice za k.length zc)) := by rw [Hid, ← hw6]; exact heap_alloc_new _ _
        have PZ : Hid (Prt w6 _ k) := hz.later hb56
        have hb46 := bnext hb5 hb56
        replace GP : Hid (GBlk w6 P p1 p2 _) := blk_later GP.out hb46
        replace GQ : Hid (GBlk w6 Q r1 r2 _) := blk_later GQ.out hb46
        replace GY : Hid (GBlk w6 w3.heap.size p1 p2 _) := blk_later GY.out hb46
        replace PU : Hid (Prt w6 _ q) := PU.out.later hb46
        replace PV : Hid (Prt w6 _ k) := PV.out.later hb46
        replace PY : Hid (Prt w6 _ q) := PY.out.later hb46
        replace HBW : Hid (Below w.heap.size w w6) := bnext HBW.out hb46
        have HSA : Hid _ := HS0.out w6 _ _ PY.out PU.out
        obtain ⟨s0, s1, s2, _, _, _⟩ := three_cells GP.out
        obtain ⟨o0, o1, o2, _, _, _⟩ := three_cells GY.out
        clear hz hb5 hb56 hb46 HD1W HS0 hw4
        go_wp2_with fail
        refine Calls.mono HSA.out ?_
        rintro e w7 ⟨rfl, hb7⟩
        replace GP : Hid (GBlk w7 P p1 p2 _) := blk_later GP.out hb7
        replace GQ : Hid (GBlk w7 Q r1 r2 _) := blk_later GQ.out hb7
        replace GZ : Hid (GBlk w7 w5.heap.size r1 r2 _) := blk_later GZ.out hb7
        replace PU : Hid (Prt w7 _ q) := PU.out.later hb7
        replace PV : Hid (Prt w7 _ k) := PV.out.later hb7
        replace PZ : Hid (Prt w7 _ k) := PZ.out.later hb7
        replace HBW : Hid (Below w.heap.size w w7) := bnext HBW.out hb7
        have HSB : Hid _ := HS1.out w7 _ _ PZ.out PV.out
        obtain ⟨t0, t1, t2, _, _, _⟩ := three_cells GQ.out
        obtain ⟨z0, z1, z2, _, _, _⟩ := three_cells GZ.out
        clear hb7 HSA HS1 s0 s1 s2 o0 o1 o2 hw6 GY PY
        go_wp2_with fail
        refine Calls.mono HSB.out ?_
        rintro e w8 ⟨rfl, hb8⟩
        replace GP : Hid (GBlk w8 P p1 p2 _) := blk_later GP.out hb8
        replace GQ : Hid (GBlk w8 Q r1 r2 _) := blk_later GQ.out hb8
        replace PU : Hid (Prt w8 _ q) := PU.out.later hb8
        replace PV : Hid (Prt w8 _ k) := PV.out.later hb8
        replace HBW : Hid (Below w.heap.size w w8) := bnext HBW.out hb8
        have HSC : Hid _ := HS2.out w8 _ _ PU.out PV.out
        obtain ⟨s0, s1, s2, _, _, _⟩ := three_cells GP.out
        obtain ⟨t0, t1, t2, _, _, _⟩ := three_cells GQ.out
        clear hb8 HSB HS2 z0 z1 z2 GZ PZ
        go_wp2_with fail
        refine Calls.mono HSC.out ?_
        rintro e w9 ⟨rfl, hb9⟩
        replace HBW : Hid (Below w.heap.size w w9) := bnext HBW.out hb9
        clear hb9 HSC s0 s1 s2 t0 t1 t2
        go_wp2_with fail
        refine Calls.mono (HDO.out _) ?_
        rintro e w10 ⟨rfl, hb10⟩
        replace HBW : Hid (Below w.heap.size w w10) := bnext HBW.out hb10
        clear hb10
        go_wp2
        go_ret
        exact ⟨rfl, HBW.out⟩

set_option maxRecDepth 100000 in
theorem manifestBack_lifted (os : Os) (started : os.Started) (H : Type) (enc : TypeId × Value → H) :
    ReturnsInHanded {} Try.checked os 4 .any (Rows.manifestBackSpec.pre6 enc Try.prog Try.f4 Rows.manifestBackRow.domain false) (Rows.manifestBackSpec.post enc Try.prog Try.f4 false true false false) := by
  refine returnsInHanded_of_change (C := Try.checked) Try.own started (by kernel_rfl) Try.func4
    (ChangeSpec.witness6 (enc := enc) (C := Try.checked) false ⟨#[], #[.slice none 0 0, .slice none 0 0, .agg #[.int .u16 0, .int .u16 0]], []⟩ 8 (by kernel_rfl) (by kernel_rfl) (by kernel_rfl) (by kernel_rfl)) ?_
  intro W base args ds gs before hval0 hW hcnd _
  have hval : ∀ (j : Nat) t v, Try.f4.params[j]? = some t → args[j]? = some v → Value.okWide Try.prog W .any base t v := hval0
  have hW' := hW
  obtain ⟨p, q, hA0, hV, rfl, hfz, hnd⟩ := hW
  have hA : DataW.TrodAll enc Try.prog W 0 (fun _ => true) true Try.f4.params.toList args.toList ds p := hA0
  rw [Try.params4] at hA hval
  obtain ⟨v0, vs0, d0, ds0, p0, q0, hargs, rfl, rfl, h0, r0⟩ := trodAll_cons hA
  obtain ⟨v1, vs1, d1, ds1, p1, q1, rfl, rfl, rfl, h1, r1⟩ := trodAll_cons r0
  obtain ⟨v2, vs2, d2, ds2, p2, q2, rfl, rfl, rfl, h2, r2⟩ := trodAll_cons r1
  obtain ⟨rfl, rfl, rfl⟩ := trodAll_nil r2
  obtain rfl : args = #[v0, v1, v2] := by cases args; simp_all
  obtain ⟨rfl, rfl⟩ := trodVars_none hV
  have lt0 : ∀ x ∈ p0, x.block < W.heap.size := by obtain ⟨m, hm⟩ := h0; exact DataW.trod_lt m _ _ _ hm
  obtain ⟨l0, k0, n0⟩ := open_bts (hval 0 34 v0 rfl rfl) h0
  have lt1 : ∀ x ∈ p1, x.block < W.heap.size := by obtain ⟨m, hm⟩ := h1; exact DataW.trod_lt m _ _ _ hm
  obtain ⟨l1, k1, n1⟩ := open_bts (hval 1 34 v1 rfl rfl) h1
  have lt2 : ∀ x ∈ p2, x.block < W.heap.size := by obtain ⟨m, hm⟩ := h2; exact DataW.trod_lt m _ _ _ hm
  obtain ⟨a2, b2, rfl, sa2, sb2⟩ := open_two_u16 (hval 2 36 v2 rfl rfl) h2
  clear hA0 hval0
  refine (manifestBack_walk v0 l0 v1 l1 a2 b2 W k0 n0 k1 n1 sa2 sb2).mono fun e W' ⟨he, bel⟩ => ?_
  subst he
  exact ⟨_, rfl, _, _, _, [], _, [], hW', trodAll_mk1 (shut_bool Try.underlying4 _), (trodAll_cons_mk (Below.trod Try.laidOut (by kernel_rfl) (of_decide_eq_true (by kernel_rfl)) h0 bel lt0) (trodAll_cons_mk (Below.trod Try.laidOut (by kernel_rfl) (of_decide_eq_true (by kernel_rfl)) h1 bel lt1) (trodAll_cons_mk (Below.trod Try.laidOut (by kernel_rfl) (of_decide_eq_true (by kernel_rfl)) h2 bel lt2) trodAll_mk0))), rfl, bel.frame _, fun h => by cases h⟩

theorem manifestBack_holds : Rows.ManifestBackSaid :=
  OpenClaim.holds_of_wide 4 Try.f4 rfl rfl rfl rfl rfl rfl rfl ⟨rfl, rfl, rfl, rfl, rfl⟩ rfl rfl rfl rfl rfl (by kernel_rfl) Try.func4 (by kernel_rfl)
    (of_decide_eq_true (by kernel_rfl)) (by unfold Func.isWrapper; first | (rw [if_pos (by decide +kernel)]; kernel_rfl) | (rw [if_neg (by decide +kernel)]; exact ⟨rfl, rfl⟩))
    (fun os started H enc _ => manifestBack_lifted os started H enc)

end Go.Proofs.Ytmekaofjcjmklaa
