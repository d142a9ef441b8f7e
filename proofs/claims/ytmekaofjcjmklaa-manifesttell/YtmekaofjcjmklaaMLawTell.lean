/- THE STATEMENT ManifestTell: whether any graph may be, its bytes, and the graph that any bytes say, are what the document's own functions tell; the list stays. For every graph and every string; of more than 100 parts or more than 2000 bytes nothing is asked. -/
import Derived.Test.YtmekaofjcjmklaaMTwo
import Derived.ChangeArms
import Derived.ChangeMaps5
import Derived.Deep.RegionHeld3
namespace Go.Proofs.Ytmekaofjcjmklaa
open Go.ChangeShapes Go.WideShapes Go.ChangeAt Go.RowKit Go.Deep
open Go.ChangeMaps (open_string shut_string)

/-- A later world, in which a graph stands in its block. -/
abbrev Three (w : World) (b : Nat) (x y z : Value) (W : World) : Prop := Below w.heap.size w W ∧ W.cell? ⟨b, 0, none⟩ = some x ∧ W.cell? ⟨b, 1, none⟩ = some y ∧ W.cell? ⟨b, 2, none⟩ = some z
theorem three_later {w W W' : World} {b : Nat} {x y z : Value} (h : Three w b x y z W) (hb : Below W.heap.size W W') : Three w b x y z W' := ⟨bnext h.1 hb, cell_after hb h.2.1, cell_after hb h.2.2.1, cell_after hb h.2.2.2⟩
theorem three_alloc {w W : World} {b : Nat} {x y z : Value} (o : Obj) (h : Three w b x y z W) : Three w b x y z (W.alloc o) := three_later h ((Below.refl _ W).alloc (Nat.le_refl _) _)
theorem three_drew {w W : World} {b : Nat} {x y z : Value} (h : Three w b x y z W) : Three w b x y z W.drew := ⟨h.1.drew, h.2.1, h.2.2.1, h.2.2.2⟩
theorem three_set {w W : World} {b P : Nat} {x y z p q r : Value} (h : Three w b x y z W) (hne : b ≠ P) (hP : w.heap.size ≤ P) : Three w b x y z (((W.setCell ⟨P, 0, none⟩ p).setCell ⟨P, 1, none⟩ q).setCell ⟨P, 2, none⟩ r) := by
  have key : ∀ (V : World) (i j : Nat) (t v : Value), V.cell? ⟨b, i, none⟩ = some v → (V.setCell ⟨P, j, none⟩ t).cell? ⟨b, i, none⟩ = some v := fun V i j t v hv => by
    rw [World.cell?_setCell_other _ _ _ _ (fun e => hne (congrArg Addr.block e).symm), hv]
  exact ⟨((h.1.setCell hP _).setCell hP _).setCell hP _, key _ _ _ _ _ (key _ _ _ _ _ (key _ _ _ _ _ h.2.1)), key _ _ _ _ _ (key _ _ _ _ _ (key _ _ _ _ _ h.2.2.1)), key _ _ _ _ _ (key _ _ _ _ _ (key _ _ _ _ _ h.2.2.2))⟩
theorem prt_news {W : World} {b off n cap : Nat} {l : List (Int × Int)} (h : Prt W (.slice (some ⟨b, off, none⟩) n cap) l) : ∀ j u, (pcells l)[j]? = some u → W.cell? ((⟨b, off, none⟩ : Addr).add j) = some u := by
  intro j u hj
  obtain ⟨a', cap', e, _, h⟩ := h
  rcases h with rfl | ⟨b', off', rfl, h⟩
  · simp [pcells] at hj
  · simp only [Value.slice.injEq, Option.some.injEq, Addr.mk.injEq, and_true] at e
    obtain ⟨⟨rfl, rfl⟩, _⟩ := e
    rw [Addr.add_lit]
    exact cells_of h j u hj
theorem zlaid (X : World) : GBlk (X.alloc (.cells #[.int .i64 0, .int .i64 0, .slice none 0 0] 24)).drew X.heap.size 0 0 (.slice none 0 0) := heap_alloc_new _ _
/-- What stands when the graph is stored that bears a copy of the parts. -/
structure Copied (w W : World) (P : Nat) (n m : Int) (l : List (Int × Int)) (v : Value) : Prop where
  blk : GBlk W P n m v
  prt : Prt W v l
  below : Below w.heap.size w W
theorem copied_laid {w W : World} {n m : Int} {l : List (Int × Int)} {v : Value} (hp : Prt W v l) (hb : Below w.heap.size w W) : Copied w (W.alloc (.cells #[.int .i64 n, .int .i64 m, v] 24)) W.heap.size n m l v :=
  ⟨heap_alloc_new _ _, hp.later (alloc_below _ _), hb.alloc hb.size _⟩
theorem prtF_mk {B n : Nat} {W : World} {u : Value} {l : List (Int × Int)} (h : W.ownsRow B 49 2 u n (pcells l)) : PrtF B W u l := ⟨n, h⟩
theorem copied_drew {w W : World} {P : Nat} {n m : Int} {l : List (Int × Int)} {v : Value} (h : Copied w W P n m l v) : Copied w W.drew P n m l v := ⟨h.blk, h.prt.later (Below.refl _ _).drew, h.below.drew⟩
theorem copied_set {w W : World} {P B : Nat} {n m : Int} {l : List (Int × Int)} {v : Value} (hz : Zero W P) (hP : w.heap.size ≤ P) (hp : PrtF B W v l) (hb : Below w.heap.size w W) :
    Copied w (store3 W P (.int .i64 n) (.int .i64 m) v) P n m l v :=
  ⟨store3_at hz, (store3_prt hp hz).prt, store3_below hb hP⟩

set_option maxHeartbeats 4000000 in
set_option maxRecDepth 100000 in
theorem manifestTell_walk (g : Mf.Graph) (u : Value) (s : ByteArray) (w : World) (h : Prt w u g.2) (_hl : g.2.length ≤ 9223372036854775807) (_hb : -9223372036854775808 ≤ g.1.1 ∧ g.1.1 ≤ 9223372036854775807) (_hc : -9223372036854775808 ≤ g.1.2 ∧ g.1.2 ≤ 9223372036854775807) (_hs : s.size ≤ maxLen) :
    Calls Try.prog 3 #[.agg (gcells g u), .string s] w fun e w' => e = .returned (.bool true) ∧ Below w.heap.size w w' := by
  obtain ⟨i0, hi0, hz0, hz1, hz2⟩ := info_parts Try.partInfo
  obtain ⟨⟨n, m⟩, l⟩ := g
  unfold gcells
  dsimp only at h _hl _hb _hc ⊢
  obtain ⟨a, cap, rfl, _, _⟩ := id h
  obtain ⟨wa, hwa⟩ : ∃ wa, w.alloc (.cells #[.int .i64 n, .int .i64 m, .slice a l.length cap] 24) = wa := ⟨_, rfl⟩
  have HG : Hid (GBlk wa w.heap.size n m (.slice a l.length cap)) := by rw [Hid, ← hwa]; exact heap_alloc_new _ _
  have HB : Hid (Below w.heap.size w wa) := by rw [Hid, ← hwa]; exact (Below.refl _ w).alloc (Nat.le_refl _) _
  have HSZ : w.heap.size < wa.heap.size := by rw [← hwa]; simp
  have HP : Hid (Prt wa (.slice a l.length cap) l) := h.later HB.out
  obtain ⟨c0, c1, c2, _, _, _⟩ := three_cells HG.out
  clear h
  by_cases hl : 100 < l.length
  · generalize l.length = k at *
    go_enter Try.func3, Try.ntmps3
    go_wp2
    go_ret
    exact ⟨rfl, HB.out⟩
  · by_cases hs : 2000 < s.size
    · generalize l.length = k at *
      go_enter Try.func3, Try.ntmps3
      go_wp2
      go_ret
      exact ⟨rfl, HB.out⟩
    · have HEA : Hid (∀ W u, Prt W u l → _) := fun W u h => menc_any ((n, m), l) u W h (by dsimp only; omega)
      have HEB : Hid (∀ W u, Prt W u l → _) := fun W u h => mrenc_any ((n, m), l) u W h (by dsimp only; omega)
      have HDA : Hid (∀ W, _) := fun W => mdec_any s W (by omega)
      have HDB : Hid (∀ W, _) := fun W => mrdec_any s W (by omega)
      have HCA : Hid (∀ W u, Prt W u l → _) := fun W u h => mchk_any ((n, m), l) u W h (by dsimp only; omega)
      have HCB : Hid (∀ W u, Prt W u l → _) := fun W u h => mrchk_any ((n, m), l) u W h (by dsimp only; omega)
      have HSA : Hid (∀ W u v, Prt W u l → Prt W v l → Calls Try.prog 13 #[.agg #[.int .i64 n, .int .i64 m, u], .agg #[.int .i64 n, .int .i64 m, v]] W fun e w' => e = .returned (.bool true) ∧ Below W.heap.size W w') := fun W u v h1 h2 => msame_yes (g := ((n, m), l)) W u v h1 h2 (by dsimp only; omega)
      have HDO : Hid (∀ W, Calls Try.prog 14 #[] W fun e w' => e = .returned (.bool true) ∧ Below W.heap.size W w') := fun W => mdoes_any W
      have hd16 : (Mf.decS s.data.toList).2.length ≤ 16 := by
        cases hd : Mf.dec s.data.toList with
        | none => rw [(Mf.told_no hd).2]; exact Nat.zero_le _
        | some g => rw [(Mf.told_yes hd).2]; exact (Mf.chk_iff.1 (Mf.dec_some hd).1).2.2.1
      have HSX : Hid (∀ W u v, Prt W u (Mf.decS s.data.toList).2 → Prt W v (Mf.decS s.data.toList).2 → _) := fun W u v h1 h2 => msame_yes (g := Mf.decS s.data.toList) W u v h1 h2 (by omega)
      unfold gcells at HEA HEB HDA HDB HCA HCB HSX
      dsimp only at HEA HEB HCA HCB
      generalize Mf.decS s.data.toList = ds at *
      generalize Mf.decE s.data.toList = de at *
      generalize (⟨(Mf.encS ((n, m), l)).toArray⟩ : ByteArray) = f at *
      generalize Mf.chk ((n, m), l) = r at *
      obtain ⟨⟨p, q⟩, k⟩ := ds
      dsimp only at HDA HDB HSX hd16
      go_enter Try.func3, Try.ntmps3
      go_wp2_with fail
      refine Code.wp_mono (Q := fun e ac W => e = Exit.normal ∧ ∃ (P : Nat) (v : Value) (x14 x15 x16 x17 x18 x19 x20 x21 x22 x23 x24 x25 x26 x27 x28 x29 x30 : Value), ac = { tmps := #[.agg #[.int .i64 n, .int .i64 m, .slice a l.length cap], .string s, .pointer (some ⟨w.heap.size, 0, none⟩), undef, .bool false, .pointer (some ⟨P, 0, none⟩), undef, undef, undef, undef, undef, undef, undef, undef, x14, x15, x16, x17, x18, x19, x20, x21, x22, x23, x24, x25, x26, x27, x28, x29, x30, undef, undef, undef, undef, undef, undef, undef, undef, undef, undef, undef, undef, undef, undef, undef, undef, undef, undef, undef, undef, undef, undef, undef, undef, undef, undef, undef, undef, undef, undef, undef, undef, undef, undef, undef, undef, undef, undef, undef, undef, undef, undef, undef, undef, undef, undef, undef, undef, undef, undef, undef, undef, undef], defers := [] } ∧ Copied wa W P n m l v) ?imp ?wp
      case wp =>
        clear hwa
        have hd0 : Three wa w.heap.size (.int .i64 n) (.int .i64 m) (.slice a l.length cap) wa := ⟨Below.refl _ _, c0, c1, c2⟩
        have hd : Three wa w.heap.size (.int .i64 n) (.int .i64 m) (.slice a l.length cap) wa.drew := three_drew hd0
        by_cases hl0 : l = []
        · have HL0 : Hid (l.length = 0) := by rw [Hid, hl0]; rfl
          have HLN : Hid (l = []) := hl0
          clear hl0
          go_region_held3 (fun W => Below wa.heap.size wa W ∧ W.cell? ⟨w.heap.size, 0, none⟩ = some (.int .i64 n) ∧ W.cell? ⟨w.heap.size, 1, none⟩ = some (.int .i64 m) ∧ W.cell? ⟨w.heap.size, 2, none⟩ = some (.slice a l.length cap)) (first | with_reducible assumption | with_reducible exact three_drew (three_alloc _ hd0) | with_reducible exact three_alloc _ (by with_reducible assumption) | with_reducible exact three_set (by with_reducible assumption) (by omega) (by omega))
            (first
            | (refine step_append_zero (by rfl) _ _ 22 (by rfl) 49 i0 Try.underlying22 hi0 none 0 0 (Nat.le_refl _) (by rfl) a l.length cap (by simp [Act.eval]) HL0.out ?_)
            | fail)
          all_goals
            refine ⟨rfl, _, .slice none 0 0, _, _, _, _, _, _, _, _, _, _, _, _, _, _, _, _, _, rfl, ?_⟩
            with_reducible exact copied_drew (copied_laid (by rw [HLN.out]; exact prt_nil _) (Below.refl _ _))
        · obtain ⟨b, off, rfl⟩ : ∃ b off, a = some ⟨b, off, none⟩ := by
            obtain ⟨a', cap', e, _, hh⟩ := HP.out
            simp only [Value.slice.injEq] at e
            obtain ⟨rfl, _, _⟩ := e
            rcases hh with h0 | ⟨b, off, rfl, _⟩
            · exact absurd h0 hl0
            · exact ⟨b, off, rfl⟩
          have hlp : 0 < l.length := List.length_pos_iff.2 hl0
          go_region_held3 (fun W => Below wa.heap.size wa W ∧ W.cell? ⟨w.heap.size, 0, none⟩ = some (.int .i64 n) ∧ W.cell? ⟨w.heap.size, 1, none⟩ = some (.int .i64 m) ∧ W.cell? ⟨w.heap.size, 2, none⟩ = some (.slice (some ⟨b, off, none⟩) l.length cap)) (first | with_reducible assumption | with_reducible exact three_drew (three_alloc _ hd0) | with_reducible exact three_alloc _ (by with_reducible assumption) | with_reducible exact three_set (by with_reducible assumption) (by omega) (by omega))
            (first
            | (have hS := (by with_reducible assumption : Three wa w.heap.size (.int .i64 n) (.int .i64 m) (.slice (some ⟨b, off, none⟩) l.length cap) _); refine step_append_own (by rfl) _ _ 22 (by rfl) wa.heap.size 49 i0 (.agg #[.int .i64 0, .int .i64 0]) 2 16 Try.underlying22 hi0 hz0 hz1 hz2 rfl (by omega) (.slice none 0 0) 0 [] (by rfl) (World.ownsRow_nil _ _ _ _) (some ⟨b, off, none⟩) _ rfl l.length cap (pcells l) (by simp [Act.eval]) (pcells_len l) (prt_news (HP.out.later hS.1)) (pcells_one l) (by unfold maxLen; omega) (by omega) hS.1.size ?_; intro v5 w5 hown5 hgrow5; rw [Nat.zero_add, List.nil_append] at hown5; (obtain ⟨g5, cap5, rfl, _, _⟩ := hown5.form hlp); have hb5 := (Below.refl _ _).grown hgrow5 (Nat.le_refl _) (fun q e => by cases e); have B5 := three_later hS hb5; (try with_reducible have z5 : GBlk w5 wa.heap.size 0 0 (.slice none 0 0) := blk_later (zlaid wa) hb5); (try (have hx := z5; obtain ⟨y0, y1, y2, y3, y4, y5⟩ := three_cells hx; clear hx)))
            | fail)
          all_goals
            refine ⟨rfl, _, .slice (some ⟨g5, 0, none⟩) l.length cap5, _, _, _, _, _, _, _, _, _, _, _, _, _, _, _, _, _, rfl, ?_⟩
            first
            | with_reducible exact copied_laid (Prt.of_own hown5) B5.1
            | with_reducible exact copied_set z5 (Nat.le_refl _) (prtF_mk hown5) B5.1
      case imp =>
        clear hwa c0 c1 c2
        rintro e ac W ⟨rfl, P, v, x14, x15, x16, x17, x18, x19, x20, x21, x22, x23, x24, x25, x26, x27, x28, x29, x30, rfl, hcp⟩
        obtain ⟨va, vc, rfl, _, _⟩ := id hcp.prt
        have GP : Hid (GBlk W P n m (.slice va l.length vc)) := hcp.blk
        have PV : Hid (Prt W (.slice va l.length vc) l) := hcp.prt
        replace HG : Hid (GBlk W w.heap.size n m (.slice a l.length cap)) := blk_below HG.out hcp.below HSZ
        replace HP : Hid (Prt W (.slice a l.length cap) l) := HP.out.later hcp.below
        replace HB : Hid (Below w.heap.size w W) := HB.out.trans (hcp.below.mono (Nat.le_of_lt HSZ))
        have HEAW : Hid _ := HEA.out W _ PV.out
        obtain ⟨s0, s1, s2, _, _, _⟩ := three_cells GP.out
        clear hcp HEA HSZ
        go_wp2_with fail
        refine Calls.mono HEAW.out ?_
        rintro e w1 ⟨rfl, hb1⟩
        replace GP : Hid (GBlk w1 P n m _) := blk_later GP.out hb1
        replace PV : Hid (Prt w1 _ l) := PV.out.later hb1
        replace HG : Hid (GBlk w1 w.heap.size n m _) := blk_later HG.out hb1
        replace HP : Hid (Prt w1 _ l) := HP.out.later hb1
        replace HB : Hid (Below w.heap.size w w1) := bnext HB.out hb1
        have HEBW : Hid _ := HEB.out w1 _ HP.out
        obtain ⟨t0, t1, t2, _, _, _⟩ := three_cells HG.out
        clear hb1 HEAW HEB s0 s1 s2
        go_wp2_with fail
        refine Calls.mono HEBW.out ?_
        rintro e w2 ⟨rfl, hb2⟩
        replace GP : Hid (GBlk w2 P n m _) := blk_later GP.out hb2
        replace PV : Hid (Prt w2 _ l) := PV.out.later hb2
        replace HG : Hid (GBlk w2 w.heap.size n m _) := blk_later HG.out hb2
        replace HP : Hid (Prt w2 _ l) := HP.out.later hb2
        replace HB : Hid (Below w.heap.size w w2) := bnext HB.out hb2
        have HDAW : Hid _ := HDA.out w2
        clear hb2 HEBW HDA t0 t1 t2
        go_wp2_with fail
        refine Calls.mono HDAW.out ?_
        rintro e w3 ⟨y, rfl, hy, -, hb3⟩
        have hyp := hy.prt
        obtain ⟨ya, yc, rfl, _, _⟩ := id hyp
        obtain ⟨w4, hw4⟩ : ∃ w4, w3.alloc (.cells #[.int .i64 p, .int .i64 q, .slice ya k.length yc] 24) = w4 := ⟨_, rfl⟩
        have hb34 : Below w3.heap.size w3 w4 := by rw [← hw4]; exact (Below.refl _ w3).alloc (Nat.le_refl _) _
        have GY : Hid (GBlk w4 w3.heap.size p q (.slice ya k.length yc)) := by rw [Hid, ← hw4]; exact heap_alloc_new _ _
        have PY : Hid (Prt w4 (.slice ya k.length yc) k) := hyp.later hb34
        have hb24 := bnext hb3 hb34
        replace GP : Hid (GBlk w4 P n m _) := blk_later GP.out hb24
        replace PV : Hid (Prt w4 _ l) := PV.out.later hb24
        replace HG : Hid (GBlk w4 w.heap.size n m _) := blk_later HG.out hb24
        replace HP : Hid (Prt w4 _ l) := HP.out.later hb24
        replace HB : Hid (Below w.heap.size w w4) := bnext HB.out hb24
        have HDBW : Hid _ := HDB.out w4
        clear hy hyp hb3 hb34 hb24 HDAW HDB
        go_wp2_with fail
        refine Calls.mono HDBW.out ?_
        rintro e w5 ⟨z, rfl, hzp, hb5⟩
        obtain ⟨za, zc, rfl, _, _⟩ := id hzp
        obtain ⟨w6, hw6⟩ : ∃ w6, w5.alloc (.cells #[.int .i64 p, .int .i64 q, .slice za k.length zc] 24) = w6 := ⟨_, rfl⟩
        have hb56 : Below w5.heap.size w5 w6 := by rw [← hw6]; exact (Below.refl _ w5).alloc (Nat.le_refl _) _
        have GZ : Hid (GBlk w6 w5.heap.size p q (.slice za k.length zc)) := by rw [Hid, ← hw6]; exact heap_alloc_new _ _
        have PZ : Hid (Prt w6 (.slice za k.length zc) k) := hzp.later hb56
        have hb46 := bnext hb5 hb56
        replace GP : Hid (GBlk w6 P n m _) := blk_later GP.out hb46
        replace PV : Hid (Prt w6 _ l) := PV.out.later hb46
        replace HG : Hid (GBlk w6 w.heap.size n m _) := blk_later HG.out hb46
        replace HP : Hid (Prt w6 _ l) := HP.out.later hb46
        replace GY : Hid (GBlk w6 w3.heap.size p q _) := blk_later GY.out hb46
        replace PY : Hid (Prt w6 _ k) := PY.out.later hb46
        replace HB : Hid (Below w.heap.size w w6) := bnext HB.out hb46
        have HC1 : Hid (∀ y : Later w6, _) := fun y => HCA.out y.world _ (PV.out.later y.below)
        have HC2 : Hid (∀ y : Later w6, _) := fun y => HCB.out y.world _ (HP.out.later y.below)
        have HC3 : Hid (∀ y : Later w6, _) := fun y => HSX.out y.world _ _ (PY.out.later y.below) (PZ.out.later y.below)
        have HC4 : Hid (∀ y : Later w6, _) := fun y => HSA.out y.world _ _ (PV.out.later y.below) (HP.out.later y.below)
        obtain ⟨s0, s1, s2, _, _, _⟩ := three_cells GP.out
        obtain ⟨t0, t1, t2, _, _, _⟩ := three_cells HG.out
        obtain ⟨o0, o1, o2, _, _, _⟩ := three_cells GY.out
        obtain ⟨z0, z1, z2, _, _, _⟩ := three_cells GZ.out
        have s0 := Later.cell s0
        have s1 := Later.cell s1
        have s2 := Later.cell s2
        have t0 := Later.cell t0
        have t1 := Later.cell t1
        have t2 := Later.cell t2
        have o0 := Later.cell o0
        have o1 := Later.cell o1
        have o2 := Later.cell o2
        have z0 := Later.cell z0
        have z1 := Later.cell z1
        have z2 := Later.cell z2
        have hsome := Later.some w6
        clear hzp hb5 hb56 hb46 HDBW HCA HCB HSX HSA
        go_wp2_with fail
        refine wp_region_later (by kernel_rfl) (by kernel_rfl) ?_
        repeat (go_big_quiet_step (fail))
        go_big_quiet_step ((go_at_call 11; exact Later.made (HC1.out _)))
        repeat (go_big_quiet_step (fail))
        go_big_quiet_step ((go_at_call 12; exact Later.made (HC2.out _)))
        repeat (go_big_quiet_step (fail))
        go_big_quiet_step ((go_at_call 13; exact Later.made (HC3.out _)))
        repeat (go_big_quiet_step (fail))
        go_big_quiet_step ((go_at_call 13; exact Later.made (HC4.out _)))
        repeat (go_big_quiet_step (fail))
        go_big_quiet_step ((go_at_call 14; exact Later.made (HDO.out _)))
        repeat (go_big_quiet_step (fail))
        refine wpQuiet_nil ?_
        intro w7 hw7
        obtain ⟨⟨w8, hb8⟩, rfl⟩ := hw7
        have HB7 : Hid (Below w.heap.size w w7) := bnext HB.out hb8
        clear hb8
        go_wp2
        go_ret
        exact ⟨rfl, HB7.out⟩

set_option maxRecDepth 100000 in
theorem manifestTell_lifted (os : Os) (started : os.Started) (H : Type) (enc : TypeId × Value → H) :
    ReturnsInHanded {} Try.checked os 3 .any (Rows.manifestTellSpec.pre6 enc Try.prog Try.f3 Rows.manifestTellRow.domain false) (Rows.manifestTellSpec.post enc Try.prog Try.f3 false true false false) := by
  refine returnsInHanded_of_change (C := Try.checked) Try.own started (by kernel_rfl) Try.func3
    (ChangeSpec.witness6 (enc := enc) (C := Try.checked) false ⟨#[], #[.agg #[.int .i64 0, .int .i64 0, .slice none 0 0], .string ByteArray.empty], []⟩ 8 (by kernel_rfl) (by kernel_rfl) (by kernel_rfl) (by kernel_rfl)) ?_
  intro W base args ds gs before hval0 hW hcnd _
  have hval : ∀ (j : Nat) t v, Try.f3.params[j]? = some t → args[j]? = some v → Value.okWide Try.prog W .any base t v := hval0
  have hW' := hW
  obtain ⟨p, q, hA0, hV, rfl, hfz, hnd⟩ := hW
  have hA : DataW.TrodAll enc Try.prog W 0 (fun _ => true) true Try.f3.params.toList args.toList ds p := hA0
  rw [Try.params3] at hA hval
  obtain ⟨v0, vs0, d0, ds0, p0, q0, hargs, rfl, rfl, h0, r0⟩ := trodAll_cons hA
  obtain ⟨v1, vs1, d1, ds1, p1, q1, rfl, rfl, rfl, h1, r1⟩ := trodAll_cons r0
  obtain ⟨rfl, rfl, rfl⟩ := trodAll_nil r1
  obtain rfl : args = #[v0, v1] := by cases args; simp_all
  obtain ⟨rfl, rfl⟩ := trodVars_none hV
  have lt0 : ∀ x ∈ p0, x.block < W.heap.size := by obtain ⟨m, hm⟩ := h0; exact DataW.trod_lt m _ _ _ hm
  obtain ⟨s0, u0, rfl, k0, n0, b0, c0⟩ := open_graph (hval 0 24 v0 rfl rfl) h0
  obtain ⟨a1, rfl, rfl, rfl, w1⟩ := open_string Try.underlying9 (hval 1 9 v1 rfl rfl) h1
  clear hA0 hval0
  refine (manifestTell_walk s0 u0 a1 W k0 n0 b0 c0 w1).mono fun e W' ⟨he, bel⟩ => ?_
  subst he
  exact ⟨_, rfl, _, _, _, [], _, [], hW', trodAll_mk1 (shut_bool Try.underlying4 _), (trodAll_cons_mk (Below.trod Try.laidOut (by kernel_rfl) (of_decide_eq_true (by kernel_rfl)) h0 bel lt0) (trodAll_cons_mk (shut_string Try.underlying9 w1) trodAll_mk0)), rfl, bel.frame _, fun h => by cases h⟩

theorem manifestTell_holds : Rows.ManifestTellSaid :=
  OpenClaim.holds_of_wide 3 Try.f3 rfl rfl rfl rfl rfl rfl rfl ⟨rfl, rfl, rfl, rfl, rfl⟩ rfl rfl rfl rfl rfl (by kernel_rfl) Try.func3 (by kernel_rfl)
    (of_decide_eq_true (by kernel_rfl)) (by unfold Func.isWrapper; first | (rw [if_pos (by decide +kernel)]; kernel_rfl) | (rw [if_neg (by decide +kernel)]; exact ⟨rfl, rfl⟩))
    (fun os started H enc _ => manifestTell_lifted os started H enc)

end Go.Proofs.Ytmekaofjcjmklaa
