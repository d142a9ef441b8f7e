/- THE STATEMENT ShardsTell: whether a shard may be, its bytes and its edges, and the shard that bytes are, are the document's. For every shard and all bytes; of a shard of more than 300 lists, 300 numbers in one or 5000 in all, or of more than 3000 bytes, nothing is asked. -/
import Derived.Test.YtbhngncnhabbkaaGreatHEds
import Derived.Deep.RegionHeld3
import Derived.ChangeArms
import Derived.ChangeMaps5
namespace Go.Proofs.YtbhngncnhabbkaaGreat
open Go.ChangeShapes Go.WideShapes Go.ChangeAt Go.RowKit
open Go.ChangeMaps (open_string shut_string)

theorem decS_fit (b : List UInt8) : FitS (Sh.decS b).2 := by
  unfold Sh.decS
  cases hd : Sh.dec b with
  | none => exact none_fit
  | some s => exact (Sh.may_fit (Sh.dec_some hd).1).1

/-- What the law's last region keeps: what was there, and the cells of three shards. -/
abbrev Keep (w W : World) (B1 B2 B3 : Nat) (x1 x2 x3 y1 y2 y3 z1 z2 z3 : Value) : Prop :=
  Below w.heap.size w W ∧ W.cell? ⟨B1, 0, none⟩ = some x1 ∧ W.cell? ⟨B1, 1, none⟩ = some x2 ∧ W.cell? ⟨B1, 2, none⟩ = some x3 ∧ W.cell? ⟨B2, 0, none⟩ = some y1 ∧ W.cell? ⟨B2, 1, none⟩ = some y2 ∧ W.cell? ⟨B2, 2, none⟩ = some y3 ∧
    W.cell? ⟨B3, 0, none⟩ = some z1 ∧ W.cell? ⟨B3, 1, none⟩ = some z2 ∧ W.cell? ⟨B3, 2, none⟩ = some z3
theorem Keep.later {w W W' : World} {B1 B2 B3 : Nat} {x1 x2 x3 y1 y2 y3 z1 z2 z3 : Value} (h : Keep w W B1 B2 B3 x1 x2 x3 y1 y2 y3 z1 z2 z3) (hb : Below W.heap.size W W') : Keep w W' B1 B2 B3 x1 x2 x3 y1 y2 y3 z1 z2 z3 := by
  obtain ⟨h0, h1, h2, h3, h4, h5, h6, h7, h8, h9⟩ := h
  exact ⟨bnext h0 hb, cell_after hb h1, cell_after hb h2, cell_after hb h3, cell_after hb h4, cell_after hb h5, cell_after hb h6, cell_after hb h7, cell_after hb h8, cell_after hb h9⟩

set_option maxHeartbeats 4000000 in
set_option maxRecDepth 100000 in
theorem shardsTell_walk (s : Sh.Shard) (u : Value) (b : ByteArray) (w : World) (hu : Lists w u s.2) (hok : OkO s.2) (hs1 : -9223372036854775808 ≤ s.1.1 ∧ s.1.1 ≤ 9223372036854775807) (hs2 : -9223372036854775808 ≤ s.1.2 ∧ s.1.2 ≤ 9223372036854775807) (_hb : b.size ≤ maxLen) :
    Calls Tryz.prog 3 #[.agg (scells s u), .string b] w fun e w' => e = .returned (.bool true) ∧ Below w.heap.size w w' := by
  obtain ⟨⟨p1, p2⟩, o⟩ := s
  dsimp only at hu hok hs1 hs2 ⊢
  obtain ⟨ua, uc, rfl, _, _⟩ := id hu
  obtain ⟨wb, hwb⟩ : ∃ wb, w.alloc (.cells #[.int .i64 p1, .int .i64 p2, .slice ua o.length uc] 26) = wb := ⟨_, rfl⟩
  have HS : Hid (wb.heap[w.heap.size]? = some (.cells #[.int .i64 p1, .int .i64 p2, .slice ua o.length uc] 26 (0, 0))) := by rw [Hid, ← hwb]; exact heap_alloc_new _ _
  have HB : Hid (Below w.heap.size w wb) := by rw [Hid, ← hwb]; exact (Below.refl _ w).alloc (Nat.le_refl _) _
  have HU : Hid (Lists wb (.slice ua o.length uc) o) := hu.later HB.out
  have HGR := great_any ((p1, p2), o) (.slice ua o.length uc) wb HU.out hok.1 (fun l hl => (hok.2 l hl).1)
  have HDO : Hid (∀ W, Calls Tryz.prog 18 #[] W fun e w' => e = .returned (.bool true) ∧ Below W.heap.size W w') := fun W => sdoes_any W
  unfold scells at HGR ⊢
  dsimp only at HGR ⊢
  obtain ⟨s0, s1, s2, _, _, _⟩ := three_cells HS.out
  clear hu
  cases hg : gr o with
  | true =>
    rw [hg] at HGR
    replace HGR : Hid _ := HGR
    clear hg
    go_enter Tryz.func3, Tryz.ntmps3
    go_wp2_with fail
    refine Calls.mono HGR.out ?_
    rintro e w1 ⟨rfl, hb1⟩
    have HB1 : Hid (Below w.heap.size w w1) := bnext HB.out hb1
    clear hb1
    go_wp2
    go_ret
    exact ⟨rfl, HB1.out⟩
  | false =>
    rw [hg] at HGR
    have hless := gr_iff.1 hg
    have hfit : FitS o := ⟨by have := hless.1; omega, fun l hl => ⟨by have := hless.2.2 l hl; omega, (hok.2 l hl).2⟩⟩
    obtain ⟨cc, hcc⟩ : ∃ cc, Sh.chk ((p1, p2), o) = cc := ⟨_, rfl⟩
    obtain ⟨rr, hrr⟩ : ∃ rr : ByteArray, (⟨(Sh.encS ((p1, p2), o)).toArray⟩ : ByteArray) = rr := ⟨_, rfl⟩
    have HEN : Hid (∀ W u, Lists W u o → Calls Tryz.prog 8 #[.agg #[.int .i64 p1, .int .i64 p2, u]] W fun e w' => e = .returned (.tuple #[.string rr, .int .i64 cc]) ∧ Below W.heap.size W w') := fun W u h => by
      have := senc_any ((p1, p2), o) u W h hfit ⟨hs1, hs2⟩
      rwa [hcc, hrr] at this
    have HER : Hid (∀ W u, Lists W u o → Calls Tryz.prog 9 #[.agg #[.int .i64 p1, .int .i64 p2, u]] W fun e w' => e = .returned (.tuple #[.string rr, .int .i64 cc]) ∧ Below W.heap.size W w') := fun W u h => by
      have := srenc_any ((p1, p2), o) u W h hfit
      rwa [hcc, hrr] at this
    have HCK : Hid (∀ W u, Lists W u o → Calls Tryz.prog 12 #[.agg #[.int .i64 p1, .int .i64 p2, u]] W fun e w' => e = .returned (.int .i64 cc) ∧ Below W.heap.size W w') := fun W u h => by
      have := schk_any ((p1, p2), o) u W h hfit ⟨hs1, hs2⟩
      rwa [hcc] at this
    have HCR : Hid (∀ W u, Lists W u o → Calls Tryz.prog 13 #[.agg #[.int .i64 p1, .int .i64 p2, u]] W fun e w' => e = .returned (.int .i64 cc) ∧ Below W.heap.size W w') := fun W u h => by
      have := srchk_any ((p1, p2), o) u W h hfit
      rwa [hcc] at this
    have hel : (Sh.eds ((p1, p2), o)).length ≤ 5000 := by
      show (Sh.edsF p1 0 o).length ≤ 5000
      rw [Sh.eds_len]; exact hless.2.1
    obtain ⟨ee, hee⟩ : ∃ ee, Sh.eds ((p1, p2), o) = ee := ⟨_, rfl⟩
    have HED : Hid (∀ W u, Lists W u o → Calls Tryz.prog 16 #[.agg #[.int .i64 p1, .int .i64 p2, u]] W fun e w' => ∃ v, e = .returned v ∧ Edg w' v ee ∧ Below W.heap.size W w') := fun W u h => by
      refine (reds_any ((p1, p2), o) u W h (by have := hless.1; dsimp only; omega) hless.2.1).mono ?_
      rintro e w' ⟨v, rfl, h1, h2⟩
      rw [hee] at h1
      exact ⟨v, rfl, Edg.of_own h1, h2⟩
    have HEE : Hid (∀ W u, Lists W u o → Calls Tryz.prog 17 #[.agg #[.int .i64 p1, .int .i64 p2, u]] W fun e w' => ∃ v, e = .returned v ∧ Edg w' v ee ∧ Below W.heap.size W w') := fun W u h => by
      refine (sreds_any ((p1, p2), o) u W h hless).mono ?_
      rintro e w' ⟨v, rfl, h1, h2⟩
      rw [hee] at h1
      exact ⟨v, rfl, Edg.of_own h1, h2⟩
    rw [hee] at hel
    have HSE : Hid (∀ W u v, Edg W u ee → Edg W v ee → Calls Tryz.prog 15 #[u, v] W fun e w' => e = .returned (.bool true) ∧ Below W.heap.size W w') := fun W u v h1 h2 => by
      have := same_edg u v ee ee W h1 h2 (by omega) (by omega)
      rwa [decide_eq_true rfl] at this
    have HDF := decS_fit b.data.toList
    by_cases hbl : b.size ≤ 3000
    · have HDE : Hid (∀ W, Calls Tryz.prog 10 #[.string b] W fun e w' => ∃ u, e = .returned (.tuple #[u, .int .i64 (Sh.decE b.data.toList)]) ∧ Shd w' u (Sh.decS b.data.toList) ∧ Below W.heap.size W w') := fun W => sdec_any b W (by omega)
      have HDR : Hid (∀ W, Calls Tryz.prog 11 #[.string b] W fun e w' => ∃ u, e = .returned (.tuple #[u, .int .i64 (Sh.decE b.data.toList)]) ∧ Shd w' u (Sh.decS b.data.toList) ∧ Below W.heap.size W w') := fun W => srdec_any b W (by omega)
      generalize Sh.decE b.data.toList = de at *
      generalize Sh.decS b.data.toList = ds at *
      obtain ⟨⟨q1, q2⟩, z⟩ := ds
      have HSM : Hid (∀ W u v, Lists W u z → Lists W v z → Calls Tryz.prog 14 #[.agg #[.int .i64 q1, .int .i64 q2, u], .agg #[.int .i64 q1, .int .i64 q2, v]] W fun e w' => e = .returned (.bool true) ∧ Below W.heap.size W w') := fun W u v h1 h2 => ssame_yes ((q1, q2), z) ((q1, q2), z) HDF HDF (decide_eq_true rfl) W u v h1 h2
      unfold Shd scells at HDE HDR
      dsimp only at HDE HDR
      replace HGR : Hid _ := HGR
      clear hg hless hfit hok hcc hrr hee hel HDF
      go_enter Tryz.func3, Tryz.ntmps3
      go_wp2_with fail
      refine Calls.mono HGR.out ?_
      rintro e w1 ⟨rfl, hb1⟩
      obtain ⟨s0, s1, s2, _, _, _⟩ := three_cells (blk_later HS.out hb1)
      replace HS : Hid _ := blk_later HS.out hb1
      replace HU : Hid (Lists w1 (.slice ua o.length uc) o) := HU.out.later hb1
      replace HB : Hid (Below w.heap.size w w1) := bnext HB.out hb1
      clear hb1 HGR
      go_wp2_with fail
      refine Calls.mono (HEN.out w1 _ HU.out) ?_
      rintro e w2 ⟨rfl, hb2⟩
      obtain ⟨s0, s1, s2, _, _, _⟩ := three_cells (blk_later HS.out hb2)
      replace HS : Hid _ := blk_later HS.out hb2
      replace HU : Hid (Lists w2 (.slice ua o.length uc) o) := HU.out.later hb2
      replace HB : Hid (Below w.heap.size w w2) := bnext HB.out hb2
      clear hb2 HEN
      go_wp2_with fail
      refine Calls.mono (HER.out w2 _ HU.out) ?_
      rintro e w3 ⟨rfl, hb3⟩
      obtain ⟨s0, s1, s2, _, _, _⟩ := three_cells (blk_later HS.out hb3)
      replace HS : Hid _ := blk_later HS.out hb3
      replace HU : Hid (Lists w3 (.slice ua o.length uc) o) := HU.out.later hb3
      replace HB : Hid (Below w.heap.size w w3) := bnext HB.out hb3
      clear hb3 HER
      go_wp2_with fail
      refine Calls.mono (HDE.out w3) ?_
      rintro e w4 ⟨_, rfl, ⟨u1, rfl, HL1⟩, hb4⟩
      obtain ⟨a1, c1, rfl, _, _⟩ := id HL1
      obtain ⟨wt, hwt⟩ : ∃ wt, w4.alloc (.cells #[.int .i64 0, .int .i64 0, .slice none 0 0] 26) = wt := ⟨_, rfl⟩
      have T0 : wt.heap[w4.heap.size]? = some (.cells #[.int .i64 0, .int .i64 0, .slice none 0 0] 26 (0, 0)) := by rw [← hwt]; exact heap_alloc_new _ _
      obtain ⟨x0, x1, x2, x3, x4, x5⟩ := three_cells T0
      obtain ⟨wv, hwv⟩ : ∃ wv, ((wt.setCell ⟨w4.heap.size, 0, none⟩ (.int .i64 q1)).setCell ⟨w4.heap.size, 1, none⟩ (.int .i64 q2)).setCell ⟨w4.heap.size, 2, none⟩ (.slice a1 z.length c1) = wv := ⟨_, rfl⟩
      have HT : Hid (wv.heap[w4.heap.size]? = some (.cells #[.int .i64 q1, .int .i64 q2, .slice a1 z.length c1] 26 (0, 0))) := by rw [Hid, ← hwv]; exact blk_set (blk_set (blk_set T0))
      have hb4v : Below w4.heap.size w4 wv := by
        rw [← hwv, ← hwt]
        exact ((((Below.refl _ w4).alloc (Nat.le_refl _) _).setCell (Nat.le_refl _) _).setCell (Nat.le_refl _) _).setCell (Nat.le_refl _) _
      have hb3v := bnext hb4 hb4v
      have HTL : Hid (Lists wv (.slice a1 z.length c1) z) := HL1.later hb4v
      have HSV : Hid _ := blk_later HS.out hb3v
      have HUV : Hid (Lists wv (.slice ua o.length uc) o) := HU.out.later hb3v
      have HBV : Hid (Below w.heap.size w wv) := bnext HB.out hb3v
      clear hb4 hb4v hb3v HDE HL1 T0 HS HU HB
      go_wp2_with fail
      refine Calls.mono (HDR.out wv) ?_
      rintro e w5 ⟨_, rfl, ⟨u2, rfl, HL2⟩, hb5⟩
      obtain ⟨a2, c2, rfl, _, _⟩ := id HL2
      obtain ⟨wy, hwy⟩ : ∃ wy, w5.alloc (.cells #[.int .i64 0, .int .i64 0, .slice none 0 0] 26) = wy := ⟨_, rfl⟩
      have Y0 : wy.heap[w5.heap.size]? = some (.cells #[.int .i64 0, .int .i64 0, .slice none 0 0] 26 (0, 0)) := by rw [← hwy]; exact heap_alloc_new _ _
      obtain ⟨y0, y1, y2, y3, y4, y5⟩ := three_cells Y0
      obtain ⟨wz, hwz⟩ : ∃ wz, ((wy.setCell ⟨w5.heap.size, 0, none⟩ (.int .i64 q1)).setCell ⟨w5.heap.size, 1, none⟩ (.int .i64 q2)).setCell ⟨w5.heap.size, 2, none⟩ (.slice a2 z.length c2) = wz := ⟨_, rfl⟩
      have HY : Hid (wz.heap[w5.heap.size]? = some (.cells #[.int .i64 q1, .int .i64 q2, .slice a2 z.length c2] 26 (0, 0))) := by rw [Hid, ← hwz]; exact blk_set (blk_set (blk_set Y0))
      have hb5z : Below w5.heap.size w5 wz := by
        rw [← hwz, ← hwy]
        exact ((((Below.refl _ w5).alloc (Nat.le_refl _) _).setCell (Nat.le_refl _) _).setCell (Nat.le_refl _) _).setCell (Nat.le_refl _) _
      have hbvz := bnext hb5 hb5z
      have HYL : Hid (Lists wz (.slice a2 z.length c2) z) := HL2.later hb5z
      have HTZ : Hid _ := blk_later HT.out hbvz
      have HTLZ : Hid (Lists wz (.slice a1 z.length c1) z) := HTL.out.later hbvz
      have HSZ : Hid _ := blk_later HSV.out hbvz
      have HUZ : Hid (Lists wz (.slice ua o.length uc) o) := HUV.out.later hbvz
      have HBZ : Hid (Below w.heap.size w wz) := bnext HBV.out hbvz
      obtain ⟨k0, k1, k2, _, _, _⟩ := three_cells HSZ.out
      obtain ⟨k3, k4, k5, _, _, _⟩ := three_cells HTZ.out
      obtain ⟨k6, k7, k8, _, _, _⟩ := three_cells HY.out
      have HK0 : Keep wz wz.drew w.heap.size w4.heap.size w5.heap.size _ _ _ _ _ _ _ _ _ := ⟨(Below.refl _ wz).drew, k0, k1, k2, k3, k4, k5, k6, k7, k8⟩
      clear hb5 hb5z hbvz HDR HL2 Y0 HT HTL HSV HUV HBV
      go_wp2_with fail
      go_region_held3 (fun W => Keep wz W w.heap.size w4.heap.size w5.heap.size (.int .i64 p1) (.int .i64 p2) (.slice ua o.length uc) (.int .i64 q1) (.int .i64 q2) (.slice a1 z.length c1) (.int .i64 q1) (.int .i64 q2) (.slice a2 z.length c2)) (assumption)
        (first
        | (go_at_call 12; refine Calls.mono (HCK.out _ _ (HUZ.out.later (by assumption : Keep wz _ _ _ _ _ _ _ _ _ _ _ _ _).1)) ?_; rintro e w' ⟨rfl, hb'⟩; have B' := Keep.later (by assumption : Keep wz _ _ _ _ _ _ _ _ _ _ _ _ _) hb')
        | (go_at_call 13; refine Calls.mono (HCR.out _ _ (HUZ.out.later (by assumption : Keep wz _ _ _ _ _ _ _ _ _ _ _ _ _).1)) ?_; rintro e w' ⟨rfl, hb'⟩; have B' := Keep.later (by assumption : Keep wz _ _ _ _ _ _ _ _ _ _ _ _ _) hb')
        | (go_at_call 14; refine Calls.mono (HSM.out _ _ _ (HTLZ.out.later (by assumption : Keep wz _ _ _ _ _ _ _ _ _ _ _ _ _).1) (HYL.out.later (by assumption : Keep wz _ _ _ _ _ _ _ _ _ _ _ _ _).1)) ?_; rintro e w' ⟨rfl, hb'⟩; have B' := Keep.later (by assumption : Keep wz _ _ _ _ _ _ _ _ _ _ _ _ _) hb')
        | (go_at_call 16; refine Calls.mono (HED.out _ _ (HUZ.out.later (by assumption : Keep wz _ _ _ _ _ _ _ _ _ _ _ _ _).1)) ?_; rintro e w' ⟨v1, rfl, HV, hb'⟩; (try have HV1 : Edg w' _ ee := Edg.later (by assumption) hb'); have B' := Keep.later (by assumption : Keep wz _ _ _ _ _ _ _ _ _ _ _ _ _) hb')
        | (go_at_call 17; refine Calls.mono (HEE.out _ _ (HUZ.out.later (by assumption : Keep wz _ _ _ _ _ _ _ _ _ _ _ _ _).1)) ?_; rintro e w' ⟨v2, rfl, HV, hb'⟩; (try have HV1 : Edg w' _ ee := Edg.later (by assumption) hb'); have B' := Keep.later (by assumption : Keep wz _ _ _ _ _ _ _ _ _ _ _ _ _) hb')
        | (go_at_call 15; refine Calls.mono (HSE.out _ _ _ (by assumption) (by assumption)) ?_; rintro e w' ⟨rfl, hb'⟩; have B' := Keep.later (by assumption : Keep wz _ _ _ _ _ _ _ _ _ _ _ _ _) hb')
        | (go_at_call 18; refine Calls.mono (HDO.out _) ?_; rintro e w' ⟨rfl, hb'⟩; have B' := Keep.later (by assumption : Keep wz _ _ _ _ _ _ _ _ _ _ _ _ _) hb')
        | fail)
      all_goals
        go_wp2
        go_ret
        exact ⟨rfl, bnext HBZ.out (by assumption : Keep wz _ _ _ _ _ _ _ _ _ _ _ _ _).1⟩
    · replace HGR : Hid _ := HGR
      clear hg hless hfit hok hcc hrr hee hel HDF
      go_enter Tryz.func3, Tryz.ntmps3
      go_wp2_with fail
      refine Calls.mono HGR.out ?_
      rintro e w1 ⟨rfl, hb1⟩
      have HB1 : Hid (Below w.heap.size w w1) := bnext HB.out hb1
      clear hb1
      go_wp2
      go_ret
      exact ⟨rfl, HB1.out⟩

set_option maxRecDepth 100000 in
theorem shardsTell_lifted (os : Os) (started : os.Started) (H : Type) (enc : TypeId × Value → H) :
    ReturnsInHanded {} Tryz.checked os 3 .any (Rows.shardsTellSpec.pre6 enc Tryz.prog Tryz.f3 Rows.shardsTellRow.domain false) (Rows.shardsTellSpec.post enc Tryz.prog Tryz.f3 false true false false) := by
  refine returnsInHanded_of_change (C := Tryz.checked) Tryz.own started (by kernel_rfl) Tryz.func3
    (ChangeSpec.witness6 (enc := enc) (C := Tryz.checked) false ⟨#[], #[.agg #[.int .i64 0, .int .i64 0, .slice none 0 0], .string ByteArray.empty], []⟩ 8 (by kernel_rfl) (by kernel_rfl) (by kernel_rfl) (by kernel_rfl)) ?_
  intro W base args ds gs before hval0 hW hcnd _
  have hval : ∀ (j : Nat) t v, Tryz.f3.params[j]? = some t → args[j]? = some v → Value.okWide Tryz.prog W .any base t v := hval0
  have hW' := hW
  obtain ⟨p, q, hA0, hV, rfl, hfz, hnd⟩ := hW
  have hA : DataW.TrodAll enc Tryz.prog W 0 (fun _ => true) true Tryz.f3.params.toList args.toList ds p := hA0
  rw [Tryz.params3] at hA hval
  obtain ⟨v0, vs0, d0, ds0, p0, q0, hargs, rfl, rfl, h0, r0⟩ := trodAll_cons hA
  obtain ⟨v1, vs1, d1, ds1, p1, q1, rfl, rfl, rfl, h1, r1⟩ := trodAll_cons r0
  obtain ⟨rfl, rfl, rfl⟩ := trodAll_nil r1
  obtain rfl : args = #[v0, v1] := by cases args; simp_all
  obtain ⟨rfl, rfl⟩ := trodVars_none hV
  have lt0 : ∀ x ∈ p0, x.block < W.heap.size := by obtain ⟨m, hm⟩ := h0; exact DataW.trod_lt m _ _ _ hm
  obtain ⟨s0, u0, rfl, k0, n0, b0, c0⟩ := open_shard (hval 0 26 v0 rfl rfl) h0
  obtain ⟨a1, rfl, rfl, rfl, w1⟩ := open_string Tryz.underlying9 (hval 1 9 v1 rfl rfl) h1
  clear hA0 hval0
  refine (shardsTell_walk s0 u0 a1 W k0 n0 b0 c0 w1).mono fun e W' ⟨he, bel⟩ => ?_
  subst he
  exact ⟨_, rfl, _, _, _, [], _, [], hW', trodAll_mk1 (shut_bool Tryz.underlying4 _), (trodAll_cons_mk (Below.trod Tryz.laidOut (by kernel_rfl) (of_decide_eq_true (by kernel_rfl)) h0 bel lt0) (trodAll_cons_mk (shut_string Tryz.underlying9 w1) trodAll_mk0)), rfl, bel.frame _, fun h => by cases h⟩

theorem shardsTell_holds : Rows.ShardsTellSaid :=
  OpenClaim.holds_of_wide 3 Tryz.f3 rfl rfl rfl rfl rfl rfl rfl ⟨rfl, rfl, rfl, rfl, rfl⟩ rfl rfl rfl rfl rfl (by kernel_rfl) Tryz.func3 (by kernel_rfl)
    (of_decide_eq_true (by kernel_rfl)) (by unfold Func.isWrapper; first | (rw [if_pos (by decide +kernel)]; kernel_rfl) | (rw [if_neg (by decide +kernel)]; exact ⟨rfl, rfl⟩))
    (fun os started H enc _ => shardsTell_lifted os started H enc)

end Go.Proofs.YtbhngncnhabbkaaGreat
