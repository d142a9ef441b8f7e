/- THE STATEMENT ShardsTurned: bytes of a shard of which bits within four bytes, side by side, are turned over are no shard's; nor are they, cut off anywhere. For every two bytes, every list of pairs and every two uint32; of more than 400 pairs nothing is asked. -/
import Derived.Test.YtbhngncnhabbkaaGreatHTurn
namespace Go.Proofs.YtbhngncnhabbkaaGreat
open Go.ChangeShapes Go.WideShapes Go.ChangeAt Go.RowKit Go.Deep

set_option maxHeartbeats 4000000 in
set_option maxRecDepth 100000 in
theorem shardsTurned_walk (n k : Nat) (v : Value) (l : List (Nat × Nat)) (at0 o : Nat) (w : World) (hn : n < 256) (hk : k < 256) (hv : Prs w v l) (hsm : Small l) (_hl : l.length ≤ 9223372036854775807) (ht : at0 < 4294967296) (ho : o < 4294967296) :
    Calls Tryz.prog 5 #[.agg #[.int .u8 n, .int .u8 k], v, .agg #[.int .u32 at0, .int .u32 o]] w fun e w' => e = .returned (.bool true) ∧ Below w.heap.size w w' := by
  obtain ⟨wa, hwa⟩ : ∃ wa, w.alloc (.cells #[.int .u8 n, .int .u8 k] 40) = wa := ⟨_, rfl⟩
  obtain ⟨wb, hwb⟩ : ∃ wb, wa.alloc (.cells #[.int .u32 at0, .int .u32 o] 46) = wb := ⟨_, rfl⟩
  have hba : Below w.heap.size w wa := by rw [← hwa]; exact (Below.refl _ w).alloc (Nat.le_refl _) _
  have hab : Below wa.heap.size wa wb := by rw [← hwb]; exact (Below.refl _ wa).alloc (Nat.le_refl _) _
  have HN : Hid (wb.heap[w.heap.size]? = some (.cells #[.int .u8 n, .int .u8 k] 40 (0, 0))) := by
    rw [Hid, hab.block _ (by rw [← hwa]; simp), ← hwa]; exact heap_alloc_new _ _
  have HT : Hid (wb.heap[wa.heap.size]? = some (.cells #[.int .u32 at0, .int .u32 o] 46 (0, 0))) := by rw [Hid, ← hwb]; exact heap_alloc_new _ _
  have HB : Hid (Below w.heap.size w wb) := bnext hba hab
  have HV : Hid (Prs wb v l) := hv.later HB.out
  obtain ⟨va, vc, rfl, _, _⟩ := id hv
  have HDO : Hid (∀ W, Calls Tryz.prog 18 #[] W fun e w' => e = .returned (.bool true) ∧ Below W.heap.size W w') := fun W => sdoes_any W
  obtain ⟨n0, n1, _, _⟩ := two_cells HN.out
  clear hba hab hv
  by_cases hl4 : 400 < l.length
  · generalize l.length = m at *
    go_enter Tryz.func5, Tryz.ntmps5
    go_wp2
    go_ret
    exact ⟨rfl, HB.out⟩
  · have HMD : Hid _ := smade_any n k _ l wb hn hk HV.out hsm (by omega)
    clear hsm HV
    generalize l.length = m at *
    go_enter Tryz.func5, Tryz.ntmps5
    go_wp2_with fail
    refine Calls.mono HMD.out ?_
    rintro e w2 ⟨z, s, x, rfl, hs, hx, hb2⟩
    obtain ⟨b, hb⟩ : ∃ b, (⟨(Sh.enc s).toArray⟩ : ByteArray) = b := ⟨_, rfl⟩
    have HEN : Hid _ := senc_yes hs hb
    have hbl : b.data.toList = Sh.enc s := by rw [← hb]
    have HND : Hid (∀ q, q + 3 < b.size → ((((Sh.decE (nearL b.data.toList q o 4) : Int) == 0) == ((o : Int) == 0)) = true)) := fun q hq => by
      rw [hbl]; exact Sh.near_dec hs (by rw [← hb, size_of] at hq; exact hq) ho
    have HCD : Hid (∀ q, q < b.size → Sh.decE (b.data.toList.take q) = 10) := fun q hq => by
      rw [hbl]; exact Sh.cut_dec hs (by rw [← hb, size_of] at hq; exact hq)
    have hbz : 5 ≤ b.size ∧ b.size ≤ 1000000 := by
      rw [← hb, size_of]; exact ⟨by have := (Sh.enc_len s).1; omega, Sh.enc_size hs⟩
    obtain ⟨⟨p1, p2⟩, q⟩ := s
    unfold scells at HEN ⊢
    dsimp only at HEN hx ⊢
    obtain ⟨xa, xc, rfl, _, _⟩ := id hx
    obtain ⟨w3, hw3⟩ : ∃ w3, w2.alloc (.cells #[.int .i64 p1, .int .i64 p2, .slice xa q.length xc] 26) = w3 := ⟨_, rfl⟩
    have hb23 : Below w2.heap.size w2 w3 := by rw [← hw3]; exact (Below.refl _ w2).alloc (Nat.le_refl _) _
    have hS : w3.heap[w2.heap.size]? = some (.cells #[.int .i64 p1, .int .i64 p2, .slice xa q.length xc] 26 (0, 0)) := by rw [← hw3]; exact heap_alloc_new _ _
    obtain ⟨s0, s1, s2, _, _, _⟩ := three_cells hS
    have HX : Hid (Lists w3 (.slice xa q.length xc) q) := hx.later hb23
    replace HT : Hid _ := blk_later (blk_later HT.out hb2) hb23
    replace HB : Hid (Below w.heap.size w w3) := bnext (bnext HB.out hb2) hb23
    have HEN3 : Hid _ := HEN.out w3 _ HX.out
    clear hs hb hx hb2 hb23 HMD HEN n0 n1 hbl hS HX HN
    go_wp2_with fail
    refine Calls.mono HEN3.out ?_
    rintro e w4 ⟨rfl, hb4⟩
    replace HT : Hid _ := blk_later HT.out hb4
    replace HB : Hid (Below w.heap.size w w4) := bnext HB.out hb4
    clear hb4 HEN3 s0 s1 s2
    obtain ⟨cap, W, hc, hW, hB⟩ := bytes_new w4 b
    have hW : Hid (Holds W w4.heap.size b.data.toList) := hW
    have hB : Hid (Below w4.heap.size w4 W) := hB
    obtain ⟨t0, t1, _, _⟩ := two_cells (blk_later HT.out hB.out)
    have T1 : Hid _ := (two_cells HT.out).2.1
    obtain ⟨r, hr, hr3⟩ : ∃ r : Nat, (at0 : Int) % ((b.size : Int) - 3) = (r : Int) ∧ r + 3 < b.size := by
      have h1 := Int.emod_nonneg (at0 : Int) (show (b.size : Int) - 3 ≠ 0 by omega)
      have h2 := Int.emod_lt_of_pos (at0 : Int) (show 0 < (b.size : Int) - 3 by omega)
      exact ⟨((at0 : Int) % ((b.size : Int) - 3)).toNat, by omega, by omega⟩
    have hpl : Hid (∀ j, (nearL b.data.toList r o j).length = b.size) := fun j => by rw [nearL_length]; simp
    have hcv := fun (W : World) (h : Holds W w4.heap.size (nearL b.data.toList r o 4)) => conv_held h cap (hpl.out 4)
    have hcv : Hid _ := hcv
    have hnd := HND.out r hr3
    have HDC : Hid (∀ W, _) := sdec_told (b.extract 0 r) (by rw [ByteArray.size_extract]; omega) (E := 10) (by rw [ByteArray.data_extract]; simpa using HCD.out r (by omega))
    have HDN : Hid (∀ W, _) := sdec_told (⟨(nearL b.data.toList r o 4).toArray⟩ : ByteArray) (by rw [size_of, hpl.out]; omega) rfl
    rw [show (⟨(nearL b.data.toList r o 4).toArray⟩ : ByteArray).data.toList = nearL b.data.toList r o 4 from rfl] at HDN
    generalize Sh.decE (nearL b.data.toList r o 4) = E at *
    clear HND HCD HT
    go_wp2_with fail
    go_loopw [14] (fun c wr => ∃ j : Nat, j ≤ 4 ∧ c = .int .i64 j ∧ Hid (Holds wr w4.heap.size (nearL b.data.toList r o j)) ∧ Hid (Below w4.heap.size w4 wr)) (fun c _ => 4 - (intOf c).toNat)
    case atStart => exact ⟨0, by omega, rfl, hW, hB⟩
    case round =>
      clear hW hB hc t0 t1
      obtain ⟨j, hj, rfl, hh, hb⟩ := hrel
      have t1 := cell_after hb.out T1.out
      by_cases hlt : j < 4
      · have hlen := hpl.out j
        have hc1 := hh.out.cell (r + j) (by omega)
        have hf1 := hh.out.free (r + j) (by omega)
        obtain ⟨y, hy, h1, h2⟩ := near_store hh.out hb.out (by omega)
        have h1 : Hid _ := h1
        have h2 : Hid _ := h2
        generalize (nearL b.data.toList r o j)[r + j] = x at hc1 hy
        clear hcv HDC HDN hlen hnd
        go_wp2
        go_region
        all_goals go_wp2
        go_roundw
        case rel => exact ⟨j + 1, by omega, by go_num, h1, h2⟩
        case measure => simp [intOf]; omega
      · obtain rfl : j = 4 := by omega
        have hc2 := hcv.out wr hh.out
        have HB2 : Hid (Below w.heap.size w wr) := bnext HB.out hb.out
        have HT2 : Hid (∃ B, B = 0) := ⟨0, rfl⟩
        clear hcv hh
        go_wp2_with fail
        refine Calls.mono (HDN.out _) ?_
        rintro e w5 ⟨d1, d2, d3, d4, d5, rfl, hb5⟩
        replace HB2 : Hid (Below w.heap.size w w5) := bnext HB2.out hb5
        have t1 := cell_after (bnext hb.out hb5) T1.out
        have hb6 := bnext hb.out hb5
        obtain ⟨w6, hw6⟩ : ∃ w6, w5.alloc (.cells #[.int .i64 d1, .int .i64 d2, .slice d3 d4 d5] 26) = w6 := ⟨_, rfl⟩
        have hb56 : Below w5.heap.size w5 w6 := by rw [← hw6]; exact (Below.refl _ w5).alloc (Nat.le_refl _) _
        replace HB2 : Hid (Below w.heap.size w w6) := bnext HB2.out hb56
        have hb7 := bnext hb6 hb56
        clear hb5 HDN hb56 hb6 t1 hc2
        go_wp2_with fail
        refine Calls.mono (HDC.out _) ?_
        rintro e w7 ⟨f1, f2, f3, f4, f5, rfl, hb8⟩
        replace HB2 : Hid (Below w.heap.size w w7) := bnext HB2.out hb8
        have hb9 := bnext hb7 hb8
        obtain ⟨w8, hw8⟩ : ∃ w8, w7.alloc (.cells #[.int .i64 f1, .int .i64 f2, .slice f3 f4 f5] 26) = w8 := ⟨_, rfl⟩
        have hb78 : Below w7.heap.size w7 w8 := by rw [← hw8]; exact (Below.refl _ w7).alloc (Nat.le_refl _) _
        replace HB2 : Hid (Below w.heap.size w w8) := bnext HB2.out hb78
        have t1 := cell_after (bnext hb9 hb78) T1.out
        clear hb8 hb7 hb9 hb78 HDC hb
        go_wp2_with fail
        refine Calls.mono (HDO.out _) ?_
        rintro e w9 ⟨rfl, hb9⟩
        have HB9 : Hid (Below w.heap.size w w9) := bnext HB2.out hb9
        clear hb9
        go_wp2
        go_ret
        exact ⟨rfl, HB9.out⟩

set_option maxRecDepth 100000 in
theorem shardsTurned_lifted (os : Os) (started : os.Started) (H : Type) (enc : TypeId × Value → H) :
    ReturnsInHanded {} Tryz.checked os 5 .any (Rows.shardsTurnedSpec.pre6 enc Tryz.prog Tryz.f5 Rows.shardsTurnedRow.domain false) (Rows.shardsTurnedSpec.post enc Tryz.prog Tryz.f5 false true false false) := by
  refine returnsInHanded_of_change (C := Tryz.checked) Tryz.own started (by kernel_rfl) Tryz.func5
    (ChangeSpec.witness6 (enc := enc) (C := Tryz.checked) false ⟨#[], #[.agg #[.int .u8 0, .int .u8 0], .slice none 0 0, .agg #[.int .u32 0, .int .u32 0]], []⟩ 8 (by kernel_rfl) (by kernel_rfl) (by kernel_rfl) (by kernel_rfl)) ?_
  intro W base args ds gs before hval0 hW hcnd _
  have hval : ∀ (j : Nat) t v, Tryz.f5.params[j]? = some t → args[j]? = some v → Value.okWide Tryz.prog W .any base t v := hval0
  have hW' := hW
  obtain ⟨p, q, hA0, hV, rfl, hfz, hnd⟩ := hW
  have hA : DataW.TrodAll enc Tryz.prog W 0 (fun _ => true) true Tryz.f5.params.toList args.toList ds p := hA0
  rw [Tryz.params5] at hA hval
  obtain ⟨v0, vs0, d0, ds0, p0, q0, hargs, rfl, rfl, h0, r0⟩ := trodAll_cons hA
  obtain ⟨v1, vs1, d1, ds1, p1, q1, rfl, rfl, rfl, h1, r1⟩ := trodAll_cons r0
  obtain ⟨v2, vs2, d2, ds2, p2, q2, rfl, rfl, rfl, h2, r2⟩ := trodAll_cons r1
  obtain ⟨rfl, rfl, rfl⟩ := trodAll_nil r2
  obtain rfl : args = #[v0, v1, v2] := by cases args; simp_all
  obtain ⟨rfl, rfl⟩ := trodVars_none hV
  have lt0 : ∀ x ∈ p0, x.block < W.heap.size := by obtain ⟨m, hm⟩ := h0; exact DataW.trod_lt m _ _ _ hm
  obtain ⟨a0, b0, rfl, sa0, sb0⟩ := open_two_u8 (hval 0 40 v0 rfl rfl) h0
  have lt1 : ∀ x ∈ p1, x.block < W.heap.size := by obtain ⟨m, hm⟩ := h1; exact DataW.trod_lt m _ _ _ hm
  obtain ⟨l1, k1, s1, n1⟩ := open_pairs (hval 1 41 v1 rfl rfl) h1
  have lt2 : ∀ x ∈ p2, x.block < W.heap.size := by obtain ⟨m, hm⟩ := h2; exact DataW.trod_lt m _ _ _ hm
  obtain ⟨a2, b2, rfl, sa2, sb2⟩ := open_two_u32 (hval 2 46 v2 rfl rfl) h2
  clear hA0 hval0
  refine (shardsTurned_walk a0 b0 v1 l1 a2 b2 W sa0 sb0 k1 s1 n1 sa2 sb2).mono fun e W' ⟨he, bel⟩ => ?_
  subst he
  exact ⟨_, rfl, _, _, _, [], _, [], hW', trodAll_mk1 (shut_bool Tryz.underlying4 _), (trodAll_cons_mk (Below.trod Tryz.laidOut (by kernel_rfl) (of_decide_eq_true (by kernel_rfl)) h0 bel lt0) (trodAll_cons_mk (Below.trod Tryz.laidOut (by kernel_rfl) (of_decide_eq_true (by kernel_rfl)) h1 bel lt1) (trodAll_cons_mk (Below.trod Tryz.laidOut (by kernel_rfl) (of_decide_eq_true (by kernel_rfl)) h2 bel lt2) trodAll_mk0))), rfl, bel.frame _, fun h => by cases h⟩

theorem shardsTurned_holds : Rows.ShardsTurnedSaid :=
  OpenClaim.holds_of_wide 5 Tryz.f5 rfl rfl rfl rfl rfl rfl rfl ⟨rfl, rfl, rfl, rfl, rfl⟩ rfl rfl rfl rfl rfl (by kernel_rfl) Tryz.func5 (by kernel_rfl)
    (of_decide_eq_true (by kernel_rfl)) (by unfold Func.isWrapper; first | (rw [if_pos (by decide +kernel)]; kernel_rfl) | (rw [if_neg (by decide +kernel)]; exact ⟨rfl, rfl⟩))
    (fun os started H enc _ => shardsTurned_lifted os started H enc)

end Go.Proofs.YtbhngncnhabbkaaGreat
