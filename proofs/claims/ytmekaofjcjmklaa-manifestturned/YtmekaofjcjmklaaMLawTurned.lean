/- THE STATEMENT ManifestTurned: bytes of a graph that are cut off anywhere, or have a byte behind them, or of which bits within four bytes, side by side, are turned over, are no graph's. For every list of bytes, every three uint32 and every byte. No conditions. -/
import Derived.Test.YtmekaofjcjmklaaMTurn
namespace Go.Proofs.Ytmekaofjcjmklaa
open Go.ChangeShapes Go.WideShapes Go.ChangeAt Go.RowKit Go.Deep

set_option maxHeartbeats 4000000 in
set_option maxRecDepth 100000 in
theorem manifestTurned_walk (v : Value) (l : List UInt8) (a0 at0 o : Nat) (x : Int) (w : World) (hv : Bts w v l) (_hl : l.length ≤ 9223372036854775807) (_ha : a0 < 4294967296) (ht : at0 < 4294967296) (ho : o < 4294967296) (hx : (Lit.int .u8 x).wf = true) :
    Calls Try.prog 6 #[v, .agg #[.int .u32 a0, .int .u32 at0, .int .u32 o], .int .u8 x] w fun e w' => e = .returned (.bool true) ∧ Below w.heap.size w w' := by
  obtain ⟨y, rfl, hy⟩ := wf_u8 hx
  obtain ⟨wa, hwa⟩ : ∃ wa, w.alloc (.cells #[.int .u32 a0, .int .u32 at0, .int .u32 o] 41) = wa := ⟨_, rfl⟩
  have HT : Hid (wa.heap[w.heap.size]? = some (.cells #[.int .u32 a0, .int .u32 at0, .int .u32 o] 41 (0, 0))) := by rw [Hid, ← hwa]; exact heap_alloc_new _ _
  have HB : Hid (Below w.heap.size w wa) := by rw [Hid, ← hwa]; exact (Below.refl _ w).alloc (Nat.le_refl _) _
  have HMD := made_any v l (a0 % 65536) wa (hv.later HB.out) (Nat.mod_lt _ (by decide))
  rw [show ((a0 % 65536 : Nat) : Int) = (a0 : Int) % 65536 by omega] at HMD
  have HDO : Hid (∀ W, Calls Try.prog 14 #[] W fun e w' => e = .returned (.bool true) ∧ Below W.heap.size W w') := fun W => mdoes_any W
  have hck := Mf.mkG_chk l (a0 % 65536)
  have hl16 := Mf.mkG_len l (a0 % 65536)
  generalize Mf.mkG l (a0 % 65536) = s at *
  obtain ⟨n0, n1, n2, _, _, _⟩ := three_cells HT.out
  obtain ⟨va, vc, rfl, _, _⟩ := id hv
  clear hv hx
  by_cases hl : l = []
  · subst hl
    rw [if_pos rfl] at hck
    have HEN : Hid (∀ W u, Prt W u s.2 → Calls Try.prog 7 #[.agg (gcells s u)] W fun e w' => e = .returned (.tuple #[.string ⟨#[]⟩, .int .i64 2]) ∧ Below W.heap.size W w') := fun W u h => by
      have := menc_any s u W h (by omega)
      rw [Mf.encS_no hck, hck] at this
      exact this
    obtain ⟨⟨p1, p2⟩, q⟩ := s
    unfold gcells at HMD HEN
    dsimp only at HMD HEN hl16
    replace HMD : Hid _ := HMD
    clear hck
    go_enter Try.func6, Try.ntmps6
    go_wp2_with fail
    refine Calls.mono HMD.out ?_
    rintro e w2 ⟨u, rfl, hu, hb2⟩
    have hp := hu.prt
    obtain ⟨xa, xc, rfl, _, _⟩ := id hp
    obtain ⟨w3, hw3⟩ : ∃ w3, w2.alloc (.cells #[.int .i64 p1, .int .i64 p2, .slice xa q.length xc] 24) = w3 := ⟨_, rfl⟩
    have hb23 : Below w2.heap.size w2 w3 := by rw [← hw3]; exact (Below.refl _ w2).alloc (Nat.le_refl _) _
    have hS : GBlk w3 w2.heap.size p1 p2 (.slice xa q.length xc) := by rw [← hw3]; exact heap_alloc_new _ _
    obtain ⟨s0, s1, s2, _, _, _⟩ := three_cells hS
    replace HB : Hid (Below w.heap.size w w3) := bnext (bnext HB.out hb2) hb23
    have HEN3 : Hid _ := HEN.out w3 _ (hp.later hb23)
    clear hu hp hb2 hb23 HMD HEN n0 n1 n2 hS HT hwa
    go_wp2_with fail
    refine Calls.mono HEN3.out ?_
    rintro e w4 ⟨rfl, hb4⟩
    replace HB : Hid (Below w.heap.size w w4) := bnext HB.out hb4
    clear hb4 HEN3 s0 s1 s2
    go_wp2_with fail
    refine Calls.mono (HDO.out _) ?_
    rintro e w9 ⟨rfl, hb9⟩
    have HB9 : Hid (Below w.heap.size w w9) := bnext HB.out hb9
    clear hb9
    go_wp2
    go_ret
    exact ⟨rfl, HB9.out⟩
  · rw [if_neg hl] at hck
    have hs : Mf.chk s = 0 := hck
    clear hck hl
    obtain ⟨b, hb⟩ : ∃ b, (⟨(Mf.enc s).toArray⟩ : ByteArray) = b := ⟨_, rfl⟩
    have HEN : Hid _ := menc_yes hs hb
    have hbl : b.data.toList = Mf.enc s := by rw [← hb]
    have HND : Hid (∀ q, q + 3 < b.size → ((((Mf.decE (nearL b.data.toList q o 4) : Int) == 0) == ((o : Int) == 0)) = true)) := fun q hq => by
      rw [hbl]; exact Mf.near_dec hs (by rw [← hb, size_of] at hq; exact hq) ho
    have HCD : Hid (∀ q, q < b.size → Mf.decE (b.data.toList.take q) = 10) := fun q hq => by
      rw [hbl]; exact Mf.cut_dec hs (by rw [← hb, size_of] at hq; exact hq)
    have HMR : Hid (Mf.decE (b.data.toList ++ [UInt8.ofNat y]) = 10) := by
      rw [Hid, hbl]; exact Mf.more_dec hs _
    have hbz : 7 ≤ b.size ∧ b.size ≤ 200 := by
      rw [← hb, size_of]; exact ⟨(Mf.enc_len s).1, Mf.enc_size hs⟩
    generalize l.length = m at *
    obtain ⟨⟨p1, p2⟩, q⟩ := s
    unfold gcells at HMD HEN
    dsimp only at HMD HEN hl16
    replace HMD : Hid _ := HMD
    clear hs hb hbl
    go_enter Try.func6, Try.ntmps6
    go_wp2_with fail
    refine Calls.mono HMD.out ?_
    rintro e w2 ⟨u, rfl, hu, hb2⟩
    have hp := hu.prt
    obtain ⟨xa, xc, rfl, _, _⟩ := id hp
    obtain ⟨w3, hw3⟩ : ∃ w3, w2.alloc (.cells #[.int .i64 p1, .int .i64 p2, .slice xa q.length xc] 24) = w3 := ⟨_, rfl⟩
    have hb23 : Below w2.heap.size w2 w3 := by rw [← hw3]; exact (Below.refl _ w2).alloc (Nat.le_refl _) _
    have hS : GBlk w3 w2.heap.size p1 p2 (.slice xa q.length xc) := by rw [← hw3]; exact heap_alloc_new _ _
    obtain ⟨s0, s1, s2, _, _, _⟩ := three_cells hS
    replace HT : Hid _ := blk_later (blk_later HT.out hb2) hb23
    replace HB : Hid (Below w.heap.size w w3) := bnext (bnext HB.out hb2) hb23
    have HEN3 : Hid _ := HEN.out w3 _ (hp.later hb23)
    clear hu hp hb2 hb23 HMD HEN n0 n1 n2 hS hwa
    go_wp2_with fail
    refine Calls.mono HEN3.out ?_
    rintro e w4 ⟨rfl, hb4⟩
    replace HT : Hid _ := blk_later HT.out hb4
    replace HB : Hid (Below w.heap.size w w4) := bnext HB.out hb4
    clear hb4 HEN3 s0 s1 s2 hw3
    obtain ⟨cap, W, hc, hW, hB⟩ := bytes_new w4 b
    have hW : Hid (Holds W w4.heap.size b.data.toList) := hW
    have hB : Hid (Below w4.heap.size w4 W) := hB
    obtain ⟨t0, t1, t2, _, _, _⟩ := three_cells (blk_later HT.out hB.out)
    obtain ⟨q0, q1, q2, _, _, _⟩ := three_cells HT.out
    have T2 : Hid _ := q2
    obtain ⟨r, hr, hr3⟩ : ∃ r : Nat, (at0 : Int) % ((b.size : Int) - 3) = (r : Int) ∧ r + 3 < b.size := by
      have h1 := Int.emod_nonneg (at0 : Int) (show (b.size : Int) - 3 ≠ 0 by omega)
      have h2 := Int.emod_lt_of_pos (at0 : Int) (show 0 < (b.size : Int) - 3 by omega)
      exact ⟨((at0 : Int) % ((b.size : Int) - 3)).toNat, by omega, by omega⟩
    have hpl : Hid (∀ j, (nearL b.data.toList r o j).length = b.size) := fun j => by rw [nearL_length]; simp
    have hcv := fun (W : World) (h : Holds W w4.heap.size (nearL b.data.toList r o 4)) => conv_held h cap (hpl.out 4)
    have hcv : Hid _ := hcv
    have hnd := HND.out r hr3
    have HDC : Hid (∀ W, _) := mdec_told (b.extract 0 r) (by rw [ByteArray.size_extract]; omega) (E := 10) (by rw [ByteArray.data_extract]; simpa using HCD.out r (by omega))
    have HDN : Hid (∀ W, _) := mdec_told (⟨(nearL b.data.toList r o 4).toArray⟩ : ByteArray) (by rw [size_of, hpl.out]; omega) rfl
    rw [show (⟨(nearL b.data.toList r o 4).toArray⟩ : ByteArray).data.toList = nearL b.data.toList r o 4 from rfl] at HDN
    have hyz : (⟨[UInt8.ofNat y].toArray⟩ : ByteArray).size = 1 := rfl
    have HDM : Hid (∀ W, _) := mdec_told (b ++ ⟨[UInt8.ofNat y].toArray⟩) (by rw [ByteArray.size_append, hyz]; omega) (E := 10) (by rw [app_bytes]; exact HMR.out)
    have HCB : Hid (∀ (W : World) (g : Nat), W.cell? ⟨g, 0, none⟩ = some (.int .u8 y) → _) := fun W g h => conv_byte W g y hy h
    generalize (⟨[UInt8.ofNat y].toArray⟩ : ByteArray) = Y at *
    generalize Mf.decE (nearL b.data.toList r o 4) = E at *
    clear HND HCD HMR
    go_wp2_with fail
    go_loopw [12] (fun c wr => ∃ j : Nat, j ≤ 4 ∧ c = .int .i64 j ∧ Hid (Holds wr w4.heap.size (nearL b.data.toList r o j)) ∧ Hid (Below w4.heap.size w4 wr)) (fun c _ => 4 - (intOf c).toNat)
    case atStart => exact ⟨0, by omega, rfl, hW, hB⟩
    case round =>
      clear hW hB hc t0 t1 t2 q0 q1 q2
      obtain ⟨j, hj, rfl, hh, hb⟩ := hrel
      have t2 := cell_after hb.out T2.out
      by_cases hlt : j < 4
      · have hlen := hpl.out j
        have hc1 := hh.out.cell (r + j) (by omega)
        have hf1 := hh.out.free (r + j) (by omega)
        obtain ⟨z, hz, h1, h2⟩ := near_store hh.out hb.out (by omega)
        have h1 : Hid _ := h1
        have h2 : Hid _ := h2
        generalize (nearL b.data.toList r o j)[r + j] = f at hc1 hz
        clear hcv HDC HDN HDM HCB hlen hnd
        go_wp2
        go_region
        all_goals go_wp2
        go_roundw
        case rel => exact ⟨j + 1, by omega, by go_num, h1, h2⟩
        case measure => simp [intOf]; omega
      · obtain rfl : j = 4 := by omega
        have hc2 := hcv.out wr hh.out
        have HB2 : Hid (Below w.heap.size w wr) := bnext HB.out hb.out
        clear hcv hh
        go_wp2_with fail
        refine Calls.mono (HDN.out _) ?_
        rintro e w5 ⟨d1, d2, d3, d4, d5, rfl, hb5⟩
        replace HB2 : Hid (Below w.heap.size w w5) := bnext HB2.out hb5
        have hb6 := bnext hb.out hb5
        obtain ⟨w6, hw6⟩ : ∃ w6, w5.alloc (.cells #[.int .i64 d1, .int .i64 d2, .slice d3 d4 d5] 24) = w6 := ⟨_, rfl⟩
        have hb56 : Below w5.heap.size w5 w6 := by rw [← hw6]; exact (Below.refl _ w5).alloc (Nat.le_refl _) _
        replace HB2 : Hid (Below w.heap.size w w6) := bnext HB2.out hb56
        have hb7 := bnext hb6 hb56
        clear hb5 HDN hb56 hb6 t2 hc2
        go_wp2_with fail
        refine Calls.mono (HDC.out _) ?_
        rintro e w7 ⟨f1, f2, f3, f4, f5, rfl, hb8⟩
        replace HB2 : Hid (Below w.heap.size w w7) := bnext HB2.out hb8
        have hb9 := bnext hb7 hb8
        obtain ⟨w8, hw8⟩ : ∃ w8, w7.alloc (.cells #[.int .i64 f1, .int .i64 f2, .slice f3 f4 f5] 24) = w8 := ⟨_, rfl⟩
        have hb78 : Below w7.heap.size w7 w8 := by rw [← hw8]; exact (Below.refl _ w7).alloc (Nat.le_refl _) _
        replace HB2 : Hid (Below w.heap.size w w8) := bnext HB2.out hb78
        have hb10 := bnext hb9 hb78
        obtain ⟨wY, hwY⟩ : ∃ wY, w8.alloc (.cells #[.int .u8 (y : Int)] 5) = wY := ⟨_, rfl⟩
        have hcb := HCB.out wY w8.heap.size (by rw [← hwY]; simp)
        have hb8Y : Below w8.heap.size w8 wY := by rw [← hwY]; exact (Below.refl _ w8).alloc (Nat.le_refl _) _
        replace HB2 : Hid (Below w.heap.size w wY) := bnext HB2.out hb8Y
        have hb11 := bnext hb10 hb8Y
        clear hb8 hb7 hb9 hb10 hb78 hb8Y HDC hb HCB
        go_wp2_with fail
        refine Calls.mono (HDM.out _) ?_
        rintro e w9 ⟨g1, g2, g3, g4, g5, rfl, hb12⟩
        replace HB2 : Hid (Below w.heap.size w w9) := bnext HB2.out hb12
        have hb13 := bnext hb11 hb12
        obtain ⟨w10, hw10⟩ : ∃ w10, w9.alloc (.cells #[.int .i64 g1, .int .i64 g2, .slice g3 g4 g5] 24) = w10 := ⟨_, rfl⟩
        have hb910 : Below w9.heap.size w9 w10 := by rw [← hw10]; exact (Below.refl _ w9).alloc (Nat.le_refl _) _
        replace HB2 : Hid (Below w.heap.size w w10) := bnext HB2.out hb910
        have t2 := cell_after (bnext hb13 hb910) T2.out
        clear hb12 hb11 hb13 hb910 HDM hcb
        go_wp2_with fail
        refine Calls.mono (HDO.out _) ?_
        rintro e w11 ⟨rfl, hb14⟩
        have HB9 : Hid (Below w.heap.size w w11) := bnext HB2.out hb14
        clear hb14
        go_wp2
        go_ret
        exact ⟨rfl, HB9.out⟩

set_option maxRecDepth 100000 in
theorem manifestTurned_lifted (os : Os) (started : os.Started) (H : Type) (enc : TypeId × Value → H) :
    ReturnsInHanded {} Try.checked os 6 .any (Rows.manifestTurnedSpec.pre6 enc Try.prog Try.f6 Rows.manifestTurnedRow.domain false) (Rows.manifestTurnedSpec.post enc Try.prog Try.f6 false true false false) := by
  refine returnsInHanded_of_change (C := Try.checked) Try.own started (by kernel_rfl) Try.func6
    (ChangeSpec.witness6 (enc := enc) (C := Try.checked) false ⟨#[], #[.slice none 0 0, .agg #[.int .u32 0, .int .u32 0, .int .u32 0], .int .u8 0], []⟩ 8 (by kernel_rfl) (by kernel_rfl) (by kernel_rfl) (by kernel_rfl)) ?_
  intro W base args ds gs before hval0 hW hcnd _
  have hval : ∀ (j : Nat) t v, Try.f6.params[j]? = some t → args[j]? = some v → Value.okWide Try.prog W .any base t v := hval0
  have hW' := hW
  obtain ⟨p, q, hA0, hV, rfl, hfz, hnd⟩ := hW
  have hA : DataW.TrodAll enc Try.prog W 0 (fun _ => true) true Try.f6.params.toList args.toList ds p := hA0
  rw [Try.params6] at hA hval
  obtain ⟨v0, vs0, d0, ds0, p0, q0, hargs, rfl, rfl, h0, r0⟩ := trodAll_cons hA
  obtain ⟨v1, vs1, d1, ds1, p1, q1, rfl, rfl, rfl, h1, r1⟩ := trodAll_cons r0
  obtain ⟨v2, vs2, d2, ds2, p2, q2, rfl, rfl, rfl, h2, r2⟩ := trodAll_cons r1
  obtain ⟨rfl, rfl, rfl⟩ := trodAll_nil r2
  obtain rfl : args = #[v0, v1, v2] := by cases args; simp_all
  obtain ⟨rfl, rfl⟩ := trodVars_none hV
  have lt0 : ∀ x ∈ p0, x.block < W.heap.size := by obtain ⟨m, hm⟩ := h0; exact DataW.trod_lt m _ _ _ hm
  obtain ⟨l0, k0, n0⟩ := open_bts (hval 0 34 v0 rfl rfl) h0
  have lt1 : ∀ x ∈ p1, x.block < W.heap.size := by obtain ⟨m, hm⟩ := h1; exact DataW.trod_lt m _ _ _ hm
  obtain ⟨a1, b1, c1, rfl, sa1, sb1, sc1⟩ := open_three_u32 (hval 1 41 v1 rfl rfl) h1
  obtain ⟨a2, rfl, rfl, rfl, w2⟩ := open_int Try.underlying5 (hval 2 5 v2 rfl rfl) h2
  clear hA0 hval0
  refine (manifestTurned_walk v0 l0 a1 b1 c1 a2 W k0 n0 sa1 sb1 sc1 w2).mono fun e W' ⟨he, bel⟩ => ?_
  subst he
  exact ⟨_, rfl, _, _, _, [], _, [], hW', trodAll_mk1 (shut_bool Try.underlying4 _), (trodAll_cons_mk (Below.trod Try.laidOut (by kernel_rfl) (of_decide_eq_true (by kernel_rfl)) h0 bel lt0) (trodAll_cons_mk (Below.trod Try.laidOut (by kernel_rfl) (of_decide_eq_true (by kernel_rfl)) h1 bel lt1) (trodAll_cons_mk (shut_int Try.underlying5 w2) trodAll_mk0))), rfl, bel.frame _, fun h => by cases h⟩

theorem manifestTurned_holds : Rows.ManifestTurnedSaid :=
  OpenClaim.holds_of_wide 6 Try.f6 rfl rfl rfl rfl rfl rfl rfl ⟨rfl, rfl, rfl, rfl, rfl⟩ rfl rfl rfl rfl rfl (by kernel_rfl) Try.func6 (by kernel_rfl)
    (of_decide_eq_true (by kernel_rfl)) (by unfold Func.isWrapper; first | (rw [if_pos (by decide +kernel)]; kernel_rfl) | (rw [if_neg (by decide +kernel)]; exact ⟨rfl, rfl⟩))
    (fun os started H enc _ => manifestTurned_lifted os started H enc)

end Go.Proofs.Ytmekaofjcjmklaa
