/- The walk of the document's own Encode of shards. -/
import Derived.Test.YtbhngncnhabbkaaGreatHRefB
namespace Go.Proofs.YtbhngncnhabbkaaGreat
open Go.RowKit

set_option maxHeartbeats 4000000 in
set_option maxRecDepth 100000 in
theorem srenc_any (s : Sh.Shard) (v : Value) (w : World) (h : Lists w v s.2) (hf : FitS s.2) :
    Calls Tryz.prog 9 #[.agg (scells s v)] w fun e w' => e = .returned (.tuple #[.string ⟨(Sh.encS s).toArray⟩, .int .i64 (Sh.chk s)]) ∧ Below w.heap.size w w' := by
  obtain ⟨i0, hi0, hz0, hz1, hz2⟩ := info_parts Tryz.intInfo
  obtain ⟨p, o⟩ := s
  dsimp only at h hf
  obtain ⟨a, cap, rfl, hcap, _⟩ := id h
  obtain ⟨wa, hwa⟩ : ∃ wa, w.alloc (.cells #[.int .i64 p.1, .int .i64 p.2, .slice a o.length cap] 26) = wa := ⟨_, rfl⟩
  have c0 : wa.cell? ⟨w.heap.size, 0, none⟩ = some (.int .i64 p.1) := by rw [← hwa]; simp
  have c1 : wa.cell? ⟨w.heap.size, 1, none⟩ = some (.int .i64 p.2) := by rw [← hwa]; simp
  have c2 : wa.cell? ⟨w.heap.size, 2, none⟩ = some (.slice a o.length cap) := by rw [← hwa]; simp
  have hba : Hid (Below w.heap.size w wa) := by rw [← hwa]; exact (Below.refl _ w).alloc (Nat.le_refl _) _
  have HL : Hid (Lists wa (.slice a o.length cap) o) := h.later hba.out
  have HF : Hid (FitS o) := hf
  have HCK := srchk_any (p, o) (.slice a o.length cap) wa HL.out hf
  unfold scells at HCK ⊢
  dsimp only at HCK ⊢
  have hol := hf.1
  clear h hf
  cases hm : Sh.may (p, o) with
  | false =>
    rw [Sh.chk_no (by rw [hm]; simp)] at HCK ⊢
    have HE : Hid (Sh.encS (p, o) = []) := by unfold Sh.encS; rw [Hid, if_neg (by rw [hm]; simp)]
    rw [HE.out]
    replace HCK : Hid _ := HCK
    clear hm
    go_enter Tryz.func9, Tryz.ntmps9
    go_wp2_with fail
    refine Calls.mono HCK.out ?_
    rintro e w1 ⟨rfl, hb1⟩
    replace hb1 : Hid (Below w.heap.size w w1) := hba.out.trans (hb1.mono hba.out.size)
    clear HCK
    go_wp2
    go_ret2
    exact ⟨rfl, hb1.out⟩
  | true =>
    rw [Sh.chk_yes hm] at HCK ⊢
    have HE : Hid (Sh.encS (p, o) = Sh.sealB (Sh.raw (p, o))) := by unfold Sh.encS; rw [Hid, if_pos hm]; rfl
    obtain ⟨hmp, hlen, hok, hmany⟩ := Sh.may_iff.1 hm
    rw [Sh.mayP_iff] at hmp
    dsimp only at hmp hlen hok hmany
    have HOK : Hid (∀ l ∈ o, Gp.up (-1) l = true) := fun l hl => (Sh.okF_mem hok l hl).1
    have hol2 : o.length ≤ 256 := by omega
    replace HCK : Hid _ := HCK
    generalize Sh.encS (p, o) = r at *
    clear hm hok
    go_enter Tryz.func9, Tryz.ntmps9
    go_wp2_with fail
    refine Calls.mono HCK.out ?_
    rintro e w1 ⟨rfl, hb1⟩
    replace c0 := cell_after hb1 c0
    replace c1 := cell_after hb1 c1
    replace c2 := cell_after hb1 c2
    replace HL := Lists.hid HL hb1
    replace hb1 : Hid (Below w.heap.size w w1) := hba.out.trans (hb1.mono hba.out.size)
    clear HCK hba hwa
    go_wp2_with fail
    go_loopw [4, 5, 6, 7] (fun d t m i wr => ∃ k : Nat, k ≤ o.length ∧ i = .int .i64 k ∧ m = .int .i64 (Sh.many (o.take k)) ∧ t = .string ⟨(Sh.lists (o.take k)).toArray⟩ ∧ Hid (wr.ownsRow w1.heap.size 3 1 d k ((Sh.deg (o.take k)).map (Value.int .i64))) ∧ Hid (Below w1.heap.size w1 wr)) (fun _ _ _ i _ => o.length - (intOf i).toNat)
    case atStart => exact ⟨0, Nat.zero_le _, rfl, rfl, rfl, World.ownsRow_nil _ _ _ _, Below.refl _ _⟩
    case round =>
      obtain ⟨k, hk, rfl, rfl, rfl, HO, HB⟩ := hrel
      have e2 := cell_after HB.out c2
      by_cases hlt : k < o.length
      · obtain ⟨b, off, rfl, x, hx, hi⟩ := HL.out.at_ hlt
        obtain ⟨ax, cx, rfl, _⟩ := id hi
        have HX : Hid (w1.cell? _ = some _) := hx
        have hx2 := cell_after HB.out hx
        have hi2 : Hid (Ints w1 _ (o.getD k [])) := hi
        have hfl := HF.out.2 _ (getD_mem_o hlt)
        have HUP : Hid (Gp.up (-1) (o.getD k []) = true) := HOK.out _ (getD_mem_o hlt)
        have HM1 : Hid (Sh.many (o.take (k + 1)) = Sh.many (o.take k) + (o.getD k []).length) := many_step hlt
        have HM2 : Hid (Sh.many (o.take (k + 1)) ≤ Sh.many o) := many_mono _
        have HT1 : Hid (Sh.lists (o.take (k + 1)) = Sh.lists (o.take k) ++ Gp.enc (o.getD k [])) := Sh.lists_take o k hlt
        have HD1 : Hid ((Sh.deg (o.take (k + 1))).map (Value.int .i64) = (Sh.deg (o.take k)).map (Value.int .i64) ++ [.int .i64 ((o.getD k []).length : Int)]) := deg_take o k hlt
        clear hx hi
        generalize o.getD k [] = l at *
        have hmk : Sh.many (o.take k) + l.length ≤ 4096 := by have := HM1.out; have := HM2.out; omega
        have HEN : Hid (Gp.encS l = Gp.enc l) := by unfold Gp.encS; rw [Hid, if_pos HUP.out]
        have HER : Hid (Gp.err l = 0) := by unfold Gp.err; rw [Hid, if_pos HUP.out]
        generalize Sh.many (o.take k) = m at *
        have HTT : Hid ((⟨(Sh.lists (o.take k)).toArray⟩ : ByteArray) ++ ⟨(Gp.enc l).toArray⟩ = ⟨(Sh.lists (o.take (k + 1))).toArray⟩) := by
          rw [Hid, HT1.out]
          apply ByteArray.ext
          apply Array.ext'
          simp
        have HOa : Hid ((wr.alloc (.cells #[.int .i64 l.length] 3)).ownsRow w1.heap.size 3 1 u4 k ((Sh.deg (o.take k)).map (Value.int .i64))) := HO.out.alloc _
        generalize (Sh.deg (o.take k)).map (Value.int .i64) = D at *
        have hT : (⟨(Sh.lists (o.take k)).toArray⟩ : ByteArray).size ≤ 1000000 := by
          have h1 := lists_len (o.take k)
          have h2 := many_mono (o := o) k
          rw [List.length_take] at h1
          rw [size_of]; omega
        have hEz : (⟨(Gp.enc l).toArray⟩ : ByteArray).size ≤ 1000000 := by
          have h1 := Gp.enc_len l
          rw [size_of]; omega
        generalize (⟨(Sh.lists (o.take k)).toArray⟩ : ByteArray) = T at *
        go_wp2_with (at_builtin; refine wpList_append_own _ rfl _ _ 58 rfl w1.heap.size 3 i0 (.int .i64 0) 1 8 Tryz.underlying58 hi0 hz0 hz1 hz2 rfl (by decide) _ k D rfl HOa.out ⟨wr.heap.size, 0, none⟩ 1 1 [.int .i64 l.length] rfl rfl (cell_one_new _ _ _) (by simp [Value.oneCell']) (by unfold maxLen; omega) (by omega) (by have := HB.out.size; simp; omega) ?_)
        intro v' w2 hown2 hgrow2 _
        have HB2 : Hid (Below w1.heap.size w1 w2) := (HB.out.alloc HB.out.size _).grown hgrow2 (by have := HB.out.size; simp; omega) (fun q e => (HO.out.lt q e).1)
        rw [← HD1.out] at hown2
        have HO2 : Hid (w2.ownsRow w1.heap.size 3 1 v' (k + 1) ((Sh.deg (o.take (k + 1))).map (Value.int .i64))) := hown2
        have f2 := cell_after HB2.out c2
        have fx := cell_after HB2.out HX.out
        have hi3 : Hid (Ints w2 _ l) := hi2.out.later HB2.out
        clear hown2 hgrow2 HOa HO HD1 hx2 e2 HB
        have HCE := rencode_any _ l w2 hi3.out hfl.2 (by omega)
        rw [HEN.out, HER.out] at HCE
        replace HCE : Hid _ := HCE
        go_wp2_with fail
        refine Calls.mono HCE.out ?_
        rintro e w3 ⟨rfl, hb3⟩
        have g2 := cell_after hb3 f2
        have gx := cell_after hb3 fx
        have HO3 : Hid (w3.ownsRow w1.heap.size 3 1 v' (k + 1) ((Sh.deg (o.take (k + 1))).map (Value.int .i64))) := own_later HO2.out hb3
        replace hb3 : Hid (Below w1.heap.size w1 w3) := bnext HB2.out hb3
        clear HCE HO2 f2 fx hi3 HB2
        have htt := HTT.out
        go_wp2_with fail
        go_roundw
        case rel => exact ⟨k + 1, by omega, by go_num, by rw [HM1.out]; go_num, rfl, HO3, hb3⟩
        case measure => simp [intOf]; omega
      · obtain rfl : k = o.length := by omega
        rw [List.take_length] at HO ⊢
        have HI : Hid (Ints wr u4 (Sh.deg o)) := Ints.of_own HO.out
        have hdf := Sh.deg_fit hmany
        have hdl : (Sh.deg o).length ≤ 1000000000000 := by rw [Sh.deg_len]; omega
        have HWD := rwidth_any u4 (Sh.deg o) wr HI.out hdf hdl
        have hw13 := Sh.wd_le hmany
        have HPK := rpack_any u4 (Sh.deg o) (Sh.wd o : Nat) wr HI.out hdf hdl
        have hpy : ¬ (¬ (0 ≤ ((Sh.wd o : Nat) : Int) ∧ ((Sh.wd o : Nat) : Int) ≤ 32) ∨ ((Sh.wd o : Nat) : Int) < Pk.wid (Sh.deg o)) := by
          have : Pk.wid (Sh.deg o) = Sh.wd o := rfl
          omega
        rw [Pk.pack_yes hpy (by rw [Sh.deg_len]; omega)] at HPK
        dsimp only at HPK
        rw [Int.toNat_natCast] at HPK
        rw [show Pk.wid (Sh.deg o) = Sh.wd o from rfl] at HWD
        have HRAW : Hid ((((((((⟨#[115, 104]⟩ : ByteArray) ++ ⟨(Vi.putL p.1).toArray⟩) ++ ⟨(Vi.putL p.2).toArray⟩) ++ ⟨[UInt8.ofNat (Sh.wd o)].toArray⟩) ++ ⟨(Pk.pk (Sh.deg o) (Sh.wd o)).toArray⟩) ++ ⟨(Sh.lists o).toArray⟩) ++ ⟨(Vi.putL (Sh.many o)).toArray⟩) = ⟨(Sh.raw (p, o)).toArray⟩) := by
          unfold Sh.raw
          apply ByteArray.ext
          apply Array.ext'
          simp
        have hs1 := putL_size p.1
        have hs2 := putL_size p.2
        have hs3 := putL_size (Sh.many o)
        have hs4 : (⟨(Pk.pk (Sh.deg o) (Sh.wd o)).toArray⟩ : ByteArray).size ≤ 1000 := by
          rw [size_of, Pk.pk_length, Sh.deg_len]
          unfold Pk.size
          have : o.length * Sh.wd o ≤ 256 * 13 := Nat.mul_le_mul hol2 hw13
          omega
        have hs5 : (⟨(Sh.lists o).toArray⟩ : ByteArray).size ≤ 100000 := by
          have := lists_len o
          rw [size_of]; omega
        have hs6 : (⟨[UInt8.ofNat (Sh.wd o)].toArray⟩ : ByteArray).size = 1 := rfl
        have HCV : Hid (∀ (W : World) (g : Nat), W.cell? ⟨g, 0, none⟩ = some (.int .u8 (Sh.wd o : Nat)) → (convert 47 9 (.slice (some ⟨g, 0, none⟩) 1 1)).run Tryz.prog W = .ok (.string ⟨[UInt8.ofNat (Sh.wd o)].toArray⟩) W) := fun W g h => conv_byte W g _ (by omega) h
        have HS1 : Hid (∀ W : World, Calls Tryz.prog 33 #[.int .i64 p.1] W fun e w' => e = .returned (.string ⟨(Vi.putL p.1).toArray⟩) ∧ Below W.heap.size W w') := fun W => rput_any p.1 W (by omega) (by omega)
        have HS2 : Hid (∀ W : World, Calls Tryz.prog 33 #[.int .i64 p.2] W fun e w' => e = .returned (.string ⟨(Vi.putL p.2).toArray⟩) ∧ Below W.heap.size W w') := fun W => rput_any p.2 W (by omega) (by omega)
        have HS3 : Hid (∀ W : World, Calls Tryz.prog 33 #[.int .i64 (Sh.many o : Nat)] W fun e w' => e = .returned (.string ⟨(Vi.putL (Sh.many o : Nat)).toArray⟩) ∧ Below W.heap.size W w') := fun W => rput_any _ W (by omega) (by omega)
        have HS4 : Hid (∀ W : World, Calls Tryz.prog 32 #[.string ⟨(Sh.raw (p, o)).toArray⟩] W fun e w' => e = .returned (.string ⟨r.toArray⟩) ∧ Below W.heap.size W w') := fun W => by
          rw [HE.out]
          refine rsealed_any ⟨(Sh.raw (p, o)).toArray⟩ W ?_
          rw [← HRAW.out]
          simp only [ByteArray.size_append]
          have : (⟨#[115, 104]⟩ : ByteArray).size = 2 := rfl
          omega
        rw [← HRAW.out] at HS4
        have hs7 : (⟨#[115, 104]⟩ : ByteArray).size = 2 := rfl
        clear HRAW
        generalize (⟨(Vi.putL p.1).toArray⟩ : ByteArray) = P1 at *
        generalize (⟨(Vi.putL p.2).toArray⟩ : ByteArray) = P2 at *
        generalize (⟨(Vi.putL (Sh.many o)).toArray⟩ : ByteArray) = P3 at *
        generalize (⟨(Pk.pk (Sh.deg o) (Sh.wd o)).toArray⟩ : ByteArray) = PK at *
        generalize (⟨(Sh.lists o).toArray⟩ : ByteArray) = LS at *
        generalize (⟨[UInt8.ofNat (Sh.wd o)].toArray⟩ : ByteArray) = WB at *
        generalize Sh.wd o = wd at *
        generalize Sh.many o = m at *
        have hwd8 : IntKind.u8.wrap (wd : Int) = (wd : Int) := by simp [IntKind.wrap, IntKind.bits, IntKind.signed]; omega
        obtain ⟨A0, hA0⟩ : ∃ A, (⟨#[115, 104]⟩ : ByteArray) = A := ⟨_, rfl⟩
        have HA0 : Hid ((⟨#[115, 104]⟩ : ByteArray) = A0) := hA0
        obtain ⟨A1, hA1⟩ : ∃ A, (⟨#[115, 104]⟩ : ByteArray) ++ P1 = A := ⟨_, rfl⟩
        obtain ⟨A2, hA2⟩ : ∃ A, A1 ++ P2 = A := ⟨_, rfl⟩
        obtain ⟨A3, hA3⟩ : ∃ A, A2 ++ WB = A := ⟨_, rfl⟩
        obtain ⟨A4, hA4⟩ : ∃ A, A3 ++ PK = A := ⟨_, rfl⟩
        obtain ⟨A5, hA5⟩ : ∃ A, A4 ++ LS = A := ⟨_, rfl⟩
        obtain ⟨A6, hA6⟩ : ∃ A, A5 ++ P3 = A := ⟨_, rfl⟩
        rw [hA1, hA2, hA3, hA4, hA5, hA6] at HS4
        have z1 : A1.size = 2 + P1.size := by rw [← hA1, ByteArray.size_append, hs7]
        have z2 : A2.size = A1.size + P2.size := by rw [← hA2, ByteArray.size_append]
        have z3 : A3.size = A2.size + WB.size := by rw [← hA3, ByteArray.size_append]
        have z4 : A4.size = A3.size + PK.size := by rw [← hA4, ByteArray.size_append]
        have z5 : A5.size = A4.size + LS.size := by rw [← hA5, ByteArray.size_append]
        have y1 : ¬ 9223372036854775807 < 2 + P1.size := by omega
        have y2 : ¬ 9223372036854775807 < A1.size + P2.size := by omega
        have y3 : ¬ 9223372036854775807 < A2.size + WB.size := by omega
        have y4 : ¬ 9223372036854775807 < A3.size + PK.size := by omega
        have y5 : ¬ 9223372036854775807 < A4.size + LS.size := by omega
        have y6 : ¬ 9223372036854775807 < A5.size + P3.size := by omega
        clear z1 z2 z3 z4 z5 hs1 hs2 hs3 hs4 hs5 hs6 hs7 hA0
        replace HWD : Hid _ := HWD
        replace HPK : Hid _ := HPK
        go_wp2_with fail
        refine Calls.mono HWD.out ?_
        rintro e w2 ⟨rfl, rfl⟩
        go_wp2_with fail
        refine Calls.mono HPK.out ?_
        rintro e w3 ⟨rfl, hb3⟩
        have f0 := cell_after (bnext HB.out hb3) c0
        have f1 := cell_after (bnext HB.out hb3) c1
        have hbb : Below w.heap.size w w3 := hb1.out.trans ((bnext HB.out hb3).mono hb1.out.size)
        clear HWD HPK HO HI hb3 c0 c1 c2 e2 HB
        go_wp2_with fail
        have HB3 : Hid (Below w.heap.size w w3) := hbb
        clear hbb
        refine wp_region_vague (F := ?F) 12 13 _ _ 72 (.string WB) (fun x W => ∃ g, x = .slice (some ⟨g, 0, none⟩) 1 1 ∧ W.cell? ⟨g, 0, none⟩ = some (.int .u8 (wd : Int))) (by kernel_rfl) rfl rfl (by simp only [vblank, List.set_cons_succ, List.set_cons_zero]; rfl) (by kernel_rfl) (by kernel_rfl) ?hR ?walk ?make ?read ?go
        case hR => exact fun x W W' ⟨g, hx, hc⟩ hb => ⟨g, hx, cell_after hb hc⟩
        case walk =>
          intro b
          have l0 := Later.cell (Later.cell f0 b)
          have l1 := Later.cell (Later.cell f1 b)
          have hsome := Later.some b.world
          repeat (go_big_quiet_step (fail))
          go_big_quiet_step ((go_at_call 33; exact Later.made (HS1.out _)))
          repeat (go_big_quiet_step (fail))
          go_big_quiet_step ((go_at_call 33; exact Later.made (HS2.out _)))
          repeat (go_big_quiet_step (fail))
          go_big_quiet_step ((go_at_call 33; exact Later.made (HS3.out _)))
          repeat (go_big_quiet_step (fail))
          go_big_quiet_step ((go_at_call 32; exact Later.made (HS4.out _)))
          repeat (go_big_quiet_step (fail))
          refine wpQuiet_nil ?_
          exact rfl
        case make =>
          intro b
          refine ⟨.slice (some ⟨b.world.heap.size, 0, none⟩) 1 1, b.world.alloc (.cells #[.int .u8 (wd : Int)] 5), ?_, ⟨_, rfl, by simp⟩, (Below.refl _ _).alloc (Nat.le_refl _) _⟩
          go_simp
        case read =>
          rintro x W ⟨g, rfl, hc⟩
          have hv := HCV.out W g hc
          show Sem.run Tryz.prog (do pure (Next.value (← convert 47 9 (.slice (some ⟨g, 0, none⟩) 1 1)))) W = _
          simp only [Sem.run_bind, hv, Result.andThen_ok, Sem.run_pure]
        case go =>
          intro x b
          have HB4 : Below w.heap.size w b.world := bnext HB3.out b.below
          simp only [Act.put, List.setIfInBounds_toArray, List.set_cons_zero, List.set_cons_succ]
          go_wp2
          go_ret2
          exact ⟨rfl, HB4⟩

end Go.Proofs.YtbhngncnhabbkaaGreat
