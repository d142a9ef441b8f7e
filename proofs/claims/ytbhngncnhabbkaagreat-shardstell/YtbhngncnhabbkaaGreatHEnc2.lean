/- The walks of shards.listsAsBytes and Encode. -/
import Derived.Test.YtbhngncnhabbkaaGreatHEnc
namespace Go.Proofs.YtbhngncnhabbkaaGreat
open Go.RowKit Go.Shelf

theorem lists_len : ∀ (o : List (List Int)), (Sh.lists o).length ≤ 10 * o.length + 10 * Sh.many o
  | [] => by simp [Sh.lists]
  | l :: o => by
    have h1 := lists_len o
    have h2 := Gp.enc_len l
    have e1 : Sh.lists (l :: o) = Gp.enc l ++ Sh.lists o := by simp [Sh.lists]
    have e2 : Sh.many (l :: o) = l.length + Sh.many o := by simp [Sh.many]
    rw [e1, e2, List.length_append, List.length_cons]
    omega

/-- Where a round of the lists' loop begins. -/
structure Listing (w wr : World) (o : List (List Int)) (k : Nat) : Prop where
  wrote : Wrote w.heap.size w.heap.size (Sh.lists (o.take k)) wr
  below : Below w.heap.size w wr

set_option maxHeartbeats 1000000 in
set_option maxRecDepth 100000 in
theorem listB_any (v : Value) (o : List (List Int)) (w : World) (h : Lists w v o) (hf : FitS o) (hm : Sh.many o ≤ 4096) (ho : o.length ≤ 65536) (hup : ∀ l ∈ o, Gp.up (-1) l = true) :
    Calls Tryz.prog 26 #[v] w fun e w' => e = .returned (.string ⟨(Sh.lists o).toArray⟩) ∧ Below w.heap.size w w' := by
  have HL : Hid (Lists w v o) := h
  have HF : Hid (FitS o) := hf
  have HUP : Hid (∀ l ∈ o, Gp.up (-1) l = true) := hup
  have HLE : Hid (∀ k, (Sh.lists (o.take k)).length ≤ 1000000) := fun k => by
    have h1 := lists_len (o.take k)
    have h2 := many_mono (o := o) k
    rw [List.length_take] at h1
    omega
  obtain ⟨a, cap, rfl, _, _⟩ := id h
  have R0 : Hid (Listing w (w.alloc (.cells #[.pointer none, .slice none 0 0] 94)) o 0) :=
    ⟨Lib.IsBuilderF.of (Lib.fresh_isBuilder 94 5 w), (Below.refl _ w).alloc (Nat.le_refl _) _⟩
  obtain ⟨R, HR⟩ : ∃ R, Hid (Sh.lists o = R) := ⟨_, rfl⟩
  rw [HR.out]
  clear h hf hup
  go_enter Tryz.func26, Tryz.ntmps26
  go_wp2
  go_loopw [10] (fun c wr => ∃ k : Nat, k ≤ o.length ∧ c = .int .i64 k ∧ Hid (Listing w wr o k)) (fun c _ => o.length - (intOf c).toNat)
  case atStart => exact ⟨0, Nat.zero_le _, rfl, R0⟩
  case round =>
    clear R0
    obtain ⟨k, hk, rfl, RK⟩ := hrel
    by_cases hlt : k < o.length
    · obtain ⟨b, off, rfl, x, hx, hi⟩ := HL.out.at_ hlt
      have c1 := cell_after RK.out.below hx
      have hi2 : Ints wr x (o.getD k []) := hi.later RK.out.below
      have hfl := HF.out.2 _ (getD_mem_o hlt)
      have HE := encode_any x (o.getD k []) wr hi2 hfl.2 (by omega)
      have hu := HUP.out _ (getD_mem_o hlt)
      rw [show Gp.encS (o.getD k []) = Gp.enc (o.getD k []) by unfold Gp.encS; rw [if_pos hu], show Gp.err (o.getD k []) = 0 by unfold Gp.err; rw [if_pos hu]] at HE
      have HT : Hid (Sh.lists (o.take (k + 1)) = Sh.lists (o.take k) ++ Gp.enc (o.getD k [])) := Sh.lists_take o k hlt
      have HLE2 : Hid ((Sh.lists (o.take k)).length + (Gp.enc (o.getD k [])).length ≤ 1000000) := by have := HLE.out (k + 1); rwa [HT.out, List.length_append] at this
      replace HE : Hid _ := HE
      obtain ⟨ax, cx, rfl, _⟩ := id hi
      clear hx hi hi2 hfl hu
      generalize o.getD k [] = l at *
      generalize Gp.enc l = q at *
      generalize l.length = n at *
      go_wp2_with fail
      refine Calls.mono HE.out ?_
      rintro e w1 ⟨rfl, hb1⟩
      have hw1 := RK.out.wrote.later hb1
      have hB1 : Below w.heap.size w w1 := bnext RK.out.below hb1
      have HWS : Hid (Calls _ _ _ _ _) := write_str _ _ _ q w1 hw1 (by have := HLE2.out; omega) hB1.size
      have HB1 : Hid (Below w.heap.size w w1) := hB1
      clear hb1 hw1 hB1 HE
      go_wp2_with fail
      refine Calls.mono HWS.out ?_
      rintro e w2 ⟨⟨u, rfl⟩, hw2, hb2, _⟩
      have R2 : Hid (Listing w w2 o (k + 1)) := ⟨by rw [HT.out]; exact hw2, HB1.out.trans hb2⟩
      clear hw2 hb2 HWS HB1 HT
      go_wp2
      go_roundw
      case rel => exact ⟨k + 1, by omega, by go_num, R2⟩
      case measure => simp [intOf]; omega
    · obtain rfl : k = o.length := by omega
      have hw := RK.out.wrote
      rw [List.take_length, HR.out] at hw
      have HST : Hid (Calls _ _ _ _ _) := string_any _ _ _ wr hw RK.out.below.size
      clear hw
      go_wp2_with fail
      refine Calls.mono HST.out ?_
      rintro e w4 ⟨rfl, hb4, _⟩
      have HB : Hid (Below w.heap.size w w4) := RK.out.below.trans hb4
      clear hb4 HST
      go_wp2
      go_ret
      exact ⟨rfl, HB.out⟩

theorem putL_size (n : Int) : (⟨(Vi.putL n).toArray⟩ : ByteArray).size ≤ 10 := by rw [size_of]; exact Gp.putL_len n

set_option maxHeartbeats 4000000 in
set_option maxRecDepth 100000 in
theorem senc_any (s : Sh.Shard) (v : Value) (w : World) (h : Lists w v s.2) (hf : FitS s.2) (hp : (-9223372036854775808 ≤ s.1.1 ∧ s.1.1 ≤ 9223372036854775807) ∧ (-9223372036854775808 ≤ s.1.2 ∧ s.1.2 ≤ 9223372036854775807)) :
    Calls Tryz.prog 8 #[.agg (scells s v)] w fun e w' => e = .returned (.tuple #[.string ⟨(Sh.encS s).toArray⟩, .int .i64 (Sh.chk s)]) ∧ Below w.heap.size w w' := by
  obtain ⟨⟨p1, p2⟩, o⟩ := s
  dsimp only at h hf hp
  obtain ⟨a, cap, rfl, hcap, _⟩ := id h
  obtain ⟨wa, hwa⟩ : ∃ wa, w.alloc (.cells #[.int .i64 p1, .int .i64 p2, .slice a o.length cap] 26) = wa := ⟨_, rfl⟩
  have c0 : wa.cell? ⟨w.heap.size, 0, none⟩ = some (.int .i64 p1) := by rw [← hwa]; simp
  have c1 : wa.cell? ⟨w.heap.size, 1, none⟩ = some (.int .i64 p2) := by rw [← hwa]; simp
  have c2 : wa.cell? ⟨w.heap.size, 2, none⟩ = some (.slice a o.length cap) := by rw [← hwa]; simp
  have hba : Hid (Below w.heap.size w wa) := by rw [← hwa]; exact (Below.refl _ w).alloc (Nat.le_refl _) _
  have HL : Hid (Lists wa (.slice a o.length cap) o) := h.later hba.out
  have HF : Hid (FitS o) := hf
  have HCK := schk_any ((p1, p2), o) (.slice a o.length cap) wa HL.out hf hp
  unfold scells at HCK ⊢
  dsimp only at HCK ⊢
  have hol := hf.1
  clear h hf
  cases hm : Sh.may ((p1, p2), o) with
  | false =>
    rw [Sh.chk_no (by rw [hm]; simp)] at HCK ⊢
    have HE : Hid (Sh.encS ((p1, p2), o) = []) := by unfold Sh.encS; rw [Hid, if_neg (by rw [hm]; simp)]
    rw [HE.out]
    replace HCK : Hid _ := HCK
    clear hm
    go_enter Tryz.func8, Tryz.ntmps8
    go_wp2_with fail
    refine Calls.mono HCK.out ?_
    rintro e w1 ⟨rfl, hb1⟩
    replace hb1 : Hid (Below w.heap.size w w1) := hba.out.trans (hb1.mono hba.out.size)
    clear HCK
    go_wp2
    go_ret2
    exact ⟨rfl, hb1.out⟩
  | true =>
    rw [Sh.chk_yes hm] at HCK ⊢
    have HE : Hid (Sh.encS ((p1, p2), o) = Sh.raw ((p1, p2), o) ++ Cr.four (Cr.sum (Sh.raw ((p1, p2), o)))) := by unfold Sh.encS; rw [Hid, if_pos hm]; rfl
    obtain ⟨hmp, hlen, hok, hmany⟩ := Sh.may_iff.1 hm
    rw [Sh.mayP_iff] at hmp
    dsimp only at hmp hlen hok hmany
    have hup : ∀ l ∈ o, Gp.up (-1) l = true := fun l hl => (Sh.okF_mem hok l hl).1
    have hol2 : o.length ≤ 65536 := by omega
    have HRAW : Hid ((((((⟨#[115, 104]⟩ : ByteArray) ++ ⟨(Vi.putL p1).toArray⟩) ++ ⟨(Vi.putL p2).toArray⟩) ++ ⟨(UInt8.ofNat (Sh.wd o) :: Pk.pk (Sh.deg o) (Sh.wd o)).toArray⟩) ++ ⟨(Sh.lists o).toArray⟩) ++ ⟨(Vi.putL (Sh.many o)).toArray⟩ = ⟨(Sh.raw ((p1, p2), o)).toArray⟩) := by
      unfold Sh.raw
      apply ByteArray.ext
      apply Array.ext'
      simp
    have hs1 := putL_size p1
    have hs2 := putL_size p2
    have hs3 := putL_size (Sh.many o)
    have hw13 := Sh.wd_le hmany
    have hs4 : (⟨(UInt8.ofNat (Sh.wd o) :: Pk.pk (Sh.deg o) (Sh.wd o)).toArray⟩ : ByteArray).size ≤ 1000000 := by
      rw [size_of, List.length_cons, Pk.pk_length, Sh.deg_len]
      unfold Pk.size
      have : o.length * Sh.wd o ≤ 65536 * 13 := Nat.mul_le_mul hol2 hw13
      omega
    have hs5 : (⟨(Sh.lists o).toArray⟩ : ByteArray).size ≤ 1000000 := by
      have := lists_len o
      rw [size_of]; omega
    have hs7 : (⟨#[115, 104]⟩ : ByteArray).size = 2 := rfl
    have HS1 : Hid (∀ W : World, Calls Tryz.prog 24 #[.int .i64 p1] W fun e w' => e = .returned (.string ⟨(Vi.putL p1).toArray⟩) ∧ Below W.heap.size W w') := fun W => put_any p1 W (by omega) (by omega)
    have HS2 : Hid (∀ W : World, Calls Tryz.prog 24 #[.int .i64 p2] W fun e w' => e = .returned (.string ⟨(Vi.putL p2).toArray⟩) ∧ Below W.heap.size W w') := fun W => put_any p2 W (by omega) (by omega)
    have HS3 : Hid (∀ W : World, Calls Tryz.prog 24 #[.int .i64 (Sh.many o : Nat)] W fun e w' => e = .returned (.string ⟨(Vi.putL (Sh.many o : Nat)).toArray⟩) ∧ Below W.heap.size W w') := fun W => put_any _ W (by omega) (by omega)
    have HS4 : Hid (∀ W : World, Lists W (.slice a o.length cap) o → Calls Tryz.prog 25 #[.slice a o.length cap] W fun e w' => e = .returned (.string ⟨(UInt8.ofNat (Sh.wd o) :: Pk.pk (Sh.deg o) (Sh.wd o)).toArray⟩) ∧ Below W.heap.size W w') := fun W hW => degB_any _ o W hW hol2 hmany
    have HS5 : Hid (∀ W : World, Lists W (.slice a o.length cap) o → Calls Tryz.prog 26 #[.slice a o.length cap] W fun e w' => e = .returned (.string ⟨(Sh.lists o).toArray⟩) ∧ Below W.heap.size W w') := fun W hW => listB_any _ o W hW HF.out hmany hol2 hup
    have HS6 : Hid (∀ W : World, Lists W (.slice a o.length cap) o → Calls Tryz.prog 27 #[.slice a o.length cap] W fun e w' => e = .returned (.int .i64 (Sh.many o : Nat)) ∧ w' = W) := fun W hW => stotal_any _ o W hW HF.out
    have hrs : (⟨(Sh.raw ((p1, p2), o)).toArray⟩ : ByteArray).size ≤ 140737488351232 := by
      rw [← HRAW.out]
      simp only [ByteArray.size_append]
      omega
    have HS7 : Hid (∀ W : World, Calls Tryz.prog 28 #[.string ⟨(Sh.raw ((p1, p2), o)).toArray⟩] W fun e w' => e = .returned (.string ⟨(Cr.four (Cr.sum (Sh.raw ((p1, p2), o)))).toArray⟩) ∧ Below W.heap.size W w') := fun W => sumB_any ⟨(Sh.raw ((p1, p2), o)).toArray⟩ W hrs
    have HEA : Hid ((⟨(Sh.raw ((p1, p2), o)).toArray⟩ : ByteArray) ++ ⟨(Cr.four (Cr.sum (Sh.raw ((p1, p2), o)))).toArray⟩ = ⟨(Sh.encS ((p1, p2), o)).toArray⟩) := by
      rw [HE.out]
      apply ByteArray.ext
      apply Array.ext'
      simp
    have hs6 : (⟨(Cr.four (Cr.sum (Sh.raw ((p1, p2), o)))).toArray⟩ : ByteArray).size = 4 := rfl
    obtain ⟨ER, HER⟩ : ∃ ER, Hid ((⟨(Sh.encS ((p1, p2), o)).toArray⟩ : ByteArray) = ER) := ⟨_, rfl⟩
    rw [HER.out] at HEA ⊢
    replace HCK : Hid _ := HCK
    clear hm hok HE HER hup hlen
    generalize (⟨(Cr.four (Cr.sum (Sh.raw ((p1, p2), o)))).toArray⟩ : ByteArray) = F4 at *
    generalize (⟨(Sh.raw ((p1, p2), o)).toArray⟩ : ByteArray) = RW at *
    generalize (⟨(Vi.putL p1).toArray⟩ : ByteArray) = P1 at *
    generalize (⟨(Vi.putL p2).toArray⟩ : ByteArray) = P2 at *
    generalize (⟨(Vi.putL (Sh.many o)).toArray⟩ : ByteArray) = P3 at *
    generalize (⟨(UInt8.ofNat (Sh.wd o) :: Pk.pk (Sh.deg o) (Sh.wd o)).toArray⟩ : ByteArray) = PK at *
    generalize (⟨(Sh.lists o).toArray⟩ : ByteArray) = LS at *
    obtain ⟨A1, hA1⟩ : ∃ A, (⟨#[115, 104]⟩ : ByteArray) ++ P1 = A := ⟨_, rfl⟩
    obtain ⟨A2, hA2⟩ : ∃ A, A1 ++ P2 = A := ⟨_, rfl⟩
    obtain ⟨A3, hA3⟩ : ∃ A, A2 ++ PK = A := ⟨_, rfl⟩
    obtain ⟨A4, hA4⟩ : ∃ A, A3 ++ LS = A := ⟨_, rfl⟩
    have hA5 : A4 ++ P3 = RW := by rw [← hA4, ← hA3, ← hA2, ← hA1]; exact HRAW.out
    have hA6 : RW ++ F4 = ER := HEA.out
    have z1 : A1.size = 2 + P1.size := by rw [← hA1, ByteArray.size_append, hs7]
    have z2 : A2.size = A1.size + P2.size := by rw [← hA2, ByteArray.size_append]
    have z3 : A3.size = A2.size + PK.size := by rw [← hA3, ByteArray.size_append]
    have z4 : A4.size = A3.size + LS.size := by rw [← hA4, ByteArray.size_append]
    have z5 : RW.size = A4.size + P3.size := by rw [← hA5, ByteArray.size_append]
    have y1 : ¬ 9223372036854775807 < 2 + P1.size := by omega
    have y2 : ¬ 9223372036854775807 < A1.size + P2.size := by omega
    have y3 : ¬ 9223372036854775807 < A2.size + PK.size := by omega
    have y4 : ¬ 9223372036854775807 < A3.size + LS.size := by omega
    have y5 : ¬ 9223372036854775807 < A4.size + P3.size := by omega
    have y6 : ¬ 9223372036854775807 < RW.size + F4.size := by omega
    have hrsz : RW.size ≤ 10000000 := by omega
    clear z1 z2 z3 z4 z5 hs1 hs2 hs3 hs4 hs5 hs7 HRAW HEA hw13 hrs
    generalize Sh.many o = m at *
    go_enter Tryz.func8, Tryz.ntmps8
    go_wp2_with fail
    refine Calls.mono HCK.out ?_
    rintro e w1 ⟨rfl, hb1⟩
    have d0 := Later.cell (cell_after hb1 c0)
    have d1 := Later.cell (cell_after hb1 c1)
    have d2 := Later.cell (cell_after hb1 c2)
    have hsome := Later.some w1
    have HL1 : Hid (Lists w1 (.slice a o.length cap) o) := HL.out.later hb1
    replace hb1 : Hid (Below w.heap.size w w1) := hba.out.trans (hb1.mono hba.out.size)
    have HD4 : Hid (∀ y : Later w1, Lists y.world (.slice a o.length cap) o) := fun y => HL1.out.later y.below
    clear HCK hba hwa HL c0 c1 c2 HL1
    go_wp2_with fail
    refine wp_region_later (by kernel_rfl) (by kernel_rfl) ?_
    repeat (go_big_quiet_step (first
      | (go_at_call 24; first | exact Later.made (HS1.out _) | exact Later.made (HS2.out _) | exact Later.made (HS3.out _))
      | (go_at_call 25; exact Later.made (HS4.out _ (HD4.out _)))
      | (go_at_call 26; exact Later.made (HS5.out _ (HD4.out _)))
      | (go_at_call 27; exact Later.same (HS6.out _ (HD4.out _)))))
    refine wpQuiet_nil ?_
    intro w2 hw2
    obtain ⟨⟨w3, hb3⟩, rfl⟩ := hw2
    have HB3 : Hid (Below w.heap.size w w2) := bnext hb1.out hb3
    clear hb3 d0 d1 d2 hsome HD4 HS1 HS2 HS3 HS4 HS5 HS6
    go_wp2_with fail
    refine Calls.mono (HS7.out _) ?_
    rintro e w4 ⟨rfl, hb4⟩
    have HB4 : Hid (Below w.heap.size w w4) := bnext HB3.out hb4
    clear hb4 HS7
    go_wp2
    go_ret2
    exact ⟨rfl, HB4.out⟩

end Go.Proofs.YtbhngncnhabbkaaGreat
