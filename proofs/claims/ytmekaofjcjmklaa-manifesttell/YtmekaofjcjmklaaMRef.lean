/- The walks of the document's own Check and Encode of graphs. -/
import Derived.Test.YtmekaofjcjmklaaMTurn
namespace Go.Proofs.Ytmekaofjcjmklaa
open Go.RowKit

set_option maxHeartbeats 400000 in
set_option maxRecDepth 100000 in
theorem mrchk_any (g : Mf.Graph) (u : Value) (w : World) (h : Prt w u g.2) (hl : g.2.length ≤ 1000000000000) :
    Calls Try.prog 12 #[.agg (gcells g u)] w fun e w' => e = .returned (.int .i64 (Mf.chk g)) ∧ Below w.heap.size w w' := by
  obtain ⟨⟨n, m⟩, l⟩ := g
  unfold gcells
  dsimp only at h hl ⊢
  obtain ⟨a, cap, rfl, _⟩ := id h
  obtain ⟨wa, hwa⟩ : ∃ wa, w.alloc (.cells #[.int .i64 n, .int .i64 m, .slice a l.length cap] 24) = wa := ⟨_, rfl⟩
  have c0 : wa.cell? ⟨w.heap.size, 0, none⟩ = some (.int .i64 n) := by rw [← hwa]; simp
  have c1 : wa.cell? ⟨w.heap.size, 1, none⟩ = some (.int .i64 m) := by rw [← hwa]; simp
  have c2 : wa.cell? ⟨w.heap.size, 2, none⟩ = some (.slice a l.length cap) := by rw [← hwa]; simp
  have hba : Hid (Below w.heap.size w wa) := by rw [← hwa]; exact (Below.refl _ w).alloc (Nat.le_refl _) _
  have HC := rchk_any n (.slice a l.length cap) l wa (h.later hba.out) hl
  clear h hl
  by_cases h0 : m < 0
  · have HE : Hid (Mf.chk ((n, m), l) = 2) := chk_left (.inl h0)
    generalize Mf.chk ((n, m), l) = r at *
    clear HC
    go_enter Try.func12, Try.ntmps12
    go_wp2
    go_ret
    exact ⟨ret_int HE.out.symm, hba.out⟩
  · by_cases h1 : 4096 < m
    · have HE : Hid (Mf.chk ((n, m), l) = 2) := chk_left (.inr h1)
      generalize Mf.chk ((n, m), l) = r at *
      clear HC
      go_enter Try.func12, Try.ntmps12
      go_wp2
      go_ret
      exact ⟨ret_int HE.out.symm, hba.out⟩
    · rw [chk_right ⟨by omega, by omega⟩]
      generalize Pt.chk n l = r at *
      replace HC : Hid _ := HC
      go_enter Try.func12, Try.ntmps12
      go_wp2_with fail
      refine Calls.mono HC.out ?_
      rintro e w1 ⟨rfl, hb1⟩
      clear HC
      go_wp2
      go_ret
      exact ⟨rfl, bnext hba.out hb1⟩

theorem four_take (n j : Nat) (h : j < 4) : (Cr.four n).take (j + 1) = (Cr.four n).take j ++ [UInt8.ofNat (n / 2 ^ (8 * j) % 256)] := by
  have e : ∀ m : Nat, UInt8.ofNat (m % 256) = UInt8.ofNat m := fun m => by
    apply UInt8.toNat_inj.1
    simp
  have hj : j = 0 ∨ j = 1 ∨ j = 2 ∨ j = 3 := by omega
  rcases hj with rfl | rfl | rfl | rfl <;> simp [Cr.four, e]

set_option maxHeartbeats 1000000 in
set_option maxRecDepth 100000 in
theorem mrenc_any (g : Mf.Graph) (u : Value) (w : World) (h : Prt w u g.2) (hl : g.2.length ≤ 1000000000000) :
    Calls Try.prog 8 #[.agg (gcells g u)] w fun e w' => e = .returned (.tuple #[.string ⟨(Mf.encS g).toArray⟩, .int .i64 (Mf.chk g)]) ∧ Below w.heap.size w w' := by
  obtain ⟨i0, hi0, hz0, hz1, hz2⟩ := info_parts Try.intInfo
  have HCK0 := fun wa (hb : Below w.heap.size w wa) => mrchk_any g u wa (h.later hb) hl
  obtain ⟨⟨n, m⟩, l⟩ := g
  unfold gcells at HCK0 ⊢
  dsimp only at h hl HCK0 ⊢
  obtain ⟨a, cap, rfl, _⟩ := id h
  obtain ⟨wa, hwa⟩ : ∃ wa, w.alloc (.cells #[.int .i64 n, .int .i64 m, .slice a l.length cap] 24) = wa := ⟨_, rfl⟩
  have c0 : wa.cell? ⟨w.heap.size, 0, none⟩ = some (.int .i64 n) := by rw [← hwa]; simp
  have c1 : wa.cell? ⟨w.heap.size, 1, none⟩ = some (.int .i64 m) := by rw [← hwa]; simp
  have c2 : wa.cell? ⟨w.heap.size, 2, none⟩ = some (.slice a l.length cap) := by rw [← hwa]; simp
  have hba : Hid (Below w.heap.size w wa) := by rw [← hwa]; exact (Below.refl _ w).alloc (Nat.le_refl _) _
  have HCK := HCK0 wa hba.out
  have HPR : Hid (Prt wa (.slice a l.length cap) l) := h.later hba.out
  clear h HCK0
  rcases Mf.chk_cases ((n, m), l) with hc | hc
  · obtain ⟨⟨e1, e2⟩, ⟨v1, v2⟩, hl16, _⟩ := Mf.chk_iff.1 hc
    obtain ⟨hup, hfit, hlen, _, hrange⟩ := Mf.chk_ends hc
    dsimp only at e1 e2 v1 v2 hl16 hup hfit hlen hrange
    have HR : Hid ((Mf.encS ((n, m), l)) = Mf.sealB (Mf.raw ((n, m), l))) := Mf.encS_yes hc
    rw [hc] at HCK ⊢
    rw [HR.out]
    have HEN : Hid (∀ v W, Ints W v (Mf.ends l) → Calls Try.prog 20 #[v] W fun e w' => e = .returned (.tuple #[.string ⟨(Gp.enc (Mf.ends l)).toArray⟩, .int .i64 0]) ∧ Below W.heap.size W w') := fun v W hi => by
      have := rencode_any v (Mf.ends l) W hi hfit (by omega)
      rwa [show Gp.encS (Mf.ends l) = Gp.enc (Mf.ends l) by unfold Gp.encS; rw [if_pos hup], err_yes hup] at this
    have HP1 : Hid (∀ W : World, Calls Try.prog 21 #[.int .i64 n] W fun e w' => e = .returned (.string ⟨(Vi.putL n).toArray⟩) ∧ Below W.heap.size W w') := fun W => rput_any n W (by omega) (by omega)
    have HP2 : Hid (∀ W : World, Calls Try.prog 21 #[.int .i64 m] W fun e w' => e = .returned (.string ⟨(Vi.putL m).toArray⟩) ∧ Below W.heap.size W w') := fun W => rput_any m W (by omega) (by omega)
    have hs1 : (⟨(Vi.putL n).toArray⟩ : ByteArray).size ≤ 10 := by rw [size_of]; exact Mf.putL_len n
    have hs2 : (⟨(Vi.putL m).toArray⟩ : ByteArray).size ≤ 10 := by rw [size_of]; exact Mf.putL_len m
    have hs3 : (⟨(Gp.enc (Mf.ends l)).toArray⟩ : ByteArray).size ≤ 1000 := by
      rw [size_of]
      have := Mf.encl_len (Mf.ends l)
      omega
    have hs7 : (⟨#[99, 97, 114]⟩ : ByteArray).size = 3 := rfl
    have HRAW : Hid ((((⟨#[99, 97, 114]⟩ : ByteArray) ++ ⟨(Vi.putL n).toArray⟩) ++ ⟨(Vi.putL m).toArray⟩) ++ ⟨(Gp.enc (Mf.ends l)).toArray⟩ = ⟨(Mf.raw ((n, m), l)).toArray⟩) := by
      unfold Mf.raw
      apply ByteArray.ext
      apply Array.ext'
      simp
    have hrs : (⟨(Mf.raw ((n, m), l)).toArray⟩ : ByteArray).size ≤ 1000 := by
      rw [size_of]
      have := Mf.raw_size ((n, m), l)
      dsimp only at this
      omega
    have HSM : Hid (∀ W : World, Calls Try.prog 22 #[.string ⟨(Mf.raw ((n, m), l)).toArray⟩] W fun e w' => e = .returned (.int .u32 (Cr.sum (Mf.raw ((n, m), l)))) ∧ w' = W) := fun W => rsum_any ⟨(Mf.raw ((n, m), l)).toArray⟩ W (by omega)
    have hsl := Cr.sum_lt (Mf.raw ((n, m), l))
    have HSB : Hid (Mf.sealB (Mf.raw ((n, m), l)) = Mf.raw ((n, m), l) ++ Cr.four (Cr.sum (Mf.raw ((n, m), l)))) := rfl
    generalize Mf.sealB (Mf.raw ((n, m), l)) = sb at *
    generalize Cr.sum (Mf.raw ((n, m), l)) = sm at *
    generalize Mf.raw ((n, m), l) = rw_ at *
    replace HCK : Hid _ := HCK
    clear hc hfit hup HR
    generalize (⟨(Vi.putL n).toArray⟩ : ByteArray) = P1 at *
    generalize (⟨(Vi.putL m).toArray⟩ : ByteArray) = P2 at *
    generalize (⟨(Gp.enc (Mf.ends l)).toArray⟩ : ByteArray) = T at *
    obtain ⟨A0, hA0⟩ : ∃ A, (⟨#[99, 97, 114]⟩ : ByteArray) = A := ⟨_, rfl⟩
    obtain ⟨A1, hA1⟩ : ∃ A, (⟨#[99, 97, 114]⟩ : ByteArray) ++ P1 = A := ⟨_, rfl⟩
    obtain ⟨A2, hA2⟩ : ∃ A, A1 ++ P2 = A := ⟨_, rfl⟩
    rw [hA1, hA2] at HRAW
    have hA3 : A2 ++ T = ⟨rw_.toArray⟩ := HRAW.out
    have z1 : A1.size = 3 + P1.size := by rw [← hA1, ByteArray.size_append, hs7]
    have z2 : A2.size = A1.size + P2.size := by rw [← hA2, ByteArray.size_append]
    have y1 : ¬ 9223372036854775807 < 3 + P1.size := by omega
    have y2 : ¬ 9223372036854775807 < A1.size + P2.size := by omega
    have y3 : ¬ 9223372036854775807 < A2.size + T.size := by omega
    clear z1 z2 hs1 hs2 hs3 hs7 HRAW hA0
    have HEL : Hid (∀ k, k < l.length → (Mf.ends (l.take (k + 1))).map (Value.int .i64) = (Mf.ends (l.take k)).map (Value.int .i64) ++ [.int .i64 (l.getD k p0).2]) := fun k hk => by
      rw [take_succ_e l k hk]
      simp [Mf.ends]
    go_enter Try.func8, Try.ntmps8
    go_wp2_with fail
    refine Calls.mono HCK.out ?_
    rintro e w1 ⟨rfl, hb1⟩
    replace c0 := cell_after hb1 c0
    replace c1 := cell_after hb1 c1
    replace c2 := cell_after hb1 c2
    replace HPR : Hid (Prt w1 _ l) := HPR.out.later hb1
    replace hb1 : Hid (Below w.heap.size w w1) := bnext hba.out hb1
    have C0 : Hid _ := c0
    have C1 : Hid _ := c1
    have C2 : Hid _ := c2
    clear HCK hba hwa
    go_wp2_with fail
    go_loopw [4, 5] (fun d i wr => ∃ k : Nat, k ≤ l.length ∧ i = .int .i64 k ∧ Hid (wr.ownsRow w1.heap.size 3 1 d k ((Mf.ends (l.take k)).map (Value.int .i64))) ∧ Hid (Below w1.heap.size w1 wr)) (fun _ i _ => l.length - (intOf i).toNat)
    case atStart => exact ⟨0, Nat.zero_le _, rfl, World.ownsRow_nil _ _ _ _, Below.refl _ _⟩
    case round =>
      clear c0 c1 c2
      obtain ⟨k, hk, rfl, HO, HB⟩ := hrel
      have e2 := cell_after HB.out C2.out
      by_cases hlt : k < l.length
      · obtain ⟨b, off, rfl, hx0, hx1⟩ : ∃ b off, a = some ⟨b, off, none⟩ ∧ wr.cell? ⟨b, off + k * 2, none⟩ = some (.int .i64 (l.getD k p0).1) ∧ wr.cell? ⟨b, off + k * 2 + 1, none⟩ = some (.int .i64 (l.getD k p0).2) := by
          obtain ⟨a', cap', e, _, hh⟩ := HPR.out
          simp only [Value.slice.injEq] at e
          obtain ⟨rfl, _, _⟩ := e
          rcases hh with h0 | ⟨b, off, rfl, hcell⟩
          · exact absurd hlt (by rw [h0]; simp)
          · exact ⟨b, off, rfl, cell_after HB.out (hcell k hlt).1, cell_after HB.out (hcell k hlt).2⟩
        have HE1 : Hid _ := HEL.out k hlt
        generalize l.getD k p0 = z at *
        generalize (Mf.ends (l.take k)).map (Value.int .i64) = D at *
        have HOa : Hid ((wr.alloc (.cells #[.int .i64 z.2] 3)).ownsRow w1.heap.size 3 1 u4 k D) := HO.out.alloc _
        clear HEN HP1 HP2 HSM
        go_wp2_with (at_builtin; refine wpList_append_own _ rfl _ _ 44 rfl w1.heap.size 3 i0 (.int .i64 0) 1 8 Try.underlying44 hi0 hz0 hz1 hz2 rfl (by decide) _ k D rfl HOa.out ⟨wr.heap.size, 0, none⟩ 1 1 [.int .i64 z.2] rfl rfl (cell_one_new _ _ _) (by simp [Value.oneCell']) (by unfold maxLen; omega) (by omega) (by have := HB.out.size; simp; omega) ?_)
        intro v' w2 hown2 hgrow2 _
        have HB2 : Hid (Below w1.heap.size w1 w2) := (HB.out.alloc HB.out.size _).grown hgrow2 (by have := HB.out.size; simp; omega) (fun q e => (HO.out.lt q e).1)
        have HO2 : Hid (w2.ownsRow w1.heap.size 3 1 v' (k + 1) ((Mf.ends (l.take (k + 1))).map (Value.int .i64))) := by rw [Hid, HE1.out]; exact hown2
        clear hown2 hgrow2 HOa HO e2 HB hx0 hx1
        go_wp2
        go_roundw
        case rel => exact ⟨k + 1, by omega, by go_num, HO2, HB2⟩
        case measure => simp [intOf]; omega
      · obtain rfl : k = l.length := by omega
        rw [List.take_length] at HO
        have HI : Ints wr u4 (Mf.ends l) := Ints.of_own HO.out
        have HENW : Hid _ := HEN.out u4 wr HI
        clear HO HEN hlt hk HI
        go_wp2_with fail
        refine Calls.mono HENW.out ?_
        rintro e w3 ⟨rfl, hb3⟩
        have HB3 : Hid (Below w1.heap.size w1 w3) := bnext HB.out hb3
        have l0 := Later.cell (cell_after HB3.out C0.out)
        have l1 := Later.cell (cell_after HB3.out C1.out)
        have hsome := Later.some w3
        clear hb3 HENW HB e2
        go_wp2_with fail
        refine wp_region_later (by kernel_rfl) (by kernel_rfl) ?_
        repeat (go_big_quiet_step (fail))
        go_big_quiet_step ((go_at_call 21; exact Later.made (HP1.out _)))
        repeat (go_big_quiet_step (fail))
        go_big_quiet_step ((go_at_call 21; exact Later.made (HP2.out _)))
        repeat (go_big_quiet_step (fail))
        refine wpQuiet_nil ?_
        intro w4 hw4
        obtain ⟨⟨w5, hb5⟩, rfl⟩ := hw4
        have HB4 : Hid (Below w.heap.size w w4) := bnext hb1.out (bnext HB3.out hb5)
        clear l0 l1 hsome HP1 HP2 hb5 HB3 hA1 hA2 hA3 y1 y2 y3
        go_wp2_with fail
        refine Calls.mono (HSM.out _) ?_
        rintro e w6 ⟨rfl, rfl⟩
        clear HSM
        have HF0 : Hid ((⟨rw_.toArray⟩ : ByteArray) = ⟨(rw_ ++ (Cr.four sm).take 0).toArray⟩) := by rw [Hid]; simp
        have HFN : Hid ((⟨sb.toArray⟩ : ByteArray) = ⟨(rw_ ++ (Cr.four sm).take 4).toArray⟩) := by rw [Hid, HSB.out]; rfl
        have HFS : Hid (∀ j, j < 4 → (⟨(rw_ ++ (Cr.four sm).take j).toArray⟩ : ByteArray) ++ ⟨[UInt8.ofNat (sm / 2 ^ (8 * j) % 256)].toArray⟩ = ⟨(rw_ ++ (Cr.four sm).take (j + 1)).toArray⟩) := fun j hj => by
          rw [four_take sm j hj]
          apply ByteArray.ext
          apply Array.ext'
          simp
        have HFZ : Hid (∀ j, j ≤ 4 → (⟨(rw_ ++ (Cr.four sm).take j).toArray⟩ : ByteArray).size ≤ 2000) := fun j hj => by
          rw [size_of] at hrs
          rw [size_of, List.length_append, List.length_take]
          omega
        go_wp2
        go_loopw [8, 10] (fun b i wr => ∃ j : Nat, j ≤ 4 ∧ i = .int .i64 j ∧ b = .string ⟨(rw_ ++ (Cr.four sm).take j).toArray⟩ ∧ Hid (Below w.heap.size w wr)) (fun _ i _ => 4 - (intOf i).toNat)
        case atStart => exact ⟨0, by omega, rfl, by rw [HF0.out], HB4⟩
        case round =>
          obtain ⟨j, hj, rfl, rfl, HB⟩ := hrel
          by_cases hlt : j < 4
          · have hy : (sm : Int) / 2 ^ (8 * j) % 256 = ((sm / 2 ^ (8 * j) % 256 : Nat) : Int) := by simp
            have hyl : sm / 2 ^ (8 * j) % 256 < 256 := Nat.mod_lt _ (by decide)
            have HX := HFS.out j hlt
            have hzz := HFZ.out j hj
            have hcv := conv_byte (wr.alloc (.cells #[.int .u8 ((sm / 2 ^ (8 * j) % 256 : Nat) : Int)] 5)) wr.heap.size (sm / 2 ^ (8 * j) % 256) hyl (by simp)
            have HB2 : Hid (Below w.heap.size w (wr.alloc (.cells #[.int .u8 ((sm / 2 ^ (8 * j) % 256 : Nat) : Int)] 5))) := HB.out.alloc HB.out.size _
            have hone : (⟨[UInt8.ofNat (sm / 2 ^ (8 * j) % 256)].toArray⟩ : ByteArray).size = 1 := rfl
            generalize (⟨[UInt8.ofNat (sm / 2 ^ (8 * j) % 256)].toArray⟩ : ByteArray) = Y at *
            generalize sm / 2 ^ (8 * j) % 256 = y at *
            generalize (⟨(rw_ ++ (Cr.four sm).take j).toArray⟩ : ByteArray) = F at *
            go_wp2
            go_roundw
            case rel => exact ⟨j + 1, by omega, by go_num, by rw [← HX], HB2⟩
            case measure => simp [intOf]; omega
          · obtain rfl : j = 4 := by omega
            rw [← HFN.out]
            go_wp2
            go_ret2
            exact ⟨rfl, HB.out⟩
  · have HR : Hid ((Mf.encS ((n, m), l)) = []) := Mf.encS_no hc
    rw [hc] at HCK ⊢
    rw [HR.out]
    replace HCK : Hid _ := HCK
    clear hc HR
    go_enter Try.func8, Try.ntmps8
    go_wp2_with fail
    refine Calls.mono HCK.out ?_
    rintro e w1 ⟨rfl, hb1⟩
    replace hb1 : Hid (Below w.heap.size w w1) := bnext hba.out hb1
    clear HCK
    go_wp2
    go_ret2
    exact ⟨rfl, hb1.out⟩

end Go.Proofs.Ytmekaofjcjmklaa
