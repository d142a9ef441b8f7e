/- The walks of the document's own pages (carouselref05): what they return, for every argument. -/
import Derived.Test.YtnlhgcpmmcmknaaCKeep
import Derived.Test.YtnlhgcpmmcmknaaSRef
namespace Go.Proofs.Ytnlhgcpmmcmknaa
open Go.RowKit

theorem conv_two (W : World) (x y : UInt8) (X Y : Int) (hx : (x.toNat : Int) = X) (hy : (y.toNat : Int) = Y) :
    (convert 68 9 (.slice (some ⟨W.heap.size, 0, none⟩) 2 2)).run Try.prog (W.alloc (.cells #[.int .u8 X, .int .u8 Y] 5)) = .ok (.string ⟨#[x, y]⟩) (W.alloc (.cells #[.int .u8 X, .int .u8 Y] 5)) := by
  subst hx hy
  have hown := World.ownsRow_lit (e := 5) (size := 1) (base := W.heap.size) W #[.int .u8 (x.toNat : Int), .int .u8 (y.toNat : Int)] 2 (Nat.le_refl _) (by decide) rfl
  exact conv_own _ _ _ 2 [x, y] rfl hown

set_option maxRecDepth 100000 in
set_option maxHeartbeats 2000000 in
theorem rencode_any (s : ByteArray) (w : World) (hs : s.size ≤ 9223372036854775807) :
    Calls Try.prog 66 #[.string s] w fun e w' => e = .returned (.tuple #[.string ⟨(Pg.enc s.data.toList).1.toArray⟩, .int .i64 (Pg.enc s.data.toList).2]) ∧ Below w.heap.size w w' := by
  obtain ⟨i0, hi, hz0, hz1, hz2⟩ := info_parts Try.info5
  have hlen : s.data.toList.length = s.size := by simp
  by_cases h : 122 < s.size
  · rw [Pg.enc_long (by omega)]
    go_enter Try.func66, Try.ntmps66
    go_wp2
    go_ret2
    exact ⟨rfl, Below.refl _ _⟩
  · rw [Pg.enc_yes (by omega)]
    show Calls _ _ _ _ fun e w' => e = .returned (.tuple #[.string ⟨(Pg.page s.data.toList).toArray⟩, .int .i64 0]) ∧ Below w.heap.size w w'
    obtain ⟨n, hn⟩ : ∃ n : Nat, 122 - s.size = n := ⟨_, rfl⟩
    have hn2 : (124 : Int) - (2 + (s.size : Int)) = (n : Int) := by omega
    have hcv := conv_two w (UInt8.ofNat (s.size / 256)) (UInt8.ofNat s.size) ((s.size : Int) / 256) ((s.size : Int) % 256) (by rw [show (UInt8.ofNat (s.size / 256)).toNat = s.size / 256 % 256 from rfl]; omega) (by rw [show (UInt8.ofNat s.size).toNat = s.size % 256 from rfl]; omega)
    obtain ⟨f, HF⟩ : ∃ f : ByteArray, Hid ((⟨#[UInt8.ofNat (s.size / 256), UInt8.ofNat s.size]⟩ : ByteArray) = f) := ⟨_, rfl⟩
    rw [HF.out] at hcv
    have hfs : f.size = 2 := by rw [← HF.out]; rfl
    obtain ⟨z, HZ⟩ : ∃ z : ByteArray, Hid ((⟨(List.replicate n 0).toArray⟩ : ByteArray) = z) := ⟨_, rfl⟩
    have hzs : z.size = n := by rw [← HZ.out]; show (List.replicate n (0 : UInt8)).length = n; simp
    have HBD : Hid (((f ++ s) ++ z).data.toList = Pg.body s.data.toList) := by
      show ((f ++ s) ++ z).data.toList = _
      rw [← HF.out, ← HZ.out, ← hn]
      unfold Pg.body
      rw [hlen]
      simp
    have HS : Hid (∀ W, Calls _ _ _ _ _) := fun W => rsum_any ((f ++ s) ++ z) W (by rw [ByteArray.size_append, ByteArray.size_append]; omega)
    rw [HBD.out] at HS
    have hxl := Cr.sum_lt (Pg.body s.data.toList)
    have HPG : Hid (∀ g : ByteArray, g.data.toList = Cr.four (Cr.sum (Pg.body s.data.toList)) → (⟨(Pg.page s.data.toList).toArray⟩ : ByteArray) = ((f ++ s) ++ z) ++ g) := by
      intro g hg
      apply ByteArray.ext
      apply Array.toList_inj.1
      have e : (((f ++ s) ++ z) ++ g).data.toList = ((f ++ s) ++ z).data.toList ++ g.data.toList := by simp
      rw [e, HBD.out, hg]
      rfl
    generalize (⟨(Pg.page s.data.toList).toArray⟩ : ByteArray) = P at HPG
    generalize Cr.sum (Pg.body s.data.toList) = x at HS hxl HPG
    have hg := HPG.out ⟨(Cr.four x).toArray⟩ rfl
    rw [hg]
    have HC4 : Hid (∀ W, _) := fun W => conv_four W x hxl
    have hgs : (⟨(Cr.four x).toArray⟩ : ByteArray).size = 4 := rfl
    generalize (⟨(Cr.four x).toArray⟩ : ByteArray) = g at HC4 hgs
    clear HBD hlen HF hg HPG
    go_enter Try.func66, Try.ntmps66
    go_wp2_with (at_make; refine wpList_make_full _ rfl _ _ 68 rfl w.heap.size 5 i0 (.int .u8 0) 1 Try.underlying68 hi hz0 hz1 _ _ _ _ n rfl rfl rfl rfl ?b2 ?b3 ?b4 ?_)
    case b2 => rw [hz2]; omega
    case b3 => unfold maxLen; omega
    case b4 => simp
    intro w1 hown hgrow
    rw [made_zeros] at hown
    have HB1 : Hid (Below w.heap.size w w1) := ((Below.refl _ w).alloc (Nat.le_refl _) _).grown hgrow (by simp) (by simp)
    have hcv2 := conv_own w1 _ _ n _ (by simp) hown
    rw [HZ.out] at hcv2
    clear hown hgrow hcv
    go_wp2_with fail
    refine (HS.out _).mono ?_
    rintro e w2 ⟨rfl, rfl⟩
    have hc4 := HC4.out w2
    have HB2 : Hid (∀ o, Below w.heap.size w (w2.alloc o)) := fun o => HB1.out.alloc HB1.out.size o
    clear hcv2 HS HC4
    go_wp2
    go_ret2
    exact ⟨rfl, HB2.out _⟩

set_option maxHeartbeats 1000000 in
theorem rdecode_any (s : ByteArray) (w : World) (_hs : s.size ≤ 9223372036854775807) :
    Calls Try.prog 76 #[.string s] w fun e w' => e = .returned (.tuple #[.string ⟨(Pg.dec s.data.toList).1.toArray⟩, .int .i64 (Pg.dec s.data.toList).2]) ∧ Below w.heap.size w w' := by
  have hlen : s.data.toList.length = s.size := by simp
  by_cases h1 : s.size = 128
  · have hz := size_at s (by omega)
    have b0 : (s[0]'(by omega)).toNat < 256 := UInt8.toNat_lt _
    have b1 : (s[1]'(by omega)).toNat < 256 := UInt8.toNat_lt _
    have i0 : 0 < s.size := by omega
    have i1 : 1 < s.size := by omega
    by_cases h2 : 122 < Pg.size s.data.toList
    · rw [Pg.dec_no (fun h => by have := h.2.1; omega)]
      rw [hz] at h2
      clear hz
      go_enter Try.func76, Try.ntmps76
      go_wp2
      go_region
      all_goals go_wp2
      all_goals go_ret2
      all_goals exact ⟨rfl, (Below.refl _ _).drew⟩
    · have ht := tell_at s _ hz
      have h3 : Pg.size s.data.toList ≤ 122 := by omega
      rw [hz] at h2
      have hle : (s.extract 2 (2 + Pg.size s.data.toList)).size ≤ 122 := by rw [ByteArray.size_extract]; omega
      rw [hz] at hle
      have hlt : (s.extract 2 (2 + (256 * (s[0]'(by omega)).toNat + s[1].toNat))).data.toList.length ≤ 122 := by rw [size_list]; exact hle
      have HP : Hid (∀ W, Calls _ _ _ _ _) := fun W => rencode_any (s.extract 2 (2 + (256 * (s[0]'(by omega)).toNat + s[1].toNat))) W (by omega)
      rw [Pg.enc_yes (by omega), ht] at HP
      by_cases h4 : s.data.toList = Pg.page (Pg.tell s.data.toList)
      · rw [Pg.dec_yes ⟨by omega, h3, h4⟩]
        have hq : (⟨(Pg.page (Pg.tell s.data.toList)).toArray⟩ : ByteArray) = s := by rw [← h4]
        have hr : (⟨(Pg.tell s.data.toList).toArray⟩ : ByteArray) = s.extract 2 (2 + (256 * (s[0]'(by omega)).toNat + s[1].toNat)) := by rw [← ht]
        simp only [hq] at HP
        rw [hr]
        clear hq hr ht h4 hz h3 hlt
        go_enter Try.func76, Try.ntmps76
        go_wp2
        go_region
        all_goals
          go_wp2_with fail
          refine (HP.out _).mono ?_
          rintro e w1 ⟨rfl, hb⟩
          have hb : Hid (Below w.heap.size w w1) := (Below.refl _ w).drew.trans hb
          go_wp2
          go_ret2
          exact ⟨rfl, hb.out⟩
      · rw [Pg.dec_no (fun h => h4 h.2.2)]
        obtain ⟨p, HQ⟩ : ∃ p : ByteArray, Hid ((⟨(Pg.page (Pg.tell s.data.toList)).toArray⟩ : ByteArray) = p) := ⟨_, rfl⟩
        simp only [HQ.out] at HP
        have hne : (p.toList == s.toList) = false := by
          rw [beq_eq_false_iff_ne]
          intro h
          rw [ByteArray.toList_eq, ByteArray.toList_eq, ← HQ.out] at h
          exact h4 h.symm
        clear HQ h4 ht h3 hz hlt
        go_enter Try.func76, Try.ntmps76
        go_wp2
        go_region
        all_goals
          go_wp2_with fail
          refine (HP.out _).mono ?_
          rintro e w1 ⟨rfl, hb⟩
          have hb : Hid (Below w.heap.size w w1) := (Below.refl _ w).drew.trans hb
          go_wp2
          go_ret2
          exact ⟨rfl, hb.out⟩
  · rw [Pg.dec_no (Pg.not_ok_length (by omega))]
    have hd : ((s.size : Int) == 128) = false := by simp; omega
    go_enter Try.func76, Try.ntmps76
    go_wp2
    go_ret2
    exact ⟨rfl, Below.refl _ _⟩

end Go.Proofs.Ytnlhgcpmmcmknaa
