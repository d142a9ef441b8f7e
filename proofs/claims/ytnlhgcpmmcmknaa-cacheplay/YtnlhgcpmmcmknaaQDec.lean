/- The walks of strings.Clone, pages.Encode and pages.Decode. -/
import Derived.Test.YtnlhgcpmmcmknaaQPage
import Derived.Shelf.Strconv.Clone
namespace Go.Proofs.Ytnlhgcpmmcmknaa
open Go.RowKit Go.Shelf

/-- The numbers of Clone's text, and of its types, in this program. -/
def cloneRen : Ren := ⟨fun | 316 => 78 | n => n, fun | 9 => 9 | 0 => 0 | 37 => 68 | 127 => 113 | 3 => 3 | 4 => 4 | 5 => 5 | n => n, fun n => n⟩

theorem cloneLays : LaysM.n316 Try.prog cloneRen := {
  mixed := by kernel_rfl
  f316 := Try.func78.trans (congrArg some (by kernel_rfl))
  t0 := Try.underlying0, a0 := Try.isAgg0, z0 := Try.sizeOf0, v0 := Try.zeroValue0
  t3 := Try.underlying3, a3 := Try.isAgg3, z3 := Try.sizeOf3, v3 := Try.zeroValue3
  t4 := Try.underlying4, a4 := Try.isAgg4, z4 := Try.sizeOf4, v4 := Try.zeroValue4
  t5 := Try.underlying5, a5 := Try.isAgg5, z5 := Try.sizeOf5, v5 := Try.zeroValue5
  t9 := Try.underlying9, a9 := Try.isAgg9, z9 := Try.sizeOf9, v9 := Try.zeroValue9
  t37 := Try.underlying68, a37 := Try.isAgg68, z37 := Try.sizeOf68, v37 := Try.zeroValue68
  t127 := Try.underlying113, a127 := Try.isAgg113, z127 := Try.sizeOf113, v127 := Try.zeroValue113
  i0 := by kernel_rfl
  i3 := by kernel_rfl
  i4 := by kernel_rfl
  i5 := by kernel_rfl
  i9 := by kernel_rfl
  i37 := by kernel_rfl
  i127 := by kernel_rfl }

theorem clone_any (s : ByteArray) (w : World) (hs : s.size ≤ 140737488351232) :
    Calls Try.prog 55 #[.string s] w fun e w' => e = .returned (.string s) ∧ Below w.heap.size w w' := by
  have HC : Hid (Calls Try.prog 78 #[.string s] w fun e w' => e = .returned (.string s) ∧ Below w.heap.size w w') := Any.stringslite_Clone cloneLays s w (by omega)
  go_enter Try.func55, Try.ntmps55
  go_wp2_with fail
  refine Calls.mono HC.out ?_
  rintro e w1 ⟨rfl, hb⟩
  have hb : Hid _ := hb
  go_wp2
  go_ret
  exact ⟨rfl, hb.out⟩

set_option maxHeartbeats 1000000 in
theorem encode_any (s : ByteArray) (w : World) (hs : s.size ≤ 9223372036854775807) :
    Calls Try.prog 32 #[.string s] w fun e w' => e = .returned (.tuple #[.string ⟨(Pg.enc s.data.toList).1.toArray⟩, .int .i64 (Pg.enc s.data.toList).2]) ∧ Below w.heap.size w w' := by
  have hlen : s.data.toList.length = s.size := by simp
  by_cases h : 122 < s.size
  · rw [Pg.enc_long (by omega)]
    go_enter Try.func32, Try.ntmps32
    go_wp2
    go_ret2
    exact ⟨rfl, Below.refl _ _⟩
  · rw [Pg.enc_yes (by omega)]
    have HP : Hid (Calls _ _ _ _ _) := pageOf_any s w (by omega)
    generalize Pg.page s.data.toList = p at *
    go_enter Try.func32, Try.ntmps32
    go_wp2_with fail
    refine Calls.mono HP.out ?_
    rintro e w1 ⟨rfl, hb⟩
    have hb : Hid _ := hb
    go_wp2
    go_ret2
    exact ⟨rfl, hb.out⟩

theorem size_at (s : ByteArray) (h : 1 < s.size) : Pg.size s.data.toList = 256 * (s[0]'(by omega)).toNat + s[1].toNat := by
  have e0 : s.data.toList.getD 0 0 = s[0]'(by omega) := by
    rw [List.getD_eq_getElem?_getD, List.getElem?_eq_getElem (by simp; omega)]; rfl
  have e1 : s.data.toList.getD 1 0 = s[1] := by
    rw [List.getD_eq_getElem?_getD, List.getElem?_eq_getElem (by simpa using h)]; rfl
  unfold Pg.size
  rw [e0, e1]

theorem tell_at (s : ByteArray) (k : Nat) (h : Pg.size s.data.toList = k) : (s.extract 2 (2 + k)).data.toList = Pg.tell s.data.toList := by
  unfold Pg.tell
  rw [ByteArray.data_extract, h]
  simp [List.take_drop]

set_option maxHeartbeats 1000000 in
theorem decode_any (s : ByteArray) (w : World) (_hs : s.size ≤ 9223372036854775807) :
    Calls Try.prog 28 #[.string s] w fun e w' => e = .returned (.tuple #[.string ⟨(Pg.dec s.data.toList).1.toArray⟩, .int .i64 (Pg.dec s.data.toList).2]) ∧ Below w.heap.size w w' := by
  have hlen : s.data.toList.length = s.size := by simp
  by_cases h1 : s.size = 128
  · have hz := size_at s (by omega)
    have b0 : (s[0]'(by omega)).toNat < 256 := UInt8.toNat_lt _
    have b1 : (s[1]'(by omega)).toNat < 256 := UInt8.toNat_lt _
    have i0 : 0 < s.size := by omega
    have i1 : 1 < s.size := by omega
    by_cases h2 : 122 < Pg.size s.data.toList
    · rw [Pg.dec_no (fun h => by have := h.2.1; omega)]
      rw [hz] at h2
      clear hz
      go_enter Try.func28, Try.ntmps28
      go_wp2
      go_region
      all_goals go_wp2
      all_goals go_ret2
      all_goals exact ⟨rfl, (Below.refl _ _).drew⟩
    · have hz : Pg.size s.data.toList = (s[0]'(by omega)).toNat * 256 + s[1].toNat := by omega
      have ht := tell_at s _ hz
      have h3 : Pg.size s.data.toList ≤ 122 := by omega
      rw [hz] at h2
      have hle : (s.extract 2 (2 + Pg.size s.data.toList)).size ≤ 122 := by rw [ByteArray.size_extract]; omega
      rw [hz] at hle
      have HP : Hid (∀ W, Calls _ _ _ _ _) := fun W => pageOf_any (s.extract 2 (2 + ((s[0]'(by omega)).toNat * 256 + s[1].toNat))) W hle
      have HC : Hid (∀ W, Calls _ _ _ _ _) := fun W => clone_any (s.extract 2 (2 + ((s[0]'(by omega)).toNat * 256 + s[1].toNat))) W (by omega)
      rw [ht] at HP
      by_cases h4 : s.data.toList = Pg.page (Pg.tell s.data.toList)
      · rw [Pg.dec_yes ⟨by omega, h3, h4⟩]
        have hq : (⟨(Pg.page (Pg.tell s.data.toList)).toArray⟩ : ByteArray) = s := by rw [← h4]
        have hr : (⟨(Pg.tell s.data.toList).toArray⟩ : ByteArray) = s.extract 2 (2 + ((s[0]'(by omega)).toNat * 256 + s[1].toNat)) := by rw [← ht]
        rw [hq] at HP
        rw [hr]
        clear hq hr ht h4 hz h3
        go_enter Try.func28, Try.ntmps28
        go_wp2
        go_region
        all_goals
          go_wp2_with fail
          refine (HP.out _).mono ?_
          rintro e w1 ⟨rfl, hb⟩
          have hb : Hid (Below w.heap.size w w1) := (Below.refl _ w).drew.trans hb
          go_wp2_with fail
          refine (HC.out _).mono ?_
          rintro e w2 ⟨rfl, hb2⟩
          have hb2 : Hid (Below w.heap.size w w2) := bnext hb.out hb2
          go_wp2
          go_ret2
          exact ⟨rfl, hb2.out⟩
      · rw [Pg.dec_no (fun h => h4 h.2.2)]
        obtain ⟨p, HQ⟩ : ∃ p : ByteArray, Hid ((⟨(Pg.page (Pg.tell s.data.toList)).toArray⟩ : ByteArray) = p) := ⟨_, rfl⟩
        rw [HQ.out] at HP
        have hne : (s.toList == p.toList) = false := by
          rw [beq_eq_false_iff_ne]
          intro h
          rw [ByteArray.toList_eq, ByteArray.toList_eq, ← HQ.out] at h
          exact h4 h
        clear HQ h4 ht h3 hz HC
        go_enter Try.func28, Try.ntmps28
        go_wp2
        go_region
        all_goals
          go_wp2_with fail
          refine (HP.out _).mono ?_
          rintro e w1 ⟨rfl, hb⟩
          have hb : Hid (Below w.heap.size w w1) := (Below.refl _ w).drew.trans hb
          go_wp2
          go_ret2
          exact ⟨rfl, hb.out⟩
  · rw [Pg.dec_no (Pg.not_ok_length (by omega))]
    have hd : ((s.size : Int) == 128) = false := by simp; omega
    go_enter Try.func28, Try.ntmps28
    go_wp2
    go_ret2
    exact ⟨rfl, Below.refl _ _⟩

end Go.Proofs.Ytnlhgcpmmcmknaa
