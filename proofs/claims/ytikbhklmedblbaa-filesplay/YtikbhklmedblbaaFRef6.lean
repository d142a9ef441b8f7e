/- The walk of the law's own Said: an act, by the document. -/
import Derived.Test.YtikbhklmedblbaaFRef5
namespace Go.Proofs.Ytikbhklmedblbaa
open Go.RowKit Go.Maps

theorem firstOf_le {l : List ByteArray} (h : ∀ s ∈ l, s.size ≤ 300) : (firstOf l).size ≤ 9223372036854775807 := by
  cases l with
  | nil => exact Nat.zero_le _
  | cons a t => have := h a (by simp); show a.size ≤ _; omega

set_option maxRecDepth 100000 in
set_option maxHeartbeats 4000000 in
theorem said_any {ok : Nat → Prop} {p : Nat} {st : Fi.St} (d : Deed) (w : World) (hs : Ref w ok p st) (hok : DeedOk w d) (hnm : d.name.size ≤ 40) (hpg : d.pages.length ≤ 8) (hz : ∀ s ∈ d.pages, s.size ≤ 300) (hnew : ∀ i, w.heap.size ≤ i → ok i) :
    Calls Try.prog 14 #[.pointer (some ⟨p, 0, none⟩), .agg d.cells] w fun e w' => e = .returned (.tuple #[.string (actOf st d).1, .int .i64 (actOf st d).2.1]) ∧ Ref w' ok p (actOf st d).2.2 ∧ Turn (fun i => i = p) w (fun i => i = p) w' := by
  have hbx := box_later w d
  have hs1 := hs.later hbx
  have hst1 := hok.strs.later hbx
  have hn1 : ∀ i, (w.alloc (.cells d.cells 34)).heap.size ≤ i → ok i := fun i hi => hnew i (Nat.le_trans hbx.size hi)
  have hml : d.name.size ≤ 9223372036854775807 := by omega
  have hfs : (firstOf d.pages).size ≤ 9223372036854775807 := firstOf_le hz
  have HW : Hid (Calls _ _ _ _ _) := rwrite_any d.name d.pv d.pages _ hs1 hml hst1 (by omega) (fun s hs => by have := hz s hs; omega) hn1
  have HF : Hid (Calls _ _ _ _ _) := first_any d.pv d.pages _ (hst1.later (Below.refl _ _).drew)
  have HP : Hid (Calls _ _ _ _ _) := rput_any d.name d.i (firstOf d.pages) _ (hs1.later (Below.refl _ _).drew) hml hfs hn1
  have HR : Hid (Calls _ _ _ _ _) := rremove_any d.name _ hs1 hn1
  have HFa : Hid (Calls _ _ _ _ _) := rfail_any d.i _ hs1 hok.i2
  have HFl : Hid (Calls _ _ _ _ _) := rflip_any d.name d.i d.at_ d.x _ hs1 hn1
  have HRd : Hid (Calls _ _ _ _ _) := rread_any d.name d.i _ hs1
  have HT1 : Hid (Turn (fun i => i = p) w (fun i => i = p) (w.alloc (.cells d.cells 34))) := Turn.below hbx
  have HT2 : Hid (Turn (fun i => i = p) w (fun i => i = p) (w.alloc (.cells d.cells 34)).drew) := Turn.below hbx.drew
  obtain ⟨r, hr, hr9⟩ : ∃ r : Nat, (d.kind : Int) % 9 = r ∧ r < 9 := ⟨d.kind % 9, by omega, by omega⟩
  have hrn : d.kind % 9 = r := by omega
  have hk := hok.kind
  unfold actOf
  rw [hrn]
  clear hrn hbx hs1 hst1 hs hok hnm hpg hml hn1 hfs hz hnew
  unfold Deed.cells at *
  obtain ⟨kind, name, pv, pages, i, at_, x⟩ := d
  simp only at *
  generalize firstOf pages = fp at *
  generalize (x.toNat : Int) = X at *
  have hcases : r = 0 ∨ r = 1 ∨ r = 2 ∨ r = 3 ∨ r = 4 ∨ r = 5 ∨ r = 6 ∨ r = 7 ∨ r = 8 := by omega
  rcases hcases with rfl | rfl | rfl | rfl | rfl | rfl | rfl | rfl | rfl
  case inl =>
    rw [if_pos (by decide)]
    clear HF HP HR HFa HFl HRd HT2
    go_enter Try.func14, Try.ntmps14
    go_wp2_with fail
    refine Calls.mono HW.out ?_
    rintro e w2 ⟨rfl, hs2, ht2⟩
    have H2 : Hid (_ ∧ _) := And.intro hs2 (HT1.out.trans ht2)
    clear hs2 ht2
    go_wp2
    go_ret2
    exact ⟨rfl, H2.out⟩
  case inr.inl =>
    rw [if_pos (by decide)]
    clear HF HP HR HFa HFl HRd HT2
    go_enter Try.func14, Try.ntmps14
    go_wp2_with fail
    refine Calls.mono HW.out ?_
    rintro e w2 ⟨rfl, hs2, ht2⟩
    have H2 : Hid (_ ∧ _) := And.intro hs2 (HT1.out.trans ht2)
    clear hs2 ht2
    go_wp2
    go_ret2
    exact ⟨rfl, H2.out⟩
  case inr.inr.inl =>
    rw [if_neg (by decide), if_pos (by decide)]
    clear HW HR HFa HFl HRd HT1
    go_enter Try.func14, Try.ntmps14
    go_wp2_with fail
    go_region_law
      (first
      | (go_simp; go_at_call 35; refine Calls.mono HF.out ?_; rintro e w1 ⟨rfl, rfl⟩)
      | (go_simp; go_at_call 37; refine Calls.mono HP.out ?_; rintro e w2 ⟨rfl, hs2, ht2⟩; have H2 : Hid (_ ∧ _) := And.intro hs2 (HT2.out.trans ht2); clear hs2 ht2))
    all_goals
      go_wp2
      go_ret2
      exact ⟨rfl, H2.out⟩
  case inr.inr.inr.inl =>
    rw [if_neg (by decide), if_pos (by decide)]
    clear HW HR HFa HFl HRd HT1
    go_enter Try.func14, Try.ntmps14
    go_wp2_with fail
    go_region_law
      (first
      | (go_simp; go_at_call 35; refine Calls.mono HF.out ?_; rintro e w1 ⟨rfl, rfl⟩)
      | (go_simp; go_at_call 37; refine Calls.mono HP.out ?_; rintro e w2 ⟨rfl, hs2, ht2⟩; have H2 : Hid (_ ∧ _) := And.intro hs2 (HT2.out.trans ht2); clear hs2 ht2))
    all_goals
      go_wp2
      go_ret2
      exact ⟨rfl, H2.out⟩
  case inr.inr.inr.inr.inl =>
    rw [if_neg (by decide), if_neg (by decide), if_neg (by decide), if_neg (by decide), if_neg (by decide)]
    clear HW HF HP HR HFa HFl HT2
    go_enter Try.func14, Try.ntmps14
    go_wp2_with fail
    refine Calls.mono HRd.out ?_
    rintro e w2 ⟨rfl, hs2, ht2⟩
    have H2 : Hid (_ ∧ _) := And.intro hs2 (HT1.out.trans ht2)
    clear hs2 ht2
    go_wp2
    go_ret2
    exact ⟨rfl, H2.out⟩
  case inr.inr.inr.inr.inr.inl =>
    rw [if_neg (by decide), if_neg (by decide), if_neg (by decide), if_neg (by decide), if_neg (by decide)]
    clear HW HF HP HR HFa HFl HT2
    go_enter Try.func14, Try.ntmps14
    go_wp2_with fail
    refine Calls.mono HRd.out ?_
    rintro e w2 ⟨rfl, hs2, ht2⟩
    have H2 : Hid (_ ∧ _) := And.intro hs2 (HT1.out.trans ht2)
    clear hs2 ht2
    go_wp2
    go_ret2
    exact ⟨rfl, H2.out⟩
  case inr.inr.inr.inr.inr.inr.inl =>
    rw [if_neg (by decide), if_neg (by decide), if_pos (by decide)]
    clear HW HF HP HFa HFl HRd HT2
    go_enter Try.func14, Try.ntmps14
    go_wp2_with fail
    refine Calls.mono HR.out ?_
    rintro e w2 ⟨rfl, hs2, ht2⟩
    have H2 : Hid (_ ∧ _) := And.intro hs2 (HT1.out.trans ht2)
    clear hs2 ht2
    go_wp2
    go_ret2
    exact ⟨rfl, H2.out⟩
  case inr.inr.inr.inr.inr.inr.inr.inl =>
    rw [if_neg (by decide), if_neg (by decide), if_neg (by decide), if_pos (by decide)]
    clear HW HF HP HR HFl HRd HT2
    go_enter Try.func14, Try.ntmps14
    go_wp2_with fail
    refine Calls.mono HFa.out ?_
    rintro e w2 ⟨rfl, hs2, ht2⟩
    have H2 : Hid (_ ∧ _) := And.intro hs2 (HT1.out.trans ht2)
    clear hs2 ht2
    go_wp2
    go_ret2
    exact ⟨rfl, H2.out⟩
  case inr.inr.inr.inr.inr.inr.inr.inr =>
    rw [if_neg (by decide), if_neg (by decide), if_neg (by decide), if_neg (by decide), if_pos (by decide)]
    clear HW HF HP HR HFa HRd HT2
    go_enter Try.func14, Try.ntmps14
    go_wp2_with fail
    refine Calls.mono HFl.out ?_
    rintro e w2 ⟨rfl, hs2, ht2⟩
    have H2 : Hid (_ ∧ _) := And.intro hs2 (HT1.out.trans ht2)
    clear hs2 ht2
    go_wp2
    go_ret2
    exact ⟨rfl, H2.out⟩

end Go.Proofs.Ytikbhklmedblbaa
