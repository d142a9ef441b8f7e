/- FilesFail: for every three uint8 the call returns true: behind a Fail so many reads are done, the next one fails, once, and what it was to read is there still; reads of what is not there do not count (P6.3). No conditions. -/
import Derived.Test.YtikbhklmedblbaaFDoes
namespace Go.Proofs.Ytikbhklmedblbaa
open Go.ChangeShapes Go.WideShapes Go.ChangeAt Go.RowKit

/-- How many reads are done yet, ahead of the round i. -/
def aheadAt (N i : Nat) : Int := if i ≤ N then (N : Int) - i else -1

abbrev xFiles (p q : ByteArray) : Fi.Files := [(⟨#[120]⟩, [p, q])]
theorem fail_write {p q : ByteArray} (hp : Fi.isPage p = true) (hq : Fi.isPage q = true) : Fi.write ⟨2, -1, []⟩ ⟨#[120]⟩ [p, q] = (0, ⟨2, -1, xFiles p q⟩) := by
  rw [write_ok (by decide) (by simp [hp, hq]) (by show ¬ 2 < 0 - 0 + 2; decide)]
  rfl
theorem fail_set (p q : ByteArray) (N : Nat) : Fi.fail ⟨2, -1, xFiles p q⟩ N = (0, ⟨2, aheadAt N 0, xFiles p q⟩) := by
  rw [Fi.fail, if_neg (by omega), aheadAt, if_pos (by omega)]; simp
theorem fail_other (p q : ByteArray) (a : Int) (i : Int) : Fi.read ⟨2, a, xFiles p q⟩ ⟨#[121]⟩ i = (ByteArray.empty, 4, ⟨2, a, xFiles p q⟩) := by
  refine read_no ?_
  have : Fi.rows (xFiles p q) ⟨#[121]⟩ = [] := rfl
  unfold Fi.has
  simp [this]
theorem fail_has (p q : ByteArray) (a : Int) (r : Nat) (h : r < 2) : Fi.has ⟨2, a, xFiles p q⟩ ⟨#[120]⟩ r = true := by
  refine Fi.has_iff.2 ⟨by omega, ?_⟩
  have : Fi.rows (xFiles p q) ⟨#[120]⟩ = [p, q] := rfl
  simp only [this]
  simp
  omega
theorem fail_at (p q : ByteArray) (N r : Nat) (h : r < 2) : Fi.read ⟨2, aheadAt N N, xFiles p q⟩ ⟨#[120]⟩ r = (ByteArray.empty, 60, ⟨2, aheadAt N (N + 1), xFiles p q⟩) := by
  rw [read_fails (fail_has p q _ r h) (by show aheadAt N N = 0; simp [aheadAt])]
  have e : aheadAt N (N + 1) = -1 := if_neg (by omega)
  rw [e]
theorem fail_page (p q : ByteArray) (a : Int) : Fi.page ⟨2, a, xFiles p q⟩ ⟨#[120]⟩ (0 : Nat) = p ∧ Fi.page ⟨2, a, xFiles p q⟩ ⟨#[120]⟩ (1 : Nat) = q := ⟨rfl, rfl⟩
theorem fail_off (p q : ByteArray) (N i r : Nat) (h : r < 2) (hi : i ≠ N) : Fi.read ⟨2, aheadAt N i, xFiles p q⟩ ⟨#[120]⟩ r = (Fi.page ⟨2, aheadAt N i, xFiles p q⟩ ⟨#[120]⟩ r, 0, ⟨2, aheadAt N (i + 1), xFiles p q⟩) := by
  by_cases hl : i < N
  · have ha : aheadAt N i = (N : Int) - i := if_pos (by omega)
    have hb : aheadAt N (i + 1) = (N : Int) - i - 1 := (if_pos (by omega)).trans (by omega)
    rw [read_next (fail_has p q _ r h) (by show 0 < aheadAt N i; omega), hb, ha]
  · have ha : aheadAt N i = -1 := if_neg (by omega)
    have hb : aheadAt N (i + 1) = -1 := if_neg (by omega)
    rw [read_still (fail_has p q _ r h) (by show aheadAt N i < 0; omega), hb, ha]

set_option maxRecDepth 100000 in
set_option maxHeartbeats 4000000 in
theorem filesFail_walk (n0 c0 d0 : Int) (w : World) (hn0 : (Lit.int .u8 n0).wf = true) (hc0 : (Lit.int .u8 c0).wf = true) (hd0 : (Lit.int .u8 d0).wf = true) :
    Calls Try.prog 7 #[.int .u8 n0, .int .u8 c0, .int .u8 d0] w fun e w' => e = .returned (.bool true) ∧ Below w.heap.size w w' := by
  obtain ⟨N, rfl, hN⟩ := wf_u8 hn0
  obtain ⟨C, rfl, hC⟩ := wf_u8 hc0
  obtain ⟨D, rfl, hD⟩ := wf_u8 hd0
  clear hn0 hc0 hd0
  obtain ⟨c, hc⟩ : ∃ c : UInt8, c.toNat = C := ⟨UInt8.ofNat C, by simp; omega⟩
  have hc1 : (c + 1).toNat = (C + 1) % 256 := by rw [UInt8.toNat_add, hc]; rfl
  have HNW : Hid (Calls _ _ _ _ _) := new_yes 2 w (by decide) (by decide)
  have HP : Hid (∀ W, Calls Try.prog 32 #[.int .u8 C] W fun e w' => e = .returned (.string (pg c)) ∧ Below W.heap.size W w') := fun W => by rw [← hc]; exact page_any c W
  have HQ : Hid (∀ W, Calls Try.prog 32 #[.int .u8 (((C : Int) + 1) % 256)] W fun e w' => e = .returned (.string (pg (c + 1))) ∧ Below W.heap.size W w') := fun W => by have := page_any (c + 1) W; rw [hc1] at this; exact this
  have hp : Fi.isPage (pg c) = true := Fi.isPage_iff.2 (pg_size _)
  have hq : Fi.isPage (pg (c + 1)) = true := Fi.isPage_iff.2 (pg_size _)
  have HD : Hid (∀ W, Calls _ _ _ _ _) := fun W => does_any W
  clear hc1 hc
  generalize pg c = P at HP hp
  generalize pg (c + 1) = Q at HQ hq
  have e1 : Hid _ := fail_write hp hq
  have e2 : Hid _ := fail_set P Q N
  clear hp hq
  go_enter Try.func7, Try.ntmps7
  go_wp2_with fail
  refine Calls.mono HNW.out ?_
  rintro e w1 ⟨p, o, rfl, hs, ho, hb⟩
  have F1 : Hid (FsIn w w1 p o _) := ⟨hs, hb, ho⟩
  clear hs ho hb HNW
  go_wp2_with fail
  refine (HP.out _).mono ?_
  rintro e w2 ⟨rfl, hb⟩
  have F2 : Hid (FsIn w w2 p o _) := F1.out.later hb
  clear hb F1
  go_wp2_with fail
  refine (HQ.out _).mono ?_
  rintro e w3 ⟨rfl, hb⟩
  have F3 : Hid (FsIn w (w3.alloc (.cells #[.string P, .string Q] 9)) p o _) := (F2.out.later hb).later ((Below.refl _ w3).alloc (Nat.le_refl _) _)
  clear hb F2
  have HW : Hid (Calls _ _ _ _ _) := write_any ⟨#[120]⟩ _ _ _ F3.out.sys (by decide) (two_texts w3 P Q) (by simp)
  rw [e1.out] at HW
  go_wp2_with fail
  refine Calls.mono HW.out ?_
  rintro e w5 ⟨o5, rfl, hs, ht⟩
  have F5 : Hid (FsIn w w5 p o5 _) := F3.out.turn hs ht
  clear hs ht F3 HW e1
  have HW : Hid (Calls _ _ _ _ _) := fail_any (N : Int) _ F5.out.sys (by omega)
  rw [e2.out] at HW
  go_wp2_with fail
  refine Calls.mono HW.out ?_
  rintro e w6 ⟨rfl, hs, ht⟩
  have F6 : Hid (FsIn w w6 p o5 _) := F5.out.turn hs ht
  clear hs ht F5 HW e2
  go_wp2
  go_loopw [9] (fun x wr => ∃ i : Nat, i ≤ N + 3 ∧ x = .int .i64 i ∧ Hid (FsIn w wr p o5 ⟨2, aheadAt N i, xFiles P Q⟩)) (fun x _ => N + 3 - (intOf x).toNat)
  case atStart => exact ⟨0, by omega, rfl, F6⟩
  case round =>
    clear F6
    obtain ⟨i, hi, rfl, F⟩ := hrel
    by_cases hlt : i < N + 3
    · go_wp2
      rw [decide_eq_true (p := (i : Int) < (N : Int) + 3) (by omega)]
      go_loopw [10] (fun x ws => ∃ k : Nat, (k : Int) ≤ (D : Int) % 3 ∧ x = .int .i64 k ∧ Hid (FsIn w ws p o5 ⟨2, aheadAt N i, xFiles P Q⟩)) (fun x _ => D % 3 - (intOf x).toNat)
      case atStart => exact ⟨0, by omega, rfl, F⟩
      case round =>
        clear F
        obtain ⟨k, hk, rfl, F⟩ := hrel
        by_cases hkl : (k : Int) < (D : Int) % 3
        · have HW : Hid (Calls _ _ _ _ _) := read_any ⟨#[121]⟩ (i : Int) _ F.out.sys (by decide)
          rw [fail_other] at HW
          go_wp2_with fail
          refine Calls.mono HW.out ?_
          rintro e w7 ⟨rfl, hs, ht⟩
          have F7 : Hid (FsIn w w7 p o5 _) := F.out.turn hs ht
          clear hs ht F HW
          go_wp2
          go_roundw
          case rel => exact ⟨k + 1, by omega, by go_num, F7⟩
          case measure => simp [intOf]; omega
        · obtain ⟨r, hr, hr2⟩ : ∃ r : Nat, (i : Int) % 2 = r ∧ r < 2 := ⟨i % 2, by omega, by omega⟩
          have HW : Hid (Calls _ _ _ _ _) := read_any ⟨#[120]⟩ (r : Int) _ F.out.sys (by decide)
          by_cases hiN : i = N
          · subst hiN
            rw [fail_at P Q i r hr2] at HW
            have hbq : ((i : Int) == (i : Int)) = true := by simp
            go_wp2_with fail
            refine Calls.mono HW.out ?_
            rintro e w7 ⟨rfl, hs, ht⟩
            have F7 : Hid (FsIn w w7 p o5 _) := F.out.turn hs ht
            clear hs ht F HW
            go_wp2
            go_roundw
            case rel => exact ⟨i + 1, by omega, by go_num, F7⟩
            case measure => simp [intOf]
          · rw [fail_off P Q N i r hr2 hiN] at HW
            have hbq : ((i : Int) == (N : Int)) = false := by simp; omega
            have hpg := fail_page P Q (aheadAt N i)
            have hcases : r = 0 ∨ r = 1 := by omega
            rcases hcases with rfl | rfl
            · rw [hpg.1] at HW
              clear hpg
              go_wp2_with fail
              refine Calls.mono HW.out ?_
              rintro e w7 ⟨rfl, hs, ht⟩
              have F7 : Hid (FsIn w w7 p o5 _) := F.out.turn hs ht
              clear hs ht F HW
              go_wp2_with fail
              refine (HP.out _).mono ?_
              rintro e w8 ⟨rfl, hb⟩
              have F8 : Hid (FsIn w w8 p o5 _) := F7.out.later hb
              clear hb F7
              go_wp2
              go_roundw
              case rel => exact ⟨i + 1, by omega, by go_num, F8⟩
              case measure => simp [intOf]; omega
            · rw [hpg.2] at HW
              clear hpg
              go_wp2_with fail
              refine Calls.mono HW.out ?_
              rintro e w7 ⟨rfl, hs, ht⟩
              have F7 : Hid (FsIn w w7 p o5 _) := F.out.turn hs ht
              clear hs ht F HW
              go_wp2_with fail
              refine (HQ.out _).mono ?_
              rintro e w8 ⟨rfl, hb⟩
              have F8 : Hid (FsIn w w8 p o5 _) := F7.out.later hb
              clear hb F7
              go_wp2
              go_roundw
              case rel => exact ⟨i + 1, by omega, by go_num, F8⟩
              case measure => simp [intOf]; omega
    · have HW : Hid (Calls _ _ _ _ _) := fail_any (-1 - (N : Int)) _ F.out.sys (by omega)
      rw [Fi.fail, if_pos (by omega)] at HW
      go_wp2_with fail
      refine Calls.mono HW.out ?_
      rintro e w7 ⟨rfl, hs, ht⟩
      have F7 : Hid (FsIn w w7 p o5 _) := F.out.turn hs ht
      clear hs ht F HW
      go_wp2_with fail
      refine (HD.out _).mono ?_
      rintro e w8 ⟨rfl, hb⟩
      have F8 : Hid (Below w.heap.size w w8) := bnext F7.out.below hb
      clear hb F7
      go_wp2
      go_ret
      exact ⟨rfl, F8.out⟩

set_option maxRecDepth 100000 in
theorem filesFail_lifted (os : Os) (started : os.Started) (H : Type) (enc : TypeId × Value → H) :
    ReturnsInHanded {} Try.checked os 7 .any (Rows.filesFailSpec.pre6 enc Try.prog Try.f7 Rows.filesFailRow.domain false) (Rows.filesFailSpec.post enc Try.prog Try.f7 false true false false) := by
  refine returnsInHanded_of_change (C := Try.checked) Try.own started (by kernel_rfl) Try.func7
    (ChangeSpec.witness6 (enc := enc) (C := Try.checked) false ⟨#[], #[.int .u8 0, .int .u8 0, .int .u8 0], []⟩ 8 (by kernel_rfl) (by kernel_rfl) (by kernel_rfl) (by kernel_rfl)) ?_
  intro W base args ds gs before hval0 hW hcnd _
  have hval : ∀ (j : Nat) t v, Try.f7.params[j]? = some t → args[j]? = some v → Value.okWide Try.prog W .any base t v := hval0
  have hW' := hW
  obtain ⟨p, q, hA0, hV, rfl, hfz, hnd⟩ := hW
  have hA : DataW.TrodAll enc Try.prog W 0 (fun _ => true) true Try.f7.params.toList args.toList ds p := hA0
  rw [Try.params7] at hA hval
  obtain ⟨v0, vs0, d0, ds0, p0, q0, hargs, rfl, rfl, h0, r0⟩ := trodAll_cons hA
  obtain ⟨v1, vs1, d1, ds1, p1, q1, rfl, rfl, rfl, h1, r1⟩ := trodAll_cons r0
  obtain ⟨v2, vs2, d2, ds2, p2, q2, rfl, rfl, rfl, h2, r2⟩ := trodAll_cons r1
  obtain ⟨rfl, rfl, rfl⟩ := trodAll_nil r2
  obtain rfl : args = #[v0, v1, v2] := by cases args; simp_all
  obtain ⟨rfl, rfl⟩ := trodVars_none hV
  obtain ⟨a0, rfl, rfl, rfl, w0⟩ := open_int Try.underlying5 (hval 0 5 v0 rfl rfl) h0
  obtain ⟨a1, rfl, rfl, rfl, w1⟩ := open_int Try.underlying5 (hval 1 5 v1 rfl rfl) h1
  obtain ⟨a2, rfl, rfl, rfl, w2⟩ := open_int Try.underlying5 (hval 2 5 v2 rfl rfl) h2
  clear hA0 hval0
  simp only [List.append_nil] at hW'
  refine (filesFail_walk a0 a1 a2 W w0 w1 w2).mono fun e W' ⟨he, bel⟩ => ?_
  subst he
  exact ⟨_, rfl, _, _, _, [], [], [], hW', trodAll_mk1 (shut_bool Try.underlying4 _), (trodAll_cons_mk (shut_int Try.underlying5 w0) (trodAll_cons_mk (shut_int Try.underlying5 w1) (trodAll_cons_mk (shut_int Try.underlying5 w2) trodAll_mk0))), rfl, bel.frame _, fun h => by cases h⟩

theorem filesFail_holds : Rows.FilesFailSaid :=
  OpenClaim.holds_of_wide 7 Try.f7 rfl rfl rfl rfl rfl rfl rfl ⟨rfl, rfl, rfl, rfl, rfl⟩ rfl rfl rfl rfl rfl (by kernel_rfl) Try.func7 (by kernel_rfl)
    (of_decide_eq_true (by kernel_rfl)) (by unfold Func.isWrapper; first | (rw [if_pos (by decide +kernel)]; kernel_rfl) | (rw [if_neg (by decide +kernel)]; exact ⟨rfl, rfl⟩))
    (fun os started H enc _ => filesFail_lifted os started H enc)

end Go.Proofs.Ytikbhklmedblbaa
