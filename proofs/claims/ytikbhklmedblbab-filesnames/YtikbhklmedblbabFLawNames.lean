/- FilesNames: for every string the call returns true: a name is a text of 1 to 8 bytes, each of which can be seen; a file may have such a one alone (P6.1, P6.2). No conditions. -/
import Derived.Test.YtikbhklmedblbabFDoes
namespace Go.Proofs.Ytikbhklmedblbab
open Go.ChangeShapes Go.WideShapes Go.ChangeAt Go.RowKit
open Go.ChangeMaps (open_string shut_string)

def nameUpto (n : ByteArray) (k : Nat) : Bool := decide (1 ≤ n.size) && decide (n.size ≤ 8) && (n.data.toList.take k).all fun b => decide (33 ≤ b.toNat) && decide (b.toNat ≤ 126)
theorem nameUpto_all (n : ByteArray) : nameUpto n n.size = Fi.isName n := by
  unfold nameUpto Fi.isName
  rw [List.take_of_length_le (by simp)]
theorem nameUpto_step (n : ByteArray) (k : Nat) (h : k < n.size) : nameUpto n (k + 1) = (nameUpto n k && (decide (33 ≤ n[k].toNat) && decide (n[k].toNat ≤ 126))) := by
  unfold nameUpto
  rw [List.take_add_one, List.getElem?_eq_getElem (by simpa using h), List.all_append, Bool.and_assoc, Bool.and_assoc, Bool.and_assoc]
  have e : n.data.toList[k]'(by simpa using h) = n[k] := rfl
  rw [e]
  simp
theorem nameUpto_zero (n : ByteArray) : nameUpto n 0 = (decide (1 ≤ n.size) && decide (n.size ≤ 8)) := by simp [nameUpto]

section
variable {n : ByteArray}
theorem names_put (h : Fi.isName n = true) {s : ByteArray} (hs : Fi.isPage s = true) : Fi.putp ⟨1, -1, []⟩ n 0 s = (0, ⟨1, -1, [(n, [s])]⟩) :=
  putp_on (st := ⟨1, -1, []⟩) (n := n) (k := 0) (s := s) h rfl hs (by show ¬ 1 ≤ 0; decide)
theorem names_rows (s : ByteArray) : Fi.rows [(n, [s])] n = [s] := by simp [Fi.rows, Fi.find]
theorem names_del (s : ByteArray) : Fi.del [(n, [s])] n = [] := by simp [Fi.del]
theorem names_write (h : Fi.isName n = true) (s : ByteArray) {t : ByteArray} (ht : Fi.isPage t = true) : Fi.write ⟨1, -1, [(n, [s])]⟩ n [t] = (0, ⟨1, -1, [(n, [t])]⟩) := by
  rw [write_ok h (by simp [ht]) (by show ¬ 1 < 1 - (Fi.rows [(n, [s])] n).length + 1; rw [names_rows]; simp)]
  show (0, Fi.St.mk 1 (-1) (Fi.set [(n, [s])] n [t])) = _
  rw [Fi.set, if_neg (by simp), Fi.put, names_del]
  rfl
theorem names_none (h : Fi.isName n = true) (s : ByteArray) : Fi.write ⟨1, -1, [(n, [s])]⟩ n [] = (0, ⟨1, -1, []⟩) := by
  rw [write_ok h rfl (by show ¬ 1 < 1 - (Fi.rows [(n, [s])] n).length + 0; rw [names_rows]; simp)]
  show (0, Fi.St.mk 1 (-1) (Fi.set [(n, [s])] n [])) = _
  rw [Fi.set, if_pos rfl, names_del]
theorem names_put_no (h : Fi.isName n = false) (s : ByteArray) : Fi.putp ⟨1, -1, []⟩ n 0 s = (2, ⟨1, -1, []⟩) := putp_arg (.inl h)
theorem names_write_no (h : Fi.isName n = false) (l : List ByteArray) : Fi.write ⟨1, -1, []⟩ n l = (2, ⟨1, -1, []⟩) := write_arg (.inl h)
end
theorem some_text {s : ByteArray} (h : s.size ≠ 0) : (s.toList == []) = false := by
  rw [beq_eq_false_iff_ne, ByteArray.toList_eq]
  intro e
  apply h
  rw [← size_list, e]; rfl
theorem no_text {s : ByteArray} (h : s.size = 0) : s = ⟨#[]⟩ := by
  apply ByteArray.ext
  exact Array.eq_empty_of_size_eq_zero h

set_option maxRecDepth 100000 in
set_option maxHeartbeats 4000000 in
theorem filesNames_walk (n : ByteArray) (w : World) (hn : n.size ≤ maxLen) :
    Calls Try.prog 3 #[.string n] w fun e w' => e = .returned (.bool true) ∧ Below w.heap.size w w' := by
  unfold maxLen at hn
  by_cases h40 : 40 < n.size
  · go_enter Try.func3, Try.ntmps3
    go_wp2
    go_ret
    exact ⟨rfl, Below.refl _ _⟩
  · have HN : Hid (∀ W, Calls _ _ _ _ _) := fun W => new_yes 1 W (by decide) (by decide)
    have HNM : Hid (∀ W, Calls _ _ _ _ _) := fun W => name_any n W (by omega)
    have HP1 : Hid (∀ W, Calls Try.prog 7 #[.int .u8 1] W fun e w' => e = .returned (.string (pg 1)) ∧ Below W.heap.size W w') := fun W => page_any 1 W
    have HP2 : Hid (∀ W, Calls Try.prog 7 #[.int .u8 2] W fun e w' => e = .returned (.string (pg 2)) ∧ Below W.heap.size W w') := fun W => page_any 2 W
    have hP1 : Fi.isPage (pg 1) = true := Fi.isPage_iff.2 (pg_size _)
    have hP2 : Fi.isPage (pg 2) = true := Fi.isPage_iff.2 (pg_size _)
    generalize pg 1 = P1 at HP1 hP1
    generalize pg 2 = P2 at HP2 hP2
    have HD : Hid (∀ W, Calls _ _ _ _ _) := fun W => does_any W
    have HST : Hid (∀ k (h : k < n.size), nameUpto n (k + 1) = (nameUpto n k && (decide (33 ≤ n[k].toNat) && decide (n[k].toNat ≤ 126)))) := fun k h => nameUpto_step n k h
    by_cases h0 : n.size = 0
    · have HC0 : Hid (nameUpto n 0 = false) := by show nameUpto n 0 = false; rw [nameUpto_zero, decide_eq_false (by omega)]; rfl
      have hz := no_text h0
      subst hz
      clear h0 h40 hn
      go_enter Try.func3, Try.ntmps3
      go_wp2
      refine wp_loop_rounds 1 ?_
      rw [rounds_succ]
      have HBt : Hid (Fi.isName ⟨#[]⟩ = false) := name_size (.inl (by decide))
      rw [HBt.out] at HNM
      have e1 : Hid _ := names_put_no HBt.out P1
      have e2 : Hid _ := names_write_no HBt.out [P2]
      have e3 : Hid _ := names_write_no HBt.out []
      
      go_wp2_with fail
      refine (HN.out _).mono ?_
      rintro e w1 ⟨p, o, rfl, hs, ho, hb⟩
      have F1 : Hid (FsIn w w1 p o _) := ⟨hs, hb, ho⟩
      clear hs ho hb HN
      go_wp2_with fail
      refine (HNM.out _).mono ?_
      rintro e w1' ⟨rfl, rfl⟩
      go_wp2_with fail
      refine (HP1.out _).mono ?_
      rintro e w2 ⟨rfl, hb⟩
      have F2 : Hid (FsIn w w2 p o _) := F1.out.later hb
      clear hb F1
      have HW : Hid (Calls _ _ _ _ _) := put_any ⟨#[]⟩ 0 P1 _ F2.out.sys (by decide)
      rw [e1.out] at HW
      go_wp2_with fail
      refine Calls.mono HW.out ?_
      rintro e w3 ⟨o3, rfl, hs, ht⟩
      have F3 : Hid (FsIn w w3 p o3 _) := F2.out.turn hs ht
      clear hs ht F2 HW e1
      go_wp2_with fail
      refine (HP2.out _).mono ?_
      rintro e w4 ⟨rfl, hb⟩
      have F4 : Hid (FsIn w (w4.alloc (.cells #[.string P2] 9)) p o3 _) := (F3.out.later hb).later ((Below.refl _ w4).alloc (Nat.le_refl _) _)
      clear hb F3
      have HW : Hid (Calls _ _ _ _ _) := write_any ⟨#[]⟩ _ _ _ F4.out.sys (by decide) (one_text w4 P2) (by simp)
      rw [e2.out] at HW
      go_wp2_with fail
      refine Calls.mono HW.out ?_
      rintro e w5 ⟨o5, rfl, hs, ht⟩
      have F5 : Hid (FsIn w w5 p o5 _) := F4.out.turn hs ht
      clear hs ht F4 HW e2
      have HW : Hid (Calls _ _ _ _ _) := write_any ⟨#[]⟩ _ _ _ F5.out.sys (by decide) (strs_none w5) (by simp)
      rw [e3.out] at HW
      go_wp2_with fail
      refine Calls.mono HW.out ?_
      rintro e w6 ⟨o6, rfl, hs, ht⟩
      have F6 : Hid (FsIn w w6 p o6 _) := F5.out.turn hs ht
      clear hs ht F5 HW e3
      have HW : Hid (Calls Try.prog 9 #[.pointer (some ⟨p, 0, none⟩)] w6 fun e w' => e = .returned (.int .i64 0) ∧ Below w6.heap.size w6 w') := used_any _ F6.out.sys
      go_wp2_with fail
      refine Calls.mono HW.out ?_
      rintro e w7 ⟨rfl, hb⟩
      have F7 : Hid (FsIn w w7 p o6 _) := F6.out.later hb
      clear hb F6 HW
      go_wp2_with fail
      refine (HD.out _).mono ?_
      rintro e w8 ⟨rfl, hb⟩
      have F8 : Hid (Below w.heap.size w w8) := bnext F7.out.below hb
      clear hb F7
      go_wp2
      go_ret
      exact ⟨rfl, F8.out⟩
    · have hne := some_text h0
      have HC0 : Hid (nameUpto n 0 = decide ((n.size : Int) ≤ 8)) := by show nameUpto n 0 = decide ((n.size : Int) ≤ 8); rw [nameUpto_zero, decide_eq_true (p := 1 ≤ n.size) (by omega), Bool.true_and]; exact decide_eq_decide.2 (by omega)
      go_enter Try.func3, Try.ntmps3
      go_wp2
      go_loop [3, 4] (fun x i => ∃ (k : Nat) (c : Bool), k ≤ n.size ∧ i = .int .i64 k ∧ x = .bool c ∧ Hid (nameUpto n k = c)) (fun _ i => n.size - (intOf i).toNat)
      case atStart => exact ⟨0, _, Nat.zero_le _, rfl, rfl, HC0⟩
      case round =>
        clear HC0
        obtain ⟨k, c, hk, rfl, rfl, HC⟩ := hrel
        by_cases hlt : k < n.size
        · have hb : n[k].toNat < 256 := UInt8.toNat_lt _
          have HST1 : Hid (nameUpto n (k + 1) = (nameUpto n k && (decide (33 ≤ n[k].toNat) && decide (n[k].toNat ≤ 126)))) := HST.out k hlt
          rw [HC.out] at HST1
          cases c with
          | false =>
            go_wp2
            go_round
            case rel => exact ⟨k + 1, false, by omega, by go_num, rfl, HST1⟩
            case measure => simp [intOf]; omega
          | true =>
            by_cases hl : n[k].toNat < 33
            · have HST2 : Hid (nameUpto n (k + 1) = false) := HST1.out.trans (by rw [decide_eq_false (by omega)]; rfl)
              clear HST1
              go_wp2
              go_round
              case rel => exact ⟨k + 1, false, by omega, by go_num, rfl, HST2⟩
              case measure => simp [intOf]; omega
            · by_cases hg : 126 < n[k].toNat
              · have HST2 : Hid (nameUpto n (k + 1) = false) := HST1.out.trans (by rw [decide_eq_false (p := n[k].toNat ≤ 126) (by omega), Bool.and_false]; rfl)
                clear HST1
                go_wp2
                go_round
                case rel => exact ⟨k + 1, false, by omega, by go_num, congrArg Value.bool (decide_eq_false (by omega)), HST2⟩
                case measure => simp [intOf]; omega
              · have HST2 : Hid (nameUpto n (k + 1) = true) := HST1.out.trans (by rw [decide_eq_true (p := n[k].toNat ≤ 126) (by omega), decide_eq_true (p := 33 ≤ n[k].toNat) (by omega)]; rfl)
                clear HST1
                go_wp2
                go_round
                case rel => exact ⟨k + 1, true, by omega, by go_num, congrArg Value.bool (decide_eq_true (by omega)), HST2⟩
                case measure => simp [intOf]; omega
        · obtain rfl : k = n.size := by omega
          have HBt : Hid (Fi.isName n = c) := (nameUpto_all n).symm.trans HC.out
          rw [HBt.out] at HNM
          clear HC HST
          cases c with
          | true =>
            have e1 : Hid _ := names_put HBt.out hP1
            have e2 : Hid _ := names_write (n := n) HBt.out P1 hP2
            have e3 : Hid _ := names_none (n := n) HBt.out P2

            go_wp2_with fail
            refine (HN.out _).mono ?_
            rintro e w1 ⟨p, o, rfl, hs, ho, hb⟩
            have F1 : Hid (FsIn w w1 p o _) := ⟨hs, hb, ho⟩
            clear hs ho hb HN
            go_wp2_with fail
            refine (HNM.out _).mono ?_
            rintro e w1' ⟨rfl, rfl⟩
            go_wp2_with fail
            refine (HP1.out _).mono ?_
            rintro e w2 ⟨rfl, hb⟩
            have F2 : Hid (FsIn w w2 p o _) := F1.out.later hb
            clear hb F1
            have HW : Hid (Calls _ _ _ _ _) := put_any n 0 P1 _ F2.out.sys (by unfold maxLen; omega)
            rw [e1.out] at HW
            go_wp2_with fail
            refine Calls.mono HW.out ?_
            rintro e w3 ⟨o3, rfl, hs, ht⟩
            have F3 : Hid (FsIn w w3 p o3 _) := F2.out.turn hs ht
            clear hs ht F2 HW e1
            go_wp2_with fail
            refine (HP2.out _).mono ?_
            rintro e w4 ⟨rfl, hb⟩
            have F4 : Hid (FsIn w (w4.alloc (.cells #[.string P2] 9)) p o3 _) := (F3.out.later hb).later ((Below.refl _ w4).alloc (Nat.le_refl _) _)
            clear hb F3
            have HW : Hid (Calls _ _ _ _ _) := write_any n _ _ _ F4.out.sys (by unfold maxLen; omega) (one_text w4 P2) (by simp)
            rw [e2.out] at HW
            go_wp2_with fail
            refine Calls.mono HW.out ?_
            rintro e w5 ⟨o5, rfl, hs, ht⟩
            have F5 : Hid (FsIn w w5 p o5 _) := F4.out.turn hs ht
            clear hs ht F4 HW e2
            have HW : Hid (Calls _ _ _ _ _) := write_any n _ _ _ F5.out.sys (by unfold maxLen; omega) (strs_none w5) (by simp)
            rw [e3.out] at HW
            go_wp2_with fail
            refine Calls.mono HW.out ?_
            rintro e w6 ⟨o6, rfl, hs, ht⟩
            have F6 : Hid (FsIn w w6 p o6 _) := F5.out.turn hs ht
            clear hs ht F5 HW e3
            have HW : Hid (Calls Try.prog 9 #[.pointer (some ⟨p, 0, none⟩)] w6 fun e w' => e = .returned (.int .i64 0) ∧ Below w6.heap.size w6 w') := used_any _ F6.out.sys
            go_wp2_with fail
            refine Calls.mono HW.out ?_
            rintro e w7 ⟨rfl, hb⟩
            have F7 : Hid (FsIn w w7 p o6 _) := F6.out.later hb
            clear hb F6 HW
            go_wp2_with fail
            refine (HD.out _).mono ?_
            rintro e w8 ⟨rfl, hb⟩
            have F8 : Hid (Below w.heap.size w w8) := bnext F7.out.below hb
            clear hb F7
            go_wp2
            go_ret
            exact ⟨rfl, F8.out⟩
          | false =>
            have e1 : Hid _ := names_put_no HBt.out P1
            have e2 : Hid _ := names_write_no HBt.out [P2]
            have e3 : Hid _ := names_write_no HBt.out []

            go_wp2_with fail
            refine (HN.out _).mono ?_
            rintro e w1 ⟨p, o, rfl, hs, ho, hb⟩
            have F1 : Hid (FsIn w w1 p o _) := ⟨hs, hb, ho⟩
            clear hs ho hb HN
            go_wp2_with fail
            refine (HNM.out _).mono ?_
            rintro e w1' ⟨rfl, rfl⟩
            go_wp2_with fail
            refine (HP1.out _).mono ?_
            rintro e w2 ⟨rfl, hb⟩
            have F2 : Hid (FsIn w w2 p o _) := F1.out.later hb
            clear hb F1
            have HW : Hid (Calls _ _ _ _ _) := put_any n 0 P1 _ F2.out.sys (by unfold maxLen; omega)
            rw [e1.out] at HW
            go_wp2_with fail
            refine Calls.mono HW.out ?_
            rintro e w3 ⟨o3, rfl, hs, ht⟩
            have F3 : Hid (FsIn w w3 p o3 _) := F2.out.turn hs ht
            clear hs ht F2 HW e1
            go_wp2_with fail
            refine (HP2.out _).mono ?_
            rintro e w4 ⟨rfl, hb⟩
            have F4 : Hid (FsIn w (w4.alloc (.cells #[.string P2] 9)) p o3 _) := (F3.out.later hb).later ((Below.refl _ w4).alloc (Nat.le_refl _) _)
            clear hb F3
            have HW : Hid (Calls _ _ _ _ _) := write_any n _ _ _ F4.out.sys (by unfold maxLen; omega) (one_text w4 P2) (by simp)
            rw [e2.out] at HW
            go_wp2_with fail
            refine Calls.mono HW.out ?_
            rintro e w5 ⟨o5, rfl, hs, ht⟩
            have F5 : Hid (FsIn w w5 p o5 _) := F4.out.turn hs ht
            clear hs ht F4 HW e2
            have HW : Hid (Calls _ _ _ _ _) := write_any n _ _ _ F5.out.sys (by unfold maxLen; omega) (strs_none w5) (by simp)
            rw [e3.out] at HW
            go_wp2_with fail
            refine Calls.mono HW.out ?_
            rintro e w6 ⟨o6, rfl, hs, ht⟩
            have F6 : Hid (FsIn w w6 p o6 _) := F5.out.turn hs ht
            clear hs ht F5 HW e3
            have HW : Hid (Calls Try.prog 9 #[.pointer (some ⟨p, 0, none⟩)] w6 fun e w' => e = .returned (.int .i64 0) ∧ Below w6.heap.size w6 w') := used_any _ F6.out.sys
            go_wp2_with fail
            refine Calls.mono HW.out ?_
            rintro e w7 ⟨rfl, hb⟩
            have F7 : Hid (FsIn w w7 p o6 _) := F6.out.later hb
            clear hb F6 HW
            go_wp2_with fail
            refine (HD.out _).mono ?_
            rintro e w8 ⟨rfl, hb⟩
            have F8 : Hid (Below w.heap.size w w8) := bnext F7.out.below hb
            clear hb F7
            go_wp2
            go_ret
            exact ⟨rfl, F8.out⟩

set_option maxRecDepth 100000 in
theorem filesNames_lifted (os : Os) (started : os.Started) (H : Type) (enc : TypeId × Value → H) :
    ReturnsInHanded {} Try.checked os 3 .any (Rows.filesNamesSpec.pre6 enc Try.prog Try.f3 Rows.filesNamesRow.domain false) (Rows.filesNamesSpec.post enc Try.prog Try.f3 false true false false) := by
  refine returnsInHanded_of_change (C := Try.checked) Try.own started (by kernel_rfl) Try.func3
    (ChangeSpec.witness6 (enc := enc) (C := Try.checked) false ⟨#[], #[.string ByteArray.empty], []⟩ 8 (by kernel_rfl) (by kernel_rfl) (by kernel_rfl) (by kernel_rfl)) ?_
  intro W base args ds gs before hval0 hW hcnd _
  have hval : ∀ (j : Nat) t v, Try.f3.params[j]? = some t → args[j]? = some v → Value.okWide Try.prog W .any base t v := hval0
  have hW' := hW
  obtain ⟨p, q, hA0, hV, rfl, hfz, hnd⟩ := hW
  have hA : DataW.TrodAll enc Try.prog W 0 (fun _ => true) true Try.f3.params.toList args.toList ds p := hA0
  rw [Try.params3] at hA hval
  obtain ⟨v0, vs0, d0, ds0, p0, q0, hargs, rfl, rfl, h0, r0⟩ := trodAll_cons hA
  obtain ⟨rfl, rfl, rfl⟩ := trodAll_nil r0
  obtain rfl : args = #[v0] := by cases args; simp_all
  obtain ⟨rfl, rfl⟩ := trodVars_none hV
  obtain ⟨a0, rfl, rfl, rfl, w0⟩ := open_string Try.underlying9 (hval 0 9 v0 rfl rfl) h0
  clear hA0 hval0
  simp only [List.append_nil] at hW'
  refine (filesNames_walk a0 W w0).mono fun e W' ⟨he, bel⟩ => ?_
  subst he
  exact ⟨_, rfl, _, _, _, [], [], [], hW', trodAll_mk1 (shut_bool Try.underlying4 _), (trodAll_cons_mk (shut_string Try.underlying9 w0) trodAll_mk0), rfl, bel.frame _, fun h => by cases h⟩

theorem filesNames_holds : Rows.FilesNamesSaid :=
  OpenClaim.holds_of_wide 3 Try.f3 rfl rfl rfl rfl rfl rfl rfl ⟨rfl, rfl, rfl, rfl, rfl⟩ rfl rfl rfl rfl rfl (by kernel_rfl) Try.func3 (by kernel_rfl)
    (of_decide_eq_true (by kernel_rfl)) (by unfold Func.isWrapper; first | (rw [if_pos (by decide +kernel)]; kernel_rfl) | (rw [if_neg (by decide +kernel)]; exact ⟨rfl, rfl⟩))
    (fun os started H enc _ => filesNames_lifted os started H enc)

end Go.Proofs.Ytikbhklmedblbab
