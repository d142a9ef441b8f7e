/- PagesBack: for every string the call returns true: what is split is joined, into as many pages as it takes; each of them is a page (P5.3). No conditions. -/
import Derived.Test.YtnlglmloineapaaQDoes
namespace Go.Proofs.Ytnlglmloineapaa
open Go.ChangeShapes Go.WideShapes Go.ChangeAt Go.RowKit
open Go.ChangeMaps (open_string shut_string)

theorem split_join (s : ByteArray) : Pg.join (lists ((Pg.split s.data.toList).map text)) = (s.data.toList, 0) := by
  rw [lists_text, Pg.join_split]
theorem split_small (d : List UInt8) : ∀ s ∈ (Pg.split d).map text, s.size ≤ 9223372036854775807 := by
  intro s hs
  obtain ⟨p, hp, rfl⟩ := List.mem_map.1 hs
  have := (Pg.split_ok d p hp).1
  show p.length ≤ _
  omega
theorem split_at (d : List UInt8) (i : Nat) (h : i < ((Pg.split d).map text).length) : ∃ p : List UInt8, ((Pg.split d).map text).getD i ByteArray.empty = text (Pg.page p) ∧ p.length ≤ 122 := by
  rw [List.length_map, Pg.split_length] at h
  refine ⟨(Pg.parts d)[i], ?_, Pg.parts_le d _ (List.getElem_mem h)⟩
  rw [List.getD_eq_getElem?_getD, List.getElem?_map]
  unfold Pg.split
  rw [List.getElem?_map, List.getElem?_eq_getElem h]
  rfl

set_option maxRecDepth 100000 in
set_option maxHeartbeats 2000000 in
theorem pagesBack_walk (s : ByteArray) (w : World) (hs : s.size ≤ maxLen) :
    Calls Try.prog 5 #[.string s] w fun e w' => e = .returned (.bool true) ∧ Below w.heap.size w w' := by
  unfold maxLen at hs
  by_cases h1 : 3000 < s.size
  · go_enter Try.func5, Try.ntmps5
    go_wp2
    go_ret
    exact ⟨rfl, Below.refl _ _⟩
  · have hlen : s.data.toList.length = s.size := by simp
    have HSP : Hid (Calls _ _ _ _ _) := split_any s w (by omega)
    have hcnt : ((Pg.split s.data.toList).map text).length = max ((s.size + 121) / 122) 1 := by
      rw [List.length_map, Pg.split_length, Pg.parts_count, hlen]
    have HJ : Hid (∀ W v, Strs W v ((Pg.split s.data.toList).map text) → Calls Try.prog 18 #[v] W fun e w' => e = .returned (.tuple #[.string s, .int .i64 0]) ∧ Below W.heap.size W w') := fun W v h => by
      have := join_any v _ W h (by rw [hcnt]; omega) (split_small _)
      rw [split_join] at this
      exact this
    have HA : Hid (∀ i, i < ((Pg.split s.data.toList).map text).length → ∃ p : List UInt8, ((Pg.split s.data.toList).map text).getD i ByteArray.empty = text (Pg.page p) ∧ p.length ≤ 122) := split_at s.data.toList
    obtain ⟨l, HL⟩ : ∃ l, Hid ((Pg.split s.data.toList).map text = l) := ⟨_, rfl⟩
    rw [HL.out] at HSP hcnt HJ HA
    clear HL hlen
    obtain ⟨n, hn⟩ : ∃ n, l.length = n := ⟨_, rfl⟩
    rw [hn] at hcnt
    have hm : max (((s.size : Int) + 121) / 122) 1 = (n : Int) := by omega
    have hn1 : 1 ≤ n := by omega
    have hn2 : n ≤ 30 := by omega
    clear hcnt
    go_enter Try.func5, Try.ntmps5
    go_wp2_with fail
    refine Calls.mono HSP.out ?_
    rintro e w1 ⟨v, rfl, hs1, hb1⟩
    have HB1 : Hid (Below w.heap.size w w1) := hb1
    have HS1 : Hid (Strs w1 v l) := hs1
    obtain ⟨a, cap, rfl, hcap, hs1⟩ := hs1
    obtain ⟨b, off, rfl, hc⟩ : ∃ b off, a = some ⟨b, off, none⟩ ∧ ∀ j, j < l.length → w1.cell? ⟨b, off + j, none⟩ = some (.string (l.getD j ByteArray.empty)) := by
      rcases hs1 with h | h
      · rw [h] at hn; simp at hn; omega
      · exact h
    have HC : Hid _ := hc
    rw [hn] at HS1 HC HA ⊢
    clear hs1 hb1 hc HSP hn hcap
    go_wp2_with fail
    refine (HJ.out _ _ HS1.out).mono ?_
    rintro e w2 ⟨rfl, hb2⟩
    have HB2 : Hid (Below w.heap.size w w2) := bnext HB1.out hb2
    have HB12 : Hid (Below w1.heap.size w1 w2) := hb2
    clear hb2 HJ HS1
    go_wp2
    go_loopw [6] (fun c wr => ∃ i : Nat, i ≤ n ∧ c = .int .i64 i ∧ Hid (Below w1.heap.size w1 wr)) (fun c _ => n - (intOf c).toNat)
    case atStart => exact ⟨0, Nat.zero_le _, rfl, HB12⟩
    case round =>
      clear HB12 hm HB2
      obtain ⟨i, hi, rfl, HBr⟩ := hrel
      by_cases hlt : i < n
      · have hc1 := cell_after HBr.out (HC.out i hlt)
        obtain ⟨p, hp, hpl⟩ := HA.out i hlt
        rw [hp] at hc1
        have hps : (text (Pg.page p)).size = 128 := Pg.page_length hpl
        have HD : Hid (∀ W, Calls Try.prog 16 #[.string (text (Pg.page p))] W fun e w' => e = .returned (.tuple #[.string (text p), .int .i64 0]) ∧ Below W.heap.size W w') := fun W => by
          have := decode_any (text (Pg.page p)) W (by omega)
          rw [text_toList, Pg.dec_page hpl] at this
          exact this
        have HE : Hid (∀ W, Calls Try.prog 9 #[.string (text p)] W fun e w' => e = .returned (.tuple #[.string (text (Pg.page p)), .int .i64 0]) ∧ Below W.heap.size W w') := fun W => by
          have := encode_any (text p) W (by show p.length ≤ _; omega)
          rw [text_toList, Pg.enc_yes (by omega)] at this
          exact this
        generalize text (Pg.page p) = q at hc1 hps HD HE
        generalize text p = d at HD HE
        clear hp hpl p
        go_wp2_with fail
        refine (HD.out _).mono ?_
        rintro e w3 ⟨rfl, hb3⟩
        have HB3 : Hid (Below w1.heap.size w1 w3) := bnext HBr.out hb3
        have hc2 := cell_after hb3 hc1
        clear hb3 HD hc1
        go_wp2_with fail
        refine (HE.out _).mono ?_
        rintro e w4 ⟨rfl, hb4⟩
        have HB4 : Hid (Below w1.heap.size w1 w4) := bnext HB3.out hb4
        have hc3 := cell_after hb4 hc2
        clear hb4 HE hc2 HB3
        go_wp2
        go_roundw
        case rel => exact ⟨i + 1, by omega, by go_num, HB4⟩
        case measure => simp [intOf]; omega
      · obtain rfl : i = n := by omega
        go_wp2_with fail
        refine (does_any _).mono ?_
        rintro e w5 ⟨rfl, hb5⟩
        have HB5 : Hid (Below w.heap.size w w5) := bnext (bnext HB1.out HBr.out) hb5
        clear hb5
        go_wp2
        go_ret
        exact ⟨rfl, HB5.out⟩

set_option maxRecDepth 100000 in
theorem pagesBack_lifted (os : Os) (started : os.Started) (H : Type) (enc : TypeId × Value → H) :
    ReturnsInHanded {} Try.checked os 5 .any (Rows.pagesBackSpec.pre6 enc Try.prog Try.f5 Rows.pagesBackRow.domain false) (Rows.pagesBackSpec.post enc Try.prog Try.f5 false true false false) := by
  refine returnsInHanded_of_change (C := Try.checked) Try.own started (by kernel_rfl) Try.func5
    (ChangeSpec.witness6 (enc := enc) (C := Try.checked) false ⟨#[], #[.string ByteArray.empty], []⟩ 8 (by kernel_rfl) (by kernel_rfl) (by kernel_rfl) (by kernel_rfl)) ?_
  intro W base args ds gs before hval0 hW hcnd _
  have hval : ∀ (j : Nat) t v, Try.f5.params[j]? = some t → args[j]? = some v → Value.okWide Try.prog W .any base t v := hval0
  have hW' := hW
  obtain ⟨p, q, hA0, hV, rfl, hfz, hnd⟩ := hW
  have hA : DataW.TrodAll enc Try.prog W 0 (fun _ => true) true Try.f5.params.toList args.toList ds p := hA0
  rw [Try.params5] at hA hval
  obtain ⟨v0, vs0, d0, ds0, p0, q0, hargs, rfl, rfl, h0, r0⟩ := trodAll_cons hA
  obtain ⟨rfl, rfl, rfl⟩ := trodAll_nil r0
  obtain rfl : args = #[v0] := by cases args; simp_all
  obtain ⟨rfl, rfl⟩ := trodVars_none hV
  obtain ⟨a0, rfl, rfl, rfl, w0⟩ := open_string Try.underlying9 (hval 0 9 v0 rfl rfl) h0
  clear hA0 hval0
  simp only [List.append_nil] at hW'
  refine (pagesBack_walk a0 W w0).mono fun e W' ⟨he, bel⟩ => ?_
  subst he
  exact ⟨_, rfl, _, _, _, [], [], [], hW', trodAll_mk1 (shut_bool Try.underlying4 _), (trodAll_cons_mk (shut_string Try.underlying9 w0) trodAll_mk0), rfl, bel.frame _, fun h => by cases h⟩

theorem pagesBack_holds : Rows.PagesBackSaid :=
  OpenClaim.holds_of_wide 5 Try.f5 rfl rfl rfl rfl rfl rfl rfl ⟨rfl, rfl, rfl, rfl, rfl⟩ rfl rfl rfl rfl rfl (by kernel_rfl) Try.func5 (by kernel_rfl)
    (of_decide_eq_true (by kernel_rfl)) (by unfold Func.isWrapper; first | (rw [if_pos (by decide +kernel)]; kernel_rfl) | (rw [if_neg (by decide +kernel)]; exact ⟨rfl, rfl⟩))
    (fun os started H enc _ => pagesBack_lifted os started H enc)

end Go.Proofs.Ytnlglmloineapaa
