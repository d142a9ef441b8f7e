/- PagesEncode: for every string the call returns true: the page of any data, and the pages into which it is parted, are the document's (P5.1, P5.2). No conditions. -/
import Derived.Test.YtnlglmloineapaaQRef2
namespace Go.Proofs.Ytnlglmloineapaa
open Go.ChangeShapes Go.WideShapes Go.ChangeAt Go.RowKit
open Go.ChangeMaps (open_string shut_string)

set_option maxRecDepth 100000 in
set_option maxHeartbeats 2000000 in
theorem pagesEncode_walk (s : ByteArray) (w : World) (hs : s.size ≤ maxLen) :
    Calls Try.prog 3 #[.string s] w fun e w' => e = .returned (.bool true) ∧ Below w.heap.size w w' := by
  unfold maxLen at hs
  by_cases h1 : 3000 < s.size
  · go_enter Try.func3, Try.ntmps3
    go_wp2
    go_ret
    exact ⟨rfl, Below.refl _ _⟩
  · have HE : Hid (∀ W, Calls _ _ _ _ _) := fun W => encode_any s W hs
    have HR : Hid (∀ W, Calls _ _ _ _ _) := fun W => rencode_any s W hs
    have HS : Hid (∀ W, Calls _ _ _ _ _) := fun W => split_any s W (by omega)
    have HT : Hid (∀ W, Calls _ _ _ _ _) := fun W => rsplit_any _ s W (Nat.le_refl _) (by omega)
    have hcnt : ((Pg.split s.data.toList).map text).length ≤ 1000 := by
      rw [List.length_map, Pg.split_length, Pg.parts_count, size_list]; omega
    generalize (⟨(Pg.enc s.data.toList).1.toArray⟩ : ByteArray) = p at HE HR
    generalize (Pg.enc s.data.toList).2 = E at HE HR
    generalize (Pg.split s.data.toList).map text = l at HS HT hcnt
    have HX : Hid (∀ W v u, Strs W v l → Strs W u l → Calls Try.prog 11 #[v, u] W fun e w' => e = .returned (.bool true) ∧ Below W.heap.size W w') := fun W v u h1 h2 => by
      have := texts_any v u l l W h1 h2 (by omega) (by omega)
      rw [decide_eq_true rfl] at this
      exact this
    go_enter Try.func3, Try.ntmps3
    go_wp2_with fail
    refine (HE.out _).mono ?_
    rintro e w1 ⟨rfl, hb1⟩
    have HB1 : Hid (Below w.heap.size w w1) := hb1
    clear hb1
    go_wp2_with fail
    refine (HR.out _).mono ?_
    rintro e w2 ⟨rfl, hb2⟩
    have HB2 : Hid (Below w.heap.size w w2) := bnext HB1.out hb2
    clear hb2 HB1
    go_wp2_with fail
    refine (HS.out _).mono ?_
    rintro e w3 ⟨v3, rfl, hs3, hb3⟩
    have HB3 : Hid (Below w.heap.size w w3) := bnext HB2.out hb3
    have HS3 : Hid (Strs w3 v3 l) := hs3
    obtain ⟨a3, cap3, rfl, _, _⟩ := hs3
    clear hb3 HB2
    go_wp2_with fail
    refine (HT.out _).mono ?_
    rintro e w4 ⟨v4, rfl, hs4, hb4⟩
    have HB4 : Hid (Below w.heap.size w w4) := bnext HB3.out hb4
    have HS4 : Hid (Strs w4 v4 l) := hs4
    have HS5 : Hid _ := HS3.out.later hb4
    obtain ⟨a4, cap4, rfl, _, _⟩ := hs4
    clear hb4 HB3 HS3
    go_wp2_with fail
    refine (HX.out _ _ _ HS5.out HS4.out).mono ?_
    rintro e w5 ⟨rfl, hb5⟩
    have HB5 : Hid (Below w.heap.size w w5) := bnext HB4.out hb5
    clear hb5 HB4 HS5 HS4
    go_wp2_with fail
    refine (does_any _).mono ?_
    rintro e w6 ⟨rfl, hb6⟩
    have HB6 : Hid (Below w.heap.size w w6) := bnext HB5.out hb6
    clear hb6 HB5
    go_wp2
    go_ret
    exact ⟨rfl, HB6.out⟩

set_option maxRecDepth 100000 in
theorem pagesEncode_lifted (os : Os) (started : os.Started) (H : Type) (enc : TypeId × Value → H) :
    ReturnsInHanded {} Try.checked os 3 .any (Rows.pagesEncodeSpec.pre6 enc Try.prog Try.f3 Rows.pagesEncodeRow.domain false) (Rows.pagesEncodeSpec.post enc Try.prog Try.f3 false true false false) := by
  refine returnsInHanded_of_change (C := Try.checked) Try.own started (by kernel_rfl) Try.func3
    (ChangeSpec.witness6 (enc := enc) (C := Try.checked) false ⟨#[], #[.string ByteArray.empty], []⟩ 8 (by kernel_rfl) (by kernel_rfl) (by kernel_rfl) (by kernel_rfl)) ?_
  intro W base args ds gs before hval0 hW hcnd _
  have hval : ∀ (j : Nat) t v, Try.f3.params[j]? = some t → args[j]? = some v → Value.okWide Try.prog W .any base t v := hval0
  have hW' := hW
  obtain ⟨p, q, hA0, hV, rfl, hfz, hnd⟩ := hW
  have hA : DataW.TrodAll enc Try.prog W 0 (fun _ => true) true Try.f3.params.toList args.toList ds p := hA0
  rw [Try.params3] at hA hval
  obtain ⟨v0, vs0, d0, ds0, p0, q0, hargs, rfl, rfl, h0, r0⟩ := trodAll_cons hA
  obtain ⟨rfl, rfl, rfl⟩ := trodAll_nil r0
  obtain rfl : args = #[v0] := by cases args; simp_all
  obtain ⟨rfl, rfl⟩ := trodVars_none hV
  obtain ⟨a0, rfl, rfl, rfl, w0⟩ := open_string Try.underlying9 (hval 0 9 v0 rfl rfl) h0
  clear hA0 hval0
  simp only [List.append_nil] at hW'
  refine (pagesEncode_walk a0 W w0).mono fun e W' ⟨he, bel⟩ => ?_
  subst he
  exact ⟨_, rfl, _, _, _, [], [], [], hW', trodAll_mk1 (shut_bool Try.underlying4 _), (trodAll_cons_mk (shut_string Try.underlying9 w0) trodAll_mk0), rfl, bel.frame _, fun h => by cases h⟩

theorem pagesEncode_holds : Rows.PagesEncodeSaid :=
  OpenClaim.holds_of_wide 3 Try.f3 rfl rfl rfl rfl rfl rfl rfl ⟨rfl, rfl, rfl, rfl, rfl⟩ rfl rfl rfl rfl rfl (by kernel_rfl) Try.func3 (by kernel_rfl)
    (of_decide_eq_true (by kernel_rfl)) (by unfold Func.isWrapper; first | (rw [if_pos (by decide +kernel)]; kernel_rfl) | (rw [if_neg (by decide +kernel)]; exact ⟨rfl, rfl⟩))
    (fun os started H enc _ => pagesEncode_lifted os started H enc)

end Go.Proofs.Ytnlglmloineapaa
