/- PartsAsk: for every number, every list of intervals and every number that is asked for the call returns true: where it lies, and whether they are parts, is the document's; the list stays (P9.2). No conditions; above 60 intervals the call returns true at once. -/
import Derived.Test.YtehjbhblccjpeaaAOpen
import Derived.Test.YtehjbhblccjpeaaARef2
namespace Go.Proofs.Ytehjbhblccjpeaa
open Go.ChangeShapes Go.WideShapes Go.ChangeAt Go.RowKit Go.Deep

set_option maxHeartbeats 400000 in
set_option maxRecDepth 100000 in
theorem partsAsk_walk (n : Int) (v : Value) (l : List (Int × Int)) (x : Int) (w : World) (_hn : (Lit.int .i64 n).wf = true) (h : Prt w v l) (_hl : l.length ≤ 9223372036854775807) (_hx : (Lit.int .i64 x).wf = true) :
    Calls Try.prog 4 #[.int .i64 n, v, .int .i64 x] w fun e w' => e = .returned (.bool true) ∧ Below w.heap.size w w' := by
  obtain ⟨i0, hi0, hz0, hz1, hz2⟩ := info_parts Try.partInfo
  have HE : Hid (Prt w v l) := h
  by_cases h60 : 60 < l.length
  · obtain ⟨a, cap, rfl, _, h⟩ := h
    clear HE
    go_enter Try.func4, Try.ntmps4
    go_wp2
    go_ret
    exact ⟨rfl, Below.refl _ _⟩
  · have hl : Hid (l.length ≤ 1000000000000) := by rw [Hid]; omega
    obtain ⟨a, cap, rfl, _, h⟩ := h
    by_cases h0 : l = []
    · subst h0
      replace hl : ([] : List (Int × Int)).length ≤ 1000000000000 := by simp
      clear h
      have hb1 : Hid (Below w.heap.size w w) := Below.refl _ _
      have hown : Hid (Prt w (.slice none 0 0) []) := prt_nil _
      cases a
      all_goals
        go_enter Try.func4, Try.ntmps4
        go_wp2_with fail
        refine (of_any _ [] x w hown.out hl).mono ?_
        rintro e w2 ⟨rfl, hb2⟩
        replace HE := Prt.hid HE hb2
        replace hown := Prt.hid hown hb2
        replace hb2 : Hid (Below w.heap.size w w2) := bnext hb1.out hb2
        go_wp2_with fail
        refine (rof_any _ [] x w2 HE.out hl).mono ?_
        rintro e w3 ⟨rfl, hb3⟩
        replace HE := Prt.hid HE hb3
        replace hown := Prt.hid hown hb3
        replace hb3 : Hid (Below w.heap.size w w3) := bnext hb2.out hb3
        go_wp2_with fail
        refine (chk_any n _ [] w3 hown.out hl).mono ?_
        rintro e w4 ⟨rfl, hb4⟩
        replace HE := Prt.hid HE hb4
        replace hown := Prt.hid hown hb4
        replace hb4 : Hid (Below w.heap.size w w4) := bnext hb3.out hb4
        go_wp2_with fail
        refine (rchk_any n _ [] w4 HE.out hl).mono ?_
        rintro e w5 ⟨rfl, hb5⟩
        replace HE := Prt.hid HE hb5
        replace hown := Prt.hid hown hb5
        replace hb5 : Hid (Below w.heap.size w w5) := bnext hb4.out hb5
        go_wp2_with fail
        refine (same_prt _ _ [] [] w5 hown.out HE.out hl hl).mono ?_
        rintro e w6 ⟨rfl, hb6⟩
        rw [show decide ([] = []) = true from decide_eq_true rfl]
        replace hb6 : Hid (Below w.heap.size w w6) := bnext hb5.out hb6
        go_wp2_with fail
        refine (does_any _).mono ?_
        rintro e w7 ⟨rfl, hb7⟩
        replace hb7 : Hid (Below w.heap.size w w7) := bnext hb6.out hb7
        go_wp2
        go_ret
        exact ⟨rfl, hb7.out⟩
    · obtain ⟨b, off, rfl, hc⟩ := h.resolve_left h0
      have HC : Hid (∀ j u, (pcells l)[j]? = some u → w.cell? ((⟨b, off, none⟩ : Addr).add j) = some u) := fun j u hj => by
        rw [Addr.add_lit]; exact cells_of hc j u hj
      clear hc h h0
      go_enter Try.func4, Try.ntmps4
      go_wp2_with (at_builtin; refine wpList_append_own _ rfl _ _ 22 rfl w.heap.size 33 i0 (.agg #[.int .i64 0, .int .i64 0]) 2 16 Try.underlying22 hi0 hz0 hz1 hz2 rfl (by decide) _ 0 [] rfl (World.ownsRow_nil _ _ _ _) ⟨b, off, none⟩ l.length cap (pcells l) rfl (pcells_len _) HC.out (pcells_one _) (by unfold maxLen; omega) (by omega) (Nat.le_refl _) ?_; intro v1 w1 hown1 hgrow1 _)
      rw [Nat.zero_add, List.nil_append] at hown1
      have hb1 : Hid (Below w.heap.size w w1) := (Below.refl _ w).grown hgrow1 (Nat.le_refl _) (by intro k hk; cases hk)
      have hown : Hid (Prt w1 v1 l) := Prt.of_own hown1
      replace HE := Prt.hid HE hb1.out
      replace hl := hl.out
      clear hown1 hgrow1 HC
      go_wp2_with fail
      refine (of_any _ l x w1 hown.out hl).mono ?_
      rintro e w2 ⟨rfl, hb2⟩
      replace HE := Prt.hid HE hb2
      replace hown := Prt.hid hown hb2
      replace hb2 : Hid (Below w.heap.size w w2) := bnext hb1.out hb2
      go_wp2_with fail
      refine (rof_any _ l x w2 HE.out hl).mono ?_
      rintro e w3 ⟨rfl, hb3⟩
      replace HE := Prt.hid HE hb3
      replace hown := Prt.hid hown hb3
      replace hb3 : Hid (Below w.heap.size w w3) := bnext hb2.out hb3
      go_wp2_with fail
      refine (chk_any n _ l w3 hown.out hl).mono ?_
      rintro e w4 ⟨rfl, hb4⟩
      replace HE := Prt.hid HE hb4
      replace hown := Prt.hid hown hb4
      replace hb4 : Hid (Below w.heap.size w w4) := bnext hb3.out hb4
      go_wp2_with fail
      refine (rchk_any n _ l w4 HE.out hl).mono ?_
      rintro e w5 ⟨rfl, hb5⟩
      replace HE := Prt.hid HE hb5
      replace hown := Prt.hid hown hb5
      replace hb5 : Hid (Below w.heap.size w w5) := bnext hb4.out hb5
      go_wp2_with fail
      refine (same_prt _ _ l l w5 hown.out HE.out hl hl).mono ?_
      rintro e w6 ⟨rfl, hb6⟩
      rw [show decide (l = l) = true from decide_eq_true rfl]
      replace hb6 : Hid (Below w.heap.size w w6) := bnext hb5.out hb6
      go_wp2_with fail
      refine (does_any _).mono ?_
      rintro e w7 ⟨rfl, hb7⟩
      replace hb7 : Hid (Below w.heap.size w w7) := bnext hb6.out hb7
      go_wp2
      go_ret
      exact ⟨rfl, hb7.out⟩

set_option maxRecDepth 100000 in
theorem partsAsk_lifted (os : Os) (started : os.Started) (H : Type) (enc : TypeId × Value → H) :
    ReturnsInHanded {} Try.checked os 4 .any (Rows.partsAskSpec.pre6 enc Try.prog Try.f4 Rows.partsAskRow.domain false) (Rows.partsAskSpec.post enc Try.prog Try.f4 false true false false) := by
  refine returnsInHanded_of_change (C := Try.checked) Try.own started (by kernel_rfl) Try.func4
    (ChangeSpec.witness6 (enc := enc) (C := Try.checked) false ⟨#[], #[.int .i64 0, .slice none 0 0, .int .i64 0], []⟩ 8 (by kernel_rfl) (by kernel_rfl) (by kernel_rfl) (by kernel_rfl)) ?_
  intro W base args ds gs before hval0 hW hcnd _
  have hval : ∀ (j : Nat) t v, Try.f4.params[j]? = some t → args[j]? = some v → Value.okWide Try.prog W .any base t v := hval0
  have hW' := hW
  obtain ⟨p, q, hA0, hV, rfl, hfz, hnd⟩ := hW
  have hA : DataW.TrodAll enc Try.prog W 0 (fun _ => true) true Try.f4.params.toList args.toList ds p := hA0
  rw [Try.params4] at hA hval
  obtain ⟨v0, vs0, d0, ds0, p0, q0, hargs, rfl, rfl, h0, r0⟩ := trodAll_cons hA
  obtain ⟨v1, vs1, d1, ds1, p1, q1, rfl, rfl, rfl, h1, r1⟩ := trodAll_cons r0
  obtain ⟨v2, vs2, d2, ds2, p2, q2, rfl, rfl, rfl, h2, r2⟩ := trodAll_cons r1
  obtain ⟨rfl, rfl, rfl⟩ := trodAll_nil r2
  obtain rfl : args = #[v0, v1, v2] := by cases args; simp_all
  obtain ⟨rfl, rfl⟩ := trodVars_none hV
  obtain ⟨a0, rfl, rfl, rfl, w0⟩ := open_int Try.underlying3 (hval 0 3 v0 rfl rfl) h0
  have lt1 : ∀ x ∈ p1, x.block < W.heap.size := by obtain ⟨m, hm⟩ := h1; exact DataW.trod_lt m _ _ _ hm
  obtain ⟨l1, k1, n1⟩ := open_parts (hval 1 22 v1 rfl rfl) h1
  obtain ⟨a2, rfl, rfl, rfl, w2⟩ := open_int Try.underlying3 (hval 2 3 v2 rfl rfl) h2
  clear hA0 hval0
  refine (partsAsk_walk a0 v1 l1 a2 W w0 k1 n1 w2).mono fun e W' ⟨he, bel⟩ => ?_
  subst he
  exact ⟨_, rfl, _, _, _, [], _, [], hW', trodAll_mk1 (shut_bool Try.underlying4 _), (trodAll_cons_mk (shut_int Try.underlying3 w0) (trodAll_cons_mk (Below.trod Try.laidOut (by kernel_rfl) (of_decide_eq_true (by kernel_rfl)) h1 bel lt1) (trodAll_cons_mk (shut_int Try.underlying3 w2) trodAll_mk0))), rfl, bel.frame _, fun h => by cases h⟩

theorem partsAsk_holds : Rows.PartsAskSaid :=
  OpenClaim.holds_of_wide 4 Try.f4 rfl rfl rfl rfl rfl rfl rfl ⟨rfl, rfl, rfl, rfl, rfl⟩ rfl rfl rfl rfl rfl (by kernel_rfl) Try.func4 (by kernel_rfl)
    (of_decide_eq_true (by kernel_rfl)) (by unfold Func.isWrapper; first | (rw [if_pos (by decide +kernel)]; kernel_rfl) | (rw [if_neg (by decide +kernel)]; exact ⟨rfl, rfl⟩))
    (fun os started H enc _ => partsAsk_lifted os started H enc)

end Go.Proofs.Ytehjbhblccjpeaa
