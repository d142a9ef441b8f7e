/- PartsAlike: for every two bytes the call returns true: what was cut are parts, of which none is more than one vertex larger than another one (P9.3). No conditions. -/
import Derived.Test.YtehjbhblccjpeaaAOpen
import Derived.Test.YtehjbhblccjpeaaALay
namespace Go.Proofs.Ytehjbhblccjpeaa
open Go.ChangeShapes Go.WideShapes Go.ChangeAt Go.RowKit Go.Deep

set_option maxHeartbeats 400000 in
set_option maxRecDepth 100000 in
theorem partsAlike_walk (a b : Int) (w : World) (ha : (Lit.int .u8 a).wf = true) (hb : (Lit.int .u8 b).wf = true) :
    Calls Try.prog 5 #[.int .u8 a, .int .u8 b] w fun e w' => e = .returned (.bool true) ∧ Below w.heap.size w w' := by
  obtain ⟨x, rfl, hx⟩ := wf_u8 ha
  obtain ⟨y, rfl, hy⟩ := wf_u8 hb
  clear ha hb
  obtain ⟨N, hN, hN1, hN2⟩ : ∃ N : Nat, (1 : Int) + (x : Int) = (N : Int) ∧ 1 ≤ N ∧ N ≤ 256 := ⟨1 + x, by omega, by omega, by omega⟩
  obtain ⟨m, hm, hm1⟩ : ∃ m : Nat, (y : Int) % 16 = (m : Int) ∧ m < 16 := ⟨y % 16, by omega, by omega⟩
  obtain ⟨K, hK, hK1, hK2⟩ : ∃ K : Nat, (1 : Int) + (m : Int) = (K : Int) ∧ 1 ≤ K ∧ K ≤ 16 := ⟨1 + m, by omega, by omega, by omega⟩
  have HC := cut_any N K w
  by_cases hKN : N < K
  · rw [cut_no (by unfold Pt.can Pt.many; simp; omega)] at HC
    replace HC : Hid _ := HC
    go_enter Try.func5, Try.ntmps5
    go_wp2_with fail
    refine Calls.mono HC.out ?_
    rintro e1 w1 ⟨u1, rfl, hu1, hb1⟩
    obtain ⟨a1, cap1, rfl, _, _⟩ := Prt.of_own hu1
    replace hb1 : Hid (Below w.heap.size w w1) := hb1
    clear HC hu1
    go_wp2_with fail
    refine (does_any _).mono ?_
    rintro e4 w4 ⟨rfl, hb4⟩
    replace hb4 : Hid (Below w.heap.size w w4) := bnext hb1.out hb4
    go_wp2
    go_ret
    exact ⟨rfl, hb4.out⟩
  · rw [cut_yes (by unfold Pt.can Pt.many; simp; omega)] at HC
    have HL : Hid ((Pt.cuts N K).length = K) := Pt.cuts_len N K
    have HG : Hid (∀ k, k < K → (Pt.cuts N K).getD k p0 = Pt.one N K k) := fun k hk => Pt.cuts_get hk
    have HH : Hid (Pt.chk N (Pt.cuts N K) = 0) := Pt.cuts_chk hK1 (by omega) hK2 hN2
    dsimp only at HC
    generalize Pt.cuts N K = l at *
    replace HC : Hid _ := HC
    go_enter Try.func5, Try.ntmps5
    go_wp2_with fail
    refine Calls.mono HC.out ?_
    rintro e1 w1 ⟨u1, rfl, hu1, hb1⟩
    rw [HL.out] at hu1
    obtain ⟨g, cap, rfl, _, _⟩ := hu1.form (by omega)
    replace hb1 : Hid (Below w.heap.size w w1) := hb1
    replace hu1 : Hid (Prt w1 (.slice (some ⟨g, 0, none⟩) K cap) l) := Prt.of_own hu1
    clear HC
    go_wp2_with fail
    refine (chk_any N _ l w1 hu1.out (by rw [HL.out]; omega)).mono ?_
    rw [HH.out]
    rintro e2 w2 ⟨rfl, hb2⟩
    replace hu1 := Prt.hid hu1 hb2
    replace hb2 : Hid (Below w.heap.size w w2) := bnext hb1.out hb2
    clear hb1
    have HCR : Hid (∀ j, j < K → w2.cell? ⟨g, j * 2, none⟩ = some (.int .i64 (l.getD j p0).1) ∧ w2.cell? ⟨g, j * 2 + 1, none⟩ = some (.int .i64 (l.getD j p0).2)) := fun j hj => by
      obtain ⟨a', cap', e, _, h⟩ := hu1.out
      rcases h with h | ⟨b', off', rfl, h⟩
      · have := congrArg List.length h
        rw [HL.out] at this
        have : K = 0 := this
        omega
      · simp only [Value.slice.injEq, Option.some.injEq, Addr.mk.injEq, and_true] at e
        obtain ⟨⟨rfl, rfl⟩, _⟩ := e
        have := h j (by rw [HL.out]; exact hj)
        rwa [Nat.zero_add] at this
    clear hu1 hN hm hK
    go_wp2_with fail
    go_loopw [9] (fun i wr => ∃ k : Nat, k ≤ K ∧ i = .int .i64 k ∧ Hid (Below w2.heap.size w2 wr)) (fun i _ => K - (intOf i).toNat)
    case atStart => exact ⟨0, Nat.zero_le _, rfl, Below.refl _ _⟩
    case round =>
      obtain ⟨k, hk, rfl, HB⟩ := hrel
      by_cases hlt : k < K
      · have c1 := cell_after HB.out (HCR.out k hlt).1
        have c2 := cell_after HB.out (HCR.out k hlt).2
        rw [HG.out k hlt] at c1 c2
        unfold Pt.one at c1 c2
        obtain ⟨z, hz1, hz2, hz3⟩ := Pt.cut_size (n := N) (s := K) (k := k) hK1
        have l4 : (k + 1) * N / K ≤ 4096 := Nat.le_trans (Nat.div_le_self _ _) (Nat.mul_le_mul (show k + 1 ≤ 16 by omega) hN2)
        rw [hz1] at c2 l4
        clear hz1
        have q1 : (N : Int) / (K : Int) = ((N / K : Nat) : Int) := by simp
        have q0 : (N : Int) + (K : Int) - 1 = ((N + K - 1 : Nat) : Int) := by omega
        have q2 : ((N + K - 1 : Nat) : Int) / (K : Int) = (((N + K - 1) / K : Nat) : Int) := by simp
        have l5 : N + K - 1 ≤ 4096 := by omega
        have l6 : (N + K - 1) / K ≤ 4096 := Nat.le_trans (Nat.div_le_self _ _) l5
        have l7 : N / K ≤ 256 := Nat.le_trans (Nat.div_le_self _ _) hN2
        dsimp only at c1 c2
        generalize k * N / K = f at *
        have hs : ((f + z : Nat) : Int) - (f : Int) = (z : Int) := by omega
        generalize hfz : f + z = t at *
        generalize N / K = d at *
        generalize (N + K - 1) / K = c at *
        generalize N + K - 1 = M at *
        have hzd : decide ((z : Int) < d) = false := by simp; omega
        have hzc : decide ((c : Int) < z) = false := by simp; omega
        go_wp2_with fail
        go_region
        all_goals go_wp2
        all_goals
          go_roundw
          case rel => exact ⟨k + 1, by omega, by go_num, HB.out.drew⟩
          case measure => simp [intOf]; omega
      · obtain rfl : k = K := by omega
        go_wp2_with fail
        refine (does_any _).mono ?_
        rintro e4 w4 ⟨rfl, hb4⟩
        replace hb4 : Hid (Below w.heap.size w w4) := bnext hb2.out (bnext HB.out hb4)
        go_wp2
        go_ret
        exact ⟨rfl, hb4.out⟩

set_option maxRecDepth 100000 in
theorem partsAlike_lifted (os : Os) (started : os.Started) (H : Type) (enc : TypeId × Value → H) :
    ReturnsInHanded {} Try.checked os 5 .any (Rows.partsAlikeSpec.pre6 enc Try.prog Try.f5 Rows.partsAlikeRow.domain false) (Rows.partsAlikeSpec.post enc Try.prog Try.f5 false true false false) := by
  refine returnsInHanded_of_change (C := Try.checked) Try.own started (by kernel_rfl) Try.func5
    (ChangeSpec.witness6 (enc := enc) (C := Try.checked) false ⟨#[], #[.int .u8 0, .int .u8 0], []⟩ 8 (by kernel_rfl) (by kernel_rfl) (by kernel_rfl) (by kernel_rfl)) ?_
  intro W base args ds gs before hval0 hW hcnd _
  have hval : ∀ (j : Nat) t v, Try.f5.params[j]? = some t → args[j]? = some v → Value.okWide Try.prog W .any base t v := hval0
  have hW' := hW
  obtain ⟨p, q, hA0, hV, rfl, hfz, hnd⟩ := hW
  have hA : DataW.TrodAll enc Try.prog W 0 (fun _ => true) true Try.f5.params.toList args.toList ds p := hA0
  rw [Try.params5] at hA hval
  obtain ⟨v0, vs0, d0, ds0, p0, q0, hargs, rfl, rfl, h0, r0⟩ := trodAll_cons hA
  obtain ⟨v1, vs1, d1, ds1, p1, q1, rfl, rfl, rfl, h1, r1⟩ := trodAll_cons r0
  obtain ⟨rfl, rfl, rfl⟩ := trodAll_nil r1
  obtain rfl : args = #[v0, v1] := by cases args; simp_all
  obtain ⟨rfl, rfl⟩ := trodVars_none hV
  obtain ⟨a0, rfl, rfl, rfl, w0⟩ := open_int Try.underlying5 (hval 0 5 v0 rfl rfl) h0
  obtain ⟨a1, rfl, rfl, rfl, w1⟩ := open_int Try.underlying5 (hval 1 5 v1 rfl rfl) h1
  clear hA0 hval0
  simp only [List.append_nil] at hW'
  refine (partsAlike_walk a0 a1 W w0 w1).mono fun e W' ⟨he, bel⟩ => ?_
  subst he
  exact ⟨_, rfl, _, _, _, [], [], [], hW', trodAll_mk1 (shut_bool Try.underlying4 _), (trodAll_cons_mk (shut_int Try.underlying5 w0) (trodAll_cons_mk (shut_int Try.underlying5 w1) trodAll_mk0)), rfl, bel.frame _, fun h => by cases h⟩

theorem partsAlike_holds : Rows.PartsAlikeSaid :=
  OpenClaim.holds_of_wide 5 Try.f5 rfl rfl rfl rfl rfl rfl rfl ⟨rfl, rfl, rfl, rfl, rfl⟩ rfl rfl rfl rfl rfl (by kernel_rfl) Try.func5 (by kernel_rfl)
    (of_decide_eq_true (by kernel_rfl)) (by unfold Func.isWrapper; first | (rw [if_pos (by decide +kernel)]; kernel_rfl) | (rw [if_neg (by decide +kernel)]; exact ⟨rfl, rfl⟩))
    (fun os started H enc _ => partsAlike_lifted os started H enc)

end Go.Proofs.Ytehjbhblccjpeaa
