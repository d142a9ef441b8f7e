/- IntsWay: for every string and every int the call returns true: what is got, at any place of any bytes, was put there, in one way (P1.3). No conditions. -/
import Derived.Test.YtdeknpinjlepcaaDoes
import Derived.Test.YtdeknpinjlepcaaFrame
import Derived.Test.YtdeknpinjlepcaaLater
import Derived.Lib.Strings
namespace Go.Proofs.Ytdeknpinjlepcaa
open Go.ChangeShapes Go.WideShapes Go.ChangeAt Go.RowKit
open Go.ChangeMaps (open_string shut_string)

/-- What read tells where there is a number. -/
theorem readS_yes (l : List UInt8) (i : Int) (h : (Vi.readS l i).2.2 = true) :
    0 ≤ i ∧ ∃ m : Nat, (Vi.readS l i).2.1 = i + m ∧ 1 ≤ m ∧ i + m ≤ l.length ∧ (l.drop i.toNat).take m = Vi.enc (Vi.readS l i).1 := by
  unfold Vi.readS at h ⊢
  split at h
  · simp at h
  · rename_i hi
    rw [if_neg hi]
    revert h
    cases hd : Vi.dec (l.drop i.toNat) with
    | none => intro h; simp at h
    | some p =>
      obtain ⟨n, m⟩ := p
      intro _
      obtain ⟨h1, h2, h3, h4, h5⟩ := Vi.enc_dec _ _ _ hd
      rw [List.length_drop] at h4
      exact ⟨by omega, m, rfl, h5, by omega, h3⟩

theorem readS_no (l : List UInt8) (i : Int) (h : (Vi.readS l i).2.2 = false) : Vi.readS l i = (0, 0, false) := by
  unfold Vi.readS at h ⊢
  split at h
  · rename_i hi
    rw [if_pos hi]
  · rename_i hi
    rw [if_neg hi]
    revert h
    cases hd : Vi.dec (l.drop i.toNat) with
    | none => intro _; rfl
    | some p => intro h; simp at h

/-- What Get tells. -/
theorem getS_cases (l : List UInt8) (i n x : Int) (b : Bool) (h : Vi.getS l i = (n, x, b)) :
    (b = false ∧ n = 0 ∧ x = 0) ∨ (b = true ∧ 0 ≤ i ∧ i < x ∧ x ≤ l.length ∧ 0 ≤ n ∧ n ≤ 9223372036854775807 ∧ (l.drop i.toNat).take (x.toNat - i.toNat) = Vi.putL n ∧ Vi.readS l i = (n.toNat, x, true)) := by
  unfold Vi.getS at h
  split at h
  · rename_i hc
    obtain ⟨hi, m, hm, h1, h2, h3⟩ := readS_yes l i hc.1
    simp only [Prod.mk.injEq] at h
    obtain ⟨rfl, rfl, rfl⟩ := h
    refine .inr ⟨rfl, hi, by omega, by omega, by omega, by omega, ?_, ?_⟩
    · rw [hm, show (i + (m : Int)).toNat - i.toNat = m by omega, h3, Vi.putL, if_neg (by omega), Int.toNat_natCast]
    · have e : Vi.readS l i = ((Vi.readS l i).1, (Vi.readS l i).2.1, (Vi.readS l i).2.2) := rfl
      rw [hc.1] at e
      rw [Int.toNat_natCast]
      exact e
  · simp only [Prod.mk.injEq] at h
    exact .inl ⟨h.2.2.symm, h.1.symm, h.2.1.symm⟩

theorem getI_cases (l : List UInt8) (i n x : Int) (b : Bool) (h : Vi.getI l i = (n, x, b)) :
    (b = false ∧ n = 0 ∧ x = 0 ∧ (Vi.readS l i).2.2 = false) ∨ (b = true ∧ 0 ≤ i ∧ i < x ∧ x ≤ l.length ∧ -9223372036854775808 ≤ n ∧ n ≤ 9223372036854775807 ∧ (l.drop i.toNat).take (x.toNat - i.toNat) = Vi.putI n ∧ (Vi.readS l i).2.1 = x) := by
  unfold Vi.getI at h
  split at h
  · rename_i hc
    obtain ⟨hi, m, hm, h1, h2, h3⟩ := readS_yes l i hc
    have hlt := Vi.readS_lt l i
    simp only [Prod.mk.injEq] at h
    obtain ⟨rfl, rfl, rfl⟩ := h
    refine .inr ⟨rfl, hi, by omega, by omega, ?_, ?_, ?_, rfl⟩
    · unfold Vi.unfold; split <;> omega
    · unfold Vi.unfold; split <;> omega
    · rw [hm, show (i + (m : Int)).toNat - i.toNat = m by omega, h3, Vi.putI, Vi.fold_unfold]
  · rename_i hc
    simp only [Prod.mk.injEq] at h
    exact .inl ⟨h.2.2.symm, h.1.symm, h.2.1.symm, by simpa using hc⟩

theorem cut_way (s : ByteArray) (i x : Nat) : (s.extract i x).toList = (s.data.toList.drop i).take (x - i) := by
  rw [ByteArray.toList_eq, Lib.extract_data]

theorem way_run (s : ByteArray) (i x : Nat) (h : i ≤ x) (h2 : x ≤ s.size) (W : World) :
    (Instr.slice 9 (.string s) (some (.int .i64 (i : Int))) (some (.int .i64 (x : Int))) none).run Try.prog W = .ok (.string (s.extract i x)) W := by
  rw [run_slice_string (P := Try.prog) (w := W) 9 s .i64 .i64 i x Try.underlying9 (by omega) (by omega) (by omega), Int.toNat_natCast, Int.toNat_natCast]

set_option maxHeartbeats 2000000 in
theorem intsWay_walk (s : ByteArray) (i : Int) (w0 : s.size ≤ maxLen) (w1 : (Lit.int .i64 i).wf = true) (w : World) :
    Calls Try.prog 6 #[.string s, .int .i64 i] w fun e w' => e = .returned (.bool true) ∧ Below w.heap.size w w' := by
  have b1 := bounds_i64 w1
  clear w1
  unfold maxLen at w0
  by_cases h5 : 5000 < s.size
  · go_enter Try.func6, Try.ntmps6
    go_wp2
    go_ret
    exact ⟨rfl, Below.refl _ _⟩
  · go_enter Try.func6, Try.ntmps6
    go_wp2_with fail
    refine (get_any _ _ _ (by omega)).mono ?_
    rintro e w' ⟨n, x, b, rfl, hg, rfl⟩
    rcases getS_cases _ _ _ _ _ hg.out with ⟨rfl, rfl, rfl⟩ | ⟨rfl, c1, c2, c3, c4, c5, c6, c7⟩
    · clear hg
      have hne := Later.some w'
      go_wp2_with fail
      refine wp_region_later (by kernel_rfl) (by kernel_rfl) ?_
      repeat (go_big_quiet_step (fail))
      refine wpQuiet_nil ?_
      intro w1 hw1
      obtain ⟨⟨w2, hb2⟩, rfl⟩ := hw1
      clear hne
      go_wp2_with fail
      refine (getInt_any _ _ _ (by omega)).mono ?_
      rintro e w3 ⟨m, z, b', rfl, hi, rfl⟩
      have hne := Later.some w3
      rcases getI_cases _ _ _ _ _ hi.out with ⟨rfl, rfl, rfl, -⟩ | ⟨rfl, d1, d2, d3, d4, d5, d6, -⟩
      · clear hi
        go_wp2_with fail
        refine wp_region_later (by kernel_rfl) (by kernel_rfl) ?_
        repeat (go_big_quiet_step (fail))
        refine wpQuiet_nil ?_
        intro w1 hw1
        obtain ⟨⟨w4, hb4⟩, rfl⟩ := hw1
        clear hne
        replace hb4 := bnext hb2 hb4
        clear hb2
        go_wp2_with fail
        refine (does_any _).mono ?_
        rintro e w9 ⟨rfl, hb9⟩
        go_wp2
        go_ret
        exact ⟨rfl, bnext hb4 hb9⟩
      · clear hi
        obtain ⟨k, rfl⟩ := Int.eq_ofNat_of_zero_le d1
        obtain ⟨y, rfl⟩ := Int.eq_ofNat_of_zero_le (show 0 ≤ z by omega)
        have hl : s.data.toList.length = s.size := by simp
        rw [hl] at d3
        have t7 : ((s.extract k y).toList == Vi.putI m) = true := by
          rw [cut_way, beq_iff_eq, ← d6, Int.toNat_natCast, Int.toNat_natCast]
        clear d6 d1 hl
        have hsl := way_run s k y (by omega) (by omega)
        have t1 : decide ((k : Int) < 0) = false := by simp
        have t5 : decide (y ≤ k) = false := by simp; omega
        have t6 : decide (s.size < y) = false := by simp; omega
        go_wp2_with fail
        refine wp_region_later (by kernel_rfl) (by kernel_rfl) ?_
        repeat (go_big_quiet_step ((go_at_call 11; exact Later.made (putInt_any _ _ (by omega) (by omega)))))
        refine wpQuiet_nil ?_
        intro w1 hw1
        obtain ⟨⟨w4, hb4⟩, rfl⟩ := hw1
        clear hne
        replace hb4 := bnext hb2 hb4
        clear hb2
        go_wp2_with fail
        refine (does_any _).mono ?_
        rintro e w9 ⟨rfl, hb9⟩
        go_wp2
        go_ret
        exact ⟨rfl, bnext hb4 hb9⟩
    · obtain ⟨k, rfl⟩ := Int.eq_ofNat_of_zero_le c1
      obtain ⟨y, rfl⟩ := Int.eq_ofNat_of_zero_le (show 0 ≤ x by omega)
      have hl : s.data.toList.length = s.size := by simp
      rw [hl] at c3
      have t7 : ((s.extract k y).toList == Vi.putL n) = true := by
        rw [cut_way, beq_iff_eq, ← c6, Int.toNat_natCast, Int.toNat_natCast]
      have H7 : Hid _ := c7
      clear c6 c7 c1 hl
      have hsl := way_run s k y (by omega) (by omega)
      have t1 : decide ((k : Int) < 0) = false := by simp
      have t4 : decide (n < 0) = false := by simp; omega
      have t5 : decide (y ≤ k) = false := by simp; omega
      have t6 : decide (s.size < y) = false := by simp; omega
      have hne := Later.some w'
      go_wp2_with fail
      refine wp_region_later (by kernel_rfl) (by kernel_rfl) ?_
      repeat (go_big_quiet_step ((go_at_call 9; exact Later.made (put_any _ _ (by omega) (by omega)))))
      refine wpQuiet_nil ?_
      intro w1 hw1
      obtain ⟨⟨w2, hb2⟩, rfl⟩ := hw1
      clear hne
      go_wp2_with fail
      refine (getInt_any _ _ _ (by omega)).mono ?_
      rintro e w3 ⟨m, z, b', rfl, hi, rfl⟩
      have hne := Later.some w3
      rcases getI_cases _ _ _ _ _ hi.out with ⟨-, -, -, d0⟩ | ⟨rfl, d1, d2, d3, d4, d5, d6, d7⟩
      · rw [H7.out] at d0
        simp at d0
      · clear hi
        rw [H7.out] at d7
        obtain rfl : (y : Int) = z := d7
        have t8 : ((s.extract k y).toList == Vi.putI m) = true := by
          rw [cut_way, beq_iff_eq, ← d6, Int.toNat_natCast, Int.toNat_natCast]
        clear d6 d1 t7
        go_wp2_with fail
        refine wp_region_later (by kernel_rfl) (by kernel_rfl) ?_
        repeat (go_big_quiet_step ((go_at_call 11; exact Later.made (putInt_any _ _ (by omega) (by omega)))))
        refine wpQuiet_nil ?_
        intro w1 hw1
        obtain ⟨⟨w4, hb4⟩, rfl⟩ := hw1
        clear hne
        replace hb4 := bnext hb2 hb4
        clear hb2
        go_wp2_with fail
        refine (does_any _).mono ?_
        rintro e w9 ⟨rfl, hb9⟩
        go_wp2
        go_ret
        exact ⟨rfl, bnext hb4 hb9⟩

set_option maxRecDepth 100000 in
theorem intsWay_lifted (os : Os) (started : os.Started) (H : Type) (enc : TypeId × Value → H) :
    ReturnsInHanded {} Try.checked os 6 .any (Rows.intsWaySpec.pre6 enc Try.prog Try.f6 Rows.intsWayRow.domain false) (Rows.intsWaySpec.post enc Try.prog Try.f6 false true false false) := by
  refine returnsInHanded_of_change (C := Try.checked) Try.own started (by kernel_rfl) Try.func6
    (ChangeSpec.witness6 (enc := enc) (C := Try.checked) false ⟨#[], #[.string ByteArray.empty, .int .i64 0], []⟩ 8 (by kernel_rfl) (by kernel_rfl) (by kernel_rfl) (by kernel_rfl)) ?_
  intro W base args ds gs before hval0 hW hcnd _
  have hval : ∀ (j : Nat) t v, Try.f6.params[j]? = some t → args[j]? = some v → Value.okWide Try.prog W .any base t v := hval0
  have hW' := hW
  obtain ⟨p, q, hA0, hV, rfl, hfz, hnd⟩ := hW
  have hA : DataW.TrodAll enc Try.prog W 0 (fun _ => true) true Try.f6.params.toList args.toList ds p := hA0
  rw [Try.params6] at hA hval
  obtain ⟨v0, vs0, d0, ds0, p0, q0, hargs, rfl, rfl, h0, r0⟩ := trodAll_cons hA
  obtain ⟨v1, vs1, d1, ds1, p1, q1, rfl, rfl, rfl, h1, r1⟩ := trodAll_cons r0
  obtain ⟨rfl, rfl, rfl⟩ := trodAll_nil r1
  obtain rfl : args = #[v0, v1] := by cases args; simp_all
  obtain ⟨rfl, rfl⟩ := trodVars_none hV
  obtain ⟨a0, rfl, rfl, rfl, w0⟩ := open_string Try.underlying9 (hval 0 9 v0 rfl rfl) h0
  obtain ⟨a1, rfl, rfl, rfl, w1⟩ := open_int Try.underlying3 (hval 1 3 v1 rfl rfl) h1
  clear hA0 hval0
  simp only [List.append_nil] at hW'
  refine (intsWay_walk a0 a1 w0 w1 W).mono fun e W' ⟨he, bel⟩ => ?_
  subst he
  exact ⟨_, rfl, _, _, _, [], [], [], hW', trodAll_mk1 (shut_bool Try.underlying4 _), (trodAll_cons_mk (shut_string Try.underlying9 w0) (trodAll_cons_mk (shut_int Try.underlying3 w1) trodAll_mk0)), rfl, bel.frame _, fun h => by cases h⟩

theorem intsWay_holds : Rows.IntsWaySaid :=
  OpenClaim.holds_of_wide 6 Try.f6 rfl rfl rfl rfl rfl rfl rfl ⟨rfl, rfl, rfl, rfl, rfl⟩ rfl rfl rfl rfl rfl (by kernel_rfl) Try.func6 (by kernel_rfl)
    (of_decide_eq_true (by kernel_rfl)) (by unfold Func.isWrapper; first | (rw [if_pos (by decide +kernel)]; kernel_rfl) | (rw [if_neg (by decide +kernel)]; exact ⟨rfl, rfl⟩))
    (fun os started H enc _ => intsWay_lifted os started H enc)

end Go.Proofs.Ytdeknpinjlepcaa
