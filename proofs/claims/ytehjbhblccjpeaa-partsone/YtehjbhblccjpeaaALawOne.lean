/- PartsOne: for every list of bytes and every number the call returns true: of any parts each vertex is in just one, by which it is found, and nothing else is in one (P9.3, P9.2). No conditions. -/
import Derived.Test.YtehjbhblccjpeaaAOpen
import Derived.Test.YtehjbhblccjpeaaALay
namespace Go.Proofs.Ytehjbhblccjpeaa
open Go.ChangeShapes Go.WideShapes Go.ChangeAt Go.RowKit Go.Deep

theorem take_succ_b (l : List UInt8) (k : Nat) (h : k < l.length) : l.take (k + 1) = l.take k ++ [l.getD k 0] := by
  rw [List.take_add_one, List.getElem?_eq_getElem h]
  simp [List.getD, h]

set_option maxHeartbeats 2000000 in
set_option maxRecDepth 100000 in
theorem partsOne_walk (v0 : Value) (l0 : List UInt8) (v : Int) (w : World) (h : Bts w v0 l0) (_hl : l0.length ≤ 9223372036854775807) (_hv : (Lit.int .i64 v).wf = true) :
    Calls Try.prog 6 #[v0, .int .i64 v] w fun e w' => e = .returned (.bool true) ∧ Below w.heap.size w w' := by
  obtain ⟨i0, hi0, hz0, hz1, hz2'⟩ := info_parts Try.partInfo
  obtain ⟨a, cap, rfl, _, h⟩ := h
  obtain ⟨S, hS⟩ : ∃ S, l0.take 16 = S := ⟨_, rfl⟩
  have hSl : S.length = min 16 l0.length := by rw [← hS, List.length_take]
  have hS16 : S.length ≤ 16 := by omega
  have hSle : S.length ≤ l0.length := by omega
  have hSor : S.length = l0.length ∨ S.length = 16 := by omega
  have HC : Hid (∀ {j}, j < S.length → ∃ b off, a = some ⟨b, off, none⟩ ∧ w.cell? ⟨b, off + j, none⟩ = some (.int .u8 (S.getD j 0).toNat)) := fun {j} hj => by
    rcases h with rfl | ⟨b, off, rfl, hc⟩
    · simp at hSle; rw [hSle] at hj; simp at hj
    · refine ⟨b, off, rfl, ?_⟩
      have e : S.getD j 0 = l0.getD j 0 := by rw [← hS]; simp [List.getD, show j < 16 by omega]
      rw [e]
      exact hc j (by omega)
  clear h hS hSl
  go_enter Try.func6, Try.ntmps6
  go_wp2
  go_loopw [5, 6, 7] (fun u n i wr => ∃ k : Nat, k ≤ S.length ∧ i = .int .i64 k ∧ n = .int .i64 (Pt.tot (S.take k)) ∧ Hid (wr.ownsRow w.heap.size 33 2 u k (pcells (Pt.lay 0 (S.take k)))) ∧ Hid (Below w.heap.size w wr)) (fun _ _ i _ => S.length - (intOf i).toNat)
  case atStart => exact ⟨0, Nat.zero_le _, rfl, rfl, World.ownsRow_nil _ _ _ _, Below.refl _ _⟩
  case round =>
    obtain ⟨k, hk, rfl, rfl, HO, HB⟩ := hrel
    by_cases hlt : k < S.length
    · obtain ⟨b, off, rfl, hcs⟩ := HC.out hlt
      have c1 := cell_after HB.out hcs
      clear hcs
      have hka : (k : Int) < l0.length := by omega
      have hkb : (k : Int) < 16 := by omega
      have HT : Hid (S.take (k + 1) = S.take k ++ [S.getD k 0]) := take_succ_b S k hlt
      have HB8 : (S.getD k 0).toNat < 256 := UInt8.toNat_lt _
      have htot : Pt.tot (S.take k) ≤ 256 := by
        have := Pt.tot_le (S.take k)
        rw [List.length_take] at this
        omega
      have HZ : Hid (Pt.sz (S.getD k 0) = 1 + (S.getD k 0).toNat % 16) := rfl
      have HL2 : Hid (Pt.lay 0 (S.take (k + 1)) = Pt.lay 0 (S.take k) ++ [((Pt.tot (S.take k) : Int), ((Pt.tot (S.take k) + Pt.sz (S.getD k 0) : Nat) : Int))]) := by
        rw [Hid, HT.out, Pt.lay_app, Nat.zero_add]; rfl
      have HT2 : Hid (Pt.tot (S.take (k + 1)) = Pt.tot (S.take k) + Pt.sz (S.getD k 0)) := by rw [Hid, HT.out, Pt.tot_app]; rfl
      generalize Pt.tot (S.take k) = n at *
      generalize Pt.sz (S.getD k 0) = z at *
      generalize (S.getD k 0).toNat = x at *
      have hx : (x : Int) % 16 = ((x % 16 : Nat) : Int) := by omega
      have hxm : x % 16 < 16 := Nat.mod_lt _ (by omega)
      generalize x % 16 = m at *
      have hz : (1 : Int) + (m : Int) = (z : Int) := by have := HZ.out; omega
      have hz2 : z ≤ 16 := by omega
      have hnz : (n : Int) + (z : Int) = ((n + z : Nat) : Int) := by omega
      have ht : n + z ≤ 272 := by omega
      generalize n + z = t at *
      go_wp2_with (at_builtin; refine wpList_append_own _ rfl _ _ 22 rfl w.heap.size 33 i0 (.agg #[.int .i64 0, .int .i64 0]) 2 16 Try.underlying22 hi0 hz0 hz1 hz2' rfl (by decide) _ _ _ rfl (HO.out.alloc _) ⟨wr.heap.size, 0, none⟩ 1 1 [.int .i64 n, .int .i64 t] rfl rfl (cell_two_new _ _ _ _) (by simp [Value.oneCell']) (by unfold maxLen; omega) (by omega) (by have := HB.out.size; simp; omega) ?_; intro v' w1 hown1 hgrow1 _)
      have HO1 : Hid (w1.ownsRow w.heap.size 33 2 v' (k + 1) (pcells (Pt.lay 0 (S.take (k + 1))))) := by rw [Hid, HL2.out, ← pcells_snoc]; exact hown1
      have HB1 : Hid (Below w.heap.size w w1) := (HB.out.alloc HB.out.size _).grown hgrow1 (by have := HB.out.size; simp; omega) (fun q e => (HO.out.lt q e).1)
      clear hown1 hgrow1
      go_roundw
      case rel => exact ⟨k + 1, by omega, by go_num, by rw [HT2.out], HO1, HB1⟩
      case measure => simp [intOf]; omega
    · obtain rfl : k = S.length := by omega
      have HO1 : Hid (wr.ownsRow w.heap.size 33 2 u5 S.length (pcells (Pt.lay 0 S))) := by
        have h := HO.out
        rwa [List.take_length] at h
      rw [List.take_length]
      clear HO HC
      have hend : ((S.length : Int) < l0.length ∧ ¬ (S.length : Int) < 16) ∨ ¬ (S.length : Int) < l0.length := by omega
      have hLN : Pt.tot S ≤ 256 := by have := Pt.tot_le S; omega
      have HLL : Hid ((Pt.lay 0 S).length = S.length) := Pt.lay_len 0 S
      obtain ⟨wo, rfl⟩ : ∃ wo, wo = wr := ⟨wr, rfl⟩
      have HN1 : Hid (Pt.chk ((Pt.tot S : Int) + 1) (Pt.lay 0 S) = 2) := Pt.lay_chk1 S
      have HCK : Hid (Pt.chk (Pt.tot S) (Pt.lay 0 S) = if 0 < Pt.tot S then 0 else 2) := Pt.lay_chk hS16
      have HOF : Hid (∀ v, _) := Pt.lay_of S
      have HP : Hid (Prt wo u5 (Pt.lay 0 S)) := Prt.of_own HO1.out
      generalize Pt.tot S = n at *
      generalize Pt.lay 0 S = L at *
      obtain ⟨a5, cap5, rfl, hcap5, hL5⟩ := HP.out
      have HL5 : Hid (L = [] ∨ ∃ b off, a5 = some ⟨b, off, none⟩ ∧ ∀ j, j < L.length → wo.cell? ⟨b, off + j * 2, none⟩ = some (.int .i64 (L.getD j p0).1) ∧ wo.cell? ⟨b, off + j * 2 + 1, none⟩ = some (.int .i64 (L.getD j p0).2)) := hL5
      clear HO1 hL5
      have hLs : L.length ≤ 1000000000000 := by have := HLL.out; omega
      have hLs2 : L.length ≤ 16 := by have := HLL.out; omega
      have HWR : Hid (Below w.heap.size w wo) := HB
      have HP0 := HP
      obtain ⟨cc, hcc, HCC⟩ : ∃ cc : Int, (if 0 < n then (0 : Int) else 2) = cc ∧ Hid ((0 < n ∧ cc = 0) ∨ (¬ 0 < n ∧ cc = 2)) := ⟨_, rfl, by rw [Hid]; split <;> omega⟩
      rw [hcc] at HCK
      clear hcc hk hlt HB
      have HOV := HOF.out v
      rcases hend with ⟨hend1, hend2⟩ | hend1
      all_goals
        rcases HCC.out with ⟨hn0, rfl⟩ | ⟨hn0, rfl⟩
        · rcases HOV with ⟨HV, _⟩ | ⟨j, hj, HV, _, hv0, hvn⟩
          all_goals
            clear HCC
            go_wp2_with fail
            refine (chk_any n _ L wo HP.out hLs).mono ?_
            rw [HCK.out]
            rintro e2 w2 ⟨rfl, hb2⟩
            have HP2 := Prt.hid HP hb2
            replace hb2 : Hid (Below wo.heap.size wo w2) := hb2
            go_wp2_with fail
            refine (chk_any ((n : Int) + 1) _ L w2 HP2.out hLs).mono ?_
            rw [HN1.out]
            rintro e3 w3 ⟨rfl, hb3⟩
            have HP3 := Prt.hid HP2 hb3
            replace hb3 : Hid (Below wo.heap.size wo w3) := bnext hb2.out hb3
            go_wp2_with fail
            refine (of_any _ L v w3 HP3.out hLs).mono ?_
            rw [HV]
            rintro e4 w4 ⟨rfl, hb4⟩
            replace hb4 : Hid (Below wo.heap.size wo w4) := bnext hb3.out hb4
            clear HP2 HP3 hb2 hb3 HV
            go_wp2_with fail
            go_loopw [9] (fun i wq => ∃ k : Nat, k ≤ n ∧ i = .int .i64 k ∧ Hid (Below wo.heap.size wo wq)) (fun i _ => n - (intOf i).toNat)
            case atStart => exact ⟨0, Nat.zero_le _, rfl, hb4⟩
            case round =>
              obtain ⟨k, hk, rfl, HB2⟩ := hrel
              by_cases hlt2 : k < n
              · rcases HOF.out (k : Int) with ⟨_, h⟩ | ⟨q, hq, hof, hhas, _, _⟩
                · exact absurd ⟨by omega, by omega⟩ h
                · obtain ⟨b, off, rfl, hc⟩ := HL5.out.resolve_left (by rintro rfl; simp at hq)
                  have hcq := hc q hq
                  clear hc
                  have HX := of_any _ L (k : Int) _ (HP0.out.later HB2.out) hLs
                  rw [hof] at HX
                  replace HX : Hid _ := HX
                  have hh : (L.getD q p0).1 ≤ (k : Int) ∧ (k : Int) < (L.getD q p0).2 := by
                    have h2 : Pt.has (L.getD q p0) k = true := hhas
                    simpa [Pt.has] using h2
                  generalize L.getD q p0 = p at *
                  clear hof hhas
                  go_wp2_with fail
                  refine Calls.mono HX.out ?_
                  rintro e5 w5 ⟨rfl, hb5⟩
                  replace hb5 : Hid (Below wo.heap.size wo w5) := bnext HB2.out hb5
                  have c1 := cell_after hb5.out hcq.1
                  have c2 := cell_after hb5.out hcq.2
                  clear HX hcq
                  go_wp2_with fail
                  go_roundw
                  case rel => exact ⟨k + 1, by omega, by go_num, hb5⟩
                  case measure => simp [intOf]; omega
              · obtain rfl : k = n := by omega
                go_wp2_with fail
                refine (does_any _).mono ?_
                rintro e5 w5 ⟨rfl, hb5⟩
                replace hb5 : Hid (Below w.heap.size w w5) := bnext HWR.out (bnext HB2.out hb5)
                go_wp2
                go_ret
                exact ⟨rfl, hb5.out⟩
        · rcases HOV with ⟨HV, _⟩ | ⟨j, hj, HV, _, hv0, hvn⟩
          rotate_left
          · exact absurd hvn (by omega)
          clear HCC
          go_wp2_with fail
          refine (chk_any n _ L wo HP.out hLs).mono ?_
          rw [HCK.out]
          rintro e2 w2 ⟨rfl, hb2⟩
          have HP2 := Prt.hid HP hb2
          replace hb2 : Hid (Below wo.heap.size wo w2) := hb2
          go_wp2_with fail
          refine (chk_any ((n : Int) + 1) _ L w2 HP2.out hLs).mono ?_
          rw [HN1.out]
          rintro e3 w3 ⟨rfl, hb3⟩
          have HP3 := Prt.hid HP2 hb3
          replace hb3 : Hid (Below wo.heap.size wo w3) := bnext hb2.out hb3
          go_wp2_with fail
          refine (of_any _ L v w3 HP3.out hLs).mono ?_
          rw [HV]
          rintro e4 w4 ⟨rfl, hb4⟩
          replace hb4 : Hid (Below wo.heap.size wo w4) := bnext hb3.out hb4
          clear HP2 HP3 hb2 hb3 HV
          go_wp2_with fail
          go_loopw [9] (fun i wq => ∃ k : Nat, k ≤ n ∧ i = .int .i64 k ∧ Hid (Below wo.heap.size wo wq)) (fun i _ => n - (intOf i).toNat)
          case atStart => exact ⟨0, Nat.zero_le _, rfl, hb4⟩
          case round =>
            obtain ⟨k, hk, rfl, HB2⟩ := hrel
            obtain rfl : k = n := by omega
            go_wp2_with fail
            refine (does_any _).mono ?_
            rintro e5 w5 ⟨rfl, hb5⟩
            replace hb5 : Hid (Below w.heap.size w w5) := bnext HWR.out (bnext HB2.out hb5)
            go_wp2
            go_ret
            exact ⟨rfl, hb5.out⟩

set_option maxRecDepth 100000 in
theorem partsOne_lifted (os : Os) (started : os.Started) (H : Type) (enc : TypeId × Value → H) :
    ReturnsInHanded {} Try.checked os 6 .any (Rows.partsOneSpec.pre6 enc Try.prog Try.f6 Rows.partsOneRow.domain false) (Rows.partsOneSpec.post enc Try.prog Try.f6 false true false false) := by
  refine returnsInHanded_of_change (C := Try.checked) Try.own started (by kernel_rfl) Try.func6
    (ChangeSpec.witness6 (enc := enc) (C := Try.checked) false ⟨#[], #[.slice none 0 0, .int .i64 0], []⟩ 8 (by kernel_rfl) (by kernel_rfl) (by kernel_rfl) (by kernel_rfl)) ?_
  intro W base args ds gs before hval0 hW hcnd _
  have hval : ∀ (j : Nat) t v, Try.f6.params[j]? = some t → args[j]? = some v → Value.okWide Try.prog W .any base t v := hval0
  have hW' := hW
  obtain ⟨p, q, hA0, hV, rfl, hfz, hnd⟩ := hW
  have hA : DataW.TrodAll enc Try.prog W 0 (fun _ => true) true Try.f6.params.toList args.toList ds p := hA0
  rw [Try.params6] at hA hval
  obtain ⟨v0, vs0, d0, ds0, p0, q0, hargs, rfl, rfl, h0, r0⟩ := trodAll_cons hA
  obtain ⟨v1, vs1, d1, ds1, p1, q1, rfl, rfl, rfl, h1, r1⟩ := trodAll_cons r0
  obtain ⟨rfl, rfl, rfl⟩ := trodAll_nil r1
  obtain rfl : args = #[v0, v1] := by cases args; simp_all
  obtain ⟨rfl, rfl⟩ := trodVars_none hV
  have lt0 : ∀ x ∈ p0, x.block < W.heap.size := by obtain ⟨m, hm⟩ := h0; exact DataW.trod_lt m _ _ _ hm
  obtain ⟨l0, k0, n0⟩ := open_bts (hval 0 35 v0 rfl rfl) h0
  obtain ⟨a1, rfl, rfl, rfl, w1⟩ := open_int Try.underlying3 (hval 1 3 v1 rfl rfl) h1
  clear hA0 hval0
  refine (partsOne_walk v0 l0 a1 W k0 n0 w1).mono fun e W' ⟨he, bel⟩ => ?_
  subst he
  exact ⟨_, rfl, _, _, _, [], _, [], hW', trodAll_mk1 (shut_bool Try.underlying4 _), (trodAll_cons_mk (Below.trod Try.laidOut (by kernel_rfl) (of_decide_eq_true (by kernel_rfl)) h0 bel lt0) (trodAll_cons_mk (shut_int Try.underlying3 w1) trodAll_mk0)), rfl, bel.frame _, fun h => by cases h⟩

theorem partsOne_holds : Rows.PartsOneSaid :=
  OpenClaim.holds_of_wide 6 Try.f6 rfl rfl rfl rfl rfl rfl rfl ⟨rfl, rfl, rfl, rfl, rfl⟩ rfl rfl rfl rfl rfl (by kernel_rfl) Try.func6 (by kernel_rfl)
    (of_decide_eq_true (by kernel_rfl)) (by unfold Func.isWrapper; first | (rw [if_pos (by decide +kernel)]; kernel_rfl) | (rw [if_neg (by decide +kernel)]; exact ⟨rfl, rfl⟩))
    (fun os started H enc _ => partsOne_lifted os started H enc)

end Go.Proofs.Ytehjbhblccjpeaa
