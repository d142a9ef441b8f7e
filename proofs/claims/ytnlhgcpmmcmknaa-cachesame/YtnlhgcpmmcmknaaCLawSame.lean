/- CacheSame: what is got is what its file's page has, as long as files are changed by Put alone, reads failing or not. For every number of pages, 1 to 9, and at most 100 acts. -/
import Derived.Test.YtnlhgcpmmcmknaaCKeep
namespace Go.Proofs.Ytnlhgcpmmcmknaa
open Go.ChangeShapes Go.WideShapes Go.ChangeAt Go.RowKit Go.Maps

theorem gotSame_read {st : Ca.St} {n d : ByteArray} {i : Int} (h : GotSame st n i d) : Fi.read { st.fs with ahead := 1099511627776 } n i = (Fi.page st.fs n i, 0, { st.fs with ahead := 1099511627775 }) :=
  read_next (st := { st.fs with ahead := 1099511627776 }) h.1 (show (0 : Int) < 1099511627776 by decide)
theorem page_size {s d : ByteArray} (h : Ca.dec s = (d, 0)) : s.size ≤ 9223372036854775807 := by
  have h2 : (Pg.dec s.data.toList).2 = 0 := congrArg Prod.snd h
  by_cases hk : Pg.Ok s.data.toList
  · have := hk.1
    have e : s.data.toList.length = s.size := by simp
    omega
  · rw [Pg.dec_no hk] at h2
    exact absurd h2 (by decide)

set_option maxRecDepth 100000 in
set_option maxHeartbeats 8000000 in
theorem cacheSame_walk (r0 : Int) (v : Value) (l : List Cd) (w : World) (hr0 : (Lit.int .u8 r0).wf = true) (h : CActs w v l) (hl : l.length ≤ 9223372036854775807) :
    Calls Try.prog 5 #[.int .u8 r0, v] w fun e w' => e = .returned (.bool true) ∧ Below w.heap.size w w' := by
  obtain ⟨R, rfl, hR⟩ := wf_u8 hr0
  have HG : Hid (Calls _ _ _ _ _) := greatCd_any v l 100 w h hl (by decide)
  clear hr0
  cases hf : fewCd l 100 with
  | false =>
    rw [hf] at HG
    obtain ⟨a, cap, rfl, _, _⟩ := h
    clear hf hl
    generalize l.length = m at *
    go_enter Try.func5, Try.ntmps5
    go_wp2_with fail
    refine Calls.mono HG.out ?_
    rintro e w1 ⟨rfl, rfl⟩
    go_wp2
    go_ret
    exact ⟨rfl, Below.refl _ _⟩
  | true =>
    rw [hf] at HG
    obtain ⟨hlen, heach⟩ := few_cd hf
    have HMD : Hid (Calls _ _ _ _ _) := made_any R hR w
    obtain ⟨q, hq, hq9, hqn⟩ : ∃ q : Nat, (R : Int) % 9 = q ∧ q < 9 ∧ R % 9 = q := ⟨R % 9, by omega, by omega, rfl⟩
    rw [hqn] at HMD
    clear hqn
    have HDN : Hid (∀ k, k < l.length → CdOk (l.getD k Cd.none) ∧ (l.getD k Cd.none).name.size ≤ 40 ∧ (l.getD k Cd.none).data.size ≤ 400) := fun k hk => ⟨h.ok hk, heach _ (getD_cd hk)⟩
    have HD : Hid (∀ W, Calls _ _ _ _ _) := fun W => cdoes_any W
    obtain ⟨a, cap, rfl, hcap, hv⟩ := h
    have HCV : Hid (∀ k, k < l.length → ∃ b off, a = some ⟨b, off, none⟩ ∧ ∀ W, Below w.heap.size w W → CdAt W b (off + k * 5) (l.getD k Cd.none)) := by
      intro k hk
      rcases hv with hv | ⟨b, off, rfl, hv⟩
      · rw [hv] at hk; simp at hk
      · exact ⟨b, off, rfl, fun W hb => (hv k hk).1.later hb⟩
    clear hv heach hf hl
    obtain ⟨DD, HDD⟩ : ∃ DD : Nat → Cd, Hid (∀ k, l.getD k Cd.none = DD k) := ⟨_, fun _ => rfl⟩
    simp only [HDD.out] at HDN HCV
    clear HDD
    generalize l.length = m at *
    unfold at_ at HMD
    go_enter Try.func5, Try.ntmps5
    go_wp2_with fail
    refine Calls.mono HG.out ?_
    rintro e w1 ⟨rfl, rfl⟩
    go_wp2_with fail
    refine Calls.mono HMD.out ?_
    rintro e w2 ⟨c, p, o, rfl, h2⟩
    have F1 : Hid (CIn w1 w2 c p o ⟨1 + q, ⟨60, -1, []⟩, []⟩ 0) := h2
    clear h2 HMD HG
    go_wp2
    go_loopw [6] (fun x wr => ∃ (k : Nat) (o : Nat → Prop) (st : Ca.St) (u : Nat), k ≤ m ∧ x = .int .i64 k ∧ u ≤ k ∧ Hid (Same st) ∧ Hid (CIn w1 wr c p o st u)) (fun x _ => m - (intOf x).toNat)
    case atStart => exact ⟨0, o, ⟨1 + q, ⟨60, -1, []⟩, []⟩, 0, Nat.zero_le _, rfl, Nat.le_refl _, (fun f hf => by cases hf), F1⟩
    case round =>
      clear F1
      obtain ⟨k, o1, st, u, hk, rfl, hu, HSM, F⟩ := hrel
      by_cases hlt : k < m
      · obtain ⟨b, off, rfl, hat⟩ := HCV.out k hlt
        obtain ⟨hok, hsm⟩ := HDN.out k hlt
        have HKY : Hid (KeyOk (DD k).name (DD k).i) := ⟨by unfold maxLen; omega, hok.i1, hok.i2⟩
        have hd := hat wr F.out.below
        have c0 := hd.c0
        have c1 := hd.c1
        have c2 := hd.c2
        have c3 := hd.c3
        have c4 := hd.c4
        have HAT : Hid (∀ W, Below w1.heap.size w1 W → CdAt W b (off + k * 5) (DD k)) := hat
        have HOK : Hid (CdOk (DD k) ∧ (DD k).name.size ≤ 40 ∧ (DD k).data.size ≤ 400) := ⟨hok, hsm⟩
        clear hd hat hok hsm
        generalize DD k = d at *
        have HDO : Hid (Calls _ _ _ _ _) := F.out.done d HOK.out.1 HOK.out.2 (by omega)
        have HSA : Hid (d.kind % 10 ≠ 6 → d.kind % 10 ≤ 7 → Same (actC st d).2.2 ∧ (d.kind % 10 ≤ 2 → (actC st d).2.1 = 0 → GotSame (actC st d).2.2 d.name d.i (actC st d).1)) := fun h1 h2 => same_act HSM.out d h1 h2
        have hkd := HOK.out.1.kind
        unfold at_ Cd.cells at HDO
        generalize (actC st d).1 = sa at *
        generalize (actC st d).2.1 = ae at *
        generalize (actC st d).2.2 = st2 at *
        generalize (d.x.toNat : Int) = X at *
        obtain ⟨r, hr, hr10, hrn⟩ : ∃ r : Nat, (d.kind : Int) % 10 = r ∧ r < 10 ∧ d.kind % 10 = r := ⟨d.kind % 10, by omega, by omega, rfl⟩
        rw [hrn] at HSA
        clear hrn
        have HCASE : r = 6 ∨ 7 < r ∨ (2 < r ∧ r ≠ 6 ∧ r ≤ 7) ∨ (r ≤ 2 ∧ ae ≠ 0) ∨ (r ≤ 2 ∧ ae = 0) := by omega
        rcases HCASE with rfl | h7 | ⟨h2, h6, h7⟩ | ⟨h2, hae⟩ | ⟨h2, rfl⟩
        case inl | inr.inl =>
          clear HDO HSA
          go_wp2
          go_roundw
          case rel => exact ⟨k + 1, o1, st, u, by omega, by go_num, by omega, HSM, F⟩
          case measure => simp [intOf]; omega
        case inr.inr.inl =>
          have h6b : ((r : Int) == 6) = false := by simp; omega
          have HS2 : Hid (Same st2) := (HSA.out (by omega) (by omega)).1
          clear HSA HSM
          go_wp2_with fail
          refine Calls.mono HDO.out ?_
          rintro e w5 ⟨o5, u5, hu5, rfl, h5⟩
          have F5 : Hid (CIn w1 w5 c p o5 st2 u5) := h5
          clear h5 HDO F c0 c1 c2 c3 c4
          go_wp2
          go_roundw
          case rel => exact ⟨k + 1, o5, st2, u5, by omega, by go_num, by omega, HS2, F5⟩
          case measure => simp [intOf]; omega
        case inr.inr.inr.inl =>
          have hab : (ae != 0) = true := by simpa using hae
          have h6b : ((r : Int) == 6) = false := by simp; omega
          have HS2 : Hid (Same st2) := (HSA.out (by omega) (by omega)).1
          clear HSA HSM
          go_wp2_with fail
          refine Calls.mono HDO.out ?_
          rintro e w5 ⟨o5, u5, hu5, rfl, h5⟩
          have F5 : Hid (CIn w1 w5 c p o5 st2 u5) := h5
          clear h5 HDO F c0 c1 c2 c3 c4
          go_wp2
          go_roundw
          case rel => exact ⟨k + 1, o5, st2, u5, by omega, by go_num, by omega, HS2, F5⟩
          case measure => simp [intOf]; omega
        case inr.inr.inr.inr =>
          have h6b : ((r : Int) == 6) = false := by simp; omega
          have HS2 : Hid (Same st2) := (HSA.out (by omega) (by omega)).1
          have HGS : Hid (GotSame st2 d.name d.i sa) := (HSA.out (by omega) (by omega)).2 h2 rfl
          clear HSA HSM
          go_wp2_with fail
          refine Calls.mono HDO.out ?_
          rintro e w5 ⟨o5, u5, hu5, rfl, h5⟩
          have F5 : Hid (CIn w1 w5 c p o5 st2 u5) := h5
          clear h5 HDO F c0 c1 c2 c3 c4
          have HF5 : Hid (Calls _ _ _ _ _) := F5.out.fsCall
          have HFA : Hid (Calls Try.prog 26 #[at_ p, .int .i64 1099511627776] w5 fun e w' => ∃ o', e = .returned (.int .i64 0) ∧ CIn w1 w' c p o' { st2 with fs := { st2.fs with ahead := 1099511627776 } } u5) := F5.out.fail 1099511627776 (by decide) rfl
          unfold at_ at HF5 HFA
          go_wp2_with fail
          refine Calls.mono HF5.out ?_
          rintro e w6 ⟨rfl, rfl⟩
          clear HF5
          go_wp2_with fail
          refine Calls.mono HFA.out ?_
          rintro e w7 ⟨o7, rfl, h7⟩
          have F7 : Hid (CIn w1 w7 c p o7 { st2 with fs := { st2.fs with ahead := 1099511627776 } } u5) := h7
          clear h7 HFA F5
          have F8 : Hid (CIn w1 w7.drew c p o7 { st2 with fs := { st2.fs with ahead := 1099511627776 } } u5) := F7.out.later (Below.refl _ _).drew
          have HF8 : Hid (Calls _ _ _ _ _) := F8.out.fsCall
          have HRD : Hid (Calls Try.prog 27 #[at_ p, .string d.name, .int .i64 d.i] w7.drew fun e w' => ∃ o', e = .returned (.tuple #[.string (Fi.page st2.fs d.name d.i), .int .i64 0]) ∧ CIn w1 w' c p o' { st2 with fs := { st2.fs with ahead := 1099511627775 } } u5) := F8.out.fread d.name d.i (by have := HOK.out.2.1; unfold maxLen; omega) (gotSame_read HGS.out)
          have c1 := (HAT.out w7 F7.out.below).c1
          have c2 := (HAT.out w7 F7.out.below).c2
          have d1 := (HAT.out w7.drew F8.out.below).c1
          have d2 := (HAT.out w7.drew F8.out.below).c2
          have HDC : Hid (∀ W, Calls Try.prog 28 #[.string (Fi.page st2.fs d.name d.i)] W fun e w' => e = .returned (.tuple #[.string sa, .int .i64 0]) ∧ Below W.heap.size W w') := fun W => by
            have := decode_any (Fi.page st2.fs d.name d.i) W (page_size HGS.out.2.1)
            have e := HGS.out.2.1
            unfold Ca.dec at e
            rw [Prod.mk.injEq] at e
            rw [e.1, e.2] at this
            exact this
          have HS3 : Hid (Same { st2 with fs := { st2.fs with ahead := 1099511627775 } }) := same_of HS2.out rfl fun f hf => ⟨f, hf, rfl, rfl, rfl⟩
          have HH3 : Hid (Ca.has st2.l d.name d.i = true) := HGS.out.2.2
          have HKY : Hid (KeyOk d.name d.i) := ⟨by have := HOK.out.2.1; unfold maxLen; omega, HOK.out.1.i1, HOK.out.1.i2⟩
          clear F7 F8 HGS HS2
          generalize Fi.page st2.fs d.name d.i = pg at *
          unfold at_ at HF8 HRD
          go_wp2_with fail
          go_region_law
            (first
            | (go_simp; go_at_call 24; refine Calls.mono HF8.out ?_; rintro e w8 ⟨rfl, rfl⟩)
            | (go_simp; go_at_call 27; refine Calls.mono HRD.out ?_; rintro e w9 ⟨o9, rfl, h9⟩; have F9 : Hid (CIn _ _ _ _ _ _ _) := h9; clear h9)
            | fail)
          all_goals
            clear c1 c2 d1 d2 HRD HF8
            go_wp2_with fail
            refine (HDC.out _).mono ?_
            rintro e w10 ⟨rfl, hb10⟩
            have F10 : Hid (CIn _ _ _ _ _ _ _) := F9.out.later hb10
            clear hb10 F9
            have HHA : Hid (∀ x : Later w10, Calls Try.prog 19 #[.pointer (some ⟨c, 0, none⟩), .string d.name, .int .i64 d.i] x.world fun e w' => e = .returned (.bool true) ∧ Below x.world.heap.size x.world w') := fun x => by
              have := (F10.out.later x.below).has d.name d.i HKY.out
              rw [HH3.out] at this
              exact this
            have c1 := Later.cell (HAT.out w10 F10.out.below).c1
            have c2 := Later.cell (HAT.out w10 F10.out.below).c2
            have hne := Later.some w10
            go_wp2_with fail
            refine wp_region_later (by kernel_rfl) (by kernel_rfl) ?_
            repeat (go_big_quiet_step ((go_at_call 19; exact Later.made (HHA.out _))))
            refine wpQuiet_nil ?_
            intro w11 hw11
            obtain ⟨⟨w11, hb11⟩, rfl⟩ := hw11
            have F11 : Hid (CIn _ _ _ _ _ _ _) := F10.out.later hb11
            clear hb11 HHA F10 c1 c2 hne
            go_wp2
            go_roundw
            case rel => exact ⟨k + 1, o9, _, u5, by omega, by go_num, by omega, HS3, F11⟩
            case measure => simp [intOf]; omega
      · obtain rfl : k = m := by omega
        go_wp2_with fail
        refine (HD.out _).mono ?_
        rintro e w6 ⟨rfl, hb6⟩
        have HB6 : Hid (Below _ _ _) := bnext F.out.below hb6
        clear hb6
        go_wp2
        go_ret
        exact ⟨rfl, HB6.out⟩

set_option maxRecDepth 100000 in
theorem cacheSame_lifted (os : Os) (started : os.Started) (H : Type) (enc : TypeId × Value → H) :
    ReturnsInHanded {} Try.checked os 5 .any (Rows.cacheSameSpec.pre6 enc Try.prog Try.f5 Rows.cacheSameRow.domain false) (Rows.cacheSameSpec.post enc Try.prog Try.f5 false true false false) := by
  refine returnsInHanded_of_change (C := Try.checked) Try.own started (by kernel_rfl) Try.func5
    (ChangeSpec.witness6 (enc := enc) (C := Try.checked) false ⟨#[], #[.int .u8 0, .slice none 0 0], []⟩ 8 (by kernel_rfl) (by kernel_rfl) (by kernel_rfl) (by kernel_rfl)) ?_
  intro W base args ds gs before hval0 hW hcnd _
  have hval : ∀ (j : Nat) t v, Try.f5.params[j]? = some t → args[j]? = some v → Value.okWide Try.prog W .any base t v := hval0
  have hW' := hW
  obtain ⟨p, q, hA0, hV, rfl, hfz, hnd⟩ := hW
  have hA : DataW.TrodAll enc Try.prog W 0 (fun _ => true) true Try.f5.params.toList args.toList ds p := hA0
  rw [Try.params5] at hA hval
  obtain ⟨v0, vs0, d0, ds0, p0, q0, hargs, rfl, rfl, h0, r0⟩ := trodAll_cons hA
  obtain ⟨v1, vs1, d1, ds1, p1, q1, rfl, rfl, rfl, h1, r1⟩ := trodAll_cons r0
  obtain ⟨rfl, rfl, rfl⟩ := trodAll_nil r1
  obtain rfl : args = #[v0, v1] := by cases args; simp_all
  obtain ⟨rfl, rfl⟩ := trodVars_none hV
  obtain ⟨a0, rfl, rfl, rfl, w0⟩ := open_int Try.underlying5 (hval 0 5 v0 rfl rfl) h0
  have lt1 : ∀ x ∈ p1, x.block < W.heap.size := by obtain ⟨m, hm⟩ := h1; exact DataW.trod_lt m _ _ _ hm
  obtain ⟨l1, k1, n1⟩ := open_cacts (hval 1 22 v1 rfl rfl) h1
  clear hA0 hval0
  refine (cacheSame_walk a0 v1 l1 W w0 k1 n1).mono fun e W' ⟨he, bel⟩ => ?_
  subst he
  exact ⟨_, rfl, _, _, _, [], _, [], hW', trodAll_mk1 (shut_bool Try.underlying4 _), (trodAll_cons_mk (shut_int Try.underlying5 w0) (trodAll_cons_mk (Below.trod Try.laidOut (by kernel_rfl) (of_decide_eq_true (by kernel_rfl)) h1 bel lt1) trodAll_mk0)), rfl, bel.frame _, fun h => by cases h⟩

theorem cacheSame_holds : Rows.CacheSameSaid :=
  OpenClaim.holds_of_wide 5 Try.f5 rfl rfl rfl rfl rfl rfl rfl ⟨rfl, rfl, rfl, rfl, rfl⟩ rfl rfl rfl rfl rfl (by kernel_rfl) Try.func5 (by kernel_rfl)
    (of_decide_eq_true (by kernel_rfl)) (by unfold Func.isWrapper; first | (rw [if_pos (by decide +kernel)]; kernel_rfl) | (rw [if_neg (by decide +kernel)]; exact ⟨rfl, rfl⟩))
    (fun os started H enc _ => cacheSame_lifted os started H enc)

end Go.Proofs.Ytnlhgcpmmcmknaa
