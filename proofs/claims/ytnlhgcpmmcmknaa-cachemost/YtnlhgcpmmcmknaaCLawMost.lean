/- CacheMost: there are never more pages than may be, nor more with pins than there are; where all that may be there have pins nothing else is got, nor put. For every number of pages, 1 to 9, and at most 100 acts. -/
import Derived.Test.YtnlhgcpmmcmknaaCRun
namespace Go.Proofs.Ytnlhgcpmmcmknaa
open Go.ChangeShapes Go.WideShapes Go.ChangeAt Go.RowKit Go.Maps

theorem all_pinned {st : Ca.St} (hl : st.l.length ≤ st.most) (hp : Ca.pinned st.l = st.most) : Ca.stuck st.most st.l = true := by
  have := Ca.pinned_le st.l
  unfold Ca.stuck
  rw [decide_eq_true (by omega), decide_eq_true (by omega)]; rfl
theorem full_get {st : Ca.St} {n : ByteArray} {i : Int} (hs : Ca.stuck st.most st.l = true) (hh : Ca.has st.l n i = false) : (Ca.fetch st n i).e = 70 := by
  have hl : Ca.look st.l n i = none := by
    rw [Ca.has_look] at hh
    cases h : Ca.look st.l n i with
    | none => rfl
    | some f => rw [h] at hh; cases hh
  rw [fetch_full hl hs]
theorem full_act {st : Ca.St} {d : Cd} (hs : Ca.stuck st.most st.l = true) (hh : Ca.has st.l d.name d.i = false) : (d.kind % 10 < 3 → (actC st d).2.1 = 70) ∧ (d.kind % 10 = 4 → (actC st d).2.1 = 70 ∨ (actC st d).2.1 = 3) := by
  have hl : Ca.look st.l d.name d.i = none := by
    rw [Ca.has_look] at hh
    cases h : Ca.look st.l d.name d.i with
    | none => rfl
    | some f => rw [h] at hh; cases hh
  have he := full_get hs hh
  constructor
  · intro hk
    have h3 : d.kind % 10 = 0 ∨ d.kind % 10 = 1 ∨ d.kind % 10 = 2 := by omega
    unfold actC
    rcases h3 with h | h | h
    · simp only [h]; unfold Ca.get; simp [he]
    · simp only [h]; unfold Ca.get; simp [he]
    · simp only [h]; unfold Ca.pin; simp [he]
  · intro hk
    unfold actC
    simp only [hk]
    by_cases h0 : (Ca.enc d.data).2 = 0
    · left
      simp only [show ((4 : Nat) = 2) = False by simp, if_false, show ((4 : Nat) = 3) = False by simp, if_true]
      rw [put_stuck h0 hl hs]
    · right
      simp only [show ((4 : Nat) = 2) = False by simp, if_false, show ((4 : Nat) = 3) = False by simp, if_true]
      rw [put_long h0]
      show (Pg.enc d.data.data.toList).2 = 3
      have h0' : (Pg.enc d.data.data.toList).2 ≠ 0 := h0
      unfold Pg.enc at h0' ⊢
      split at h0'
      · rename_i h; rw [if_pos h]
      · exact absurd rfl h0'

set_option maxRecDepth 100000 in
set_option maxHeartbeats 8000000 in
theorem cacheMost_walk (r0 : Int) (v : Value) (l : List Cd) (w : World) (hr0 : (Lit.int .u8 r0).wf = true) (h : CActs w v l) (hl : l.length ≤ 9223372036854775807) :
    Calls Try.prog 8 #[.int .u8 r0, v] w fun e w' => e = .returned (.bool true) ∧ Below w.heap.size w w' := by
  obtain ⟨R, rfl, hR⟩ := wf_u8 hr0
  have HG : Hid (Calls _ _ _ _ _) := greatCd_any v l 100 w h hl (by decide)
  clear hr0
  cases hf : fewCd l 100 with
  | false =>
    rw [hf] at HG
    obtain ⟨a, cap, rfl, _, _⟩ := h
    clear hf hl
    generalize l.length = m at *
    go_enter Try.func8, Try.ntmps8
    go_wp2_with fail
    refine Calls.mono HG.out ?_
    rintro e w1 ⟨rfl, rfl⟩
    go_wp2
    go_ret
    exact ⟨rfl, Below.refl _ _⟩
  | true =>
    rw [hf] at HG
    obtain ⟨hlen, heach⟩ := few_cd hf
    have HMD : Hid (Calls _ _ _ _ _) := made_any R hR w
    obtain ⟨q, hq, hq9, hqn⟩ : ∃ q : Nat, (R : Int) % 9 = q ∧ q < 9 ∧ R % 9 = q := ⟨R % 9, by omega, by omega, rfl⟩
    rw [hqn] at HMD
    clear hqn
    have HDN : Hid (∀ k, k < l.length → CdOk (l.getD k Cd.none) ∧ (l.getD k Cd.none).name.size ≤ 40 ∧ (l.getD k Cd.none).data.size ≤ 400) := fun k hk => ⟨h.ok hk, heach _ (getD_cd hk)⟩
    have HD : Hid (∀ W, Calls _ _ _ _ _) := fun W => cdoes_any W
    obtain ⟨a, cap, rfl, hcap, hv⟩ := h
    have HCV : Hid (∀ k, k < l.length → ∃ b off, a = some ⟨b, off, none⟩ ∧ ∀ W, Below w.heap.size w W → CdAt W b (off + k * 5) (l.getD k Cd.none)) := by
      intro k hk
      rcases hv with hv | ⟨b, off, rfl, hv⟩
      · rw [hv] at hk; simp at hk
      · exact ⟨b, off, rfl, fun W hb => (hv k hk).1.later hb⟩
    clear hv heach hf hl
    obtain ⟨DD, HDD⟩ : ∃ DD : Nat → Cd, Hid (∀ k, l.getD k Cd.none = DD k) := ⟨_, fun _ => rfl⟩
    simp only [HDD.out] at HDN HCV
    clear HDD
    generalize l.length = m at *
    unfold at_ at HMD
    go_enter Try.func8, Try.ntmps8
    go_wp2_with fail
    refine Calls.mono HG.out ?_
    rintro e w1 ⟨rfl, rfl⟩
    go_wp2_with fail
    refine Calls.mono HMD.out ?_
    rintro e w2 ⟨c, p, o, rfl, h2⟩
    have F1 : Hid (CIn w1 w2 c p o ⟨1 + q, ⟨60, -1, []⟩, []⟩ 0) := h2
    clear h2 HMD HG
    go_wp2
    go_loopw [6] (fun x wr => ∃ (k : Nat) (o : Nat → Prop) (st : Ca.St) (u : Nat), k ≤ m ∧ x = .int .i64 k ∧ u ≤ k ∧ Hid (st.most = 1 + q) ∧ Hid (CIn w1 wr c p o st u)) (fun x _ => m - (intOf x).toNat)
    case atStart => exact ⟨0, o, ⟨1 + q, ⟨60, -1, []⟩, []⟩, 0, Nat.zero_le _, rfl, Nat.le_refl _, (rfl : (⟨1 + q, ⟨60, -1, []⟩, []⟩ : Ca.St).most = 1 + q), F1⟩
    case round =>
      clear F1
      obtain ⟨k, o1, st, u, hk, rfl, hu, HMO, F⟩ := hrel
      by_cases hlt : k < m
      · obtain ⟨b, off, rfl, hat⟩ := HCV.out k hlt
        obtain ⟨hok, hsm⟩ := HDN.out k hlt
        have HKY : Hid (KeyOk (DD k).name (DD k).i) := ⟨by unfold maxLen; omega, hok.i1, hok.i2⟩
        have HHA : Hid (∀ x : Later wr, Calls Try.prog 19 #[at_ c, .string (DD k).name, .int .i64 (DD k).i] x.world fun e w' => e = .returned (.bool (Ca.has st.l (DD k).name (DD k).i)) ∧ Below x.world.heap.size x.world w') := fun x => (F.out.later x.below).has (DD k).name (DD k).i HKY.out
        have hd := hat wr F.out.below
        have c1 := Later.cell hd.c1
        have c2 := Later.cell hd.c2
        have hne := Later.some wr
        have HAT : Hid (∀ W, Below w1.heap.size w1 W → CdAt W b (off + k * 5) (DD k)) := hat
        have HOK : Hid (CdOk (DD k) ∧ (DD k).name.size ≤ 40 ∧ (DD k).data.size ≤ 400) := ⟨hok, hsm⟩
        clear hd hat hok hsm
        generalize DD k = d at *
        unfold at_ at HHA
        go_wp2_with fail
        refine wp_region_later (by kernel_rfl) (by kernel_rfl) ?_
        repeat (go_big_quiet_step ((go_at_call 19; exact Later.made (HHA.out _))))
        refine wpQuiet_nil ?_
        intro w3 hw3
        obtain ⟨⟨w3, hb3⟩, rfl⟩ := hw3
        clear c1 c2 hne
        have F3 : Hid (CIn w1 w3 c p o1 st u) := F.out.later hb3
        have HPI : Hid (Calls _ _ _ _ _) := F3.out.pinned
        clear hb3 HHA F
        unfold at_ at HPI
        go_wp2_with fail
        refine Calls.mono HPI.out ?_
        rintro e w4 ⟨rfl, hb4⟩
        have F4 : Hid (CIn w1 w4 c p o1 st u) := F3.out.later hb4
        have HDO : Hid (Calls _ _ _ _ _) := F4.out.done d HOK.out.1 HOK.out.2 (by omega)
        have hd := HAT.out w4 F4.out.below
        have c0 := hd.c0
        have c1 := hd.c1
        have c2 := hd.c2
        have c3 := hd.c3
        have c4 := hd.c4
        have HFA : Hid (Ca.stuck st.most st.l = true → Ca.has st.l d.name d.i = false → (d.kind % 10 < 3 → (actC st d).2.1 = 70) ∧ (d.kind % 10 = 4 → (actC st d).2.1 = 70 ∨ (actC st d).2.1 = 3)) := fun h1 h2 => full_act h1 h2
        have HAP : Hid (Ca.pinned st.l = 1 + q → Ca.stuck st.most st.l = true) := fun h1 => all_pinned F4.out.most.2.2 (by rw [HMO.out]; exact h1)
        have hkd := HOK.out.1.kind
        have hpl : Ca.pinned st.l ≤ 64 := by have := Ca.pinned_le st.l; have := F4.out.most; omega
        have HMO2 : Hid ((actC st d).2.2.most = 1 + q) := (act_most st d).trans HMO.out
        clear hb4 HPI F3 hd
        unfold at_ Cd.cells at HDO
        generalize Ca.pinned st.l = pn at *
        generalize Ca.has st.l d.name d.i = ha at *
        generalize (actC st d).1 = sa at *
        generalize (actC st d).2.1 = ae at *
        generalize (actC st d).2.2 = st2 at *
        generalize (d.x.toNat : Int) = X at *
        obtain ⟨r, hr, hr10, hrn⟩ : ∃ r : Nat, (d.kind : Int) % 10 = r ∧ r < 10 ∧ d.kind % 10 = r := ⟨d.kind % 10, by omega, by omega, rfl⟩
        rw [hrn] at HFA
        clear hrn
        have HCASE : (pn ≠ 1 + q) ∨ (pn = 1 + q ∧ ha = true) ∨ (pn = 1 + q ∧ ha = false ∧ r < 3 ∧ ae = 70) ∨ (pn = 1 + q ∧ ha = false ∧ r = 4 ∧ ae = 70) ∨ (pn = 1 + q ∧ ha = false ∧ r = 4 ∧ ae = 3) ∨ (pn = 1 + q ∧ ha = false ∧ 3 ≤ r ∧ r ≠ 4) := by
          by_cases hp : pn = 1 + q
          · cases hha : ha with
            | true => exact .inr (.inl ⟨hp, rfl⟩)
            | false =>
              have h1 := HFA.out (HAP.out hp) hha
              by_cases h3 : r < 3
              · exact .inr (.inr (.inl ⟨hp, rfl, h3, h1.1 h3⟩))
              · by_cases h4 : r = 4
                · rcases h1.2 h4 with h | h
                  · exact .inr (.inr (.inr (.inl ⟨hp, rfl, h4, h⟩)))
                  · exact .inr (.inr (.inr (.inr (.inl ⟨hp, rfl, h4, h⟩))))
                · exact .inr (.inr (.inr (.inr (.inr ⟨hp, rfl, by omega, h4⟩))))
          · exact .inl hp
        clear HFA HAP
        rcases HCASE with hpn | ⟨rfl, rfl⟩ | ⟨rfl, rfl, hr3, rfl⟩ | ⟨rfl, rfl, rfl, rfl⟩ | ⟨rfl, rfl, rfl, rfl⟩ | ⟨rfl, rfl, hr3, hr4⟩
        all_goals
          go_wp2_with fail
          refine Calls.mono HDO.out ?_
          rintro e w5 ⟨o5, u5, hu5, rfl, h5⟩
          have F5 : Hid (CIn w1 w5 c p o5 st2 u5) := h5
          have HL5 : Hid (∀ W, Below w5.heap.size w5 W → Calls _ _ _ _ _) := fun W hb => (F5.out.later hb).len
          have HP5 : Hid (Calls _ _ _ _ _) := F5.out.pinned
          have hle5 : st2.l.length ≤ 1 + q := by have := F5.out.most.2.2; rw [HMO2.out] at this; exact this
          have hpl5 : Ca.pinned st2.l ≤ st2.l.length := Ca.pinned_le _
          clear c0 c1 c2 c3 c4 h5 HDO F4
          have c0 := (HAT.out w5 F5.out.below).c0
          unfold at_ at HL5 HP5
          generalize st2.l.length = n2 at *
          generalize Ca.pinned st2.l = p2 at *
          go_wp2_with fail
          refine (HL5.out _ (Below.refl _ _)).mono ?_
          rintro e w6 ⟨rfl, rfl⟩
          go_wp2_with fail
          refine Calls.mono HP5.out ?_
          rintro e w7 ⟨rfl, hb7⟩
          have HB7 : Hid (Below _ _ _) := hb7
          clear hb7 HP5 c0
          go_wp2_with fail
          refine (HL5.out _ HB7.out).mono ?_
          rintro e w8 ⟨rfl, rfl⟩
          have F8 : Hid (CIn w1 w8 c p o5 st2 u5) := F5.out.later HB7.out
          clear HB7 HL5 F5
          go_wp2
          go_roundw
          case rel => exact ⟨k + 1, o5, st2, u5, by omega, by go_num, by omega, HMO2, F8⟩
          case measure => simp [intOf]; omega
      · obtain rfl : k = m := by omega
        go_wp2_with fail
        refine (HD.out _).mono ?_
        rintro e w6 ⟨rfl, hb6⟩
        have HB6 : Hid (Below _ _ _) := bnext F.out.below hb6
        clear hb6
        go_wp2
        go_ret
        exact ⟨rfl, HB6.out⟩

set_option maxRecDepth 100000 in
theorem cacheMost_lifted (os : Os) (started : os.Started) (H : Type) (enc : TypeId × Value → H) :
    ReturnsInHanded {} Try.checked os 8 .any (Rows.cacheMostSpec.pre6 enc Try.prog Try.f8 Rows.cacheMostRow.domain false) (Rows.cacheMostSpec.post enc Try.prog Try.f8 false true false false) := by
  refine returnsInHanded_of_change (C := Try.checked) Try.own started (by kernel_rfl) Try.func8
    (ChangeSpec.witness6 (enc := enc) (C := Try.checked) false ⟨#[], #[.int .u8 0, .slice none 0 0], []⟩ 8 (by kernel_rfl) (by kernel_rfl) (by kernel_rfl) (by kernel_rfl)) ?_
  intro W base args ds gs before hval0 hW hcnd _
  have hval : ∀ (j : Nat) t v, Try.f8.params[j]? = some t → args[j]? = some v → Value.okWide Try.prog W .any base t v := hval0
  have hW' := hW
  obtain ⟨p, q, hA0, hV, rfl, hfz, hnd⟩ := hW
  have hA : DataW.TrodAll enc Try.prog W 0 (fun _ => true) true Try.f8.params.toList args.toList ds p := hA0
  rw [Try.params8] at hA hval
  obtain ⟨v0, vs0, d0, ds0, p0, q0, hargs, rfl, rfl, h0, r0⟩ := trodAll_cons hA
  obtain ⟨v1, vs1, d1, ds1, p1, q1, rfl, rfl, rfl, h1, r1⟩ := trodAll_cons r0
  obtain ⟨rfl, rfl, rfl⟩ := trodAll_nil r1
  obtain rfl : args = #[v0, v1] := by cases args; simp_all
  obtain ⟨rfl, rfl⟩ := trodVars_none hV
  obtain ⟨a0, rfl, rfl, rfl, w0⟩ := open_int Try.underlying5 (hval 0 5 v0 rfl rfl) h0
  have lt1 : ∀ x ∈ p1, x.block < W.heap.size := by obtain ⟨m, hm⟩ := h1; exact DataW.trod_lt m _ _ _ hm
  obtain ⟨l1, k1, n1⟩ := open_cacts (hval 1 22 v1 rfl rfl) h1
  clear hA0 hval0
  refine (cacheMost_walk a0 v1 l1 W w0 k1 n1).mono fun e W' ⟨he, bel⟩ => ?_
  subst he
  exact ⟨_, rfl, _, _, _, [], _, [], hW', trodAll_mk1 (shut_bool Try.underlying4 _), (trodAll_cons_mk (shut_int Try.underlying5 w0) (trodAll_cons_mk (Below.trod Try.laidOut (by kernel_rfl) (of_decide_eq_true (by kernel_rfl)) h1 bel lt1) trodAll_mk0)), rfl, bel.frame _, fun h => by cases h⟩

theorem cacheMost_holds : Rows.CacheMostSaid :=
  OpenClaim.holds_of_wide 8 Try.f8 rfl rfl rfl rfl rfl rfl rfl ⟨rfl, rfl, rfl, rfl, rfl⟩ rfl rfl rfl rfl rfl (by kernel_rfl) Try.func8 (by kernel_rfl)
    (of_decide_eq_true (by kernel_rfl)) (by unfold Func.isWrapper; first | (rw [if_pos (by decide +kernel)]; kernel_rfl) | (rw [if_neg (by decide +kernel)]; exact ⟨rfl, rfl⟩))
    (fun os started H enc _ => cacheMost_lifted os started H enc)

end Go.Proofs.Ytnlhgcpmmcmknaa
