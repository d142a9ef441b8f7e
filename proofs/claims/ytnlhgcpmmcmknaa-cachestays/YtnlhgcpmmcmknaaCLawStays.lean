/- CacheStays: a page with pins stays there, and has its data, whatever else is done, as long as it is not unpinned, put or dropped. For every number of pages, 1 to 9, at most 40 acts ahead, 60 behind, and data of at most 122 bytes. -/
import Derived.Test.YtnlhgcpmmcmknaaCKeep
import Derived.ChangeMaps5
namespace Go.Proofs.Ytnlhgcpmmcmknaa
open Go.ChangeShapes Go.WideShapes Go.ChangeAt Go.RowKit Go.Maps Go.ChangeMaps

abbrev kn : ByteArray := ⟨#[107, 101, 112, 116]⟩

set_option maxRecDepth 100000 in
set_option maxHeartbeats 8000000 in
theorem cacheStays_walk (r0 : Int) (v0 v1 : Value) (l0 l1 : List Cd) (t : ByteArray) (w : World) (hr0 : (Lit.int .u8 r0).wf = true) (h0 : CActs w v0 l0) (hl0 : l0.length ≤ 9223372036854775807) (h1 : CActs w v1 l1) (hl1 : l1.length ≤ 9223372036854775807) (ht : t.size ≤ maxLen) :
    Calls Try.prog 6 #[.int .u8 r0, .agg #[v0, v1], .string t] w fun e w' => e = .returned (.bool true) ∧ Below w.heap.size w w' := by
  obtain ⟨R, rfl, hR⟩ := wf_u8 hr0
  obtain ⟨wa, hwa⟩ : ∃ wa, w.alloc (.cells #[v0, v1] 65) = wa := ⟨_, rfl⟩
  have HBA : Hid (Below w.heap.size w wa) := by rw [← hwa]; exact (Below.refl _ w).alloc (Nat.le_refl _) _
  have hbox : wa.heap[w.heap.size]? = some (.cells #[v0, v1] 65 (0, 0)) := by rw [← hwa]; exact heap_alloc_new w _
  have A0 : wa.cell? ⟨w.heap.size, 0, none⟩ = some v0 := by simp [World.cell?, hbox]
  have A1 : wa.cell? ⟨w.heap.size, 1, none⟩ = some v1 := by simp [World.cell?, hbox]
  have HA0 : Hid (∀ W, Below wa.heap.size wa W → W.cell? ⟨w.heap.size, 0, none⟩ = some v0) := fun W hb => cell_after hb A0
  have HA1 : Hid (∀ W, Below wa.heap.size wa W → W.cell? ⟨w.heap.size, 1, none⟩ = some v1) := fun W hb => cell_after hb A1
  replace h0 := h0.later HBA.out
  replace h1 := h1.later HBA.out
  clear hbox
  have HG0 : Hid (Calls _ _ _ _ _) := greatCd_any v0 l0 40 wa h0 hl0 (by decide)
  have HG1 : Hid (Calls _ _ _ _ _) := greatCd_any v1 l1 60 wa h1 hl1 (by decide)
  have HD : Hid (∀ W, Calls _ _ _ _ _) := fun W => cdoes_any W
  unfold maxLen at ht
  clear hr0
  cases hf0 : fewCd l0 40 with
  | false =>
    rw [hf0] at HG0
    obtain ⟨a0, cap0, rfl, _, _⟩ := h0
    obtain ⟨a1, cap1, rfl, _, _⟩ := h1
    clear hf0 hl0 hl1 HG1
    generalize l0.length = m0 at *
    generalize l1.length = m1 at *
    go_enter Try.func6, Try.ntmps6
    go_wp2_with fail
    refine Calls.mono HG0.out ?_
    rintro e w1 ⟨rfl, rfl⟩
    go_wp2_with fail
    refine (HD.out _).mono ?_
    rintro e w2 ⟨rfl, hb2⟩
    have HB2 : Hid (Below _ _ _) := bnext HBA.out hb2
    clear hb2
    go_wp2
    go_ret
    exact ⟨rfl, HB2.out⟩
  | true =>
    rw [hf0] at HG0
    cases hf1 : fewCd l1 60 with
    | false =>
      rw [hf1] at HG1
      obtain ⟨a0, cap0, rfl, _, _⟩ := h0
      obtain ⟨a1, cap1, rfl, _, _⟩ := h1
      clear hf0 hf1 hl0 hl1
      generalize l0.length = m0 at *
      generalize l1.length = m1 at *
      go_enter Try.func6, Try.ntmps6
      go_wp2_with fail
      refine Calls.mono HG0.out ?_
      rintro e w1 ⟨rfl, rfl⟩
      go_wp2_with fail
      refine Calls.mono HG1.out ?_
      rintro e w1 ⟨rfl, rfl⟩
      go_wp2_with fail
      refine (HD.out _).mono ?_
      rintro e w2 ⟨rfl, hb2⟩
      have HB2 : Hid (Below _ _ _) := bnext HBA.out hb2
      clear hb2
      go_wp2
      go_ret
      exact ⟨rfl, HB2.out⟩
    | true =>
      rw [hf1] at HG1
      by_cases ht2 : 122 < t.size
      · obtain ⟨a0, cap0, rfl, _, _⟩ := h0
        obtain ⟨a1, cap1, rfl, _, _⟩ := h1
        clear hf0 hf1 hl0 hl1
        generalize l0.length = m0 at *
        generalize l1.length = m1 at *
        go_enter Try.func6, Try.ntmps6
        go_wp2_with fail
        refine Calls.mono HG0.out ?_
        rintro e w1 ⟨rfl, rfl⟩
        go_wp2_with fail
        refine Calls.mono HG1.out ?_
        rintro e w1 ⟨rfl, rfl⟩
        go_wp2_with fail
        refine (HD.out _).mono ?_
        rintro e w2 ⟨rfl, hb2⟩
        have HB2 : Hid (Below _ _ _) := bnext HBA.out hb2
        clear hb2
        go_wp2
        go_ret
        exact ⟨rfl, HB2.out⟩
      · obtain ⟨hlen0, heach0⟩ := few_cd hf0
        obtain ⟨hlen1, heach1⟩ := few_cd hf1
        have HMD : Hid (Calls _ _ _ _ _) := made_any R hR wa
        have HDN0 : Hid (∀ k, k < l0.length → CdOk (l0.getD k Cd.none) ∧ (l0.getD k Cd.none).name.size ≤ 40 ∧ (l0.getD k Cd.none).data.size ≤ 400) := fun k hk => ⟨h0.ok hk, heach0 _ (getD_cd hk)⟩
        have HDN1 : Hid (∀ k, k < l1.length → CdOk (l1.getD k Cd.none) ∧ (l1.getD k Cd.none).name.size ≤ 40 ∧ (l1.getD k Cd.none).data.size ≤ 400) := fun k hk => ⟨h1.ok hk, heach1 _ (getD_cd hk)⟩
        obtain ⟨a0, cap0, rfl, hcap0, hv0⟩ := h0
        obtain ⟨a1, cap1, rfl, hcap1, hv1⟩ := h1
        have HCV0 : Hid (∀ k, k < l0.length → ∃ b off, a0 = some ⟨b, off, none⟩ ∧ ∀ W, Below wa.heap.size wa W → CdAt W b (off + k * 5) (l0.getD k Cd.none)) := by
          intro k hk
          rcases hv0 with hv | ⟨b, off, rfl, hv⟩
          · rw [hv] at hk; simp at hk
          · exact ⟨b, off, rfl, fun W hb => (hv k hk).1.later hb⟩
        have HCV1 : Hid (∀ k, k < l1.length → ∃ b off, a1 = some ⟨b, off, none⟩ ∧ ∀ W, Below wa.heap.size wa W → CdAt W b (off + k * 5) (l1.getD k Cd.none)) := by
          intro k hk
          rcases hv1 with hv | ⟨b, off, rfl, hv⟩
          · rw [hv] at hk; simp at hk
          · exact ⟨b, off, rfl, fun W hb => (hv k hk).1.later hb⟩
        clear hv0 hv1 heach0 heach1 hf0 hf1 hl0 hl1
        obtain ⟨D0, HD0⟩ : ∃ DD : Nat → Cd, Hid (∀ k, l0.getD k Cd.none = DD k) := ⟨_, fun _ => rfl⟩
        obtain ⟨D1, HD1⟩ : ∃ DD : Nat → Cd, Hid (∀ k, l1.getD k Cd.none = DD k) := ⟨_, fun _ => rfl⟩
        simp only [HD0.out] at HDN0 HCV0
        simp only [HD1.out] at HDN1 HCV1
        clear HD0 HD1
        generalize l0.length = m0 at *
        generalize l1.length = m1 at *
        unfold at_ at HMD
        go_enter Try.func6, Try.ntmps6
        go_wp2_with fail
        refine Calls.mono HG0.out ?_
        rintro e w1 ⟨rfl, rfl⟩
        go_wp2_with fail
        refine Calls.mono HG1.out ?_
        rintro e w1 ⟨rfl, rfl⟩
        go_wp2_with fail
        refine Calls.mono HMD.out ?_
        rintro e w2 ⟨c, p, o, rfl, h2⟩
        have F1 : Hid (CIn w1 w2 c p o ⟨1 + R % 9, ⟨60, -1, []⟩, []⟩ 0) := h2
        clear h2 HMD HG0 HG1 A0 A1
        go_wp2
        go_loopw [8] (fun x wr => ∃ (k : Nat) (o : Nat → Prop) (st : Ca.St) (u : Nat), k ≤ m0 ∧ x = .int .i64 k ∧ u ≤ k ∧ Hid (CIn w1 wr c p o st u)) (fun x _ => m0 - (intOf x).toNat)
        case atStart => exact ⟨0, o, _, 0, Nat.zero_le _, rfl, Nat.le_refl _, F1⟩
        case round =>
          clear F1
          obtain ⟨k, o1, st, u, hk, rfl, hu, F⟩ := hrel
          have B0 := HA0.out wr F.out.below
          by_cases hlt : k < m0
          · obtain ⟨b, off, rfl, hat⟩ := HCV0.out k hlt
            obtain ⟨hok, hsm⟩ := HDN0.out k hlt
            have hd := hat wr F.out.below
            have c0 := hd.c0
            have c1 := hd.c1
            have c2 := hd.c2
            have c3 := hd.c3
            have c4 := hd.c4
            have HDO : Hid (Calls _ _ _ _ _) := F.out.done (D0 k) hok hsm (by omega)
            clear hd hat hok hsm
            unfold at_ Cd.cells at HDO
            generalize (actC st (D0 k)).1 = sa at *
            generalize (actC st (D0 k)).2.1 = ae at *
            generalize (actC st (D0 k)).2.2 = st2 at *
            generalize D0 k = d at *
            generalize (d.x.toNat : Int) = X at *
            go_wp2_with fail
            refine Calls.mono HDO.out ?_
            rintro e w5 ⟨o5, u5, hu5, rfl, h5⟩
            have F5 : Hid (CIn w1 w5 c p o5 st2 u5) := h5
            clear h5 HDO F c0 c1 c2 c3 c4 B0
            go_wp2
            go_roundw
            case rel => exact ⟨k + 1, o5, st2, u5, by omega, by go_num, by omega, F5⟩
            case measure => simp [intOf]; omega
          · have HF3 : Hid (Calls _ _ _ _ _) := F.out.fsCall
            have HFA : Hid (Calls Try.prog 26 #[at_ p, .int .i64 1099511627776] wr fun e w' => ∃ o', e = .returned (.int .i64 0) ∧ CIn w1 w' c p o' { st with fs := { st.fs with ahead := 1099511627776 } } u) := F.out.fail 1099511627776 (by decide) rfl
            clear HCV0 HDN0
            unfold at_ at HF3 HFA
            go_wp2_with fail
            refine Calls.mono HF3.out ?_
            rintro e w3 ⟨rfl, rfl⟩
            go_wp2_with fail
            refine Calls.mono HFA.out ?_
            rintro e w4 ⟨o4, rfl, h4⟩
            have F4 : Hid (CIn w1 w4 c p o4 { st with fs := { st.fs with ahead := 1099511627776 } } u) := h4
            clear h4 HFA HF3 F
            obtain ⟨st4, hst4⟩ : ∃ s : Ca.St, { st with fs := { st.fs with ahead := 1099511627776 } } = s := ⟨_, rfl⟩
            rw [hst4] at F4
            clear hst4
            have HKN : Hid (KeyOk kn 0) := ⟨by decide, by decide, by decide⟩
            have HPU : Hid (Calls _ _ _ _ _) := F4.out.put kn 0 t (by omega) HKN.out (by decide) (by omega) rfl
            have HER : Hid ((Ca.put st4 kn 0 t).1 = 0 ∨ (Ca.put st4 kn 0 t).1 = 70 ∨ (Ca.put st4 kn 0 t).1 = 61) := put_err (by decide) (by omega)
            have HTH : Hid ((Ca.put st4 kn 0 t).1 = 0 → ∃ f, Ca.look (Ca.put st4 kn 0 t).2.l kn 0 = some f ∧ f.d = t ∧ f.n = kn ∧ f.i = 0) := put_then
            unfold at_ at HPU
            generalize (Ca.put st4 kn 0 t).1 = pe at *
            generalize (Ca.put st4 kn 0 t).2 = st5 at *
            rcases HER.out with rfl | rfl | rfl
            case inr.inl | inr.inr =>
              go_wp2_with fail
              refine Calls.mono HPU.out ?_
              rintro e w5 ⟨o5, u5, hu5, rfl, h5⟩
              have F5 : Hid (CIn w1 w5 c p o5 st5 u5) := h5
              clear h5 HPU F4
              go_wp2_with fail
              refine (HD.out _).mono ?_
              rintro e w6 ⟨rfl, hb6⟩
              have HB6 : Hid (Below _ _ _) := bnext (bnext HBA.out F5.out.below) hb6
              clear hb6
              go_wp2
              go_ret
              exact ⟨rfl, HB6.out⟩
            case inl =>
              go_wp2_with fail
              refine Calls.mono HPU.out ?_
              rintro e w5 ⟨o5, u5, hu5, rfl, h5⟩
              have F5 : Hid (CIn w1 w5 c p o5 st5 u5) := h5
              clear h5 HPU F4 HER
              obtain ⟨f, hfl, hfd, hfn, hfi⟩ := HTH.out (by first | rfl | trivial)
              obtain ⟨q1, q2, q3⟩ := pin_there hfl hfd
              have HPI : Hid (Calls _ _ _ _ _) := F5.out.pin kn 0 (by omega) HKN.out (by decide) rfl
              have HST : Hid (Ca.Stays kn 0 t (Ca.pin st5 kn 0).2.2) := q3
              rw [q1, q2] at HPI
              clear q1 q2 q3 hfl hfd hfn hfi f HTH
              unfold at_ at HPI
              generalize (Ca.pin st5 kn 0).2.2 = st6 at *
              go_wp2_with fail
              refine Calls.mono HPI.out ?_
              rintro e w6 ⟨o6, u6, hu6, rfl, h6⟩
              have F6 : Hid (CIn w1 w6 c p o6 st6 u6) := h6
              clear h6 HPI F5
              go_wp2
              go_loopw [11] (fun x wr => ∃ (k : Nat) (o : Nat → Prop) (st : Ca.St) (u : Nat), k ≤ m1 ∧ x = .int .i64 k ∧ u ≤ 50 + k ∧ Hid (Ca.Stays kn 0 t st) ∧ Hid (CIn w1 wr c p o st u)) (fun x _ => m1 - (intOf x).toNat)
              case atStart => exact ⟨0, o6, st6, u6, Nat.zero_le _, rfl, by omega, HST, F6⟩
              case round =>
                clear F6 HST
                obtain ⟨j, o7, st7, u7, hj, rfl, hu7, HST, F⟩ := hrel
                have B1 := HA1.out wr F.out.below
                by_cases hlt2 : j < m1
                · obtain ⟨b, off, rfl, hat⟩ := HCV1.out j hlt2
                  obtain ⟨hok, hsm⟩ := HDN1.out j hlt2
                  have hd := hat wr F.out.below
                  have c0 := hd.c0
                  have c1 := hd.c1
                  have c2 := hd.c2
                  have c3 := hd.c3
                  have c4 := hd.c4
                  have FB : Hid (CIn w1 (wr.alloc (.cells (D1 j).cells 42)) c p o7 st7 u7) := F.out.later (boxC wr (D1 j))
                  have HDO : Hid (Calls _ _ _ _ _) := FB.out.done (D1 j) hok hsm (by omega)
                  have HSA : Hid (¬ ((D1 j).name = kn ∧ ((D1 j).kind % 10 = 3 ∨ (D1 j).kind % 10 = 4 ∨ (D1 j).kind % 10 = 5)) → Ca.Stays kn 0 t (actC st7 (D1 j)).2.2) := fun h => stays_act HST.out (D1 j) h
                  have hkd := hok.kind
                  have hnl := hsm.1
                  clear hd hat hok hsm F
                  unfold at_ at HDO
                  unfold Cd.cells at FB HDO
                  generalize (actC st7 (D1 j)).1 = sa at *
                  generalize (actC st7 (D1 j)).2.1 = ae at *
                  generalize (actC st7 (D1 j)).2.2 = st8 at *
                  generalize D1 j = d at *
                  generalize (d.x.toNat : Int) = X at *
                  obtain ⟨r, hr, hr10, hrn⟩ : ∃ r : Nat, (d.kind : Int) % 10 = r ∧ r < 10 ∧ d.kind % 10 = r := ⟨d.kind % 10, by omega, by omega, rfl⟩
                  rw [hrn] at HSA
                  clear hrn
                  obtain ⟨nm, hnm⟩ : ∃ nm, d.name = nm := ⟨_, rfl⟩
                  rw [hnm] at HSA HDO FB c1 hnl
                  clear hnm
                  have HCASE : nm ≠ kn ∨ (nm = kn ∧ (r = 3 ∨ r = 4 ∨ r = 5)) ∨ (nm = kn ∧ r ≠ 3 ∧ r ≠ 4 ∧ r ≠ 5) := by
                    by_cases e : nm = kn
                    · by_cases e2 : r = 3 ∨ r = 4 ∨ r = 5
                      · exact .inr (.inl ⟨e, e2⟩)
                      · exact .inr (.inr ⟨e, by omega⟩)
                    · exact .inl e
                  rcases HCASE with hne | ⟨rfl, h345⟩ | ⟨rfl, h3, h4, h5⟩
                  case inr.inl =>
                    clear HDO HSA
                    rcases h345 with rfl | rfl | rfl
                    all_goals
                      go_wp2
                      go_roundw
                      case rel => exact ⟨j + 1, o7, st7, u7, by omega, by go_num, by omega, HST, FB⟩
                      case measure => simp [intOf]; omega
                  case inl =>
                    have HS8 : Hid (Ca.Stays kn 0 t st8) := HSA.out fun h => hne h.1
                    have hbq : ¬ nm.toList = [107, 101, 112, 116] := fun h => by
                      have h1 := text_ne hne
                      rw [h] at h1
                      first | exact absurd h1 (by decide) | simp at h1
                    clear HSA HST hne
                    go_wp2_with fail
                    refine Calls.mono HDO.out ?_
                    rintro e w9 ⟨o9, u9, hu9, rfl, h9⟩
                    have F9 : Hid (CIn w1 w9 c p o9 st8 u9) := h9
                    clear h9 HDO FB c0 c1 c2 c3 c4
                    have HHA : Hid (Calls _ _ _ _ _) := F9.out.has kn 0 HKN.out
                    rw [(Ca.stays_has HS8.out).1] at HHA
                    unfold at_ at HHA
                    go_wp2_with fail
                    refine Calls.mono HHA.out ?_
                    rintro e w10 ⟨rfl, hb10⟩
                    have F10 : Hid (CIn w1 w10 c p o9 st8 u9) := F9.out.later hb10
                    clear hb10 HHA F9
                    have HPN : Hid (Calls _ _ _ _ _) := F10.out.pinned
                    have hpn1 : 1 ≤ Ca.pinned st8.l := (Ca.stays_has HS8.out).2
                    have hpn2 : Ca.pinned st8.l ≤ 64 := by have := Ca.pinned_le st8.l; have := F10.out.most; omega
                    unfold at_ at HPN
                    generalize Ca.pinned st8.l = pn at *
                    go_wp2_with fail
                    refine Calls.mono HPN.out ?_
                    rintro e w11 ⟨rfl, hb11⟩
                    have F11 : Hid (CIn w1 w11 c p o9 st8 u9) := F10.out.later hb11
                    clear hb11 HPN F10
                    go_wp2
                    go_roundw
                    case rel => exact ⟨j + 1, o9, st8, u9, by omega, by go_num, by omega, HS8, F11⟩
                    case measure => simp [intOf]; omega
                  case inr.inr =>
                    have HS8 : Hid (Ca.Stays kn 0 t st8) := HSA.out fun h => by omega
                    have g3 : ((r : Int) == 3) = false := by simp; omega
                    have g4 : ((r : Int) == 4) = false := by simp; omega
                    have g5 : ((r : Int) == 5) = false := by simp; omega
                    clear HSA HST
                    go_wp2_with fail
                    refine Calls.mono HDO.out ?_
                    rintro e w9 ⟨o9, u9, hu9, rfl, h9⟩
                    have F9 : Hid (CIn w1 w9 c p o9 st8 u9) := h9
                    clear h9 HDO FB c0 c1 c2 c3 c4
                    have HHA : Hid (Calls _ _ _ _ _) := F9.out.has kn 0 HKN.out
                    rw [(Ca.stays_has HS8.out).1] at HHA
                    unfold at_ at HHA
                    go_wp2_with fail
                    refine Calls.mono HHA.out ?_
                    rintro e w10 ⟨rfl, hb10⟩
                    have F10 : Hid (CIn w1 w10 c p o9 st8 u9) := F9.out.later hb10
                    clear hb10 HHA F9
                    have HPN : Hid (Calls _ _ _ _ _) := F10.out.pinned
                    have hpn1 : 1 ≤ Ca.pinned st8.l := (Ca.stays_has HS8.out).2
                    have hpn2 : Ca.pinned st8.l ≤ 64 := by have := Ca.pinned_le st8.l; have := F10.out.most; omega
                    unfold at_ at HPN
                    generalize Ca.pinned st8.l = pn at *
                    go_wp2_with fail
                    refine Calls.mono HPN.out ?_
                    rintro e w11 ⟨rfl, hb11⟩
                    have F11 : Hid (CIn w1 w11 c p o9 st8 u9) := F10.out.later hb11
                    clear hb11 HPN F10
                    go_wp2
                    go_roundw
                    case rel => exact ⟨j + 1, o9, st8, u9, by omega, by go_num, by omega, HS8, F11⟩
                    case measure => simp [intOf]; omega
                · obtain ⟨q1, q2⟩ := Ca.stays_get HST.out kn 0
                  obtain ⟨q3, q4⟩ := q2 rfl rfl
                  have HGE : Hid (Calls _ _ _ _ _) := F.out.get kn 0 (by omega) HKN.out (by decide) rfl
                  rw [q3, q4] at HGE
                  clear q1 q2 q3 q4
                  unfold at_ at HGE
                  go_wp2_with fail
                  refine Calls.mono HGE.out ?_
                  rintro e w8 ⟨o8, u8, hu8, rfl, h8⟩
                  have F8 : Hid (CIn _ _ _ _ _ _ _) := h8
                  clear h8 HGE F
                  go_wp2_with fail
                  refine (HD.out _).mono ?_
                  rintro e w9 ⟨rfl, hb9⟩
                  have HB9 : Hid (Below _ _ _) := bnext (bnext HBA.out F8.out.below) hb9
                  clear hb9
                  go_wp2
                  go_ret
                  exact ⟨rfl, HB9.out⟩

set_option maxRecDepth 100000 in
theorem cacheStays_lifted (os : Os) (started : os.Started) (H : Type) (enc : TypeId × Value → H) :
    ReturnsInHanded {} Try.checked os 6 .any (Rows.cacheStaysSpec.pre6 enc Try.prog Try.f6 Rows.cacheStaysRow.domain false) (Rows.cacheStaysSpec.post enc Try.prog Try.f6 false true false false) := by
  refine returnsInHanded_of_change (C := Try.checked) Try.own started (by kernel_rfl) Try.func6
    (ChangeSpec.witness6 (enc := enc) (C := Try.checked) false ⟨#[], #[.int .u8 0, .agg #[.slice none 0 0, .slice none 0 0], .string ByteArray.empty], []⟩ 8 (by kernel_rfl) (by kernel_rfl) (by kernel_rfl) (by kernel_rfl)) ?_
  intro W base args ds gs before hval0 hW hcnd _
  have hval : ∀ (j : Nat) t v, Try.f6.params[j]? = some t → args[j]? = some v → Value.okWide Try.prog W .any base t v := hval0
  have hW' := hW
  obtain ⟨p, q, hA0, hV, rfl, hfz, hnd⟩ := hW
  have hA : DataW.TrodAll enc Try.prog W 0 (fun _ => true) true Try.f6.params.toList args.toList ds p := hA0
  rw [Try.params6] at hA hval
  obtain ⟨v0, vs0, d0, ds0, p0, q0, hargs, rfl, rfl, h0, r0⟩ := trodAll_cons hA
  obtain ⟨v1, vs1, d1, ds1, p1, q1, rfl, rfl, rfl, h1, r1⟩ := trodAll_cons r0
  obtain ⟨v2, vs2, d2, ds2, p2, q2, rfl, rfl, rfl, h2, r2⟩ := trodAll_cons r1
  obtain ⟨rfl, rfl, rfl⟩ := trodAll_nil r2
  obtain rfl : args = #[v0, v1, v2] := by cases args; simp_all
  obtain ⟨rfl, rfl⟩ := trodVars_none hV
  obtain ⟨a0, rfl, rfl, rfl, w0⟩ := open_int Try.underlying5 (hval 0 5 v0 rfl rfl) h0
  have lt1 : ∀ x ∈ p1, x.block < W.heap.size := by obtain ⟨m, hm⟩ := h1; exact DataW.trod_lt m _ _ _ hm
  obtain ⟨u1, x1, l1, y1, rfl, k1, n1, kk1, nn1⟩ := open_two_cacts (hval 1 65 v1 rfl rfl) h1
  obtain ⟨a2, rfl, rfl, rfl, w2⟩ := open_string Try.underlying9 (hval 2 9 v2 rfl rfl) h2
  clear hA0 hval0
  refine (cacheStays_walk a0 u1 x1 l1 y1 a2 W w0 k1 n1 kk1 nn1 w2).mono fun e W' ⟨he, bel⟩ => ?_
  subst he
  exact ⟨_, rfl, _, _, _, [], _, [], hW', trodAll_mk1 (shut_bool Try.underlying4 _), (trodAll_cons_mk (shut_int Try.underlying5 w0) (trodAll_cons_mk (Below.trod Try.laidOut (by kernel_rfl) (of_decide_eq_true (by kernel_rfl)) h1 bel lt1) (trodAll_cons_mk (shut_string Try.underlying9 w2) trodAll_mk0))), rfl, bel.frame _, fun h => by cases h⟩

theorem cacheStays_holds : Rows.CacheStaysSaid :=
  OpenClaim.holds_of_wide 6 Try.f6 rfl rfl rfl rfl rfl rfl rfl ⟨rfl, rfl, rfl, rfl, rfl⟩ rfl rfl rfl rfl rfl (by kernel_rfl) Try.func6 (by kernel_rfl)
    (of_decide_eq_true (by kernel_rfl)) (by unfold Func.isWrapper; first | (rw [if_pos (by decide +kernel)]; kernel_rfl) | (rw [if_neg (by decide +kernel)]; exact ⟨rfl, rfl⟩))
    (fun os started H enc _ => cacheStays_lifted os started H enc)

end Go.Proofs.Ytnlhgcpmmcmknaa
