/- CachePlay: whatever is done with a cache, and with its file system, each answer, which pages are there, and how many of them have pins, is the document's. For every number of pages, room for 1 to 80 pages in the file system, and at most 120 acts. -/
import Derived.Test.YtnlhgcpmmcmknaaCBoth
namespace Go.Proofs.Ytnlhgcpmmcmknaa
open Go.ChangeShapes Go.WideShapes Go.ChangeAt Go.RowKit Go.Maps

theorem pboth_start {w w2 w3 w4 : World} {c p M Q : Nat} {o o2 : Nat → Prop} (hb2 : Below w.heap.size w w2) (ho : ∀ i, o i → w.heap.size ≤ i ∧ i < w2.heap.size) (h3 : Ref w3 (fun b => b = w2.heap.size) w2.heap.size ⟨1 + Q, -1, []⟩) (hb3 : Below w2.heap.size w2 w3)
    (h4 : CSys w4 c p o2 ⟨M, ⟨1 + Q, -1, []⟩, []⟩ 0) (ho2 : ∀ i, o2 i → o i ∨ w3.heap.size ≤ i) (hb4 : Below w3.heap.size w3 w4) :
    PBoth w (w4.alloc (.cells #[at_ w2.heap.size, .int .i64 M, .slice none 0 0] 38)) c p o2 ⟨M, ⟨1 + Q, -1, []⟩, []⟩ 0 w4.heap.size w2.heap.size (.slice none 0 0) := by
  have hr := h3.lt
  have s3 := hb3.size
  have s4 := hb4.size
  have s2 := hb2.size
  have hA : Below w4.heap.size w4 (w4.alloc (.cells #[at_ w2.heap.size, .int .i64 M, .slice none 0 0] 38)) := (Below.refl _ w4).alloc (Nat.le_refl _) _
  have hno : ¬ o2 w2.heap.size := fun e => by
    rcases ho2 _ e with e | e
    · have := (ho _ e).2; omega
    · omega
  refine ⟨⟨h4.later hA, bnext (bnext (bnext hb2 hb3) hb4) hA, fun i hi => ?_⟩, ⟨heap_alloc_new w4 _, World.ownsRow_nil _ _ _ _, fun e => ?_, (fun g hg => by cases hg), ?_⟩, ?_⟩
  · rcases ho2 i hi with e | e
    · exact (ho i e).1
    · omega
  · have := h4.lt _ e; omega
  · refine Ref.mono ((h3.later hb4).later hA) fun b _ hk => ?_
    subst hk
    exact ⟨hno, by omega, by simp [Value.ownBlock]⟩
  · rintro i (e | e | e)
    · omega
    · omega
    · cases e

theorem CIn.keysOf {w W : World} {c p u : Nat} {o : Nat → Prop} {st : Ca.St} (h : CIn w W c p o st u) : ∀ f ∈ st.l, KeyOk f.n f.i := by
  obtain ⟨mb, of, K, h1, h2, _⟩ := h.sys
  intro f hf
  rw [← h2] at hf
  obtain ⟨x, hx, rfl⟩ := List.mem_map.1 hf
  exact h1.sits.keys x hx

set_option maxRecDepth 100000 in
set_option maxHeartbeats 8000000 in
theorem cachePlay_walk (r0 r1 : Int) (v : Value) (l : List Cd) (w : World) (_ : (Lit.int .i64 r0).wf = true) (hr1 : (Lit.int .u8 r1).wf = true) (h : CActs w v l) (hl : l.length ≤ 9223372036854775807) :
    Calls Try.prog 3 #[.int .i64 r0, .int .u8 r1, v] w fun e w' => e = .returned (.bool true) ∧ Below w.heap.size w w' := by
  obtain ⟨R, rfl, hR⟩ := wf_u8 hr1
  clear hr1
  have HG : Hid (Calls _ _ _ _ _) := greatCd_any v l 120 w h hl (by decide)
  have HD : Hid (∀ W, Calls _ _ _ _ _) := fun W => cdoes_any W
  cases hf : fewCd l 120 with
  | false =>
    rw [hf] at HG
    obtain ⟨a, cap, rfl, _, _⟩ := h
    clear hf
    generalize l.length = m at *
    go_enter Try.func3, Try.ntmps3
    go_wp2_with fail
    refine Calls.mono HG.out ?_
    rintro e w1 ⟨rfl, rfl⟩
    go_wp2
    go_ret
    exact ⟨rfl, Below.refl _ _⟩
  | true =>
    rw [hf] at HG
    obtain ⟨hlen, heach⟩ := few_cd hf
    have HDN : Hid (∀ k, k < l.length → CdOk (l.getD k Cd.none) ∧ (l.getD k Cd.none).name.size ≤ 40 ∧ (l.getD k Cd.none).data.size ≤ 400) := fun k hk => ⟨h.ok hk, heach _ (getD_cd hk)⟩
    obtain ⟨a, cap, rfl, hcap, hv⟩ := h
    have HCV : Hid (∀ k, k < l.length → ∃ b off, a = some ⟨b, off, none⟩ ∧ ∀ W, Below w.heap.size w W → CdAt W b (off + k * 5) (l.getD k Cd.none)) := by
      intro k hk
      rcases hv with hv | ⟨b, off, rfl, hv⟩
      · rw [hv] at hk; simp at hk
      · exact ⟨b, off, rfl, fun W hb => (hv k hk).1.later hb⟩
    clear hv heach hf hl
    obtain ⟨DD, HDD⟩ : ∃ DD : Nat → Cd, Hid (∀ k, l.getD k Cd.none = DD k) := ⟨_, fun _ => rfl⟩
    simp only [HDD.out] at HDN HCV
    clear HDD
    generalize l.length = m at *
    obtain ⟨Q, hQ, hQ80, hQn⟩ : ∃ Q : Nat, (R : Int) % 80 = Q ∧ Q < 80 ∧ R % 80 = Q := ⟨R % 80, by omega, by omega, rfl⟩
    clear hQn
    have eQ : ((1 + Q : Nat) : Int) = 1 + (Q : Int) := by omega
    have HN : Hid (Calls _ _ _ _ _) := new_yes (1 + Q) w (by omega) (by omega)
    have HRN : Hid (∀ W, Calls _ _ _ _ _) := fun W => rnew_yes (1 + Q) W (by omega) (by omega)
    rw [eQ] at HN HRN
    have HCA : Hid (∀ W p, ¬ (1 ≤ r0 ∧ r0 ≤ 64) → Calls Try.prog 12 #[at_ p, .int .i64 r0] W fun e w' => e = .returned (.tuple #[.pointer none, .int .i64 2]) ∧ w' = W) := fun W p hb => cnew_arg r0 W hb
    clear eQ
    by_cases hM : 1 ≤ r0 ∧ r0 ≤ 64
    · obtain ⟨M, rfl⟩ : ∃ M : Nat, r0 = M := ⟨r0.toNat, by omega⟩
      have hM1 : 1 ≤ M := by omega
      have hM2 : M ≤ 64 := by omega
      have HCN : Hid (∀ W p o, Sys W p o ⟨1 + Q, -1, []⟩ → Calls Try.prog 12 #[at_ p, .int .i64 M] W fun e w' => ∃ c o', e = .returned (.tuple #[at_ c, .int .i64 0]) ∧ CSys w' c p o' ⟨M, ⟨1 + Q, -1, []⟩, []⟩ 0 ∧ (∀ i, o' i → o i ∨ W.heap.size ≤ i) ∧ Below W.heap.size W w') := fun W p o hs => cnew_yes M W hs hM1 hM2
      clear hM HCA
      unfold at_ at HCN
      go_enter Try.func3, Try.ntmps3
      go_wp2_with fail
      refine Calls.mono HG.out ?_
      rintro e w1 ⟨rfl, rfl⟩
      clear HG
      go_wp2_with fail
      refine Calls.mono HN.out ?_
      rintro e w2 ⟨p, o, rfl, hs2, ho2, hb2⟩
      have S2 : Hid (Sys w2 p o ⟨1 + Q, -1, []⟩) := hs2
      have O2 : Hid (∀ i, o i → w1.heap.size ≤ i ∧ i < w2.heap.size) := fun i hi => ⟨ho2 i hi, hs2.lt i hi⟩
      have B2 : Hid (Below w1.heap.size w1 w2) := hb2
      clear hs2 ho2 hb2 HN
      go_wp2_with fail
      refine (HRN.out _).mono ?_
      rintro e w3 ⟨rfl, h3, hb3⟩
      have R3 : Hid (Ref w3 (fun b => b = w2.heap.size) w2.heap.size ⟨1 + Q, -1, []⟩) := h3
      have B3 : Hid (Below w2.heap.size w2 w3) := hb3
      have HC3 : Hid (Calls _ _ _ _ _) := HCN.out w3 p o (S2.out.later hb3)
      clear h3 hb3 HRN HCN S2
      go_wp2_with fail
      refine Calls.mono HC3.out ?_
      rintro e w4 ⟨c, o4, rfl, h4, ho4, hb4⟩
      have PS : Hid (PBoth w1 (w4.alloc (.cells #[at_ w2.heap.size, .int .i64 M, .slice none 0 0] 38)) c p o4 ⟨M, ⟨1 + Q, -1, []⟩, []⟩ 0 w4.heap.size w2.heap.size (.slice none 0 0)) := pboth_start B2.out O2.out R3.out B3.out h4 ho4 hb4
      clear h4 ho4 hb4 HC3 B2 O2 R3 B3
      unfold at_ at PS
      obtain ⟨wX, hwX⟩ : ∃ wX, w4.alloc (.cells #[.pointer (some ⟨w2.heap.size, 0, none⟩), .int .i64 M, .slice none 0 0] 38) = wX := ⟨_, rfl⟩
      rw [hwX] at PS
      go_wp2
      clear hwX
      generalize w4.heap.size = q at *
      generalize w2.heap.size = r at *
      go_loopw [15] (fun x wr => ∃ (k : Nat) (o : Nat → Prop) (st : Ca.St) (u : Nat) (vL : Value), k ≤ m ∧ x = .int .i64 k ∧ u ≤ k ∧ Hid (PBoth w1 wr c p o st u q r vL)) (fun x _ => m - (intOf x).toNat)
      case atStart => exact ⟨0, o4, _, 0, _, Nat.zero_le _, rfl, Nat.le_refl _, PS⟩
      case round =>
        clear PS
        obtain ⟨k, o5, st, u, vL, hk, rfl, hu, PB⟩ := hrel
        by_cases hlt : k < m
        · obtain ⟨b, off, rfl, hat⟩ := HCV.out k hlt
          obtain ⟨hok, hsm⟩ := HDN.out k hlt
          have hd := hat wr PB.out.prog.below
          have c0 := hd.c0
          have c1 := hd.c1
          have c2 := hd.c2
          have c3 := hd.c3
          have c4 := hd.c4
          have HAT : Hid (∀ W, Below w1.heap.size w1 W → CdAt W b (off + k * 5) (DD k)) := hat
          have HOK : Hid (CdOk (DD k) ∧ (DD k).name.size ≤ 40 ∧ (DD k).data.size ≤ 400) := ⟨hok, hsm⟩
          clear hd hat hok hsm
          generalize DD k = d at *
          have HKY : Hid (KeyOk d.name d.i) := ⟨by have := HOK.out.2.1; unfold maxLen; omega, HOK.out.1.i1, HOK.out.1.i2⟩
          have HDO : Hid (Calls _ _ _ _ _) := PB.out.prog.doneT d HOK.out.1 HOK.out.2 (by omega)
          have HSA : Hid (∀ W o', CIn w1 W c p o' (actC st d).2.2 (u + 1) ∨ True → RcOk W (fun b => ¬ o' b) q r vL st → Calls Try.prog 15 #[at_ q, .agg d.cells] W fun e w' => SaidC W w' e (fun b => ¬ o' b) q r vL (actC st d)) := fun W o' _ hr => said_c d hr HOK.out.1 HOK.out.2.1 HOK.out.2.2
          unfold SaidC at HSA
          unfold at_ Cd.cells at HDO HSA
          generalize (actC st d).1 = sa at *
          generalize (actC st d).2.1 = ae at *
          generalize (actC st d).2.2 = st2 at *
          go_wp2_with fail
          refine Calls.mono HDO.out ?_
          rintro e w5 ⟨o6, u6, hu6, rfl, h5, ht5⟩
          have F5 : Hid (CIn w1 w5 c p o6 st2 u6) := h5
          have T5 : Hid (Turn o5 wr o6 w5) := ht5
          have HS5 : Hid (Calls _ _ _ _ _) := HSA.out w5 o6 (.inr trivial) (PB.out.mid h5 ht5 (by omega))
          clear h5 ht5 HDO HSA c0 c1 c2 c3 c4
          have c0 := (HAT.out w5 F5.out.below).c0
          have c1 := (HAT.out w5 F5.out.below).c1
          have c2 := (HAT.out w5 F5.out.below).c2
          have c3 := (HAT.out w5 F5.out.below).c3
          have c4 := (HAT.out w5 F5.out.below).c4
          go_wp2_with fail
          refine Calls.mono HS5.out ?_
          rintro e w6 ⟨rfl, v6, h6, ht6⟩
          have P6 : Hid (PBoth w1 w6 c p o6 st2 u6 q r v6) := PB.out.both F5.out T5.out h6 ht6
          clear h6 ht6 HS5 F5 T5 PB c0 c1 c2 c3 c4
          have HL : Hid (∀ x : Later w6, Calls Try.prog 16 #[at_ c] x.world fun e w' => e = .returned (.int .i64 st2.l.length) ∧ Below x.world.heap.size x.world w') := fun x => ((P6.out.later x.below).prog.len).mono fun e w' hh => ⟨hh.1, by rw [hh.2]; exact Below.refl _ _⟩
          have HP : Hid (∀ x : Later w6, Calls Try.prog 17 #[at_ c] x.world fun e w' => e = .returned (.int .i64 (Ca.pinned st2.l)) ∧ Below x.world.heap.size x.world w') := fun x => (P6.out.later x.below).prog.pinned
          have hl64 : st2.l.length ≤ 64 := by have := P6.out.prog.most; omega
          have HRP : Hid (∀ x : Later w6, Calls Try.prog 18 #[at_ q] x.world fun e w' => e = .returned (.int .i64 (Ca.pinned st2.l)) ∧ Below x.world.heap.size x.world w') := fun x => (rpinned_any _ (P6.out.later x.below).doc (by omega)).mono fun e w' hh => ⟨hh.1, by rw [hh.2]; exact Below.refl _ _⟩
          have HH : Hid (∀ x : Later w6, Calls Try.prog 19 #[at_ c, .string d.name, .int .i64 d.i] x.world fun e w' => e = .returned (.bool (Ca.has st2.l d.name d.i)) ∧ Below x.world.heap.size x.world w') := fun x => (P6.out.later x.below).prog.has d.name d.i HKY.out
          have HRH : Hid (∀ x : Later w6, Calls Try.prog 20 #[at_ q, .string d.name, .int .i64 d.i] x.world fun e w' => e = .returned (.bool (Ca.has st2.l d.name d.i)) ∧ Below x.world.heap.size x.world w') := fun x => (rhas_any d.name d.i _ (P6.out.later x.below).doc (by omega)).mono fun e w' hh => ⟨hh.1, by rw [hh.2]; exact Below.refl _ _⟩
          have HU : Hid (∀ x : Later w6, Calls Try.prog 21 #[at_ p] x.world fun e w' => e = .returned (.int .i64 (Fi.used st2.fs.fs)) ∧ Below x.world.heap.size x.world w') := fun x => (P6.out.later x.below).prog.used
          have HRU : Hid (∀ x : Later w6, Calls Try.prog 22 #[at_ r] x.world fun e w' => e = .returned (.int .i64 (Fi.used st2.fs.fs)) ∧ Below x.world.heap.size x.world w') := fun x => (rused_any _ (P6.out.later x.below).doc.files).mono fun e w' hh => ⟨hh.1, by rw [hh.2]; exact Below.refl _ _⟩
          have cL := Later.cell P6.out.doc.cell2
          obtain ⟨a6, cap6, rfl, _⟩ := P6.out.doc.slice
          have c1 := Later.cell (HAT.out w6 P6.out.prog.below).c1
          have c2 := Later.cell (HAT.out w6 P6.out.prog.below).c2
          have hne := Later.some w6
          unfold at_ at HL HP HRP HH HRH HU HRU
          have hss : (sa.toList == sa.toList) = true := by simp
          generalize Ca.has st2.l d.name d.i = hb at *
          generalize Ca.pinned st2.l = pn at *
          generalize Fi.used st2.fs.fs = us at *
          go_wp2_with fail
          refine wp_region_later (by kernel_rfl) (by kernel_rfl) ?_
          repeat (go_big_quiet_step (first | (go_at_call 16; exact Later.made (HL.out _)) | (go_at_call 17; exact Later.made (HP.out _)) | (go_at_call 18; exact Later.made (HRP.out _)) | (go_at_call 19; exact Later.made (HH.out _)) | (go_at_call 20; exact Later.made (HRH.out _)) | (go_at_call 21; exact Later.made (HU.out _)) | (go_at_call 22; exact Later.made (HRU.out _))))
          refine wpQuiet_nil ?_
          intro w7 hw7
          obtain ⟨⟨w7, hb7⟩, rfl⟩ := hw7
          have P7 : Hid (PBoth w1 w7 c p o6 st2 u6 q r (.slice a6 st2.l.length cap6)) := P6.out.later hb7
          clear hb7 P6 HL HP HRP HH HRH HU HRU cL c1 c2 hne hss
          go_wp2
          go_roundw
          case rel => exact ⟨k + 1, o6, st2, u6, _, by omega, by go_num, by omega, P7⟩
          case measure => simp [intOf]; omega
        · obtain rfl : k = m := by omega
          have cL := PB.out.doc.cell2
          have hl64 : st.l.length ≤ 64 := by have := PB.out.prog.most; omega
          obtain ⟨aL, capL, rfl, _⟩ := PB.out.doc.slice
          have HKY : Hid (∀ f ∈ st.l, KeyOk f.n f.i) := PB.out.prog.keysOf
          have HIS : Hid (∀ j, j < st.l.length → Ca.has st.l (st.l.getD j Ca.Fr.none).n (st.l.getD j Ca.Fr.none).i = true) := fun j hj => by
            unfold Ca.has
            rw [List.any_eq_true]
            exact ⟨_, Ca.getD_mem hj, Ca.is_self _⟩
          go_wp2
          clear cL
          go_loopw [20] (fun x wr => ∃ i : Nat, i ≤ st.l.length ∧ x = .int .i64 i ∧ Hid (PBoth w1 wr c p o5 st u q r (.slice aL st.l.length capL))) (fun x _ => st.l.length - (intOf x).toNat)
          case atStart => exact ⟨0, Nat.zero_le _, rfl, PB⟩
          case round =>
            clear PB
            obtain ⟨j, hj, rfl, PI⟩ := hrel
            have cL := PI.out.doc.cell2
            by_cases hlt2 : j < st.l.length
            · obtain ⟨a', cap', e, hcs⟩ := PI.out.doc.slice
              simp only [Value.slice.injEq] at e
              obtain ⟨rfl, _, rfl⟩ := e
              obtain ⟨g, rfl, _, hfr⟩ := hcs.resolve_left (by intro e; rw [e] at hlt2; simp at hlt2)
              have hf := hfr j hlt2
              have HH : Hid (∀ x : Later wr, Calls Try.prog 19 #[.pointer (some ⟨c, 0, none⟩), .string (st.l.getD j Ca.Fr.none).n, .int .i64 (st.l.getD j Ca.Fr.none).i] x.world fun e w' => e = .returned (.bool true) ∧ Below x.world.heap.size x.world w') := fun x => by
                have := (PI.out.later x.below).prog.has (st.l.getD j Ca.Fr.none).n (st.l.getD j Ca.Fr.none).i (HKY.out _ (Ca.getD_mem hlt2))
                rw [HIS.out j hlt2] at this
                exact this
              generalize st.l.getD j Ca.Fr.none = f at hf HH
              have c0 := Later.cell hf.c0
              have c2 := Later.cell hf.c2
              have cX := Later.cell PI.out.doc.cell2
              have hne := Later.some wr
              clear hcs hfr hf
              go_wp2_with fail
              refine wp_region_later (by kernel_rfl) (by kernel_rfl) ?_
              repeat (go_big_quiet_step ((go_at_call 19; exact Later.made (HH.out _))))
              refine wpQuiet_nil ?_
              intro w7 hw7
              obtain ⟨⟨w7, hb7⟩, rfl⟩ := hw7
              have P7 : Hid (PBoth w1 w7 c p o5 st u q r (.slice (some ⟨g, 0, none⟩) st.l.length capL)) := PI.out.later hb7
              clear hb7 PI HH c0 c2 cX cL hne
              go_wp2
              go_roundw
              case rel => exact ⟨j + 1, by omega, by go_num, P7⟩
              case measure => simp [intOf]; omega
            · obtain rfl : j = st.l.length := by omega
              go_wp2_with fail
              refine (HD.out _).mono ?_
              rintro e w7 ⟨rfl, hb7⟩
              have HB7 : Hid (Below _ _ _) := bnext PI.out.prog.below hb7
              clear hb7
              go_wp2
              go_ret
              exact ⟨rfl, HB7.out⟩
    · have HC3 : Hid (∀ W p, Calls _ _ _ _ _) := fun W p => HCA.out W p hM
      clear HCA HDN HCV
      unfold at_ at HC3
      by_cases hlo : r0 < 1
      · go_enter Try.func3, Try.ntmps3
        go_wp2_with fail
        refine Calls.mono HG.out ?_
        rintro e w1 ⟨rfl, rfl⟩
        clear HG
        go_wp2_with fail
        refine Calls.mono HN.out ?_
        rintro e w2 ⟨p, o, rfl, hs2, ho2, hb2⟩
        have B2 : Hid (Below w1.heap.size w1 w2) := hb2
        clear hs2 ho2 hb2 HN
        go_wp2_with fail
        refine (HRN.out _).mono ?_
        rintro e w3 ⟨rfl, h3, hb3⟩
        have B3 : Hid (Below w1.heap.size w1 w3) := bnext B2.out hb3
        clear h3 hb3 HRN
        go_wp2_with fail
        refine (HC3.out _ _).mono ?_
        rintro e w4 ⟨rfl, rfl⟩
        clear HC3
        go_wp2_with fail
        refine (HD.out _).mono ?_
        rintro e w5 ⟨rfl, hb5⟩
        have B5 : Hid (Below w1.heap.size w1 w5) := bnext B3.out hb5
        clear hb5
        go_wp2
        go_ret
        exact ⟨rfl, B5.out⟩
      · have hhi : 64 < r0 := by omega
        go_enter Try.func3, Try.ntmps3
        go_wp2_with fail
        refine Calls.mono HG.out ?_
        rintro e w1 ⟨rfl, rfl⟩
        clear HG
        go_wp2_with fail
        refine Calls.mono HN.out ?_
        rintro e w2 ⟨p, o, rfl, hs2, ho2, hb2⟩
        have B2 : Hid (Below w1.heap.size w1 w2) := hb2
        clear hs2 ho2 hb2 HN
        go_wp2_with fail
        refine (HRN.out _).mono ?_
        rintro e w3 ⟨rfl, h3, hb3⟩
        have B3 : Hid (Below w1.heap.size w1 w3) := bnext B2.out hb3
        clear h3 hb3 HRN
        go_wp2_with fail
        refine (HC3.out _ _).mono ?_
        rintro e w4 ⟨rfl, rfl⟩
        clear HC3
        go_wp2_with fail
        refine (HD.out _).mono ?_
        rintro e w5 ⟨rfl, hb5⟩
        have B5 : Hid (Below w1.heap.size w1 w5) := bnext B3.out hb5
        clear hb5
        go_wp2
        go_ret
        exact ⟨rfl, B5.out⟩

set_option maxRecDepth 100000 in
theorem cachePlay_lifted (os : Os) (started : os.Started) (H : Type) (enc : TypeId × Value → H) :
    ReturnsInHanded {} Try.checked os 3 .any (Rows.cachePlaySpec.pre6 enc Try.prog Try.f3 Rows.cachePlayRow.domain false) (Rows.cachePlaySpec.post enc Try.prog Try.f3 false true false false) := by
  refine returnsInHanded_of_change (C := Try.checked) Try.own started (by kernel_rfl) Try.func3
    (ChangeSpec.witness6 (enc := enc) (C := Try.checked) false ⟨#[], #[.int .i64 0, .int .u8 0, .slice none 0 0], []⟩ 8 (by kernel_rfl) (by kernel_rfl) (by kernel_rfl) (by kernel_rfl)) ?_
  intro W base args ds gs before hval0 hW hcnd _
  have hval : ∀ (j : Nat) t v, Try.f3.params[j]? = some t → args[j]? = some v → Value.okWide Try.prog W .any base t v := hval0
  have hW' := hW
  obtain ⟨p, q, hA0, hV, rfl, hfz, hnd⟩ := hW
  have hA : DataW.TrodAll enc Try.prog W 0 (fun _ => true) true Try.f3.params.toList args.toList ds p := hA0
  rw [Try.params3] at hA hval
  obtain ⟨v0, vs0, d0, ds0, p0, q0, hargs, rfl, rfl, h0, r0⟩ := trodAll_cons hA
  obtain ⟨v1, vs1, d1, ds1, p1, q1, rfl, rfl, rfl, h1, r1⟩ := trodAll_cons r0
  obtain ⟨v2, vs2, d2, ds2, p2, q2, rfl, rfl, rfl, h2, r2⟩ := trodAll_cons r1
  obtain ⟨rfl, rfl, rfl⟩ := trodAll_nil r2
  obtain rfl : args = #[v0, v1, v2] := by cases args; simp_all
  obtain ⟨rfl, rfl⟩ := trodVars_none hV
  obtain ⟨a0, rfl, rfl, rfl, w0⟩ := open_int Try.underlying3 (hval 0 3 v0 rfl rfl) h0
  obtain ⟨a1, rfl, rfl, rfl, w1⟩ := open_int Try.underlying5 (hval 1 5 v1 rfl rfl) h1
  have lt2 : ∀ x ∈ p2, x.block < W.heap.size := by obtain ⟨m, hm⟩ := h2; exact DataW.trod_lt m _ _ _ hm
  obtain ⟨l2, k2, n2⟩ := open_cacts (hval 2 22 v2 rfl rfl) h2
  clear hA0 hval0
  refine (cachePlay_walk a0 a1 v2 l2 W w0 w1 k2 n2).mono fun e W' ⟨he, bel⟩ => ?_
  subst he
  exact ⟨_, rfl, _, _, _, [], _, [], hW', trodAll_mk1 (shut_bool Try.underlying4 _), (trodAll_cons_mk (shut_int Try.underlying3 w0) (trodAll_cons_mk (shut_int Try.underlying5 w1) (trodAll_cons_mk (Below.trod Try.laidOut (by kernel_rfl) (of_decide_eq_true (by kernel_rfl)) h2 bel lt2) trodAll_mk0))), rfl, bel.frame _, fun h => by cases h⟩

theorem cachePlay_holds : Rows.CachePlaySaid :=
  OpenClaim.holds_of_wide 3 Try.f3 rfl rfl rfl rfl rfl rfl rfl ⟨rfl, rfl, rfl, rfl, rfl⟩ rfl rfl rfl rfl rfl (by kernel_rfl) Try.func3 (by kernel_rfl)
    (of_decide_eq_true (by kernel_rfl)) (by unfold Func.isWrapper; first | (rw [if_pos (by decide +kernel)]; kernel_rfl) | (rw [if_neg (by decide +kernel)]; exact ⟨rfl, rfl⟩))
    (fun os started H enc _ => cachePlay_lifted os started H enc)

end Go.Proofs.Ytnlhgcpmmcmknaa
