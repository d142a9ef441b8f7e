/- The walk of cache's Put. -/
import Derived.Test.YtnlhgcpmmcmknaaCDrop
namespace Go.Proofs.Ytnlhgcpmmcmknaa
open Go.RowKit Go.Maps

section
variable {W W' w : World} {c mb p most u : Nat} {o o' of of' : Nat → Prop} {K K' R : List Ke} {fs fs' : Fi.St} {x : Ke} {st : Ca.St}

theorem put_long {n : ByteArray} {i : Int} {d : ByteArray} (h : (Ca.enc d).2 ≠ 0) : Ca.put st n i d = ((Ca.enc d).2, st) := by unfold Ca.put; rw [if_pos h]
theorem put_stuck {n : ByteArray} {i : Int} {d : ByteArray} (h : (Ca.enc d).2 = 0) (hl : Ca.look st.l n i = none) (hs : Ca.stuck st.most st.l = true) : Ca.put st n i d = (70, st) := by unfold Ca.put; rw [if_neg (by simp [h]), if_pos ⟨hl, hs⟩]
theorem put_new {n : ByteArray} {i : Int} {d : ByteArray} (h : (Ca.enc d).2 = 0) (hl : Ca.look st.l n i = none) (hs : Ca.stuck st.most st.l = false) : Ca.put st n i d =
    if (Fi.putp st.fs n i (Ca.enc d).1).1 = 0 then (0, ⟨st.most, (Fi.putp st.fs n i (Ca.enc d).1).2, Ca.room st.most st.l ++ [⟨n, i, d, 0⟩]⟩) else ((Fi.putp st.fs n i (Ca.enc d).1).1, { st with fs := (Fi.putp st.fs n i (Ca.enc d).1).2 }) := by
  unfold Ca.put
  rw [if_neg (by simp [h]), if_neg (by rw [hs]; simp)]
  simp only [hl]
  by_cases h0 : (Fi.putp st.fs n i (Ca.enc d).1).1 = 0
  · simp [h0]
  · simp [h0]
theorem put_there {n : ByteArray} {i : Int} {d : ByteArray} {f : Ca.Fr} (h : (Ca.enc d).2 = 0) (hl : Ca.look st.l n i = some f) : Ca.put st n i d =
    if (Fi.putp st.fs n i (Ca.enc d).1).1 = 0 then (0, ⟨st.most, (Fi.putp st.fs n i (Ca.enc d).1).2, Ca.gone st.l n i ++ [{ f with d := d }]⟩) else ((Fi.putp st.fs n i (Ca.enc d).1).1, { st with fs := (Fi.putp st.fs n i (Ca.enc d).1).2 }) := by
  unfold Ca.put
  rw [if_neg (by simp [h]), if_neg (by rw [hl]; simp)]
  simp only [hl]
  by_cases h0 : (Fi.putp st.fs n i (Ca.enc d).1).1 = 0
  · simp [h0]
  · simp [h0]

theorem CSys.mk' (h : CIs W c mb p of st.most u K st.fs) (h2 : K.map (·.f) = st.l) : CSys W c p (Un (COwn c mb K) of) st u := ⟨mb, of, K, h, h2, rfl⟩

set_option maxRecDepth 100000 in
set_option maxHeartbeats 1000000 in
theorem cput_any (n : ByteArray) (i : Int) (d : ByteArray) (h : CSys w c p o st u) (hu : u < 9223372036854775800) (hk : KeyOk n i) (hn : n.size ≤ 1000) (hd : d.size ≤ 1000000) :
    Calls Try.prog 29 #[at_ c, .string n, .int .i64 i, .string d] w fun e w' => ∃ o' u', u' ≤ u + 1 ∧ e = .returned (.int .i64 (Ca.put st n i d).1) ∧ CSys w' c p o' (Ca.put st n i d).2 u' ∧ Turn o w o' w' := by
  have HC : Hid (CSys _ _ _ _ _ _) := h
  obtain ⟨mb, of, K, h1, h2, rfl⟩ := h
  have HI : Hid (Calls _ _ _ _ _) := cnone_sits w h1.sits
  have HE : Hid (Calls Try.prog 32 #[.string d] w fun e w' => e = .returned (.tuple #[.string (Ca.enc d).1, .int .i64 (Ca.enc d).2]) ∧ Below w.heap.size w w') := encode_any d w (by omega)
  by_cases hen : (Ca.enc d).2 = 0
  case neg =>
    rw [put_long hen]
    have hb : ((Ca.enc d).2 == 0) = false := by rw [beq_eq_false_iff_ne]; exact hen
    generalize (Ca.enc d).1 = s at *
    generalize (Ca.enc d).2 = ec at *
    clear h1 h2
    unfold at_ at *
    go_enter Try.func29, Try.ntmps29
    go_wp2_with fail
    refine Calls.mono HI.out ?_
    rintro e w1 ⟨rfl, rfl⟩
    go_wp2_with fail
    refine Calls.mono HE.out ?_
    rintro e w2 ⟨rfl, hb2⟩
    have H2 : Hid (Below _ _ _) := hb2
    clear hb2
    go_wp2
    go_ret
    exact ⟨_, u, Nat.le_succ _, rfl, HC.out.later H2.out, Turn.below H2.out⟩
  case pos =>
    rw [hen] at HE
    cases hf : findK K n i with
    | none =>
      have hl : Ca.look st.l n i = none := by rw [← h2, findK_look, hf]; rfl
      have HI1 : Hid (CIs _ _ _ _ _ _ _ _ _) := h1
      have hno := findK_none hf
      have hpt : ptrAt K n i = .pointer none := by unfold ptrAt; rw [hf]
      cases hst : Ca.stuck st.most st.l with
      | true =>
        rw [put_stuck hen hl hst]
        generalize (Ca.enc d).1 = s at *
        clear hen hl h1 hf
        unfold at_ at *
        go_enter Try.func29, Try.ntmps29
        go_wp2_with fail
        refine Calls.mono HI.out ?_
        rintro e w1 ⟨rfl, rfl⟩
        go_wp2_with fail
        refine Calls.mono HE.out ?_
        rintro e w2 ⟨rfl, hb2⟩
        have hba : Below w1.heap.size w1 (w2.alloc (.cells #[.string n, .int .i64 i] 84)) := hb2.alloc hb2.size _
        have hbox := heap_alloc_new w2 (.cells #[.string n, .int .i64 i] 84)
        obtain ⟨wa, ha⟩ : ∃ wa, w2.alloc (.cells #[.string n, .int .i64 i] 84) = wa := ⟨_, rfl⟩
        rw [ha] at hba hbox
        have h3 := HI1.out.later hba
        have hc := h3.sits.cell2
        have b0 : wa.cell? ⟨w2.heap.size, 0, none⟩ = some (.string n) := by simp [World.cell?, hbox]
        have b1 : wa.cell? ⟨w2.heap.size, 1, none⟩ = some (.int .i64 i) := by simp [World.cell?, hbox]
        have hlook := h3.sits.look hk
        have hlook2 := (h3.sits.later (Below.refl _ _).drew).look hk
        rw [hpt] at hlook hlook2
        unfold spot at hlook hlook2
        have HLT : Hid (w2.heap.size < wa.heap.size) := (Array.getElem?_eq_some_iff.1 hbox).1
        have HGE : Hid (w1.heap.size ≤ w2.heap.size) := hb2.size
        have HX : Hid (wa.heap[w2.heap.size]? = _) := hbox
        have H4 : Hid (CIs wa.drew c mb p of st.most u K st.fs) := h3.later (Below.refl _ _).drew
        have HT4 : Hid (Turn (Un (COwn c mb K) of) w1 (Un (COwn c mb K) of) wa.drew) := Turn.below hba.drew
        clear hb2
        go_wp2_with fail
        go_region
        all_goals
          have HST : Hid (Calls _ _ _ _ _) := cstuck_any wa.drew H4.out.sits (by have := H4.out.len; have := H4.out.most2; omega)
          rw [h2, hst] at HST
          have c4 := H4.out.sits.cell0
          unfold at_ at c4 HST
          clear hba hbox h3 hlook hlook2 b0 b1 hc
          go_wp2_with fail
          refine Calls.mono HST.out ?_
          rintro e w3 ⟨rfl, hb3⟩
          have H5 : Hid (_ ∧ _) := And.intro (H4.out.later hb3) (HT4.out.trans (Turn.below hb3))
          clear hb3
          go_wp2
          go_ret
          exact ⟨_, u, Nat.le_succ _, rfl, ⟨mb, of, _, H5.out.1, h2, rfl⟩, H5.out.2⟩
      | false =>
        rw [put_new hen hl hst]
        have HRL : Hid ((roomK st.most K).length + 1 ≤ st.most) := roomK_length h1 (by rw [h2]; exact hst)
        generalize (Ca.enc d).1 = s at *
        generalize hpe : Fi.putp st.fs n i s = pe
        obtain ⟨pe1, fs2⟩ := pe
        clear hen hl h1 hf
        unfold at_ at *
        by_cases h0 : pe1 = 0
        · subst h0
          simp only [if_true]
          go_enter Try.func29, Try.ntmps29
          go_wp2_with fail
          refine Calls.mono HI.out ?_
          rintro e w1 ⟨rfl, rfl⟩
          go_wp2_with fail
          refine Calls.mono HE.out ?_
          rintro e w2 ⟨rfl, hb2⟩
          have hba : Below w1.heap.size w1 (w2.alloc (.cells #[.string n, .int .i64 i] 84)) := hb2.alloc hb2.size _
          have hbox := heap_alloc_new w2 (.cells #[.string n, .int .i64 i] 84)
          obtain ⟨wa, ha⟩ : ∃ wa, w2.alloc (.cells #[.string n, .int .i64 i] 84) = wa := ⟨_, rfl⟩
          rw [ha] at hba hbox
          have h3 := HI1.out.later hba
          have hc := h3.sits.cell2
          have b0 : wa.cell? ⟨w2.heap.size, 0, none⟩ = some (.string n) := by simp [World.cell?, hbox]
          have b1 : wa.cell? ⟨w2.heap.size, 1, none⟩ = some (.int .i64 i) := by simp [World.cell?, hbox]
          have hlook := h3.sits.look hk
          have hlook2 := (h3.sits.later (Below.refl _ _).drew).look hk
          rw [hpt] at hlook hlook2
          unfold spot at hlook hlook2
          have HLT : Hid (w2.heap.size < wa.heap.size) := (Array.getElem?_eq_some_iff.1 hbox).1
          have HGE : Hid (w1.heap.size ≤ w2.heap.size) := hb2.size
          have HX : Hid (wa.heap[w2.heap.size]? = _) := hbox
          have H4 : Hid (CIs wa.drew c mb p of st.most u K st.fs) := h3.later (Below.refl _ _).drew
          have HT4 : Hid (Turn (Un (COwn c mb K) of) w1 (Un (COwn c mb K) of) wa.drew) := Turn.below hba.drew
          clear hb2
          go_wp2_with fail
          go_region
          all_goals
            have HST : Hid (Calls _ _ _ _ _) := cstuck_any wa.drew H4.out.sits (by have := H4.out.len; have := H4.out.most2; omega)
            rw [h2, hst] at HST
            have c4 := H4.out.sits.cell0
            unfold at_ at c4 HST
            clear hba hbox h3 hlook hlook2 b0 b1 hc
            go_wp2_with fail
            refine Calls.mono HST.out ?_
            rintro e w3 ⟨rfl, hb3⟩
            have H5a : Hid (CIs w3 c mb p of st.most u K st.fs) := H4.out.later hb3
            have HT5a : Hid (Turn (Un (COwn c mb K) of) w1 (Un (COwn c mb K) of) w3) := HT4.out.trans (Turn.below hb3)
            have HX3 : Hid (w3.heap[w2.heap.size]? = some (.cells #[.string n, .int .i64 i] 84 (0, 0))) := (hb3.block _ HLT.out).trans HX.out
            have c4 := H5a.out.sits.cell0
            unfold at_ at c4
            have HPU : Hid (Calls _ _ _ _ _) := put_any n i s w3 H5a.out.sys hk.n
            rw [hpe] at HPU
            clear hb3
            go_wp2_with fail
            refine Calls.mono HPU.out ?_
            rintro e w4 ⟨of4, rfl, hs4, ht4⟩
            have H5 : Hid (CIs w4 c mb p of4 st.most u K fs2) := H5a.out.fsTurn hs4 ht4
            have HT5 : Hid (Turn (Un (COwn c mb K) of) w1 (Un (COwn c mb K) of4) w4) := HT5a.out.trans ht4.unRight
            have hbx4 : w4.heap[w2.heap.size]? = some (.cells #[.string n, .int .i64 i] 84 (0, 0)) := (ht4.block _ (Array.getElem?_eq_some_iff.1 HX3.out).1 (fun hh => by have := HI1.out.sys.lt _ hh; have := HGE.out; omega)).trans HX3.out
            have b0 : w4.cell? ⟨w2.heap.size, 0, none⟩ = some (.string n) := by simp [World.cell?, hbx4]
            have b1 : w4.cell? ⟨w2.heap.size, 1, none⟩ = some (.int .i64 i) := by simp [World.cell?, hbx4]
            clear hs4 ht4 hbx4
            have HAD : Hid (Calls _ _ _ _ _) := cadd_any n i w4 H5.out.sits H5.out.rise (by have := H5.out.len; have := H5.out.most2; omega) hk hn hno
            unfold at_ spot at HAD
            go_wp2_with fail
            refine Calls.mono HAD.out ?_
            rintro e w6 ⟨b, rfl, hs6, ht6⟩
            have HS6 : Hid (CSits _ _ _ _ _ _ _) := hs6
            have HT6 : Hid (Turn _ _ _ _) := ht6
            have HCL : Hid (Calls _ _ _ _ _) := clone_any d w6 (by omega)
            clear hs6 ht6
            go_wp2_with fail
            refine Calls.mono HCL.out ?_
            rintro e w5 ⟨rfl, hb5⟩
            have hp6 := HS6.out.later hb5
            have hxm : (⟨⟨n, i, ByteArray.empty, 0⟩, b, 0⟩ : Ke) ∈ roomK st.most K ++ [⟨⟨n, i, ByteArray.empty, 0⟩, b, 0⟩] := by simp
            have d6 := hp6.data hxm
            have f6 := hp6.free hxm 0
            have hs7 := hp6.setData d
            have HU1 : Hid (Calls _ _ _ _ _) := use_any _ hs7 (by omega)
            have ho : COwn c mb (roomK st.most K ++ [⟨⟨n, i, ByteArray.empty, 0⟩, b, 0⟩]) = COwn c mb (roomK st.most K ++ [⟨⟨n, i, d, 0⟩, b, 0⟩]) := by funext j; unfold COwn; simp
            have HT7 : Hid (Turn (COwn c mb K) w4 (COwn c mb (roomK st.most K ++ [⟨⟨n, i, d, 0⟩, b, 0⟩])) (w5.setCell ⟨b, 0, none⟩ (.string d))) := by
              have ht := HT6.out
              rw [ho] at ht
              exact (ht.trans (Turn.below hb5)).trans (turn_set (a := ⟨b, 0, none⟩) (.inr (.inr ⟨⟨⟨n, i, d, 0⟩, b, 0⟩, List.mem_append_right _ (List.mem_singleton.2 rfl), rfl⟩)) _)
            simp only at d6 f6
            clear hb5 hp6 hs7 ho hxm
            unfold at_ at *
            go_wp2_with fail
            refine Calls.mono HU1.out ?_
            rintro e w8 ⟨rfl, hs8, ht8⟩
            have H8 : Hid (_ ∧ _) := And.intro (H5.out.usedLast hs8 (HT7.out.trans ht8) (roomK_sub st.most K) (Nat.zero_le _) HRL.out) (HT5.out.trans (HT7.out.trans ht8).unLeft)
            clear hs8 ht8
            go_wp2
            go_ret
            exact ⟨_, u + 1, Nat.le_refl _, rfl, ⟨mb, of4, _, H8.out.1, by simp [roomK_fr, h2], rfl⟩, H8.out.2⟩
        · simp only [if_neg h0]
          have hbe : (pe1 == 0) = false := by rw [beq_eq_false_iff_ne]; exact h0
          go_enter Try.func29, Try.ntmps29
          go_wp2_with fail
          refine Calls.mono HI.out ?_
          rintro e w1 ⟨rfl, rfl⟩
          go_wp2_with fail
          refine Calls.mono HE.out ?_
          rintro e w2 ⟨rfl, hb2⟩
          have hba : Below w1.heap.size w1 (w2.alloc (.cells #[.string n, .int .i64 i] 84)) := hb2.alloc hb2.size _
          have hbox := heap_alloc_new w2 (.cells #[.string n, .int .i64 i] 84)
          obtain ⟨wa, ha⟩ : ∃ wa, w2.alloc (.cells #[.string n, .int .i64 i] 84) = wa := ⟨_, rfl⟩
          rw [ha] at hba hbox
          have h3 := HI1.out.later hba
          have hc := h3.sits.cell2
          have b0 : wa.cell? ⟨w2.heap.size, 0, none⟩ = some (.string n) := by simp [World.cell?, hbox]
          have b1 : wa.cell? ⟨w2.heap.size, 1, none⟩ = some (.int .i64 i) := by simp [World.cell?, hbox]
          have hlook := h3.sits.look hk
          have hlook2 := (h3.sits.later (Below.refl _ _).drew).look hk
          rw [hpt] at hlook hlook2
          unfold spot at hlook hlook2
          have HLT : Hid (w2.heap.size < wa.heap.size) := (Array.getElem?_eq_some_iff.1 hbox).1
          have HGE : Hid (w1.heap.size ≤ w2.heap.size) := hb2.size
          have HX : Hid (wa.heap[w2.heap.size]? = _) := hbox
          have H4 : Hid (CIs wa.drew c mb p of st.most u K st.fs) := h3.later (Below.refl _ _).drew
          have HT4 : Hid (Turn (Un (COwn c mb K) of) w1 (Un (COwn c mb K) of) wa.drew) := Turn.below hba.drew
          clear hb2
          go_wp2_with fail
          go_region
          all_goals
            have HST : Hid (Calls _ _ _ _ _) := cstuck_any wa.drew H4.out.sits (by have := H4.out.len; have := H4.out.most2; omega)
            rw [h2, hst] at HST
            have c4 := H4.out.sits.cell0
            unfold at_ at c4 HST
            clear hba hbox h3 hlook hlook2 b0 b1 hc
            go_wp2_with fail
            refine Calls.mono HST.out ?_
            rintro e w3 ⟨rfl, hb3⟩
            have H5a : Hid (CIs w3 c mb p of st.most u K st.fs) := H4.out.later hb3
            have HT5a : Hid (Turn (Un (COwn c mb K) of) w1 (Un (COwn c mb K) of) w3) := HT4.out.trans (Turn.below hb3)
            have HX3 : Hid (w3.heap[w2.heap.size]? = some (.cells #[.string n, .int .i64 i] 84 (0, 0))) := (hb3.block _ HLT.out).trans HX.out
            have c4 := H5a.out.sits.cell0
            unfold at_ at c4
            have HPU : Hid (Calls _ _ _ _ _) := put_any n i s w3 H5a.out.sys hk.n
            rw [hpe] at HPU
            clear hb3
            go_wp2_with fail
            refine Calls.mono HPU.out ?_
            rintro e w4 ⟨of4, rfl, hs4, ht4⟩
            have H5 : Hid (CIs w4 c mb p of4 st.most u K fs2) := H5a.out.fsTurn hs4 ht4
            have HT5 : Hid (Turn (Un (COwn c mb K) of) w1 (Un (COwn c mb K) of4) w4) := HT5a.out.trans ht4.unRight
            have hbx4 : w4.heap[w2.heap.size]? = some (.cells #[.string n, .int .i64 i] 84 (0, 0)) := (ht4.block _ (Array.getElem?_eq_some_iff.1 HX3.out).1 (fun hh => by have := HI1.out.sys.lt _ hh; have := HGE.out; omega)).trans HX3.out
            have b0 : w4.cell? ⟨w2.heap.size, 0, none⟩ = some (.string n) := by simp [World.cell?, hbx4]
            have b1 : w4.cell? ⟨w2.heap.size, 1, none⟩ = some (.int .i64 i) := by simp [World.cell?, hbx4]
            clear hs4 ht4 hbx4
            go_wp2
            go_ret
            exact ⟨_, u, Nat.le_succ _, rfl, ⟨mb, of4, _, H5.out, h2, rfl⟩, HT5.out⟩
    | some x =>
      have hl : Ca.look st.l n i = some x.f := by rw [← h2, findK_look, hf]; rfl
      rw [put_there hen hl]
      have HI1 : Hid (CIs _ _ _ _ _ _ _ _ _) := h1
      obtain ⟨hxm, hxn, hxi⟩ := findK_some hf
      have hpt : ptrAt K n i = .pointer (some ⟨x.b, 0, none⟩) := by unfold ptrAt; rw [hf]; rfl
      have hperm : K.Perm ((K.filter fun y => !y.f.is n i) ++ [x]) := by rw [← hxn, ← hxi]; exact perm_found h1.sits.apart hxm
      have HPX : Hid (x.f.p ≤ u) := (h1.top x hxm).2
      have HLX : Hid ((K.filter fun y => !y.f.is n i).length + 1 ≤ st.most) := by
        show _ ≤ _
        have e1 := hperm.length_eq
        have := h1.len
        simp at e1
        omega
      generalize (Ca.enc d).1 = s at *
      generalize hpe : Fi.putp st.fs n i s = pe
      obtain ⟨pe1, fs2⟩ := pe
      clear hen hl h1 hf hxn hxi
      unfold at_ at *
      by_cases h0 : pe1 = 0
      · subst h0
        simp only [if_true]
        go_enter Try.func29, Try.ntmps29
        go_wp2_with fail
        refine Calls.mono HI.out ?_
        rintro e w1 ⟨rfl, rfl⟩
        go_wp2_with fail
        refine Calls.mono HE.out ?_
        rintro e w2 ⟨rfl, hb2⟩
        have hba : Below w1.heap.size w1 (w2.alloc (.cells #[.string n, .int .i64 i] 84)) := hb2.alloc hb2.size _
        have hbox := heap_alloc_new w2 (.cells #[.string n, .int .i64 i] 84)
        obtain ⟨wa, ha⟩ : ∃ wa, w2.alloc (.cells #[.string n, .int .i64 i] 84) = wa := ⟨_, rfl⟩
        rw [ha] at hba hbox
        have h3 := HI1.out.later hba
        have hc := h3.sits.cell2
        have b0 : wa.cell? ⟨w2.heap.size, 0, none⟩ = some (.string n) := by simp [World.cell?, hbox]
        have b1 : wa.cell? ⟨w2.heap.size, 1, none⟩ = some (.int .i64 i) := by simp [World.cell?, hbox]
        have hlook := h3.sits.look hk
        have hlook2 := (h3.sits.later (Below.refl _ _).drew).look hk
        rw [hpt] at hlook hlook2
        unfold spot at hlook hlook2
        have HLT : Hid (w2.heap.size < wa.heap.size) := (Array.getElem?_eq_some_iff.1 hbox).1
        have HGE : Hid (w1.heap.size ≤ w2.heap.size) := hb2.size
        have HX : Hid (wa.heap[w2.heap.size]? = _) := hbox
        have H4 : Hid (CIs wa.drew c mb p of st.most u K st.fs) := h3.later (Below.refl _ _).drew
        have HT4 : Hid (Turn (Un (COwn c mb K) of) w1 (Un (COwn c mb K) of) wa.drew) := Turn.below hba.drew
        clear hb2
        go_wp2_with fail
        go_region
        all_goals
          have c4 := H4.out.sits.cell0
          unfold at_ at c4
          have HPU : Hid (Calls _ _ _ _ _) := put_any n i s wa.drew H4.out.sys hk.n
          rw [hpe] at HPU
          clear hba hbox h3 hlook hlook2 b0 b1 hc
          go_wp2_with fail
          refine Calls.mono HPU.out ?_
          rintro e w4 ⟨of4, rfl, hs4, ht4⟩
          have H5 : Hid (CIs w4 c mb p of4 st.most u K fs2) := H4.out.fsTurn hs4 ht4
          have HT5 : Hid (Turn (Un (COwn c mb K) of) w1 (Un (COwn c mb K) of4) w4) := HT4.out.trans ht4.unRight
          clear hs4 ht4
          have HCL : Hid (Calls _ _ _ _ _) := clone_any d w4 (by omega)
          go_wp2_with fail
          refine Calls.mono HCL.out ?_
          rintro e w5 ⟨rfl, hb5⟩
          have h6 := H5.out.later hb5
          have hp6 := h6.sits.perm hperm
          have d6 := hp6.data (x := x) (by simp)
          have f6 := hp6.free (x := x) (by simp) 0
          have hs7 := hp6.setData d
          have HU1 : Hid (Calls _ _ _ _ _) := use_any _ hs7 (by omega)
          have ho : COwn c mb K = COwn c mb ((K.filter fun y => !y.f.is n i) ++ [{ x with f := { x.f with d := d } }]) := by rw [COwn.perm hperm]; funext j; unfold COwn; simp
          have HT7 : Hid (Turn (COwn c mb K) w4 (COwn c mb ((K.filter fun y => !y.f.is n i) ++ [{ x with f := { x.f with d := d } }])) (w5.setCell ⟨x.b, 0, none⟩ (.string d))) := by
            rw [← ho]
            exact (Turn.below hb5).trans (turn_set (a := ⟨x.b, 0, none⟩) (.inr (.inr ⟨x, hxm, rfl⟩)) _)
          clear hb5 h6 hp6 hs7 ho
          unfold at_ at *
          go_wp2_with fail
          refine Calls.mono HU1.out ?_
          rintro e w8 ⟨rfl, hs8, ht8⟩
          have H8 : Hid (_ ∧ _) := And.intro (H5.out.usedLast hs8 (HT7.out.trans ht8) List.filter_sublist HPX.out HLX.out) (HT5.out.trans (HT7.out.trans ht8).unLeft)
          clear hs8 ht8
          go_wp2
          go_ret
          exact ⟨_, u + 1, Nat.le_refl _, rfl, ⟨mb, of4, _, H8.out.1, by simp [filter_fr, h2], rfl⟩, H8.out.2⟩
      · simp only [if_neg h0]
        have hbe : (pe1 == 0) = false := by rw [beq_eq_false_iff_ne]; exact h0
        go_enter Try.func29, Try.ntmps29
        go_wp2_with fail
        refine Calls.mono HI.out ?_
        rintro e w1 ⟨rfl, rfl⟩
        go_wp2_with fail
        refine Calls.mono HE.out ?_
        rintro e w2 ⟨rfl, hb2⟩
        have hba : Below w1.heap.size w1 (w2.alloc (.cells #[.string n, .int .i64 i] 84)) := hb2.alloc hb2.size _
        have hbox := heap_alloc_new w2 (.cells #[.string n, .int .i64 i] 84)
        obtain ⟨wa, ha⟩ : ∃ wa, w2.alloc (.cells #[.string n, .int .i64 i] 84) = wa := ⟨_, rfl⟩
        rw [ha] at hba hbox
        have h3 := HI1.out.later hba
        have hc := h3.sits.cell2
        have b0 : wa.cell? ⟨w2.heap.size, 0, none⟩ = some (.string n) := by simp [World.cell?, hbox]
        have b1 : wa.cell? ⟨w2.heap.size, 1, none⟩ = some (.int .i64 i) := by simp [World.cell?, hbox]
        have hlook := h3.sits.look hk
        have hlook2 := (h3.sits.later (Below.refl _ _).drew).look hk
        rw [hpt] at hlook hlook2
        unfold spot at hlook hlook2
        have HLT : Hid (w2.heap.size < wa.heap.size) := (Array.getElem?_eq_some_iff.1 hbox).1
        have HGE : Hid (w1.heap.size ≤ w2.heap.size) := hb2.size
        have HX : Hid (wa.heap[w2.heap.size]? = _) := hbox
        have H4 : Hid (CIs wa.drew c mb p of st.most u K st.fs) := h3.later (Below.refl _ _).drew
        have HT4 : Hid (Turn (Un (COwn c mb K) of) w1 (Un (COwn c mb K) of) wa.drew) := Turn.below hba.drew
        clear hb2
        go_wp2_with fail
        go_region
        all_goals
          have c4 := H4.out.sits.cell0
          unfold at_ at c4
          have HPU : Hid (Calls _ _ _ _ _) := put_any n i s wa.drew H4.out.sys hk.n
          rw [hpe] at HPU
          clear hba hbox h3 hlook hlook2 b0 b1 hc
          go_wp2_with fail
          refine Calls.mono HPU.out ?_
          rintro e w4 ⟨of4, rfl, hs4, ht4⟩
          have H5 : Hid (CIs w4 c mb p of4 st.most u K fs2) := H4.out.fsTurn hs4 ht4
          have HT5 : Hid (Turn (Un (COwn c mb K) of) w1 (Un (COwn c mb K) of4) w4) := HT4.out.trans ht4.unRight
          clear hs4 ht4
          go_wp2
          go_ret
          exact ⟨_, u, Nat.le_succ _, rfl, ⟨mb, of4, _, H5.out, h2, rfl⟩, HT5.out⟩

end
end Go.Proofs.Ytnlhgcpmmcmknaa
