/- The walk of cache's fetch. -/
import Derived.Test.YtnlhgcpmmcmknaaCGet
namespace Go.Proofs.Ytnlhgcpmmcmknaa
open Go.RowKit Go.Maps

/-- What fetch leaves: an error, or the page, used last. -/
def Fetched (w w' : World) (e : Ending) (c mb p : Nat) (of : Nat → Prop) (most u : Nat) (K : List Ke) (g : Ca.Got) : Prop :=
  (g.e ≠ 0 ∧ e = .returned (.tuple #[.pointer none, .int .i64 g.e]) ∧ ∃ of', CIs w' c mb p of' most u K g.fs ∧ g.l = K.map (·.f) ∧ Turn (Un (COwn c mb K) of) w (Un (COwn c mb K) of') w') ∨
  (g.e = 0 ∧ g.f.p ≤ u ∧ ∃ of' R b, e = .returned (.tuple #[at_ b, .int .i64 0]) ∧ CIs w' c mb p of' most (u + 1) (R ++ [⟨g.f, b, u + 1⟩]) g.fs ∧ g.l = R.map (·.f) ∧ Turn (Un (COwn c mb K) of) w (Un (COwn c mb (R ++ [⟨g.f, b, u + 1⟩])) of') w')

section
variable {W W' w : World} {c mb p most u : Nat} {of of' : Nat → Prop} {K K' R : List Ke} {fs fs' : Fi.St} {x : Ke}

theorem fetch_there {n : ByteArray} {i : Int} (hf : findK K n i = some x) : Ca.fetch ⟨most, fs, K.map (·.f)⟩ n i = ⟨0, (K.filter fun y => !y.f.is n i).map (·.f), x.f, fs⟩ := by
  have h : Ca.look (K.map (·.f)) n i = some x.f := by rw [findK_look, hf]; rfl
  unfold Ca.fetch
  simp only [h]
  rw [filter_fr]
theorem fetch_stuck {n : ByteArray} {i : Int} (hf : findK K n i = none) (hs : Ca.stuck most (K.map (·.f)) = true) : Ca.fetch ⟨most, fs, K.map (·.f)⟩ n i = ⟨70, K.map (·.f), Ca.Fr.none, fs⟩ := by
  have h : Ca.look (K.map (·.f)) n i = none := by rw [findK_look, hf]; rfl
  unfold Ca.fetch
  simp only [h, hs, if_true]
theorem fetch_read {n : ByteArray} {i : Int} (hf : findK K n i = none) (hs : Ca.stuck most (K.map (·.f)) = false) : Ca.fetch ⟨most, fs, K.map (·.f)⟩ n i =
    if (if (Fi.read fs n i).2.1 = 0 then (Ca.dec (Fi.read fs n i).1).2 else (Fi.read fs n i).2.1) = 0 then ⟨0, (roomK most K).map (·.f), ⟨n, i, (if (Fi.read fs n i).2.1 = 0 then (Ca.dec (Fi.read fs n i).1).1 else ByteArray.empty), 0⟩, (Fi.read fs n i).2.2⟩
    else ⟨(if (Fi.read fs n i).2.1 = 0 then (Ca.dec (Fi.read fs n i).1).2 else (Fi.read fs n i).2.1), K.map (·.f), Ca.Fr.none, (Fi.read fs n i).2.2⟩ := by
  have h : Ca.look (K.map (·.f)) n i = none := by rw [findK_look, hf]; rfl
  unfold Ca.fetch
  simp only [h, hs]
  rw [roomK_fr]
  by_cases h0 : (Fi.read fs n i).2.1 = 0
  · by_cases h1 : (Ca.dec (Fi.read fs n i).1).2 = 0
    · simp [h0, h1]
    · simp [h0, h1]
  · simp [h0]

/-- The page is used: it stands last then. -/
theorem CIs.usedLast {b : Nat} {f : Ca.Fr} (h : CIs W c mb p of most u K fs) (hs : CSits W' c mb p most (u + 1) (R ++ [⟨f, b, u + 1⟩])) (ht : Turn (COwn c mb K) W (COwn c mb (R ++ [⟨f, b, u + 1⟩])) W') (hR : R.Sublist K) (hf : f.p ≤ u) (hl : R.length + 1 ≤ most) : CIs W' c mb p of most (u + 1) (R ++ [⟨f, b, u + 1⟩]) fs := by
  refine h.turn hs ht (rise_snoc (h.rise.sublist hR) fun y hy => (h.top y (hR.subset hy)).1) (fun y hy => ?_) (by simpa using hl)
  rcases List.mem_append.1 hy with hy | hy
  · have := h.top y (hR.subset hy); omega
  · simp at hy; subst hy; simp only; omega
theorem roomK_length (h : CIs W c mb p of most u K fs) (hs : Ca.stuck most (K.map (·.f)) = false) : (roomK most K).length + 1 ≤ most := by
  have := Ca.room_length (m := most) (l := K.map (·.f)) (by simpa using h.len) hs
  rw [← roomK_fr, List.length_map] at this
  exact this

set_option maxRecDepth 100000 in
set_option maxHeartbeats 1000000 in
theorem fetch_any (n : ByteArray) (i : Int) (h : CIs w c mb p of most u K fs) (hu : u < 9223372036854775807) (hk : KeyOk n i) (hn : n.size ≤ 1000) :
    Calls Try.prog 59 #[at_ c, spot n i] w fun e w' => Fetched w w' e c mb p of most u K (Ca.fetch ⟨most, fs, K.map (·.f)⟩ n i) := by
  have hba : Below w.heap.size w (w.alloc (.cells #[.string n, .int .i64 i] 84)) := (Below.refl _ w).alloc (Nat.le_refl _) _
  have hbox := heap_alloc_new w (.cells #[.string n, .int .i64 i] 84)
  obtain ⟨wa, ha⟩ : ∃ wa, w.alloc (.cells #[.string n, .int .i64 i] 84) = wa := ⟨_, rfl⟩
  rw [ha] at hba hbox
  have h1 := h.later hba
  have hc := h1.sits.cell2
  have b0 : wa.cell? ⟨w.heap.size, 0, none⟩ = some (.string n) := by simp [World.cell?, hbox]
  have b1 : wa.cell? ⟨w.heap.size, 1, none⟩ = some (.int .i64 i) := by simp [World.cell?, hbox]
  have hlook := h1.sits.look hk
  have hlook2 := (h1.sits.later (Below.refl _ _).drew).look hk
  unfold spot at hlook hlook2
  have HT : Hid (Turn (Un (COwn c mb K) of) w (Un (COwn c mb K) of) wa) := Turn.below hba
  have HX : Hid (wa.heap[w.heap.size]? = _) := hbox
  cases hf : findK K n i with
  | some x =>
    rw [fetch_there hf]
    unfold ptrAt at hlook hlook2
    simp only [hf] at hlook hlook2
    obtain ⟨hx, rfl, rfl⟩ := findK_some hf
    have hp := perm_found h.sits.apart hx
    have HI : Hid (CIs wa _ _ _ _ _ _ _ _) := h1
    have HPX : Hid (x.f.p ≤ u) := (h.top x hx).2
    have HU : Hid (∀ W, CIs W c mb p of most u K fs → Calls Try.prog 58 #[at_ c, at_ x.b] W fun e w' => e = .returned (.tuple #[]) ∧ CIs w' c mb p of most (u + 1) ((K.filter fun y => !y.f.is x.f.n x.f.i) ++ [⟨x.f, x.b, u + 1⟩]) fs ∧ Turn (Un (COwn c mb K) of) W (Un (COwn c mb ((K.filter fun y => !y.f.is x.f.n x.f.i) ++ [⟨x.f, x.b, u + 1⟩])) of) w') := fun W hW => by
      refine (use_any W (hW.sits.perm hp) hu).mono ?_
      rintro e w' ⟨rfl, hs, ht⟩
      rw [← COwn.perm hp] at ht
      have hlen := hp.length_eq
      simp at hlen
      have := hW.len
      refine ⟨rfl, hW.usedLast hs ht List.filter_sublist (hW.top x hx).2 (by omega), ht.unLeft⟩
    clear h h1 hba hbox hf hp
    unfold at_ spot at *
    go_enter Try.func59, Try.ntmps59
    go_wp2_with fail
    go_region
    all_goals
      have HU1 : Hid (Calls _ _ _ _ _) := HU.out _ (HI.out.later (Below.refl _ _).drew)
      go_wp2_with fail
      refine Calls.mono HU1.out ?_
      rintro e w2 ⟨rfl, hs2, ht2⟩
      have H2 : Hid (_ ∧ _) := And.intro hs2 ((HT.out.trans (Turn.below (Below.refl _ _).drew)).trans ht2)
      clear hs2 ht2
      go_wp2
      go_ret2
      exact .inr ⟨rfl, HPX.out, of, _, _, rfl, H2.out.1, rfl, H2.out.2⟩
  | none =>
    unfold ptrAt at hlook hlook2
    simp only [hf] at hlook hlook2
    have hno := findK_none hf
    have h2 := h1.later (Below.refl _ _).drew
    have HST : Hid (Calls _ _ _ _ _) := cstuck_any wa.drew h2.sits (by have := h2.len; have := h2.most2; omega)
    have HI : Hid (CIs wa.drew _ _ _ _ _ _ _ _) := h2
    have HNB : Hid (¬ Un (COwn c mb K) of w.heap.size) := fun hh => by
      rcases hh with hh | hh
      · have := h.sits.ownLt _ hh; omega
      · have := h.sys.lt _ hh; omega
    have HLT : Hid (w.heap.size < wa.heap.size) := (Array.getElem?_eq_some_iff.1 hbox).1
    cases hst : Ca.stuck most (K.map (·.f)) with
    | true =>
      rw [hst] at HST
      rw [fetch_stuck hf hst]
      clear h h1 h2 hba hbox hf hno
      unfold at_ spot at *
      go_enter Try.func59, Try.ntmps59
      go_wp2_with fail
      go_region
      all_goals
        go_wp2_with fail
        refine Calls.mono HST.out ?_
        rintro e w2 ⟨rfl, hb2⟩
        have H2 : Hid (Below _ _ _) := hb2
        clear hb2
        go_wp2
        go_ret2
        exact .inl ⟨(by decide : (70 : Int) ≠ 0), rfl, of, HI.out.later H2.out, rfl, (HT.out.trans (Turn.below (Below.refl _ _).drew)).trans (Turn.below H2.out)⟩
    | false =>
      rw [hst] at HST
      rw [fetch_read hf hst]
      have HRL : Hid ((roomK most K).length + 1 ≤ most) := roomK_length h hst
      have HRD : Hid (∀ W, CIs W c mb p of most u K fs → Calls Try.prog 82 #[at_ c, spot n i] W fun e w' => _) := fun W hW => cread_any n i hW hk
      have HAD : Hid (∀ W fs', CIs W c mb p of most u K fs' → Calls Try.prog 57 #[at_ c, spot n i] W fun e w' => _) := fun W fs' hW => cadd_any n i W hW.sits hW.rise (by have := hW.len; have := hW.most2; omega) hk hn hno
      generalize (if (Fi.read fs n i).2.1 = 0 then (Ca.dec (Fi.read fs n i).1).1 else ByteArray.empty) = d at *
      generalize (if (Fi.read fs n i).2.1 = 0 then (Ca.dec (Fi.read fs n i).1).2 else (Fi.read fs n i).2.1) = de at *
      generalize (Fi.read fs n i).2.2 = fs2 at *
      clear h h1 h2 hba hbox hf hno hst
      unfold at_ spot at *
      by_cases h0 : de = 0
      · subst h0
        rw [if_pos rfl]
        go_enter Try.func59, Try.ntmps59
        go_wp2_with fail
        go_region
        all_goals
          go_wp2_with fail
          refine Calls.mono HST.out ?_
          rintro e w2 ⟨rfl, hb2⟩
          have H2 : Hid (CIs w2 c mb p of most u K fs) := HI.out.later hb2
          have HT2 : Hid (Turn (Un (COwn c mb K) of) w (Un (COwn c mb K) of) w2) := (HT.out.trans (Turn.below (Below.refl _ _).drew)).trans (Turn.below hb2)
          have hbx2 : w2.heap[w.heap.size]? = some (.cells #[.string n, .int .i64 i] 84 (0, 0)) := (hb2.block _ HLT.out).trans HX.out
          have c0 : w2.cell? ⟨w.heap.size, 0, none⟩ = some (.string n) := by simp [World.cell?, hbx2]
          have c1 : w2.cell? ⟨w.heap.size, 1, none⟩ = some (.int .i64 i) := by simp [World.cell?, hbx2]
          have HX2 : Hid (w2.heap[w.heap.size]? = _) := hbx2
          have HR1 : Hid (Calls _ _ _ _ _) := HRD.out w2 H2.out
          clear hb2 hbx2
          go_wp2_with fail
          refine Calls.mono HR1.out ?_
          rintro e w3 ⟨rfl, hi3, ht3⟩
          have hbx3 : w3.heap[w.heap.size]? = some (.cells #[.string n, .int .i64 i] 84 (0, 0)) := (ht3.block _ (Array.getElem?_eq_some_iff.1 HX2.out).1 HNB.out).trans HX2.out
          have c0 : w3.cell? ⟨w.heap.size, 0, none⟩ = some (.string n) := by simp [World.cell?, hbx3]
          have c1 : w3.cell? ⟨w.heap.size, 1, none⟩ = some (.int .i64 i) := by simp [World.cell?, hbx3]
          have H3 : Hid (CIs w3 c mb p of most u K fs2) := hi3
          have HT3 : Hid (Turn (Un (COwn c mb K) of) w (Un (COwn c mb K) of) w3) := HT2.out.trans ht3
          have HA1 : Hid (Calls _ _ _ _ _) := HAD.out w3 fs2 H3.out
          clear hi3 ht3 hbx3 HR1
          go_wp2_with fail
          refine Calls.mono HA1.out ?_
          rintro e w4 ⟨b, rfl, hs4, ht4⟩
          have hx4 : (⟨⟨n, i, ByteArray.empty, 0⟩, b, 0⟩ : Ke) ∈ roomK most K ++ [⟨⟨n, i, ByteArray.empty, 0⟩, b, 0⟩] := by simp
          have d4 := hs4.data hx4
          have f4 := hs4.free hx4 0
          have hs5 := hs4.setData d
          have HU1 : Hid (Calls _ _ _ _ _) := use_any _ hs5 hu
          have ho : COwn c mb (roomK most K ++ [⟨⟨n, i, ByteArray.empty, 0⟩, b, 0⟩]) = COwn c mb (roomK most K ++ [⟨⟨n, i, d, 0⟩, b, 0⟩]) := by funext j; unfold COwn; simp
          have HT5 : Hid (Turn (COwn c mb K) w3 (COwn c mb (roomK most K ++ [⟨⟨n, i, d, 0⟩, b, 0⟩])) (w4.setCell ⟨b, 0, none⟩ (.string d))) := by
            rw [ho] at ht4
            exact ht4.trans (turn_set (a := ⟨b, 0, none⟩) (.inr (.inr ⟨⟨⟨n, i, d, 0⟩, b, 0⟩, List.mem_append_right _ (List.mem_singleton.2 rfl), rfl⟩)) _)
          simp only at d4 f4
          clear hs4 ht4 hs5 ho hx4
          unfold at_ at *
          go_wp2_with fail
          refine Calls.mono HU1.out ?_
          rintro e w6 ⟨rfl, hs6, ht6⟩
          have H6 : Hid (_ ∧ _) := And.intro (H3.out.usedLast hs6 (HT5.out.trans ht6) (roomK_sub most K) (Nat.zero_le _) HRL.out) (HT3.out.trans (HT5.out.trans ht6).unLeft)
          clear hs6 ht6
          go_wp2
          go_ret2
          exact .inr ⟨rfl, Nat.zero_le _, of, _, _, rfl, H6.out.1, rfl, H6.out.2⟩
      · rw [if_neg h0]
        have hb : (de == 0) = false := by rw [beq_eq_false_iff_ne]; exact h0
        go_enter Try.func59, Try.ntmps59
        go_wp2_with fail
        go_region
        all_goals
          go_wp2_with fail
          refine Calls.mono HST.out ?_
          rintro e w2 ⟨rfl, hb2⟩
          have H2 : Hid (CIs w2 c mb p of most u K fs) := HI.out.later hb2
          have HT2 : Hid (Turn (Un (COwn c mb K) of) w (Un (COwn c mb K) of) w2) := (HT.out.trans (Turn.below (Below.refl _ _).drew)).trans (Turn.below hb2)
          have hbx2 : w2.heap[w.heap.size]? = some (.cells #[.string n, .int .i64 i] 84 (0, 0)) := (hb2.block _ HLT.out).trans HX.out
          have c0 : w2.cell? ⟨w.heap.size, 0, none⟩ = some (.string n) := by simp [World.cell?, hbx2]
          have c1 : w2.cell? ⟨w.heap.size, 1, none⟩ = some (.int .i64 i) := by simp [World.cell?, hbx2]
          have HX2 : Hid (w2.heap[w.heap.size]? = _) := hbx2
          have HR1 : Hid (Calls _ _ _ _ _) := HRD.out w2 H2.out
          clear hb2 hbx2
          go_wp2_with fail
          refine Calls.mono HR1.out ?_
          rintro e w3 ⟨rfl, hi3, ht3⟩
          have hbx3 : w3.heap[w.heap.size]? = some (.cells #[.string n, .int .i64 i] 84 (0, 0)) := (ht3.block _ (Array.getElem?_eq_some_iff.1 HX2.out).1 HNB.out).trans HX2.out
          have c0 : w3.cell? ⟨w.heap.size, 0, none⟩ = some (.string n) := by simp [World.cell?, hbx3]
          have c1 : w3.cell? ⟨w.heap.size, 1, none⟩ = some (.int .i64 i) := by simp [World.cell?, hbx3]
          have H3 : Hid (CIs w3 c mb p of most u K fs2) := hi3
          have HT3 : Hid (Turn (Un (COwn c mb K) of) w (Un (COwn c mb K) of) w3) := HT2.out.trans ht3
          have HA1 : Hid (Calls _ _ _ _ _) := HAD.out w3 fs2 H3.out
          clear hi3 ht3 hbx3 HR1
          go_wp2
          go_ret2
          exact .inl ⟨h0, rfl, of, H3.out, rfl, HT3.out⟩

end
end Go.Proofs.Ytnlhgcpmmcmknaa
