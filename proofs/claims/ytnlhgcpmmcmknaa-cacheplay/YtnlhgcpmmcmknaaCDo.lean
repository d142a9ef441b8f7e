/- The walks of cache's New, Get, Pin, Unpin, Put and Drop. -/
import Derived.Test.YtnlhgcpmmcmknaaCFetch
namespace Go.Proofs.Ytnlhgcpmmcmknaa
open Go.RowKit Go.Maps

/-- The cache at c, over the file system at p, with all that is their own, is in the state st; there were u uses. -/
def CSys (W : World) (c p : Nat) (o : Nat → Prop) (st : Ca.St) (u : Nat) : Prop := ∃ mb of K, CIs W c mb p of st.most u K st.fs ∧ K.map (·.f) = st.l ∧ o = Un (COwn c mb K) of

section
variable {W W' w : World} {c mb p most u : Nat} {o o' of of' : Nat → Prop} {K K' R : List Ke} {fs fs' : Fi.St} {x : Ke} {st : Ca.St}

theorem CSys.later (h : CSys W c p o st u) (hb : Below W.heap.size W W') : CSys W' c p o st u := by
  obtain ⟨mb, of, K, h1, h2⟩ := h
  exact ⟨mb, of, K, h1.later hb, h2⟩
theorem CSys.lt (h : CSys W c p o st u) : ∀ i, o i → i < W.heap.size := by
  obtain ⟨mb, of, K, h1, _, rfl⟩ := h
  rintro i (hi | hi)
  · exact h1.sits.ownLt i hi
  · exact h1.sys.lt i hi
/-- What is done with the file system itself. -/
theorem CSys.file (h : CSys W c p o st u) : ∃ of, Sys W p of st.fs ∧ ∀ W' of' fs', Sys W' p of' fs' → Turn of W of' W' → ∃ o', CSys W' c p o' { st with fs := fs' } u ∧ Turn o W o' W' := by
  obtain ⟨mb, of, K, h1, h2, rfl⟩ := h
  exact ⟨of, h1.sys, fun W' of' fs' hs ht => ⟨_, ⟨mb, of', K, h1.fsTurn hs ht, h2, rfl⟩, ht.unRight⟩⟩

theorem cnew_nil (m : Int) (w : World) : Calls Try.prog 12 #[.pointer none, .int .i64 m] w fun e w' => e = .returned (.tuple #[.pointer none, .int .i64 1]) ∧ w' = w := by
  go_enter Try.func12, Try.ntmps12
  go_wp2
  go_ret2
  exact ⟨rfl, rfl⟩
theorem cnew_arg (m : Int) (w : World) (h : ¬ (1 ≤ m ∧ m ≤ 64)) : Calls Try.prog 12 #[at_ p, .int .i64 m] w fun e w' => e = .returned (.tuple #[.pointer none, .int .i64 2]) ∧ w' = w := by
  unfold at_
  by_cases h1 : m < 1
  · clear h
    go_enter Try.func12, Try.ntmps12
    go_wp2
    go_ret2
    exact ⟨rfl, rfl⟩
  · have h2 : 64 < m := by omega
    clear h
    go_enter Try.func12, Try.ntmps12
    go_wp2
    go_ret2
    exact ⟨rfl, rfl⟩

theorem cnew_walk (m : Nat) (w : World) (h1 : 1 ≤ m) (h2 : m ≤ 64) :
    Calls Try.prog 12 #[at_ p, .int .i64 m] w fun e w' => e = .returned (.tuple #[at_ (w.heap.size + 1), .int .i64 0]) ∧
      w' = (w.alloc (.map #[] 0)).alloc (.cells #[at_ p, .int .i64 m, .map (some w.heap.size), .int .i64 0] 58) := by
  have hmm := @run_makeMap Try.prog
  unfold at_
  go_enter Try.func12, Try.ntmps12
  go_wp2
  go_ret2
  exact ⟨rfl, rfl⟩

theorem csits_new (w : World) (p m : Nat) : CSits ((w.alloc (.map #[] 0)).alloc (.cells #[at_ p, .int .i64 m, .map (some w.heap.size), .int .i64 0] 58)) (w.heap.size + 1) w.heap.size p m 0 [] where
  block := by
    have h := heap_alloc_new (w.alloc (.map #[] 0)) (.cells #[at_ p, .int .i64 m, .map (some w.heap.size), .int .i64 0] 58)
    rwa [show (w.alloc (.map #[] 0)).heap.size = w.heap.size + 1 by simp] at h
  map := ⟨[], (World.ownsMap_made w Try.prog 84 heldR).alloc _, List.Perm.refl _⟩
  each := fun x hx => by simp at hx
  blocks := List.Pairwise.nil
  keys := fun x hx => by simp at hx

theorem cnew_yes (m : Nat) (w : World) (hs : Sys w p of fs) (h1 : 1 ≤ m) (h2 : m ≤ 64) :
    Calls Try.prog 12 #[at_ p, .int .i64 m] w fun e w' => ∃ c o, e = .returned (.tuple #[at_ c, .int .i64 0]) ∧ CSys w' c p o ⟨m, fs, []⟩ 0 ∧ (∀ i, o i → of i ∨ w.heap.size ≤ i) ∧ Below w.heap.size w w' := by
  refine (cnew_walk m w h1 h2).mono ?_
  rintro e w' ⟨rfl, rfl⟩
  have hb : Below w.heap.size w ((w.alloc (.map #[] 0)).alloc (.cells #[at_ p, .int .i64 m, .map (some w.heap.size), .int .i64 0] 58)) := ((Below.refl _ w).alloc (Nat.le_refl _) _).alloc (by simp) _
  refine ⟨_, _, rfl, ⟨_, of, [], ⟨csits_new w p m, List.Pairwise.nil, fun x hx => by simp at hx, hs.later hb, ?_, h1, h2, Nat.zero_le _⟩, rfl, rfl⟩, ?_, hb⟩
  · rintro i (rfl | rfl | ⟨x, hx, _⟩) ho
    · have := hs.lt _ ho; omega
    · have := hs.lt _ ho; omega
    · simp at hx
  · rintro i ((rfl | rfl | ⟨x, hx, _⟩) | hi)
    · exact .inr (by omega)
    · exact .inr (by omega)
    · simp at hx
    · exact .inl hi

/-! ### Get and Pin -/
set_option maxRecDepth 100000 in
set_option maxHeartbeats 1000000 in
theorem cget_any (n : ByteArray) (i : Int) (h : CSys w c p o st u) (hu : u < 9223372036854775800) (hk : KeyOk n i) (hn : n.size ≤ 1000) :
    Calls Try.prog 31 #[at_ c, .string n, .int .i64 i] w fun e w' => ∃ o' u', u' ≤ u + 1 ∧ e = .returned (.tuple #[.string (Ca.get st n i).1, .int .i64 (Ca.get st n i).2.1]) ∧ CSys w' c p o' (Ca.get st n i).2.2 u' ∧ Turn o w o' w' := by
  obtain ⟨mb, of, K, h1, h2, rfl⟩ := h
  have HI : Hid (Calls _ _ _ _ _) := cnone_sits w h1.sits
  have HF : Hid (Calls _ _ _ _ _) := fetch_any n i h1 (by omega) hk hn
  have hst : (⟨st.most, st.fs, K.map (·.f)⟩ : Ca.St) = st := by rw [h2]
  rw [hst] at HF
  unfold Ca.get
  generalize Ca.fetch st n i = g at *
  clear hst h2 h1
  unfold at_ spot at *
  by_cases h0 : g.e = 0
  · simp only [if_pos h0]
    go_enter Try.func31, Try.ntmps31
    go_wp2_with fail
    refine Calls.mono HI.out ?_
    rintro e w1 ⟨rfl, rfl⟩
    go_wp2_with fail
    refine Calls.mono HF.out ?_
    rintro e w2 (⟨hne, _⟩ | ⟨_, _, of', R, b, rfl, hi, hl, ht⟩)
    · exact absurd h0 hne
    · have d2 := hi.sits.data (x := ⟨g.f, b, u + 1⟩) (by simp)
      have H2 : Hid (_ ∧ _) := And.intro hi ht
      have HL : Hid (g.l = R.map (·.f)) := hl
      simp only at d2
      clear hi ht hl
      unfold at_
      go_wp2
      go_ret2
      exact ⟨_, u + 1, Nat.le_refl _, rfl, ⟨mb, of', _, H2.out.1, by simp [HL.out], rfl⟩, H2.out.2⟩
  · simp only [if_neg h0]
    have hb : (g.e == 0) = false := by rw [beq_eq_false_iff_ne]; exact h0
    go_enter Try.func31, Try.ntmps31
    go_wp2_with fail
    refine Calls.mono HI.out ?_
    rintro e w1 ⟨rfl, rfl⟩
    go_wp2_with fail
    refine Calls.mono HF.out ?_
    rintro e w2 (⟨_, rfl, of', hi, hl, ht⟩ | ⟨h', _⟩)
    · have H2 : Hid (_ ∧ _) := And.intro hi ht
      have HL : Hid (g.l = K.map (·.f)) := hl
      clear hi ht hl
      go_wp2
      go_ret2
      exact ⟨_, u, Nat.le_succ _, rfl, ⟨mb, of', _, H2.out.1, HL.out.symm, rfl⟩, H2.out.2⟩
    · exact absurd h' h0

set_option maxRecDepth 100000 in
set_option maxHeartbeats 1000000 in
theorem cpin_any (n : ByteArray) (i : Int) (h : CSys w c p o st u) (hu : u < 9223372036854775800) (hk : KeyOk n i) (hn : n.size ≤ 1000) :
    Calls Try.prog 30 #[at_ c, .string n, .int .i64 i] w fun e w' => ∃ o' u', u' ≤ u + 1 ∧ e = .returned (.tuple #[.string (Ca.pin st n i).1, .int .i64 (Ca.pin st n i).2.1]) ∧ CSys w' c p o' (Ca.pin st n i).2.2 u' ∧ Turn o w o' w' := by
  obtain ⟨mb, of, K, h1, h2, rfl⟩ := h
  have HI : Hid (Calls _ _ _ _ _) := cnone_sits w h1.sits
  have HF : Hid (Calls _ _ _ _ _) := fetch_any n i h1 (by omega) hk hn
  have hst : (⟨st.most, st.fs, K.map (·.f)⟩ : Ca.St) = st := by rw [h2]
  rw [hst] at HF
  unfold Ca.pin
  generalize Ca.fetch st n i = g at *
  clear hst h2 h1
  unfold at_ spot at *
  by_cases h0 : g.e = 0
  · simp only [if_pos h0]
    go_enter Try.func30, Try.ntmps30
    go_wp2_with fail
    refine Calls.mono HI.out ?_
    rintro e w1 ⟨rfl, rfl⟩
    go_wp2_with fail
    refine Calls.mono HF.out ?_
    rintro e w2 (⟨hne, _⟩ | ⟨_, hpu, of', R, b, rfl, hi, hl, ht⟩)
    · exact absurd h0 hne
    · have hx : (⟨g.f, b, u + 1⟩ : Ke) ∈ R ++ [⟨g.f, b, u + 1⟩] := by simp
      have d2 := hi.sits.data hx
      have p2 := hi.sits.pins hx
      have f2 := hi.sits.free hx 1
      have hs3 := hi.sits.setPins (g.f.p + 1)
      have d3 := hs3.data (x := ⟨Ca.more g.f, b, u + 1⟩) (List.mem_append_right _ (List.mem_singleton.2 rfl))
      have ho : COwn c mb (R ++ [⟨g.f, b, u + 1⟩]) = COwn c mb (R ++ [⟨Ca.more g.f, b, u + 1⟩]) := by funext j; unfold COwn; simp
      have ht3 : Turn (COwn c mb (R ++ [⟨g.f, b, u + 1⟩])) w2 (COwn c mb (R ++ [⟨Ca.more g.f, b, u + 1⟩])) (w2.setCell ⟨b, 1, none⟩ (.int .i64 (g.f.p + 1 : Nat))) := by
        rw [← ho]
        exact turn_set (a := ⟨b, 1, none⟩) (.inr (.inr ⟨_, hx, rfl⟩)) _
      have hi3 : CIs (w2.setCell ⟨b, 1, none⟩ (.int .i64 (g.f.p + 1 : Nat))) c mb p of' st.most (u + 1) (R ++ [⟨Ca.more g.f, b, u + 1⟩]) g.fs := by
        refine hi.turn hs3 ht3 ?_ (fun y hy => ?_) (by have := hi.len; simpa using this)
        · have := hi.rise
          rw [List.pairwise_append] at this ⊢
          refine ⟨this.1, by simp, fun a ha y hy => ?_⟩
          simp at hy; subst hy
          exact this.2.2 a ha ⟨g.f, b, u + 1⟩ (by simp)
        · rcases List.mem_append.1 hy with hy | hy
          · exact hi.top y (by simp [hy])
          · simp at hy; subst hy; exact ⟨Nat.le_refl _, by simp [Ca.more]; omega⟩
      have H2 : Hid (_ ∧ _) := And.intro hi3 (ht.trans ht3.unLeft)
      have HL : Hid (g.l = R.map (·.f)) := hl
      simp only [Ca.more] at d2 p2 f2 d3
      push_cast at d3
      have e3 : ((g.f.p + 1 : Nat) : Int) = (g.f.p : Int) + 1 := by omega
      rw [e3] at H2
      clear hi ht hl hs3 ho ht3 hi3 hx e3
      unfold at_
      go_wp2
      go_ret2
      exact ⟨_, u + 1, Nat.le_refl _, rfl, ⟨mb, of', _, H2.out.1, by simp [HL.out, Ca.more], rfl⟩, H2.out.2⟩
  · simp only [if_neg h0]
    have hb : (g.e == 0) = false := by rw [beq_eq_false_iff_ne]; exact h0
    go_enter Try.func30, Try.ntmps30
    go_wp2_with fail
    refine Calls.mono HI.out ?_
    rintro e w1 ⟨rfl, rfl⟩
    go_wp2_with fail
    refine Calls.mono HF.out ?_
    rintro e w2 (⟨_, rfl, of', hi, hl, ht⟩ | ⟨h', _⟩)
    · have H2 : Hid (_ ∧ _) := And.intro hi ht
      have HL : Hid (g.l = K.map (·.f)) := hl
      clear hi ht hl
      go_wp2
      go_ret2
      exact ⟨_, u, Nat.le_succ _, rfl, ⟨mb, of', _, H2.out.1, HL.out.symm, rfl⟩, H2.out.2⟩
    · exact absurd h' h0

end
end Go.Proofs.Ytnlhgcpmmcmknaa
