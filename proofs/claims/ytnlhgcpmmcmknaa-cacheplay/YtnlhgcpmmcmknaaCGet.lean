/- A cache and its file system together; the walks of cache's read and fetch. -/
import Derived.Test.YtnlhgcpmmcmknaaCAdd
namespace Go.Proofs.Ytnlhgcpmmcmknaa
open Go.RowKit Go.Maps

/-- Either set's blocks. -/
def Un (a b : Nat → Prop) (i : Nat) : Prop := a i ∨ b i

theorem Turn.unLeft {a a' b : Nat → Prop} {W W' : World} (h : Turn a W a' W') : Turn (Un a b) W (Un a' b) W' where
  os := h.os
  tape := h.tape
  output := h.output
  size := h.size
  block := fun i hi ho => h.block i hi fun h' => ho (.inl h')
  grows := fun i hi => by
    rcases hi with hi | hi
    · rcases h.grows i hi with h1 | h1
      · exact .inl (.inl h1)
      · exact .inr h1
    · exact .inl (.inr hi)
theorem Turn.unRight {a b b' : Nat → Prop} {W W' : World} (h : Turn b W b' W') : Turn (Un a b) W (Un a b') W' where
  os := h.os
  tape := h.tape
  output := h.output
  size := h.size
  block := fun i hi ho => h.block i hi fun h' => ho (.inr h')
  grows := fun i hi => by
    rcases hi with hi | hi
    · exact .inl (.inl hi)
    · rcases h.grows i hi with h1 | h1
      · exact .inl (.inr h1)
      · exact .inr h1

theorem Sys.stays {W W' : World} {p : Nat} {o : Nat → Prop} {st : Fi.St} (h : Sys W p o st) (hb : ∀ i, o i → W'.heap[i]? = W.heap[i]?) : Sys W' p o st := by
  obtain ⟨mb, T, h1, h2, rfl, h3⟩ := h
  exact ⟨mb, T, h1.stays hb, h2, rfl, h3⟩

structure CIs (W : World) (c mb p : Nat) (of : Nat → Prop) (most u : Nat) (K : List Ke) (fs : Fi.St) : Prop where
  sits : CSits W c mb p most u K
  rise : K.Pairwise fun x y => x.u < y.u
  top : ∀ x ∈ K, x.u ≤ u ∧ x.f.p ≤ u
  sys : Sys W p of fs
  apart : ∀ i, COwn c mb K i → ¬ of i
  most1 : 1 ≤ most
  most2 : most ≤ 64
  len : K.length ≤ most

section
variable {W W' w : World} {c mb p most u : Nat} {of of' : Nat → Prop} {K K' R : List Ke} {fs fs' : Fi.St} {x : Ke}

theorem CIs.later (h : CIs W c mb p of most u K fs) (hb : Below W.heap.size W W') : CIs W' c mb p of most u K fs := ⟨h.sits.later hb, h.rise, h.top, h.sys.later hb, h.apart, h.most1, h.most2, h.len⟩
/-- The file system turns. -/
theorem CIs.fsTurn (h : CIs W c mb p of most u K fs) (hs : Sys W' p of' fs') (ht : Turn of W of' W') : CIs W' c mb p of' most u K fs' where
  sits := h.sits.stays fun i hi => ht.block i (h.sits.ownLt i hi) (h.apart i hi)
  rise := h.rise
  top := h.top
  sys := hs
  apart := fun i hi ho => by
    rcases ht.grows i ho with h1 | h1
    · exact h.apart i hi h1
    · have := h.sits.ownLt i hi; omega
  most1 := h.most1
  most2 := h.most2
  len := h.len
/-- The cache turns. -/
theorem CIs.turn {u' : Nat} (h : CIs W c mb p of most u K fs) (hs : CSits W' c mb p most u' K') (ht : Turn (COwn c mb K) W (COwn c mb K') W') (hr : K'.Pairwise fun x y => x.u < y.u) (hp : ∀ x ∈ K', x.u ≤ u' ∧ x.f.p ≤ u') (hl : K'.length ≤ most) : CIs W' c mb p of most u' K' fs where
  sits := hs
  rise := hr
  top := hp
  sys := h.sys.stays fun i hi => ht.block i (h.sys.lt i hi) fun h' => h.apart i h' hi
  apart := fun i hi ho => by
    rcases ht.grows i hi with h1 | h1
    · exact h.apart i h1 ho
    · have := h.sys.lt i ho; omega
  most1 := h.most1
  most2 := h.most2
  len := hl

theorem perm_found (ha : K.Pairwise fun x y => ¬ (x.f.n = y.f.n ∧ x.f.i = y.f.i)) (hx : x ∈ K) : K.Perm ((K.filter fun y => !y.f.is x.f.n x.f.i) ++ [x]) := by
  induction K with
  | nil => simp at hx
  | cons a r ih =>
    obtain ⟨a1, a2⟩ := List.pairwise_cons.1 ha
    rcases List.mem_cons.1 hx with rfl | hxr
    · rw [List.filter_cons_of_neg (by simp [Ca.Fr.is])]
      rw [List.filter_eq_self.2 fun y hy => ?_]
      · exact (List.perm_append_singleton _ _).symm
      · rw [Bool.not_eq_true', ← Bool.not_eq_true, Ca.is_iff]
        exact fun e => a1 y hy ⟨e.1.symm, e.2.symm⟩
    · rw [List.filter_cons_of_pos (by rw [Bool.not_eq_true', ← Bool.not_eq_true, Ca.is_iff]; exact a1 x hxr)]
      exact (ih a2 hxr).cons a
theorem filter_fr (K : List Ke) (n : ByteArray) (i : Int) : (K.filter fun y => !y.f.is n i).map (·.f) = Ca.gone (K.map (·.f)) n i := by
  unfold Ca.gone
  rw [List.filter_map]; rfl
theorem rise_snoc {b : Nat} {f : Ca.Fr} (hr : R.Pairwise fun x y => x.u < y.u) (ht : ∀ x ∈ R, x.u ≤ u) : (R ++ [(⟨f, b, u + 1⟩ : Ke)]).Pairwise fun x y => x.u < y.u := by
  rw [List.pairwise_append]
  refine ⟨hr, by simp, fun a ha y hy => ?_⟩
  simp at hy; subst hy
  have := ht a ha
  simp only
  omega

set_option maxRecDepth 100000 in
set_option maxHeartbeats 1000000 in
theorem cread_any (n : ByteArray) (i : Int) (h : CIs w c mb p of most u K fs) (hk : KeyOk n i) : Calls Try.prog 82 #[at_ c, spot n i] w fun e w' =>
    e = .returned (.tuple #[.string (if (Fi.read fs n i).2.1 = 0 then (Ca.dec (Fi.read fs n i).1).1 else ByteArray.empty), .int .i64 (if (Fi.read fs n i).2.1 = 0 then (Ca.dec (Fi.read fs n i).1).2 else (Fi.read fs n i).2.1)]) ∧ CIs w' c mb p of most u K (Fi.read fs n i).2.2 ∧ Turn (Un (COwn c mb K) of) w (Un (COwn c mb K) of) w' := by
  have hba : Below w.heap.size w (w.alloc (.cells #[.string n, .int .i64 i] 84)) := (Below.refl _ w).alloc (Nat.le_refl _) _
  have hbox := heap_alloc_new w (.cells #[.string n, .int .i64 i] 84)
  obtain ⟨wa, ha⟩ : ∃ wa, w.alloc (.cells #[.string n, .int .i64 i] 84) = wa := ⟨_, rfl⟩
  rw [ha] at hba hbox
  have h1 := h.later hba.drew
  have hc := (h.sits.later hba).cell0
  have b0 : wa.cell? ⟨w.heap.size, 0, none⟩ = some (.string n) := by simp [World.cell?, hbox]
  have b1 : wa.cell? ⟨w.heap.size, 1, none⟩ = some (.int .i64 i) := by simp [World.cell?, hbox]
  have HR : Hid (Calls _ _ _ _ _) := read_any n i wa.drew h1.sys hk.n
  have HI : Hid (CIs _ _ _ _ _ _ _ _ _) := h1
  have HT : Hid (Turn (Un (COwn c mb K) of) w (Un (COwn c mb K) of) wa.drew) := Turn.below hba.drew
  have HZ : Hid ((Fi.read fs n i).2.1 = 0 → (Fi.read fs n i).1.size = 128) := fun h0 => by
    unfold Fi.read at h0 ⊢
    by_cases hh : Fi.has fs n i = false
    · rw [if_pos hh] at h0; cases h0
    · rw [if_neg hh] at h0 ⊢
      by_cases ha0 : fs.ahead = 0
      · rw [if_pos ha0] at h0; cases h0
      · rw [if_neg ha0]
        simp only [Bool.not_eq_false] at hh
        obtain ⟨i0, i1⟩ := Fi.has_iff.1 hh
        rcases h.sys.good.rows_each n with h2 | ⟨_, _, h2⟩
        · rw [h2] at i1; simp at i1; omega
        · refine h2 _ ?_
          unfold Fi.page
          rw [List.getD_eq_getElem?_getD, List.getElem?_eq_getElem (by omega)]
          exact List.getElem_mem _
  clear h h1 hba hbox
  unfold at_ spot at *
  generalize Fi.read fs n i = rd at *
  obtain ⟨s, e1, fs1⟩ := rd
  simp only at HR HZ ⊢
  by_cases h0 : e1 = 0
  · subst h0
    simp only [if_true]
    have HD : Hid (∀ W, Calls Try.prog 28 #[.string s] W fun e w' => e = .returned (.tuple #[.string (Ca.dec s).1, .int .i64 (Ca.dec s).2]) ∧ Below W.heap.size W w') := fun W => decode_any s W (by have := HZ.out rfl; omega)
    generalize (Ca.dec s).1 = d at *
    generalize (Ca.dec s).2 = de at *
    go_enter Try.func82, Try.ntmps82
    go_wp2_with fail
    go_region_law
      (first
      | (go_simp; go_at_call 27; refine Calls.mono HR.out ?_; rintro e w2 ⟨rfl, hs2, ht2⟩; have H2 : Hid (_ ∧ _) := And.intro (HI.out.fsTurn hs2 ht2) (HT.out.trans ht2.unRight); clear hs2 ht2)
      | fail)
    all_goals
      go_wp2_with fail
      refine (HD.out _).mono ?_
      rintro e w3 ⟨rfl, hb3⟩
      have H3 : Hid (_ ∧ _) := And.intro (H2.out.1.later hb3) (H2.out.2.trans (Turn.below hb3))
      clear hb3
      go_wp2
      go_ret2
      exact ⟨rfl, H3.out⟩
  · simp only [if_neg h0]
    have hb : (e1 == 0) = false := by rw [beq_eq_false_iff_ne]; exact h0
    go_enter Try.func82, Try.ntmps82
    go_wp2_with fail
    go_region_law
      (first
      | (go_simp; go_at_call 27; refine Calls.mono HR.out ?_; rintro e w2 ⟨rfl, hs2, ht2⟩; have H2 : Hid (_ ∧ _) := And.intro (HI.out.fsTurn hs2 ht2) (HT.out.trans ht2.unRight); clear hs2 ht2)
      | fail)
    all_goals
      go_wp2
      go_ret2
      exact ⟨rfl, H2.out⟩

end
end Go.Proofs.Ytnlhgcpmmcmknaa
