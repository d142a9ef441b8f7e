/- A row that the call has made, beside a cache that it has made. -/
import Derived.Test.YtnlhgcpmmcmknaaCKeep
import Derived.Deep.AppendLies
namespace Go.Proofs.Ytnlhgcpmmcmknaa
open Go.RowKit Go.Maps

/-- The row v is the call's own, and no block of o. -/
structure RowBy (w W : World) (o : Nat → Prop) (e size : Nat) (v : Value) (n : Nat) (xs : List Value) : Prop where
  own : W.ownsRow w.heap.size e size v n xs
  off : ∀ g, v.ownBlock = some g → ¬ o g

theorem CSys.stays {W W' : World} {c p u : Nat} {o : Nat → Prop} {st : Ca.St} (h : CSys W c p o st u) (hb : ∀ i, o i → W'.heap[i]? = W.heap[i]?) : CSys W' c p o st u := by
  obtain ⟨mb, of, K, h1, h2, rfl⟩ := h
  exact ⟨mb, of, K, ⟨h1.sits.stays fun i hi => hb i (.inl hi), h1.rise, h1.top, h1.sys.stays fun i hi => hb i (.inr hi), h1.apart, h1.most1, h1.most2, h1.len⟩, h2, rfl⟩

section
variable {w W W' : World} {o o' : Nat → Prop} {e size : Nat} {v : Value} {n : Nat} {xs : List Value} {c p u : Nat} {st : Ca.St}

theorem RowBy.nil : RowBy w W o e size (.slice none 0 0) 0 [] := ⟨World.ownsRow_nil _ _ _ _, fun g h => by cases h⟩
theorem RowBy.later (h : RowBy w W o e size v n xs) (hb : Below W.heap.size W W') : RowBy w W' o e size v n xs :=
  ⟨ownsRow_blocks h.own fun g hg => hb.block g (h.own.lt g hg).2, h.off⟩
theorem RowBy.turn (h : RowBy w W o e size v n xs) (ht : Turn o W o' W') : RowBy w W' o' e size v n xs :=
  ⟨ownsRow_blocks h.own fun g hg => ht.block g (h.own.lt g hg).2 (h.off g hg), fun g hg ho => by
    rcases ht.grows g ho with h1 | h1
    · exact h.off g hg h1
    · have := (h.own.lt g hg).2; omega⟩
/-- A new row that the call lays. -/
theorem RowBy.lit (hc : CIn w W c p o st u) (cs : Array Value) (n : Nat) (hm : n ≤ maxLen) (hs : cs.size = n * size) :
    RowBy w (W.alloc (.cells cs e)) o e size (.slice (some ⟨W.heap.size, 0, none⟩) n n) n cs.toList :=
  ⟨World.ownsRow_lit W cs n hc.below.size hm hs, fun g hg ho => by
    have := hc.sys.lt g ho
    simp [Value.ownBlock] at hg
    omega⟩
/-- What is appended to a row leaves the cache as it is. -/
theorem CIn.grown (h : CIn w W c p o st u) (hr : RowBy w W o e size v n xs) (hg : W.grownBy W' v.ownBlock) : CIn w W' c p o st u :=
  ⟨h.sys.stays fun i hi => hg.block i (h.sys.lt i hi) fun e => hr.off i e.symm hi,
   h.below.grown hg h.below.size fun q e => (hr.own.lt q e).1, h.new⟩
theorem RowBy.grown {g cap n' : Nat} {xs' : List Value} (h : CIn w W c p o st u) (hr : RowBy w W o e size v n xs) (hown : W'.ownsRow w.heap.size e size (.slice (some ⟨g, 0, none⟩) n' cap) n' xs') (hl : v.ownBlock = some g ∨ g = W.heap.size) : RowBy w W' o e size (.slice (some ⟨g, 0, none⟩) n' cap) n' xs' :=
  ⟨hown, fun q hq ho => by
    have e : g = q := by simpa [Value.ownBlock] using hq
    subst e
    rcases hl with hl | hl
    · exact hr.off g hl ho
    · have := h.sys.lt g ho; omega⟩
/-- Another row, of which the one that turns is no part. -/
theorem RowBy.beside {e2 size2 n2 : Nat} {v2 : Value} {xs2 : List Value} (h : RowBy w W o e size v n xs) (hg : W.grownBy W' v2.ownBlock) (hne : ∀ g, v.ownBlock = some g → v2.ownBlock ≠ some g) (_ : RowBy w W o e2 size2 v2 n2 xs2) : RowBy w W' o e size v n xs :=
  ⟨ownsRow_blocks h.own fun g hg' => hg.block g (h.own.lt g hg').2 fun e => hne g hg' e.symm, h.off⟩

theorem CIn.getT (h : CIn w W c p o st u) (n : ByteArray) (i : Int) (hu : u < 9223372036854775800) (hk : KeyOk n i) (hn : n.size ≤ 1000) {r : ByteArray × Int × Ca.St} (hr : Ca.get st n i = r) :
    Calls Try.prog 31 #[at_ c, .string n, .int .i64 i] W fun e w' => ∃ o' u', u' ≤ u + 1 ∧ e = .returned (.tuple #[.string r.1, .int .i64 r.2.1]) ∧ CIn w w' c p o' r.2.2 u' ∧ Turn o W o' w' := by
  subst hr
  refine (cget_any n i h.sys hu hk hn).mono ?_
  rintro e w' ⟨o', u', hu', rfl, h1, h2⟩
  exact ⟨o', u', hu', rfl, h.turn h1 h2, h2⟩
theorem CIn.doneT (h : CIn w W c p o st u) (d : Cd) (hok : CdOk d) (hs : d.name.size ≤ 40 ∧ d.data.size ≤ 400) (hu : u < 9223372036854775800) :
    Calls Try.prog 14 #[at_ c, .agg d.cells] W fun e w' => ∃ o' u', u' ≤ u + 1 ∧ e = .returned (.tuple #[.string (actC st d).1, .int .i64 (actC st d).2.1]) ∧ CIn w w' c p o' (actC st d).2.2 u' ∧ Turn o W o' w' := by
  refine (done_c d h.sys hok hs.1 hs.2 hu).mono ?_
  rintro e w' ⟨o', u', hu', rfl, h1, h2⟩
  exact ⟨o', u', hu', rfl, h.turn h1 h2, h2⟩
theorem CIn.unpinT (h : CIn w W c p o st u) (n : ByteArray) (i : Int) (hu : u < 9223372036854775800) (hk : KeyOk n i) {r : Int × Ca.St} (hr : Ca.unpin st n i = r) :
    Calls Try.prog 36 #[at_ c, .string n, .int .i64 i] W fun e w' => ∃ o', e = .returned (.int .i64 r.1) ∧ CIn w w' c p o' r.2 u ∧ Turn o W o' w' := by
  subst hr
  refine (cunpin_any n i h.sys hu hk).mono ?_
  rintro e w' ⟨o', rfl, h1, h2⟩
  exact ⟨o', rfl, h.turn h1 h2, h2⟩
theorem CIn.dropT (h : CIn w W c p o st u) (n : ByteArray) :
    Calls Try.prog 23 #[at_ c, .string n] W fun e w' => ∃ o', e = .returned (.tuple #[]) ∧ CIn w w' c p o' (Ca.drop st n) u ∧ Turn o W o' w' := by
  refine (cdrop_any n h.sys).mono ?_
  rintro e w' ⟨o', rfl, hs, ht⟩
  exact ⟨o', rfl, h.turn hs ht, ht⟩
theorem CIn.failT (h : CIn w W c p o st u) (k : Int) (hk : k ≤ 9223372036854775807) {r : Int × Fi.St} (hr : Fi.fail st.fs k = r) :
    Calls Try.prog 26 #[at_ p, .int .i64 k] W fun e w' => ∃ o', e = .returned (.int .i64 r.1) ∧ CIn w w' c p o' { st with fs := r.2 } u ∧ Turn o W o' w' := by
  subst hr
  obtain ⟨of, hs, hgo⟩ := h.sys.file
  refine (fail_any k W hs hk).mono ?_
  rintro e w' ⟨rfl, hs2, ht2⟩
  obtain ⟨o2, h2, h3⟩ := hgo _ _ _ hs2 ht2
  exact ⟨o2, rfl, h.turn h2 h3, h3⟩
theorem CIn.good (h : CIn w W c p o st u) : Fi.Good st.fs := by
  obtain ⟨of, hs, _⟩ := h.file
  exact hs.good
theorem CIn.apartL (h : CIn w W c p o st u) : Ca.Apart st.l := by
  obtain ⟨mb, of, K, h1, h2, _⟩ := h.sys
  rw [← h2]
  unfold Ca.Apart
  rw [List.pairwise_map]
  exact h1.sits.apart
end

end Go.Proofs.Ytnlhgcpmmcmknaa
