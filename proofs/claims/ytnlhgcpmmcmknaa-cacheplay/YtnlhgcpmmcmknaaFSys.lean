/- A file system in memory: its block, its map of rows, the rows; what turns, and what stays. -/
import Derived.Test.YtnlhgcpmmcmknaaFMath
import Derived.Test.YtnlhgcpmmcmknaaFRow
namespace Go.Proofs.Ytnlhgcpmmcmknaa
open Go.RowKit Go.Maps

/-- How an element of the map reads: as the very value that it is. -/
def heldR (v : Value) : Option (DataW Value × List MemPlace) := some (.held v, [])

theorem Try.zeroRow (w : World) : (zeroValue 78).run Try.prog w = .ok (.slice none 0 0) w := by kernel_rfl
theorem Try.keyed : Keyed Try.prog 9 := string_keyed Try.underlying9
theorem key_of {s : ByteArray} (h : s.size ≤ maxLen) : keyOf Try.prog 9 (.string s) = some (.string s.data.toList) := by simp [keyOf, Try.underlying9, mapKey, h]

theorem owns_tight {P : Program} {k : TypeId} {R : Value → Option (DataW Value × List MemPlace)} {w : World} {b n : Nat} {D : DataW Value} (h : w.ownsMap P k R b n D) {m : Nat} (hm : Maps.size D = m) : w.ownsMap P k R b m D := by
  obtain ⟨es, clock, hb, F, hs, rfl⟩ := h
  refine ⟨es, clock, hb, F, ?_, rfl⟩
  rw [← hm]
  simp [Maps.size, length_sorted]

/-- Names, each with the slice that lies in the map, and the pages that lie there. -/
abbrev Tab := List (ByteArray × (Value × List ByteArray))
def hdrs (T : Tab) : List (ByteArray × Value) := Fi.mapv (·.1) T
def filesOf (T : Tab) : Fi.Files := Fi.mapv (·.2) T

theorem hdrs_length (T : Tab) : (hdrs T).length = T.length := Fi.mapv_length _ _
theorem hdrs_put (T : Tab) (n : ByteArray) (v : Value) (l : List ByteArray) : hdrs (Fi.put T n (v, l)) = Fi.put (hdrs T) n v := Fi.mapv_put _ _ _ _
theorem hdrs_del (T : Tab) (n : ByteArray) : hdrs (Fi.del T n) = Fi.del (hdrs T) n := Fi.mapv_del _ _ _
theorem files_put (T : Tab) (n : ByteArray) (v : Value) (l : List ByteArray) : filesOf (Fi.put T n (v, l)) = Fi.put (filesOf T) n l := Fi.mapv_put _ _ _ _
theorem files_del (T : Tab) (n : ByteArray) : filesOf (Fi.del T n) = Fi.del (filesOf T) n := Fi.mapv_del _ _ _

/-- The file system at p, its map in block mb. -/
structure Sits (W : World) (p mb : Nat) (room : Nat) (ahead : Int) (T : Tab) : Prop where
  block : W.heap[p]? = some (.cells #[.int .i64 room, .map (some mb), .int .i64 ahead] 73 (0, 0))
  map : W.ownsMap Try.prog 9 heldR mb T.length (.map (Fi.ents (hdrs T)))
  row : ∀ t ∈ T, ∃ g cap, t.2.1 = .slice (some ⟨g, 0, none⟩) t.2.2.length cap ∧ W.ownsRow 0 9 1 t.2.1 t.2.2.length (scells t.2.2)
  apart : ∀ s ∈ T, ∀ t ∈ T, s.1 ≠ t.1 → s.2.1.ownBlock ≠ t.2.1.ownBlock

/-- The blocks that are the file system's own. -/
def Own (p mb : Nat) (T : Tab) (i : Nat) : Prop := i = p ∨ i = mb ∨ ∃ t ∈ T, t.2.1.ownBlock = some i

/-- Of what was there only blocks of o have turned; what is the file system's own then was so, or is new. -/
structure Turn (o : Nat → Prop) (W : World) (o' : Nat → Prop) (W' : World) : Prop where
  os : W'.os = W.os
  tape : W'.tape = W.tape
  output : W'.output = W.output
  size : W.heap.size ≤ W'.heap.size
  block : ∀ i, i < W.heap.size → ¬ o i → W'.heap[i]? = W.heap[i]?
  grows : ∀ i, o' i → o i ∨ W.heap.size ≤ i

theorem Turn.below {o : Nat → Prop} {W W' : World} (h : Below W.heap.size W W') : Turn o W o W' := ⟨h.os, h.tape, h.output, h.size, fun i hi _ => h.block i hi, fun _ h => .inl h⟩
theorem Turn.trans {o o' o'' : Nat → Prop} {a b c : World} (h : Turn o a o' b) (k : Turn o' b o'' c) : Turn o a o'' c where
  os := k.os.trans h.os
  tape := k.tape.trans h.tape
  output := k.output.trans h.output
  size := Nat.le_trans h.size k.size
  block := fun i hi ho => (k.block i (Nat.lt_of_lt_of_le hi h.size) (fun h' => by rcases h.grows i h' with h1 | h1; exact ho h1; omega)).trans (h.block i hi ho)
  grows := fun i hi => by
    rcases k.grows i hi with h1 | h1
    · exact h.grows i h1
    · exact .inr (Nat.le_trans h.size h1)
/-- Where all that is the file system's own lies behind B, nothing ahead of B turns. -/
theorem Turn.toBelow {o o' : Nat → Prop} {W W' : World} (h : Turn o W o' W') {B : Nat} (hB : B ≤ W.heap.size) (ho : ∀ i, o i → B ≤ i) : Below B W W' :=
  ⟨h.os, h.tape, h.output, h.size, fun i hi => h.block i (by omega) (fun h' => by have := ho i h'; omega)⟩
theorem Turn.behind {o o' : Nat → Prop} {W W' : World} (h : Turn o W o' W') {B : Nat} (hB : B ≤ W.heap.size) (ho : ∀ i, o i → B ≤ i) : ∀ i, o' i → B ≤ i := fun i hi => by
  rcases h.grows i hi with h1 | h1
  · exact ho i h1
  · omega

section
variable {W W' : World} {p mb room : Nat} {ahead : Int} {T : Tab}

theorem Sits.cell0 (h : Sits W p mb room ahead T) : W.cell? ⟨p, 0, none⟩ = some (.int .i64 room) := by simp [World.cell?, h.block]
theorem Sits.cell1 (h : Sits W p mb room ahead T) : W.cell? ⟨p, 1, none⟩ = some (.map (some mb)) := by simp [World.cell?, h.block]
theorem Sits.cell2 (h : Sits W p mb room ahead T) : W.cell? ⟨p, 2, none⟩ = some (.int .i64 ahead) := by simp [World.cell?, h.block]
theorem Sits.free2 (h : Sits W p mb room ahead T) : W.frozen? ⟨p, 2, none⟩ = false := by simp [World.frozen?, h.block]
theorem Sits.plt (h : Sits W p mb room ahead T) : p < W.heap.size := World.block_lt_of_cell? _ _ h.cell0
theorem Sits.mlt (h : Sits W p mb room ahead T) : mb < W.heap.size := h.map.lt
theorem Sits.pm (h : Sits W p mb room ahead T) : p ≠ mb := by
  rintro rfl
  obtain ⟨es, clock, hb, _⟩ := h.map
  rw [h.block] at hb
  cases hb
theorem Sits.rowAt (h : Sits W p mb room ahead T) {t : ByteArray × (Value × List ByteArray)} (ht : t ∈ T) : ∃ g cap cur, t.2.1 = .slice (some ⟨g, 0, none⟩) t.2.2.length cap ∧ W.heap[g]? = some (.cells cur 9 (0, 0)) ∧ g ≠ p ∧ g ≠ mb ∧ g < W.heap.size := by
  obtain ⟨g, cap, hv, hr⟩ := h.row t ht
  rcases hr.2 with ⟨h', _⟩ | ⟨g', cap', cur, h', _, hg, _⟩
  · rw [hv] at h'; cases h'
  · rw [hv] at h'
    simp only [Value.slice.injEq, Option.some.injEq, Addr.mk.injEq, and_true, true_and] at h'
    obtain ⟨rfl, rfl⟩ := h'
    refine ⟨g, cap, cur, hv, hg, ?_, ?_, (Array.getElem?_eq_some_iff.1 hg).1⟩
    · rintro rfl
      rw [h.block] at hg
      simp at hg
    · rintro rfl
      obtain ⟨es, clock, hb, _⟩ := h.map
      rw [hb] at hg
      cases hg
theorem Sits.ownLt (h : Sits W p mb room ahead T) : ∀ i, Own p mb T i → i < W.heap.size := by
  rintro i (rfl | rfl | ⟨t, ht, hi⟩)
  · exact h.plt
  · exact h.mlt
  · obtain ⟨g, cap, cur, hv, _, _, _, hlt⟩ := h.rowAt ht
    rw [hv] at hi
    simp [Value.ownBlock] at hi
    omega

theorem ownsMap_blocks {P : Program} {k : TypeId} {R : Value → Option (DataW Value × List MemPlace)} {b n : Nat} {D : DataW Value} (h : W.ownsMap P k R b n D) (hb : W'.heap[b]? = W.heap[b]?) : W'.ownsMap P k R b n D := by
  obtain ⟨es, clock, h1, r⟩ := h
  exact ⟨es, clock, hb.trans h1, r⟩
theorem ownsRow_blocks {base e size : Nat} {v : Value} {n : Nat} {xs : List Value} (h : W.ownsRow base e size v n xs) (hb : ∀ g, v.ownBlock = some g → W'.heap[g]? = W.heap[g]?) : W'.ownsRow base e size v n xs := by
  obtain ⟨h1, h2⟩ := h
  refine ⟨h1, ?_⟩
  rcases h2 with h2 | ⟨g, cap, cur, rfl, h3, h4, h5⟩
  · exact .inl h2
  · exact .inr ⟨g, cap, cur, rfl, h3, (hb g rfl).trans h4, h5⟩

/-- The file system stays where none of its own blocks turns. -/
theorem Sits.stays (h : Sits W p mb room ahead T) (hb : ∀ i, Own p mb T i → W'.heap[i]? = W.heap[i]?) : Sits W' p mb room ahead T where
  block := (hb p (.inl rfl)).trans h.block
  map := ownsMap_blocks h.map (hb mb (.inr (.inl rfl)))
  row := fun t ht => by
    obtain ⟨g, cap, hv, hr⟩ := h.row t ht
    exact ⟨g, cap, hv, ownsRow_blocks hr fun i hi => hb i (.inr (.inr ⟨t, ht, hi⟩))⟩
  apart := h.apart
theorem Sits.later (h : Sits W p mb room ahead T) (hb : Below W.heap.size W W') : Sits W' p mb room ahead T := h.stays fun i hi => hb.block i (h.ownLt i hi)

theorem block_three {b0 b1 b2 u : Value} {t : TypeId} (hb : W.heap[p]? = some (.cells #[b0, b1, b2] t (0, 0))) : (W.setCell ⟨p, 2, none⟩ u).heap[p]? = some (.cells #[b0, b1, u] t (0, 0)) := by
  exact heap_setCell_same W p 2 _ t u hb

/-- How many reads are done yet. -/
theorem Sits.aheadTo (h : Sits W p mb room ahead T) (k : Int) : Sits (W.setCell ⟨p, 2, none⟩ (.int .i64 k)) p mb room k T where
  block := block_three h.block
  map := h.map.setCell (a := ⟨p, 2, none⟩) (fun e => h.pm e.symm) _
  row := fun t ht => by
    obtain ⟨g, cap, hv, hr⟩ := h.row t ht
    obtain ⟨g', _, _, hv', _, hp, _⟩ := h.rowAt ht
    refine ⟨g, cap, hv, ownsRow_blocks hr fun i hi => Below.heap_setCell _ _ _ _ ?_⟩
    rw [hv'] at hi
    simp [Value.ownBlock] at hi
    show i ≠ p
    omega
  apart := h.apart
theorem turn_set {o : Nat → Prop} {a : Addr} (ho : o a.block) (u : Value) : Turn o W o (W.setCell a u) where
  os := rfl
  tape := rfl
  output := rfl
  size := by simp [World.setCell]
  block := fun i _ hi => Below.heap_setCell _ _ _ _ (fun e => hi (e ▸ ho))
  grows := fun _ h => .inl h

theorem find_hdrs (T : Tab) (n : ByteArray) : Fi.find (hdrs T) n = (Fi.find T n).map (·.1) := Fi.mapv_find _ _ _
theorem find_files (T : Tab) (n : ByteArray) : Fi.find (filesOf T) n = (Fi.find T n).map (·.2) := Fi.mapv_find _ _ _

/-- A page of a file is written where it lies. -/
theorem Sits.page (h : Sits W p mb room ahead T) (hs : Fi.Sorted T) {n : ByteArray} {v : Value} {l : List ByteArray} (hf : Fi.find T n = some (v, l)) {g cap : Nat} (hv : v = .slice (some ⟨g, 0, none⟩) l.length cap) (k : Nat) (s : ByteArray) :
    Sits (W.setCell ⟨g, k, none⟩ (.string s)) p mb room ahead (Fi.put T n (v, l.set k s)) ∧ Turn (Own p mb T) W (Own p mb (Fi.put T n (v, l.set k s))) (W.setCell ⟨g, k, none⟩ (.string s)) := by
  have hm := Fi.find_mem hf
  obtain ⟨g', cap', cur', hv', hg', hgp, hgm, _⟩ := h.rowAt hm
  have hgg : g' = g := by simp only at hv'; rw [hv] at hv'; simp at hv'; exact hv'.1.symm
  subst hgg
  have hh : Fi.put (hdrs T) n v = hdrs T := Fi.put_same ((Fi.mapv_sorted _).2 hs) ((find_hdrs T n).trans (by rw [hf]; rfl))
  have hown : Own p mb T g' := .inr (.inr ⟨_, hm, by rw [hv']; rfl⟩)
  refine ⟨⟨?_, ?_, ?_, ?_⟩, ?_⟩
  · exact (Below.heap_setCell _ _ _ _ (fun e => hgp e.symm)).trans h.block
  · have := h.map.setCell (a := ⟨g', k, none⟩) (fun e => hgm e.symm) (.string s)
    rw [hdrs_put, hh]
    exact owns_tight this (by rw [Fi.ents_size, hdrs_length]; have := congrArg List.length hh; rw [← hdrs_put T n v (l.set k s), hdrs_length, hdrs_length] at this; exact this.symm)
  · intro t ht
    rcases Fi.mem_put.1 ht with rfl | ⟨ht, hne⟩
    · obtain ⟨g2, cap2, hv2, hr2⟩ := h.row _ hm
      simp only at hv2 hr2 ⊢
      subst hv
      have hst := (hr2.stored k (.string s)).1
      rw [scells_set] at hst
      exact ⟨g', cap, by simp, by simpa using hst⟩
    · obtain ⟨g2, cap2, hv2, hr2⟩ := h.row t ht
      refine ⟨g2, cap2, hv2, ownsRow_blocks hr2 fun i hi => Below.heap_setCell _ _ _ _ fun e => ?_⟩
      have := h.apart t ht _ hm hne
      rw [hi, hv'] at this
      simp [Value.ownBlock] at this
      exact this e
  · intro a ha b hb hne
    have hbk : ∀ c ∈ Fi.put T n (v, l.set k s), ∃ d ∈ T, c.1 = d.1 ∧ c.2.1 = d.2.1 := by
      intro c hc
      rcases Fi.mem_put.1 hc with rfl | ⟨hc, _⟩
      · exact ⟨_, hm, rfl, rfl⟩
      · exact ⟨c, hc, rfl, rfl⟩
    obtain ⟨a', ha', e1, e2⟩ := hbk a ha
    obtain ⟨b', hb', e3, e4⟩ := hbk b hb
    rw [e2, e4]
    exact h.apart a' ha' b' hb' (by rw [← e1, ← e3]; exact hne)
  · have ht := turn_set (W := W) (o := Own p mb T) (a := ⟨g', k, none⟩) hown (.string s)
    refine ⟨ht.os, ht.tape, ht.output, ht.size, ht.block, ?_⟩
    rintro i (rfl | rfl | ⟨t, ht2, hi⟩)
    · exact .inl (.inl rfl)
    · exact .inl (.inr (.inl rfl))
    · rcases Fi.mem_put.1 ht2 with rfl | ⟨ht2, _⟩
      · exact .inl (.inr (.inr ⟨_, hm, hi⟩))
      · exact .inl (.inr (.inr ⟨t, ht2, hi⟩))

/-- A file is taken out of the map. -/
theorem Sits.drop (h : Sits W p mb room ahead T) {n : ByteArray} {m : Nat} (hm : W'.ownsMap Try.prog 9 heldR mb m (.map (Fi.ents (Fi.del (hdrs T) n)))) (ht : W.mapTurned W' mb) :
    Sits W' p mb room ahead (Fi.del T n) ∧ Turn (Own p mb T) W (Own p mb (Fi.del T n)) W' := by
  have hg := ht.grown
  refine ⟨⟨?_, ?_, ?_, ?_⟩, ?_⟩
  · exact (hg.block p h.plt (by simp [h.pm])).trans h.block
  · rw [← hdrs_del] at hm
    exact owns_tight hm (by rw [Fi.ents_size, hdrs_length])
  · intro t htm
    obtain ⟨htm, _⟩ := Fi.mem_del.1 htm
    obtain ⟨g, cap, hv, hr⟩ := h.row t htm
    obtain ⟨g', _, _, hv', _, _, hgm, _⟩ := h.rowAt htm
    refine ⟨g, cap, hv, hr.kept hg (.inr ?_)⟩
    rw [hv']
    simp [Value.ownBlock, hgm]
  · intro a ha b hb
    exact h.apart a (Fi.mem_del.1 ha).1 b (Fi.mem_del.1 hb).1
  · refine ⟨hg.os, hg.tape, hg.output, hg.size, fun i hi ho => hg.block i hi (fun e => ho (.inr (.inl (by simpa using e)))), ?_⟩
    rintro i (rfl | rfl | ⟨t, ht2, hi⟩)
    · exact .inl (.inl rfl)
    · exact .inl (.inr (.inl rfl))
    · exact .inl (.inr (.inr ⟨t, (Fi.mem_del.1 ht2).1, hi⟩))

/-- The slice that the map has at a name, or none. -/
def hdrAt (T : Tab) (n : ByteArray) : Value := (Fi.find (hdrs T) n).getD (.slice none 0 0)

/-- A file has another row: a new one, or its own, grown. -/
theorem Sits.store (h : Sits W p mb room ahead T) {n : ByteArray} {W1 W2 : World} {l : List ByteArray} {g cap : Nat}
    (hrow : W1.ownsRow 0 9 1 (.slice (some ⟨g, 0, none⟩) l.length cap) l.length (scells l)) (h1 : W.grownBy W1 (hdrAt T n).ownBlock) (hloc : (hdrAt T n).ownBlock = some g ∨ W.heap.size ≤ g)
    {m : Nat} (hm : W2.ownsMap Try.prog 9 heldR mb m (.map (Fi.ents (Fi.put (hdrs T) n (.slice (some ⟨g, 0, none⟩) l.length cap))))) (h2 : W1.grownBy W2 (some mb)) :
    Sits W2 p mb room ahead (Fi.put T n (.slice (some ⟨g, 0, none⟩) l.length cap, l)) ∧ Turn (Own p mb T) W (Own p mb (Fi.put T n (.slice (some ⟨g, 0, none⟩) l.length cap, l))) W2 := by
  -- the old row's block is one of a file's
  have hold : ∀ i, (hdrAt T n).ownBlock = some i → ∃ t ∈ T, t.1 = n ∧ t.2.1.ownBlock = some i := by
    intro i hi
    unfold hdrAt at hi
    rw [find_hdrs] at hi
    cases hf : Fi.find T n with
    | none => rw [hf] at hi; cases hi
    | some a => rw [hf] at hi; exact ⟨_, Fi.find_mem hf, rfl, hi⟩
  have hp1 : some p ≠ (hdrAt T n).ownBlock := fun e => by
    obtain ⟨t, ht, _, hi⟩ := hold p e.symm
    obtain ⟨g', _, _, hv', _, hgp, _, _⟩ := h.rowAt ht
    rw [hv'] at hi
    simp [Value.ownBlock] at hi
    exact hgp hi
  have hm1 : some mb ≠ (hdrAt T n).ownBlock := fun e => by
    obtain ⟨t, ht, _, hi⟩ := hold mb e.symm
    obtain ⟨g', _, _, hv', _, _, hgm, _⟩ := h.rowAt ht
    rw [hv'] at hi
    simp [Value.ownBlock] at hi
    exact hgm hi
  have hgm : g ≠ mb := by
    rcases hloc with h' | h'
    · intro e; rw [e] at h'; exact hm1 h'.symm
    · have := h.mlt; omega
  have hother : ∀ t ∈ T, t.1 ≠ n → t.2.1.ownBlock ≠ (hdrAt T n).ownBlock := by
    intro t ht hne e
    obtain ⟨g', _, _, hv', _⟩ := h.rowAt ht
    have e2 : (hdrAt T n).ownBlock = some g' := by rw [← e, hv']; rfl
    obtain ⟨s, hs, rfl, hsi⟩ := hold g' e2
    exact h.apart t ht s hs hne (by rw [hsi, hv']; rfl)
  refine ⟨⟨?_, ?_, ?_, ?_⟩, ?_⟩
  · exact ((h2.block p (Nat.lt_of_lt_of_le h.plt h1.size) (by simp [h.pm])).trans (h1.block p h.plt hp1)).trans h.block
  · rw [← hdrs_put T n _ l] at hm
    exact owns_tight hm (by rw [Fi.ents_size, hdrs_length])
  · intro t ht
    rcases Fi.mem_put.1 ht with rfl | ⟨ht, hne⟩
    · exact ⟨g, cap, rfl, hrow.kept h2 (.inr (by simp [Value.ownBlock, hgm]))⟩
    · obtain ⟨g2, cap2, hv2, hr2⟩ := h.row t ht
      obtain ⟨g', _, _, hv', _, _, hgm', _⟩ := h.rowAt ht
      refine ⟨g2, cap2, hv2, (hr2.kept h1 (.inr (hother t ht hne))).kept h2 (.inr ?_)⟩
      rw [hv']
      simp [Value.ownBlock, hgm']
  · have key : ∀ t ∈ T, t.1 ≠ n → t.2.1.ownBlock ≠ some g := by
      intro t ht hne e
      rcases hloc with h' | h'
      · exact hother t ht hne (by rw [e, h'])
      · obtain ⟨g', _, _, hv', _, _, _, hlt⟩ := h.rowAt ht
        rw [hv'] at e
        simp [Value.ownBlock] at e
        omega
    intro a ha b hb hne
    rcases Fi.mem_put.1 ha with rfl | ⟨ha, hna⟩ <;> rcases Fi.mem_put.1 hb with rfl | ⟨hb, hnb⟩
    · exact absurd rfl hne
    · exact fun e => key b hb hnb e.symm
    · exact key a ha hna
    · exact h.apart a ha b hb hne
  · refine ⟨h2.os.trans h1.os, h2.tape.trans h1.tape, h2.output.trans h1.output, Nat.le_trans h1.size h2.size, fun i hi ho => ?_, ?_⟩
    · refine (h2.block i (Nat.lt_of_lt_of_le hi h1.size) (fun e => ho (.inr (.inl (by simpa using e))))).trans (h1.block i hi fun e => ?_)
      obtain ⟨t, ht, _, hi'⟩ := hold i e.symm
      exact ho (.inr (.inr ⟨t, ht, hi'⟩))
    · rintro i (rfl | rfl | ⟨t, ht2, hi⟩)
      · exact .inl (.inl rfl)
      · exact .inl (.inr (.inl rfl))
      · rcases Fi.mem_put.1 ht2 with rfl | ⟨ht2, _⟩
        · simp [Value.ownBlock] at hi
          subst hi
          rcases hloc with h' | h'
          · obtain ⟨t, ht, _, hi'⟩ := hold _ h'
            exact .inl (.inr (.inr ⟨t, ht, hi'⟩))
          · exact .inr h'
        · exact .inl (.inr (.inr ⟨t, ht2, hi⟩))

/-- What the map tells at a name. -/
theorem Sits.look (h : Sits W p mb room ahead T) {n : ByteArray} (hn : n.size ≤ maxLen) : (Instr.lookup 71 (.map (some mb)) (.string n) false).run Try.prog W = .ok (hdrAt T n) W := by
  obtain ⟨v, ps, hrun, hv⟩ := h.map.lookup Try.keyed Try.underlying71 (Try.zeroRow W) (zd := .held (.slice none 0 0)) (zp := []) rfl (key_of hn)
  rw [Fi.ents_at] at hv
  have : v = hdrAt T n := by
    unfold hdrAt
    cases hf : Fi.find (hdrs T) n with
    | none => rw [hf] at hv; simp [heldR] at hv; exact hv.1
    | some u => rw [hf] at hv; simp [heldR] at hv; exact hv.1
  rw [← this]; exact hrun

end

/-- The slice at a name: how long it is; where its pages lie. -/
theorem Sits.at {W : World} {p mb room : Nat} {ahead : Int} {T : Tab} (h : Sits W p mb room ahead T) (n : ByteArray) :
    (Fi.find T n = none ∧ hdrAt T n = .slice none 0 0 ∧ Fi.rows (filesOf T) n = []) ∨
    ∃ g cap l, Fi.find T n = some (.slice (some ⟨g, 0, none⟩) l.length cap, l) ∧ hdrAt T n = .slice (some ⟨g, 0, none⟩) l.length cap ∧ Fi.rows (filesOf T) n = l ∧ W.ownsRow 0 9 1 (.slice (some ⟨g, 0, none⟩) l.length cap) l.length (scells l) := by
  unfold hdrAt Fi.rows
  rw [find_hdrs, find_files]
  cases hf : Fi.find T n with
  | none => exact .inl ⟨rfl, rfl, rfl⟩
  | some a =>
    obtain ⟨g, cap, hv, hr⟩ := h.row _ (Fi.find_mem hf)
    obtain ⟨v, l⟩ := a
    simp only at hv hr
    subst hv
    exact .inr ⟨g, cap, l, rfl, rfl, rfl, hr⟩

/-- The file system at p, with all that is its own, is in the state st. -/
def Sys (W : World) (p : Nat) (o : Nat → Prop) (st : Fi.St) : Prop := ∃ mb T, Sits W p mb st.room st.ahead T ∧ filesOf T = st.fs ∧ o = Own p mb T ∧ Fi.Good st

theorem Sys.later {W W' : World} {p : Nat} {o : Nat → Prop} {st : Fi.St} (h : Sys W p o st) (hb : Below W.heap.size W W') : Sys W' p o st := by
  obtain ⟨mb, T, h1, h2⟩ := h
  exact ⟨mb, T, h1.later hb, h2⟩
theorem Sys.good {W : World} {p : Nat} {o : Nat → Prop} {st : Fi.St} (h : Sys W p o st) : Fi.Good st := by obtain ⟨_, _, _, _, _, g⟩ := h; exact g
theorem Sys.lt {W : World} {p : Nat} {o : Nat → Prop} {st : Fi.St} (h : Sys W p o st) : ∀ i, o i → i < W.heap.size := by
  obtain ⟨_, _, h1, _, rfl, _⟩ := h; exact h1.ownLt

/-- Strings in blocks of a kind. -/
def StrsIn (W : World) (ok : Nat → Prop) (v : Value) (l : List ByteArray) : Prop :=
  ∃ a cap, v = .slice a l.length cap ∧ l.length ≤ cap ∧ (l = [] ∨ ∃ b off, a = some ⟨b, off, none⟩ ∧ ok b ∧ ∀ j, j < l.length → W.cell? ⟨b, off + j, none⟩ = some (.string (l.getD j ByteArray.empty)))
theorem StrsIn.strs {W : World} {ok : Nat → Prop} {v : Value} {l : List ByteArray} (h : StrsIn W ok v l) : Strs W v l := by
  obtain ⟨a, cap, rfl, hc, h⟩ := h
  refine ⟨a, cap, rfl, hc, ?_⟩
  rcases h with h | ⟨b, off, rfl, _, h⟩
  · exact .inl h
  · exact .inr ⟨b, off, rfl, h⟩
theorem StrsIn.imp {W : World} {ok ok' : Nat → Prop} {v : Value} {l : List ByteArray} (h : StrsIn W ok v l) (hk : ∀ b, b < W.heap.size → ok b → ok' b) : StrsIn W ok' v l := by
  obtain ⟨a, cap, rfl, hc, h⟩ := h
  refine ⟨a, cap, rfl, hc, ?_⟩
  rcases h with h | ⟨b, off, rfl, hb, h⟩
  · exact .inl h
  · by_cases h0 : l = []
    · exact .inl h0
    · exact .inr ⟨b, off, rfl, hk b (World.block_lt_of_cell? _ _ (h 0 (List.length_pos_iff.2 h0))) hb, h⟩
theorem StrsIn.later {W W' : World} {ok : Nat → Prop} {v : Value} {l : List ByteArray} (h : StrsIn W ok v l) (hb : Below W.heap.size W W') : StrsIn W' ok v l := by
  obtain ⟨a, cap, rfl, hc, h⟩ := h
  refine ⟨a, cap, rfl, hc, ?_⟩
  rcases h with h | ⟨b, off, rfl, ho, h⟩
  · exact .inl h
  · exact .inr ⟨b, off, rfl, ho, fun j hj => cell_after hb (h j hj)⟩
/-- What is not the file system's own stays. -/
theorem StrsIn.turn {W W' : World} {o o' : Nat → Prop} {v : Value} {l : List ByteArray} (h : StrsIn W (fun b => ¬ o b) v l) (ht : Turn o W o' W') : StrsIn W' (fun b => ¬ o' b) v l := by
  obtain ⟨a, cap, rfl, hc, h⟩ := h
  refine ⟨a, cap, rfl, hc, ?_⟩
  rcases h with h | ⟨b, off, rfl, ho, h⟩
  · exact .inl h
  · by_cases h0 : l = []
    · exact .inl h0
    · have hlt := World.block_lt_of_cell? _ _ (h 0 (List.length_pos_iff.2 h0))
      refine .inr ⟨b, off, rfl, fun h' => ?_, fun j hj => ?_⟩
      · rcases ht.grows b h' with h1 | h1
        · exact ho h1
        · exact absurd hlt (by simp only; omega)
      · rw [World.cell?_of_block (a := ⟨b, off + j, none⟩) (ht.block b hlt ho)]
        exact h j hj
theorem StrsIn.of_own {w : World} {base n : Nat} {v : Value} {l : List ByteArray} (h : w.ownsRow base 9 1 v n (scells l)) : StrsIn w (fun b => base ≤ b) v l := by
  have hcell := fun g hg => h.cells (g := g) hg
  have hn : l.length = n := by have := h.1; simpa [scells] using this
  rcases h.2 with ⟨rfl, h0⟩ | ⟨g, cap, cur, rfl, hb, _, hcap, _⟩
  · have : l = [] := List.length_eq_zero_iff.1 (by omega)
    subst this
    exact ⟨none, 0, rfl, Nat.le_refl _, .inl rfl⟩
  · subst hn
    refine ⟨_, cap, rfl, hcap, .inr ⟨g, 0, rfl, hb, fun j hj => ?_⟩⟩
    have := hcell g rfl j _ (scells_get l j hj)
    rw [Addr.add_lit] at this
    exact this

end Go.Proofs.Ytnlhgcpmmcmknaa
