/- Both file systems in one world, apart from each other and from what is the law's own. -/
import Derived.Test.YtikbhklmedblbaaFRef6
import Derived.Test.YtikbhklmedblbaaFNames
import Derived.Test.YtikbhklmedblbaaFOpen
namespace Go.Proofs.Ytikbhklmedblbaa
open Go.RowKit Go.Maps

theorem Sys.stays {W W' : World} {p : Nat} {o q q' : Nat → Prop} {st : Fi.St} (h : Sys W p o st) (ht : Turn q W q' W') (hq : ∀ i, o i → ¬ q i) : Sys W' p o st := by
  obtain ⟨mb, T, h1, h2, rfl, h3⟩ := h
  exact ⟨mb, T, h1.stays fun i hi => ht.block i (h1.ownLt i hi) (hq i hi), h2, rfl, h3⟩
theorem Ref.imp {W : World} {ok ok' : Nat → Prop} {r : Nat} {st : Fi.St} (h : Ref W ok r st) (hk : ∀ b, b < W.heap.size → ok b → ok' b) : Ref W ok' r st := by
  obtain ⟨vL, T, h1, h2⟩ := h
  exact ⟨vL, T, h1.imp hk, h2⟩
theorem Ref.self {W : World} {ok : Nat → Prop} {r : Nat} {st : Fi.St} (h : Ref W ok r st) : ok r := by
  obtain ⟨vL, T, h1, _⟩ := h
  exact h1.self
theorem Turn.more {W W' : World} {o o' : Nat → Prop} (h : Turn o W o' W') (g : Nat → Prop) : Turn (fun b => o b ∨ g b) W (fun b => o' b ∨ g b) W' :=
  ⟨h.os, h.tape, h.output, h.size, fun i hi hn => h.block i hi (fun ho => hn (.inl ho)), fun i hi => by
    rcases hi with hi | hi
    · rcases h.grows i hi with h1 | h1
      · exact .inl (.inl h1)
      · exact .inr h1
    · exact .inl (.inr hi)⟩

/-- The program's file system at p, with its blocks o; the document's at r; the blocks g are the law's own. -/
structure Both (w W : World) (p r : Nat) (o g : Nat → Prop) (st st2 : Fi.St) : Prop where
  sys : Sys W p o st
  ref : Ref W (fun b => ¬ (o b ∨ g b)) r st2
  below : Below w.heap.size w W
  new : ∀ i, o i → w.heap.size ≤ i
  rnew : w.heap.size ≤ r
  own : ∀ i, g i → w.heap.size ≤ i ∧ i < W.heap.size ∧ ¬ o i

section
variable {w W W' : World} {p r : Nat} {o o' g g' : Nat → Prop} {st st' st2 st2' : Fi.St}
theorem Both.later (h : Both w W p r o g st st2) (hb : Below W.heap.size W W') : Both w W' p r o g st st2 :=
  ⟨h.sys.later hb, h.ref.later hb, bnext h.below hb, h.new, h.rnew, fun i hi => ⟨(h.own i hi).1, Nat.lt_of_lt_of_le (h.own i hi).2.1 hb.size, (h.own i hi).2.2⟩⟩
/-- Blocks that are new become the law's own. -/
theorem Both.more (h : Both w W p r o g st st2) (hb : Below W.heap.size W W') (hg : ∀ i, g' i → W.heap.size ≤ i ∧ i < W'.heap.size) : Both w W' p r o g' st st2 := by
  have h1 : Ref W (fun b => ¬ (o b ∨ g' b)) r st2 := h.ref.imp fun b hb hn => by
    rintro (h2 | h2)
    · exact hn (.inl h2)
    · have := (hg b h2).1; omega
  have hs := h.below.size
  exact ⟨h.sys.later hb, h1.later hb, bnext h.below hb, h.new, h.rnew, fun i hi => ⟨Nat.le_trans hs (hg i hi).1, (hg i hi).2, fun ho => by have := h.sys.lt i ho; have := (hg i hi).1; omega⟩⟩
theorem Both.done (h : Both w W p r o g st st2) (hs : Sys W' p o' st') (ht : Turn o W o' W') : Both w W' p r o' g st' st2 :=
  ⟨hs, h.ref.turn (ht.more g), h.below.trans (ht.toBelow h.below.size h.new), ht.behind h.below.size h.new, h.rnew, fun i hi => ⟨(h.own i hi).1, Nat.lt_of_lt_of_le (h.own i hi).2.1 ht.size, fun ho => by
    rcases ht.grows i ho with h1 | h1
    · exact (h.own i hi).2.2 h1
    · have := (h.own i hi).2.1; omega⟩⟩
theorem Both.said (h : Both w W p r o g st st2) (hr : Ref W' (fun b => ¬ (o b ∨ g b)) r st2') (ht : Turn (fun i => i = r) W (fun i => i = r) W') : Both w W' p r o g st st2' :=
  ⟨h.sys.stays ht (fun i ho e => h.ref.self (.inl (e ▸ ho))), hr, h.below.trans (ht.toBelow h.below.size (fun i e => by rw [e]; exact h.rnew)), h.new, h.rnew, fun i hi => ⟨(h.own i hi).1, Nat.lt_of_lt_of_le (h.own i hi).2.1 ht.size, (h.own i hi).2.2⟩⟩
/-- At a round's end nothing is the law's own. -/
theorem Both.drop (h : Both w W p r o g st st2) : Both w W p r o (fun _ => False) st st2 :=
  ⟨h.sys, h.ref.imp fun _ _ hn ho => hn (ho.imp id False.elim), h.below, h.new, h.rnew, fun _ hi => hi.elim⟩
/-- New memory is neither's. -/
theorem Both.free (h : Both w W p r o g st st2) : ∀ i, W.heap.size ≤ i → ¬ (o i ∨ g i) := by
  rintro i hi (h1 | h1)
  · have := h.sys.lt i h1; omega
  · have := (h.own i h1).2.1; omega
/-- What is the law's own may be written. -/
theorem Both.store (h : Both w W p r o g st st2) {a : Addr} (ha : g a.block) (u : Value) : Both w (W.setCell a u) p r o g st st2 := by
  have ht : Turn (fun b => o b ∨ g b) W (fun b => o b ∨ g b) (W.setCell a u) := turn_set (.inr ha) u
  have ht2 : Turn g W g (W.setCell a u) := turn_set ha u
  exact ⟨h.sys.stays ht2 (fun i ho hg => (h.own i hg).2.2 ho), h.ref.turn ht, h.below.trans (ht2.toBelow h.below.size fun i hi => (h.own i hi).1), h.new, h.rnew, fun i hi => ⟨(h.own i hi).1, Nat.lt_of_lt_of_le (h.own i hi).2.1 ht2.size, (h.own i hi).2.2⟩⟩
theorem Both.done_own (h : Both w W p r o g st st2) (ht : Turn o W o' W') : ∀ i, g i → W'.heap[i]? = W.heap[i]? := fun i hi => ht.block i (h.own i hi).2.1 (h.own i hi).2.2
theorem Both.said_own (h : Both w W p r o g st st2) (ht : Turn (fun i => i = r) W (fun i => i = r) W') : ∀ i, g i → W'.heap[i]? = W.heap[i]? := fun i hi => ht.block i (h.own i hi).2.1 (fun e => h.ref.self (.inr (e ▸ hi)))
end

/-- The law's own copy of an act, and the row that its pages lie in, a star behind them. -/
structure XAt (W : World) (xb g n : Nat) (cs : Array Value) (L : List ByteArray) : Prop where
  box : W.heap[xb]? = some (.cells cs 34 (0, 0))
  row : W.ownsRow 0 9 1 (.slice (some ⟨g, 0, none⟩) (n + 1) (n + 1)) (n + 1) (scells L)
theorem XAt.keep {W W' : World} {xb g n : Nat} {cs : Array Value} {L : List ByteArray} (h : XAt W xb g n cs L) (hb : ∀ i, i = xb ∨ i = g → W'.heap[i]? = W.heap[i]?) : XAt W' xb g n cs L :=
  ⟨(hb xb (.inl rfl)).trans h.box, ownsRow_blocks h.row fun i hi => hb i (.inr (by simpa [Value.ownBlock] using hi.symm))⟩
theorem XAt.cell {W : World} {xb g n : Nat} {cs : Array Value} {L : List ByteArray} (h : XAt W xb g n cs L) (q : Nat) : W.cell? ⟨xb, q, none⟩ = cs[q]? := cell_of_row W xb q _ _ _ h.box
theorem XAt.strs {W : World} {xb g n : Nat} {cs : Array Value} {L l : List ByteArray} {s : ByteArray} (h : XAt W xb g n cs L) (hL : L = l ++ [s]) (hl : l.length = n) : Strs W (.slice (some ⟨g, 0, none⟩) n (n + 1)) l := by
  refine ⟨_, n + 1, by rw [hl], by omega, .inr ⟨g, 0, rfl, fun j hj => ?_⟩⟩
  have := h.row.cellAt j (by omega)
  rw [scells_get _ j (by rw [hL]; simp; omega)] at this
  rw [Nat.zero_add, this, hL, List.getD_eq_getElem?_getD, List.getD_eq_getElem?_getD, List.getElem?_append_left hj]
theorem XAt.star {W : World} {xb g n : Nat} {cs : Array Value} {L l : List ByteArray} {s : ByteArray} (h : XAt W xb g n cs L) (hL : L = l ++ [s]) (hl : l.length = n) : W.cell? ⟨g, n, none⟩ = some (.string s) := by
  have := h.row.cellAt n (by omega)
  rw [scells_get _ n (by rw [hL]; simp; omega)] at this
  rw [this, hL, List.getD_eq_getElem?_getD, List.getElem?_append_right (by omega)]
  simp [hl]

end Go.Proofs.Ytikbhklmedblbaa
