/- Behind all acts: the names in memory of the law's own, and both file systems, each with its own count of reads. -/
import Derived.Test.YtikbhklmedblbaaFStar
namespace Go.Proofs.Ytikbhklmedblbaa
open Go.RowKit Go.Maps

/-- The names lie in blocks g, which are as they were in wn. -/
structure Tail (w wn W : World) (p r : Nat) (o g : Nat → Prop) (st : Fi.St) (a b : Int) : Prop where
  both : Both w W p r o g { st with ahead := a } { st with ahead := b }
  kept : ∀ i, g i → W.heap[i]? = wn.heap[i]?

section
variable {w wn W W' : World} {p r : Nat} {o g : Nat → Prop} {st : Fi.St} {a b : Int}

theorem Tail.cell (h : Tail w wn W p r o g st a b) {q : Addr} {v : Value} (hg : g q.block) (hc : wn.cell? q = some v) : W.cell? q = some v := by
  rw [World.cell?_of_block (a := q) (h.kept q.block hg)]; exact hc

/-- r.Left. -/
theorem Tail.left (h : Tail w wn W p r o g st a b) : W.cell? ⟨r, 1, none⟩ = some (.int .i64 b) ∧ W.frozen? ⟨r, 1, none⟩ = false := by
  obtain ⟨vL, T, h1, _⟩ := h.both.ref
  exact ⟨h1.cell 1, h1.frozen 1⟩
theorem Tail.still (h : Tail w wn W p r o g st a b) : Tail w wn (W.setCell ⟨r, 1, none⟩ (.int .i64 (-1))) p r o g st a (-1) := by
  obtain ⟨vL, T, h1, hf, hg⟩ := h.both.ref
  have hg2 : Fi.Good { st with ahead := b } := hg
  have hn : Ref (W.setCell ⟨r, 1, none⟩ (.int .i64 (-1))) (fun b => ¬ (o b ∨ g b)) r { st with ahead := -1 } :=
    ⟨vL, T, (h1.aheadTo (-1)).1, hf, hg2.room1, hg2.room2, (by decide : (-1 : Int) ≤ -1), (by decide : (-1 : Int) ≤ 9223372036854775807), hg2.sorted, hg2.each, hg2.used⟩
  exact ⟨h.both.said hn (h1.aheadTo (-1)).2, fun i hi => (h.both.said_own (h1.aheadTo (-1)).2 i hi).trans (h.kept i hi)⟩

theorem has_row {n : ByteArray} {k : Nat} (hk : k < (Fi.rows st.fs n).length) : Fi.has { st with ahead := a } n k = true :=
  Fi.has_iff.2 ⟨by omega, by show (k : Int) < (Fi.rows st.fs n).length; omega⟩
theorem page_row {n : ByteArray} {k : Nat} : Fi.page { st with ahead := a } n (k : Int) = (Fi.rows st.fs n).getD k ByteArray.empty := by
  show (Fi.rows st.fs n).getD (k : Int).toNat ByteArray.empty = _
  rw [Int.toNat_natCast]

/-- f.Read of a page that is there. -/
theorem Tail.read (h : Tail w wn W p r o g st a b) (n : ByteArray) (hn : n.size ≤ maxLen) (k : Nat) (hk : k < (Fi.rows st.fs n).length) (ha : 0 < a) :
    Calls Try.prog 25 #[.pointer (some ⟨p, 0, none⟩), .string n, .int .i64 k] W fun e w' => e = .returned (.tuple #[.string ((Fi.rows st.fs n).getD k ByteArray.empty), .int .i64 0]) ∧ Tail w wn w' p r o g st (a - 1) b := by
  have h1 := read_any n (k : Int) W h.both.sys hn
  rw [read_next (has_row hk) ha, page_row] at h1
  refine h1.mono ?_
  rintro e w' ⟨rfl, hs, ht⟩
  exact ⟨rfl, h.both.done hs ht, fun i hi => (h.both.done_own ht i hi).trans (h.kept i hi)⟩

/-- r.Read of a page that is there. -/
theorem Tail.rread (h : Tail w wn W p r o g st a (-1)) (n : ByteArray) (k : Nat) (hk : k < (Fi.rows st.fs n).length) :
    Calls Try.prog 26 #[.pointer (some ⟨r, 0, none⟩), .string n, .int .i64 k] W fun e w' => e = .returned (.tuple #[.string ((Fi.rows st.fs n).getD k ByteArray.empty), .int .i64 0]) ∧ Tail w wn w' p r o g st a (-1) := by
  have h1 := rread_any n (k : Int) W h.both.ref
  rw [read_still (has_row hk) (by show (-1 : Int) < 0; decide), page_row] at h1
  refine h1.mono ?_
  rintro e w' ⟨rfl, hs, ht⟩
  exact ⟨rfl, h.both.said hs ht, fun i hi => (h.both.said_own ht i hi).trans (h.kept i hi)⟩

/-- The names, behind Fail. -/
theorem Tail.start {v : Value} {l : List ByteArray} (h : Both w W p r o (fun _ => False) { st with ahead := a } st) (hb : Below W.heap.size W W') (hv : StrsIn W' (fun b => W.heap.size ≤ b) v l) :
    Tail w W' W' p r o (fun i => W.heap.size ≤ i ∧ i < W'.heap.size) st a st.ahead ∧ StrsIn W' (fun i => W.heap.size ≤ i ∧ i < W'.heap.size) v l :=
  ⟨⟨h.more hb fun _ hi => hi, fun _ _ => rfl⟩, hv.imp fun _ h1 h2 => ⟨h2, h1⟩⟩
end

end Go.Proofs.Ytikbhklmedblbaa
