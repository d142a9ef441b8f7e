/- Blocks of the call's own, as they stand behind stores; parts in a row of the call's own. -/
import Derived.Test.YtmekaofjcjmklaaMEnds
import Derived.Laws.ResultCell
namespace Go.Proofs.Ytmekaofjcjmklaa
open Go.RowKit

/-- All blocks but B are as they were. -/
abbrev Oth (B : Nat) (w w' : World) : Prop := w.grownBy w' (some B)
theorem oth_set (w : World) (B i : Nat) (u : Value) : Oth B w (w.setCell ⟨B, i, none⟩ u) :=
  ⟨rfl, rfl, rfl, by simp [World.setCell], fun k hk hne => Below.heap_setCell _ _ _ _ (fun e => hne (by rw [e]))⟩
theorem blk_set {W : World} {B i : Nat} {c : Array Value} {t : TypeId} {fr : Nat × Nat} {u : Value} (h : W.heap[B]? = some (.cells c t fr)) : (W.setCell ⟨B, i, none⟩ u).heap[B]? = some (.cells (c.setIfInBounds i u) t fr) := by
  unfold World.setCell
  dsimp only
  rw [Array.getElem?_modify, if_pos rfl, h]
  rfl
theorem blk_other {W : World} {B C i : Nat} {u : Value} (h : B ≠ C) : (W.setCell ⟨C, i, none⟩ u).heap[B]? = W.heap[B]? := by
  unfold World.setCell
  dsimp only
  rw [Array.getElem?_modify, if_neg (Ne.symm h)]
theorem blk_later {W W' : World} {B : Nat} {o : Obj} (h : W.heap[B]? = some o) (hb : Below W.heap.size W W') : W'.heap[B]? = some o := by
  rw [hb.block B (Array.getElem?_eq_some_iff.1 h).1]; exact h
theorem blk_below {W W' : World} {B k : Nat} {o : Obj} (h : W.heap[k]? = some o) (hb : Below B W W') (hk : k < B) : W'.heap[k]? = some o := by
  rw [hb.block k hk]; exact h
theorem three_cells {W : World} {P : Nat} {x y z : Value} {T : TypeId} (h : W.heap[P]? = some (.cells #[x, y, z] T (0, 0))) :
    W.cell? ⟨P, 0, none⟩ = some x ∧ W.cell? ⟨P, 1, none⟩ = some y ∧ W.cell? ⟨P, 2, none⟩ = some z ∧ W.frozen? ⟨P, 0, none⟩ = false ∧ W.frozen? ⟨P, 1, none⟩ = false ∧ W.frozen? ⟨P, 2, none⟩ = false := by
  refine ⟨?_, ?_, ?_, ?_, ?_, ?_⟩ <;> simp [World.cell?, World.frozen?, h]
/-- The block of a graph. -/
abbrev GBlk (W : World) (B : Nat) (n m : Int) (u : Value) : Prop := W.heap[B]? = some (.cells #[.int .i64 n, .int .i64 m, u] 24 (0, 0))

/-- Parts in a row of the call's own, or none, from block B on. -/
def PrtF (B : Nat) (W : World) (u : Value) (l : List (Int × Int)) : Prop := ∃ n, W.ownsRow B 49 2 u n (pcells l)
theorem PrtF.prt {B : Nat} {W : World} {u : Value} {l : List (Int × Int)} (h : PrtF B W u l) : Prt W u l := h.elim fun _ h => Prt.of_own h
theorem PrtF.from_ {B C : Nat} {W : World} {u : Value} {l : List (Int × Int)} (h : PrtF B W u l) (hb : C ≤ B) : PrtF C W u l := h.elim fun n h => ⟨n, own_from h hb⟩
theorem PrtF.later {B : Nat} {W W' : World} {u : Value} {l : List (Int × Int)} (h : PrtF B W u l) (hb : Below W.heap.size W W') : PrtF B W' u l := h.elim fun n h => ⟨n, own_later h hb⟩
theorem PrtF.set {B k i : Nat} {W : World} {u x : Value} {l : List (Int × Int)} (h : PrtF B W u l) (hk : k < B) : PrtF B (W.setCell ⟨k, i, none⟩ x) u l :=
  h.elim fun n h => ⟨n, h.kept (oth_set W k i x) (by
    cases hv : u.ownBlock with
    | none => exact .inl rfl
    | some q => exact .inr fun e => by have := (h.lt q hv).1; simp at e; omega)⟩
theorem prtF_nil (B : Nat) (W : World) : PrtF B W (.slice none 0 0) [] := ⟨0, World.ownsRow_nil _ _ _ _⟩
/-- A graph is stored in the block B. -/
theorem PrtF.stored {B C : Nat} {W : World} {u x y z : Value} {l : List (Int × Int)} (h : PrtF C W u l) (hk : B < C) : PrtF C (((W.setCell ⟨B, 0, none⟩ x).setCell ⟨B, 1, none⟩ y).setCell ⟨B, 2, none⟩ z) u l := ((h.set hk).set hk).set hk
theorem below_stored {w W : World} {B : Nat} {x y z : Value} (h : Below B w W) : Below B w (((W.setCell ⟨B, 0, none⟩ x).setCell ⟨B, 1, none⟩ y).setCell ⟨B, 2, none⟩ z) := ((h.setCell (Nat.le_refl _) _).setCell (Nat.le_refl _) _).setCell (Nat.le_refl _) _

theorem prtF_slice {B : Nat} {W : World} {u : Value} {l : List (Int × Int)} (h : PrtF B W u l) : ∃ a n c, u = .slice a n c := by
  obtain ⟨a, c, e, _⟩ := h.prt
  exact ⟨a, _, c, e⟩
theorem cell_new (W : World) (c : Array Value) (t : TypeId) (i : Nat) (u : Value) (h : c[i]? = some u) : (W.alloc (.cells c t)).cell? ⟨W.heap.size, i, none⟩ = some u := by
  simp only [World.cell?]
  rw [heap_alloc_new]
  exact h
theorem size_of (l : List UInt8) : (⟨l.toArray⟩ : ByteArray).size = l.length := by
  show l.toArray.size = _
  simp
theorem extract_take (s : ByteArray) (k : Nat) : (s.extract 0 k).data.toList = s.data.toList.take k := by
  rw [ByteArray.data_extract]; simp
theorem text_eq {s : ByteArray} {l : List UInt8} (h : s.data.toList = l) : s = ⟨l.toArray⟩ := by
  apply ByteArray.ext
  apply Array.ext'
  rw [h]

end Go.Proofs.Ytmekaofjcjmklaa
