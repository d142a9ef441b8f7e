/- Rows of bytes that the call itself made: what lies in them, what a store makes of them, what string(b) tells. -/
import Derived.Test.YtbhngncnhabbkaaGreatPRef
import Derived.Laws.IdiomStrings
namespace Go.Proofs.YtbhngncnhabbkaaGreat
open Go.RowKit

/-- The block B holds the bytes l, and they may be written. -/
structure Holds (W : World) (B : Nat) (l : List UInt8) : Prop where
  cell : ∀ k (h : k < l.length), W.cell? ⟨B, k, none⟩ = some (.int .u8 (l[k].toNat : Int))
  free : ∀ k, k < l.length → W.frozen? ⟨B, k, none⟩ = false

theorem Holds.store {W : World} {B : Nat} {l : List UInt8} (h : Holds W B l) (k : Nat) (b : UInt8) (hk : k < l.length) : Holds (W.setCell ⟨B, k, none⟩ (.int .u8 (b.toNat : Int))) B (l.set k b) := by
  constructor
  · intro i hi
    rw [List.length_set] at hi
    by_cases e : k = i
    · subst e
      rw [World.cell?_setCell_same _ _ _ (h.cell k hk)]
      simp
    · have hne : (⟨B, k, none⟩ : Addr) ≠ ⟨B, i, none⟩ := fun he => e (congrArg Addr.off he)
      rw [World.cell?_setCell_other _ _ _ _ hne, h.cell i hi]
      simp [e]
  · intro i hi
    rw [List.length_set] at hi
    rw [World.frozen?_setCell]
    exact h.free i hi

theorem Holds.drew {W : World} {B : Nat} {l : List UInt8} (h : Holds W B l) : Holds W.drew B l := ⟨h.cell, h.free⟩

theorem conv_held {W : World} {B : Nat} {l : List UInt8} (h : Holds W B l) (cap : Nat) {n : Nat} (hl : l.length = n) : (convert 47 9 (.slice (some ⟨B, 0, none⟩) n cap)).run Tryz.prog W = .ok (.string ⟨l.toArray⟩) W := by
  subst hl
  refine run_convert_bytes_back W 47 9 5 ⟨B, 0, none⟩ cap l Tryz.underlying47 Tryz.underlying5 Tryz.underlying9 fun j hj => ?_
  rw [Addr.add_lit, Nat.zero_add]
  exact h.cell j hj

/-- A row that 'make' has just laid. -/
theorem holds_made {W : World} {base B n : Nat} (h : W.ownsRow base 5 1 (.slice (some ⟨B, 0, none⟩) n n) n (madeCells #[Value.int .u8 0] n).toList) : Holds W B (List.replicate n 0) := by
  rw [toList_madeCells_one] at h
  refine ⟨fun k hk => ?_, fun k _ => h.frozenAt k⟩
  have hk' : k < n := by simpa using hk
  rw [h.cellAt k (by omega), List.getElem?_replicate, if_pos hk']
  simp

end Go.Proofs.YtbhngncnhabbkaaGreat
