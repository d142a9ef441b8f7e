/- Rows of bytes that the call itself made: what string(b) tells of them; what a store makes of them. -/
import Derived.Test.YtmekaofjcjmklaaSRef
namespace Go.Proofs.Ytmekaofjcjmklaa
open Go.RowKit

theorem made_zeros (n : Nat) : (madeCells #[Value.int .u8 0] n).toList = bcells (List.replicate n 0) := by
  rw [toList_madeCells_one]
  simp [bcells]

theorem bcells_set (l : List UInt8) (k : Nat) (b : UInt8) : (bcells l).set k (.int .u8 b.toNat) = bcells (l.set k b) := by
  simp [bcells, List.map_set]

theorem bcells_get (l : List UInt8) (k : Nat) (h : k < l.length) : (bcells l)[k]? = some (.int .u8 (l[k].toNat : Int)) := by
  simp [bcells, h]

/-- What lies in a row. -/
theorem row_cell {W : World} {B n : Nat} {l : List UInt8} (hl : l.length = n) (hown : W.ownsRow B 5 1 (.slice (some ⟨B, 0, none⟩) n n) n (bcells l)) (k : Nat) (hk : k < n) :
    W.cell? ⟨B, k, none⟩ = some (.int .u8 ((l[k]'(by omega)).toNat : Int)) := by
  rw [hown.cellAt k (by omega), bcells_get l k (by omega)]

/-- A store into a row. -/
theorem row_store {w W : World} {B n : Nat} {l : List UInt8} (hB : B = w.heap.size) (hown : W.ownsRow B 5 1 (.slice (some ⟨B, 0, none⟩) n n) n (bcells l)) (hbel : Below w.heap.size w W) (k : Nat) (b : UInt8) :
    (W.setCell ⟨B, k, none⟩ (.int .u8 (b.toNat : Int))).ownsRow B 5 1 (.slice (some ⟨B, 0, none⟩) n n) n (bcells (l.set k b)) ∧ Below w.heap.size w (W.setCell ⟨B, k, none⟩ (.int .u8 (b.toNat : Int))) := by
  have hs := (hown.stored k (.int .u8 (b.toNat : Int))).1
  rw [bcells_set] at hs
  exact ⟨hs, hbel.setCell (by subst hB; exact Nat.le_refl _) _⟩

/-- string([]byte{..}) of a number's four bytes: the block that is laid for it, and the text. -/
theorem conv_four (W : World) (n : Nat) (h : n < 4294967296) :
    (convert 34 9 (.slice (some ⟨W.heap.size, 0, none⟩) 4 4)).run Try.prog (W.alloc (.cells #[.int .u8 ((n : Int) % 256), .int .u8 ((n : Int) / 256 % 256), .int .u8 ((n : Int) / 65536 % 256), .int .u8 ((n : Int) / 16777216)] 5)) =
      .ok (.string ⟨(Cr.four n).toArray⟩) (W.alloc (.cells #[.int .u8 ((n : Int) % 256), .int .u8 ((n : Int) / 256 % 256), .int .u8 ((n : Int) / 65536 % 256), .int .u8 ((n : Int) / 16777216)] 5)) := by
  have hown := World.ownsRow_lit (e := 5) (size := 1) (base := W.heap.size) W #[.int .u8 ((n : Int) % 256), .int .u8 ((n : Int) / 256 % 256), .int .u8 ((n : Int) / 65536 % 256), .int .u8 ((n : Int) / 16777216)] 4 (Nat.le_refl _) (by decide) rfl
  have e (m : Nat) : ((UInt8.ofNat m).toNat : Int) = (m : Int) % 256 := by
    rw [show (UInt8.ofNat m).toNat = m % 256 from rfl]; omega
  have e0 : (#[Value.int .u8 ((n : Int) % 256), .int .u8 ((n : Int) / 256 % 256), .int .u8 ((n : Int) / 65536 % 256), .int .u8 ((n : Int) / 16777216)] : Array Value).toList = bcells (Cr.four n) := by
    simp only [bcells, Cr.four, List.map_cons, List.map_nil, e]
    have e3 : (n : Int) / 16777216 = (n : Int) / 16777216 % 256 := by omega
    conv => lhs; rw [e3]
    simp
  rw [e0] at hown
  exact conv_own _ _ _ _ _ rfl hown

theorem app_bytesXS (s : ByteArray) (q : List UInt8) : (s ++ ⟨q.toArray⟩).data.toList = s.data.toList ++ q := by
  simp

end Go.Proofs.Ytmekaofjcjmklaa
