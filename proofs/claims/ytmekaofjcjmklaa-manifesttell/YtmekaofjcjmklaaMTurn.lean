/- Bytes of a graph that are turned over, cut off, or longer: what Decode tells of them. -/
import Derived.Test.YtmekaofjcjmklaaMOpen
import Derived.Laws.IdiomStrings
namespace Go.Proofs.Ytmekaofjcjmklaa
open Go.ChangeShapes Go.WideShapes Go.ChangeAt Go.RowKit

/-- The block B holds the bytes l, and they may be written. -/
structure Holds (W : World) (B : Nat) (l : List UInt8) : Prop where
  cell : ∀ k (h : k < l.length), W.cell? ⟨B, k, none⟩ = some (.int .u8 (l[k].toNat : Int))
  free : ∀ k, k < l.length → W.frozen? ⟨B, k, none⟩ = false

theorem Holds.store {W : World} {B : Nat} {l : List UInt8} (h : Holds W B l) (k : Nat) (b : UInt8) (hk : k < l.length) : Holds (W.setCell ⟨B, k, none⟩ (.int .u8 (b.toNat : Int))) B (l.set k b) := by
  constructor
  · intro i hi
    rw [List.length_set] at hi
    by_cases e : k = i
    · subst e
      rw [World.cell?_setCell_same _ _ _ (h.cell k hk)]
      simp
    · have hne : (⟨B, k, none⟩ : Addr) ≠ ⟨B, i, none⟩ := fun he => e (congrArg Addr.off he)
      rw [World.cell?_setCell_other _ _ _ _ hne, h.cell i hi]
      simp [e]
  · intro i hi
    rw [List.length_set] at hi
    rw [World.frozen?_setCell]
    exact h.free i hi

theorem holds_new (w : World) (s : ByteArray) (cap : Nat) : Holds (w.drew.alloc (.cells (bytesRow s cap) 5 ((bytesRow s cap).size, (bytesRow s cap).size + 1))) w.heap.size s.data.toList := by
  constructor
  · intro k hk
    have hk' : k < s.data.size := by simpa using hk
    have := World.cell?_alloc_mark w.drew (bytesRow s cap) 5 ((bytesRow s cap).size, (bytesRow s cap).size + 1) k
    rw [bytesRow_at s cap k hk'] at this
    exact this
  · intro k hk
    have hk' : k < s.data.size := by simpa using hk
    have := World.frozen?_alloc_mark w.drew (bytesRow s cap) 5 (bytesRow s cap).size ((bytesRow s cap).size + 1) k
    have hz : k < (bytesRow s cap).size := by
      unfold bytesRow
      rw [Array.size_append, Array.size_map]; omega
    rw [show decide ((bytesRow s cap).size ≤ k) = false by simp; omega] at this
    exact this

/-- []byte(s): a row of its own. -/
theorem bytes_new (w : World) (s : ByteArray) : ∃ cap W, (convert 9 34 (.string s)).run Try.prog w = .ok (.slice (some ⟨w.heap.size, 0, none⟩) s.size cap) W ∧ Holds W w.heap.size s.data.toList ∧ Below w.heap.size w W :=
  ⟨_, _, run_bytes_of_string w 9 34 5 s Try.underlying9 Try.underlying34 Try.underlying5, holds_new w s _, (Below.refl _ w).drew.alloc (Nat.le_refl _) _⟩

theorem Holds.drew {W : World} {B : Nat} {l : List UInt8} (h : Holds W B l) : Holds W.drew B l := ⟨h.cell, h.free⟩

/-- The bytes l, of which j from k on have been put against those of n. -/
def nearL (l : List UInt8) (k n : Nat) : Nat → List UInt8
  | 0 => l
  | j + 1 => (nearL l k n j).set (k + j) ((nearL l k n j).getD (k + j) 0 ^^^ UInt8.ofNat (n / 2 ^ (8 * j)))

theorem nearL_length (l : List UInt8) (k n j : Nat) : (nearL l k n j).length = l.length := by
  induction j with
  | zero => rfl
  | succ j ih => rw [nearL, List.length_set, ih]

/-- A round's store. -/
theorem near_store {w W : World} {l : List UInt8} {k n j : Nat} (h : Holds W w.heap.size (nearL l k n j)) (hb : Below w.heap.size w W) (hk : k + j < (nearL l k n j).length) :
    ∃ b : Int, bits .xor .u8 ((nearL l k n j)[k + j].toNat : Int) ((n : Int) / 2 ^ (8 * j) % 256) = b ∧
      Holds (W.setCell ⟨w.heap.size, k + j, none⟩ (.int .u8 b)).drew w.heap.size (nearL l k n (j + 1)) ∧ Below w.heap.size w (W.setCell ⟨w.heap.size, k + j, none⟩ (.int .u8 b)).drew := by
  refine ⟨(((nearL l k n j)[k + j] ^^^ UInt8.ofNat (n / 2 ^ (8 * j))).toNat : Int), ?_, ?_, (hb.setCell (Nat.le_refl _) _).drew⟩
  · have e : ((n : Int) / 2 ^ (8 * j) % 256) = ((UInt8.ofNat (n / 2 ^ (8 * j))).toNat : Int) := by
      rw [show (UInt8.ofNat (n / 2 ^ (8 * j))).toNat = n / 2 ^ (8 * j) % 256 from rfl]
      simp
    rw [e, UInt8.toNat_xor]
    exact u8_xor_nat _ _ (UInt8.toNat_lt _) (UInt8.toNat_lt _)
  · have e : nearL l k n (j + 1) = (nearL l k n j).set (k + j) ((nearL l k n j)[k + j] ^^^ UInt8.ofNat (n / 2 ^ (8 * j))) := by
      rw [nearL, List.getD_eq_getElem?_getD, List.getElem?_eq_getElem hk]; rfl
    rw [e]
    exact (h.store (k + j) _ hk).drew

theorem nearL_all (p q : List UInt8) (a b c d : UInt8) (n : Nat) : nearL (p ++ [a, b, c, d] ++ q) p.length n 4 = p ++ Cr.put [a, b, c, d] (Cr.four n) ++ q := by
  simp [nearL, Cr.put, Cr.four, List.getD]

theorem conv_held {W : World} {B : Nat} {l : List UInt8} (h : Holds W B l) (cap : Nat) {n : Nat} (hl : l.length = n) : (convert 34 9 (.slice (some ⟨B, 0, none⟩) n cap)).run Try.prog W = .ok (.string ⟨l.toArray⟩) W := by
  subst hl
  refine run_convert_bytes_back W 34 9 5 ⟨B, 0, none⟩ cap l Try.underlying34 Try.underlying5 Try.underlying9 fun j hj => ?_
  rw [Addr.add_lit, Nat.zero_add]
  exact h.cell j hj

theorem nearL_zero (l : List UInt8) (k : Nat) : ∀ j, nearL l k 0 j = l
  | 0 => rfl
  | j + 1 => by
    rw [nearL, nearL_zero l k j]
    refine List.ext_getElem (by simp) fun i h1 h2 => ?_
    rw [List.getElem_set]
    split
    · next e => subst e; simp [List.getD, h2]
    · rfl

/-- string([]byte{x}) of a block of one byte, wherever it lies. -/
theorem conv_byte (W : World) (g n : Nat) (h : n < 256) (hc : W.cell? ⟨g, 0, none⟩ = some (.int .u8 n)) :
    (convert 34 9 (.slice (some ⟨g, 0, none⟩) 1 1)).run Try.prog W = .ok (.string ⟨[UInt8.ofNat n].toArray⟩) W := by
  rw [run_convert_bytes_string W 34 9 5 _ _ _ Try.underlying34 Try.underlying5 Try.underlying9]
  have hn : (UInt8.ofNat n).toNat = n := by simp; omega
  have hload : (loadCells ⟨g, 0, none⟩ 1).run Try.prog W = .ok (([UInt8.ofNat n].map (fun b => (b.toNat : Int))).map (Value.int .u8)).toArray W := by
    have := run_loadCells_list (P := Try.prog) (w := W) ⟨g, 0, none⟩ [.int .u8 n] (by
      intro i v hv
      match i, hv with
      | 0, hv =>
        simp at hv
        subst hv
        exact hc)
    rw [show ([Value.int .u8 (n : Int)]).length = 1 from rfl] at this
    rw [this]
    simp [hn]
  rw [run_bytesToString W ⟨g, 0, none⟩ 1 1 _ hload, push_all]
  rfl

namespace Mf
theorem near_dec {s : Graph} (hs : chk s = 0) {k n : Nat} (hk : k + 3 < (enc s).length) (hn : n < 4294967296) :
    ((((decE (nearL (enc s) k n 4) : Int) == 0) == ((n : Int) == 0)) = true) := by
  by_cases h0 : n = 0
  · subst h0
    rw [nearL_zero, (told_yes (dec_enc hs)).1]
    rfl
  · have e2 : ((n : Int) == 0) = false := by rw [beq_eq_false_iff_ne]; omega
    have e1 : decE (nearL (enc s) k n 4) = 10 := by
      refine (told_no (dec_no fun t _ => ?_)).1
      obtain ⟨p, a, b, c, d, q, hl, hp⟩ : ∃ (p : List UInt8) (a b c d : UInt8) (q : List UInt8), enc s = p ++ [a, b, c, d] ++ q ∧ p.length = k := by
        refine ⟨(enc s).take k, (enc s)[k], (enc s)[k + 1], (enc s)[k + 2], (enc s)[k + 3], (enc s).drop (k + 4), ?_, by rw [List.length_take]; omega⟩
        simp
      subst hp
      have := turned (t := t) (n := n) hl rfl hn h0
      rwa [← nearL_all, ← hl] at this
    rw [e1, e2]
    rfl
theorem cut_dec {s : Graph} (hs : chk s = 0) {k : Nat} (hk : k < (enc s).length) : decE ((enc s).take k) = 10 := (told_no (dec_no fun _ ht => cut hs ht hk)).1
theorem more_dec {s : Graph} (hs : chk s = 0) (b : UInt8) : decE (enc s ++ [b]) = 10 := (told_no (dec_no fun _ ht => more hs ht)).1
end Mf

/-- Decode of bytes of which it is known what it tells. -/
theorem mdec_told (b : ByteArray) (hs : b.size ≤ 1000000) {E : Int} (hE : Mf.decE b.data.toList = E) (W : World) :
    Calls Try.prog 9 #[.string b] W fun e w' => ∃ x y a n c, e = .returned (.tuple #[.agg #[.int .i64 x, .int .i64 y, .slice a n c], .int .i64 E]) ∧ Below W.heap.size W w' := by
  refine (mdec_any b W hs).mono ?_
  rintro e w' ⟨u, rfl, hu, -, hb⟩
  obtain ⟨a, c, rfl, _⟩ := hu.prt
  rw [hE]
  exact ⟨_, _, _, _, _, rfl, hb⟩

end Go.Proofs.Ytmekaofjcjmklaa
