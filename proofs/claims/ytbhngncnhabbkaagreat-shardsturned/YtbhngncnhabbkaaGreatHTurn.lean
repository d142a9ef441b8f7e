/- Bytes of a shard that are turned over, or cut off: what Decode tells of them. -/
import Derived.Test.YtbhngncnhabbkaaGreatHSize
import Derived.Laws.IdiomStrings
namespace Go.Proofs.YtbhngncnhabbkaaGreat
open Go.ChangeShapes Go.WideShapes Go.ChangeAt Go.RowKit

theorem holds_new (w : World) (s : ByteArray) (cap : Nat) : Holds (w.drew.alloc (.cells (bytesRow s cap) 5 ((bytesRow s cap).size, (bytesRow s cap).size + 1))) w.heap.size s.data.toList := by
  constructor
  · intro k hk
    have hk' : k < s.data.size := by simpa using hk
    have := World.cell?_alloc_mark w.drew (bytesRow s cap) 5 ((bytesRow s cap).size, (bytesRow s cap).size + 1) k
    rw [bytesRow_at s cap k hk'] at this
    exact this
  · intro k hk
    have hk' : k < s.data.size := by simpa using hk
    have := World.frozen?_alloc_mark w.drew (bytesRow s cap) 5 (bytesRow s cap).size ((bytesRow s cap).size + 1) k
    have hz : k < (bytesRow s cap).size := by
      unfold bytesRow
      rw [Array.size_append, Array.size_map]; omega
    rw [show decide ((bytesRow s cap).size ≤ k) = false by simp; omega] at this
    exact this

/-- []byte(s): a row of its own. -/
theorem bytes_new (w : World) (s : ByteArray) : ∃ cap W, (convert 9 47 (.string s)).run Tryz.prog w = .ok (.slice (some ⟨w.heap.size, 0, none⟩) s.size cap) W ∧ Holds W w.heap.size s.data.toList ∧ Below w.heap.size w W :=
  ⟨_, _, run_bytes_of_string w 9 47 5 s Tryz.underlying9 Tryz.underlying47 Tryz.underlying5, holds_new w s _, (Below.refl _ w).drew.alloc (Nat.le_refl _) _⟩

/-- The bytes l, of which j from k on have been put against those of n. -/
def nearL (l : List UInt8) (k n : Nat) : Nat → List UInt8
  | 0 => l
  | j + 1 => (nearL l k n j).set (k + j) ((nearL l k n j).getD (k + j) 0 ^^^ UInt8.ofNat (n / 2 ^ (8 * j)))

theorem nearL_length (l : List UInt8) (k n j : Nat) : (nearL l k n j).length = l.length := by
  induction j with
  | zero => rfl
  | succ j ih => rw [nearL, List.length_set, ih]

/-- A round's store. -/
theorem near_store {w W : World} {l : List UInt8} {k n j : Nat} (h : Holds W w.heap.size (nearL l k n j)) (hb : Below w.heap.size w W) (hk : k + j < (nearL l k n j).length) :
    ∃ b : Int, bits .xor .u8 ((nearL l k n j)[k + j].toNat : Int) ((n : Int) / 2 ^ (8 * j) % 256) = b ∧
      Holds (W.setCell ⟨w.heap.size, k + j, none⟩ (.int .u8 b)).drew w.heap.size (nearL l k n (j + 1)) ∧ Below w.heap.size w (W.setCell ⟨w.heap.size, k + j, none⟩ (.int .u8 b)).drew := by
  refine ⟨(((nearL l k n j)[k + j] ^^^ UInt8.ofNat (n / 2 ^ (8 * j))).toNat : Int), ?_, ?_, (hb.setCell (Nat.le_refl _) _).drew⟩
  · have e : ((n : Int) / 2 ^ (8 * j) % 256) = ((UInt8.ofNat (n / 2 ^ (8 * j))).toNat : Int) := by
      rw [show (UInt8.ofNat (n / 2 ^ (8 * j))).toNat = n / 2 ^ (8 * j) % 256 from rfl]
      simp
    rw [e, UInt8.toNat_xor]
    exact u8_xor_nat _ _ (UInt8.toNat_lt _) (UInt8.toNat_lt _)
  · have e : nearL l k n (j + 1) = (nearL l k n j).set (k + j) ((nearL l k n j)[k + j] ^^^ UInt8.ofNat (n / 2 ^ (8 * j))) := by
      rw [nearL, List.getD_eq_getElem?_getD, List.getElem?_eq_getElem hk]; rfl
    rw [e]
    exact (h.store (k + j) _ hk).drew

theorem nearL_all (p q : List UInt8) (a b c d : UInt8) (n : Nat) : nearL (p ++ [a, b, c, d] ++ q) p.length n 4 = p ++ Cr.put [a, b, c, d] (Cr.four n) ++ q := by
  simp [nearL, Cr.put, Cr.four, List.getD]

theorem nearL_zero (l : List UInt8) (k : Nat) : ∀ j, nearL l k 0 j = l
  | 0 => rfl
  | j + 1 => by
    rw [nearL, nearL_zero l k j]
    refine List.ext_getElem (by simp) fun i h1 h2 => ?_
    rw [List.getElem_set]
    split
    · next e => subst e; simp [List.getD, h2]
    · rfl

namespace Sh
theorem near_dec {s : Shard} (hs : may s = true) {k n : Nat} (hk : k + 3 < (enc s).length) (hn : n < 4294967296) :
    ((((decE (nearL (enc s) k n 4) : Int) == 0) == ((n : Int) == 0)) = true) := by
  by_cases h0 : n = 0
  · subst h0
    rw [nearL_zero, (dec_yes hs).1]
    rfl
  · have e2 : ((n : Int) == 0) = false := by rw [beq_eq_false_iff_ne]; omega
    have e1 : decE (nearL (enc s) k n 4) = 10 := by
      refine (dec_no fun t ht => ?_).1
      obtain ⟨p, a, b, c, d, q, hl, hp⟩ : ∃ (p : List UInt8) (a b c d : UInt8) (q : List UInt8), enc s = p ++ [a, b, c, d] ++ q ∧ p.length = k := by
        refine ⟨(enc s).take k, (enc s)[k], (enc s)[k + 1], (enc s)[k + 2], (enc s)[k + 3], (enc s).drop (k + 4), ?_, by rw [List.length_take]; omega⟩
        simp
      subst hp
      have := turned (t := t) (n := n) hl rfl hn h0
      rwa [← nearL_all, ← hl] at this
    rw [e1, e2]
    rfl
theorem cut_dec {s : Shard} (hs : may s = true) {k : Nat} (hk : k < (enc s).length) : decE ((enc s).take k) = 10 := (dec_no fun _ ht => cut hs ht hk).1
end Sh

/-- Decode of bytes of which it is known what it tells. -/
theorem sdec_told (b : ByteArray) (hs : b.size ≤ 1000000) {E : Int} (hE : Sh.decE b.data.toList = E) (W : World) :
    Calls Tryz.prog 10 #[.string b] W fun e w' => ∃ x y a n c, e = .returned (.tuple #[.agg #[.int .i64 x, .int .i64 y, .slice a n c], .int .i64 E]) ∧ Below W.heap.size W w' := by
  refine (sdec_any b W hs).mono ?_
  rintro e w' ⟨u, rfl, ⟨v, rfl, ⟨a, c, rfl, _⟩⟩, hb⟩
  rw [hE]
  exact ⟨_, _, _, _, _, rfl, hb⟩

end Go.Proofs.YtbhngncnhabbkaaGreat
