/- Rows of bytes that the call itself made: a string that is copied into one; the world is told by what the row holds. -/
import Derived.Test.YtnlhgcpmmcmknaaSByte
import Derived.Test.YtnlhgcpmmcmknaaQMath
import Derived.Lib.BufferWrite
import Derived.Laws.IdiomStrings
import Derived.Laws.MakeOwn
namespace Go.Proofs.Ytnlhgcpmmcmknaa
open Go.RowKit

/-- The bytes m, laid over l from the place k on. -/
def over (l : List UInt8) (k : Nat) (m : List UInt8) : List UInt8 := l.take k ++ m ++ l.drop (k + m.length)

theorem over_length (l : List UInt8) (k : Nat) (m : List UInt8) (h : k + m.length ≤ l.length) : (over l k m).length = l.length := by
  simp [over]; omega

theorem row_heap {W : World} {base B n : Nat} {l : List UInt8} (h : W.ownsRow base 5 1 (.slice (some ⟨B, 0, none⟩) n n) n (bcells l)) : W.heap[B]? = some (.cells (bcells l).toArray 5 (0, 0)) := by
  rcases h.2 with ⟨h', _⟩ | ⟨g, cap, cur, h', _, hg, _, _, hcs, ht⟩
  · simp at h'
  · simp only [Value.slice.injEq, Option.some.injEq, Addr.mk.injEq, and_true, true_and] at h'
    obtain ⟨rfl, rfl⟩ := h'
    rw [List.take_of_length_le (by rw [Array.length_toList]; omega)] at ht
    rw [hg, ← ht]

theorem row_of_heap {W : World} {base B n : Nat} {l : List UInt8} (hb : base ≤ B) (hl : l.length = n) (hn : n ≤ maxLen) (h : W.heap[B]? = some (.cells (bcells l).toArray 5 (0, 0))) : W.ownsRow base 5 1 (.slice (some ⟨B, 0, none⟩) n n) n (bcells l) := by
  have e : (bcells l).length = n := by simp [bcells, hl]
  refine ⟨by omega, .inr ⟨B, n, _, rfl, hb, h, Nat.le_refl _, hn, by simp [e], ?_⟩⟩
  rw [List.take_of_length_le (by simp [e])]

theorem bcells_over (l : List UInt8) (k : Nat) (m : List UInt8) : (bcells l).take k ++ Lib.byteCells m ++ (bcells l).drop (k + m.length) = bcells (over l k m) := by
  have e : Lib.byteCells m = bcells m := rfl
  rw [e]
  simp [bcells, over]

/-- copy(b[k:], s): the row behind it. -/
theorem row_copy {W w0 : World} (ty base B off dLen dCap n : Nat) (l : List UInt8) (str : ByteArray)
    (hown : W.ownsRow base 5 1 (.slice (some ⟨B, 0, none⟩) n n) n (bcells l)) (hl : l.length = n) (hn : n ≤ maxLen)
    (hle : str.size ≤ dLen) (hfit : off + str.size ≤ n) (hbel : Below w0.heap.size w0 W) (hB : w0.heap.size ≤ B) (hbase : base ≤ B) :
    ∃ W', (Builtin.copy_ #[68, 9] ty #[.slice (some ⟨B, off, none⟩) dLen dCap, .string str]).run Try.prog W = .ok (goInt str.size) W' ∧
      W'.ownsRow base 5 1 (.slice (some ⟨B, 0, none⟩) n n) n (bcells (over l off str.data.toList)) ∧ Below w0.heap.size w0 W' := by
  obtain ⟨i0, hi, hz0, hz1, hz2⟩ := info_parts Try.info5
  have hinfo : (Try.prog.info? 5).map (·.size) = some 1 := by rw [hi]; simp [hz1]
  have hg := row_heap hown
  have hsz : str.data.toList.length = str.size := by simp
  have hrun := Lib.run_copy_row_string (P := Try.prog) W 68 9 ty 5 B off dLen dCap str _ 5 Try.underlying68 hinfo hg hle (by simp [bcells]; omega)
  have hX : (bcells l).toArray.toList.take off ++ Lib.byteCells str.data.toList ++ (bcells l).toArray.toList.drop (off + str.size) = bcells (over l off str.data.toList) := by
    rw [← hsz, ← bcells_over]
  rw [hX] at hrun
  refine ⟨_, hrun, ?_, ?_⟩
  · exact row_of_heap hbase (by rw [over_length _ _ _ (by omega)]; exact hl) hn (setRow_heap W B _ _ 5 (0, 0) hg)
  · exact hbel.trans ⟨rfl, rfl, rfl, by simp [World.setRow], fun k hk => setRow_other W B k _ (by omega)⟩

end Go.Proofs.Ytnlhgcpmmcmknaa
