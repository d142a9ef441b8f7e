/- The walks of bitsOfText, bitsOfNumbers and packed.At. -/
import Derived.Test.YtbhngncnhabbkaaPNum
import Derived.Maps.AppendAt
import Derived.RangeFuncBox
namespace Go.Proofs.Ytbhngncnhabbkaa
open Go.RowKit

theorem step_grown (w : World) (b : Nat) (v : Value) : w.grownBy (w.drew.setCell ⟨b, 0, none⟩ v) (some b) := by
  have k := grownBy_setCell' w.drew b v
  exact ⟨k.os, k.tape, k.output, k.size, k.block⟩

theorem box_grown {w w' : World} {b : Nat} {t : TypeId} {v : Value} {row : Option Nat} (h : Box w b t v) (hg : w.grownBy w' row) (hne : some b ≠ row) : Box w' b t v := (hg.block b (lt_of_block h) hne).trans h

theorem box_new (w : World) (t : TypeId) (v : Value) (k : Nat) (hk : k = w.heap.size) : Box (w.alloc (.cells #[v] t)) k t v := by
  subst hk
  exact heap_alloc_new _ _
theorem box_alloc {w : World} {b : Nat} {t : TypeId} {v : Value} (h : Box w b t v) (o : Obj) : Box (w.alloc o) b t v := by
  rw [Box, Below.heap_alloc _ _ _ (lt_of_block h)]
  exact h
theorem box_other {w : World} {b c : Nat} {t : TypeId} {v u : Value} (h : Box w b t v) (hne : b ≠ c) : Box (w.setCell ⟨c, 0, none⟩ u) b t v := by
  rw [Box, Below.heap_setCell _ _ _ _ hne]
  exact h

/-- Where the closure over a text stands. -/
def TextAt (wS : World) (b1 b2 : Nat) (s : ByteArray) (p : Nat) (w : World) : Prop :=
  Box w b1 9 (.string s) ∧ Box w b2 3 (.int .i64 p) ∧ wS.grownBy w (some b2)

theorem tellsT (wS : World) (b1 b2 : Nat) (s : ByteArray) (hs : s.size ≤ 1000000000000) (hne : b1 ≠ b2) :
    Tells 86 #[.pointer (some ⟨b1, 0, none⟩), .pointer (some ⟨b2, 0, none⟩)] (Pk.sb s.data.toList) (8 * s.size) (TextAt wS b1 b2 s) := by
  rintro p w ⟨h1, h2, hg⟩ hp
  refine (nextT_any b1 b2 p s w h1 h2 hs hp).mono ?_
  rintro e w' ⟨rfl, rfl⟩
  have hk := step_grown w b2 (.int .i64 ((p + 1 : Nat) : Int))
  exact ⟨rfl, box_grown h1 hk (by simpa using hne), one_setCell (w := w.drew) h2, hg.trans hk⟩

/-- Where the closure over a table stands. -/
def TableAt (wS : World) (b0 b1 b2 : Nat) (a : Option Addr) (cap : Nat) (l : List Int) (n p : Nat) (w : World) : Prop :=
  Box w b0 3 (.int .i64 (min p (l.length * n) : Nat)) ∧ Box w b1 41 (.slice a l.length cap) ∧ Box w b2 3 (.int .i64 n) ∧ wS.grownBy w (some b0)

theorem tellsN (wS : World) (b0 b1 b2 : Nat) (a : Option Addr) (cap : Nat) (l : List Int) (n hi : Nat) (h01 : b1 ≠ b0) (h02 : b2 ≠ b0)
    (hc : ∀ j, j < l.length → ∃ b off, a = some ⟨b, off, none⟩ ∧ b ≠ b0 ∧ wS.cell? ⟨b, off + j, none⟩ = some (.int .i64 (l.getD j 0))) (hm : Pk.May l n) (hn : n ≤ 32) (hl : l.length ≤ 65536) :
    Tells 77 #[.pointer (some ⟨b0, 0, none⟩), .pointer (some ⟨b1, 0, none⟩), .pointer (some ⟨b2, 0, none⟩)] (Pk.tb l n) hi (TableAt wS b0 b1 b2 a cap l n) := by
  rintro p w ⟨h0, h1, h2, hg⟩ _
  by_cases hp : p < l.length * n
  · rw [show min p (l.length * n) = p by omega] at h0
    refine (nextN_yes b0 b1 b2 p n a cap l w h0 h1 h2 ?_ hm hn hl hp).mono ?_
    · intro j hj
      obtain ⟨b, off, rfl, hb, hcj⟩ := hc j hj
      exact ⟨b, off, rfl, hg.cell hcj (by simpa using hb)⟩
    · rintro e w' ⟨rfl, rfl⟩
      have hk := step_grown w b0 (.int .i64 ((p + 1 : Nat) : Int))
      refine ⟨rfl, ?_, box_grown h1 hk (by simpa using h01), box_grown h2 hk (by simpa using h02), hg.trans hk⟩
      rw [show min (p + 1) (l.length * n) = p + 1 by omega]
      exact one_setCell (w := w.drew) h0
  · have e1 : min p (l.length * n) = l.length * n := by omega
    have e2 : min (p + 1) (l.length * n) = l.length * n := by omega
    rw [e1] at h0
    have e3 : Pk.tb l n p = 0 := by unfold Pk.tb; rw [if_neg hp]
    rw [e3]
    refine (nextN_no b0 b1 b2 (l.length * n) n a cap l.length w h0 h1 h2 hn hl (Nat.le_refl _)).mono ?_
    rintro e w' ⟨rfl, rfl⟩
    refine ⟨rfl, ?_, h1, h2, hg⟩
    rw [e2]
    exact h0

theorem textBits_any (s : ByteArray) (p : Int) (w : World) :
    Calls Try.prog 83 #[.string s, .int .i64 p] w fun e w' =>
      e = .returned (.func (.func 86) #[] #[.pointer (some ⟨w.heap.size, 0, none⟩), .pointer (some ⟨w.heap.size + 1, 0, none⟩)]) ∧
      Box w' w.heap.size 9 (.string s) ∧ Box w' (w.heap.size + 1) 3 (.int .i64 p) ∧ Below w.heap.size w w' ∧ w'.heap.size = w.heap.size + 2 := by
  go_enter Try.func83, Try.ntmps83
  go_wp2
  go_ret
  exact ⟨rfl, box_alloc (box_new w _ _ _ rfl) _, box_new _ _ _ _ (by simp), ((Below.refl _ w).alloc (Nat.le_refl _) _).alloc (by simp) _, by simp⟩

set_option maxHeartbeats 1000000 in
theorem tableBits_any (a : Option Addr) (L cap n : Nat) (w : World) :
    Calls Try.prog 60 #[.slice a L cap, .int .i64 n] w fun e w' =>
      e = .returned (.func (.func 77) #[] #[.pointer (some ⟨w.heap.size + 2, 0, none⟩), .pointer (some ⟨w.heap.size, 0, none⟩), .pointer (some ⟨w.heap.size + 1, 0, none⟩)]) ∧
      Box w' (w.heap.size + 2) 3 (.int .i64 0) ∧ Box w' w.heap.size 41 (.slice a L cap) ∧ Box w' (w.heap.size + 1) 3 (.int .i64 n) ∧ Below w.heap.size w w' ∧ w'.heap.size = w.heap.size + 3 := by
  go_enter Try.func60, Try.ntmps60
  go_wp2
  go_ret
  have h0 := box_new ((w.alloc (.cells #[.slice a L cap] 41)).alloc (.cells #[.int .i64 n] 3)) 3 (.int .i64 0) (w.heap.size + 2) (by simp)
  have h1 := box_alloc (box_alloc (box_new w 41 (.slice a L cap) _ rfl) (.cells #[.int .i64 n] 3)) (.cells #[.int .i64 0] 3)
  have h2 := box_alloc (box_new (w.alloc (.cells #[.slice a L cap] 41)) 3 (.int .i64 n) (w.heap.size + 1) (by simp)) (.cells #[.int .i64 0] 3)
  exact ⟨rfl, h0, h1, h2, (((Below.refl _ w).alloc (Nat.le_refl _) _).alloc (by simp) _).alloc (by simp; omega) _, by simp⟩


end Go.Proofs.Ytbhngncnhabbkaa
