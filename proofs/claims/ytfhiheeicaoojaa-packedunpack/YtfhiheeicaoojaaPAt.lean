/- The walks of bitsOfText, bitsOfNumbers and packed.At. -/
import Derived.Test.YtfhiheeicaoojaaPNum
import Derived.Test.YtfhiheeicaoojaaGBuild
import Derived.Maps.AppendAt
import Derived.RangeFuncBox
namespace Go.Proofs.Ytfhiheeicaoojaa
open Go.RowKit

theorem step_grown (w : World) (b : Nat) (v : Value) : w.grownBy (w.drew.setCell ⟨b, 0, none⟩ v) (some b) := by
  have k := grownBy_setCell' w.drew b v
  exact ⟨k.os, k.tape, k.output, k.size, k.block⟩

theorem box_grown {w w' : World} {b : Nat} {t : TypeId} {v : Value} {row : Option Nat} (h : Box w b t v) (hg : w.grownBy w' row) (hne : some b ≠ row) : Box w' b t v := (hg.block b (lt_of_block h) hne).trans h

theorem box_new (w : World) (t : TypeId) (v : Value) (k : Nat) (hk : k = w.heap.size) : Box (w.alloc (.cells #[v] t)) k t v := by
  subst hk
  exact heap_alloc_new _ _
theorem box_alloc {w : World} {b : Nat} {t : TypeId} {v : Value} (h : Box w b t v) (o : Obj) : Box (w.alloc o) b t v := by
  rw [Box, Below.heap_alloc _ _ _ (lt_of_block h)]
  exact h
theorem box_other {w : World} {b c : Nat} {t : TypeId} {v u : Value} (h : Box w b t v) (hne : b ≠ c) : Box (w.setCell ⟨c, 0, none⟩ u) b t v := by
  rw [Box, Below.heap_setCell _ _ _ _ hne]
  exact h

/-- Where the closure over a text stands. -/
def TextAt (wS : World) (b1 b2 : Nat) (s : ByteArray) (p : Nat) (w : World) : Prop :=
  Box w b1 9 (.string s) ∧ Box w b2 3 (.int .i64 p) ∧ wS.grownBy w (some b2)

theorem tellsT (wS : World) (b1 b2 : Nat) (s : ByteArray) (hs : s.size ≤ 1000000000000) (hne : b1 ≠ b2) :
    Tells 34 #[.pointer (some ⟨b1, 0, none⟩), .pointer (some ⟨b2, 0, none⟩)] (Pk.sb s.data.toList) (8 * s.size) (TextAt wS b1 b2 s) := by
  rintro p w ⟨h1, h2, hg⟩ hp
  refine (nextT_any b1 b2 p s w h1 h2 hs hp).mono ?_
  rintro e w' ⟨rfl, rfl⟩
  have hk := step_grown w b2 (.int .i64 ((p + 1 : Nat) : Int))
  exact ⟨rfl, box_grown h1 hk (by simpa using hne), one_setCell (w := w.drew) h2, hg.trans hk⟩

/-- Where the closure over a table stands. -/
def TableAt (wS : World) (b0 b1 b2 : Nat) (a : Option Addr) (cap : Nat) (l : List Int) (n p : Nat) (w : World) : Prop :=
  Box w b0 3 (.int .i64 (min p (l.length * n) : Nat)) ∧ Box w b1 22 (.slice a l.length cap) ∧ Box w b2 3 (.int .i64 n) ∧ wS.grownBy w (some b0)

theorem tellsN (wS : World) (b0 b1 b2 : Nat) (a : Option Addr) (cap : Nat) (l : List Int) (n hi : Nat) (h01 : b1 ≠ b0) (h02 : b2 ≠ b0)
    (hc : ∀ j, j < l.length → ∃ b off, a = some ⟨b, off, none⟩ ∧ b ≠ b0 ∧ wS.cell? ⟨b, off + j, none⟩ = some (.int .i64 (l.getD j 0))) (hm : Pk.May l n) (hn : n ≤ 32) (hl : l.length ≤ 65536) :
    Tells 30 #[.pointer (some ⟨b0, 0, none⟩), .pointer (some ⟨b1, 0, none⟩), .pointer (some ⟨b2, 0, none⟩)] (Pk.tb l n) hi (TableAt wS b0 b1 b2 a cap l n) := by
  rintro p w ⟨h0, h1, h2, hg⟩ _
  by_cases hp : p < l.length * n
  · rw [show min p (l.length * n) = p by omega] at h0
    refine (nextN_yes b0 b1 b2 p n a cap l w h0 h1 h2 ?_ hm hn hl hp).mono ?_
    · intro j hj
      obtain ⟨b, off, rfl, hb, hcj⟩ := hc j hj
      exact ⟨b, off, rfl, hg.cell hcj (by simpa using hb)⟩
    · rintro e w' ⟨rfl, rfl⟩
      have hk := step_grown w b0 (.int .i64 ((p + 1 : Nat) : Int))
      refine ⟨rfl, ?_, box_grown h1 hk (by simpa using h01), box_grown h2 hk (by simpa using h02), hg.trans hk⟩
      rw [show min (p + 1) (l.length * n) = p + 1 by omega]
      exact one_setCell (w := w.drew) h0
  · have e1 : min p (l.length * n) = l.length * n := by omega
    have e2 : min (p + 1) (l.length * n) = l.length * n := by omega
    rw [e1] at h0
    have e3 : Pk.tb l n p = 0 := by unfold Pk.tb; rw [if_neg hp]
    rw [e3]
    refine (nextN_no b0 b1 b2 (l.length * n) n a cap l.length w h0 h1 h2 hn hl (Nat.le_refl _)).mono ?_
    rintro e w' ⟨rfl, rfl⟩
    refine ⟨rfl, ?_, h1, h2, hg⟩
    rw [e2]
    exact h0

theorem textBits_any (s : ByteArray) (p : Int) (w : World) :
    Calls Try.prog 28 #[.string s, .int .i64 p] w fun e w' =>
      e = .returned (.func (.func 34) #[] #[.pointer (some ⟨w.heap.size, 0, none⟩), .pointer (some ⟨w.heap.size + 1, 0, none⟩)]) ∧
      Box w' w.heap.size 9 (.string s) ∧ Box w' (w.heap.size + 1) 3 (.int .i64 p) ∧ Below w.heap.size w w' ∧ w'.heap.size = w.heap.size + 2 := by
  go_enter Try.func28, Try.ntmps28
  go_wp2
  go_ret
  exact ⟨rfl, box_alloc (box_new w _ _ _ rfl) _, box_new _ _ _ _ (by simp), ((Below.refl _ w).alloc (Nat.le_refl _) _).alloc (by simp) _, by simp⟩

set_option maxHeartbeats 1000000 in
theorem tableBits_any (a : Option Addr) (L cap n : Nat) (w : World) :
    Calls Try.prog 21 #[.slice a L cap, .int .i64 n] w fun e w' =>
      e = .returned (.func (.func 30) #[] #[.pointer (some ⟨w.heap.size + 2, 0, none⟩), .pointer (some ⟨w.heap.size, 0, none⟩), .pointer (some ⟨w.heap.size + 1, 0, none⟩)]) ∧
      Box w' (w.heap.size + 2) 3 (.int .i64 0) ∧ Box w' w.heap.size 22 (.slice a L cap) ∧ Box w' (w.heap.size + 1) 3 (.int .i64 n) ∧ Below w.heap.size w w' ∧ w'.heap.size = w.heap.size + 3 := by
  go_enter Try.func21, Try.ntmps21
  go_wp2
  go_ret
  have h0 := box_new ((w.alloc (.cells #[.slice a L cap] 22)).alloc (.cells #[.int .i64 n] 3)) 3 (.int .i64 0) (w.heap.size + 2) (by simp)
  have h1 := box_alloc (box_alloc (box_new w 22 (.slice a L cap) _ rfl) (.cells #[.int .i64 n] 3)) (.cells #[.int .i64 0] 3)
  have h2 := box_alloc (box_new (w.alloc (.cells #[.slice a L cap] 22)) 3 (.int .i64 n) (w.heap.size + 1) (by simp)) (.cells #[.int .i64 0] 3)
  exact ⟨rfl, h0, h1, h2, (((Below.refl _ w).alloc (Nat.le_refl _) _).alloc (by simp) _).alloc (by simp; omega) _, by simp⟩

theorem at_arg (s : ByteArray) (i n : Int) (w : World) (h : ¬ (0 ≤ n ∧ n ≤ 32) ∨ i < 0) :
    Calls Try.prog 17 #[.string s, .int .i64 i, .int .i64 n] w fun e w' => e = .returned (.tuple #[.int .i64 0, .int .i64 2]) ∧ Below w.heap.size w w' := by
  have HM := may_any n w
  by_cases hn : 0 ≤ n ∧ n ≤ 32
  · rw [show decide (0 ≤ n ∧ n ≤ 32) = true by simpa using hn] at HM
    have hi : i < 0 := by omega
    go_enter Try.func17, Try.ntmps17
    go_wp2_with fail
    refine HM.mono ?_
    rintro e w' ⟨rfl, rfl⟩
    go_wp2
    go_ret2
    exact ⟨rfl, Below.refl _ _⟩
  · rw [show decide (0 ≤ n ∧ n ≤ 32) = false by simpa using hn] at HM
    clear h
    go_enter Try.func17, Try.ntmps17
    go_wp2_with fail
    refine HM.mono ?_
    rintro e w' ⟨rfl, rfl⟩
    go_wp2
    go_ret2
    exact ⟨rfl, Below.refl _ _⟩

theorem at_none (s : ByteArray) (i n : Nat) (w : World) (hs : s.size ≤ 1000000000000) (hn : n ≤ 32) (hn0 : 0 < n) (h : 8 * s.size / n ≤ i) :
    Calls Try.prog 17 #[.string s, .int .i64 i, .int .i64 n] w fun e w' => e = .returned (.tuple #[.int .i64 0, .int .i64 4]) ∧ Below w.heap.size w w' := by
  have HM := may_any n w
  rw [show decide (0 ≤ (n : Int) ∧ (n : Int) ≤ 32) = true by simp; omega] at HM
  have hq : 8 * (s.size : Int) / n = ((8 * s.size / n : Nat) : Int) := by simp
  have hq2 : 8 * s.size / n ≤ 8 * s.size := Nat.div_le_self _ _
  generalize 8 * s.size / n = q at *
  go_enter Try.func17, Try.ntmps17
  go_wp2_with fail
  refine HM.mono ?_
  rintro e w' ⟨rfl, rfl⟩
  go_wp2
  go_ret2
  exact ⟨rfl, Below.refl _ _⟩

set_option maxHeartbeats 1000000 in
theorem at_yes (s : ByteArray) (i n : Nat) (w : World) (hs : s.size ≤ 1000000000000) (hn : n ≤ 32) (hn0 : 0 < n) (h : i < 8 * s.size / n) :
    Calls Try.prog 17 #[.string s, .int .i64 i, .int .i64 n] w fun e w' => e = .returned (.tuple #[.int .i64 (Pk.num (Pk.sb s.data.toList) (i * n) n), .int .i64 0]) ∧ Below w.heap.size w w' := by
  have HM := may_any n w
  rw [show decide (0 ≤ (n : Int) ∧ (n : Int) ≤ 32) = true by simp; omega] at HM
  have hin : i * n + n ≤ 8 * s.size := by
    have h1 : (i + 1) * n ≤ 8 * s.size / n * n := Nat.mul_le_mul_right _ h
    have h2 := Nat.div_mul_le_self (8 * s.size) n
    rw [Nat.add_mul, Nat.one_mul] at h1
    omega
  have hin2 : (i : Int) * n = ((i * n : Nat) : Int) := by simp
  have hq : 8 * (s.size : Int) / n = ((8 * s.size / n : Nat) : Int) := by simp
  have hq2 : 8 * s.size / n ≤ 8 * s.size := Nat.div_le_self _ _
  generalize 8 * s.size / n = q at *
  generalize i * n = p at *
  obtain ⟨x, HX⟩ : ∃ x, Hid (Pk.num (Pk.sb s.data.toList) p n = x) := ⟨_, rfl⟩
  rw [HX.out]
  go_enter Try.func17, Try.ntmps17
  go_wp2_with fail
  refine HM.mono ?_
  rintro e w' ⟨rfl, rfl⟩
  go_wp2_with fail
  refine (textBits_any s p w').mono ?_
  rintro e w1 ⟨rfl, h1, h2, hb, hz⟩
  have HN := number_any 34 (.inl rfl) _ _ (Pk.sb_le _) _ _ (tellsT w1 w'.heap.size (w'.heap.size + 1) s hs (by omega)) p n hn hin w1 ⟨h1, h2, World.grownBy.refl _ _⟩
  rw [HX.out] at HN
  clear h1 h2
  have hb : Hid _ := hb
  have hz : Hid _ := hz
  go_wp2_with fail
  refine HN.mono ?_
  rintro e w2 ⟨rfl, _, _, hg⟩
  have hz2 := hz.out
  have HB : Hid (Below w'.heap.size w' w2) := hb.out.grown hg (by omega) (fun k e => by cases e; omega)
  clear hg hz2
  go_wp2
  go_ret2
  exact ⟨rfl, HB.out⟩

theorem at_zero (s : ByteArray) (i : Nat) (w : World) (hs : s.size ≤ 1000000000000) :
    Calls Try.prog 17 #[.string s, .int .i64 i, .int .i64 0] w fun e w' => e = .returned (.tuple #[.int .i64 0, .int .i64 0]) ∧ Below w.heap.size w w' := by
  have HM := may_any 0 w
  rw [show decide (0 ≤ (0 : Int) ∧ (0 : Int) ≤ 32) = true by simp] at HM
  go_enter Try.func17, Try.ntmps17
  go_wp2_with fail
  refine HM.mono ?_
  rintro e w' ⟨rfl, rfl⟩
  go_wp2_with fail
  refine (textBits_any s 0 w').mono ?_
  rintro e w1 ⟨rfl, h1, h2, hb, hz⟩
  have HN := number_any 34 (.inl rfl) _ _ (Pk.sb_le _) _ _ (tellsT w1 w'.heap.size (w'.heap.size + 1) s hs (by omega)) 0 0 (by omega) (by omega) w1 ⟨h1, h2, World.grownBy.refl _ _⟩
  rw [show Pk.num (Pk.sb s.data.toList) 0 0 = 0 from rfl] at HN
  clear h1 h2
  have hb : Hid _ := hb
  have hz : Hid _ := hz
  go_wp2_with fail
  refine HN.mono ?_
  rintro e w2 ⟨rfl, _, _, hg⟩
  have hz2 := hz.out
  have HB : Hid (Below w'.heap.size w' w2) := hb.out.grown hg (by omega) (fun k e => by cases e; omega)
  clear hg hz2
  go_wp2
  go_ret2
  exact ⟨rfl, HB.out⟩

namespace Pk
/-- What At tells: a number and an error. -/
def at_ (s : List UInt8) (i n : Int) : Int × Int :=
  if ¬ (0 ≤ n ∧ n ≤ 32) ∨ i < 0 then (0, 2) else if 0 < n ∧ 8 * (s.length : Int) / n ≤ i then (0, 4) else (num (sb s) (i.toNat * n.toNat) n.toNat, 0)
end Pk

theorem at_any (s : ByteArray) (i n : Int) (w : World) (hs : s.size ≤ 1000000000000) :
    Calls Try.prog 17 #[.string s, .int .i64 i, .int .i64 n] w fun e w' => e = .returned (.tuple #[.int .i64 (Pk.at_ s.data.toList i n).1, .int .i64 (Pk.at_ s.data.toList i n).2]) ∧ Below w.heap.size w w' := by
  by_cases h1 : ¬ (0 ≤ n ∧ n ≤ 32) ∨ i < 0
  · rw [show Pk.at_ s.data.toList i n = (0, 2) by unfold Pk.at_; rw [if_pos h1]]
    exact at_arg s i n w h1
  · obtain ⟨m, rfl⟩ := Int.eq_ofNat_of_zero_le (show 0 ≤ n by omega)
    obtain ⟨j, rfl⟩ := Int.eq_ofNat_of_zero_le (show 0 ≤ i by omega)
    have hl : s.data.toList.length = s.size := by simp
    have hq : 8 * (s.size : Int) / m = ((8 * s.size / m : Nat) : Int) := by simp
    rcases Nat.eq_zero_or_pos m with rfl | hm
    · rw [show Pk.at_ s.data.toList j (0 : Nat) = (0, 0) by unfold Pk.at_; rw [if_neg h1, if_neg (by omega)]; rfl]
      exact at_zero s j w hs
    · by_cases h2 : 8 * s.size / m ≤ j
      · rw [show Pk.at_ s.data.toList j m = (0, 4) by unfold Pk.at_; rw [if_neg h1, hl, hq, if_pos (by omega)]]
        exact at_none s j m w hs (by omega) hm h2
      · rw [show Pk.at_ s.data.toList j m = ((Pk.num (Pk.sb s.data.toList) (j * m) m : Int), 0) by unfold Pk.at_; rw [if_neg h1, hl, hq, if_neg (by omega)]; rfl]
        exact at_yes s j m w hs (by omega) hm (by omega)

end Go.Proofs.Ytfhiheeicaoojaa
