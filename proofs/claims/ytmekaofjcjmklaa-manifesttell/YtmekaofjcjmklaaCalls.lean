/- The walks of ints.Put, PutInt, Get and GetInt: what they return, for every argument; nothing that was in memory has changed. -/
import Derived.Test.YtmekaofjcjmklaaWrite
namespace Go.Proofs.Ytmekaofjcjmklaa
open Go.RowKit

namespace Vi
/-- The bytes that Put tells. -/
def putL (n : Int) : List UInt8 := if n < 0 then [] else enc n.toNat
/-- The bytes that PutInt tells. -/
def putI (n : Int) : List UInt8 := enc (fold n)
/-- What Get tells. -/
def getS (l : List UInt8) (i : Int) : Int × Int × Bool :=
  if (readS l i).2.2 = true ∧ (readS l i).1 ≤ 9223372036854775807 then ((readS l i).1, (readS l i).2.1, true) else (0, 0, false)
/-- What GetInt tells. -/
def getI (l : List UInt8) (i : Int) : Int × Int × Bool :=
  if (readS l i).2.2 = true then (unfold (readS l i).1, (readS l i).2.1, true) else (0, 0, false)

theorem readS_lt (l : List UInt8) (i : Int) : (readS l i).1 < 2 ^ 64 := by
  unfold readS
  split
  · simp
  · split
    · simp
    · rename_i n m hd
      exact (enc_dec _ _ _ hd).1
end Vi

theorem three_eq {p : Int × Int × Bool} {n x : Int} {b : Bool} {n' x' : Int} {b' : Bool} (h : p = (n, x, b)) (h' : p = (n', x', b')) : n = n' ∧ x = x' ∧ b = b' := by
  rw [h] at h'
  simpa using h'

theorem bnext {w a b : World} (h : Below w.heap.size w a) (k : Below a.heap.size a b) : Below w.heap.size w b := h.trans (k.mono h.size)

set_option maxHeartbeats 400000 in
theorem put_any (n : Int) (w : World) (h0 : -9223372036854775808 ≤ n) (h1 : n ≤ 9223372036854775807) :
    Calls Try.prog 19 #[.int .i64 n] w fun e w' => e = .returned (.string ⟨(Vi.putL n).toArray⟩) ∧ Below w.heap.size w w' := by
  by_cases hn : n < 0
  · have e : Vi.putL n = [] := by simp [Vi.putL, hn]
    rw [e]
    go_enter Try.func19, Try.ntmps19
    go_wp2
    go_ret
    exact ⟨rfl, Below.refl _ _⟩
  · obtain ⟨k, rfl⟩ := Int.eq_ofNat_of_zero_le (show 0 ≤ n by omega)
    have e : Vi.putL (k : Int) = Vi.enc k := by rw [Vi.putL, if_neg hn, Int.toNat_natCast]
    rw [e]
    go_enter Try.func19, Try.ntmps19
    go_wp2_with fail
    refine (write_any _ _ (by omega)).mono ?_
    rintro e w' ⟨rfl, hb⟩
    go_wp2
    go_ret
    exact ⟨rfl, hb⟩

set_option maxHeartbeats 400000 in
theorem get_any (s : ByteArray) (i : Int) (w : World) (hs : s.size ≤ 140737488351232) :
    Calls Try.prog 39 #[.string s, .int .i64 i] w fun e w' => ∃ n x : Int, ∃ b : Bool, e = .returned (.tuple #[.int .i64 n, .int .i64 x, .bool b]) ∧ Hid (Vi.getS s.data.toList i = (n, x, b)) ∧ w' = w := by
  have hlt : (Vi.readS s.data.toList i).1 < 18446744073709551616 := Vi.readS_lt _ _
  have HG : Hid (Vi.getS s.data.toList i = if (Vi.readS s.data.toList i).2.2 = true ∧ (Vi.readS s.data.toList i).1 ≤ 9223372036854775807 then (((Vi.readS s.data.toList i).1 : Int), (Vi.readS s.data.toList i).2.1, true) else (0, 0, false)) := rfl
  have H := read_any s i w hs
  revert HG H hlt
  generalize Vi.readS s.data.toList i = r
  obtain ⟨u, x, ok⟩ := r
  intro hlt HG H
  simp only at hlt HG
  go_enter Try.func39, Try.ntmps39
  go_wp2_with fail
  refine H.mono ?_
  clear H
  rintro e w' ⟨rfl, rfl⟩
  cases ok
  · go_wp2
    go_ret3
    exact ⟨_, _, _, rfl, by rw [Hid, HG.out]; simp, rfl⟩
  · by_cases hu : u ≤ 9223372036854775807
    · go_wp2
      go_ret3
      exact ⟨_, _, _, rfl, by rw [Hid, HG.out]; simp [hu], rfl⟩
    · go_wp2
      go_ret3
      exact ⟨_, _, _, rfl, by rw [Hid, HG.out]; simp [hu], rfl⟩

end Go.Proofs.Ytmekaofjcjmklaa
