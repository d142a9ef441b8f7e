/- The walk of the document's own number (carouselref01): for every string and every place it returns what ints' read does; nothing that was in memory has changed. -/
import Derived.Test.YtmekaofjcjmklaaRefMath
import Derived.Deep.RegionHeld3
import Derived.Lib.Strings
namespace Go.Proofs.Ytmekaofjcjmklaa
open Go.RowKit

theorem drop_get (s : ByteArray) (i j : Nat) (h : i + j < s.size) : (s.data.toList.drop i)[j]? = some s[i + j] := by
  rw [List.getElem?_drop, List.getElem?_eq_getElem (by simpa using h)]; rfl

theorem long_step (s : ByteArray) (i k : Nat) (h : i + k < s.size) (hb : 128 ≤ s[i + k].toNat) (hL : Vi.Long (s.data.toList.drop i) k) : Vi.Long (s.data.toList.drop i) (k + 1) := by
  intro j b hj hg
  rcases Nat.lt_or_ge j k with h1 | h1
  · exact hL j b h1 hg
  · obtain rfl : j = k := by omega
    rw [drop_get s i j h] at hg
    obtain rfl := Option.some.inj hg
    exact hb

theorem len_data (s : ByteArray) : s.data.toList.length = s.size := by simp

theorem num_open (s : ByteArray) (i k : Nat) (h : i + k = s.size) (hL : Vi.Long (s.data.toList.drop i) k) : Vi.readS s.data.toList i = (0, 0, false) := by
  have hl := len_data s
  by_cases h0 : i = s.size
  · exact Vi.readS_out _ _ (by omega)
  · refine Vi.readS_none _ i (by omega) (Vi.dec_open _ ?_)
    rw [List.length_drop, hl, show s.size - i = k by omega]
    exact hL

theorem num_long (s : ByteArray) (i k : Nat) (h : i + k < s.size) (hL : Vi.Long (s.data.toList.drop i) k) (h9 : 9 < k) : Vi.readS s.data.toList i = (0, 0, false) := by
  have hl := len_data s
  exact Vi.readS_none _ i (by omega) (Vi.dec_long _ k hL h9)

theorem num_ten (s : ByteArray) (i : Nat) (h : i + 9 < s.size) (hL : Vi.Long (s.data.toList.drop i) 9) (h1 : s[i + 9].toNat < 128) (h2 : 1 < s[i + 9].toNat) : Vi.readS s.data.toList i = (0, 0, false) := by
  have hl := len_data s
  exact Vi.readS_none _ i (by omega) (Vi.dec_ten _ _ hL (drop_get s i 9 h) h1 h2)

/-- The bytes from i on, up to the place k. -/
def upto (s : ByteArray) (i k : Nat) : List UInt8 := (s.data.toList.drop i).take (k + 1)

theorem upto_len (s : ByteArray) (i k : Nat) (h : i + k < s.size) : (upto s i k).length = k + 1 := by
  have hl := len_data s
  rw [upto, List.length_take, List.length_drop]; omega

theorem num_small (s : ByteArray) (i k : Nat) (h : i + k < s.size) (hk : k ≤ 9) (h9 : k = 9 → s[i + k].toNat ≤ 1) : Vi.val (upto s i k) < 18446744073709551616 :=
  Vi.val_small _ k hk _ (drop_get s i k h) h9

theorem num_same (s : ByteArray) (i k : Nat) (h : i + k < s.size) (hv : Vi.val (upto s i k) < 18446744073709551616) (he : Vi.enc (Vi.val (upto s i k)) = upto s i k) :
    Vi.readS s.data.toList i = (Vi.val (upto s i k), (i : Int) + k + 1, true) := by
  have hl := len_data s
  have := Vi.readS_some s.data.toList i _ _ (by omega) (Vi.dec_same _ k (by rw [List.length_drop]; omega) hv he)
  rw [this]
  have e : (i : Int) + ((k + 1 : Nat) : Int) = (i : Int) + k + 1 := by omega
  rw [e]
  rfl

theorem num_other (s : ByteArray) (i k : Nat) (h : i + k < s.size) (hL : Vi.Long (s.data.toList.drop i) k) (h1 : s[i + k].toNat < 128) (he : Vi.enc (Vi.val (upto s i k)) ≠ upto s i k) :
    Vi.readS s.data.toList i = (0, 0, false) := by
  have hl := len_data s
  exact Vi.readS_none _ i (by omega) (Vi.dec_other _ k hL _ (drop_get s i k h) h1 he)

/-- One byte more, from the end. -/
theorem val_step (s : ByteArray) (i k j : Nat) (h : i + k < s.size) (hj : j ≤ k) : ∀ (hi : i + j < s.size), Vi.val ((upto s i k).drop (j + 1)) * 128 + s[i + j].toNat % 128 = Vi.val ((upto s i k).drop j) := by
  intro hi
  have hlen := upto_len s i k h
  have hg : (upto s i k)[j]? = some s[i + j] := by
    rw [upto, List.getElem?_take, if_pos (by omega), drop_get s i j hi]
  have e : (upto s i k).drop j = s[i + j] :: (upto s i k).drop (j + 1) := by
    rw [List.drop_eq_getElem_cons (by omega)]
    rw [List.getElem?_eq_getElem (by omega)] at hg
    rw [Option.some.inj hg]
  rw [e]
  simp only [Vi.val]
  omega

theorem val_end (s : ByteArray) (i k : Nat) (h : i + k < s.size) : Vi.val ((upto s i k).drop (k + 1)) = 0 := by
  rw [List.drop_eq_nil_of_le (by rw [upto_len s i k h]; omega)]; rfl

theorem val_le (s : ByteArray) (i k j : Nat) : Vi.val ((upto s i k).drop j) ≤ Vi.val (upto s i k) := Vi.val_drop _ _

theorem cut_run (s : ByteArray) (i k : Nat) (h : i + k < s.size) (W : World) :
    (Instr.slice 9 (.string s) (some (.int .i64 (i : Int))) (some (.int .i64 ((i : Int) + k + 1))) none).run Try.prog W = .ok (.string (s.extract i (i + k + 1))) W := by
  rw [run_slice_string (P := Try.prog) (w := W) 9 s .i64 .i64 i ((i : Int) + k + 1) Try.underlying9 (by omega) (by omega) (by omega)]
  have e1 : ((i : Int)).toNat = i := by omega
  have e2 : ((i : Int) + k + 1).toNat = i + k + 1 := by omega
  rw [e1, e2]

theorem cut_list (s : ByteArray) (i k : Nat) : (s.extract i (i + k + 1)).toList = upto s i k := by
  rw [ByteArray.toList_eq, Lib.extract_data, upto, show i + k + 1 - i = k + 1 by omega]

theorem test_yes {s : ByteArray} {i k : Nat} (h : (!Vi.enc (Vi.val (upto s i k)) == (s.extract i (i + k + 1)).toList) = true) : Vi.enc (Vi.val (upto s i k)) ≠ upto s i k := by
  rw [cut_list] at h
  simpa using h

theorem test_no {s : ByteArray} {i k : Nat} (h : (!Vi.enc (Vi.val (upto s i k)) == (s.extract i (i + k + 1)).toList) = false) : Vi.enc (Vi.val (upto s i k)) = upto s i k := by
  rw [cut_list] at h
  simpa using h

theorem bdrew {w w1 : World} (h : Below w.drew.heap.size w.drew w1) : Below w.heap.size w w1 := (Below.refl _ _).drew.trans h

set_option maxHeartbeats 1000000 in
set_option maxRecDepth 20000 in
theorem number_in (s : ByteArray) (i : Nat) (w : World) (hs : s.size ≤ 140737488351232) (h : i ≤ s.size) :
    Calls Try.prog 42 #[.string s, .int .i64 i] w fun e w' => e = .returned (.tuple #[.int .u64 (Vi.readS s.data.toList i).1, .int .i64 (Vi.readS s.data.toList i).2.1, .bool (Vi.readS s.data.toList i).2.2]) ∧ Below w.heap.size w w' := by
  have hb1 : decide ((i : Int) < 0) = false := by simp
  have hb2 : decide (s.size < i) = false := by simp; omega
  go_enter Try.func42, Try.ntmps42
  go_wp2
  go_loop [7] (fun c => ∃ k : Nat, i + k ≤ s.size ∧ c = .int .i64 ((i : Int) + k) ∧ Hid (Vi.Long (s.data.toList.drop i) k)) (fun c => s.size - (intOf c).toNat)
  case atStart => exact ⟨0, by omega, by simp, fun j b hj => by omega⟩
  case round =>
    obtain ⟨k, hk, rfl, hL⟩ := hrel
    by_cases hlt : i + k < s.size
    · by_cases hb : 128 ≤ s[i + k].toNat
      · go_wp2
        have hL' := long_step s i k hlt hb hL.out
        go_round
        case rel => exact ⟨k + 1, by omega, by go_num, hL'⟩
        case measure => simp [intOf]; omega
      · by_cases h9 : 9 < k
        · have HR : Hid (Vi.readS s.data.toList i = (0, 0, false)) := num_long s i k hlt hL.out h9
          go_wp2
          go_ret3
          rw [HR.out]
          exact ⟨rfl, Below.refl _ _⟩
        · by_cases h10 : k = 9 ∧ 1 < s[i + k].toNat
          · obtain ⟨rfl, h11⟩ := h10
            have HR : Hid (Vi.readS s.data.toList i = (0, 0, false)) := num_ten s i hlt hL.out (by omega) h11
            go_wp2
            go_ret3
            rw [HR.out]
            exact ⟨rfl, Below.refl _ _⟩
          · have hv := num_small s i k hlt (by omega) (by omega)
            have HL : Hid (s[i + k].toNat < 128) := by rw [Hid]; omega
            by_cases hk9 : k < 9
            all_goals
              go_wp2
              go_loop [8, 9] (fun u c => ∃ j : Nat, j ≤ k + 1 ∧ c = .int .i64 ((i : Int) + j - 1) ∧ u = .int .u64 (Vi.val ((upto s i k).drop j) : Nat)) (fun _ c => ((intOf c) + 1 - i).toNat)
              case atStart => exact ⟨k + 1, by omega, by go_num, by rw [val_end s i k hlt]; rfl⟩
              case round =>
                obtain ⟨j, hj, rfl, rfl⟩ := hrel
                cases j with
                | zero =>
                  rw [List.drop_zero]
                  go_wp2
                  have q4 : IntKind.i64.wrap ((i : Int) + k + 1) = (i : Int) + k + 1 := IntWalk.i64_in _ (by omega)
                  have hsl := cut_run s i k hlt
                  go_region_held3 (fun _ => True) (trivial) ((go_at_call 37; refine (bytes_any _ _ ?_).mono ?_; exact hv; rintro e w1 ⟨rfl, hb1⟩))
                  clear q4 hsl
                  have hbw := bdrew hb1
                  clear hb1
                  go_wp2
                  · have ht : (!Vi.enc (Vi.val (upto s i k)) == (s.extract i (i + k + 1)).toList) = true := by assumption
                    have HR := num_other s i k hlt hL.out HL.out (test_yes ht)
                    go_ret3
                    rw [HR]
                    exact ⟨rfl, hbw⟩
                  · have ht : (!Vi.enc (Vi.val (upto s i k)) == (s.extract i (i + k + 1)).toList) = false := by assumption
                    have HR := num_same s i k hlt hv (test_no ht)
                    go_ret3
                    rw [HR]
                    exact ⟨rfl, hbw⟩
                | succ j =>
                  have h1 := val_step s i k j hlt (by omega) (by omega)
                  have h2 := val_le s i k j
                  have H1 : Hid _ := h1
                  have h3 : Vi.val ((upto s i k).drop (j + 1)) * 128 + s[i + j].toNat % 128 < 18446744073709551616 := by omega
                  clear h1 h2
                  generalize Vi.val ((upto s i k).drop (j + 1)) = x at *
                  go_wp2
                  go_round
                  case rel => exact ⟨j, by omega, by go_num, by rw [← H1.out]; go_num⟩
                  case measure => simp [intOf]; omega
    · have HR : Hid (Vi.readS s.data.toList i = (0, 0, false)) := num_open s i k (by omega) hL.out
      go_wp2
      go_ret3
      rw [HR.out]
      exact ⟨rfl, Below.refl _ _⟩

set_option maxHeartbeats 400000 in
theorem number_out (s : ByteArray) (i : Int) (w : World) (h : i < 0 ∨ (s.size : Int) < i) :
    Calls Try.prog 42 #[.string s, .int .i64 i] w fun e w' => e = .returned (.tuple #[.int .u64 0, .int .i64 0, .bool false]) ∧ Below w.heap.size w w' := by
  by_cases h0 : i < 0
  · go_enter Try.func42, Try.ntmps42
    go_wp2
    go_ret3
    exact ⟨rfl, Below.refl _ _⟩
  · have h1 : (s.size : Int) < i := by omega
    go_enter Try.func42, Try.ntmps42
    go_wp2
    go_ret3
    exact ⟨rfl, Below.refl _ _⟩

theorem number_any (s : ByteArray) (i : Int) (w : World) (hs : s.size ≤ 140737488351232) :
    Calls Try.prog 42 #[.string s, .int .i64 i] w fun e w' => e = .returned (.tuple #[.int .u64 (Vi.readS s.data.toList i).1, .int .i64 (Vi.readS s.data.toList i).2.1, .bool (Vi.readS s.data.toList i).2.2]) ∧ Below w.heap.size w w' := by
  by_cases h : i < 0 ∨ (s.size : Int) < i
  · have hl := len_data s
    rw [Vi.readS_out s.data.toList i (by omega)]
    exact number_out s i w h
  · obtain ⟨n, rfl⟩ := Int.eq_ofNat_of_zero_le (show 0 ≤ i by omega)
    exact number_in s n w hs (by omega)

set_option maxHeartbeats 400000 in
theorem rget_any (s : ByteArray) (i : Int) (w : World) (hs : s.size ≤ 140737488351232) :
    Calls Try.prog 24 #[.string s, .int .i64 i] w fun e w' => ∃ n x : Int, ∃ b : Bool, e = .returned (.tuple #[.int .i64 n, .int .i64 x, .bool b]) ∧ Hid (Vi.getS s.data.toList i = (n, x, b)) ∧ Below w.heap.size w w' := by
  have hlt : (Vi.readS s.data.toList i).1 < 18446744073709551616 := Vi.readS_lt _ _
  have HG : Hid (Vi.getS s.data.toList i = if (Vi.readS s.data.toList i).2.2 = true ∧ (Vi.readS s.data.toList i).1 ≤ 9223372036854775807 then (((Vi.readS s.data.toList i).1 : Int), (Vi.readS s.data.toList i).2.1, true) else (0, 0, false)) := rfl
  have H := number_any s i w hs
  revert HG H hlt
  generalize Vi.readS s.data.toList i = r
  obtain ⟨u, x, ok⟩ := r
  intro hlt HG H
  simp only at hlt HG
  go_enter Try.func24, Try.ntmps24
  go_wp2_with fail
  refine H.mono ?_
  clear H
  rintro e w' ⟨rfl, hb⟩
  cases ok
  · go_wp2
    go_ret3
    exact ⟨_, _, _, rfl, by rw [Hid, HG.out]; simp, hb⟩
  · by_cases hu : u ≤ 9223372036854775807
    · go_wp2
      go_ret3
      exact ⟨_, _, _, rfl, by rw [Hid, HG.out]; simp [hu], hb⟩
    · go_wp2
      go_ret3
      exact ⟨_, _, _, rfl, by rw [Hid, HG.out]; simp [hu], hb⟩

end Go.Proofs.Ytmekaofjcjmklaa
