/- The walks of the document's own answers for packed: may, Width, bit, number, At. -/
import Derived.Test.YtfhiheeicaoojaaPRefMath
namespace Go.Proofs.Ytfhiheeicaoojaa
open Go.RowKit

theorem rmay_any (z : Int) (n : Nat) (w : World) (hn : n ≤ 32) :
    Calls Try.prog 26 #[.int .i64 z, .int .i64 n] w fun e w' => e = .returned (.bool (decide (0 ≤ z ∧ z < 2 ^ n))) ∧ w' = w := by
  have hp := Pk.pow32 n hn
  rw [Pk.two_pow_cast']
  have hp2 := Pk.two_pow_cast' n
  generalize 2 ^ n = P at *
  go_enter Try.func26, Try.ntmps26
  go_wp2
  all_goals go_ret
  all_goals refine ⟨congrArg (fun b => Ending.returned (.bool b)) ?_, rfl⟩
  all_goals (simp; try omega)

theorem wid_ge {zs : List Int} (hf : Pk.Fit zs) {k : Nat} (hk : k ≤ 32) (h : ¬ Pk.May zs k) : k + 1 ≤ Pk.wid zs := by
  have h2 : ¬ Pk.wid zs ≤ k := fun h3 => h ((Pk.wid_le hf k hk).1 h3)
  omega

set_option maxHeartbeats 2000000 in
theorem rwidth_any (v : Value) (zs : List Int) (w : World) (h : Ints w v zs) (hf : Pk.Fit zs) (hl : zs.length ≤ 1000000000000) :
    Calls Try.prog 12 #[v] w fun e w' => e = .returned (.int .i64 (Pk.wid zs)) ∧ w' = w := by
  obtain ⟨a, cap, rfl, h⟩ := h
  have HC : Hid (∀ j, j < zs.length → ∃ b off, a = some ⟨b, off, none⟩ ∧ w.cell? ⟨b, off + j, none⟩ = some (.int .i64 (zs.getD j 0))) := by
    intro j hj
    rcases h with rfl | ⟨b, off, rfl, _, hc⟩
    · simp at hj
    · exact ⟨b, off, rfl, hc j hj⟩
  have HF : Hid (Pk.Fit zs) := hf
  clear h hf
  go_enter Try.func12, Try.ntmps12
  go_wp2
  go_loop [3] (fun x => ∃ k : Nat, k ≤ 33 ∧ x = .int .i64 k ∧ Hid (k ≤ Pk.wid zs)) (fun x => 33 - (intOf x).toNat)
  case atStart => exact ⟨0, by omega, rfl, Nat.zero_le _⟩
  case round =>
    obtain ⟨k, hk, rfl, hkw⟩ := hrel
    by_cases hlt : k < 33
    · go_wp2
      go_loop [4, 5] (fun y x => ∃ j : Nat, j ≤ zs.length ∧ x = .int .i64 j ∧ ∃ b, y = .bool b ∧ Hid (b = true ↔ Pk.May (zs.take j) k)) (fun _ x => zs.length - (intOf x).toNat)
      case atStart => exact ⟨0, Nat.zero_le _, rfl, true, rfl, by show true = true ↔ _; simp [Pk.May]⟩
      case round =>
        obtain ⟨j, hj, rfl, b, rfl, hb⟩ := hrel
        by_cases hjl : j < zs.length
        · obtain ⟨bl, off, rfl, hc⟩ := HC.out j hjl
          have HT : Hid _ := Pk.may_take zs k j hjl
          have HM := fun W => rmay_any (zs.getD j 0) k W (by omega)
          generalize zs.getD j 0 = z at *
          cases b with
          | true =>
            by_cases hz : 0 ≤ z ∧ z < 2 ^ k
            · have e : decide (0 ≤ z ∧ z < 2 ^ k) = true := decide_eq_true hz
              rw [e] at HM
              have R : Hid (Pk.May (zs.take (j + 1)) k) := HT.out.2 ⟨hb.out.1 rfl, hz⟩
              clear HT hb hz e
              go_wp2_with fail
              refine (HM _).mono ?_
              rintro e w' ⟨rfl, rfl⟩
              go_wp2
              go_round
              case rel => exact ⟨j + 1, by omega, by go_num, true, rfl, iff_of_true rfl R.out⟩
              case measure => simp [intOf]; omega
            · have e : decide (0 ≤ z ∧ z < 2 ^ k) = false := decide_eq_false hz
              rw [e] at HM
              have R : Hid (¬ Pk.May (zs.take (j + 1)) k) := fun h => hz (HT.out.1 h).2
              clear HT hb hz e
              go_wp2_with fail
              refine (HM _).mono ?_
              rintro e w' ⟨rfl, rfl⟩
              go_wp2
              go_round
              case rel => exact ⟨j + 1, by omega, by go_num, false, rfl, iff_of_false (by simp) R.out⟩
              case measure => simp [intOf]; omega
          | false =>
            have R : Hid (¬ Pk.May (zs.take (j + 1)) k) := fun h => by have := hb.out.2 (HT.out.1 h).1; simp at this
            clear HT hb HM
            go_wp2
            go_round
            case rel => exact ⟨j + 1, by omega, by go_num, false, rfl, iff_of_false (by simp) R.out⟩
            case measure => simp [intOf]; omega
        · obtain rfl : j = zs.length := by omega
          cases b with
          | true =>
            have HE : Hid ((k : Int) = Pk.wid zs) := by
              have h2 := hb.out
              rw [List.take_length] at h2
              have h3 := (Pk.wid_le HF.out k (by omega)).2 (h2.1 rfl)
              have h4 := hkw.out
              show (k : Int) = Pk.wid zs
              omega
            clear hb
            go_wp2
            go_ret
            exact ⟨congrArg (fun b => Ending.returned (.int .i64 b)) HE.out, rfl⟩
          | false =>
            have HE : Hid (k + 1 ≤ Pk.wid zs) := by
              have h2 := hb.out
              rw [List.take_length] at h2
              exact wid_ge HF.out (by omega) (fun h => by have := h2.2 h; simp at this)
            clear hb
            go_wp2
            go_round
            case rel => exact ⟨k + 1, by omega, by go_num, HE⟩
            case measure => simp [intOf]; omega
    · obtain rfl : k = 33 := by omega
      have HE : Hid ((33 : Int) = Pk.wid zs) := by
        have h3 := Pk.wid_33 zs
        have h4 := hkw.out
        show (33 : Int) = Pk.wid zs
        omega
      go_wp2
      go_ret
      exact ⟨congrArg (fun b => Ending.returned (.int .i64 b)) HE.out, rfl⟩

theorem rbit_any (s : ByteArray) (p : Nat) (w : World) (hs : s.size ≤ 1000000000000) (hp : p ≤ 1000000000000000) :
    Calls Try.prog 35 #[.string s, .int .i64 p] w fun e w' => e = .returned (.bool (decide (Pk.sb s.data.toList p = 1))) ∧ w' = w := by
  by_cases hq : p / 8 < s.size
  · obtain ⟨q, hq1, hqs⟩ : ∃ q : Nat, (p : Int) / 8 = q ∧ q < s.size := ⟨p / 8, by omega, by omega⟩
    obtain ⟨r, hr, hr8⟩ : ∃ r : Nat, (p : Int) % 8 = r ∧ r < 8 := ⟨p % 8, by omega, by omega⟩
    obtain ⟨y, hy, hy8⟩ : ∃ y : Nat, (s[q].toNat : Int) / 2 ^ r = y ∧ y ≤ 255 := by
      refine ⟨s[q].toNat / 2 ^ r, by simp, ?_⟩
      have := Nat.div_le_self s[q].toNat (2 ^ r)
      have := UInt8.toNat_lt s[q]
      omega
    have HE : Hid (y % 2 = Pk.sb s.data.toList p) := by
      show y % 2 = Pk.sb s.data.toList p
      have e1 : p / 8 = q := by omega
      have e2 : p % 8 = r := by omega
      have e3 : s.data.toList.getD q 0 = s[q] := by simp [List.getD, hqs]; rfl
      have e4 : s[q].toNat / 2 ^ r = y := by
        have : ((s[q].toNat / 2 ^ r : Nat) : Int) = y := by rw [← hy]; simp
        omega
      unfold Pk.sb
      rw [e1, e2, e3, e4]
    generalize Pk.sb s.data.toList p = z at *
    go_enter Try.func35, Try.ntmps35
    go_wp2
    go_ret
    refine ⟨congrArg (fun b => Ending.returned (.bool b)) ?_, rfl⟩
    have := HE.out
    rw [Bool.eq_iff_iff]
    simp
    omega
  · have HE : Pk.sb s.data.toList p = 0 := Pk.sb_past _ _ (by simp; omega)
    rw [HE]
    go_enter Try.func35, Try.ntmps35
    go_wp2
    go_ret
    exact ⟨rfl, rfl⟩

set_option maxHeartbeats 1000000 in
theorem rnumber_any (s : ByteArray) (i n : Nat) (w : World) (hs : s.size ≤ 1000000000000) (hn : n ≤ 32) (hi : i * n ≤ 100000000000000) :
    Calls Try.prog 29 #[.string s, .int .i64 i, .int .i64 n] w fun e w' => e = .returned (.int .i64 (Pk.num (Pk.sb s.data.toList) (i * n) n)) ∧ w' = w := by
  have hin : (i : Int) * n = ((i * n : Nat) : Int) := by simp
  generalize i * n = p at *
  go_enter Try.func29, Try.ntmps29
  go_wp2
  go_loop [7, 8] (fun x k => ∃ j : Nat, j ≤ n ∧ k = .int .i64 ((j : Int) - 1) ∧ x = .int .i64 (Pk.num (Pk.sb s.data.toList) (p + j) (n - j))) (fun _ k => (intOf k + 1).toNat)
  case atStart => exact ⟨n, Nat.le_refl _, rfl, by rw [Nat.sub_self]; rfl⟩
  case round =>
    obtain ⟨j, hj, rfl, rfl⟩ := hrel
    have hx := Pk.num_lt (Pk.sb_le s.data.toList) (p + j) (n - j)
    have hx2 := Pk.pow32 (n - j) (by omega)
    by_cases h0 : 0 < j
    · obtain ⟨m, rfl⟩ : ∃ m, j = m + 1 := ⟨j - 1, by omega⟩
      have HB := fun W => rbit_any s (p + m) W hs (by omega)
      have HN : Hid (Pk.num (Pk.sb s.data.toList) (p + m) (n - m) = 2 * Pk.num (Pk.sb s.data.toList) (p + (m + 1)) (n - (m + 1)) + Pk.sb s.data.toList (p + m)) := by
        have := Pk.num_low (Pk.sb s.data.toList) (p + m) (n - (m + 1))
        rw [show n - (m + 1) + 1 = n - m by omega] at this
        exact this
      have hsb := Pk.sb_le s.data.toList (p + m)
      generalize Pk.num (Pk.sb s.data.toList) (p + (m + 1)) (n - (m + 1)) = x at *
      generalize 2 ^ (n - (m + 1)) = P at *
      have hm1 : (((m + 1 : Nat) : Int) - 1) = (m : Int) := by omega
      have hpm : (p : Int) + (m : Int) = ((p + m : Nat) : Int) := by simp
      rw [hm1]
      obtain ⟨pm, HP⟩ : ∃ pm, Hid (p + m = pm) := ⟨_, rfl⟩
      rw [HP.out] at HB HN hsb hpm
      by_cases hb : Pk.sb s.data.toList pm = 1
      · rw [decide_eq_true hb] at HB
        rw [hb] at HN
        clear hb hsb
        go_wp2_with fail
        refine (HB _).mono ?_
        rintro e w' ⟨rfl, rfl⟩
        go_wp2
        go_round
        case rel => exact ⟨m, by omega, rfl, by rw [HP.out, HN.out]; go_num⟩
        case measure => simp [intOf]
      · rw [decide_eq_false hb] at HB
        rw [show Pk.sb s.data.toList pm = 0 by omega] at HN
        clear hb hsb
        go_wp2_with fail
        refine (HB _).mono ?_
        rintro e w' ⟨rfl, rfl⟩
        go_wp2
        go_round
        case rel => exact ⟨m, by omega, rfl, by rw [HP.out, HN.out]; go_num⟩
        case measure => simp [intOf]
    · obtain rfl : j = 0 := by omega
      rw [Nat.add_zero, Nat.sub_zero] at *
      obtain ⟨x, HX⟩ : ∃ x, Hid (x = Pk.num (Pk.sb s.data.toList) p n) := ⟨_, rfl⟩
      rw [← HX.out] at hx ⊢
      go_wp2
      go_ret
      exact ⟨congrArg (fun b : Nat => Ending.returned (.int .i64 b)) HX.out, rfl⟩

theorem rat_arg (s : ByteArray) (i n : Int) (w : World) (h : ¬ (0 ≤ n ∧ n ≤ 32) ∨ i < 0) :
    Calls Try.prog 18 #[.string s, .int .i64 i, .int .i64 n] w fun e w' => e = .returned (.tuple #[.int .i64 0, .int .i64 2]) ∧ w' = w := by
  have hd : (decide (n < 0) || decide (32 < n) || decide (i < 0)) = true := by simp; omega
  go_enter Try.func18, Try.ntmps18
  go_wp2
  all_goals go_ret2
  all_goals exact ⟨rfl, rfl⟩

theorem rat_none (s : ByteArray) (i n : Nat) (w : World) (hs : s.size ≤ 1000000000000) (hn : n ≤ 32) (hn0 : 0 < n) (h : 8 * s.size / n ≤ i) :
    Calls Try.prog 18 #[.string s, .int .i64 i, .int .i64 n] w fun e w' => e = .returned (.tuple #[.int .i64 0, .int .i64 4]) ∧ w' = w := by
  have hq : 8 * (s.size : Int) / n = ((8 * s.size / n : Nat) : Int) := by simp
  have hq2 : 8 * s.size / n ≤ 8 * s.size := Nat.div_le_self _ _
  generalize 8 * s.size / n = q at *
  go_enter Try.func18, Try.ntmps18
  go_wp2
  go_ret2
  exact ⟨rfl, rfl⟩

theorem rat_yes (s : ByteArray) (i n : Nat) (w : World) (hs : s.size ≤ 1000000000000) (hn : n ≤ 32) (hn0 : 0 < n) (h : i < 8 * s.size / n) :
    Calls Try.prog 18 #[.string s, .int .i64 i, .int .i64 n] w fun e w' => e = .returned (.tuple #[.int .i64 (Pk.num (Pk.sb s.data.toList) (i * n) n), .int .i64 0]) ∧ w' = w := by
  have hin : i * n + n ≤ 8 * s.size := by
    have h1 : (i + 1) * n ≤ 8 * s.size / n * n := Nat.mul_le_mul_right _ h
    have h2 := Nat.div_mul_le_self (8 * s.size) n
    rw [Nat.add_mul, Nat.one_mul] at h1
    omega
  have HN := rnumber_any s i n w hs hn (by omega)
  generalize Pk.num (Pk.sb s.data.toList) (i * n) n = x at *
  have hq : 8 * (s.size : Int) / n = ((8 * s.size / n : Nat) : Int) := by simp
  have hq2 : 8 * s.size / n ≤ 8 * s.size := Nat.div_le_self _ _
  generalize 8 * s.size / n = q at *
  clear hin
  go_enter Try.func18, Try.ntmps18
  go_wp2_with fail
  refine HN.mono ?_
  rintro e w' ⟨rfl, rfl⟩
  go_wp2
  go_ret2
  exact ⟨rfl, rfl⟩

theorem rat_zero (s : ByteArray) (i : Nat) (w : World) :
    Calls Try.prog 18 #[.string s, .int .i64 i, .int .i64 0] w fun e w' => e = .returned (.tuple #[.int .i64 0, .int .i64 0]) ∧ w' = w := by
  go_enter Try.func18, Try.ntmps18
  go_wp2
  go_ret2
  exact ⟨rfl, rfl⟩

theorem rat_any (s : ByteArray) (i n : Int) (w : World) (hs : s.size ≤ 1000000000000) :
    Calls Try.prog 18 #[.string s, .int .i64 i, .int .i64 n] w fun e w' => e = .returned (.tuple #[.int .i64 (Pk.at_ s.data.toList i n).1, .int .i64 (Pk.at_ s.data.toList i n).2]) ∧ w' = w := by
  by_cases h1 : ¬ (0 ≤ n ∧ n ≤ 32) ∨ i < 0
  · rw [show Pk.at_ s.data.toList i n = (0, 2) by unfold Pk.at_; rw [if_pos h1]]
    exact rat_arg s i n w h1
  · obtain ⟨m, rfl⟩ := Int.eq_ofNat_of_zero_le (show 0 ≤ n by omega)
    obtain ⟨j, rfl⟩ := Int.eq_ofNat_of_zero_le (show 0 ≤ i by omega)
    have hl : s.data.toList.length = s.size := by simp
    have hq : 8 * (s.size : Int) / m = ((8 * s.size / m : Nat) : Int) := by simp
    rcases Nat.eq_zero_or_pos m with rfl | hm
    · rw [show Pk.at_ s.data.toList j (0 : Nat) = (0, 0) by unfold Pk.at_; rw [if_neg h1, if_neg (by omega)]; rfl]
      exact rat_zero s j w
    · by_cases h2 : 8 * s.size / m ≤ j
      · rw [show Pk.at_ s.data.toList j m = (0, 4) by unfold Pk.at_; rw [if_neg h1, hl, hq, if_pos (by omega)]]
        exact rat_none s j m w hs (by omega) hm h2
      · rw [show Pk.at_ s.data.toList j m = ((Pk.num (Pk.sb s.data.toList) (j * m) m : Int), 0) by unfold Pk.at_; rw [if_neg h1, hl, hq, if_neg (by omega)]; rfl]
        exact rat_yes s j m w hs (by omega) hm (by omega)

end Go.Proofs.Ytfhiheeicaoojaa
