/- The walks of the document's own bytes, Put and PutInt (carouselref01): they return what ints' do; nothing that was in memory has changed. -/
import Derived.Test.YtmekaofjcjmklaaCalls
namespace Go.Proofs.Ytmekaofjcjmklaa
open Go.RowKit

/-- string([]byte{v}): the block that is laid for it, and the text. -/
theorem conv_one (W : World) (n : Nat) (h : n < 256) :
    (convert 34 9 (.slice (some ⟨W.heap.size, 0, none⟩) 1 1)).run Try.prog (W.alloc (.cells #[.int .u8 (n : Int)] 5)) = .ok (.string ⟨#[UInt8.ofNat n]⟩) (W.alloc (.cells #[.int .u8 (n : Int)] 5)) := by
  have hown := World.ownsRow_lit (e := 5) (size := 1) (base := W.heap.size) W #[.int .u8 (n : Int)] 1 (Nat.le_refl _) (by decide) rfl
  have e : (#[Value.int .u8 (n : Int)] : Array Value).toList = bcells [UInt8.ofNat n] := by
    simp only [bcells, List.map_cons, List.map_nil, ofNat_toNat n h]
  rw [e] at hown
  exact conv_own _ _ _ _ _ rfl hown

theorem app_bytes (p q : List UInt8) : (⟨p.toArray⟩ : ByteArray) ++ ⟨q.toArray⟩ = ⟨(p ++ q).toArray⟩ := by
  apply ByteArray.ext
  simp

theorem bytes_step (u f v : Nat) (p : List UInt8) (hlt : 128 ≤ v) (h : v < 128 ^ (f + 1) ∧ p ++ Vi.vb f v = Vi.enc u) :
    ∃ g, (p ++ [UInt8.ofNat (v % 128 + 128)]).length ≤ 10 ∧ v / 128 < 128 ^ (g + 1) ∧ (p ++ [UInt8.ofNat (v % 128 + 128)]) ++ Vi.vb g (v / 128) = Vi.enc u := by
  obtain ⟨h1, h2⟩ := h
  cases f with
  | zero => omega
  | succ f =>
    have hd : v / 128 < 128 ^ (f + 1) := by
      rw [Nat.pow_succ] at h1
      exact Nat.div_lt_of_lt_mul (by rw [Nat.mul_comm]; exact h1)
    have h3 : (p ++ [UInt8.ofNat (v % 128 + 128)]) ++ Vi.vb f (v / 128) = Vi.enc u := by
      rw [← h2, Vi.vb_big _ _ hlt, List.append_assoc, List.singleton_append]
    refine ⟨f, ?_, hd, h3⟩
    have hl := (Vi.enc_len u).2
    rw [← h3, List.length_append] at hl
    omega

theorem bytes_last (u f v : Nat) (p : List UInt8) (hlt : v < 128) (h : v < 128 ^ (f + 1) ∧ p ++ Vi.vb f v = Vi.enc u) : p ++ [UInt8.ofNat v] = Vi.enc u := by
  rw [← h.2, Vi.vb_small _ _ hlt]

theorem ret_string {a b : ByteArray} (h : a = b) : Ending.returned (.string a) = .returned (.string b) := by rw [h]

set_option maxHeartbeats 400000 in
set_option maxRecDepth 20000 in
theorem bytes_any (u : Nat) (w : World) (h : u < 18446744073709551616) :
    Calls Try.prog 37 #[.int .u64 u] w fun e w' => e = .returned (.string ⟨(Vi.enc u).toArray⟩) ∧ Below w.heap.size w w' := by
  go_enter Try.func37, Try.ntmps37
  go_wp2
  go_loopw [0, 3] (fun x s wr => ∃ (f v : Nat) (p : List UInt8), x = .int .u64 v ∧ s = .string ⟨p.toArray⟩ ∧ v < 18446744073709551616 ∧ p.length ≤ 10 ∧ Hid (v < 128 ^ (f + 1) ∧ p ++ Vi.vb f v = Vi.enc u) ∧ Below w.heap.size w wr) (fun x _ _ => (intOf x).toNat)
  case atStart => exact ⟨9, u, [], rfl, rfl, h, by simp, ⟨by omega, rfl⟩, Below.refl _ _⟩
  case round =>
    obtain ⟨f, v, p, rfl, rfl, hv, hp, hr, hbel⟩ := hrel
    by_cases hlt : 128 ≤ v
    · have hcv := conv_one wr (v % 128 + 128) (by omega)
      have ec : ((v % 128 + 128 : Nat) : Int) = (v : Int) % 128 + 128 := by omega
      rw [ec] at hcv
      clear ec
      have HS : Hid _ := bytes_step u f v p hlt hr.out
      generalize UInt8.ofNat (v % 128 + 128) = b at hcv HS
      go_wp2
      obtain ⟨g, g1, g2, g3⟩ := HS.out
      go_roundw
      case rel => exact ⟨g, v / 128, p ++ [b], by go_num, congrArg Value.string (app_bytes p [b]), by omega, g1, ⟨g2, g3⟩, hbel.alloc hbel.size _⟩
      case measure => simp [intOf]; omega
    · have hcv := conv_one wr v (by omega)
      go_wp2
      go_ret
      exact ⟨ret_string ((app_bytes p [_]).trans (by rw [bytes_last u f v p (by omega) hr.out])), hbel.alloc hbel.size _⟩

set_option maxHeartbeats 400000 in
theorem rput_any (n : Int) (w : World) (h0 : -9223372036854775808 ≤ n) (h1 : n ≤ 9223372036854775807) :
    Calls Try.prog 21 #[.int .i64 n] w fun e w' => e = .returned (.string ⟨(Vi.putL n).toArray⟩) ∧ Below w.heap.size w w' := by
  by_cases hn : n < 0
  · have e : Vi.putL n = [] := by simp [Vi.putL, hn]
    rw [e]
    go_enter Try.func21, Try.ntmps21
    go_wp2
    go_ret
    exact ⟨rfl, Below.refl _ _⟩
  · obtain ⟨k, rfl⟩ := Int.eq_ofNat_of_zero_le (show 0 ≤ n by omega)
    have e : Vi.putL (k : Int) = Vi.enc k := by rw [Vi.putL, if_neg hn, Int.toNat_natCast]
    rw [e]
    go_enter Try.func21, Try.ntmps21
    go_wp2_with fail
    refine (bytes_any _ _ (by omega)).mono ?_
    rintro e w' ⟨rfl, hb⟩
    go_wp2
    go_ret
    exact ⟨rfl, hb⟩

end Go.Proofs.Ytmekaofjcjmklaa
