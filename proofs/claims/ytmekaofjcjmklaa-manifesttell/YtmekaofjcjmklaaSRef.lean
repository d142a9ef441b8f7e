/- The walks of the document's own sums (carouselref03): what they return, for every argument. -/
import Derived.Test.YtmekaofjcjmklaaSWalk
import Derived.Below
namespace Go.Proofs.Ytmekaofjcjmklaa
open Go.RowKit

set_option maxHeartbeats 1000000 in
theorem goes_any (r : Nat) (s : ByteArray) (w : World) (h : r < 4294967296) (hs : s.size ≤ 140737488351232) :
    Calls Try.prog 38 #[.int .u32 r, .string s] w fun e w' => e = .returned (.int .u32 (Cr.goes r s.data.toList)) ∧ w' = w := by
  go_enter Try.func38, Try.ntmps38
  go_wp2
  go_loop [0, 5] (fun x c => ∃ k v : Nat, k ≤ s.size ∧ c = .int .i64 k ∧ x = .int .u32 v ∧ v < 4294967296 ∧ Hid (Cr.goes v (s.data.toList.drop k) = Cr.goes r s.data.toList)) (fun _ c => s.size - (intOf c).toNat)
  case atStart => exact ⟨0, r, by omega, by simp, rfl, h, rfl⟩
  case round =>
    obtain ⟨k, v, hk, rfl, rfl, hv, hp⟩ := hrel
    by_cases hlt : k < s.size
    · have hb : s[k].toNat < 256 := s[k].toNat_lt
      have hx := xor_nat v s[k].toNat hv (by omega)
      have hxl := Cr.xor_lt v s[k].toNat hv (by omega)
      have hg : Hid (Cr.goes (Cr.pw 8 (v ^^^ s[k].toNat)) (s.data.toList.drop (k + 1)) = Cr.goes r s.data.toList) := by
        have := hp.out
        rw [byte_at s k hlt, Cr.goes_cons] at this
        exact this
      generalize v ^^^ s[k].toNat = y at hx hxl hg
      go_wp2
      go_loop [0, 6] (fun x c => ∃ j z : Nat, j ≤ 8 ∧ c = .int .i64 j ∧ x = .int .u32 z ∧ z < 4294967296 ∧ Hid (Cr.pw (8 - j) z = Cr.pw 8 y)) (fun _ c => 8 - (intOf c).toNat)
      case atStart => exact ⟨0, y, by omega, by simp, rfl, hxl, rfl⟩
      case round =>
        obtain ⟨j, z, hj, rfl, rfl, hz, hq⟩ := hrel
        by_cases hjlt : j < 8
        · have hn := hq.out
          rw [show 8 - j = (8 - (j + 1)) + 1 by omega, Cr.pw] at hn
          replace hn : Hid (Cr.pw (8 - (j + 1)) (Cr.sh z) = Cr.pw 8 y) := hn
          have ha := and_one z hz
          have hsl := Cr.sh_lt z hz
          have hfx := xor_fallen z hz
          by_cases ho : z % 2 = 1
          · have hse : Cr.sh z = (z / 2 ^^^ 3988292384) := if_pos ho
            rw [← hse] at hfx
            rw [ho] at ha
            clear hse
            generalize Cr.sh z = f at hn hsl hfx
            go_wp2
            go_round
            case rel => exact ⟨j + 1, f, by omega, by go_num, rfl, hsl, hn⟩
            case measure => simp [intOf]; omega
          · have hse : Cr.sh z = z / 2 := if_neg ho
            rw [show z % 2 = 0 by omega] at ha
            rw [hse] at hn hsl
            clear hse hfx
            go_wp2
            go_round
            case rel => exact ⟨j + 1, z / 2, by omega, by go_num, by simp, hsl, hn⟩
            case measure => simp [intOf]; omega
        · obtain rfl : j = 8 := by omega
          have hn := hq.out
          rw [Nat.sub_self, Cr.pw] at hn
          rw [← hn] at hg
          clear hn hq
          go_wp2
          go_round
          case rel => exact ⟨k + 1, z, by omega, by go_num, rfl, hz, hg⟩
          case measure => simp [intOf]; omega
    · obtain rfl : k = s.size := by omega
      have e : s.data.toList.drop s.size = [] := List.drop_eq_nil_of_le (by simp)
      have hq := hp.out
      rw [e, Cr.goes_nil] at hq
      replace hq : Hid (v = Cr.goes r s.data.toList) := hq
      clear hp e
      go_wp2
      go_ret
      exact ⟨ret_int (congrArg _ hq.out), rfl⟩


set_option maxHeartbeats 400000 in
theorem rsum_any (s : ByteArray) (w : World) (hs : s.size ≤ 140737488351232) :
    Calls Try.prog 22 #[.string s] w fun e w' => e = .returned (.int .u32 (Cr.sum s.data.toList)) ∧ w' = w := by
  have HG := goes_any 4294967295 s w (by decide) hs
  have hgl := Cr.goes_lt 4294967295 s.data.toList (by decide)
  have hx2 := flip_spelt _ hgl
  rw [show Cr.flip (Cr.goes 4294967295 s.data.toList) = Cr.sum s.data.toList from rfl] at hx2
  clear hgl
  generalize Cr.sum s.data.toList = z at hx2
  generalize Cr.goes 4294967295 s.data.toList = g at HG hx2
  go_enter Try.func22, Try.ntmps22
  go_wp2_with fail
  refine HG.mono ?_
  rintro e w' ⟨rfl, rfl⟩
  go_wp2
  go_ret
  exact ⟨rfl, rfl⟩

end Go.Proofs.Ytmekaofjcjmklaa
