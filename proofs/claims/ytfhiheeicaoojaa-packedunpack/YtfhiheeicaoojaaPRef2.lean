/- The walk of the document's own Pack. -/
import Derived.Test.YtfhiheeicaoojaaPByte
import Derived.BigRegion
namespace Go.Proofs.Ytfhiheeicaoojaa
open Go.RowKit

theorem Try.byteInfo2 : (Try.prog.info? 5).map (fun i => (i.zero, i.size, i.bytes)) = some (some (.int .u8 0), 1, 1) := by kernel_rfl

namespace Pk
theorem pack_bad {l : List Int} {n : Nat} (hf : Fit l) (hn : n ≤ 32) (h : ¬ May l n) : pack l n = ([], 2) := by
  refine pack_arg (.inr ?_)
  have h2 : ¬ wid l ≤ n := fun h3 => h ((wid_le hf n hn).1 h3)
  omega
theorem pack_much {l : List Int} {n : Nat} (hf : Fit l) (hn : n ≤ 32) (h : May l n) (hl : 65536 < l.length) : pack l n = ([], 3) := by
  have := (wid_le hf n hn).2 h
  exact pack_long (by omega) hl
theorem pack_good {l : List Int} {n : Nat} (hf : Fit l) (hn : n ≤ 32) (h : May l n) (hl : ¬ 65536 < l.length) : pack l n = (pk l n, 0) := by
  have := (wid_le hf n hn).2 h
  rw [pack_yes (by omega) hl, Int.toNat_natCast]

/-- The bit of a number that the round looks at. -/
theorem bit_of {l : List Int} {n : Nat} (hm : May l n) (hn : n ≤ 32) (i k : Nat) (hi : i < l.length) (hk : k < n) :
    ∃ y : Nat, l.getD i 0 / 2 ^ k = y ∧ y ≤ 4294967295 ∧ y % 2 = tb l n (i * n + k) := by
  have h := hm.at i
  have hp := pow32 n hn
  rw [tb_at l n i k hi hk]
  obtain ⟨x, hx⟩ := Int.eq_ofNat_of_zero_le h.1
  rw [hx] at h ⊢
  have h2 : x < 2 ^ n := by simpa using h.2
  refine ⟨x / 2 ^ k, ?_, ?_, rfl⟩
  · rw [two_pow_cast']; simp
  · have := Nat.div_le_self x (2 ^ k)
    omega
end Pk

theorem rpack_width (v : Value) (n : Int) (w : World) (hn : ¬ (0 ≤ n ∧ n ≤ 32)) :
    Calls Try.prog 10 #[v, .int .i64 n] w fun e w' => e = .returned (.tuple #[.string ⟨([] : List UInt8).toArray⟩, .int .i64 2]) ∧ Below w.heap.size w w' := by
  have hd : (decide (n < 0) || decide (32 < n)) = true := by simp; omega
  go_enter Try.func10, Try.ntmps10
  go_wp2
  all_goals go_ret2
  all_goals exact ⟨rfl, Below.refl _ _⟩

/-- A round's store. -/
theorem fill_store {w W : World} {B N p d r e x : Nat} {f : Nat → Nat} (hf : ∀ k, f k ≤ 1) (h : Holds W B (Pk.fill f N p)) (hB : w.heap.size ≤ B) (hb : Below w.heap.size w W) (h1 : f p = 1) (hd : p / 8 = d) (hr : p % 8 = r) (he : 2 ^ r = e) (hdN : d < N) (hx : Pk.part8 f p d = x) :
    W.cell? ⟨B, d, none⟩ = some (.int .u8 (x : Int)) ∧ W.frozen? ⟨B, d, none⟩ = false ∧ x + e < 256 ∧
    Holds (W.setCell ⟨B, d, none⟩ (.int .u8 ((x : Int) + (e : Int)))).drew B (Pk.fill f N (p + 1)) ∧ Below w.heap.size w (W.setCell ⟨B, d, none⟩ (.int .u8 ((x : Int) + (e : Int)))).drew := by
  subst hd hr he hx
  have hl : p / 8 < (Pk.fill f N p).length := by rw [Pk.fill_length]; exact hdN
  have hroom := Pk.fill_room hf p h1
  have hc := h.cell (p / 8) hl
  rw [Pk.fill_get hf] at hc
  refine ⟨hc, h.free _ hl, hroom, ?_, (hb.setCell hB _).drew⟩
  have hs := h.store (p / 8) (UInt8.ofNat (Pk.part8 f p (p / 8) + 2 ^ (p % 8))) hl
  rw [← Pk.fill_some N p hdN h1] at hs
  have e2 : ((UInt8.ofNat (Pk.part8 f p (p / 8) + 2 ^ (p % 8))).toNat : Int) = (Pk.part8 f p (p / 8) : Int) + ((2 ^ (p % 8) : Nat) : Int) := by
    have : (UInt8.ofNat (Pk.part8 f p (p / 8) + 2 ^ (p % 8))).toNat = Pk.part8 f p (p / 8) + 2 ^ (p % 8) := by simp; omega
    rw [this, Int.natCast_add]
  rw [e2] at hs
  exact hs.drew

set_option maxHeartbeats 4000000 in
set_option maxRecDepth 100000 in
theorem rpack_in (a : Option Addr) (cap : Nat) (zs : List Int) (n : Nat) (w : World) (h : Ints w (.slice a zs.length cap) zs) (hf : Pk.Fit zs) (hl : zs.length ≤ 1000000000000) (hn : n ≤ 32) :
    Calls Try.prog 10 #[.slice a zs.length cap, .int .i64 n] w fun e w' => e = .returned (.tuple #[.string ⟨(Pk.pack zs n).1.toArray⟩, .int .i64 (Pk.pack zs n).2]) ∧ Below w.heap.size w w' := by
  obtain ⟨i0, hi0, hz0, hz1, hz2⟩ := info_parts Try.byteInfo2
  have HC : Hid (∀ j, j < zs.length → ∃ b off, a = some ⟨b, off, none⟩ ∧ b < w.heap.size ∧ w.cell? ⟨b, off + j, none⟩ = some (.int .i64 (zs.getD j 0))) := by
    intro j hj
    obtain ⟨a', cap', e, h⟩ := h
    cases e
    rcases h with rfl | ⟨b, off, rfl, hb, hc⟩
    · simp at hj
    · exact ⟨b, off, rfl, hb, hc j hj⟩
  have HF : Hid (Pk.Fit zs) := hf
  clear h hf
  obtain ⟨r, HR⟩ : ∃ r, Hid (Pk.pack zs n = r) := ⟨_, rfl⟩
  rw [HR.out]
  go_enter Try.func10, Try.ntmps10
  go_wp2
  go_loop [6] (fun x => ∃ i : Nat, i ≤ zs.length ∧ x = .int .i64 i ∧ Hid (Pk.May (zs.take i) n)) (fun x => zs.length - (intOf x).toNat)
  case atStart => exact ⟨0, Nat.zero_le _, rfl, by show Pk.May _ n; simp [Pk.May]⟩
  case round =>
    obtain ⟨i, hi, rfl, hm⟩ := hrel
    by_cases hlt : i < zs.length
    · obtain ⟨b, off, rfl, hb, hc⟩ := HC.out i hlt
      have HM := fun W => rmay_any (zs.getD i 0) n W hn
      have HT : Hid _ := Pk.may_take zs n i hlt
      generalize zs.getD i 0 = z at *
      by_cases hz : 0 ≤ z ∧ z < 2 ^ n
      · rw [decide_eq_true hz] at HM
        have R : Hid (Pk.May (zs.take (i + 1)) n) := HT.out.2 ⟨hm.out, hz⟩
        clear HT hz hm
        go_wp2_with fail
        refine (HM _).mono ?_
        rintro e w' ⟨rfl, rfl⟩
        go_wp2
        go_round
        case rel => exact ⟨i + 1, by omega, by go_num, R⟩
        case measure => simp [intOf]; omega
      · rw [decide_eq_false hz] at HM
        have R : Hid (r = ([], 2)) := by
          show r = ([], 2)
          rw [← HR.out]
          exact Pk.pack_bad HF.out hn (fun h => hz (HT.out.1 (Pk.may_of_take (i + 1) h)).2)
        clear HT hz hm
        go_wp2_with fail
        refine (HM _).mono ?_
        rintro e w' ⟨rfl, rfl⟩
        go_wp2
        go_ret2
        rw [R.out]
        exact ⟨rfl, Below.refl _ _⟩
    · obtain rfl : i = zs.length := by omega
      rw [List.take_length] at hm
      by_cases h6 : 65536 < zs.length
      · have R : Hid (r = ([], 3)) := by
          show r = ([], 3)
          rw [← HR.out]
          exact Pk.pack_much HF.out hn hm.out h6
        go_wp2
        go_ret2
        rw [R.out]
        exact ⟨rfl, Below.refl _ _⟩
      · have R : Hid (r = (Pk.pk zs n, 0)) := by
          show r = (Pk.pk zs n, 0)
          rw [← HR.out]
          exact Pk.pack_good HF.out hn hm.out h6
        have hN : zs.length * n ≤ 65536 * 32 := Nat.mul_le_mul (by omega) hn
        have hN2 : (zs.length : Int) * n = ((zs.length * n : Nat) : Int) := by simp
        have HFULL : Hid _ := Pk.fill_full zs n
        obtain ⟨N, hNs⟩ : ∃ N, N = Pk.size zs.length n := ⟨_, rfl⟩
        rw [← hNs] at HFULL
        have hq : (((zs.length * n : Nat) : Int) + 7) / 8 = (N : Int) := by rw [hNs]; unfold Pk.size; omega
        have HNN : Hid (∀ p, p < zs.length * n → p / 8 < N) := by intro p hp; rw [hNs]; unfold Pk.size; omega
        have hN3 : N ≤ 262144 := by rw [hNs]; unfold Pk.size; omega
        clear hNs
        obtain ⟨T, HTT⟩ : ∃ T, Hid (zs.length * n = T) := ⟨_, rfl⟩
        rw [HTT.out] at hN hN2 hq HFULL HNN
        go_wp2_with (at_make; refine wpList_make_full _ rfl _ _ 46 rfl w.heap.size 5 i0 (.int .u8 0) 1 Try.underlying46 hi0 hz0 hz1 _ _ _ _ N rfl rfl (by first | rfl | exact hq) (by first | rfl | exact hq) ?b2 ?b3 ?b4 ?_)
        case b2 => omega
        case b3 => unfold maxLen; omega
        intro w1 hown hgrow
        have hH : Hid (Holds w1 w.heap.size (Pk.fill (Pk.tb zs n) N 0)) := by
          show Holds _ _ _
          rw [Pk.fill_zero]
          exact holds_made hown
        have hB : Hid (Below w.heap.size w w1) := (Below.refl _ _).grown hgrow (Nat.le_refl _) (by simp)
        clear hown hgrow hi0 hz0 hz1 hz2 hq hN2
        go_wp2
        go_loopw [8] (fun x wr => ∃ i : Nat, i ≤ zs.length ∧ x = .int .i64 i ∧ Hid (Holds wr w.heap.size (Pk.fill (Pk.tb zs n) N (i * n))) ∧ Hid (Below w.heap.size w wr)) (fun x _ => zs.length - (intOf x).toNat)
        case atStart => exact ⟨0, Nat.zero_le _, rfl, by rw [Nat.zero_mul]; exact hH, hB⟩
        case round =>
          clear hH hB
          obtain ⟨i, hi, rfl, hH, hB⟩ := hrel
          by_cases hlt : i < zs.length
          · have hin : i * n + n ≤ T := by
              have h1 : (i + 1) * n ≤ zs.length * n := Nat.mul_le_mul_right _ hlt
              rw [Nat.add_mul, Nat.one_mul, HTT.out] at h1
              exact h1
            have hin2 : (i : Int) * n = ((i * n : Nat) : Int) := by simp
            obtain ⟨m, HMM⟩ : ∃ m, Hid (i * n = m) := ⟨_, rfl⟩
            rw [HMM.out] at hin hin2 hH
            go_wp2
            go_loopw [9] (fun x wr => ∃ k : Nat, k ≤ n ∧ x = .int .i64 k ∧ Hid (Holds wr w.heap.size (Pk.fill (Pk.tb zs n) N (m + k))) ∧ Hid (Below w.heap.size w wr)) (fun x _ => n - (intOf x).toNat)
            case atStart => exact ⟨0, Nat.zero_le _, rfl, hH, hB⟩
            case round =>
              clear hH hB
              obtain ⟨k, hk, rfl, hH, hB⟩ := hrel
              by_cases hkn : k < n
              · obtain ⟨b, off, rfl, hb, hc⟩ := HC.out i hlt
                have hc1 := (hB.out.cell (p := ⟨b, off + i, none⟩) hb).trans hc
                obtain ⟨y, hy, hy2, hy3⟩ := Pk.bit_of hm.out hn i k hlt hkn
                rw [HMM.out] at hy3
                have hz := Pk.Fit.at HF.out i
                generalize zs.getD i 0 = z at *
                have HTB : Hid _ := hy3
                clear hy3 hc
                by_cases hyo : y % 2 = 1
                · obtain ⟨p, hp⟩ : ∃ p, p = m + k := ⟨_, rfl⟩
                  have hpN := HNN.out p (by omega)
                  obtain ⟨d, hd⟩ : ∃ d, p / 8 = d := ⟨_, rfl⟩
                  obtain ⟨r8, hr8⟩ : ∃ r8, p % 8 = r8 := ⟨_, rfl⟩
                  obtain ⟨e, he⟩ : ∃ e, 2 ^ r8 = e := ⟨_, rfl⟩
                  obtain ⟨x, hx⟩ : ∃ x, Pk.part8 (Pk.tb zs n) p d = x := ⟨_, rfl⟩
                  have hd2 : ((m : Int) + (k : Int)) / 8 = d := by omega
                  have hr2 : ((m : Int) + (k : Int)) % 8 = r8 := by omega
                  have he2 : (2 : Int) ^ r8 = e := by rw [Pk.two_pow_cast', he]
                  have he3 : e ≤ 128 := by rw [← he]; exact Nat.pow_le_pow_right (n := 2) (by omega) (show r8 ≤ 7 by omega)
                  rw [hd] at hpN
                  obtain ⟨s1, s2, s3, s4, s5⟩ := fill_store (Pk.tb_le zs n) (by rw [hp]; exact hH.out) (Nat.le_refl _) hB.out (by rw [hp, ← HTB.out]; exact hyo) hd hr8 he hpN hx
                  have S4 : Hid _ := s4
                  have S5 : Hid _ := s5
                  have HP : Hid (p = m + k) := hp
                  clear s4 s5 hp hd hr8 he hx hH
                  have hr7 : r8 ≤ 7 := by omega
                  go_wp2
                  go_region
                  all_goals go_wp2
                  go_roundw
                  case rel => exact ⟨k + 1, by omega, by go_num, by rw [← Nat.add_assoc, ← HP.out]; exact S4, S5⟩
                  case measure => simp [intOf]; omega
                · have h0 : y % 2 = 0 := by omega
                  rw [← Pk.fill_none N (m + k) (HTB.out.symm.trans h0)] at hH
                  go_wp2
                  go_roundw
                  case rel => exact ⟨k + 1, by omega, by go_num, hH, hB⟩
                  case measure => simp [intOf]; omega
              · obtain rfl : k = n := by omega
                go_wp2
                go_roundw
                case rel => exact ⟨i + 1, by omega, by go_num, by rw [Nat.add_mul, Nat.one_mul, HMM.out]; exact hH, hB⟩
                case measure => simp [intOf]; omega
          · obtain rfl : i = zs.length := by omega
            rw [HTT.out, HFULL.out] at hH
            have hcv := conv_held hH.out N (show (Pk.pk zs n).length = N by rw [← HFULL.out, Pk.fill_length])
            generalize Pk.pk zs n = pp at *
            clear hH
            go_wp2
            go_ret2
            rw [R.out]
            exact ⟨rfl, hB.out⟩

theorem rpack_any (v : Value) (zs : List Int) (n : Int) (w : World) (h : Ints w v zs) (hf : Pk.Fit zs) (hl : zs.length ≤ 1000000000000) :
    Calls Try.prog 10 #[v, .int .i64 n] w fun e w' => e = .returned (.tuple #[.string ⟨(Pk.pack zs n).1.toArray⟩, .int .i64 (Pk.pack zs n).2]) ∧ Below w.heap.size w w' := by
  by_cases hn : 0 ≤ n ∧ n ≤ 32
  · obtain ⟨m, rfl⟩ := Int.eq_ofNat_of_zero_le hn.1
    obtain ⟨a, cap, rfl, h⟩ := h
    exact rpack_in a cap zs m w ⟨a, cap, rfl, h⟩ hf hl (by omega)
  · rw [Pk.pack_arg (.inl hn)]
    exact rpack_width v n w hn

end Go.Proofs.Ytfhiheeicaoojaa
