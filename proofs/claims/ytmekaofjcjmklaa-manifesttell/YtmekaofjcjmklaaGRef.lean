/- The walks of the document's own Check and Encode (carouselref02): they return what gaps' do; nothing that was in memory has changed. -/
import Derived.Test.YtmekaofjcjmklaaLater
namespace Go.Proofs.Ytmekaofjcjmklaa
open Go.RowKit

theorem up_low (zs : List Int) : ∀ j, j < zs.length → Gp.up (-1) (zs.take (j + 1)) = true → 0 ≤ zs.getD j 0 := by
  intro j
  induction j with
  | zero =>
    intro hj h
    rw [Gp.up_take zs 0 hj] at h
    simp only [Bool.and_eq_true, decide_eq_true_eq] at h
    have := h.2
    rw [Gp.prev_zero] at this
    omega
  | succ j ih =>
    intro hj h
    rw [Gp.up_take zs (j + 1) hj] at h
    simp only [Bool.and_eq_true, decide_eq_true_eq] at h
    have i := ih (by omega) h.1
    have := h.2
    rw [Gp.prev_succ] at this
    omega

set_option maxHeartbeats 2000000 in
set_option maxRecDepth 100000 in
theorem rcheck_any (v : Value) (zs : List Int) (w : World) (h : Ints w v zs) (hf : Gp.Fit zs) (hl : zs.length ≤ 1000000000000) :
    Calls Try.prog 36 #[v] w fun e w' => e = .returned (.int .i64 (Gp.err zs)) ∧ Below w.heap.size w w' := by
  obtain ⟨a, cap, rfl, h⟩ := h
  rcases h with rfl | ⟨b, off, rfl, hlt, hc⟩
  · have he : Gp.err [] = 0 := rfl
    rw [he]
    go_enter Try.func36, Try.ntmps36
    go_wp2
    refine wp_loop_rounds 1 ?_
    rw [rounds_succ]
    go_wp2
    go_ret
    exact ⟨rfl, Below.refl _ _⟩
  · have HC : Hid _ := hc
    have HF : Hid _ := hf
    clear hc hf
    go_enter Try.func36, Try.ntmps36
    go_wp2
    go_loopw [3] (fun i wr => ∃ k : Nat, k ≤ zs.length ∧ i = .int .i64 k ∧ Gp.up (-1) (zs.take k) = true ∧ Below w.heap.size w wr) (fun i _ => zs.length - (intOf i).toNat)
    case atStart => exact ⟨0, Nat.zero_le _, rfl, rfl, Below.refl _ _⟩
    case round =>
      obtain ⟨k, hk, rfl, hup, hbel⟩ := hrel
      have HU : Hid _ := hup
      clear hup
      by_cases hlt2 : k < zs.length
      · have hc1 := Later.cell (cell_after hbel (HC.out k hlt2))
        have HP : Hid _ := Gp.up_take zs k hlt2
        have hne := Later.some wr
        cases k with
        | zero =>
          rw [Nat.add_zero] at hc1
          have HZ : Hid (Gp.prev zs 0 = -1) := Gp.prev_zero zs
          generalize zs.getD 0 0 = z at *
          by_cases hz : z < 0
          · have HE : Hid (Gp.err zs = 2) := err_no (Gp.up_stop zs (0 + 1) (by rw [HP.out, HU.out, HZ.out]; simp; omega))
            have hd : decide (z < 0) = true := by simpa using hz
            go_wp2_with fail
            refine wp_region_later (by kernel_rfl) (by kernel_rfl) ?_
            repeat (go_big_quiet_step (fail))
            refine wpQuiet_nil ?_
            intro w3 hw3
            obtain ⟨⟨w4, hb4⟩, rfl⟩ := hw3
            clear hne hc1
            go_wp2
            go_ret
            exact ⟨ret_int HE.out.symm, bnext hbel hb4⟩
          · have hup2 : Hid (Gp.up (-1) (zs.take (0 + 1)) = true) := by
              rw [Hid, HP.out, HU.out, HZ.out]; simp; omega
            have hd : decide (z < 0) = false := by simpa using hz
            go_wp2_with fail
            refine wp_region_later (by kernel_rfl) (by kernel_rfl) ?_
            repeat (go_big_quiet_step (fail))
            refine wpQuiet_nil ?_
            intro w3 hw3
            obtain ⟨⟨w4, hb4⟩, rfl⟩ := hw3
            clear hne hc1
            go_wp2
            go_roundw
            case rel => exact ⟨1, by omega, by go_num, hup2.out, bnext hbel hb4⟩
            case measure => simp [intOf]; omega
        | succ j =>
          have hc2 := Later.cell (cell_after hbel (HC.out j (by omega)))
          have HZ : Hid _ := Gp.prev_succ zs j
          have hlow := up_low zs j (by omega) HU.out
          generalize zs.getD (j + 1) 0 = z at *
          generalize zs.getD j 0 = y at *
          by_cases hz : z < 0
          · have HE : Hid (Gp.err zs = 2) := err_no (Gp.up_stop zs (j + 1 + 1) (by rw [HP.out, HU.out, HZ.out]; simp; omega))
            have hd : decide (z < 0) = true := by simpa using hz
            go_wp2_with fail
            refine wp_region_later (by kernel_rfl) (by kernel_rfl) ?_
            repeat (go_big_quiet_step (fail))
            refine wpQuiet_nil ?_
            intro w3 hw3
            obtain ⟨⟨w4, hb4⟩, rfl⟩ := hw3
            clear hne hc1 hc2
            go_wp2
            go_ret
            exact ⟨ret_int HE.out.symm, bnext hbel hb4⟩
          · have hd : decide (z < 0) = false := by simpa using hz
            by_cases hy : z ≤ y
            · have HE : Hid (Gp.err zs = 2) := err_no (Gp.up_stop zs (j + 1 + 1) (by rw [HP.out, HU.out, HZ.out]; simp; omega))
              have hd2 : decide (z ≤ y) = true := by simpa using hy
              go_wp2_with fail
              refine wp_region_later (by kernel_rfl) (by kernel_rfl) ?_
              repeat (go_big_quiet_step (fail))
              refine wpQuiet_nil ?_
              intro w3 hw3
              obtain ⟨⟨w4, hb4⟩, rfl⟩ := hw3
              clear hne hc1 hc2
              go_wp2
              go_ret
              exact ⟨ret_int HE.out.symm, bnext hbel hb4⟩
            · have hup2 : Hid (Gp.up (-1) (zs.take (j + 1 + 1)) = true) := by
                rw [Hid, HP.out, HU.out, HZ.out]; simp; omega
              have hd2 : decide (z ≤ y) = false := by simpa using hy
              go_wp2_with fail
              refine wp_region_later (by kernel_rfl) (by kernel_rfl) ?_
              repeat (go_big_quiet_step (fail))
              refine wpQuiet_nil ?_
              intro w3 hw3
              obtain ⟨⟨w4, hb4⟩, rfl⟩ := hw3
              clear hne hc1 hc2
              go_wp2
              go_roundw
              case rel => exact ⟨j + 1 + 1, by omega, by go_num, hup2.out, bnext hbel hb4⟩
              case measure => simp [intOf]; omega
      · obtain rfl : k = zs.length := by omega
        have HE : Hid (Gp.err zs = 0) := err_yes (by have := HU.out; rwa [List.take_length] at this)
        go_wp2
        go_ret
        exact ⟨ret_int HE.out.symm, hbel⟩

/-- What Encode has put when k numbers are told. -/
def uptoXG (zs : List Int) (k : Nat) : List UInt8 := Vi.putL zs.length ++ Gp.body (-1) (zs.take k)

theorem upto_succ (zs : List Int) (k : Nat) (h : k < zs.length) : uptoXG zs (k + 1) = uptoXG zs k ++ Vi.putL (zs.getD k 0 - (Gp.prev zs k + 1)) := by
  unfold uptoXG
  rw [Gp.body_take zs k h, List.append_assoc]
theorem upto_all (zs : List Int) : uptoXG zs zs.length = Gp.enc zs := by
  unfold uptoXG Gp.enc
  rw [List.take_length]
theorem upto_lenXG (zs : List Int) (k : Nat) : (uptoXG zs k).length ≤ 10 + 10 * zs.length := by
  have h1 := Gp.putL_len zs.length
  have h2 := Gp.flat_len (Gp.gs (-1) (zs.take k))
  rw [Gp.gs_length, List.length_take] at h2
  unfold uptoXG Gp.body
  rw [List.length_append]
  omega

set_option maxHeartbeats 1000000 in
theorem rencode_no (v : Value) (zs : List Int) (w : World) (h : Ints w v zs) (hf : Gp.Fit zs) (hl : zs.length ≤ 1000000000) (hu : Gp.up (-1) zs = false) :
    Calls Try.prog 20 #[v] w fun e w' => e = .returned (.tuple #[.string ⟨#[]⟩, .int .i64 2]) ∧ Below w.heap.size w w' := by
  go_enter Try.func20, Try.ntmps20
  go_wp2_with fail
  refine (rcheck_any v zs _ h hf (by omega)).mono ?_
  rintro e w' ⟨rfl, hb⟩
  rw [err_no hu]
  go_wp2
  go_ret2
  exact ⟨rfl, hb⟩

theorem ret_two {a b : ByteArray} {n : Int} (h : a = b) : Ending.returned (.tuple #[.string a, .int .i64 n]) = .returned (.tuple #[.string b, .int .i64 n]) := by rw [h]

set_option maxHeartbeats 2000000 in
set_option maxRecDepth 100000 in
theorem rencode_yes (v : Value) (zs : List Int) (w : World) (h : Ints w v zs) (hf : Gp.Fit zs) (hl : zs.length ≤ 1000000000) (hu : Gp.up (-1) zs = true) :
    Calls Try.prog 20 #[v] w fun e w' => e = .returned (.tuple #[.string ⟨(Gp.enc zs).toArray⟩, .int .i64 0]) ∧ Below w.heap.size w w' := by
  have HI : Hid _ := h
  go_enter Try.func20, Try.ntmps20
  go_wp2_with fail
  refine (rcheck_any v zs _ h hf (by omega)).mono ?_
  rintro e w1 ⟨rfl, hb1⟩
  rw [err_yes hu]
  obtain ⟨a, cap, rfl, h⟩ := h
  go_wp2_with fail
  refine (rput_any _ _ (by omega) (by omega)).mono ?_
  rintro e w2 ⟨rfl, hb2⟩
  replace hb2 := bnext hb1 hb2
  clear hb1
  rcases h with rfl | ⟨b, off, rfl, hlt, hc⟩
  · have HE : Hid _ := upto_all []
    go_wp2
    refine wp_loop_rounds 1 ?_
    rw [rounds_succ]
    go_wp2
    go_ret2
    exact ⟨rfl, hb2⟩
  · have HC : Hid _ := hc
    have HF : Hid _ := hf
    have HU : Hid _ := Gp.up_at zs hu
    have HA : Hid _ := upto_all zs
    clear hc hf hu
    go_wp2
    go_loopw [4, 5] (fun s i wr => ∃ k : Nat, k ≤ zs.length ∧ i = .int .i64 k ∧ s = .string ⟨(uptoXG zs k).toArray⟩ ∧ Below w.heap.size w wr) (fun _ i _ => zs.length - (intOf i).toNat)
    case atStart => exact ⟨0, Nat.zero_le _, rfl, by simp [uptoXG, Gp.body, Gp.gs], hb2⟩
    case round =>
      clear hb2
      obtain ⟨k, hk, rfl, rfl, hbel⟩ := hrel
      have hul := upto_lenXG zs k
      by_cases hlt2 : k < zs.length
      · have hc1 := cell_after hbel (HC.out k hlt2)
        have HS : Hid _ := upto_succ zs k hlt2
        have hf1 := Gp.fit_at HF.out k
        have hu1 := HU.out k hlt2
        cases k with
        | zero =>
          rw [Nat.add_zero] at hc1
          have HZ : Hid (Gp.prev zs 0 = -1) := Gp.prev_zero zs
          rw [HZ.out] at hu1
          generalize zs.getD 0 0 = z at *
          have hpl := Gp.putL_len z
          have HE : Hid (uptoXG zs (0 + 1) = uptoXG zs 0 ++ Vi.putL z) := by
            rw [Hid, HS.out, HZ.out, show z - (-1 + 1) = z by omega]
          generalize uptoXG zs 0 = s at *
          go_wp2_with fail
          refine (rput_any _ _ (by omega) (by omega)).mono ?_
          rintro e w3 ⟨rfl, hb3⟩
          replace hb3 := bnext hbel hb3
          go_wp2
          go_roundw
          case rel => exact ⟨1, by omega, by go_num, congrArg Value.string ((app_bytes _ _).trans (by rw [HE.out])), hb3⟩
          case measure => simp [intOf]; omega
        | succ j =>
          have hc2 := cell_after hbel (HC.out j (by omega))
          have HZ : Hid _ := Gp.prev_succ zs j
          rw [HZ.out] at hu1
          have hf2 := Gp.fit_at HF.out j
          have hlow : 0 ≤ zs.getD j 0 := by have := HU.out j (by omega); omega
          have hd1 := Later.cell hc1
          have hd2 := Later.cell hc2
          generalize zs.getD (j + 1) 0 = z at *
          generalize zs.getD j 0 = y at *
          have hpl := Gp.putL_len (z - y - 1)
          have HE : Hid (uptoXG zs (j + 1 + 1) = uptoXG zs (j + 1) ++ Vi.putL (z - y - 1)) := by
            rw [Hid, HS.out, HZ.out, show z - (y + 1) = z - y - 1 by omega]
          generalize uptoXG zs (j + 1) = s at *
          have hne := Later.some wr
          clear hc1 hc2
          go_wp2_with fail
          refine wp_region_later (by kernel_rfl) (by kernel_rfl) ?_
          repeat (go_big_quiet_step ((go_at_call 21; exact Later.made (rput_any _ _ (by omega) (by omega)))))
          refine wpQuiet_nil ?_
          intro w3 hw3
          obtain ⟨⟨w4, hb4⟩, rfl⟩ := hw3
          replace hb4 := bnext hbel hb4
          clear hne hd1 hd2
          go_wp2
          go_roundw
          case rel => exact ⟨j + 1 + 1, by omega, by go_num, congrArg Value.string ((app_bytes _ _).trans (by rw [HE.out])), hb4⟩
          case measure => simp [intOf]; omega
      · obtain rfl : k = zs.length := by omega
        go_wp2
        go_ret2
        exact ⟨ret_two (by rw [HA.out]), hbel⟩

theorem rencode_any (v : Value) (zs : List Int) (w : World) (h : Ints w v zs) (hf : Gp.Fit zs) (hl : zs.length ≤ 1000000000) :
    Calls Try.prog 20 #[v] w fun e w' => e = .returned (.tuple #[.string ⟨(Gp.encS zs).toArray⟩, .int .i64 (Gp.err zs)]) ∧ Below w.heap.size w w' := by
  cases hu : Gp.up (-1) zs with
  | false =>
    rw [encS_no hu, err_no hu]
    exact rencode_no v zs w h hf hl hu
  | true =>
    rw [encS_yes hu, err_yes hu]
    exact rencode_yes v zs w h hf hl hu

end Go.Proofs.Ytmekaofjcjmklaa
