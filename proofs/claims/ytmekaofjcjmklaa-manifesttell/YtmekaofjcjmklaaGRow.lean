/- Slices of ints; the walks of gaps.Check and of the statements' helper Same: what they return, for every slice of ints. -/
import Derived.Test.YtmekaofjcjmklaaGMath
import Derived.BigQuiet
namespace Go.Proofs.Ytmekaofjcjmklaa
open Go.RowKit

/-- The slice v holds the ints zs. -/
def Ints (W : World) (v : Value) (zs : List Int) : Prop :=
  ∃ a cap, v = .slice a zs.length cap ∧ (zs = [] ∨ ∃ b off, a = some ⟨b, off, none⟩ ∧ b < W.heap.size ∧ ∀ j, j < zs.length → W.cell? ⟨b, off + j, none⟩ = some (.int .i64 (zs.getD j 0)))

theorem Ints.later {w w' : World} {v : Value} {zs : List Int} (h : Ints w v zs) (hb : Below w.heap.size w w') : Ints w' v zs := by
  obtain ⟨a, cap, rfl, h⟩ := h
  refine ⟨a, cap, rfl, ?_⟩
  rcases h with h | ⟨b, off, rfl, hlt, hc⟩
  · exact .inl h
  · exact .inr ⟨b, off, rfl, Nat.lt_of_lt_of_le hlt hb.size, fun j hj => (hb.cell (p := ⟨b, off + j, none⟩) hlt).trans (hc j hj)⟩

theorem Ints.of_own {w : World} {base n : Nat} {v : Value} {zs : List Int} (h : w.ownsRow base 3 1 v n (zs.map (Value.int .i64))) : Ints w v zs := by
  have hlt := h.lt
  have hcell := fun g hg => h.cells (g := g) hg
  have hn : zs.length = n := by have := h.1; simpa using this
  rcases h.2 with ⟨rfl, h0⟩ | ⟨g, cap, cur, rfl, _⟩
  · have : zs = [] := List.length_eq_zero_iff.1 (by omega)
    subst this
    exact ⟨none, 0, rfl, .inl rfl⟩
  · subst hn
    refine ⟨_, cap, rfl, .inr ⟨g, 0, rfl, (hlt g rfl).2, fun j hj => ?_⟩⟩
    have := hcell g rfl j (.int .i64 (zs.getD j 0)) (by simp [List.getD, List.getElem?_eq_getElem hj])
    rw [Addr.add_lit] at this
    exact this

theorem err_yes {zs : List Int} (h : Gp.up (-1) zs = true) : Gp.err zs = 0 := by simp [Gp.err, h]
theorem err_no {zs : List Int} (h : Gp.up (-1) zs = false) : Gp.err zs = 2 := by simp [Gp.err, h]

set_option maxHeartbeats 1000000 in
theorem check_any (v : Value) (zs : List Int) (w : World) (h : Ints w v zs) (hf : Gp.Fit zs) (hl : zs.length ≤ 1000000000000) :
    Calls Try.prog 29 #[v] w fun e w' => e = .returned (.int .i64 (Gp.err zs)) ∧ w' = w := by
  obtain ⟨a, cap, rfl, h⟩ := h
  rcases h with rfl | ⟨b, off, rfl, hlt, hc⟩
  · have he : Gp.err [] = 0 := rfl
    rw [he]
    go_enter Try.func29, Try.ntmps29
    go_wp2
    refine wp_loop_rounds 1 ?_
    rw [rounds_succ]
    go_wp2
    go_ret
    exact ⟨rfl, rfl⟩
  · have HC : Hid _ := hc
    have HF : Hid _ := hf
    clear hc hf
    go_enter Try.func29, Try.ntmps29
    go_wp2
    go_loop [3, 8] (fun p i => ∃ k : Nat, k ≤ zs.length ∧ i = .int .i64 k ∧ p = .int .i64 (Gp.prev zs k) ∧ Gp.up (-1) (zs.take k) = true) (fun _ i => zs.length - (intOf i).toNat)
    case atStart => exact ⟨0, Nat.zero_le _, rfl, rfl, rfl⟩
    case round =>
      obtain ⟨k, hk, rfl, rfl, hup⟩ := hrel
      have HU : Hid _ := hup
      clear hup
      by_cases hlt2 : k < zs.length
      · have hc1 := HC.out k hlt2
        have hf1 := Gp.fit_at HF.out k
        have HP : Hid _ := Gp.up_take zs k hlt2
        have HN : Hid _ := Gp.prev_succ zs k
        generalize zs.getD k 0 = z at *
        by_cases hz : z ≤ Gp.prev zs k
        · have HE : Hid (Gp.err zs = 2) := err_no (Gp.up_stop zs (k + 1) (by rw [HP.out, HU.out]; simp; omega))
          generalize Gp.prev zs k = y at *
          go_wp2
          go_ret
          exact ⟨ret_int HE.out.symm, rfl⟩
        · have hup2 : Hid (Gp.up (-1) (zs.take (k + 1)) = true) := by
            rw [Hid, HP.out, HU.out]; simp; omega
          generalize Gp.prev zs k = y at *
          go_wp2
          go_round
          case rel => exact ⟨k + 1, by omega, by go_num, by rw [HN.out], hup2.out⟩
          case measure => simp [intOf]; omega
      · obtain rfl : k = zs.length := by omega
        have HE : Hid (Gp.err zs = 0) := err_yes (by have := HU.out; rwa [List.take_length] at this)
        generalize Gp.prev zs zs.length = y at *
        go_wp2
        go_ret
        exact ⟨ret_int HE.out.symm, rfl⟩

theorem cell_after {w w' : World} {p : Addr} {v : Value} (hb : Below w.heap.size w w') (h : w.cell? p = some v) : w'.cell? p = some v := by
  rw [hb.cell (World.block_lt_of_cell? _ _ h)]; exact h

theorem same_upto {xs ys : List Int} {k : Nat} (hk : k = xs.length) (hl : xs.length = ys.length) (h : xs.take k = ys.take k) : xs = ys := by
  subst hk
  rw [List.take_length] at h
  rw [hl, List.take_length] at h
  exact h

theorem same_stop {xs ys : List Int} {k : Nat} (h : xs.getD k 0 ≠ ys.getD k 0) : xs ≠ ys := by
  rintro rfl
  exact h rfl

theorem ret_false {p : Prop} [Decidable p] (h : ¬ p) : Ending.returned (.bool false) = .returned (.bool (decide p)) := by simp [h]
theorem ret_true {p : Prop} [Decidable p] (h : p) : Ending.returned (.bool true) = .returned (.bool (decide p)) := by simp [h]


end Go.Proofs.Ytmekaofjcjmklaa
