/- The walk of packed.Pack. -/
import Derived.Test.YtbhngncnhabbkaaGreatPAt
namespace Go.Proofs.YtbhngncnhabbkaaGreat
open Go.RowKit Go.Shelf

namespace Pk
/-- What Pack tells: bytes and an error. -/
def pack (l : List Int) (n : Int) : List UInt8 × Int :=
  if ¬ (0 ≤ n ∧ n ≤ 32) ∨ n < wid l then ([], 2) else if 65536 < l.length then ([], 3) else (pk l n.toNat, 0)

theorem pack_arg {l : List Int} {n : Int} (h : ¬ (0 ≤ n ∧ n ≤ 32) ∨ n < wid l) : pack l n = ([], 2) := by unfold pack; rw [if_pos h]
theorem pack_long {l : List Int} {n : Int} (h : ¬ (¬ (0 ≤ n ∧ n ≤ 32) ∨ n < wid l)) (h2 : 65536 < l.length) : pack l n = ([], 3) := by unfold pack; rw [if_neg h, if_pos h2]
theorem pack_yes {l : List Int} {n : Int} (h : ¬ (¬ (0 ≤ n ∧ n ≤ 32) ∨ n < wid l)) (h2 : ¬ 65536 < l.length) : pack l n = (pk l n.toNat, 0) := by unfold pack; rw [if_neg h, if_neg h2]
end Pk

/-- A builder stays one where a block below it is written. -/
theorem Wrote.below {B b r : Nat} {l : List UInt8} {w w' : World} (h : Wrote B b l w) (hg : w.grownBy w' (some r)) (hr : r < B) : Wrote B b l w' := by
  have key : ∀ p, Lib.BuilderAtF 94 5 B b p (Lib.byteCells l) w → Lib.BuilderAtF 94 5 B b p (Lib.byteCells l) w' := by
    intro p hp
    have hlt := hp.lt
    obtain ⟨hBb, v, hbk, hown, hne⟩ := hp
    refine ⟨hBb, v, (hg.block b hlt (fun e => by cases e; omega)).trans hbk, hown.kept hg (.inr fun e => ?_), hne⟩
    have := (hown.lt r e).1
    omega
  exact h.elim (fun x => .inl (key _ x)) (fun x => .inr (key _ x))

theorem box_below {B b : Nat} {w w' : World} {t : TypeId} {v : Value} (h : Box w b t v) (hb : Below B w w') (hlt : b < B) : Box w' b t v := (hb.block b hlt).trans h

theorem pack_arg1 (v : Value) (n : Int) (w : World) (hn : ¬ (0 ≤ n ∧ n ≤ 32)) :
    Calls Tryz.prog 55 #[v, .int .i64 n] w fun e w' => e = .returned (.tuple #[.string ⟨([] : List UInt8).toArray⟩, .int .i64 2]) ∧ Below w.heap.size w w' := by
  have HM := may_any n w
  rw [show decide (0 ≤ n ∧ n ≤ 32) = false by simpa using hn] at HM
  go_enter Tryz.func55, Tryz.ntmps55
  go_wp2_with fail
  refine HM.mono ?_
  rintro e w' ⟨rfl, rfl⟩
  go_wp2
  go_ret2
  exact ⟨rfl, Below.refl _ _⟩

theorem pack_arg2 (v : Value) (zs : List Int) (n : Nat) (w : World) (h : Ints w v zs) (hf : Pk.Fit zs) (hl : zs.length ≤ 1000000000000) (hn : n ≤ 32) (hw : n < Pk.wid zs) :
    Calls Tryz.prog 55 #[v, .int .i64 n] w fun e w' => e = .returned (.tuple #[.string ⟨([] : List UInt8).toArray⟩, .int .i64 2]) ∧ Below w.heap.size w w' := by
  have HM := may_any n w
  rw [show decide (0 ≤ (n : Int) ∧ (n : Int) ≤ 32) = true by simp; omega] at HM
  have HW := width_any v zs w h hf hl
  have h33 := Pk.wid_33 zs
  generalize Pk.wid zs = x at *
  clear h hf
  go_enter Tryz.func55, Tryz.ntmps55
  go_wp2_with fail
  refine HM.mono ?_
  rintro e w' ⟨rfl, rfl⟩
  go_wp2_with fail
  refine HW.mono ?_
  rintro e w' ⟨rfl, rfl⟩
  go_wp2
  go_ret2
  exact ⟨rfl, Below.refl _ _⟩

theorem pack_long (a : Option Addr) (cap : Nat) (zs : List Int) (n : Nat) (w : World) (h : Ints w (.slice a zs.length cap) zs) (hf : Pk.Fit zs) (hl : zs.length ≤ 1000000000000) (hn : n ≤ 32) (hw : ¬ n < Pk.wid zs) (h6 : 65536 < zs.length) :
    Calls Tryz.prog 55 #[.slice a zs.length cap, .int .i64 n] w fun e w' => e = .returned (.tuple #[.string ⟨([] : List UInt8).toArray⟩, .int .i64 3]) ∧ Below w.heap.size w w' := by
  have HM := may_any n w
  rw [show decide (0 ≤ (n : Int) ∧ (n : Int) ≤ 32) = true by simp; omega] at HM
  have HW := width_any _ zs w h hf hl
  have h33 := Pk.wid_33 zs
  generalize Pk.wid zs = x at *
  clear h hf
  generalize zs.length = L at *
  go_enter Tryz.func55, Tryz.ntmps55
  go_wp2_with fail
  refine HM.mono ?_
  rintro e w' ⟨rfl, rfl⟩
  go_wp2_with fail
  refine HW.mono ?_
  rintro e w' ⟨rfl, rfl⟩
  go_wp2
  go_ret2
  exact ⟨rfl, Below.refl _ _⟩

/-- Where a round of Pack's loop begins. -/
structure Packing (w wr : World) (B : Nat) (a : Option Addr) (cap : Nat) (zs : List Int) (n i : Nat) : Prop where
  wrote : Wrote (B + 3) (B + 3) (Pk.pkn zs n i) wr
  place : Box wr (B + 2) 3 (.int .i64 (min (8 * i) (zs.length * n) : Nat))
  row : Box wr B 58 (.slice a zs.length cap)
  width : Box wr (B + 1) 3 (.int .i64 n)
  below : Below w.heap.size w wr
  size : B + 3 ≤ wr.heap.size

set_option maxHeartbeats 2000000 in
theorem pack_yes (a : Option Addr) (cap : Nat) (zs : List Int) (n : Nat) (w : World) (h : Ints w (.slice a zs.length cap) zs) (hf : Pk.Fit zs) (hn : n ≤ 32) (hw : ¬ n < Pk.wid zs) (h6 : ¬ 65536 < zs.length) :
    Calls Tryz.prog 55 #[.slice a zs.length cap, .int .i64 n] w fun e w' => e = .returned (.tuple #[.string ⟨(Pk.pk zs n).toArray⟩, .int .i64 0]) ∧ Below w.heap.size w w' := by
  have HM := may_any n w
  rw [show decide (0 ≤ (n : Int) ∧ (n : Int) ≤ 32) = true by simp; omega] at HM
  have HW := width_any _ zs w h hf (by omega)
  have h33 := Pk.wid_33 zs
  have hmay : Hid (Pk.May zs n) := (Pk.wid_le hf n hn).1 (by omega)
  generalize Pk.wid zs = x at *
  have HS := fun w => size_anyXP zs.length n w (by omega) hn
  have hsz : Pk.size zs.length n ≤ 300000 := by
    have := Nat.mul_le_mul (show zs.length ≤ 65536 by omega) hn
    unfold Pk.size
    omega
  have HP : Hid (Pk.pk zs n = Pk.pkn zs n (Pk.size zs.length n)) := rfl
  rw [HP.out]
  clear HP
  generalize Pk.size zs.length n = N at *
  have HC : Hid (∀ j, j < zs.length → ∃ b off, a = some ⟨b, off, none⟩ ∧ b < w.heap.size ∧ w.cell? ⟨b, off + j, none⟩ = some (.int .i64 (zs.getD j 0))) := by
    intro j hj
    obtain ⟨a', cap', e, h⟩ := h
    cases e
    rcases h with rfl | ⟨b, off, rfl, hb, hc⟩
    · simp at hj
    · exact ⟨b, off, rfl, hb, hc j hj⟩
  clear h hf
  go_enter Tryz.func55, Tryz.ntmps55
  go_wp2_with fail
  refine HM.mono ?_
  rintro e w' ⟨rfl, rfl⟩
  go_wp2_with fail
  refine HW.mono ?_
  rintro e w' ⟨rfl, rfl⟩
  clear HM HW
  go_wp2_with fail
  refine (tableBits_any a zs.length cap n w').mono ?_
  rintro e w1 ⟨rfl, b0, b1, b2, hb, hz⟩
  have hw1 : Wrote w1.heap.size w1.heap.size [] (w1.alloc (.cells #[.pointer none, .slice none 0 0] 94)) := Lib.IsBuilderF.of (Lib.fresh_isBuilder 94 5 w1)
  have R0 : Hid (Packing w' (w1.alloc (.cells #[.pointer none, .slice none 0 0] 94)) w'.heap.size a cap zs n 0) := by
    refine ⟨by rw [hz] at hw1; exact hw1, ?_, ?_, box_alloc b2 _, hb.alloc (by omega) _, by simp; omega⟩
    · rw [show min (8 * 0) (zs.length * n) = 0 by omega]; exact box_alloc b0 _
    · exact box_alloc b1 _
  clear b0 b1 b2 hb hw1
  go_wp2_with fail
  refine (HS _).mono ?_
  rintro e w2 ⟨rfl, rfl⟩
  clear HS
  have hw : Hid _ := hw
  have hz : Hid _ := hz
  go_wp2
  go_loopw [27] (fun c wr => ∃ i : Nat, i ≤ N ∧ c = .int .i64 i ∧ Hid (Packing w' wr w'.heap.size a cap zs n i)) (fun c _ => N - (intOf c).toNat)
  case atStart => exact ⟨0, by omega, rfl, R0⟩
  case round =>
    clear R0
    obtain ⟨i, hi, rfl, R⟩ := hrel
    by_cases hlt : i < N
    · have HN : Hid (Calls _ _ _ _ _) := number_anyXP 109 (.inr rfl) _ _ (Pk.tb_le zs n) (8 * i + 8) _
        (tellsN wr (w'.heap.size + 2) w'.heap.size (w'.heap.size + 1) a cap zs n _ (by omega) (by omega)
          (fun j hj => by
            obtain ⟨b, off, e, hb, hc⟩ := HC.out j hj
            exact ⟨b, off, e, by omega, (R.out.below.cell (p := ⟨b, off + j, none⟩) hb).trans hc⟩)
          hmay.out hn (by omega)) (8 * i) 8 (by omega) (by omega) wr ⟨R.out.place, R.out.row, R.out.width, World.grownBy.refl _ _⟩
      have hby := Pk.byte_toNat zs n i
      have HPS : Hid _ := Pk.pkn_succ zs n i
      have h256 := UInt8.toNat_lt (Pk.byte zs n i)
      rw [← hby] at HN
      clear hby
      generalize Pk.byte zs n i = c at *
      go_wp2_with fail
      refine Calls.mono HN.out ?_
      rintro e w3 ⟨rfl, k0, k1, k2, kg⟩
      have hw3 := R.out.wrote.below kg (by omega)
      have hB3 : Below w'.heap.size w' w3 := R.out.below.grown kg (by have := R.out.size; omega) (fun k e => by cases e; omega)
      have hs3 : w'.heap.size + 3 ≤ w3.heap.size := by have := R.out.size; have := kg.size; omega
      have HWB : Hid (Calls _ _ _ _ _) := write_byte _ _ _ c w3 hw3 (by rw [Pk.pkn_length]; omega) hs3
      have K0 : Hid _ := k0
      have K1 : Hid _ := k1
      have K2 : Hid _ := k2
      have K3 : Hid _ := hB3
      have K4 : Hid _ := hs3
      clear k0 k1 k2 hw3 hB3 hs3 HN kg
      go_wp2_with fail
      refine Calls.mono HWB.out ?_
      rintro e w4 ⟨⟨v, rfl⟩, hw4, hb4, hk4⟩
      have R2 : Hid (Packing w' w4 w'.heap.size a cap zs n (i + 1)) := by
        refine ⟨by rw [HPS.out]; exact hw4, ?_, box_below K1.out hb4 (by omega), box_below K2.out hb4 (by omega), K3.out.trans (hb4.mono (by omega)), by have := hb4.size; have := K4.out; omega⟩
        rw [show 8 * (i + 1) = 8 * i + 8 by omega]
        exact box_below K0.out hb4 (by omega)
      clear hw4 hb4 hk4
      go_wp2
      go_roundw
      case rel => exact ⟨i + 1, by omega, by go_num, R2⟩
      case measure => simp [intOf]; omega
    · obtain rfl : i = N := by omega
      have HST : Hid (Calls _ _ _ _ _) := string_any _ _ _ wr R.out.wrote R.out.size
      go_wp2_with fail
      refine Calls.mono HST.out ?_
      rintro e w4 ⟨rfl, hb4, hk4⟩
      have HB : Hid _ := R.out.below.trans (hb4.mono (show w'.heap.size ≤ w'.heap.size + 3 by omega))
      clear hb4 hk4
      go_wp2
      go_ret2
      exact ⟨rfl, HB.out⟩

theorem pack_any (v : Value) (zs : List Int) (n : Int) (w : World) (h : Ints w v zs) (hf : Pk.Fit zs) (hl : zs.length ≤ 1000000000000) :
    Calls Tryz.prog 55 #[v, .int .i64 n] w fun e w' => e = .returned (.tuple #[.string ⟨(Pk.pack zs n).1.toArray⟩, .int .i64 (Pk.pack zs n).2]) ∧ Below w.heap.size w w' := by
  by_cases hn : 0 ≤ n ∧ n ≤ 32
  · obtain ⟨m, rfl⟩ := Int.eq_ofNat_of_zero_le hn.1
    by_cases hw : m < Pk.wid zs
    · rw [Pk.pack_arg (.inr (by omega))]
      exact pack_arg2 v zs m w h hf hl (by omega) hw
    · have hno : ¬ (¬ (0 ≤ (m : Int) ∧ (m : Int) ≤ 32) ∨ (m : Int) < Pk.wid zs) := by omega
      obtain ⟨a, cap, rfl, h⟩ := h
      by_cases h6 : 65536 < zs.length
      · rw [Pk.pack_long hno h6]
        exact pack_long a cap zs m w ⟨a, cap, rfl, h⟩ hf hl (by omega) hw h6
      · rw [Pk.pack_yes hno h6]
        exact pack_yes a cap zs m w ⟨a, cap, rfl, h⟩ hf (by omega) hw h6
  · rw [Pk.pack_arg (.inl hn)]
    exact pack_arg1 v n w hn

end Go.Proofs.YtbhngncnhabbkaaGreat
