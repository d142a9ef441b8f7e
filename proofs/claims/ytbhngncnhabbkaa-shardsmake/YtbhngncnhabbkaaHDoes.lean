/- The walk of the statements' helper does: the chapter's shard. -/
import Derived.Test.YtbhngncnhabbkaaHDec
namespace Go.Proofs.Ytbhngncnhabbkaa
open Go.RowKit

namespace Sh
def exL : List (Int × Int) := [(0, 1), (0, 2), (2, 1)]
def ex : Shard := ((0, 3), [[1, 2], [], [1]])
theorem ex_mk : mk exL (0, 3) = ex := by decide +kernel
theorem ex_may : may ex = true := by decide +kernel
theorem ex_raw : raw ex = [115, 104, 0, 3, 2, 18, 2, 1, 0, 0, 1, 1, 3] := by decide +kernel
theorem ex_bad : chk ((0, 3), [[0], [], [1]]) = 2 := by decide +kernel
theorem ex_enc : encS ex = [115, 104, 0, 3, 2, 18, 2, 1, 0, 0, 1, 1, 3] ++ Cr.four (Cr.sum (raw ex)) := by
  unfold encS enc sealB
  rw [if_pos ex_may, ex_raw]
theorem ex_dec : decE (encS ex) = 0 ∧ decS (encS ex) = ex := by
  have e : encS ex = enc ex := by unfold encS; rw [if_pos ex_may]
  rw [e]
  exact dec_yes ex_may
end Sh

theorem cell_new (W : World) (c : Array Value) (t : TypeId) (i : Nat) (u : Value) (h : c[i]? = some u) : (W.alloc (.cells c t)).cell? ⟨W.heap.size, i, none⟩ = some u := by
  simp only [World.cell?]
  rw [heap_alloc_new]
  exact h

theorem lits_lists (W : World) (a : List Int) (ca : Array Value) (hca : ca = (icells a).toArray) :
    Lists (((W.alloc (.cells ca 3)).alloc (.cells #[.int .i64 1] 3)).alloc (.cells #[.slice (some ⟨W.heap.size, 0, none⟩) a.length a.length, .slice none 0 0, .slice (some ⟨W.heap.size + 1, 0, none⟩) 1 1] 41)) (.slice (some ⟨W.heap.size + 2, 0, none⟩) 3 3) [a, [], [1]] := by
  obtain ⟨w1, h1⟩ : ∃ w1, W.alloc (.cells ca 3) = w1 := ⟨_, rfl⟩
  obtain ⟨w2, h2⟩ : ∃ w2, w1.alloc (.cells #[.int .i64 1] 3) = w2 := ⟨_, rfl⟩
  obtain ⟨w3, h3⟩ : ∃ w3, w2.alloc (.cells #[.slice (some ⟨W.heap.size, 0, none⟩) a.length a.length, .slice none 0 0, .slice (some ⟨W.heap.size + 1, 0, none⟩) 1 1] 41) = w3 := ⟨_, rfl⟩
  rw [h1, h2, h3]
  have s1 : w1.heap.size = W.heap.size + 1 := by rw [← h1]; simp
  have s2 : w2.heap.size = W.heap.size + 2 := by rw [← h2]; simp [s1]
  have b12 : Below w1.heap.size w1 w2 := by rw [← h2]; exact (Below.refl _ _).alloc (Nat.le_refl _) _
  have b23 : Below w2.heap.size w2 w3 := by rw [← h3]; exact (Below.refl _ _).alloc (Nat.le_refl _) _
  have i1 : Ints w1 (.slice (some ⟨W.heap.size, 0, none⟩) a.length a.length) a := by
    refine ⟨_, _, rfl, .inr ⟨_, 0, rfl, by omega, fun j hj => ?_⟩⟩
    rw [← h1]
    refine cell_new _ _ _ _ _ ?_
    simp [hca, List.getD, hj]
  have i2 : Ints w2 (.slice (some ⟨W.heap.size + 1, 0, none⟩) 1 1) [1] := by
    refine ⟨_, _, rfl, .inr ⟨_, 0, rfl, by omega, fun j hj => ?_⟩⟩
    obtain rfl : j = 0 := by simpa using hj
    rw [← h2, ← s1]
    exact cell_new _ _ _ _ _ rfl
  have hc : ∀ j u, (#[.slice (some ⟨W.heap.size, 0, none⟩) a.length a.length, .slice none 0 0, .slice (some ⟨W.heap.size + 1, 0, none⟩) 1 1] : Array Value)[j]? = some u → w3.cell? ⟨W.heap.size + 2, 0 + j, none⟩ = some u := fun j u hu => by
    rw [← h3, ← s2, Nat.zero_add]
    exact cell_new _ _ _ _ _ hu
  refine ⟨_, 3, rfl, by simp, .inr ⟨_, 0, rfl, fun j hj => ?_⟩⟩
  match j, hj with
  | 0, _ => exact ⟨_, hc 0 _ rfl, (i1.later b12).later b23⟩
  | 1, _ => exact ⟨_, hc 1 _ rfl, ⟨none, 0, rfl, .inl rfl⟩⟩
  | 2, _ => exact ⟨_, hc 2 _ rfl, i2.later b23⟩

theorem small_of {o : List (List Int)} (h : FitS o) : o.length ≤ 1000000000000 ∧ ∀ l ∈ o, l.length ≤ 1000000000000 := ⟨by have := h.1; omega, fun l hl => by have := (h.2 l hl).1; omega⟩
theorem ex_fit : FitS Sh.ex.2 := by
  refine ⟨by decide, fun l hl => ?_⟩
  have : l = [1, 2] ∨ l = [] ∨ l = [1] := by simpa [Sh.ex] using hl
  rcases this with rfl | rfl | rfl
  · exact ⟨by decide, fun z hz => by simp at hz; omega⟩
  · exact ⟨by decide, fun z hz => by simp at hz⟩
  · exact ⟨by decide, fun z hz => by simp at hz; omega⟩

set_option maxHeartbeats 2000000 in
set_option maxRecDepth 100000 in
theorem sdoes_any (w : World) : Calls Try.prog 9 #[] w fun e w' => e = .returned (.bool true) ∧ Below w.heap.size w w' := by
  obtain ⟨wa, hwa⟩ : ∃ wa, w.alloc (.cells #[.int .i64 0, .int .i64 1, .int .i64 0, .int .i64 2, .int .i64 2, .int .i64 1] 43) = wa := ⟨_, rfl⟩
  have hba : Below w.heap.size w wa := by rw [← hwa]; exact (Below.refl _ w).alloc (Nat.le_refl _) _
  have hE : Edg wa (.slice (some ⟨w.heap.size, 0, none⟩) 3 3) Sh.exL := by
    refine ⟨_, 3, rfl, by decide, .inr ⟨_, 0, rfl, fun j hj => ?_⟩⟩
    rw [← hwa]
    match j, hj with
    | 0, _ => exact ⟨cell_new _ _ _ _ _ rfl, cell_new _ _ _ _ _ rfl⟩
    | 1, _ => exact ⟨cell_new _ _ _ _ _ rfl, cell_new _ _ _ _ _ rfl⟩
    | 2, _ => exact ⟨cell_new _ _ _ _ _ rfl, cell_new _ _ _ _ _ rfl⟩
  have HMK := smake_any _ Sh.exL (0, 3) wa hE (by decide) ⟨⟨by decide, by decide⟩, by decide, by decide⟩
  rw [Sh.ex_mk] at HMK
  have HMK2 : Hid (Calls Try.prog 6 #[.slice (some ⟨w.heap.size, 0, none⟩) 3 3, .agg #[.int .i64 0, .int .i64 3]] wa fun e w' => ∃ u, e = .returned (.agg #[.int .i64 0, .int .i64 3, u]) ∧ Lists w' u Sh.ex.2 ∧ Below wa.heap.size wa w') := HMK
  have HBA : Hid (Below w.heap.size w wa) := hba
  have hlen : Sh.ex.2.length = 3 := rfl
  have HEN : Hid (∀ W u, Lists W u Sh.ex.2 → Calls Try.prog 11 #[.agg #[.int .i64 0, .int .i64 3, u]] W fun e w' => e = .returned (.tuple #[.string ⟨(Sh.encS Sh.ex).toArray⟩, .int .i64 0]) ∧ Below W.heap.size W w') := fun W u h => by
    have := senc_any Sh.ex u W h ex_fit ⟨⟨by decide, by decide⟩, by decide, by decide⟩
    rwa [Sh.chk_yes Sh.ex_may] at this
  have HSM : Hid (∀ W u v, Lists W u Sh.ex.2 → Lists W v Sh.ex.2 → Calls Try.prog 5 #[.agg #[.int .i64 0, .int .i64 3, u], .agg #[.int .i64 0, .int .i64 3, v]] W fun e w' => e = .returned (.bool true) ∧ Below W.heap.size W w') := fun W u v h1 h2 => by
    have := ssame_any Sh.ex Sh.ex u v W h1 h2 (small_of ex_fit) (small_of ex_fit)
    rwa [decide_eq_true rfl] at this
  have hbl : (⟨(Sh.encS Sh.ex).toArray⟩ : ByteArray).size = 17 := by rw [size_of, Sh.ex_enc]; rfl
  have hbx : (⟨(Sh.encS Sh.ex).toArray⟩ : ByteArray).extract 0 13 = ⟨#[115, 104, 0, 3, 2, 18, 2, 1, 0, 0, 1, 1, 3]⟩ := by
    apply text_eq
    rw [extract_take, Sh.ex_enc]
    rfl
  have HDE : Hid (∀ W, Calls Try.prog 10 #[.string ⟨(Sh.encS Sh.ex).toArray⟩] W fun e w' => ∃ u, e = .returned (.tuple #[.agg #[.int .i64 0, .int .i64 3, u], .int .i64 0]) ∧ Lists w' u Sh.ex.2 ∧ Below W.heap.size W w') := fun W => by
    refine (sdec_any ⟨(Sh.encS Sh.ex).toArray⟩ W (by omega)).mono ?_
    rintro e w' ⟨u, rfl, hu, hb⟩
    rw [show (⟨(Sh.encS Sh.ex).toArray⟩ : ByteArray).data.toList = Sh.encS Sh.ex from rfl, Sh.ex_dec.1]
    rw [show (⟨(Sh.encS Sh.ex).toArray⟩ : ByteArray).data.toList = Sh.encS Sh.ex from rfl, Sh.ex_dec.2] at hu
    obtain ⟨v, rfl, hv⟩ := hu
    exact ⟨v, rfl, hv, hb⟩
  have HCK : Hid (∀ W u, Lists W u [[0], [], [1]] → Calls Try.prog 12 #[.agg #[.int .i64 0, .int .i64 3, u]] W fun e w' => e = .returned (.int .i64 2) ∧ Below W.heap.size W w') := fun W u h => by
    have hf : FitS [[0], [], [1]] := ⟨by decide, fun l hl => by
      have : l = [0] ∨ l = [] ∨ l = [1] := by simpa using hl
      rcases this with rfl | rfl | rfl
      · exact ⟨by decide, fun z hz => by simp at hz; omega⟩
      · exact ⟨by decide, fun z hz => by simp at hz⟩
      · exact ⟨by decide, fun z hz => by simp at hz; omega⟩⟩
    have := schk_any ((0, 3), [[0], [], [1]]) u W h hf ⟨⟨by decide, by decide⟩, by decide, by decide⟩
    rwa [Sh.ex_bad] at this
  have HL1 : Hid (∀ W : World, Lists (((W.alloc (.cells #[.int .i64 1, .int .i64 2] 3)).alloc (.cells #[.int .i64 1] 3)).alloc (.cells #[.slice (some ⟨W.heap.size, 0, none⟩) 2 2, .slice none 0 0, .slice (some ⟨W.heap.size + 1, 0, none⟩) 1 1] 41)) (.slice (some ⟨W.heap.size + 2, 0, none⟩) 3 3) Sh.ex.2) := fun W => lits_lists W [1, 2] _ rfl
  have HL2 : Hid (∀ W : World, Lists (((W.alloc (.cells #[.int .i64 0] 3)).alloc (.cells #[.int .i64 1] 3)).alloc (.cells #[.slice (some ⟨W.heap.size, 0, none⟩) 1 1, .slice none 0 0, .slice (some ⟨W.heap.size + 1, 0, none⟩) 1 1] 41)) (.slice (some ⟨W.heap.size + 2, 0, none⟩) 3 3) [[0], [], [1]]) := fun W => lits_lists W [0] _ rfl
  generalize (⟨(Sh.encS Sh.ex).toArray⟩ : ByteArray) = b at *
  generalize Sh.ex.2 = o at *
  clear hba hE HMK
  go_enter Try.func9, Try.ntmps9
  go_wp2_with fail
  refine Calls.mono HMK2.out ?_
  rintro e w1 ⟨u, rfl, hl1, hb1⟩
  obtain ⟨ua, uc, rfl, _, _⟩ := id hl1
  rw [hlen] at hl1
  obtain ⟨w2, hw2⟩ : ∃ w2, w1.alloc (.cells #[.int .i64 0, .int .i64 3, .slice ua 3 uc] 28) = w2 := ⟨_, rfl⟩
  have hb12 : Below w1.heap.size w1 w2 := by rw [← hw2]; exact (Below.refl _ w1).alloc (Nat.le_refl _) _
  have HS2 : Hid (w2.heap[w1.heap.size]? = some (.cells #[.int .i64 0, .int .i64 3, .slice ua 3 uc] 28 (0, 0))) := by rw [Hid, ← hw2]; exact heap_alloc_new _ _
  obtain ⟨s0, s1, s2, _, _, _⟩ := three_cells HS2.out
  have HU2 : Hid (Lists w2 (.slice ua 3 uc) o) := hl1.later hb12
  have HB2 : Hid (Below w.heap.size w w2) := bnext (bnext HBA.out hb1) hb12
  have HEN2 : Hid _ := HEN.out w2 _ HU2.out
  clear hl1 hb1 hb12 HMK2 HEN
  go_wp2_with fail
  refine Calls.mono HEN2.out ?_
  rintro e w3 ⟨rfl, hb3⟩
  replace HS2 : Hid _ := blk_later HS2.out hb3
  replace HU2 : Hid (Lists w3 (.slice ua 3 uc) o) := HU2.out.later hb3
  replace HB2 : Hid (Below w.heap.size w w3) := bnext HB2.out hb3
  obtain ⟨s0, s1, s2, _, _, _⟩ := three_cells HS2.out
  have hL3 := HL1.out w3
  obtain ⟨w4, hw4⟩ : ∃ w4, ((w3.alloc (.cells #[.int .i64 1, .int .i64 2] 3)).alloc (.cells #[.int .i64 1] 3)).alloc (.cells #[.slice (some ⟨w3.heap.size, 0, none⟩) 2 2, .slice none 0 0, .slice (some ⟨w3.heap.size + 1, 0, none⟩) 1 1] 41) = w4 := ⟨_, rfl⟩
  rw [hw4] at hL3
  have hb34 : Below w3.heap.size w3 w4 := by rw [← hw4]; exact (((Below.refl _ w3).alloc (Nat.le_refl _) _).alloc (by simp) _).alloc (by simp; omega) _
  have HSM4 : Hid _ := HSM.out w4 _ _ (HU2.out.later hb34) hL3
  replace HS2 : Hid _ := blk_later HS2.out hb34
  replace HU2 : Hid (Lists w4 (.slice ua 3 uc) o) := HU2.out.later hb34
  replace HB2 : Hid (Below w.heap.size w w4) := bnext HB2.out hb34
  clear HEN2 hb3 hb34 hL3 HL1
  go_wp2_with fail
  refine Calls.mono HSM4.out ?_
  rintro e w5 ⟨rfl, hb5⟩
  replace HS2 : Hid _ := blk_later HS2.out hb5
  replace HU2 : Hid (Lists w5 (.slice ua 3 uc) o) := HU2.out.later hb5
  replace HB2 : Hid (Below w.heap.size w w5) := bnext HB2.out hb5
  have HDE5 : Hid _ := HDE.out w5
  clear HSM4 hb5 HDE
  go_wp2_with fail
  refine Calls.mono HDE5.out ?_
  rintro e w6 ⟨v, rfl, hl6, hb6⟩
  obtain ⟨va, vc, rfl, _, _⟩ := id hl6
  rw [hlen] at hl6
  obtain ⟨w7, hw7⟩ : ∃ w7, w6.alloc (.cells #[.int .i64 0, .int .i64 3, .slice va 3 vc] 28) = w7 := ⟨_, rfl⟩
  have hb67 : Below w6.heap.size w6 w7 := by rw [← hw7]; exact (Below.refl _ w6).alloc (Nat.le_refl _) _
  have HT7 : Hid (w7.heap[w6.heap.size]? = some (.cells #[.int .i64 0, .int .i64 3, .slice va 3 vc] 28 (0, 0))) := by rw [Hid, ← hw7]; exact heap_alloc_new _ _
  replace HS2 : Hid _ := blk_later (blk_later HS2.out hb6) hb67
  replace HU2 : Hid (Lists w7 (.slice ua 3 uc) o) := (HU2.out.later hb6).later hb67
  have HV7 : Hid (Lists w7 (.slice va 3 vc) o) := hl6.later hb67
  replace HB2 : Hid (Below w.heap.size w w7) := bnext (bnext HB2.out hb6) hb67
  obtain ⟨s0, s1, s2, _, _, _⟩ := three_cells HS2.out
  obtain ⟨t0, t1, t2, _, _, _⟩ := three_cells HT7.out
  have HSM7 : Hid _ := HSM.out w7 _ _ HV7.out HU2.out
  clear HDE5 hl6 hb6 hb67 HSM
  go_wp2_with fail
  refine Calls.mono HSM7.out ?_
  rintro e w8 ⟨rfl, hb8⟩
  replace HS2 : Hid _ := blk_later HS2.out hb8
  replace HB2 : Hid (Below w.heap.size w w8) := bnext HB2.out hb8
  obtain ⟨s0, s1, s2, _, _, _⟩ := three_cells HS2.out
  have hL8 := HL2.out w8
  obtain ⟨w9, hw9⟩ : ∃ w9, ((w8.alloc (.cells #[.int .i64 0] 3)).alloc (.cells #[.int .i64 1] 3)).alloc (.cells #[.slice (some ⟨w8.heap.size, 0, none⟩) 1 1, .slice none 0 0, .slice (some ⟨w8.heap.size + 1, 0, none⟩) 1 1] 41) = w9 := ⟨_, rfl⟩
  rw [hw9] at hL8
  have hb89 : Below w8.heap.size w8 w9 := by rw [← hw9]; exact (((Below.refl _ w8).alloc (Nat.le_refl _) _).alloc (by simp) _).alloc (by simp; omega) _
  have HCK9 : Hid _ := HCK.out w9 _ hL8
  replace HB2 : Hid (Below w.heap.size w w9) := bnext HB2.out hb89
  clear HSM7 hb8 hL8 hb89 HCK HL2 HV7 HU2 HT7
  go_wp2_with fail
  refine Calls.mono HCK9.out ?_
  rintro e w10 ⟨rfl, hb10⟩
  replace HB2 : Hid (Below w.heap.size w w10) := bnext HB2.out hb10
  clear hb10 HCK9
  go_wp2
  go_ret
  exact ⟨rfl, HB2.out⟩

end Go.Proofs.Ytbhngncnhabbkaa
