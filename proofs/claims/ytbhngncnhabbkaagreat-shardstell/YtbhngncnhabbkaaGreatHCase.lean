/- What stands where in a shard's bytes. -/
import Derived.Test.YtbhngncnhabbkaaGreatHMk
namespace Go.Proofs.YtbhngncnhabbkaaGreat
namespace Sh

/-- Where the width stands. -/
def atW (p : Int × Int) : Nat := 2 + (Vi.putL p.1).length + (Vi.putL p.2).length
/-- Where the lists begin. -/
def atL (p : Int × Int) (w : Nat) : Nat := atW p + 1 + ((p.2 - p.1).toNat * w + 7) / 8

theorem enc_at {s : Shard} (hs : may s = true) :
    Vi.getS (enc s) 2 = (s.1.1, (2 : Int) + (Vi.putL s.1.1).length, true) ∧ Vi.getS (enc s) (2 + (Vi.putL s.1.1).length) = (s.1.2, (atW s.1 : Int), true) ∧ atW s.1 < (enc s).length ∧ (enc s).getD (atW s.1) 0 = UInt8.ofNat (wd s.2) ∧
      ∀ k, k < s.2.length → Gp.dec (enc s) ((atL s.1 (wd s.2) + (lists (s.2.take k)).length : Nat) : Int) = some (s.2.getD k [], ((atL s.1 (wd s.2) + (lists (s.2.take (k + 1))).length : Nat) : Int)) := by
  obtain ⟨s1, s2, s3, s4⟩ := may_iff.1 hs
  have gs := may_good hs
  obtain ⟨p, o⟩ := s
  rw [mayP_iff] at s1
  dsimp only at *
  have e0 : enc (p, o) = [115, 104] ++ (Vi.putL p.1 ++ (Vi.putL p.2 ++ (UInt8.ofNat (wd o) :: (Pk.pk (deg o) (wd o) ++ (lists o ++ (Vi.putL (many o) ++ Cr.four (Cr.sum (raw (p, o))))))))) := by
    unfold enc sealB
    conv => lhs; lhs; unfold raw
    simp only [List.cons_append, List.append_assoc, List.nil_append]
  refine ⟨?_, ?_, ?_, ?_, ?_⟩
  · rw [e0]
    have := Gp.getS_put [115, 104] (Vi.putL p.2 ++ (UInt8.ofNat (wd o) :: (Pk.pk (deg o) (wd o) ++ (lists o ++ (Vi.putL (many o) ++ Cr.four (Cr.sum (raw (p, o)))))))) p.1 (by omega) (by omega)
    simpa using this
  · rw [e0, ← List.append_assoc]
    have := Gp.getS_put ([115, 104] ++ Vi.putL p.1) (UInt8.ofNat (wd o) :: (Pk.pk (deg o) (wd o) ++ (lists o ++ (Vi.putL (many o) ++ Cr.four (Cr.sum (raw (p, o))))))) p.2 (by omega) (by omega)
    have e1 : (([115, 104] ++ Vi.putL p.1 : List UInt8).length : Int) = 2 + (Vi.putL p.1).length := by simp; omega
    rw [e1] at this
    rw [this]
    unfold atW
    simp only [Int.natCast_add]
    rfl
  · rw [e0]; unfold atW; simp; omega
  · rw [e0]
    have e1 : [115, 104] ++ (Vi.putL p.1 ++ (Vi.putL p.2 ++ (UInt8.ofNat (wd o) :: (Pk.pk (deg o) (wd o) ++ (lists o ++ (Vi.putL (many o) ++ Cr.four (Cr.sum (raw (p, o))))))))) = ([115, 104] ++ Vi.putL p.1 ++ Vi.putL p.2) ++ UInt8.ofNat (wd o) :: (Pk.pk (deg o) (wd o) ++ (lists o ++ (Vi.putL (many o) ++ Cr.four (Cr.sum (raw (p, o)))))) := by simp
    have e2 : atW p = ([115, 104] ++ Vi.putL p.1 ++ Vi.putL p.2 : List UInt8).length := by unfold atW; simp; omega
    rw [e1, e2, List.getD_eq_getElem?_getD, List.getElem?_append_right (Nat.le_refl _), Nat.sub_self]
    rfl
  · intro k hk
    obtain ⟨g1, g2, g3⟩ := gs _ (show o.getD k [] ∈ o by rw [List.getD_eq_getElem?_getD, List.getElem?_eq_getElem hk]; exact List.getElem_mem hk)
    have ho : lists o = lists (o.take k) ++ (Gp.enc (o.getD k []) ++ lists (o.drop (k + 1))) := by
      have h1 : o = o.take (k + 1) ++ o.drop (k + 1) := (List.take_append_drop _ _).symm
      conv => lhs; rw [h1]
      have h2 : lists (o.take (k + 1) ++ o.drop (k + 1)) = lists (o.take (k + 1)) ++ lists (o.drop (k + 1)) := by unfold lists; rw [List.flatMap_append]
      rw [h2, lists_take o k hk, List.append_assoc]
    have hpk : (Pk.pk (deg o) (wd o)).length = ((p.2 - p.1).toNat * wd o + 7) / 8 := by
      rw [Pk.pk_length, deg_len]; unfold Pk.size
      rw [show (p.2 - p.1).toNat = o.length by omega]
    have e1 : enc (p, o) = ([115, 104] ++ Vi.putL p.1 ++ Vi.putL p.2 ++ UInt8.ofNat (wd o) :: Pk.pk (deg o) (wd o) ++ lists (o.take k)) ++ (Gp.enc (o.getD k []) ++ (lists (o.drop (k + 1)) ++ (Vi.putL (many o) ++ Cr.four (Cr.sum (raw (p, o)))))) := by
      rw [e0, ho]; simp
    have e2 : atL p (wd o) + (lists (o.take k)).length = ([115, 104] ++ Vi.putL p.1 ++ Vi.putL p.2 ++ UInt8.ofNat (wd o) :: Pk.pk (deg o) (wd o) ++ lists (o.take k) : List UInt8).length := by
      unfold atL atW; simp [hpk]; omega
    rw [e1, e2, Gp.dec_enc _ _ _ g1 g2 g3, lists_take o k hk, ← e2, List.length_append]
    simp only [Option.some.injEq, Prod.mk.injEq, true_and]
    omega
theorem dec_no {b : List UInt8} (h : ∀ s, may s = true → enc s ≠ b) : decE b = 10 ∧ decS b = none_ := by
  unfold decE decS
  rw [dec_none h]
  exact ⟨rfl, rfl⟩
theorem dec_yes {s : Shard} (h : may s = true) : decE (enc s) = 0 ∧ decS (enc s) = s := by
  unfold decE decS
  rw [dec_enc h]
  exact ⟨rfl, rfl⟩
end Sh

end Go.Proofs.YtbhngncnhabbkaaGreat

/- The walk of the statements' helper does: the chapter's shard. -/
namespace Go.Proofs.YtbhngncnhabbkaaGreat
open Go.RowKit

namespace Sh
def exL : List (Int × Int) := [(0, 1), (0, 2), (2, 1)]
def ex : Shard := ((0, 3), [[1, 2], [], [1]])
theorem ex_mk : mk exL (0, 3) = ex := by decide +kernel
theorem ex_may : may ex = true := by decide +kernel
theorem ex_raw : raw ex = [115, 104, 0, 3, 2, 18, 2, 1, 0, 0, 1, 1, 3] := by decide +kernel
theorem ex_bad : chk ((0, 3), [[0], [], [1]]) = 2 := by decide +kernel
theorem ex_enc : encS ex = [115, 104, 0, 3, 2, 18, 2, 1, 0, 0, 1, 1, 3] ++ Cr.four (Cr.sum (raw ex)) := by
  unfold encS enc sealB
  rw [if_pos ex_may, ex_raw]
theorem ex_dec : decE (encS ex) = 0 ∧ decS (encS ex) = ex := by
  have e : encS ex = enc ex := by unfold encS; rw [if_pos ex_may]
  rw [e]
  exact dec_yes ex_may
end Sh

theorem cell_new (W : World) (c : Array Value) (t : TypeId) (i : Nat) (u : Value) (h : c[i]? = some u) : (W.alloc (.cells c t)).cell? ⟨W.heap.size, i, none⟩ = some u := by
  simp only [World.cell?]
  rw [heap_alloc_new]
  exact h

theorem lits_lists (W : World) (a : List Int) (ca : Array Value) (hca : ca = (icells a).toArray) :
    Lists (((W.alloc (.cells ca 3)).alloc (.cells #[.int .i64 1] 3)).alloc (.cells #[.slice (some ⟨W.heap.size, 0, none⟩) a.length a.length, .slice none 0 0, .slice (some ⟨W.heap.size + 1, 0, none⟩) 1 1] 58)) (.slice (some ⟨W.heap.size + 2, 0, none⟩) 3 3) [a, [], [1]] := by
  obtain ⟨w1, h1⟩ : ∃ w1, W.alloc (.cells ca 3) = w1 := ⟨_, rfl⟩
  obtain ⟨w2, h2⟩ : ∃ w2, w1.alloc (.cells #[.int .i64 1] 3) = w2 := ⟨_, rfl⟩
  obtain ⟨w3, h3⟩ : ∃ w3, w2.alloc (.cells #[.slice (some ⟨W.heap.size, 0, none⟩) a.length a.length, .slice none 0 0, .slice (some ⟨W.heap.size + 1, 0, none⟩) 1 1] 58) = w3 := ⟨_, rfl⟩
  rw [h1, h2, h3]
  have s1 : w1.heap.size = W.heap.size + 1 := by rw [← h1]; simp
  have s2 : w2.heap.size = W.heap.size + 2 := by rw [← h2]; simp [s1]
  have b12 : Below w1.heap.size w1 w2 := by rw [← h2]; exact (Below.refl _ _).alloc (Nat.le_refl _) _
  have b23 : Below w2.heap.size w2 w3 := by rw [← h3]; exact (Below.refl _ _).alloc (Nat.le_refl _) _
  have i1 : Ints w1 (.slice (some ⟨W.heap.size, 0, none⟩) a.length a.length) a := by
    refine ⟨_, _, rfl, .inr ⟨_, 0, rfl, by omega, fun j hj => ?_⟩⟩
    rw [← h1]
    refine cell_new _ _ _ _ _ ?_
    simp [hca, List.getD, hj]
  have i2 : Ints w2 (.slice (some ⟨W.heap.size + 1, 0, none⟩) 1 1) [1] := by
    refine ⟨_, _, rfl, .inr ⟨_, 0, rfl, by omega, fun j hj => ?_⟩⟩
    obtain rfl : j = 0 := by simpa using hj
    rw [← h2, ← s1]
    exact cell_new _ _ _ _ _ rfl
  have hc : ∀ j u, (#[.slice (some ⟨W.heap.size, 0, none⟩) a.length a.length, .slice none 0 0, .slice (some ⟨W.heap.size + 1, 0, none⟩) 1 1] : Array Value)[j]? = some u → w3.cell? ⟨W.heap.size + 2, 0 + j, none⟩ = some u := fun j u hu => by
    rw [← h3, ← s2, Nat.zero_add]
    exact cell_new _ _ _ _ _ hu
  refine ⟨_, 3, rfl, by simp, .inr ⟨_, 0, rfl, fun j hj => ?_⟩⟩
  match j, hj with
  | 0, _ => exact ⟨_, hc 0 _ rfl, (i1.later b12).later b23⟩
  | 1, _ => exact ⟨_, hc 1 _ rfl, ⟨none, 0, rfl, .inl rfl⟩⟩
  | 2, _ => exact ⟨_, hc 2 _ rfl, i2.later b23⟩

theorem small_of {o : List (List Int)} (h : FitS o) : o.length ≤ 1000000000000 ∧ ∀ l ∈ o, l.length ≤ 1000000000000 := ⟨by have := h.1; omega, fun l hl => by have := (h.2 l hl).1; omega⟩
theorem ex_fit : FitS Sh.ex.2 := by
  refine ⟨by decide, fun l hl => ?_⟩
  have : l = [1, 2] ∨ l = [] ∨ l = [1] := by simpa [Sh.ex] using hl
  rcases this with rfl | rfl | rfl
  · exact ⟨by decide, fun z hz => by simp at hz; omega⟩
  · exact ⟨by decide, fun z hz => by simp at hz⟩
  · exact ⟨by decide, fun z hz => by simp at hz; omega⟩

set_option maxHeartbeats 2000000 in
set_option maxRecDepth 100000 in
theorem sdoes_any (w : World) : Calls Tryz.prog 18 #[] w fun e w' => e = .returned (.bool true) ∧ Below w.heap.size w w' := by
  obtain ⟨wa, hwa⟩ : ∃ wa, w.alloc (.cells #[.int .i64 0, .int .i64 1, .int .i64 0, .int .i64 2, .int .i64 2, .int .i64 1] 56) = wa := ⟨_, rfl⟩
  have hba : Below w.heap.size w wa := by rw [← hwa]; exact (Below.refl _ w).alloc (Nat.le_refl _) _
  have hE : Edg wa (.slice (some ⟨w.heap.size, 0, none⟩) 3 3) Sh.exL := by
    refine ⟨_, 3, rfl, by decide, .inr ⟨_, 0, rfl, fun j hj => ?_⟩⟩
    rw [← hwa]
    match j, hj with
    | 0, _ => exact ⟨cell_new _ _ _ _ _ rfl, cell_new _ _ _ _ _ rfl⟩
    | 1, _ => exact ⟨cell_new _ _ _ _ _ rfl, cell_new _ _ _ _ _ rfl⟩
    | 2, _ => exact ⟨cell_new _ _ _ _ _ rfl, cell_new _ _ _ _ _ rfl⟩
  have HMK := smake_any _ Sh.exL (0, 3) wa hE (by decide) ⟨⟨by decide, by decide⟩, by decide, by decide⟩
  rw [Sh.ex_mk] at HMK
  have HMK2 : Hid (Calls Tryz.prog 23 #[.slice (some ⟨w.heap.size, 0, none⟩) 3 3, .agg #[.int .i64 0, .int .i64 3]] wa fun e w' => ∃ u, e = .returned (.agg #[.int .i64 0, .int .i64 3, u]) ∧ Lists w' u Sh.ex.2 ∧ Below wa.heap.size wa w') := HMK
  have HBA : Hid (Below w.heap.size w wa) := hba
  have hlen : Sh.ex.2.length = 3 := rfl
  have HEN : Hid (∀ W u, Lists W u Sh.ex.2 → Calls Tryz.prog 8 #[.agg #[.int .i64 0, .int .i64 3, u]] W fun e w' => e = .returned (.tuple #[.string ⟨(Sh.encS Sh.ex).toArray⟩, .int .i64 0]) ∧ Below W.heap.size W w') := fun W u h => by
    have := senc_any Sh.ex u W h ex_fit ⟨⟨by decide, by decide⟩, by decide, by decide⟩
    rwa [Sh.chk_yes Sh.ex_may] at this
  have HSM : Hid (∀ W u v, Lists W u Sh.ex.2 → Lists W v Sh.ex.2 → Calls Tryz.prog 14 #[.agg #[.int .i64 0, .int .i64 3, u], .agg #[.int .i64 0, .int .i64 3, v]] W fun e w' => e = .returned (.bool true) ∧ Below W.heap.size W w') := fun W u v h1 h2 => by
    have := ssame_any Sh.ex Sh.ex u v W h1 h2 (small_of ex_fit) (small_of ex_fit)
    rwa [decide_eq_true rfl] at this
  have hbl : (⟨(Sh.encS Sh.ex).toArray⟩ : ByteArray).size = 17 := by rw [size_of, Sh.ex_enc]; rfl
  have hbx : (⟨(Sh.encS Sh.ex).toArray⟩ : ByteArray).extract 0 13 = ⟨#[115, 104, 0, 3, 2, 18, 2, 1, 0, 0, 1, 1, 3]⟩ := by
    apply text_eq
    rw [extract_take, Sh.ex_enc]
    rfl
  have HDE : Hid (∀ W, Calls Tryz.prog 10 #[.string ⟨(Sh.encS Sh.ex).toArray⟩] W fun e w' => ∃ u, e = .returned (.tuple #[.agg #[.int .i64 0, .int .i64 3, u], .int .i64 0]) ∧ Lists w' u Sh.ex.2 ∧ Below W.heap.size W w') := fun W => by
    refine (sdec_any ⟨(Sh.encS Sh.ex).toArray⟩ W (by omega)).mono ?_
    rintro e w' ⟨u, rfl, hu, hb⟩
    rw [show (⟨(Sh.encS Sh.ex).toArray⟩ : ByteArray).data.toList = Sh.encS Sh.ex from rfl, Sh.ex_dec.1]
    rw [show (⟨(Sh.encS Sh.ex).toArray⟩ : ByteArray).data.toList = Sh.encS Sh.ex from rfl, Sh.ex_dec.2] at hu
    obtain ⟨v, rfl, hv⟩ := hu
    exact ⟨v, rfl, hv, hb⟩
  have HCK : Hid (∀ W u, Lists W u [[0], [], [1]] → Calls Tryz.prog 12 #[.agg #[.int .i64 0, .int .i64 3, u]] W fun e w' => e = .returned (.int .i64 2) ∧ Below W.heap.size W w') := fun W u h => by
    have hf : FitS [[0], [], [1]] := ⟨by decide, fun l hl => by
      have : l = [0] ∨ l = [] ∨ l = [1] := by simpa using hl
      rcases this with rfl | rfl | rfl
      · exact ⟨by decide, fun z hz => by simp at hz; omega⟩
      · exact ⟨by decide, fun z hz => by simp at hz⟩
      · exact ⟨by decide, fun z hz => by simp at hz; omega⟩⟩
    have := schk_any ((0, 3), [[0], [], [1]]) u W h hf ⟨⟨by decide, by decide⟩, by decide, by decide⟩
    rwa [Sh.ex_bad] at this
  have HL1 : Hid (∀ W : World, Lists (((W.alloc (.cells #[.int .i64 1, .int .i64 2] 3)).alloc (.cells #[.int .i64 1] 3)).alloc (.cells #[.slice (some ⟨W.heap.size, 0, none⟩) 2 2, .slice none 0 0, .slice (some ⟨W.heap.size + 1, 0, none⟩) 1 1] 58)) (.slice (some ⟨W.heap.size + 2, 0, none⟩) 3 3) Sh.ex.2) := fun W => lits_lists W [1, 2] _ rfl
  have HL2 : Hid (∀ W : World, Lists (((W.alloc (.cells #[.int .i64 0] 3)).alloc (.cells #[.int .i64 1] 3)).alloc (.cells #[.slice (some ⟨W.heap.size, 0, none⟩) 1 1, .slice none 0 0, .slice (some ⟨W.heap.size + 1, 0, none⟩) 1 1] 58)) (.slice (some ⟨W.heap.size + 2, 0, none⟩) 3 3) [[0], [], [1]]) := fun W => lits_lists W [0] _ rfl
  generalize (⟨(Sh.encS Sh.ex).toArray⟩ : ByteArray) = b at *
  generalize Sh.ex.2 = o at *
  clear hba hE HMK
  go_enter Tryz.func18, Tryz.ntmps18
  go_wp2_with fail
  refine Calls.mono HMK2.out ?_
  rintro e w1 ⟨u, rfl, hl1, hb1⟩
  obtain ⟨ua, uc, rfl, _, _⟩ := id hl1
  rw [hlen] at hl1
  obtain ⟨w2, hw2⟩ : ∃ w2, w1.alloc (.cells #[.int .i64 0, .int .i64 3, .slice ua 3 uc] 26) = w2 := ⟨_, rfl⟩
  have hb12 : Below w1.heap.size w1 w2 := by rw [← hw2]; exact (Below.refl _ w1).alloc (Nat.le_refl _) _
  have HS2 : Hid (w2.heap[w1.heap.size]? = some (.cells #[.int .i64 0, .int .i64 3, .slice ua 3 uc] 26 (0, 0))) := by rw [Hid, ← hw2]; exact heap_alloc_new _ _
  obtain ⟨s0, s1, s2, _, _, _⟩ := three_cells HS2.out
  have HU2 : Hid (Lists w2 (.slice ua 3 uc) o) := hl1.later hb12
  have HB2 : Hid (Below w.heap.size w w2) := bnext (bnext HBA.out hb1) hb12
  have HEN2 : Hid _ := HEN.out w2 _ HU2.out
  clear hl1 hb1 hb12 HMK2 HEN
  go_wp2_with fail
  refine Calls.mono HEN2.out ?_
  rintro e w3 ⟨rfl, hb3⟩
  replace HS2 : Hid _ := blk_later HS2.out hb3
  replace HU2 : Hid (Lists w3 (.slice ua 3 uc) o) := HU2.out.later hb3
  replace HB2 : Hid (Below w.heap.size w w3) := bnext HB2.out hb3
  obtain ⟨s0, s1, s2, _, _, _⟩ := three_cells HS2.out
  have hL3 := HL1.out w3
  obtain ⟨w4, hw4⟩ : ∃ w4, ((w3.alloc (.cells #[.int .i64 1, .int .i64 2] 3)).alloc (.cells #[.int .i64 1] 3)).alloc (.cells #[.slice (some ⟨w3.heap.size, 0, none⟩) 2 2, .slice none 0 0, .slice (some ⟨w3.heap.size + 1, 0, none⟩) 1 1] 58) = w4 := ⟨_, rfl⟩
  rw [hw4] at hL3
  have hb34 : Below w3.heap.size w3 w4 := by rw [← hw4]; exact (((Below.refl _ w3).alloc (Nat.le_refl _) _).alloc (by simp) _).alloc (by simp; omega) _
  have HSM4 : Hid _ := HSM.out w4 _ _ (HU2.out.later hb34) hL3
  replace HS2 : Hid _ := blk_later HS2.out hb34
  replace HU2 : Hid (Lists w4 (.slice ua 3 uc) o) := HU2.out.later hb34
  replace HB2 : Hid (Below w.heap.size w w4) := bnext HB2.out hb34
  clear HEN2 hb3 hb34 hL3 HL1
  go_wp2_with fail
  refine Calls.mono HSM4.out ?_
  rintro e w5 ⟨rfl, hb5⟩
  replace HS2 : Hid _ := blk_later HS2.out hb5
  replace HU2 : Hid (Lists w5 (.slice ua 3 uc) o) := HU2.out.later hb5
  replace HB2 : Hid (Below w.heap.size w w5) := bnext HB2.out hb5
  have HDE5 : Hid _ := HDE.out w5
  clear HSM4 hb5 HDE
  go_wp2_with fail
  refine Calls.mono HDE5.out ?_
  rintro e w6 ⟨v, rfl, hl6, hb6⟩
  obtain ⟨va, vc, rfl, _, _⟩ := id hl6
  rw [hlen] at hl6
  obtain ⟨w7, hw7⟩ : ∃ w7, w6.alloc (.cells #[.int .i64 0, .int .i64 3, .slice va 3 vc] 26) = w7 := ⟨_, rfl⟩
  have hb67 : Below w6.heap.size w6 w7 := by rw [← hw7]; exact (Below.refl _ w6).alloc (Nat.le_refl _) _
  have HT7 : Hid (w7.heap[w6.heap.size]? = some (.cells #[.int .i64 0, .int .i64 3, .slice va 3 vc] 26 (0, 0))) := by rw [Hid, ← hw7]; exact heap_alloc_new _ _
  replace HS2 : Hid _ := blk_later (blk_later HS2.out hb6) hb67
  replace HU2 : Hid (Lists w7 (.slice ua 3 uc) o) := (HU2.out.later hb6).later hb67
  have HV7 : Hid (Lists w7 (.slice va 3 vc) o) := hl6.later hb67
  replace HB2 : Hid (Below w.heap.size w w7) := bnext (bnext HB2.out hb6) hb67
  obtain ⟨s0, s1, s2, _, _, _⟩ := three_cells HS2.out
  obtain ⟨t0, t1, t2, _, _, _⟩ := three_cells HT7.out
  have HSM7 : Hid _ := HSM.out w7 _ _ HV7.out HU2.out
  clear HDE5 hl6 hb6 hb67 HSM
  go_wp2_with fail
  refine Calls.mono HSM7.out ?_
  rintro e w8 ⟨rfl, hb8⟩
  replace HS2 : Hid _ := blk_later HS2.out hb8
  replace HB2 : Hid (Below w.heap.size w w8) := bnext HB2.out hb8
  obtain ⟨s0, s1, s2, _, _, _⟩ := three_cells HS2.out
  have hL8 := HL2.out w8
  obtain ⟨w9, hw9⟩ : ∃ w9, ((w8.alloc (.cells #[.int .i64 0] 3)).alloc (.cells #[.int .i64 1] 3)).alloc (.cells #[.slice (some ⟨w8.heap.size, 0, none⟩) 1 1, .slice none 0 0, .slice (some ⟨w8.heap.size + 1, 0, none⟩) 1 1] 58) = w9 := ⟨_, rfl⟩
  rw [hw9] at hL8
  have hb89 : Below w8.heap.size w8 w9 := by rw [← hw9]; exact (((Below.refl _ w8).alloc (Nat.le_refl _) _).alloc (by simp) _).alloc (by simp; omega) _
  have HCK9 : Hid _ := HCK.out w9 _ hL8
  replace HB2 : Hid (Below w.heap.size w w9) := bnext HB2.out hb89
  clear HSM7 hb8 hL8 hb89 HCK HL2 HV7 HU2 HT7
  go_wp2_with fail
  refine Calls.mono HCK9.out ?_
  rintro e w10 ⟨rfl, hb10⟩
  replace HB2 : Hid (Below w.heap.size w w10) := bnext HB2.out hb10
  clear hb10 HCK9
  go_wp2
  go_ret
  exact ⟨rfl, HB2.out⟩

end Go.Proofs.YtbhngncnhabbkaaGreat

/- What a shard that may be is held to; what Decode tells, case by case. -/
namespace Go.Proofs.YtbhngncnhabbkaaGreat
open Go.RowKit

namespace Sh
theorem may_fit {s : Shard} (h : may s = true) : FitS s.2 ∧ (-9223372036854775808 ≤ s.1.1 ∧ s.1.1 ≤ 9223372036854775807) ∧ (-9223372036854775808 ≤ s.1.2 ∧ s.1.2 ≤ 9223372036854775807) := by
  obtain ⟨h1, h2, h3, h4⟩ := may_iff.1 h
  rw [mayP_iff] at h1
  refine ⟨⟨by omega, fun l hl => ?_⟩, ⟨by omega, by omega⟩, by omega, by omega⟩
  have h5 := many_ge l hl
  obtain ⟨_, h6⟩ := okF_mem h3 l hl
  exact ⟨by omega, fun z hz => by have := h6 z hz; omega⟩
theorem decS_cases (b : List UInt8) : (decE b = 10 ∧ decS b = none_) ∨ ∃ s, may s = true ∧ enc s = b ∧ decE b = 0 ∧ decS b = s := by
  cases h : dec b with
  | none => exact .inl ⟨decE_none h, decS_none h⟩
  | some s => exact .inr ⟨s, (dec_some h).1, (dec_some h).2, decE_some h, decS_some h⟩
theorem encS_enc {s : Shard} (h : may s = true) : encS s = enc s := by unfold encS; rw [if_pos h]
end Sh
theorem none_fit : FitS Sh.none_.2 := ⟨by decide, fun l hl => by simp [Sh.none_] at hl⟩

end Go.Proofs.YtbhngncnhabbkaaGreat
