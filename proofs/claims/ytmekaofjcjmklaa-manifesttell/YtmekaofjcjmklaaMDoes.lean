/- The walk of the statements' helper does: the chapter's graph. -/
import Derived.Test.YtmekaofjcjmklaaMDec2
namespace Go.Proofs.Ytmekaofjcjmklaa
open Go.RowKit

namespace Mf
def exL : List (Int × Int) := [(0, 4), (4, 10)]
def ex : Graph := ((10, 300), exL)
theorem ex_chk : chk ex = 0 := by decide +kernel
theorem ex_many : chk ((10, 4097), exL) = 2 := by decide +kernel
theorem ex_one : chk ((10, 300), [(0, 4)]) = 2 := by decide +kernel
theorem ex_raw : raw ex = [99, 97, 114, 10, 172, 2, 2, 4, 5] := by decide +kernel
theorem ex_enc : enc ex = [99, 97, 114, 10, 172, 2, 2, 4, 5] ++ Cr.four (Cr.sum (raw ex)) := by
  unfold enc sealB
  rw [ex_raw]
theorem ex_dec : decE (enc ex) = 0 ∧ decS (enc ex) = ex := told_yes (dec_enc ex_chk)
end Mf

/-- Encode of a graph that may be. -/
theorem menc_yes {g : Mf.Graph} (hg : Mf.chk g = 0) {b : ByteArray} (hb : (⟨(Mf.enc g).toArray⟩ : ByteArray) = b) (W : World) (u : Value) (h : Prt W u g.2) :
    Calls Try.prog 7 #[.agg (gcells g u)] W fun e w' => e = .returned (.tuple #[.string b, .int .i64 0]) ∧ Below W.heap.size W w' := by
  have := menc_any g u W h (by have := (Mf.chk_iff.1 hg).2.2.1; omega)
  rwa [Mf.encS_yes hg, hg, hb] at this
/-- Decode of its bytes. -/
theorem mdec_yes {g : Mf.Graph} (hg : Mf.chk g = 0) {b : ByteArray} (hb : (⟨(Mf.enc g).toArray⟩ : ByteArray) = b) (W : World) :
    Calls Try.prog 9 #[.string b] W fun e w' => ∃ v, e = .returned (.tuple #[.agg (gcells g v), .int .i64 0]) ∧ Prt w' v g.2 ∧ Below W.heap.size W w' := by
  subst hb
  refine (mdec_any ⟨(Mf.enc g).toArray⟩ W (by rw [size_of]; have := Mf.enc_size hg; omega)).mono ?_
  rintro e w' ⟨u, rfl, hu, -, hbl⟩
  rw [show (⟨(Mf.enc g).toArray⟩ : ByteArray).data.toList = Mf.enc g from rfl] at hu ⊢
  obtain ⟨h1, h2⟩ := Mf.told_yes (Mf.dec_enc hg)
  rw [h2] at hu
  rw [h1, h2]
  exact ⟨u, rfl, hu.prt, hbl⟩
/-- Same of one graph. -/
theorem msame_yes {g : Mf.Graph} (W : World) (u v : Value) (hu : Prt W u g.2) (hv : Prt W v g.2) (hl : g.2.length ≤ 1000000000000) :
    Calls Try.prog 13 #[.agg (gcells g u), .agg (gcells g v)] W fun e w' => e = .returned (.bool true) ∧ Below W.heap.size W w' := by
  have := msame_any g g u v W hu hv hl hl
  rwa [decide_eq_true rfl] at this

set_option maxHeartbeats 2000000 in
set_option maxRecDepth 100000 in
theorem mdoes_any (w : World) : Calls Try.prog 14 #[] w fun e w' => e = .returned (.bool true) ∧ Below w.heap.size w w' := by
  obtain ⟨wa, hwa⟩ : ∃ wa, w.alloc (.cells #[.int .i64 0, .int .i64 4, .int .i64 4, .int .i64 10] 49) = wa := ⟨_, rfl⟩
  obtain ⟨wb, hwb⟩ : ∃ wb, wa.alloc (.cells #[.int .i64 10, .int .i64 300, .slice (some ⟨w.heap.size, 0, none⟩) 2 2] 24) = wb := ⟨_, rfl⟩
  have hba : Below w.heap.size w wa := by rw [← hwa]; exact (Below.refl _ w).alloc (Nat.le_refl _) _
  have hab : Below wa.heap.size wa wb := by rw [← hwb]; exact (Below.refl _ wa).alloc (Nat.le_refl _) _
  have hP : Prt wa (.slice (some ⟨w.heap.size, 0, none⟩) 2 2) Mf.exL := by
    rw [← hwa]; exact prt_new w Mf.exL _ 2 rfl rfl (by decide)
  have hQ : Prt wa (.slice (some ⟨w.heap.size, 0, none⟩) 1 2) [(0, 4)] := by
    refine ⟨_, 2, rfl, by decide, .inr ⟨_, 0, rfl, fun j hj => ?_⟩⟩
    rw [← hwa]
    match j, hj with
    | 0, _ => exact ⟨cell_new _ _ _ _ _ rfl, cell_new _ _ _ _ _ rfl⟩
  have HP : Hid (Prt wb (.slice (some ⟨w.heap.size, 0, none⟩) 2 2) Mf.exL) := hP.later hab
  have HQ : Hid (Prt wb (.slice (some ⟨w.heap.size, 0, none⟩) 1 2) [(0, 4)]) := hQ.later hab
  have HB : Hid (Below w.heap.size w wb) := bnext hba hab
  have HG : Hid (GBlk wb wa.heap.size 10 300 (.slice (some ⟨w.heap.size, 0, none⟩) 2 2)) := by rw [Hid, ← hwb]; exact heap_alloc_new _ _
  have hbl : (⟨(Mf.enc Mf.ex).toArray⟩ : ByteArray).size = 13 := by rw [size_of, Mf.ex_enc]; rfl
  have hbx : (⟨(Mf.enc Mf.ex).toArray⟩ : ByteArray).extract 0 9 = ⟨#[99, 97, 114, 10, 172, 2, 2, 4, 5]⟩ := by
    apply text_eq
    rw [extract_take, Mf.ex_enc]
    rfl
  obtain ⟨b, hb⟩ : ∃ b, (⟨(Mf.enc Mf.ex).toArray⟩ : ByteArray) = b := ⟨_, rfl⟩
  have HEN : Hid (∀ W u, Prt W u Mf.exL → Calls Try.prog 7 #[.agg #[.int .i64 10, .int .i64 300, u]] W fun e w' => e = .returned (.tuple #[.string b, .int .i64 0]) ∧ Below W.heap.size W w') := fun W u h => menc_yes Mf.ex_chk hb W u h
  have HDE : Hid (∀ W, Calls Try.prog 9 #[.string b] W fun e w' => ∃ u, e = .returned (.tuple #[.agg #[.int .i64 10, .int .i64 300, u], .int .i64 0]) ∧ Prt w' u Mf.exL ∧ Below W.heap.size W w') := fun W => mdec_yes Mf.ex_chk hb W
  have HSM : Hid (∀ W u v, Prt W u Mf.exL → Prt W v Mf.exL → Calls Try.prog 13 #[.agg #[.int .i64 10, .int .i64 300, u], .agg #[.int .i64 10, .int .i64 300, v]] W fun e w' => e = .returned (.bool true) ∧ Below W.heap.size W w') := fun W u v h1 h2 => msame_yes (g := Mf.ex) W u v h1 h2 (by decide)
  have HC1 : Hid (∀ W u, Prt W u Mf.exL → Calls Try.prog 11 #[.agg #[.int .i64 10, .int .i64 4097, u]] W fun e w' => e = .returned (.int .i64 2) ∧ Below W.heap.size W w') := fun W u h => by
    have := mchk_any ((10, 4097), Mf.exL) u W h (by decide)
    rwa [Mf.ex_many] at this
  have HC2 : Hid (∀ W u, Prt W u [(0, 4)] → Calls Try.prog 11 #[.agg #[.int .i64 10, .int .i64 300, u]] W fun e w' => e = .returned (.int .i64 2) ∧ Below W.heap.size W w') := fun W u h => by
    have := mchk_any ((10, 300), [(0, 4)]) u W h (by decide)
    rwa [Mf.ex_one] at this
  rw [hb] at hbl hbx
  have hlen : Mf.exL.length = 2 := rfl
  have HEN1 : Hid _ := HEN.out wb _ HP.out
  generalize Mf.exL = o at *
  obtain ⟨s0, s1, s2, _, _, _⟩ := three_cells HG.out
  clear hba hab hP hQ hb HEN
  go_enter Try.func14, Try.ntmps14
  go_wp2_with fail
  refine Calls.mono HEN1.out ?_
  rintro e w1 ⟨rfl, hb1⟩
  replace HG : Hid _ := blk_later HG.out hb1
  replace HP : Hid (Prt w1 _ o) := HP.out.later hb1
  replace HQ : Hid (Prt w1 _ [(0, 4)]) := HQ.out.later hb1
  replace HB : Hid (Below w.heap.size w w1) := bnext HB.out hb1
  have HDE1 : Hid _ := HDE.out w1
  clear hb1 HEN1 HDE hwa hwb s0 s1 s2
  go_wp2_with fail
  refine Calls.mono HDE1.out ?_
  rintro e w2 ⟨v, rfl, hv, hb2⟩
  obtain ⟨va, vc, rfl, _, _⟩ := id hv
  rw [hlen] at hv
  obtain ⟨w3, hw3⟩ : ∃ w3, w2.alloc (.cells #[.int .i64 10, .int .i64 300, .slice va 2 vc] 24) = w3 := ⟨_, rfl⟩
  have hb23 : Below w2.heap.size w2 w3 := by rw [← hw3]; exact (Below.refl _ w2).alloc (Nat.le_refl _) _
  have HT3 : Hid (GBlk w3 w2.heap.size 10 300 (.slice va 2 vc)) := by rw [Hid, ← hw3]; exact heap_alloc_new _ _
  replace HG : Hid _ := blk_later (blk_later HG.out hb2) hb23
  replace HP : Hid (Prt w3 _ o) := (HP.out.later hb2).later hb23
  replace HQ : Hid (Prt w3 _ [(0, 4)]) := (HQ.out.later hb2).later hb23
  replace HB : Hid (Below w.heap.size w w3) := bnext HB.out (bnext hb2 hb23)
  have HV3 : Hid (Prt w3 (.slice va 2 vc) o) := hv.later hb23
  obtain ⟨s0, s1, s2, _, _, _⟩ := three_cells HG.out
  obtain ⟨t0, t1, t2, _, _, _⟩ := three_cells HT3.out
  have HSM3 : Hid _ := HSM.out w3 _ _ HV3.out HP.out
  clear HDE1 hv hb2 hb23 HSM
  go_wp2_with fail
  refine Calls.mono HSM3.out ?_
  rintro e w4 ⟨rfl, hb4⟩
  replace HG : Hid _ := blk_later HG.out hb4
  replace HP : Hid (Prt w4 _ o) := HP.out.later hb4
  replace HQ : Hid (Prt w4 _ [(0, 4)]) := HQ.out.later hb4
  replace HB : Hid (Below w.heap.size w w4) := bnext HB.out hb4
  have HC1' : Hid _ := HC1.out w4 _ HP.out
  obtain ⟨s0, s1, s2, _, _, _⟩ := three_cells HG.out
  clear HSM3 hb4 HC1 HV3 HT3 t0 t1 t2 hw3
  go_wp2_with fail
  refine Calls.mono HC1'.out ?_
  rintro e w5 ⟨rfl, hb5⟩
  replace HG : Hid _ := blk_later HG.out hb5
  replace HQ : Hid (Prt w5 _ [(0, 4)]) := HQ.out.later hb5
  replace HB : Hid (Below w.heap.size w w5) := bnext HB.out hb5
  have HC2' : Hid _ := HC2.out w5 _ HQ.out
  obtain ⟨s0, s1, s2, _, _, _⟩ := three_cells HG.out
  clear HC1' hb5 HC2 HP
  go_wp2_with fail
  refine Calls.mono HC2'.out ?_
  rintro e w6 ⟨rfl, hb6⟩
  replace HB : Hid (Below w.heap.size w w6) := bnext HB.out hb6
  clear HC2' hb6 HG HQ
  go_wp2
  go_ret
  exact ⟨rfl, HB.out⟩

end Go.Proofs.Ytmekaofjcjmklaa
