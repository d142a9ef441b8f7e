/- The walks of the lists of ends and of parts, and of what seals texts. -/
import Derived.Test.YtmekaofjcjmklaaMJoin
namespace Go.Proofs.Ytmekaofjcjmklaa
open Go.RowKit

namespace Mf
/-- So many numbers, of which k are laid. -/
def laid (l : List Int) (k : Nat) : List Int := l.take k ++ List.replicate (l.length - k) 0
theorem laid_len (l : List Int) (k : Nat) (h : k ≤ l.length) : (laid l k).length = l.length := by simp [laid]; omega
theorem laid_set (l : List Int) (k : Nat) (h : k < l.length) : (laid l k).set k (l.getD k 0) = laid l (k + 1) := by
  have e : l.length - k = (l.length - (k + 1)) + 1 := by omega
  have ht : l.take (k + 1) = l.take k ++ [l.getD k 0] := by
    rw [List.take_add_one, List.getElem?_eq_getElem h]
    simp [List.getD, h]
  unfold laid
  rw [e, List.replicate_succ, ht, List.set_append_right _ _ (by simp; omega)]
  have : k - (l.take k).length = 0 := by simp; omega
  rw [this]
  simp
theorem laid_all (l : List Int) : laid l l.length = l := by simp [laid]
theorem laid_none (l : List Int) : laid l 0 = List.replicate l.length 0 := by simp [laid]
end Mf

set_option maxHeartbeats 400000 in
set_option maxRecDepth 100000 in
theorem endsOf_any (v : Value) (l : List (Int × Int)) (w : World) (h : Prt w v l) (hl : l.length ≤ 1000000) :
    Calls Try.prog 17 #[v] w fun e w' => ∃ u, e = .returned u ∧ Ints w' u (Mf.ends l) ∧ Below w.heap.size w w' := by
  obtain ⟨i0, hi, hz0, hz1, hz2⟩ := info_parts Try.intInfo
  have HP : Hid (Prt w v l) := h
  obtain ⟨a, cap, rfl, hcap, hh⟩ := id h
  have HL : Hid ((Mf.ends l).length = l.length) := Mf.ends_len l
  have HE : Hid (∀ k, k < l.length → (Mf.ends l).getD k 0 = (l.getD k p0).2) := fun k hk => Mf.ends_getD hk
  have HH : Hid _ := hh
  clear h hh
  generalize Mf.ends l = E at *
  go_enter Try.func17, Try.ntmps17
  go_wp2_with (at_make; refine wpList_make_full _ rfl _ _ 44 rfl w.heap.size 3 i0 (.int .i64 0) 1 Try.underlying44 hi hz0 hz1 _ _ _ _ l.length rfl rfl rfl rfl ?b2 ?b3 ?b4 ?_)
  case b2 => rw [hz2]; omega
  case b3 => unfold maxLen; omega
  case b4 => omega
  intro w1 hown hgrow
  have e : (madeCells #[Value.int .i64 0] l.length).toList = (Mf.laid E 0).map (Value.int .i64) := by
    rw [Mf.laid_none, HL.out, List.map_replicate]; exact toList_madeCells_one _ _
  rw [e] at hown
  have R0 : Hid (w1.ownsRow w.heap.size 3 1 (.slice (some ⟨w.heap.size, 0, none⟩) l.length l.length) l.length ((Mf.laid E 0).map (Value.int .i64)) ∧ Below w.heap.size w w1) := ⟨hown, (Below.refl _ _).grown hgrow (Nat.le_refl _) (by simp)⟩
  clear hgrow hi hz0 hz1 hz2 hown e
  go_wp2
  go_loopw [11] (fun c wr => ∃ k : Nat, k ≤ l.length ∧ c = .int .i64 k ∧ Hid (wr.ownsRow w.heap.size 3 1 (.slice (some ⟨w.heap.size, 0, none⟩) l.length l.length) l.length ((Mf.laid E k).map (Value.int .i64)) ∧ Below w.heap.size w wr)) (fun c _ => l.length - (intOf c).toNat)
  case atStart => exact ⟨0, by omega, rfl, R0⟩
  case round =>
    clear R0
    obtain ⟨k, hk, rfl, R⟩ := hrel
    by_cases hlt : k < l.length
    · rcases HH.out with h0 | ⟨b, off, rfl, hcell⟩
      · exact absurd hlt (by rw [h0]; simp)
      · obtain ⟨g1, g2⟩ := hcell k hlt
        obtain ⟨wq, hwq⟩ : ∃ wq, wr.alloc (.cells #[.int .i64 (l.getD k p0).1, .int .i64 (l.getD k p0).2] 49) = wq := ⟨_, rfl⟩
        have hbq : Below wr.heap.size wr wq := by rw [← hwq]; exact (Below.refl _ wr).alloc (Nat.le_refl _) _
        have q1 : wq.cell? ⟨wr.heap.size, 1, none⟩ = some (.int .i64 (l.getD k p0).2) := by rw [← hwq]; simp
        have RO : Hid (wq.ownsRow w.heap.size 3 1 (.slice (some ⟨w.heap.size, 0, none⟩) l.length l.length) l.length ((Mf.laid E k).map (Value.int .i64))) := own_later R.out.1 hbq
        have RB : Hid (Below w.heap.size w wq) := R.out.2.trans (hbq.mono R.out.2.size)
        have e1 := cell_after R.out.2 g1
        have e2 := cell_after R.out.2 g2
        have c1 : wq.cell? ⟨w.heap.size, k, none⟩ = some (.int .i64 ((Mf.laid E k).getD k 0)) := by
          rw [RO.out.cellAt k (by omega), List.getElem?_map, List.getElem?_eq_getElem (by rw [Mf.laid_len E k (by rw [HL.out]; omega), HL.out]; exact hlt)]
          simp [List.getD, Mf.laid_len E k (show k ≤ E.length by rw [HL.out]; omega), HL.out, hlt]
        have f1 := RO.out.frozenAt k
        have hs := (RO.out.stored k (.int .i64 (l.getD k p0).2)).1
        rw [← List.map_set, ← HE.out k hlt, Mf.laid_set E k (by rw [HL.out]; exact hlt), HE.out k hlt] at hs
        have R2 : Hid (_ ∧ Below w.heap.size w (wq.setCell ⟨w.heap.size, k, none⟩ (.int .i64 (l.getD k p0).2))) := ⟨hs, RB.out.setCell (Nat.le_refl _) _⟩
        clear hs R RO RB hbq g1 g2 hcell HP HH HE
        generalize (Mf.laid E k).getD k 0 = z at *
        generalize l.getD k p0 = x at *
        go_wp2
        go_roundw
        case rel => exact ⟨k + 1, by omega, by go_num, R2⟩
        case measure => simp [intOf]; omega
    · obtain rfl : k = l.length := by omega
      rw [← HL.out, Mf.laid_all, HL.out] at R
      have HI : Hid (Ints wr (.slice (some ⟨w.heap.size, 0, none⟩) l.length l.length) E) := Ints.of_own R.out.1
      go_wp2
      go_ret
      exact ⟨_, rfl, HI.out, R.out.2⟩

set_option maxHeartbeats 400000 in
set_option maxRecDepth 100000 in
theorem partsTo_any (v : Value) (l : List Int) (w : World) (h : Ints w v l) (hl : l.length ≤ 1000000000000) :
    Calls Try.prog 41 #[v] w fun e w' => ∃ u, e = .returned u ∧ w'.ownsRow w.heap.size 49 2 u l.length (pcells (Mf.fro 0 l)) ∧ Below w.heap.size w w' := by
  obtain ⟨i0, hi0, hz0, hz1, hz2⟩ := info_parts Try.partInfo
  obtain ⟨a, cap, rfl, hh⟩ := id h
  have HH : Hid _ := hh
  have HL : Hid ((Mf.fro 0 l).length = l.length) := Mf.fro_len 0 l
  have HG : Hid (∀ k, k < l.length → (Mf.fro 0 l).getD k p0 = (Mf.lst 0 (l.take k), l.getD k 0)) := fun k hk => Mf.fro_getD hk
  have HN : Hid (∀ k, k < l.length → Mf.lst 0 (l.take (k + 1)) = l.getD k 0) := fun k hk => (Mf.lst_take hk).1
  clear h hh
  generalize Mf.fro 0 l = F at *
  go_enter Try.func41, Try.ntmps41
  go_wp2_with (at_make; refine wpList_make_full _ rfl _ _ 22 rfl w.heap.size 49 i0 (.agg #[.int .i64 0, .int .i64 0]) 2 Try.underlying22 hi0 hz0 hz1 _ _ _ _ l.length rfl rfl rfl rfl ?b2 ?b3 ?b4 ?_)
  case b2 => rw [hz2]; omega
  case b3 => unfold maxLen; omega
  case b4 => exact Nat.le_refl _
  intro w1 hown1 hgrow1
  rw [made_parts] at hown1
  have HO1 : Hid (w1.ownsRow w.heap.size 49 2 (.slice (some ⟨w.heap.size, 0, none⟩) l.length l.length) l.length (pcells (half F 0))) := by
    have e : half F 0 = List.replicate l.length (0, 0) := by simp [half, HL.out]
    rw [Hid, e]; exact hown1
  have HB1 : Hid (Below w.heap.size w w1) := (Below.refl _ _).grown hgrow1 (Nat.le_refl _) (by simp)
  clear hown1 hgrow1
  go_wp2
  go_loopw [4, 12] (fun f i wr => ∃ k : Nat, k ≤ l.length ∧ i = .int .i64 k ∧ f = .int .i64 (Mf.lst 0 (l.take k)) ∧ Hid (wr.ownsRow w.heap.size 49 2 (.slice (some ⟨w.heap.size, 0, none⟩) l.length l.length) l.length (pcells (half F k))) ∧ Hid (Below w.heap.size w wr)) (fun _ i _ => l.length - (intOf i).toNat)
  case atStart => exact ⟨0, Nat.zero_le _, rfl, rfl, HO1, HB1⟩
  case round =>
    obtain ⟨k, hk, rfl, rfl, HO, HB⟩ := hrel
    by_cases hlt : k < l.length
    · rcases HH.out with h0 | ⟨b, off, rfl, _, hcell⟩
      · exact absurd hlt (by rw [h0]; simp)
      · have g1 := cell_after HB.out (hcell k hlt)
        have HNX : Hid (Mf.lst 0 (l.take (k + 1)) = l.getD k 0) := HN.out k hlt
        have hgk := HG.out k hlt
        have HS : Hid ((half F k).set k (F.getD k p0) = half F (k + 1)) := half_set F k (by rw [HL.out]; exact hlt)
        rw [hgk] at HS
        obtain ⟨c5, c6, f5, f6⟩ := own_at HO.out (by rw [half_len F k (by rw [HL.out]; exact hk)]; exact HL.out) hlt
        clear hcell hgk
        generalize l.getD k 0 = z at *
        generalize Mf.lst 0 (l.take k) = y at *
        have hpw := own_put HO.out k (y, z)
        rw [HS.out] at hpw
        have HO2 : Hid (((wr.setCell ⟨w.heap.size, k * 2, none⟩ (.int .i64 y)).setCell ⟨w.heap.size, k * 2 + 1, none⟩ (.int .i64 z)).ownsRow w.heap.size 49 2 (.slice (some ⟨w.heap.size, 0, none⟩) l.length l.length) l.length (pcells (half F (k + 1)))) := hpw.1
        have HB2 : Hid (Below w.heap.size w ((wr.setCell ⟨w.heap.size, k * 2, none⟩ (.int .i64 y)).setCell ⟨w.heap.size, k * 2 + 1, none⟩ (.int .i64 z))) := HB.out.grown hpw.2 HB.out.size (fun q e => by cases e; exact Nat.le_refl _)
        clear hpw HO HB HS
        generalize (half F k).getD k p0 = old at *
        go_wp2
        go_roundw
        case rel => exact ⟨k + 1, by omega, by go_num, by rw [HNX.out], HO2, HB2⟩
        case measure => simp [intOf]; omega
    · obtain rfl : k = l.length := by omega
      have h := HO.out
      rw [show half F l.length = F by have := half_all F; rwa [HL.out] at this] at h
      have HP : Hid _ := h
      clear h HO HN
      go_wp2
      go_ret
      exact ⟨_, rfl, HP.out, HB.out⟩

set_option maxHeartbeats 400000 in
set_option maxRecDepth 100000 in
theorem sealed_any (b c n : Nat) (xs : List ByteArray) (w : World) (hcells : ∀ (j : Nat) x, xs[j]? = some x → w.cell? ⟨b, j, none⟩ = some (.string x)) (hb : b < w.heap.size) (hn : xs.length = n) (hN : n ≤ 1000) (hcap : n ≤ c) (l : List UInt8) (hl : (xs.map (·.data.toList)).flatten = l) (hlen : l.length ≤ 100000000) :
    Calls Try.prog 18 #[.slice (some ⟨b, 0, none⟩) n c] w fun e w' => e = .returned (.string ⟨(Mf.sealB l).toArray⟩) ∧ Below w.heap.size w w' := by
  subst hn
  have HJ := join_any b 0 c xs w (fun j x hx => by rw [Nat.zero_add]; exact hcells j x hx) hb (by omega) hcap l hl (by omega)
  have hz : (⟨l.toArray⟩ : ByteArray).size = l.length := by show l.toArray.size = _; simp
  have HS : Hid (∀ w, Calls Try.prog 34 #[.string ⟨l.toArray⟩] w fun e w' => e = .returned (.int .u32 (Cr.sum l)) ∧ w' = w) := fun w => sum_any ⟨l.toArray⟩ w (by omega)
  have hlt := Cr.sum_lt l
  have HF : Hid (Mf.sealB l = l ++ Cr.four (Cr.sum l)) := rfl
  have HE : Hid ((⟨(Mf.sealB l).toArray⟩ : ByteArray) = ⟨l.toArray⟩ ++ ⟨(Cr.four (Cr.sum l)).toArray⟩) := by
    rw [Hid, HF.out]
    apply ByteArray.ext
    apply Array.ext'
    simp
  generalize xs.length = n at *
  rw [HE.out]
  replace HJ : Hid _ := HJ
  clear HF HE hcells hl
  generalize Cr.sum l = s at *
  have HC : Hid (∀ W : World, _) := fun W => conv_four W s hlt
  have hz4 : (⟨(Cr.four s).toArray⟩ : ByteArray).size = 4 := rfl
  generalize (⟨(Cr.four s).toArray⟩ : ByteArray) = f at *
  generalize (⟨l.toArray⟩ : ByteArray) = A at *
  go_enter Try.func18, Try.ntmps18
  go_wp2_with fail
  refine Calls.mono HJ.out ?_
  rintro e w1 ⟨rfl, hb1⟩
  clear HJ
  go_wp2_with fail
  refine Calls.mono (HS.out _) ?_
  rintro e w2 ⟨rfl, rfl⟩
  clear HS
  have hc := HC.out w2
  clear HC
  have hb : Hid (Below w.heap.size w (w2.alloc (.cells #[.int .u8 ((s : Int) % 256), .int .u8 ((s : Int) / 256 % 256), .int .u8 ((s : Int) / 65536 % 256), .int .u8 ((s : Int) / 16777216)] 5))) := hb1.alloc hb1.size _
  go_wp2
  go_ret
  exact ⟨rfl, hb.out⟩

end Go.Proofs.Ytmekaofjcjmklaa
