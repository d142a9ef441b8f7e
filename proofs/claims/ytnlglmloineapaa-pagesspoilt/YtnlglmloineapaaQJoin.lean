/- The walks of pages.mayBePart and pages.Join. -/
import Derived.Test.YtnlglmloineapaaQSplit
import Derived.Test.YtnlglmloineapaaGBuild
namespace Go.Proofs.Ytnlglmloineapaa
open Go.RowKit Go.Shelf

theorem part_any (n i m : Nat) (w : World) (hn : n ≤ 1000) (_hi : i ≤ 1000000000000) (hm : m ≤ 1000000000000) :
    Calls Try.prog 26 #[.int .i64 n, .int .i64 i, .int .i64 m] w fun e w' => e = .returned (.bool (decide (Pg.May n i m))) ∧ w' = w := by
  by_cases h : i + 1 < m
  · have e : decide (Pg.May n i m) = ((n : Int) == 122) := by
      have hm : Pg.May n i m ↔ n = 122 := by unfold Pg.May; rw [if_pos h]
      rw [decide_eq_decide.2 hm]
      by_cases h2 : n = 122
      · subst h2; rfl
      · rw [decide_eq_false h2]; symm; rw [beq_eq_false_iff_ne]; omega
    rw [e]
    clear e
    go_enter Try.func26, Try.ntmps26
    go_wp2
    go_ret
    exact ⟨rfl, rfl⟩
  · have e : decide (Pg.May n i m) = (decide (0 < n) || ((m : Int) == 1)) := by
      have hm : Pg.May n i m ↔ 0 < n ∨ m = 1 := by unfold Pg.May; rw [if_neg h]
      rw [decide_eq_decide.2 hm, Bool.decide_or]
      congr 1
      by_cases h2 : m = 1
      · subst h2; rfl
      · rw [decide_eq_false h2]; symm; rw [beq_eq_false_iff_ne]; omega
    rw [e]
    clear e
    by_cases h0 : 0 < n
    · rw [decide_eq_true h0, Bool.true_or]
      go_enter Try.func26, Try.ntmps26
      go_wp2
      go_ret
      exact ⟨rfl, rfl⟩
    · rw [decide_eq_false h0, Bool.false_or]
      go_enter Try.func26, Try.ntmps26
      go_wp2
      go_ret
      exact ⟨rfl, rfl⟩

/-- Texts as lists of bytes. -/
def lists (l : List ByteArray) : List (List UInt8) := l.map fun s => s.data.toList
theorem lists_length (l : List ByteArray) : (lists l).length = l.length := by simp [lists]
theorem lists_text (l : List (List UInt8)) : lists (l.map text) = l := by
  unfold lists
  rw [List.map_map]
  conv => rhs; rw [← List.map_id l]
  exact List.map_congr_left fun _ _ => rfl
theorem lists_get (l : List ByteArray) (k : Nat) (h : k < l.length) : (lists l)[k]'(by rw [lists_length]; exact h) = (l.getD k ByteArray.empty).data.toList := by
  simp [lists, List.getD, h]
theorem lists_take (l : List ByteArray) (k : Nat) (h : k < l.length) : ((lists l).map Pg.tell).take (k + 1) = ((lists l).map Pg.tell).take k ++ [Pg.tell (l.getD k ByteArray.empty).data.toList] := by
  rw [List.take_add_one]
  simp [lists, List.getD, h]

/-- What the first k pages tell. -/
def told (l : List ByteArray) (k : Nat) : List UInt8 := (((lists l).map Pg.tell).take k).flatten
theorem told_succ (l : List ByteArray) (k : Nat) (h : k < l.length) : told l (k + 1) = told l k ++ Pg.tell (l.getD k ByteArray.empty).data.toList := by
  unfold told
  rw [lists_take l k h, List.flatten_append]; simp
theorem told_all (l : List ByteArray) : told l l.length = ((lists l).map Pg.tell).flatten := by
  unfold told
  rw [List.take_of_length_le (by simp [lists])]

/-- A page, and its place, may be. -/
def Good (l : List ByteArray) (k : Nat) : Prop := Pg.Ok (l.getD k ByteArray.empty).data.toList ∧ Pg.May (Pg.tell (l.getD k ByteArray.empty).data.toList).length k l.length
theorem fits_good (l : List ByteArray) : Pg.Fits (lists l) ↔ l ≠ [] ∧ ∀ k, k < l.length → Good l k := by
  unfold Pg.Fits Good
  have e : lists l ≠ [] ↔ l ≠ [] := by simp [lists]
  rw [e]
  refine and_congr_right fun _ => ⟨fun h k hk => ?_, fun h k hk => ?_⟩
  · have := h k (by rw [lists_length]; exact hk)
    rw [lists_get l k hk, lists_length] at this
    exact this
  · rw [lists_length] at hk
    rw [lists_get l k hk, lists_length]
    exact h k hk

theorem join_none (a : Option Addr) (cap : Nat) (w : World) :
    Calls Try.prog 18 #[.slice a 0 cap] w fun e w' => e = .returned (.tuple #[.string ⟨(Pg.join []).1.toArray⟩, .int .i64 (Pg.join []).2]) ∧ Below w.heap.size w w' := by
  rw [Pg.join_no (fun h => h.1 rfl)]
  go_enter Try.func18, Try.ntmps18
  go_wp2
  go_ret2
  exact ⟨rfl, Below.refl _ _⟩

/-- Where a round of Join's loop begins. -/
structure Joining (w wr : World) (l : List ByteArray) (k : Nat) : Prop where
  wrote : Wrote w.heap.size w.heap.size (told l k) wr
  below : Below w.heap.size w wr
  size : w.heap.size ≤ wr.heap.size
  good : ∀ j, j < k → Good l j
  short : (told l k).length ≤ 122 * k

set_option maxRecDepth 100000 in
set_option maxHeartbeats 2000000 in
theorem join_some (b off cap : Nat) (l : List ByteArray) (w : World) (hne : 0 < l.length) (hl : l.length ≤ 1000000000000) (hz : ∀ s ∈ l, s.size ≤ 9223372036854775807)
    (hc : ∀ j, j < l.length → w.cell? ⟨b, off + j, none⟩ = some (.string (l.getD j ByteArray.empty))) :
    Calls Try.prog 18 #[.slice (some ⟨b, off, none⟩) l.length cap] w fun e w' => e = .returned (.tuple #[.string ⟨(Pg.join (lists l)).1.toArray⟩, .int .i64 (Pg.join (lists l)).2]) ∧ Below w.heap.size w w' := by
  have HC : Hid _ := hc
  have HZ : Hid (∀ k, k < l.length → (l.getD k ByteArray.empty).size ≤ 9223372036854775807) := by
    intro k hk
    rw [List.getD_eq_getElem?_getD, List.getElem?_eq_getElem hk]
    exact hz _ (List.getElem_mem hk)
  have HF : Hid (Pg.Fits (lists l) ↔ ∀ k, k < l.length → Good l k) := by
    show Pg.Fits (lists l) ↔ _
    rw [fits_good]
    exact and_iff_right (List.length_pos_iff.1 hne)
  have hnz : ((l.length : Int) == 0) = false := by rw [beq_eq_false_iff_ne]; omega
  have R0 : Hid (Joining w (w.alloc (.cells #[.pointer none, .slice none 0 0] 47)) l 0) :=
    ⟨Lib.IsBuilderF.of (Lib.fresh_isBuilder 47 5 w), (Below.refl _ w).alloc (Nat.le_refl _) _, by simp, fun j hj => by omega, by simp [told]⟩
  obtain ⟨J, HJ⟩ : ∃ J, Hid (Pg.join (lists l) = J) := ⟨_, rfl⟩
  rw [HJ.out]
  clear hc hz
  go_enter Try.func18, Try.ntmps18
  go_wp2
  go_loopw [14] (fun c wr => ∃ k : Nat, k ≤ l.length ∧ c = .int .i64 k ∧ Hid (Joining w wr l k)) (fun c _ => l.length - (intOf c).toNat)
  case atStart => exact ⟨0, Nat.zero_le _, rfl, R0⟩
  case round =>
    clear R0
    obtain ⟨k, hk, rfl, R⟩ := hrel
    by_cases hlt : k < l.length
    · have hc1 := cell_after (w := w) (by exact R.out.below) (HC.out k hlt)
      have HD : Hid (Calls _ _ _ _ _) := decode_any (l.getD k ByteArray.empty) wr (HZ.out k hlt)
      by_cases hok : Pg.Ok (l.getD k ByteArray.empty).data.toList
      · have hlen := Pg.tell_le hok
        have HT : Hid _ := told_succ l k hlt
        have HG : Hid (Pg.May (Pg.tell (l.getD k ByteArray.empty).data.toList).length k l.length ↔ Good l k) := ⟨fun h => ⟨hok, h⟩, fun h => h.2⟩
        rw [Pg.dec_yes hok] at HD
        clear hok
        generalize l.getD k ByteArray.empty = s at hc1 HD HT HG hlen
        generalize Pg.tell s.data.toList = d at HD HT HG hlen
        have hds : (⟨d.toArray⟩ : ByteArray).size = d.length := rfl
        have HPT := fun W => part_any d.length k l.length W (by omega) (by omega) hl
        by_cases hmay : Pg.May d.length k l.length
        · rw [decide_eq_true hmay] at HPT
          have HGK : Hid (Good l k) := HG.out.1 hmay
          clear hmay HG
          go_wp2_with fail
          refine Calls.mono HD.out ?_
          rintro e w1 ⟨rfl, hb1⟩
          have hw1 := R.out.wrote.later hb1
          have hB1 : Below w.heap.size w w1 := bnext R.out.below hb1
          have HWS : Hid (Calls _ _ _ _ _) := write_str _ _ _ d w1 hw1 (by have := R.out.short; omega) hB1.size
          have HB1 : Hid _ := hB1
          clear hb1 hw1 hB1 HD
          go_wp2_with fail
          refine (HPT _).mono ?_
          rintro e w2 ⟨rfl, rfl⟩
          go_wp2_with fail
          refine Calls.mono HWS.out ?_
          rintro e w3 ⟨⟨u, rfl⟩, hw3, hb3, _⟩
          have R2 : Hid (Joining w w3 l (k + 1)) := by
            refine ⟨by rw [HT.out]; exact hw3, HB1.out.trans hb3, by have := HB1.out.size; have := hb3.size; omega, fun j hj => ?_, ?_⟩
            · by_cases hjk : j = k
              · subst hjk; exact HGK.out
              · exact R.out.good j (by omega)
            · rw [HT.out, List.length_append]; have := R.out.short; omega
          clear hw3 hb3 HWS HB1 HT HGK
          go_wp2
          go_roundw
          case rel => exact ⟨k + 1, by omega, by go_num, R2⟩
          case measure => simp [intOf]; omega
        · rw [decide_eq_false hmay] at HPT
          have HX : Hid (J = ([], 50)) := by
            show J = _
            rw [← HJ.out]
            exact Pg.join_no fun h => hmay (HG.out.2 (HF.out.1 h k hlt))
          clear hmay HG HT
          go_wp2_with fail
          refine Calls.mono HD.out ?_
          rintro e w1 ⟨rfl, hb1⟩
          have HB1 : Hid (Below w.heap.size w w1) := bnext R.out.below hb1
          clear hb1 HD
          go_wp2_with fail
          refine (HPT _).mono ?_
          rintro e w2 ⟨rfl, rfl⟩
          go_wp2
          go_ret2
          exact ⟨by rw [HX.out]; rfl, HB1.out⟩
      · have HX : Hid (J = ([], 50)) := by
          show J = _
          rw [← HJ.out]
          exact Pg.join_no fun h => hok (HF.out.1 h k hlt).1
        rw [Pg.dec_no hok] at HD
        clear hok
        generalize l.getD k ByteArray.empty = s at hc1 HD
        go_wp2_with fail
        refine Calls.mono HD.out ?_
        rintro e w1 ⟨rfl, hb1⟩
        have HB1 : Hid (Below w.heap.size w w1) := bnext R.out.below hb1
        clear hb1 HD
        go_wp2
        go_ret2
        exact ⟨by rw [HX.out]; rfl, HB1.out⟩
    · obtain rfl : k = l.length := by omega
      have HX : Hid (J = (told l l.length, 0)) := by
        show J = _
        rw [← HJ.out, told_all]
        exact Pg.join_yes (HF.out.2 R.out.good)
      have HST : Hid (Calls _ _ _ _ _) := string_any _ _ _ wr R.out.wrote R.out.size
      go_wp2_with fail
      refine Calls.mono HST.out ?_
      rintro e w4 ⟨rfl, hb4, _⟩
      have HB : Hid (Below w.heap.size w w4) := R.out.below.trans hb4
      clear hb4 HST
      go_wp2
      go_ret2
      exact ⟨by rw [HX.out]; rfl, HB.out⟩

theorem join_any (v : Value) (l : List ByteArray) (w : World) (h : Strs w v l) (hl : l.length ≤ 1000000000000) (hz : ∀ s ∈ l, s.size ≤ 9223372036854775807) :
    Calls Try.prog 18 #[v] w fun e w' => e = .returned (.tuple #[.string ⟨(Pg.join (lists l)).1.toArray⟩, .int .i64 (Pg.join (lists l)).2]) ∧ Below w.heap.size w w' := by
  obtain ⟨a, cap, rfl, _, h⟩ := h
  by_cases h0 : l = []
  · subst h0
    exact join_none a cap w
  · rcases h with rfl | ⟨b, off, rfl, hc⟩
    · exact absurd rfl h0
    · exact join_some b off cap l w (List.length_pos_iff.2 h0) hl hz hc

end Go.Proofs.Ytnlglmloineapaa
