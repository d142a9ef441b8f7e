/- Slices of strings: what they hold; the walks of the statements' helpers Texts and Great. -/
import Derived.Test.YtnlglmloineapaaSFrame
import Derived.Test.YtnlglmloineapaaQMath
import Derived.SliceStrings
import Derived.BigQuiet
import Derived.Maps.AppendAt
namespace Go.Proofs.Ytnlglmloineapaa
open Go.ChangeShapes Go.WideShapes Go.ChangeAt Go.RowKit

/-- A slice of strings that came in. -/
def IsStrs (w : World) (a : Option Addr) (len cap : Nat) (zs : List ByteArray) : Prop :=
  (a = none ∧ len = 0 ∧ cap = 0 ∧ zs = []) ∨
  ∃ x, a = some x ∧ len ≤ cap ∧ cap ≤ maxLen ∧ zs.length = cap ∧ (∀ i, i < zs.length → w.cell? (x.add i) = some (.string (zs.getD i ByteArray.empty))) ∧ ∀ s ∈ zs, s.size ≤ maxLen

/-- The slice v holds the strings l. -/
def Strs (W : World) (v : Value) (l : List ByteArray) : Prop :=
  ∃ a cap, v = .slice a l.length cap ∧ l.length ≤ cap ∧ (l = [] ∨ ∃ b off, a = some ⟨b, off, none⟩ ∧ ∀ j, j < l.length → W.cell? ⟨b, off + j, none⟩ = some (.string (l.getD j ByteArray.empty)))

theorem getD_take (l : List ByteArray) (n j : Nat) (h : j < n) : (l.take n).getD j ByteArray.empty = l.getD j ByteArray.empty := by
  simp [List.getD, h]

theorem strs_at {w : World} {a : Addr} {zs : List ByteArray} (h : ∀ i, i < zs.length → w.cell? (a.add i) = some (.string (zs.getD i ByteArray.empty))) (hp : 0 < zs.length) :
    ∃ b off, a = ⟨b, off, none⟩ ∧ ∀ j, j < zs.length → w.cell? ⟨b, off + j, none⟩ = some (.string (zs.getD j ByteArray.empty)) := by
  obtain ⟨b, off, spot⟩ := a
  have hspot : spot = none := by simpa [Addr.add] using World.cell?_spot (h 0 hp)
  subst hspot
  exact ⟨b, off, rfl, fun j hj => by rw [← Go.WideShapes.add_plain]; exact h j hj⟩

theorem strs_of_row {w : World} {a : Option Addr} {len cap : Nat} {zs : List ByteArray} (h : IsStrs w a len cap zs) : ∃ l, len = l.length ∧ l.length ≤ maxLen ∧ Strs w (.slice a len cap) l ∧ ∀ s ∈ l, s.size ≤ maxLen := by
  rcases h with ⟨rfl, rfl, rfl, rfl⟩ | ⟨x, rfl, h1, h2, h3, h4, h5⟩
  · exact ⟨[], rfl, Nat.zero_le _, ⟨none, 0, rfl, Nat.le_refl _, .inl rfl⟩, fun z hz => by simp at hz⟩
  · have hlen : (zs.take len).length = len := by rw [List.length_take]; omega
    refine ⟨zs.take len, hlen.symm, by omega, ?_, fun s hs => h5 s (List.mem_of_mem_take hs)⟩
    refine ⟨some x, cap, by rw [hlen], by omega, ?_⟩
    by_cases h0 : len = 0
    · left; rw [h0]; rfl
    · obtain ⟨b, off, rfl, hc⟩ := strs_at h4 (by omega)
      refine .inr ⟨b, off, rfl, fun j hj => ?_⟩
      rw [hlen] at hj
      rw [getD_take _ _ _ hj]
      exact hc j (by omega)

theorem cell_after {w w' : World} {p : Addr} {v : Value} (hb : Below w.heap.size w w') (h : w.cell? p = some v) : w'.cell? p = some v := by
  rw [hb.cell (World.block_lt_of_cell? _ _ h)]; exact h

theorem Strs.later {w w' : World} {v : Value} {l : List ByteArray} (h : Strs w v l) (hb : Below w.heap.size w w') : Strs w' v l := by
  obtain ⟨a, cap, rfl, hcap, h⟩ := h
  refine ⟨a, cap, rfl, hcap, ?_⟩
  rcases h with h | ⟨b, off, rfl, hc⟩
  · exact .inl h
  · exact .inr ⟨b, off, rfl, fun j hj => cell_after hb (hc j hj)⟩

theorem strs_none (W : World) : Strs W (.slice none 0 0) [] := ⟨none, 0, rfl, Nat.le_refl _, .inl rfl⟩

/-- Strings as cells. -/
def scells (l : List ByteArray) : List Value := l.map Value.string

theorem scells_get (l : List ByteArray) (j : Nat) (h : j < l.length) : (scells l)[j]? = some (.string (l.getD j ByteArray.empty)) := by
  simp [scells, List.getD, h]

theorem Strs.of_own {w : World} {base n : Nat} {v : Value} {l : List ByteArray} (h : w.ownsRow base 9 1 v n (scells l)) : Strs w v l := by
  have hcell := fun g hg => h.cells (g := g) hg
  have hn : l.length = n := by have := h.1; simpa [scells] using this
  rcases h.2 with ⟨rfl, h0⟩ | ⟨g, cap, cur, rfl, _, _, hcap, _⟩
  · have : l = [] := List.length_eq_zero_iff.1 (by omega)
    subst this
    exact strs_none w
  · subst hn
    refine ⟨_, cap, rfl, hcap, .inr ⟨g, 0, rfl, fun j hj => ?_⟩⟩
    have := hcell g rfl j _ (scells_get l j hj)
    rw [Addr.add_lit] at this
    exact this

theorem row_after {W W' : World} {base e size n : Nat} {v : Value} {xs : List Value} (h : W.ownsRow base e size v n xs) (hb : Below W.heap.size W W') : W'.ownsRow base e size v n xs := by
  have hg : W.grownBy W' none := ⟨hb.os, hb.tape, hb.output, hb.size, fun k hk _ => hb.block k hk⟩
  refine h.kept hg ?_
  cases v.ownBlock with
  | none => exact .inl rfl
  | some g => exact .inr (by simp)

theorem take_succ (l : List ByteArray) (k : Nat) (h : k < l.length) : l.take (k + 1) = l.take k ++ [l.getD k ByteArray.empty] := by
  rw [List.take_add_one, List.getElem?_eq_getElem h]
  simp [List.getD, h]

theorem same_upto {xs ys : List ByteArray} {k : Nat} (hk : k = xs.length) (hl : xs.length = ys.length) (h : xs.take k = ys.take k) : xs = ys := by
  subst hk
  rw [List.take_length] at h
  rw [hl, List.take_length] at h
  exact h

theorem same_stop {xs ys : List ByteArray} {k : Nat} (h : xs.getD k ByteArray.empty ≠ ys.getD k ByteArray.empty) : xs ≠ ys := by
  rintro rfl
  exact h rfl

theorem ret_false {p : Prop} [Decidable p] (h : ¬ p) : Ending.returned (.bool false) = .returned (.bool (decide p)) := by simp [h]
theorem ret_true {p : Prop} [Decidable p] (h : p) : Ending.returned (.bool true) = .returned (.bool (decide p)) := by simp [h]

theorem ret_not_no {p : Prop} [Decidable p] (h : ¬ p) : Ending.returned (.bool true) = .returned (.bool (!decide p)) := by rw [decide_eq_false h]; rfl
theorem ret_not_yes {p : Prop} [Decidable p] (h : p) : Ending.returned (.bool false) = .returned (.bool (!decide p)) := by rw [decide_eq_true h]; rfl

theorem text_ne {p q : ByteArray} (h : p ≠ q) : (p.toList == q.toList) = false := by
  rw [beq_eq_false_iff_ne, ByteArray.toList_eq, ByteArray.toList_eq]
  intro e
  apply h
  apply ByteArray.ext
  exact Array.toList_inj.1 e

set_option maxHeartbeats 1000000 in
theorem texts_any (v u : Value) (xs ys : List ByteArray) (w : World) (hx : Strs w v xs) (hy : Strs w u ys) (lx : xs.length ≤ 1000000000000) (ly : ys.length ≤ 1000000000000) :
    Calls Try.prog 11 #[v, u] w fun e w' => e = .returned (.bool (decide (xs = ys))) ∧ Below w.heap.size w w' := by
  obtain ⟨a, cap, rfl, _, hx⟩ := hx
  obtain ⟨a', cap', rfl, _, hy⟩ := hy
  by_cases hl : xs.length = ys.length
  · rcases hx with rfl | ⟨b, off, rfl, hc⟩
    · have hy0 : ys = [] := List.length_eq_zero_iff.1 hl.symm
      have HE : Hid (([] : List ByteArray) = ys) := hy0.symm
      subst hy0
      go_enter Try.func11, Try.ntmps11
      go_wp2
      refine wp_loop_rounds 1 ?_
      rw [rounds_succ]
      go_wp2
      go_ret
      exact ⟨ret_true HE.out, Below.refl _ _⟩
    · rcases hy with rfl | ⟨b', off', rfl, hc'⟩
      · have hx0 : xs = [] := List.length_eq_zero_iff.1 hl
        have HE : Hid (xs = ([] : List ByteArray)) := hx0
        subst hx0
        go_enter Try.func11, Try.ntmps11
        go_wp2
        refine wp_loop_rounds 1 ?_
        rw [rounds_succ]
        go_wp2
        go_ret
        exact ⟨ret_true HE.out, Below.refl _ _⟩
      · have HC : Hid _ := hc
        have HC' : Hid _ := hc'
        have HL : Hid _ := hl
        clear hc hc'
        generalize hn : xs.length = n at *
        have HN : Hid _ := hn
        rw [← HL.out]
        clear hl hn
        go_enter Try.func11, Try.ntmps11
        go_wp2
        go_loopw [5] (fun i wr => ∃ k : Nat, k ≤ n ∧ i = .int .i64 k ∧ Hid (xs.take k = ys.take k) ∧ Hid (Below w.heap.size w wr)) (fun i _ => n - (intOf i).toNat)
        case atStart => exact ⟨0, Nat.zero_le _, rfl, rfl, Below.refl _ _⟩
        case round =>
          obtain ⟨k, hk, rfl, HT, hbel⟩ := hrel
          by_cases hk2 : k < n
          · have hc1 := cell_after hbel.out (HC.out k hk2)
            have hc2 := cell_after hbel.out (HC'.out k (by rw [← HL.out]; exact hk2))
            have HX : Hid _ := take_succ xs k (by rw [HN.out]; exact hk2)
            have HY : Hid _ := take_succ ys k (by rw [← HL.out]; exact hk2)
            have HS : Hid (xs.getD k ByteArray.empty ≠ ys.getD k ByteArray.empty → xs ≠ ys) := same_stop
            have hd : Hid (Below w.heap.size w wr.drew) := hbel.out.drew
            generalize xs.getD k ByteArray.empty = p at *
            generalize ys.getD k ByteArray.empty = q at *
            by_cases hpq : p = q
            · subst hpq
              go_wp2
              go_region
              all_goals go_wp2
              go_roundw
              case rel => exact ⟨k + 1, by omega, by go_num, (show xs.take (k + 1) = ys.take (k + 1) by rw [HX.out, HY.out, HT.out]), hd⟩
              case measure => simp [intOf]; omega
            · have hb := text_ne hpq
              have HQ : Hid (xs ≠ ys) := HS.out hpq
              clear hpq HS
              go_wp2
              go_region
              all_goals go_wp2
              go_ret
              exact ⟨ret_false HQ.out, hd.out⟩
          · obtain rfl : k = n := by omega
            go_wp2
            go_ret
            exact ⟨ret_true (same_upto HN.out.symm (HN.out.trans HL.out) HT.out), hbel.out⟩
  · have hne : ¬ xs = ys := fun e => hl (by rw [e])
    have hb : ((xs.length : Int) == (ys.length : Int)) = false := by simp; omega
    clear hx hy
    have HNE : Hid _ := hne
    clear hne
    generalize hn : xs.length = n at *
    generalize hm : ys.length = m at *
    clear hn hm
    go_enter Try.func11, Try.ntmps11
    go_wp2
    go_ret
    exact ⟨ret_false HNE.out, Below.refl _ _⟩

/-- Few texts, none of them long. -/
abbrev Few (l : List ByteArray) (n : Nat) : Prop := l.length ≤ n ∧ ∀ s ∈ l, s.size ≤ 300
theorem few_stop {l : List ByteArray} {n k : Nat} (hk : k < l.length) (h : 300 < (l.getD k ByteArray.empty).size) : ¬ Few l n := by
  intro hf
  have hm : l.getD k ByteArray.empty ∈ l := by
    rw [List.getD_eq_getElem?_getD, List.getElem?_eq_getElem hk]; exact List.getElem_mem hk
  have := hf.2 _ hm
  omega
theorem few_all {l : List ByteArray} {n : Nat} (hn : l.length ≤ n) (h : ∀ j, j < l.length → (l.getD j ByteArray.empty).size ≤ 300) : Few l n := by
  refine ⟨hn, fun s hs => ?_⟩
  obtain ⟨i, hi, rfl⟩ := List.getElem_of_mem hs
  have := h i hi
  rwa [List.getD_eq_getElem?_getD, List.getElem?_eq_getElem hi] at this

set_option maxHeartbeats 1000000 in
theorem great_any (v : Value) (l : List ByteArray) (n : Nat) (w : World) (h : Strs w v l) (hl : l.length ≤ 9223372036854775807) (hn : n ≤ 1000) (hz : ∀ s ∈ l, s.size ≤ 9223372036854775807) :
    Calls Try.prog 15 #[v, .int .i64 n] w fun e w' => e = .returned (.bool (!decide (Few l n))) ∧ w' = w := by
  obtain ⟨a, cap, rfl, _, h⟩ := h
  by_cases hg : n < l.length
  · have hf : ¬ Few l n := fun hf => by have := hf.1; omega
    have hd : (!decide (Few l n)) = true := by rw [decide_eq_false hf]; rfl
    rw [hd]
    clear hf hd
    go_enter Try.func15, Try.ntmps15
    go_wp2
    go_ret
    exact ⟨rfl, rfl⟩
  · rcases h with rfl | ⟨b, off, rfl, hc⟩
    · have hf : Few [] n := ⟨Nat.zero_le _, fun s hs => by simp at hs⟩
      have hd : (!decide (Few [] n)) = false := by rw [decide_eq_true hf]; rfl
      rw [hd]
      clear hf hd
      go_enter Try.func15, Try.ntmps15
      go_wp2
      refine wp_loop_rounds 1 ?_
      rw [rounds_succ]
      go_wp2
      go_ret
      exact ⟨rfl, rfl⟩
    · have HC : Hid _ := hc
      have HS : Hid (∀ k, k < l.length → (l.getD k ByteArray.empty).size ≤ 9223372036854775807) := by
        intro k hk
        rw [List.getD_eq_getElem?_getD, List.getElem?_eq_getElem hk]
        exact hz _ (List.getElem_mem hk)
      have HST : Hid (∀ k, k < l.length → 300 < (l.getD k ByteArray.empty).size → ¬ Few l n) := fun k hk h => few_stop hk h
      have HAL : Hid ((∀ j, j < l.length → (l.getD j ByteArray.empty).size ≤ 300) → Few l n) := few_all (by omega)
      clear hc hz
      obtain ⟨B, HT⟩ : ∃ B, Hid ((!decide (Few l n)) = B) := ⟨_, rfl⟩
      rw [HT.out]
      go_enter Try.func15, Try.ntmps15
      go_wp2
      go_loop [5] (fun i => ∃ k : Nat, k ≤ l.length ∧ i = .int .i64 k ∧ Hid (∀ j, j < k → (l.getD j ByteArray.empty).size ≤ 300)) (fun i => l.length - (intOf i).toNat)
      case atStart => exact ⟨0, Nat.zero_le _, rfl, fun j hj => by omega⟩
      case round =>
        obtain ⟨k, hk, rfl, HK⟩ := hrel
        by_cases hlt : k < l.length
        · have hc1 := HC.out k hlt
          have hs1 := HS.out k hlt
          have HS1 : Hid (300 < (l.getD k ByteArray.empty).size → ¬ Few l n) := HST.out k hlt
          have HK2 : Hid ((l.getD k ByteArray.empty).size ≤ 300 → ∀ j, j < k + 1 → (l.getD j ByteArray.empty).size ≤ 300) := by
            intro h1 j hj
            by_cases hjk : j = k
            · subst hjk; exact h1
            · exact HK.out j (by omega)
          generalize l.getD k ByteArray.empty = s at hc1 hs1 HS1 HK2
          by_cases hbig : 300 < s.size
          · have HF : Hid (¬ Few l n) := HS1.out hbig
            go_wp2
            go_ret
            exact ⟨show Ending.returned (.bool true) = .returned (.bool B) by rw [← HT.out]; exact ret_not_no HF.out, rfl⟩
          · have HK3 : Hid _ := HK2.out (by omega)
            clear HK2
            go_wp2
            go_round
            case rel => exact ⟨k + 1, by omega, by go_num, HK3⟩
            case measure => simp [intOf]; omega
        · obtain rfl : k = l.length := by omega
          have HF : Hid (Few l n) := HAL.out HK.out
          go_wp2
          go_ret
          exact ⟨show Ending.returned (.bool false) = .returned (.bool B) by rw [← HT.out]; exact ret_not_yes HF.out, rfl⟩

end Go.Proofs.Ytnlglmloineapaa
