/- Slices of strings, rows of bytes, and the walks of the statements' helpers Texts, Great and Some, and of strings.Clone. -/
import Derived.Test.YtikbhklmedblbaaFrame
import Derived.WalkKit
import Derived.WalkSpells
import Derived.WalkLawsBesides
import Derived.Laws.BitsAllLaws
import Derived.Laws.IdiomStrings
import Derived.Laws.MakeOwn
import Derived.Lib.BufferWrite
import Derived.Below
import Derived.SliceStrings
import Derived.BigQuiet
import Derived.OwnWalk
import Derived.Maps.AppendAt
import Derived.Shelf.Strconv.Clone
namespace Go.Proofs.Ytikbhklmedblbaa
open Go.ChangeShapes Go.WideShapes Go.ChangeAt Go.RowKit Go.Shelf

theorem wf_u16 {n : Int} (h : (Lit.int .u16 n).wf = true) : ∃ k : Nat, n = k ∧ k < 65536 := by
  have : 0 ≤ n ∧ n ≤ 65535 := by simpa [Lit.wf, IntKind.min, IntKind.max, IntKind.signed, IntKind.bits] using h
  exact ⟨n.toNat, by omega, by omega⟩

theorem wf_i64 {n : Int} (h : (Lit.int .i64 n).wf = true) : -9223372036854775808 ≤ n ∧ n ≤ 9223372036854775807 := by
  simpa [Lit.wf, IntKind.min, IntKind.max, IntKind.signed, IntKind.bits] using h

theorem bnext {w a b : World} (h : Below w.heap.size w a) (k : Below a.heap.size a b) : Below w.heap.size w b := h.trans (k.mono h.size)

theorem wf_u8 {n : Int} (h : (Lit.int .u8 n).wf = true) : ∃ k : Nat, n = k ∧ k < 256 := by
  have : 0 ≤ n ∧ n ≤ 255 := by simpa [Lit.wf, IntKind.min, IntKind.max, IntKind.signed, IntKind.bits] using h
  exact ⟨n.toNat, by omega, by omega⟩

theorem ret_int {k : IntKind} {a b : Int} (h : a = b) : Ending.returned (.int k a) = .returned (.int k b) := by rw [h]

/-- A slice of strings that came in. -/
def IsStrs (w : World) (a : Option Addr) (len cap : Nat) (zs : List ByteArray) : Prop :=
  (a = none ∧ len = 0 ∧ cap = 0 ∧ zs = []) ∨
  ∃ x, a = some x ∧ len ≤ cap ∧ cap ≤ maxLen ∧ zs.length = cap ∧ (∀ i, i < zs.length → w.cell? (x.add i) = some (.string (zs.getD i ByteArray.empty))) ∧ ∀ s ∈ zs, s.size ≤ maxLen

/-- The slice v holds the strings l. -/
def Strs (W : World) (v : Value) (l : List ByteArray) : Prop :=
  ∃ a cap, v = .slice a l.length cap ∧ l.length ≤ cap ∧ (l = [] ∨ ∃ b off, a = some ⟨b, off, none⟩ ∧ ∀ j, j < l.length → W.cell? ⟨b, off + j, none⟩ = some (.string (l.getD j ByteArray.empty)))

theorem getD_take (l : List ByteArray) (n j : Nat) (h : j < n) : (l.take n).getD j ByteArray.empty = l.getD j ByteArray.empty := by
  simp [List.getD, h]

theorem strs_at {w : World} {a : Addr} {zs : List ByteArray} (h : ∀ i, i < zs.length → w.cell? (a.add i) = some (.string (zs.getD i ByteArray.empty))) (hp : 0 < zs.length) :
    ∃ b off, a = ⟨b, off, none⟩ ∧ ∀ j, j < zs.length → w.cell? ⟨b, off + j, none⟩ = some (.string (zs.getD j ByteArray.empty)) := by
  obtain ⟨b, off, spot⟩ := a
  have hspot : spot = none := by simpa [Addr.add] using World.cell?_spot (h 0 hp)
  subst hspot
  exact ⟨b, off, rfl, fun j hj => by rw [← Go.WideShapes.add_plain]; exact h j hj⟩

theorem strs_of_row {w : World} {a : Option Addr} {len cap : Nat} {zs : List ByteArray} (h : IsStrs w a len cap zs) : ∃ l, len = l.length ∧ l.length ≤ maxLen ∧ Strs w (.slice a len cap) l ∧ ∀ s ∈ l, s.size ≤ maxLen := by
  rcases h with ⟨rfl, rfl, rfl, rfl⟩ | ⟨x, rfl, h1, h2, h3, h4, h5⟩
  · exact ⟨[], rfl, Nat.zero_le _, ⟨none, 0, rfl, Nat.le_refl _, .inl rfl⟩, fun z hz => by simp at hz⟩
  · have hlen : (zs.take len).length = len := by rw [List.length_take]; omega
    refine ⟨zs.take len, hlen.symm, by omega, ?_, fun s hs => h5 s (List.mem_of_mem_take hs)⟩
    refine ⟨some x, cap, by rw [hlen], by omega, ?_⟩
    by_cases h0 : len = 0
    · left; rw [h0]; rfl
    · obtain ⟨b, off, rfl, hc⟩ := strs_at h4 (by omega)
      refine .inr ⟨b, off, rfl, fun j hj => ?_⟩
      rw [hlen] at hj
      rw [getD_take _ _ _ hj]
      exact hc j (by omega)

theorem cell_after {w w' : World} {p : Addr} {v : Value} (hb : Below w.heap.size w w') (h : w.cell? p = some v) : w'.cell? p = some v := by
  rw [hb.cell (World.block_lt_of_cell? _ _ h)]; exact h

theorem Strs.later {w w' : World} {v : Value} {l : List ByteArray} (h : Strs w v l) (hb : Below w.heap.size w w') : Strs w' v l := by
  obtain ⟨a, cap, rfl, hcap, h⟩ := h
  refine ⟨a, cap, rfl, hcap, ?_⟩
  rcases h with h | ⟨b, off, rfl, hc⟩
  · exact .inl h
  · exact .inr ⟨b, off, rfl, fun j hj => cell_after hb (hc j hj)⟩

theorem strs_none (W : World) : Strs W (.slice none 0 0) [] := ⟨none, 0, rfl, Nat.le_refl _, .inl rfl⟩

/-- Strings as cells. -/
def scells (l : List ByteArray) : List Value := l.map Value.string

theorem scells_get (l : List ByteArray) (j : Nat) (h : j < l.length) : (scells l)[j]? = some (.string (l.getD j ByteArray.empty)) := by
  simp [scells, List.getD, h]

theorem Strs.of_own {w : World} {base n : Nat} {v : Value} {l : List ByteArray} (h : w.ownsRow base 9 1 v n (scells l)) : Strs w v l := by
  have hcell := fun g hg => h.cells (g := g) hg
  have hn : l.length = n := by have := h.1; simpa [scells] using this
  rcases h.2 with ⟨rfl, h0⟩ | ⟨g, cap, cur, rfl, _, _, hcap, _⟩
  · have : l = [] := List.length_eq_zero_iff.1 (by omega)
    subst this
    exact strs_none w
  · subst hn
    refine ⟨_, cap, rfl, hcap, .inr ⟨g, 0, rfl, fun j hj => ?_⟩⟩
    have := hcell g rfl j _ (scells_get l j hj)
    rw [Addr.add_lit] at this
    exact this

theorem row_after {W W' : World} {base e size n : Nat} {v : Value} {xs : List Value} (h : W.ownsRow base e size v n xs) (hb : Below W.heap.size W W') : W'.ownsRow base e size v n xs := by
  have hg : W.grownBy W' none := ⟨hb.os, hb.tape, hb.output, hb.size, fun k hk _ => hb.block k hk⟩
  refine h.kept hg ?_
  cases v.ownBlock with
  | none => exact .inl rfl
  | some g => exact .inr (by simp)

theorem take_succ (l : List ByteArray) (k : Nat) (h : k < l.length) : l.take (k + 1) = l.take k ++ [l.getD k ByteArray.empty] := by
  rw [List.take_add_one, List.getElem?_eq_getElem h]
  simp [List.getD, h]

theorem same_upto {xs ys : List ByteArray} {k : Nat} (hk : k = xs.length) (hl : xs.length = ys.length) (h : xs.take k = ys.take k) : xs = ys := by
  subst hk
  rw [List.take_length] at h
  rw [hl, List.take_length] at h
  exact h

theorem same_stop {xs ys : List ByteArray} {k : Nat} (h : xs.getD k ByteArray.empty ≠ ys.getD k ByteArray.empty) : xs ≠ ys := by
  rintro rfl
  exact h rfl

theorem ret_false {p : Prop} [Decidable p] (h : ¬ p) : Ending.returned (.bool false) = .returned (.bool (decide p)) := by simp [h]

theorem ret_true {p : Prop} [Decidable p] (h : p) : Ending.returned (.bool true) = .returned (.bool (decide p)) := by simp [h]

theorem ret_not_no {p : Prop} [Decidable p] (h : ¬ p) : Ending.returned (.bool true) = .returned (.bool (!decide p)) := by rw [decide_eq_false h]; rfl

theorem ret_not_yes {p : Prop} [Decidable p] (h : p) : Ending.returned (.bool false) = .returned (.bool (!decide p)) := by rw [decide_eq_true h]; rfl

theorem text_ne {p q : ByteArray} (h : p ≠ q) : (p.toList == q.toList) = false := by
  rw [beq_eq_false_iff_ne, ByteArray.toList_eq, ByteArray.toList_eq]
  intro e
  apply h
  apply ByteArray.ext
  exact Array.toList_inj.1 e

set_option maxHeartbeats 1000000 in
theorem texts_any (v u : Value) (xs ys : List ByteArray) (w : World) (hx : Strs w v xs) (hy : Strs w u ys) (lx : xs.length ≤ 1000000000000) (ly : ys.length ≤ 1000000000000) :
    Calls Try.prog 15 #[v, u] w fun e w' => e = .returned (.bool (decide (xs = ys))) ∧ Below w.heap.size w w' := by
  obtain ⟨a, cap, rfl, _, hx⟩ := hx
  obtain ⟨a', cap', rfl, _, hy⟩ := hy
  by_cases hl : xs.length = ys.length
  · rcases hx with rfl | ⟨b, off, rfl, hc⟩
    · have hy0 : ys = [] := List.length_eq_zero_iff.1 hl.symm
      have HE : Hid (([] : List ByteArray) = ys) := hy0.symm
      subst hy0
      go_enter Try.func15, Try.ntmps15
      go_wp2
      refine wp_loop_rounds 1 ?_
      rw [rounds_succ]
      go_wp2
      go_ret
      exact ⟨ret_true HE.out, Below.refl _ _⟩
    · rcases hy with rfl | ⟨b', off', rfl, hc'⟩
      · have hx0 : xs = [] := List.length_eq_zero_iff.1 hl
        have HE : Hid (xs = ([] : List ByteArray)) := hx0
        subst hx0
        go_enter Try.func15, Try.ntmps15
        go_wp2
        refine wp_loop_rounds 1 ?_
        rw [rounds_succ]
        go_wp2
        go_ret
        exact ⟨ret_true HE.out, Below.refl _ _⟩
      · have HC : Hid _ := hc
        have HC' : Hid _ := hc'
        have HL : Hid _ := hl
        clear hc hc'
        generalize hn : xs.length = n at *
        have HN : Hid _ := hn
        rw [← HL.out]
        clear hl hn
        go_enter Try.func15, Try.ntmps15
        go_wp2
        go_loopw [5] (fun i wr => ∃ k : Nat, k ≤ n ∧ i = .int .i64 k ∧ Hid (xs.take k = ys.take k) ∧ Hid (Below w.heap.size w wr)) (fun i _ => n - (intOf i).toNat)
        case atStart => exact ⟨0, Nat.zero_le _, rfl, rfl, Below.refl _ _⟩
        case round =>
          obtain ⟨k, hk, rfl, HT, hbel⟩ := hrel
          by_cases hk2 : k < n
          · have hc1 := cell_after hbel.out (HC.out k hk2)
            have hc2 := cell_after hbel.out (HC'.out k (by rw [← HL.out]; exact hk2))
            have HX : Hid _ := take_succ xs k (by rw [HN.out]; exact hk2)
            have HY : Hid _ := take_succ ys k (by rw [← HL.out]; exact hk2)
            have HS : Hid (xs.getD k ByteArray.empty ≠ ys.getD k ByteArray.empty → xs ≠ ys) := same_stop
            have hd : Hid (Below w.heap.size w wr.drew) := hbel.out.drew
            generalize xs.getD k ByteArray.empty = p at *
            generalize ys.getD k ByteArray.empty = q at *
            by_cases hpq : p = q
            · subst hpq
              go_wp2
              go_region
              all_goals go_wp2
              go_roundw
              case rel => exact ⟨k + 1, by omega, by go_num, (show xs.take (k + 1) = ys.take (k + 1) by rw [HX.out, HY.out, HT.out]), hd⟩
              case measure => simp [intOf]; omega
            · have hb := text_ne hpq
              have HQ : Hid (xs ≠ ys) := HS.out hpq
              clear hpq HS
              go_wp2
              go_region
              all_goals go_wp2
              go_ret
              exact ⟨ret_false HQ.out, hd.out⟩
          · obtain rfl : k = n := by omega
            go_wp2
            go_ret
            exact ⟨ret_true (same_upto HN.out.symm (HN.out.trans HL.out) HT.out), hbel.out⟩
  · have hne : ¬ xs = ys := fun e => hl (by rw [e])
    have hb : ((xs.length : Int) == (ys.length : Int)) = false := by simp; omega
    clear hx hy
    have HNE : Hid _ := hne
    clear hne
    generalize hn : xs.length = n at *
    generalize hm : ys.length = m at *
    clear hn hm
    go_enter Try.func15, Try.ntmps15
    go_wp2
    go_ret
    exact ⟨ret_false HNE.out, Below.refl _ _⟩


/-- Few texts, none of them long. -/
abbrev Few (l : List ByteArray) (n : Nat) : Prop := l.length ≤ n ∧ ∀ s ∈ l, s.size ≤ 300

theorem few_stop {l : List ByteArray} {n k : Nat} (hk : k < l.length) (h : 300 < (l.getD k ByteArray.empty).size) : ¬ Few l n := by
  intro hf
  have hm : l.getD k ByteArray.empty ∈ l := by
    rw [List.getD_eq_getElem?_getD, List.getElem?_eq_getElem hk]; exact List.getElem_mem hk
  have := hf.2 _ hm
  omega

theorem few_all {l : List ByteArray} {n : Nat} (hn : l.length ≤ n) (h : ∀ j, j < l.length → (l.getD j ByteArray.empty).size ≤ 300) : Few l n := by
  refine ⟨hn, fun s hs => ?_⟩
  obtain ⟨i, hi, rfl⟩ := List.getElem_of_mem hs
  have := h i hi
  rwa [List.getD_eq_getElem?_getD, List.getElem?_eq_getElem hi] at this

set_option maxHeartbeats 1000000 in
theorem great_any (v : Value) (l : List ByteArray) (n : Nat) (w : World) (h : Strs w v l) (hl : l.length ≤ 9223372036854775807) (hn : n ≤ 1000) (hz : ∀ s ∈ l, s.size ≤ 9223372036854775807) :
    Calls Try.prog 27 #[v, .int .i64 n] w fun e w' => e = .returned (.bool (!decide (Few l n))) ∧ w' = w := by
  obtain ⟨a, cap, rfl, _, h⟩ := h
  by_cases hg : n < l.length
  · have hf : ¬ Few l n := fun hf => by have := hf.1; omega
    have hd : (!decide (Few l n)) = true := by rw [decide_eq_false hf]; rfl
    rw [hd]
    clear hf hd
    go_enter Try.func27, Try.ntmps27
    go_wp2
    go_ret
    exact ⟨rfl, rfl⟩
  · rcases h with rfl | ⟨b, off, rfl, hc⟩
    · have hf : Few [] n := ⟨Nat.zero_le _, fun s hs => by simp at hs⟩
      have hd : (!decide (Few [] n)) = false := by rw [decide_eq_true hf]; rfl
      rw [hd]
      clear hf hd
      go_enter Try.func27, Try.ntmps27
      go_wp2
      refine wp_loop_rounds 1 ?_
      rw [rounds_succ]
      go_wp2
      go_ret
      exact ⟨rfl, rfl⟩
    · have HC : Hid _ := hc
      have HS : Hid (∀ k, k < l.length → (l.getD k ByteArray.empty).size ≤ 9223372036854775807) := by
        intro k hk
        rw [List.getD_eq_getElem?_getD, List.getElem?_eq_getElem hk]
        exact hz _ (List.getElem_mem hk)
      have HST : Hid (∀ k, k < l.length → 300 < (l.getD k ByteArray.empty).size → ¬ Few l n) := fun k hk h => few_stop hk h
      have HAL : Hid ((∀ j, j < l.length → (l.getD j ByteArray.empty).size ≤ 300) → Few l n) := few_all (by omega)
      clear hc hz
      obtain ⟨B, HT⟩ : ∃ B, Hid ((!decide (Few l n)) = B) := ⟨_, rfl⟩
      rw [HT.out]
      go_enter Try.func27, Try.ntmps27
      go_wp2
      go_loop [5] (fun i => ∃ k : Nat, k ≤ l.length ∧ i = .int .i64 k ∧ Hid (∀ j, j < k → (l.getD j ByteArray.empty).size ≤ 300)) (fun i => l.length - (intOf i).toNat)
      case atStart => exact ⟨0, Nat.zero_le _, rfl, fun j hj => by omega⟩
      case round =>
        obtain ⟨k, hk, rfl, HK⟩ := hrel
        by_cases hlt : k < l.length
        · have hc1 := HC.out k hlt
          have hs1 := HS.out k hlt
          have HS1 : Hid (300 < (l.getD k ByteArray.empty).size → ¬ Few l n) := HST.out k hlt
          have HK2 : Hid ((l.getD k ByteArray.empty).size ≤ 300 → ∀ j, j < k + 1 → (l.getD j ByteArray.empty).size ≤ 300) := by
            intro h1 j hj
            by_cases hjk : j = k
            · subst hjk; exact h1
            · exact HK.out j (by omega)
          generalize l.getD k ByteArray.empty = s at hc1 hs1 HS1 HK2
          by_cases hbig : 300 < s.size
          · have HF : Hid (¬ Few l n) := HS1.out hbig
            go_wp2
            go_ret
            exact ⟨show Ending.returned (.bool true) = .returned (.bool B) by rw [← HT.out]; exact ret_not_no HF.out, rfl⟩
          · have HK3 : Hid _ := HK2.out (by omega)
            clear HK2
            go_wp2
            go_round
            case rel => exact ⟨k + 1, by omega, by go_num, HK3⟩
            case measure => simp [intOf]; omega
        · obtain rfl : k = l.length := by omega
          have HF : Hid (Few l n) := HAL.out HK.out
          go_wp2
          go_ret
          exact ⟨show Ending.returned (.bool false) = .returned (.bool B) by rw [← HT.out]; exact ret_not_yes HF.out, rfl⟩


theorem Try.info5 : (Try.prog.info? 5).map (fun i => (i.zero, i.size, i.bytes)) = some (some (.int .u8 0), 1, 1) := by kernel_rfl

/-- Bytes as cells. -/
def bcells (l : List UInt8) : List Value := l.map fun b => .int .u8 b.toNat

theorem push_all : ∀ (l : List UInt8) (acc : ByteArray), (l.map (fun b => (b.toNat : Int))).foldl (fun r n => r.push (UInt8.ofNat n.toNat)) acc = ⟨(acc.data.toList ++ l).toArray⟩ := by
  intro l
  induction l with
  | nil => intro acc; simp
  | cons b l ih =>
    intro acc
    rw [List.map_cons, List.foldl_cons, ih]
    simp [ByteArray.push]

/-- string(b) of a row of bytes that the call itself made. -/
theorem conv_own (W : World) (base g n : Nat) (l : List UInt8) (hl : l.length = n) (hown : W.ownsRow base 5 1 (.slice (some ⟨g, 0, none⟩) n n) n (bcells l)) :
    (convert 65 9 (.slice (some ⟨g, 0, none⟩) n n)).run Try.prog W = .ok (.string ⟨l.toArray⟩) W := by
  rw [run_convert_bytes_string W 65 9 5 _ _ _ Try.underlying65 Try.underlying5 Try.underlying9]
  have hload : (loadCells ⟨g, 0, none⟩ n).run Try.prog W = .ok ((l.map (fun b => (b.toNat : Int))).map (Value.int .u8)).toArray W := by
    have := run_loadCells_list (P := Try.prog) (w := W) ⟨g, 0, none⟩ (bcells l) (by
      intro j v hj
      have hlt : j < n := by
        have := (List.getElem?_eq_some_iff.1 hj).1
        simpa [bcells, hl] using this
      have := hown.cellAt j (by omega)
      rw [Addr.add_lit, Nat.zero_add, this, hj])
    have e : (bcells l).length = n := by simp [bcells, hl]
    rw [e] at this
    rw [this]
    simp [bcells, Function.comp_def]
  rw [run_bytesToString W ⟨g, 0, none⟩ n n _ hload, push_all]
  rfl

theorem made_zeros (n : Nat) : (madeCells #[Value.int .u8 0] n).toList = bcells (List.replicate n 0) := by
  rw [toList_madeCells_one]
  simp [bcells]

theorem bcells_set (l : List UInt8) (k : Nat) (b : UInt8) : (bcells l).set k (.int .u8 b.toNat) = bcells (l.set k b) := by
  simp [bcells, List.map_set]

theorem bcells_get (l : List UInt8) (k : Nat) (h : k < l.length) : (bcells l)[k]? = some (.int .u8 (l[k].toNat : Int)) := by
  simp [bcells, h]

/-- What lies in a row. -/
theorem row_cell {W : World} {B n : Nat} {l : List UInt8} (hl : l.length = n) (hown : W.ownsRow B 5 1 (.slice (some ⟨B, 0, none⟩) n n) n (bcells l)) (k : Nat) (hk : k < n) :
    W.cell? ⟨B, k, none⟩ = some (.int .u8 ((l[k]'(by omega)).toNat : Int)) := by
  rw [hown.cellAt k (by omega), bcells_get l k (by omega)]

theorem own_store {W w : World} {B n : Nat} {l : List UInt8} (h : W.ownsRow B 5 1 (.slice (some ⟨B, 0, none⟩) n n) n (bcells l)) (hbel : Below B w W) (k : Nat) (b : UInt8) (z : Int) (hz : (b.toNat : Int) = z) :
    (W.setCell ⟨B, k, none⟩ (.int .u8 z)).ownsRow B 5 1 (.slice (some ⟨B, 0, none⟩) n n) n (bcells (l.set k b)) ∧ Below B w (W.setCell ⟨B, k, none⟩ (.int .u8 z)) := by
  subst hz
  have hs := (h.stored k (.int .u8 (b.toNat : Int))).1
  rw [bcells_set] at hs
  exact ⟨hs, hbel.setCell (Nat.le_refl _) _⟩

/-- Bytes by a text over and over. -/
def someL (s : List UInt8) (n : Nat) : List UInt8 := (List.range n).map fun i => s.getD (i % s.length) 0

theorem someL_length (s : List UInt8) (n : Nat) : (someL s n).length = n := by simp [someL]

/-- What lies in the row behind j rounds. -/
def someP (s : List UInt8) (n j : Nat) : List UInt8 := someL s j ++ List.replicate (n - j) 0

theorem someP_length (s : List UInt8) (n j : Nat) (h : j ≤ n) : (someP s n j).length = n := by simp [someP, someL_length]; omega

theorem someP_zero (s : List UInt8) (n : Nat) : someP s n 0 = List.replicate n 0 := by simp [someP, someL]

theorem someP_full (s : List UInt8) (n : Nat) : someP s n n = someL s n := by simp [someP]

theorem someP_set (s : List UInt8) (n j : Nat) (h : j < n) : (someP s n j).set j (s.getD (j % s.length) 0) = someP s n (j + 1) := by
  unfold someP
  rw [List.set_append_right _ _ (by rw [someL_length]; omega), someL_length, Nat.sub_self, show n - j = (n - (j + 1)) + 1 by omega, List.replicate_succ, List.set_cons_zero]
  have e : someL s (j + 1) = someL s j ++ [s.getD (j % s.length) 0] := by
    unfold someL
    rw [List.range_succ, List.map_append]; rfl
  rw [e, List.append_assoc]; rfl

theorem getD_byte (s : ByteArray) (k : Nat) (h : k < s.size) : s.data.toList.getD k 0 = s[k] := by
  rw [List.getD_eq_getElem?_getD, List.getElem?_eq_getElem (by simpa using h)]; rfl

set_option maxHeartbeats 1000000 in
theorem some_any (s : ByteArray) (n : Nat) (w : World) (hs : 0 < s.size) (hs2 : s.size ≤ 1000) (hn : n ≤ 1000) :
    Calls Try.prog 50 #[.string s, .int .i64 n] w fun e w' => e = .returned (.string ⟨(someL s.data.toList n).toArray⟩) ∧ Below w.heap.size w w' := by
  obtain ⟨i0, hi, hz0, hz1, hz2⟩ := info_parts Try.info5
  have hlen : s.data.toList.length = s.size := by simp
  have hne : (s.toList == []) = false := by
    rw [beq_eq_false_iff_ne, ByteArray.toList_eq]
    intro e
    rw [e] at hlen
    simp at hlen
    omega
  obtain ⟨L, HL⟩ : ∃ L, Hid (someL s.data.toList n = L) := ⟨_, rfl⟩
  rw [HL.out]
  have HG : Hid (∀ j, j < n → (someP s.data.toList n j).set j (s[j % s.size]'(Nat.mod_lt _ hs)) = someP s.data.toList n (j + 1)) := by
    intro j hj
    have := someP_set s.data.toList n j hj
    rw [hlen, getD_byte s _ (Nat.mod_lt _ hs)] at this
    exact this
  have HF : Hid (someP s.data.toList n n = L) := (someP_full _ _).trans HL.out
  have HZ : Hid _ := someP_zero s.data.toList n
  have HLn : Hid (∀ j, j ≤ n → (someP s.data.toList n j).length = n) := fun j hj => someP_length _ _ _ hj
  generalize someP s.data.toList n = P at *
  clear hlen HL
  go_enter Try.func50, Try.ntmps50
  go_wp2_with (at_make; refine wpList_make_full _ rfl _ _ 65 rfl w.heap.size 5 i0 (.int .u8 0) 1 Try.underlying65 hi hz0 hz1 _ _ _ _ n rfl rfl rfl rfl ?b2 ?b3 ?b4 ?_)
  case b2 => rw [hz2]; omega
  case b3 => unfold maxLen; omega
  case b4 => omega
  intro w1 hown hgrow
  rw [made_zeros, ← HZ.out] at hown
  have hbel : Below w.heap.size w w1 := (Below.refl _ _).grown hgrow (Nat.le_refl _) (by simp)
  have R0 : Hid (_ ∧ _) := And.intro hown hbel
  clear hown hgrow hbel HZ hi hz0 hz1 hz2
  go_wp2
  go_loopw [6] (fun c wr => ∃ j : Nat, j ≤ n ∧ c = .int .i64 j ∧ Hid (wr.ownsRow w.heap.size 5 1 (.slice (some ⟨w.heap.size, 0, none⟩) n n) n (bcells (P j)) ∧ Below w.heap.size w wr)) (fun c _ => n - (intOf c).toNat)
  case atStart => exact ⟨0, by omega, rfl, R0⟩
  case round =>
    clear R0
    obtain ⟨j, hj, rfl, R⟩ := hrel
    by_cases hlt : j < n
    · have c1 := row_cell (HLn.out j hj) R.out.1 j hlt
      have f1 := R.out.1.frozenAt j
      have hm : j % s.size < s.size := Nat.mod_lt _ hs
      have hm2 : (j : Int) % (s.size : Int) = ((j % s.size : Nat) : Int) := by simp
      have R2 := own_store R.out.1 R.out.2 j (s[j % s.size]'hm) _ rfl
      rw [HG.out j hlt] at R2
      have R2 : Hid _ := R2
      generalize j % s.size = k at hm hm2 R2
      go_wp2
      go_roundw
      case rel => exact ⟨j + 1, by omega, by go_num, R2⟩
      case measure => simp [intOf]; omega
    · obtain rfl : j = n := by omega
      have hcv := conv_own wr _ _ j _ (HLn.out j (Nat.le_refl _)) R.out.1
      rw [HF.out] at hcv
      go_wp2
      go_ret
      exact ⟨rfl, R.out.2⟩

/-- The numbers of Clone's text, and of its types, in this program. -/
def cloneRen : Ren := ⟨fun | 316 => 56 | n => n, fun | 9 => 9 | 0 => 0 | 37 => 65 | 127 => 88 | 3 => 3 | 4 => 4 | 5 => 5 | n => n, fun n => n⟩

theorem cloneLays : LaysM.n316 Try.prog cloneRen := {
  mixed := by kernel_rfl
  f316 := Try.func56.trans (congrArg some (by kernel_rfl))
  t0 := Try.underlying0, a0 := Try.isAgg0, z0 := Try.sizeOf0, v0 := Try.zeroValue0
  t3 := Try.underlying3, a3 := Try.isAgg3, z3 := Try.sizeOf3, v3 := Try.zeroValue3
  t4 := Try.underlying4, a4 := Try.isAgg4, z4 := Try.sizeOf4, v4 := Try.zeroValue4
  t5 := Try.underlying5, a5 := Try.isAgg5, z5 := Try.sizeOf5, v5 := Try.zeroValue5
  t9 := Try.underlying9, a9 := Try.isAgg9, z9 := Try.sizeOf9, v9 := Try.zeroValue9
  t37 := Try.underlying65, a37 := Try.isAgg65, z37 := Try.sizeOf65, v37 := Try.zeroValue65
  t127 := Try.underlying88, a127 := Try.isAgg88, z127 := Try.sizeOf88, v127 := Try.zeroValue88
  i0 := by kernel_rfl
  i3 := by kernel_rfl
  i4 := by kernel_rfl
  i5 := by kernel_rfl
  i9 := by kernel_rfl
  i37 := by kernel_rfl
  i127 := by kernel_rfl }

theorem clone_any (s : ByteArray) (w : World) (hs : s.size ≤ 140737488351232) :
    Calls Try.prog 49 #[.string s] w fun e w' => e = .returned (.string s) ∧ Below w.heap.size w w' := by
  have HC : Hid (Calls Try.prog 56 #[.string s] w fun e w' => e = .returned (.string s) ∧ Below w.heap.size w w') := Any.stringslite_Clone cloneLays s w (by omega)
  go_enter Try.func49, Try.ntmps49
  go_wp2_with fail
  refine Calls.mono HC.out ?_
  rintro e w1 ⟨rfl, hb⟩
  have hb : Hid _ := hb
  go_wp2
  go_ret
  exact ⟨rfl, hb.out⟩

theorem scells_length (l : List ByteArray) : (scells l).length = l.length := by simp [scells]

theorem scells_one (l : List ByteArray) : ∀ u ∈ scells l, u.oneCell' = true := by
  intro u hu
  obtain ⟨s, _, rfl⟩ := List.mem_map.1 hu
  rfl

theorem scells_set (l : List ByteArray) (k : Nat) (s : ByteArray) : (scells l).set k (.string s) = scells (l.set k s) := by simp [scells, List.map_set]

theorem scells_snoc (l : List ByteArray) (q : ByteArray) : scells l ++ [.string q] = scells (l ++ [q]) := by simp [scells]

theorem size_list (s : ByteArray) : s.data.toList.length = s.size := by simp

end Go.Proofs.Ytikbhklmedblbaa
