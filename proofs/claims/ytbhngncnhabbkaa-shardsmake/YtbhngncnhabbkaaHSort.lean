/- slices.Sort and slices.Compact of ints, by the library's contracts, over rows of the call's own. -/
import Derived.Test.YtbhngncnhabbkaaHDcd
import Derived.Shelf.SortM.SortNone
import Derived.Shelf.SortM.Plain
import Derived.Shelf.SlicesG.CompactI
namespace Go.Proofs.Ytbhngncnhabbkaa
open Go.RowKit Go.Shelf Go.Sort

def Try.isortLaid_ren : Go.Shelf.Ren := ⟨fun | 5 => 15 | 7 => 25 | 8 => 26 | 10 => 42 | 11 => 43 | 12 => 44 | 13 => 45 | 14 => 46 | 15 => 47 | 16 => 48 | 17 => 49 | 18 => 50 | 19 => 51 | 20 => 52 | 30 => 67 | 31 => 68 | 32 => 69 | 33 => 70 | 34 => 71 | 35 => 72 | 40 => 80 | n => n, fun | 0 => 0 | 3 => 3 | 4 => 4 | 5 => 5 | 9 => 9 | 22 => 41 | 23 => 41 | 25 => 3 | 32 => 58 | 35 => 83 | 36 => 84 | 41 => 89 | 44 => 59 | 46 => 69 | 53 => 109 | 57 => 113 | 63 => 125 | 64 => 126 | n => n, fun n => n⟩
theorem Try.isortLaid : Go.Proofs.SlLaysM.n5 Try.prog Try.isortLaid_ren := {
  mixed := by kernel_rfl
  f5 := ⟨Try.f15.name, by decide, Try.func15.trans (congrArg some (by kernel_rfl))⟩
  f7 := ⟨Try.f25.name, by decide, Try.func25.trans (congrArg some (by kernel_rfl))⟩
  f8 := Try.func26.trans (congrArg some (by kernel_rfl))
  f10 := ⟨Try.f42.name, by decide, Try.func42.trans (congrArg some (by kernel_rfl))⟩
  f11 := ⟨Try.f43.name, by decide, Try.func43.trans (congrArg some (by kernel_rfl))⟩
  f12 := ⟨Try.f44.name, by decide, Try.func44.trans (congrArg some (by kernel_rfl))⟩
  f13 := ⟨Try.f45.name, by decide, Try.func45.trans (congrArg some (by kernel_rfl))⟩
  f14 := ⟨Try.f46.name, by decide, Try.func46.trans (congrArg some (by kernel_rfl))⟩
  f15 := ⟨Try.f47.name, by decide, Try.func47.trans (congrArg some (by kernel_rfl))⟩
  f16 := ⟨Try.f48.name, by decide, Try.func48.trans (congrArg some (by kernel_rfl))⟩
  f17 := ⟨Try.f49.name, by decide, Try.func49.trans (congrArg some (by kernel_rfl))⟩
  f18 := ⟨Try.f50.name, by decide, Try.func50.trans (congrArg some (by kernel_rfl))⟩
  f19 := Try.func51.trans (congrArg some (by kernel_rfl))
  f20 := Try.func52.trans (congrArg some (by kernel_rfl))
  f30 := ⟨Try.f67.name, by decide, Try.func67.trans (congrArg some (by kernel_rfl))⟩
  f31 := Try.func68.trans (congrArg some (by kernel_rfl))
  f32 := Try.func69.trans (congrArg some (by kernel_rfl))
  f33 := ⟨Try.f70.name, by decide, Try.func70.trans (congrArg some (by kernel_rfl))⟩
  f34 := ⟨Try.f71.name, by decide, Try.func71.trans (congrArg some (by kernel_rfl))⟩
  f35 := ⟨Try.f72.name, by decide, Try.func72.trans (congrArg some (by kernel_rfl))⟩
  f40 := ⟨Try.f80.name, by decide, Try.func80.trans (congrArg some (by kernel_rfl))⟩
  t0 := Try.underlying0
  a0 := Try.isAgg0
  z0 := Try.sizeOf0
  v0 := Try.zeroValue0
  t3 := Try.underlying3
  a3 := Try.isAgg3
  z3 := Try.sizeOf3
  v3 := Try.zeroValue3
  t4 := Try.underlying4
  a4 := Try.isAgg4
  z4 := Try.sizeOf4
  v4 := Try.zeroValue4
  t5 := Try.underlying5
  a5 := Try.isAgg5
  z5 := Try.sizeOf5
  v5 := Try.zeroValue5
  t9 := Try.underlying9
  a9 := Try.isAgg9
  z9 := Try.sizeOf9
  v9 := Try.zeroValue9
  t22 := Try.underlying41
  a22 := Try.isAgg41
  z22 := Try.sizeOf41
  v22 := Try.zeroValue41
  t23 := Try.underlying41
  a23 := Try.isAgg41
  z23 := Try.sizeOf41
  v23 := Try.zeroValue41
  t25 := Try.underlying3
  a25 := Try.isAgg3
  z25 := Try.sizeOf3
  v25 := Try.zeroValue3
  t32 := Try.underlying58
  a32 := Try.isAgg58
  z32 := Try.sizeOf58
  v32 := Try.zeroValue58
  t35 := Try.underlying83
  a35 := Try.isAgg83
  z35 := Try.sizeOf83
  v35 := Try.zeroValue83
  t36 := Try.underlying84
  a36 := Try.isAgg84
  z36 := Try.sizeOf84
  v36 := Try.zeroValue84
  t41 := Try.underlying89
  a41 := Try.isAgg89
  z41 := Try.sizeOf89
  v41 := Try.zeroValue89
  t44 := Try.underlying59
  a44 := Try.isAgg59
  z44 := Try.sizeOf59
  v44 := Try.zeroValue59
  t46 := Try.underlying69
  a46 := Try.isAgg69
  z46 := Try.sizeOf69
  v46 := Try.zeroValue69
  t53 := Try.underlying109
  a53 := Try.isAgg109
  z53 := Try.sizeOf109
  v53 := Try.zeroValue109
  t57 := Try.underlying113
  a57 := Try.isAgg113
  z57 := Try.sizeOf113
  v57 := Try.zeroValue113
  t63 := Try.underlying125
  a63 := Try.isAgg125
  z63 := Try.sizeOf125
  v63 := Try.zeroValue125
  t64 := Try.underlying126
  a64 := Try.isAgg126
  z64 := Try.sizeOf126
  v64 := Try.zeroValue126 }
def Try.icompLaid_ren : Go.Shelf.Ren := ⟨fun | 43 => 16 | n => n, fun | 0 => 0 | 3 => 3 | 4 => 4 | 22 => 41 | 23 => 3 | n => n, fun n => n⟩
theorem Try.icompLaid : Go.Proofs.SlLaysN.n43 Try.prog Try.icompLaid_ren := {
  mixed := by kernel_rfl
  f43 := ⟨Try.f16.name, by decide, Try.func16.trans (congrArg some (by kernel_rfl))⟩
  t0 := Try.underlying0
  a0 := Try.isAgg0
  z0 := Try.sizeOf0
  v0 := Try.zeroValue0
  t3 := Try.underlying3
  a3 := Try.isAgg3
  z3 := Try.sizeOf3
  v3 := Try.zeroValue3
  t4 := Try.underlying4
  a4 := Try.isAgg4
  z4 := Try.sizeOf4
  v4 := Try.zeroValue4
  t22 := Try.underlying41
  a22 := Try.isAgg41
  z22 := Try.sizeOf41
  v22 := Try.zeroValue41
  t23 := Try.underlying3
  a23 := Try.isAgg3
  z23 := Try.sizeOf3
  v23 := Try.zeroValue3
  i23 := by kernel_rfl }

/-- Ints as cells. -/
abbrev icells (l : List Int) : List Value := l.map (Value.int .i64)
def isort (l : List Int) : List Int := l.mergeSort fun x y => decide (x ≤ y)

namespace Sh
theorem compact_rise (l : List Int) (hu : l.Pairwise (· ≤ ·)) : (Lib.compact l).Pairwise (· < ·) ∧ ∀ x, x ∈ Lib.compact l ↔ x ∈ l := by
  unfold Lib.compact
  obtain ⟨d, hd⟩ : ∃ d, l.toArray = d := ⟨_, rfl⟩
  have hl : l = d.toList := by rw [← hd]
  rw [hd, show l.length = d.size by rw [hl]; simp]
  rw [hl] at hu ⊢
  clear hd hl
  have hle : ∀ i j, i ≤ j → j < d.size → d[i]! ≤ d[j]! := by
    intro i j hij hj
    rcases Nat.lt_or_eq_of_le hij with h | rfl
    · rw [List.pairwise_iff_getElem] at hu
      have := hu i j (by simp; omega) (by simpa using hj) h
      rw [getElem!_pos d j hj, getElem!_pos d i (by omega)]
      simpa using this
    · exact Int.le_refl _
  refine ⟨?_, fun x => ?_⟩
  · unfold Lib.compactUpTo
    rw [List.pairwise_map]
    refine List.Pairwise.imp_of_mem ?_ ((List.pairwise_lt_range (n := d.size)).filter (Lib.keeps d))
    intro i j hi hj hij
    have hjm := List.mem_filter.1 hj
    have hjd := List.mem_range.1 hjm.1
    have hk : d[j]! ≠ d[j - 1]! := by
      have := hjm.2
      simp only [Lib.keeps, decide_eq_true_eq] at this
      rcases this with rfl | h
      · omega
      · exact h
    have p := hle i (j - 1) (by omega) (by omega)
    have q := hle (j - 1) j (by omega) hjd
    omega
  · unfold Lib.compactUpTo
    rw [List.mem_map]
    constructor
    · rintro ⟨j, hj, rfl⟩
      have hjd := List.mem_range.1 (List.mem_filter.1 hj).1
      rw [getElem!_pos d j hjd]
      simp
    · intro hx
      obtain ⟨j, hj, rfl⟩ := List.getElem_of_mem hx
      have hjd : j < d.size := by simpa using hj
      have ex : ∀ m, m < d.size → ∃ i, i ∈ (List.range d.size).filter (Lib.keeps d) ∧ d[i]! = d[m]! := by
        intro m
        induction m with
        | zero => intro h; exact ⟨0, List.mem_filter.2 ⟨List.mem_range.2 h, by simp [Lib.keeps]⟩, rfl⟩
        | succ m ih =>
          intro h
          by_cases e : d[m + 1]! = d[m]!
          · obtain ⟨i, hi, he⟩ := ih (by omega)
            exact ⟨i, hi, he.trans e.symm⟩
          · exact ⟨m + 1, List.mem_filter.2 ⟨List.mem_range.2 h, by simp only [Lib.keeps, decide_eq_true_eq]; right; simpa using e⟩, rfl⟩
      obtain ⟨i, hi, he⟩ := ex j hjd
      refine ⟨i, hi, he.trans ?_⟩
      rw [getElem!_pos d j hjd]
      simp
theorem isort_up (l : List Int) : (isort l).Pairwise (· ≤ ·) := by
  have h := List.pairwise_mergeSort (le := fun x y : Int => decide (x ≤ y)) (fun a b c h1 h2 => by simp at *; omega) (fun a b => by simp; omega) l
  exact h.imp fun h => by simpa using h
/-- The ends of the edges that begin at v, as they come. -/
def raws (l : List (Int × Int)) (v : Int) : List Int := (l.filter fun x => decide (x.1 = v)).map (·.2)
theorem raws_ends (l : List (Int × Int)) (v : Int) : Lib.compact (isort (raws l v)) = ends l v := by
  obtain ⟨h1, h2⟩ := compact_rise (isort (raws l v)) (isort_up _)
  refine (ends_unique h1 fun x => ?_).symm
  rw [h2, isort, List.mem_mergeSort]
  unfold raws
  rw [List.mem_map]
  constructor
  · rintro ⟨y, hy, rfl⟩
    rw [List.mem_filter] at hy
    have e : y.1 = v := by simpa using hy.2
    rw [← e]
    exact hy.1
  · intro h
    exact ⟨(v, x), List.mem_filter.2 ⟨h, by simp⟩, rfl⟩
theorem compact_len (l : List Int) : (Lib.compact l).length ≤ l.length := by
  unfold Lib.compact Lib.compactUpTo
  rw [List.length_map]
  exact Nat.le_trans (List.length_filter_le _ _) (by simp)
theorem isort_len (l : List Int) : (isort l).length = l.length := List.length_mergeSort _
end Sh

/-- A row of the call's own holds its ints. -/
theorem iholds_own {w : World} {base g n cap : Nat} {l : List Int} (h : w.ownsRow base 3 1 (.slice (some ⟨g, 0, none⟩) n cap) n (icells l)) : Go.Sort.Holds (Value.int .i64) w g 0 l.toArray := by
  intro j hj
  have hlen := h.1
  have hj2 : j < l.length := by simpa using hj
  simp only [icells, List.length_map] at hlen
  refine ⟨?_, h.frozenAt _⟩
  rw [h.cellAt (0 + j) (by omega), Nat.zero_add, List.getElem?_map, List.getElem?_eq_getElem hj2]
  simp [getElem!_pos, hj2]

theorem grown_put {w : World} {g m : Nat} {os : Array Obj} (d : Array Int) : w.grownBy (grow (putRow (Value.int .i64) (Sort.ahead w m) g 0 d) os) (some g) := by
  refine ⟨rfl, rfl, rfl, by simp [grow, putRow, mapBlock, Sort.ahead], fun k hk hne => ?_⟩
  rw [heap_grow_old _ _ (by simpa [putRow, mapBlock, Sort.ahead] using hk)]
  have : g ≠ k := fun e => hne (by rw [e])
  simp [putRow, mapBlock, Sort.ahead, Array.getElem?_modify, this]

theorem owns_put {w : World} {base g n cap m : Nat} {os : Array Obj} {l r : List Int} (hr : r.length = n)
    (h : w.ownsRow base 3 1 (.slice (some ⟨g, 0, none⟩) n cap) n (icells l)) :
    (grow (putRow (Value.int .i64) (Sort.ahead w m) g 0 r.toArray) os).ownsRow base 3 1 (.slice (some ⟨g, 0, none⟩) n cap) n (icells r) := by
  refine ⟨by simp [icells, hr], ?_⟩
  rcases h.2 with ⟨h', _⟩ | ⟨g', cap', cur, h', hb, hg, hnc, hcm, hcs, htake⟩
  · simp at h'
  · simp only [Value.slice.injEq, Option.some.injEq, Addr.mk.injEq, and_true, true_and] at h'
    obtain ⟨rfl, rfl⟩ := h'
    have hlt : g < w.heap.size := (Array.getElem?_eq_some_iff.1 hg).1
    refine .inr ⟨g, cap, putCells (Value.int .i64) 0 r.toArray cur, rfl, hb, ?_, hnc, hcm, by simp [putCells, hcs], ?_⟩
    · rw [heap_grow_old _ _ (by simpa [putRow, mapBlock, Sort.ahead] using hlt)]
      simp [putRow, mapBlock, Sort.ahead, Array.getElem?_modify, hg, onCells]
    · apply List.ext_getElem?
      intro j
      by_cases hj : j < n
      · rw [List.getElem?_take_of_lt (by omega), Array.getElem?_toList]
        have h1 : j < cur.size := by rw [hcs]; omega
        simp only [putCells, Array.getElem?_mapIdx, Array.getElem?_eq_getElem h1, Option.map_some, Nat.zero_add, Nat.sub_zero, Nat.zero_le, true_and]
        rw [if_pos (by simp; omega), List.getElem?_map, List.getElem?_eq_getElem (by omega)]
        simp [getElem!_pos, hr, hj]
      · rw [List.getElem?_take_eq_none (by omega), List.getElem?_eq_none (by simp; omega)]

theorem own_take {W : World} {base e g n cap k : Nat} {xs : List Value} (h : W.ownsRow base e 1 (.slice (some ⟨g, 0, none⟩) n cap) n xs) (hk : k ≤ n) : W.ownsRow base e 1 (.slice (some ⟨g, 0, none⟩) k cap) k (xs.take k) := by
  have hlen := h.1
  refine ⟨by rw [List.length_take]; omega, ?_⟩
  rcases h.2 with ⟨h', _⟩ | ⟨g', cap', cur, h', hb, hg, hnc, hcm, hcs, htake⟩
  · simp at h'
  · simp only [Value.slice.injEq, Option.some.injEq, Addr.mk.injEq, and_true, true_and] at h'
    obtain ⟨rfl, rfl⟩ := h'
    refine .inr ⟨g, cap, cur, rfl, hb, hg, by omega, hcm, hcs, ?_⟩
    rw [← htake, List.take_take, Nat.min_eq_left (by omega), Nat.mul_one]

set_option maxHeartbeats 1000000 in
/-- The sort of a row of the call's own. -/
theorem isort_own (v : Value) (base n : Nat) (l : List Int) (w : World) (h : w.ownsRow base 3 1 v n (icells l)) (hn : n ≤ 1000000000) :
    Calls Try.prog 15 #[v] w fun e w' => e = .returned (.tuple #[]) ∧ w'.ownsRow base 3 1 v n (icells (isort l)) ∧ w.grownBy w' v.ownBlock := by
  have hlen := h.1
  simp only [icells, List.length_map] at hlen
  rcases h.2 with ⟨rfl, rfl⟩ | ⟨g, cap, cur, rfl, hb, hg, hnc, hcm, hcs, htake⟩
  · obtain rfl : l = [] := List.length_eq_zero_iff.1 (by omega)
    refine (AnyM.slices_Sort_int_none Try.isortLaid none 0 w).mono ?_
    rintro e w' ⟨rfl, rfl⟩
    rw [show isort [] = [] by unfold isort; simp]
    exact ⟨rfl, h, rfl, rfl, rfl, Nat.le_refl _, fun _ _ _ => rfl⟩
  · have hcon := AnyM.slices_Sort_int Try.isortLaid g 0 cap l w (iholds_own h) (Array.getElem?_eq_some_iff.1 hg).1 (by omega)
    rw [show l.length = n by omega] at hcon
    refine Calls.mono hcon ?_
    rintro e w' ⟨rfl, m, os, rfl⟩
    exact ⟨rfl, owns_put (r := isort l) (by rw [Sh.isort_len]; omega) h, grown_put _⟩

set_option maxHeartbeats 1000000 in
/-- The compacting of a row of the call's own. -/
theorem icomp_own (v : Value) (base n : Nat) (l : List Int) (w : World) (h : w.ownsRow base 3 1 v n (icells l)) (hn : n ≤ 1000000000) :
    Calls Try.prog 16 #[v] w fun e w' => ∃ v', e = .returned v' ∧ v'.ownBlock = v.ownBlock ∧ w'.ownsRow base 3 1 v' (Lib.compact l).length (icells (Lib.compact l)) ∧ w.grownBy w' v.ownBlock := by
  have hlen := h.1
  simp only [icells, List.length_map] at hlen
  rcases h.2 with ⟨rfl, rfl⟩ | ⟨g, cap, cur, rfl, hb, hg, hnc, hcm, hcs, htake⟩
  · obtain rfl : l = [] := List.length_eq_zero_iff.1 (by omega)
    refine (AnyG.slices_Compact_int_empty Try.icompLaid none 0 w).mono ?_
    rintro e w' ⟨rfl, rfl⟩
    exact ⟨_, rfl, rfl, h, rfl, rfl, rfl, Nat.le_refl _, fun _ _ _ => rfl⟩
  · have hcon := AnyG.slices_Compact_int Try.icompLaid g 0 cap l w (iholds_own h) (by omega) (by omega)
    rw [show l.length = n by omega] at hcon
    have hcl := Sh.compact_len l
    refine Calls.mono hcon ?_
    rintro e w' ⟨rfl, q, rfl⟩
    have h1 := owns_put (w := w) (m := q) (os := #[]) (r := Lib.compact l ++ List.replicate (n - (Lib.compact l).length) 0) (by rw [List.length_append, List.length_replicate]; omega) h
    have h2 := own_take h1 (k := (Lib.compact l).length) (by omega)
    rw [← List.map_take, List.take_left, grow_empty] at h2
    refine ⟨_, rfl, rfl, h2, ?_⟩
    have h3 := grown_put (w := w) (g := g) (m := q) (os := #[]) (Lib.compact l ++ List.replicate (n - (Lib.compact l).length) 0).toArray
    rwa [grow_empty] at h3

end Go.Proofs.Ytbhngncnhabbkaa
