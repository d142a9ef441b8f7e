/- slices.Sort and slices.Compact of ints, by the library's contracts, over rows of the call's own. -/
import Derived.Test.YtbhngncnhabbkaaGreatHDcd
import Derived.Shelf.SortM.SortNone
import Derived.Shelf.SortM.Plain
import Derived.Shelf.SlicesG.CompactI
namespace Go.Proofs.YtbhngncnhabbkaaGreat
open Go.RowKit Go.Shelf Go.Sort

def Tryz.isortLaid_ren : Go.Shelf.Ren := ⟨fun | 5 => 51 | 7 => 79 | 8 => 80 | 10 => 98 | 11 => 99 | 12 => 100 | 13 => 101 | 14 => 102 | 15 => 103 | 16 => 104 | 17 => 105 | 18 => 106 | 19 => 107 | 20 => 108 | 30 => 124 | 31 => 125 | 32 => 126 | 33 => 127 | 34 => 128 | 35 => 97 | 40 => 136 | n => n, fun | 0 => 0 | 3 => 3 | 4 => 4 | 5 => 5 | 9 => 9 | 22 => 58 | 23 => 58 | 25 => 3 | 32 => 102 | 35 => 133 | 36 => 134 | 41 => 138 | 44 => 45 | 46 => 91 | 53 => 152 | 57 => 156 | 63 => 166 | 64 => 167 | n => n, fun n => n⟩
theorem Tryz.isortLaid : Go.Proofs.SlLaysM.n5 Tryz.prog Tryz.isortLaid_ren := {
  mixed := by kernel_rfl
  f5 := ⟨Tryz.f51.name, by decide, Tryz.func51.trans (congrArg some (by kernel_rfl))⟩
  f7 := ⟨Tryz.f79.name, by decide, Tryz.func79.trans (congrArg some (by kernel_rfl))⟩
  f8 := Tryz.func80.trans (congrArg some (by kernel_rfl))
  f10 := ⟨Tryz.f98.name, by decide, Tryz.func98.trans (congrArg some (by kernel_rfl))⟩
  f11 := ⟨Tryz.f99.name, by decide, Tryz.func99.trans (congrArg some (by kernel_rfl))⟩
  f12 := ⟨Tryz.f100.name, by decide, Tryz.func100.trans (congrArg some (by kernel_rfl))⟩
  f13 := ⟨Tryz.f101.name, by decide, Tryz.func101.trans (congrArg some (by kernel_rfl))⟩
  f14 := ⟨Tryz.f102.name, by decide, Tryz.func102.trans (congrArg some (by kernel_rfl))⟩
  f15 := ⟨Tryz.f103.name, by decide, Tryz.func103.trans (congrArg some (by kernel_rfl))⟩
  f16 := ⟨Tryz.f104.name, by decide, Tryz.func104.trans (congrArg some (by kernel_rfl))⟩
  f17 := ⟨Tryz.f105.name, by decide, Tryz.func105.trans (congrArg some (by kernel_rfl))⟩
  f18 := ⟨Tryz.f106.name, by decide, Tryz.func106.trans (congrArg some (by kernel_rfl))⟩
  f19 := Tryz.func107.trans (congrArg some (by kernel_rfl))
  f20 := Tryz.func108.trans (congrArg some (by kernel_rfl))
  f30 := ⟨Tryz.f124.name, by decide, Tryz.func124.trans (congrArg some (by kernel_rfl))⟩
  f31 := Tryz.func125.trans (congrArg some (by kernel_rfl))
  f32 := Tryz.func126.trans (congrArg some (by kernel_rfl))
  f33 := ⟨Tryz.f127.name, by decide, Tryz.func127.trans (congrArg some (by kernel_rfl))⟩
  f34 := ⟨Tryz.f128.name, by decide, Tryz.func128.trans (congrArg some (by kernel_rfl))⟩
  f35 := ⟨Tryz.f97.name, by decide, Tryz.func97.trans (congrArg some (by kernel_rfl))⟩
  f40 := ⟨Tryz.f136.name, by decide, Tryz.func136.trans (congrArg some (by kernel_rfl))⟩
  t0 := Tryz.underlying0
  a0 := Tryz.isAgg0
  z0 := Tryz.sizeOf0
  v0 := Tryz.zeroValue0
  t3 := Tryz.underlying3
  a3 := Tryz.isAgg3
  z3 := Tryz.sizeOf3
  v3 := Tryz.zeroValue3
  t4 := Tryz.underlying4
  a4 := Tryz.isAgg4
  z4 := Tryz.sizeOf4
  v4 := Tryz.zeroValue4
  t5 := Tryz.underlying5
  a5 := Tryz.isAgg5
  z5 := Tryz.sizeOf5
  v5 := Tryz.zeroValue5
  t9 := Tryz.underlying9
  a9 := Tryz.isAgg9
  z9 := Tryz.sizeOf9
  v9 := Tryz.zeroValue9
  t22 := Tryz.underlying58
  a22 := Tryz.isAgg58
  z22 := Tryz.sizeOf58
  v22 := Tryz.zeroValue58
  t23 := Tryz.underlying58
  a23 := Tryz.isAgg58
  z23 := Tryz.sizeOf58
  v23 := Tryz.zeroValue58
  t25 := Tryz.underlying3
  a25 := Tryz.isAgg3
  z25 := Tryz.sizeOf3
  v25 := Tryz.zeroValue3
  t32 := Tryz.underlying102
  a32 := Tryz.isAgg102
  z32 := Tryz.sizeOf102
  v32 := Tryz.zeroValue102
  t35 := Tryz.underlying133
  a35 := Tryz.isAgg133
  z35 := Tryz.sizeOf133
  v35 := Tryz.zeroValue133
  t36 := Tryz.underlying134
  a36 := Tryz.isAgg134
  z36 := Tryz.sizeOf134
  v36 := Tryz.zeroValue134
  t41 := Tryz.underlying138
  a41 := Tryz.isAgg138
  z41 := Tryz.sizeOf138
  v41 := Tryz.zeroValue138
  t44 := Tryz.underlying45
  a44 := Tryz.isAgg45
  z44 := Tryz.sizeOf45
  v44 := Tryz.zeroValue45
  t46 := Tryz.underlying91
  a46 := Tryz.isAgg91
  z46 := Tryz.sizeOf91
  v46 := Tryz.zeroValue91
  t53 := Tryz.underlying152
  a53 := Tryz.isAgg152
  z53 := Tryz.sizeOf152
  v53 := Tryz.zeroValue152
  t57 := Tryz.underlying156
  a57 := Tryz.isAgg156
  z57 := Tryz.sizeOf156
  v57 := Tryz.zeroValue156
  t63 := Tryz.underlying166
  a63 := Tryz.isAgg166
  z63 := Tryz.sizeOf166
  v63 := Tryz.zeroValue166
  t64 := Tryz.underlying167
  a64 := Tryz.isAgg167
  z64 := Tryz.sizeOf167
  v64 := Tryz.zeroValue167 }
def Tryz.icompLaid_ren : Go.Shelf.Ren := ⟨fun | 43 => 52 | n => n, fun | 0 => 0 | 3 => 3 | 4 => 4 | 22 => 58 | 23 => 3 | n => n, fun n => n⟩
theorem Tryz.icompLaid : Go.Proofs.SlLaysN.n43 Tryz.prog Tryz.icompLaid_ren := {
  mixed := by kernel_rfl
  f43 := ⟨Tryz.f52.name, by decide, Tryz.func52.trans (congrArg some (by kernel_rfl))⟩
  t0 := Tryz.underlying0
  a0 := Tryz.isAgg0
  z0 := Tryz.sizeOf0
  v0 := Tryz.zeroValue0
  t3 := Tryz.underlying3
  a3 := Tryz.isAgg3
  z3 := Tryz.sizeOf3
  v3 := Tryz.zeroValue3
  t4 := Tryz.underlying4
  a4 := Tryz.isAgg4
  z4 := Tryz.sizeOf4
  v4 := Tryz.zeroValue4
  t22 := Tryz.underlying58
  a22 := Tryz.isAgg58
  z22 := Tryz.sizeOf58
  v22 := Tryz.zeroValue58
  t23 := Tryz.underlying3
  a23 := Tryz.isAgg3
  z23 := Tryz.sizeOf3
  v23 := Tryz.zeroValue3
  i23 := by kernel_rfl }

/-- Ints as cells. -/
abbrev icells (l : List Int) : List Value := l.map (Value.int .i64)
def isort (l : List Int) : List Int := l.mergeSort fun x y => decide (x ≤ y)

namespace Sh
theorem compact_rise (l : List Int) (hu : l.Pairwise (· ≤ ·)) : (Lib.compact l).Pairwise (· < ·) ∧ ∀ x, x ∈ Lib.compact l ↔ x ∈ l := by
  unfold Lib.compact
  obtain ⟨d, hd⟩ : ∃ d, l.toArray = d := ⟨_, rfl⟩
  have hl : l = d.toList := by rw [← hd]
  rw [hd, show l.length = d.size by rw [hl]; simp]
  rw [hl] at hu ⊢
  clear hd hl
  have hle : ∀ i j, i ≤ j → j < d.size → d[i]! ≤ d[j]! := by
    intro i j hij hj
    rcases Nat.lt_or_eq_of_le hij with h | rfl
    · rw [List.pairwise_iff_getElem] at hu
      have := hu i j (by simp; omega) (by simpa using hj) h
      rw [getElem!_pos d j hj, getElem!_pos d i (by omega)]
      simpa using this
    · exact Int.le_refl _
  refine ⟨?_, fun x => ?_⟩
  · unfold Lib.compactUpTo
    rw [List.pairwise_map]
    refine List.Pairwise.imp_of_mem ?_ ((List.pairwise_lt_range (n := d.size)).filter (Lib.keeps d))
    intro i j hi hj hij
    have hjm := List.mem_filter.1 hj
    have hjd := List.mem_range.1 hjm.1
    have hk : d[j]! ≠ d[j - 1]! := by
      have := hjm.2
      simp only [Lib.keeps, decide_eq_true_eq] at this
      rcases this with rfl | h
      · omega
      · exact h
    have p := hle i (j - 1) (by omega) (by omega)
    have q := hle (j - 1) j (by omega) hjd
    omega
  · unfold Lib.compactUpTo
    rw [List.mem_map]
    constructor
    · rintro ⟨j, hj, rfl⟩
      have hjd := List.mem_range.1 (List.mem_filter.1 hj).1
      rw [getElem!_pos d j hjd]
      simp
    · intro hx
      obtain ⟨j, hj, rfl⟩ := List.getElem_of_mem hx
      have hjd : j < d.size := by simpa using hj
      have ex : ∀ m, m < d.size → ∃ i, i ∈ (List.range d.size).filter (Lib.keeps d) ∧ d[i]! = d[m]! := by
        intro m
        induction m with
        | zero => intro h; exact ⟨0, List.mem_filter.2 ⟨List.mem_range.2 h, by simp [Lib.keeps]⟩, rfl⟩
        | succ m ih =>
          intro h
          by_cases e : d[m + 1]! = d[m]!
          · obtain ⟨i, hi, he⟩ := ih (by omega)
            exact ⟨i, hi, he.trans e.symm⟩
          · exact ⟨m + 1, List.mem_filter.2 ⟨List.mem_range.2 h, by simp only [Lib.keeps, decide_eq_true_eq]; right; simpa using e⟩, rfl⟩
      obtain ⟨i, hi, he⟩ := ex j hjd
      refine ⟨i, hi, he.trans ?_⟩
      rw [getElem!_pos d j hjd]
      simp
theorem isort_up (l : List Int) : (isort l).Pairwise (· ≤ ·) := by
  have h := List.pairwise_mergeSort (le := fun x y : Int => decide (x ≤ y)) (fun a b c h1 h2 => by simp at *; omega) (fun a b => by simp; omega) l
  exact h.imp fun h => by simpa using h
/-- The ends of the edges that begin at v, as they come. -/
def raws (l : List (Int × Int)) (v : Int) : List Int := (l.filter fun x => decide (x.1 = v)).map (·.2)
theorem raws_ends (l : List (Int × Int)) (v : Int) : Lib.compact (isort (raws l v)) = ends l v := by
  obtain ⟨h1, h2⟩ := compact_rise (isort (raws l v)) (isort_up _)
  refine (ends_unique h1 fun x => ?_).symm
  rw [h2, isort, List.mem_mergeSort]
  unfold raws
  rw [List.mem_map]
  constructor
  · rintro ⟨y, hy, rfl⟩
    rw [List.mem_filter] at hy
    have e : y.1 = v := by simpa using hy.2
    rw [← e]
    exact hy.1
  · intro h
    exact ⟨(v, x), List.mem_filter.2 ⟨h, by simp⟩, rfl⟩
theorem compact_len (l : List Int) : (Lib.compact l).length ≤ l.length := by
  unfold Lib.compact Lib.compactUpTo
  rw [List.length_map]
  exact Nat.le_trans (List.length_filter_le _ _) (by simp)
theorem isort_len (l : List Int) : (isort l).length = l.length := List.length_mergeSort _
end Sh

/-- A row of the call's own holds its ints. -/
theorem iholds_own {w : World} {base g n cap : Nat} {l : List Int} (h : w.ownsRow base 3 1 (.slice (some ⟨g, 0, none⟩) n cap) n (icells l)) : Go.Sort.Holds (Value.int .i64) w g 0 l.toArray := by
  intro j hj
  have hlen := h.1
  have hj2 : j < l.length := by simpa using hj
  simp only [icells, List.length_map] at hlen
  refine ⟨?_, h.frozenAt _⟩
  rw [h.cellAt (0 + j) (by omega), Nat.zero_add, List.getElem?_map, List.getElem?_eq_getElem hj2]
  simp [getElem!_pos, hj2]

theorem grown_put {w : World} {g m : Nat} {os : Array Obj} (d : Array Int) : w.grownBy (grow (putRow (Value.int .i64) (Sort.ahead w m) g 0 d) os) (some g) := by
  refine ⟨rfl, rfl, rfl, by simp [grow, putRow, mapBlock, Sort.ahead], fun k hk hne => ?_⟩
  rw [heap_grow_old _ _ (by simpa [putRow, mapBlock, Sort.ahead] using hk)]
  have : g ≠ k := fun e => hne (by rw [e])
  simp [putRow, mapBlock, Sort.ahead, Array.getElem?_modify, this]

theorem owns_put {w : World} {base g n cap m : Nat} {os : Array Obj} {l r : List Int} (hr : r.length = n)
    (h : w.ownsRow base 3 1 (.slice (some ⟨g, 0, none⟩) n cap) n (icells l)) :
    (grow (putRow (Value.int .i64) (Sort.ahead w m) g 0 r.toArray) os).ownsRow base 3 1 (.slice (some ⟨g, 0, none⟩) n cap) n (icells r) := by
  refine ⟨by simp [icells, hr], ?_⟩
  rcases h.2 with ⟨h', _⟩ | ⟨g', cap', cur, h', hb, hg, hnc, hcm, hcs, htake⟩
  · simp at h'
  · simp only [Value.slice.injEq, Option.some.injEq, Addr.mk.injEq, and_true, true_and] at h'
    obtain ⟨rfl, rfl⟩ := h'
    have hlt : g < w.heap.size := (Array.getElem?_eq_some_iff.1 hg).1
    refine .inr ⟨g, cap, putCells (Value.int .i64) 0 r.toArray cur, rfl, hb, ?_, hnc, hcm, by simp [putCells, hcs], ?_⟩
    · rw [heap_grow_old _ _ (by simpa [putRow, mapBlock, Sort.ahead] using hlt)]
      simp [putRow, mapBlock, Sort.ahead, Array.getElem?_modify, hg, onCells]
    · apply List.ext_getElem?
      intro j
      by_cases hj : j < n
      · rw [List.getElem?_take_of_lt (by omega), Array.getElem?_toList]
        have h1 : j < cur.size := by rw [hcs]; omega
        simp only [putCells, Array.getElem?_mapIdx, Array.getElem?_eq_getElem h1, Option.map_some, Nat.zero_add, Nat.sub_zero, Nat.zero_le, true_and]
        rw [if_pos (by simp; omega), List.getElem?_map, List.getElem?_eq_getElem (by omega)]
        simp [getElem!_pos, hr, hj]
      · rw [List.getElem?_take_eq_none (by omega), List.getElem?_eq_none (by simp; omega)]

theorem own_take {W : World} {base e g n cap k : Nat} {xs : List Value} (h : W.ownsRow base e 1 (.slice (some ⟨g, 0, none⟩) n cap) n xs) (hk : k ≤ n) : W.ownsRow base e 1 (.slice (some ⟨g, 0, none⟩) k cap) k (xs.take k) := by
  have hlen := h.1
  refine ⟨by rw [List.length_take]; omega, ?_⟩
  rcases h.2 with ⟨h', _⟩ | ⟨g', cap', cur, h', hb, hg, hnc, hcm, hcs, htake⟩
  · simp at h'
  · simp only [Value.slice.injEq, Option.some.injEq, Addr.mk.injEq, and_true, true_and] at h'
    obtain ⟨rfl, rfl⟩ := h'
    refine .inr ⟨g, cap, cur, rfl, hb, hg, by omega, hcm, hcs, ?_⟩
    rw [← htake, List.take_take, Nat.min_eq_left (by omega), Nat.mul_one]

set_option maxHeartbeats 1000000 in
/-- The sort of a row of the call's own. -/
theorem isort_own (v : Value) (base n : Nat) (l : List Int) (w : World) (h : w.ownsRow base 3 1 v n (icells l)) (hn : n ≤ 1000000000) :
    Calls Tryz.prog 51 #[v] w fun e w' => e = .returned (.tuple #[]) ∧ w'.ownsRow base 3 1 v n (icells (isort l)) ∧ w.grownBy w' v.ownBlock := by
  have hlen := h.1
  simp only [icells, List.length_map] at hlen
  rcases h.2 with ⟨rfl, rfl⟩ | ⟨g, cap, cur, rfl, hb, hg, hnc, hcm, hcs, htake⟩
  · obtain rfl : l = [] := List.length_eq_zero_iff.1 (by omega)
    refine (AnyM.slices_Sort_int_none Tryz.isortLaid none 0 w).mono ?_
    rintro e w' ⟨rfl, rfl⟩
    rw [show isort [] = [] by unfold isort; simp]
    exact ⟨rfl, h, rfl, rfl, rfl, Nat.le_refl _, fun _ _ _ => rfl⟩
  · have hcon := AnyM.slices_Sort_int Tryz.isortLaid g 0 cap l w (iholds_own h) (Array.getElem?_eq_some_iff.1 hg).1 (by omega)
    rw [show l.length = n by omega] at hcon
    refine Calls.mono hcon ?_
    rintro e w' ⟨rfl, m, os, rfl⟩
    exact ⟨rfl, owns_put (r := isort l) (by rw [Sh.isort_len]; omega) h, grown_put _⟩

set_option maxHeartbeats 1000000 in
/-- The compacting of a row of the call's own. -/
theorem icomp_own (v : Value) (base n : Nat) (l : List Int) (w : World) (h : w.ownsRow base 3 1 v n (icells l)) (hn : n ≤ 1000000000) :
    Calls Tryz.prog 52 #[v] w fun e w' => ∃ v', e = .returned v' ∧ v'.ownBlock = v.ownBlock ∧ w'.ownsRow base 3 1 v' (Lib.compact l).length (icells (Lib.compact l)) ∧ w.grownBy w' v.ownBlock := by
  have hlen := h.1
  simp only [icells, List.length_map] at hlen
  rcases h.2 with ⟨rfl, rfl⟩ | ⟨g, cap, cur, rfl, hb, hg, hnc, hcm, hcs, htake⟩
  · obtain rfl : l = [] := List.length_eq_zero_iff.1 (by omega)
    refine (AnyG.slices_Compact_int_empty Tryz.icompLaid none 0 w).mono ?_
    rintro e w' ⟨rfl, rfl⟩
    exact ⟨_, rfl, rfl, h, rfl, rfl, rfl, Nat.le_refl _, fun _ _ _ => rfl⟩
  · have hcon := AnyG.slices_Compact_int Tryz.icompLaid g 0 cap l w (iholds_own h) (by omega) (by omega)
    rw [show l.length = n by omega] at hcon
    have hcl := Sh.compact_len l
    refine Calls.mono hcon ?_
    rintro e w' ⟨rfl, q, rfl⟩
    have h1 := owns_put (w := w) (m := q) (os := #[]) (r := Lib.compact l ++ List.replicate (n - (Lib.compact l).length) 0) (by rw [List.length_append, List.length_replicate]; omega) h
    have h2 := own_take h1 (k := (Lib.compact l).length) (by omega)
    rw [← List.map_take, List.take_left, grow_empty] at h2
    refine ⟨_, rfl, rfl, h2, ?_⟩
    have h3 := grown_put (w := w) (g := g) (m := q) (os := #[]) (Lib.compact l ++ List.replicate (n - (Lib.compact l).length) 0).toArray
    rwa [grow_empty] at h3

end Go.Proofs.YtbhngncnhabbkaaGreat
