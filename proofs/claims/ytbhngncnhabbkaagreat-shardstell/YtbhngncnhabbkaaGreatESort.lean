/- slices.SortFunc and slices.ContainsFunc at edges, by the library's contracts, in plain words; the walks of slices.Clone and of rising. -/
import Derived.Test.YtbhngncnhabbkaaGreatEWalk
import Derived.Shelf.SlSortCmp.NoneTotal
import Derived.Shelf.SlicesQ.IndexFunc
import Derived.Laws.IdiomCopy
namespace Go.Proofs.YtbhngncnhabbkaaGreat
open Go.RowKit Go.Shelf Go.Sort

def Tryz.sortLaid_ren : Go.Shelf.Ren := ⟨fun | 6 => 75 | 15 => 80 | 14 => 96 | 28 => 107 | 29 => 108 | 20 => 116 | 21 => 117 | 22 => 118 | 23 => 119 | 24 => 120 | 25 => 121 | 26 => 122 | 27 => 123 | 46 => 133 | 47 => 125 | 48 => 126 | 49 => 134 | 50 => 135 | 57 => 139 | n => n, fun | 22 => 36 | 24 => 56 | 25 => 115 | 3 => 3 | 39 => 102 | 0 => 0 | 53 => 45 | 55 => 91 | 4 => 4 | 46 => 134 | 45 => 133 | 50 => 138 | 5 => 5 | 9 => 9 | 66 => 152 | 70 => 156 | 76 => 166 | 77 => 167 | n => n, fun n => n⟩
theorem Tryz.sortLaid : Go.Proofs.SlLaysF0.n6 Tryz.prog Tryz.sortLaid_ren := {
  mixed := by kernel_rfl
  f6 := ⟨Tryz.f75.name, by decide, Tryz.func75.trans (congrArg some (by kernel_rfl))⟩
  f14 := ⟨Tryz.f96.name, by decide, Tryz.func96.trans (congrArg some (by kernel_rfl))⟩
  f15 := Tryz.func80.trans (congrArg some (by kernel_rfl))
  f20 := ⟨Tryz.f116.name, by decide, Tryz.func116.trans (congrArg some (by kernel_rfl))⟩
  f21 := ⟨Tryz.f117.name, by decide, Tryz.func117.trans (congrArg some (by kernel_rfl))⟩
  f22 := ⟨Tryz.f118.name, by decide, Tryz.func118.trans (congrArg some (by kernel_rfl))⟩
  f23 := ⟨Tryz.f119.name, by decide, Tryz.func119.trans (congrArg some (by kernel_rfl))⟩
  f24 := ⟨Tryz.f120.name, by decide, Tryz.func120.trans (congrArg some (by kernel_rfl))⟩
  f25 := ⟨Tryz.f121.name, by decide, Tryz.func121.trans (congrArg some (by kernel_rfl))⟩
  f26 := ⟨Tryz.f122.name, by decide, Tryz.func122.trans (congrArg some (by kernel_rfl))⟩
  f27 := ⟨Tryz.f123.name, by decide, Tryz.func123.trans (congrArg some (by kernel_rfl))⟩
  f28 := Tryz.func107.trans (congrArg some (by kernel_rfl))
  f29 := Tryz.func108.trans (congrArg some (by kernel_rfl))
  f46 := ⟨Tryz.f133.name, by decide, Tryz.func133.trans (congrArg some (by kernel_rfl))⟩
  f47 := Tryz.func125.trans (congrArg some (by kernel_rfl))
  f48 := Tryz.func126.trans (congrArg some (by kernel_rfl))
  f49 := ⟨Tryz.f134.name, by decide, Tryz.func134.trans (congrArg some (by kernel_rfl))⟩
  f50 := ⟨Tryz.f135.name, by decide, Tryz.func135.trans (congrArg some (by kernel_rfl))⟩
  f57 := ⟨Tryz.f139.name, by decide, Tryz.func139.trans (congrArg some (by kernel_rfl))⟩
  t0 := Tryz.underlying0
  a0 := Tryz.isAgg0
  z0 := Tryz.sizeOf0
  v0 := Tryz.zeroValue0
  t3 := Tryz.underlying3
  a3 := Tryz.isAgg3
  z3 := Tryz.sizeOf3
  v3 := Tryz.zeroValue3
  t4 := Tryz.underlying4
  a4 := Tryz.isAgg4
  z4 := Tryz.sizeOf4
  v4 := Tryz.zeroValue4
  t5 := Tryz.underlying5
  a5 := Tryz.isAgg5
  z5 := Tryz.sizeOf5
  v5 := Tryz.zeroValue5
  t9 := Tryz.underlying9
  a9 := Tryz.isAgg9
  z9 := Tryz.sizeOf9
  v9 := Tryz.zeroValue9
  t22 := Tryz.underlying36
  a22 := Tryz.isAgg36
  z22 := Tryz.sizeOf36
  v22 := Tryz.zeroValue36
  t25 := Tryz.underlying115
  a25 := Tryz.isAgg115
  z25 := Tryz.sizeOf115
  v25 := Tryz.zeroValue115
  t39 := Tryz.underlying102
  a39 := Tryz.isAgg102
  z39 := Tryz.sizeOf102
  v39 := Tryz.zeroValue102
  t45 := Tryz.underlying133
  a45 := Tryz.isAgg133
  z45 := Tryz.sizeOf133
  v45 := Tryz.zeroValue133
  t46 := Tryz.underlying134
  a46 := Tryz.isAgg134
  z46 := Tryz.sizeOf134
  v46 := Tryz.zeroValue134
  t50 := Tryz.underlying138
  a50 := Tryz.isAgg138
  z50 := Tryz.sizeOf138
  v50 := Tryz.zeroValue138
  t53 := Tryz.underlying45
  a53 := Tryz.isAgg45
  z53 := Tryz.sizeOf45
  v53 := Tryz.zeroValue45
  t55 := Tryz.underlying91
  a55 := Tryz.isAgg91
  z55 := Tryz.sizeOf91
  v55 := Tryz.zeroValue91
  t66 := Tryz.underlying152
  a66 := Tryz.isAgg152
  z66 := Tryz.sizeOf152
  v66 := Tryz.zeroValue152
  t70 := Tryz.underlying156
  a70 := Tryz.isAgg156
  z70 := Tryz.sizeOf156
  v70 := Tryz.zeroValue156
  t76 := Tryz.underlying166
  a76 := Tryz.isAgg166
  z76 := Tryz.sizeOf166
  v76 := Tryz.zeroValue166
  t77 := Tryz.underlying167
  a77 := Tryz.isAgg167
  z77 := Tryz.sizeOf167
  v77 := Tryz.zeroValue167 }

def Tryz.anyLaid_ren : Go.Shelf.Ren := ⟨fun | 8 => 43 | 6 => 72 | n => n, fun | 22 => 36 | 23 => 56 | 25 => 81 | 4 => 4 | 3 => 3 | 0 => 0 | n => n, fun n => n⟩
theorem Tryz.anyLaid : Go.Proofs.SlLaysH0.n8 Tryz.prog Tryz.anyLaid_ren := {
  mixed := by kernel_rfl
  f6 := ⟨Tryz.f72.name, by decide, Tryz.func72.trans (congrArg some (by kernel_rfl))⟩
  f8 := ⟨Tryz.f43.name, by decide, Tryz.func43.trans (congrArg some (by kernel_rfl))⟩
  t0 := Tryz.underlying0
  a0 := Tryz.isAgg0
  z0 := Tryz.sizeOf0
  v0 := Tryz.zeroValue0
  t3 := Tryz.underlying3
  a3 := Tryz.isAgg3
  z3 := Tryz.sizeOf3
  v3 := Tryz.zeroValue3
  t4 := Tryz.underlying4
  a4 := Tryz.isAgg4
  z4 := Tryz.sizeOf4
  v4 := Tryz.zeroValue4
  t22 := Tryz.underlying36
  a22 := Tryz.isAgg36
  z22 := Tryz.sizeOf36
  v22 := Tryz.zeroValue36
  t25 := Tryz.underlying81
  a25 := Tryz.isAgg81
  z25 := Tryz.sizeOf81
  v25 := Tryz.zeroValue81 }

theorem lt_cmp (x y : Int × Int) : ltOf cmpE x y = Ed.lt x y := by
  have h : (cmpE x y < 0) ↔ (x.1 < y.1 ∨ x.1 = y.1 ∧ x.2 < y.2) := by
    unfold cmpE orI Lib.compareInt
    split <;> split <;> (try split) <;> (try split) <;> omega
  unfold ltOf
  rw [Bool.eq_iff_iff, Ed.lt_iff, decide_eq_true_eq]
  exact h
theorem ltOf_cmp : ltOf cmpE = Ed.lt := by
  funext x y
  exact lt_cmp x y
theorem swo_cmp : SWO (ltOf cmpE) := by
  rw [ltOf_cmp]
  exact ⟨Ed.lt_irr, fun _ _ _ h k => Ed.lt_trans h k, fun _ _ _ h k => Ed.lt_ntrans h k⟩

theorem cmp_lays (blk off size : Nat) (w : World) : CmpLays Tryz.prog 76 #[] encE 2 cmpE blk off size w :=
  fun _ _ _ _ x y => comp_any x y _

theorem flat_ecells (d : Array (Int × Int)) : (flatK encE 2 d).toList = ecells d.toList := by
  apply List.ext_getElem?
  intro j
  by_cases h : j < d.size * 2
  · have h1 : (flatK encE 2 d)[j]! = (encE d[j / 2]!)[j % 2]! := get_flatK encE 2 d j h
    have hs : j < (flatK encE 2 d).size := by rw [size_flatK]; exact h
    rw [getElem!_pos _ j hs] at h1
    rw [Array.getElem?_toList, Array.getElem?_eq_getElem hs, h1]
    have hd : j / 2 < d.size := by omega
    obtain ⟨g1, g2⟩ := ecells_get d.toList (j / 2) (by simpa using hd)
    have e : d.toList.getD (j / 2) e0 = d[j / 2]! := by
      rw [List.getD_eq_getElem?_getD, Array.getElem?_toList, Array.getElem?_eq_getElem hd, getElem!_pos d _ hd]; rfl
    rw [e] at g1 g2
    rcases Nat.mod_two_eq_zero_or_one j with m | m
    · rw [show j / 2 * 2 = j by omega] at g1
      rw [g1, m]; rfl
    · rw [show j / 2 * 2 + 1 = j by omega] at g2
      rw [g2, m]; rfl
  · rw [List.getElem?_eq_none (by simp; omega), List.getElem?_eq_none (by rw [ecells_len]; simp; omega)]

/-- A row of the call's own holds its edges. -/
theorem holds_own {w : World} {base g n cap : Nat} {l : List (Int × Int)} (h : w.ownsRow base 56 2 (.slice (some ⟨g, 0, none⟩) n cap) n (ecells l)) : HoldsK encE 2 w g 0 l.toArray := by
  intro j hj
  have hlen := h.1
  have hj2 : j < l.length * 2 := by simpa using hj
  rw [ecells_len] at hlen
  refine ⟨?_, h.frozenAt _⟩
  rw [h.cellAt (0 + j) (by omega), Nat.zero_add]
  have hf := flat_ecells l.toArray
  rw [show l.toArray.toList = l by simp] at hf
  rw [← hf, Array.getElem?_toList, Array.getElem?_eq_getElem hj, getElem!_pos _ j hj]
  rfl

theorem grown_sorted {w : World} {g n : Nat} {os : Array Obj} (d : Array (Int × Int)) : w.grownBy (sortWorldK encE 2 w g 0 n d os) (some g) := by
  refine ⟨rfl, rfl, rfl, by simp [sortWorldK, putRowK], fun k hk hne => ?_⟩
  unfold sortWorldK
  rw [heap_grow_old _ _ (by simpa [putRowK] using hk)]
  have : g ≠ k := fun e => hne (by rw [e])
  simp [putRowK, putRow, mapBlock, Sort.ahead, Array.getElem?_modify, this]

theorem owns_sorted {w : World} {base g n cap m : Nat} {os : Array Obj} {l : List (Int × Int)} {d : Array (Int × Int)} (hd : d.size = l.length)
    (h : w.ownsRow base 56 2 (.slice (some ⟨g, 0, none⟩) n cap) n (ecells l)) :
    (sortWorldK encE 2 w g 0 m d os).ownsRow base 56 2 (.slice (some ⟨g, 0, none⟩) n cap) n (ecells d.toList) := by
  have hlen := h.1
  rw [ecells_len] at hlen
  refine ⟨by rw [ecells_len]; simp; omega, ?_⟩
  rcases h.2 with ⟨h', _⟩ | ⟨g', cap', cur, h', hb, hg, hnc, hcm, hcs, htake⟩
  · simp at h'
  · simp only [Value.slice.injEq, Option.some.injEq, Addr.mk.injEq, and_true, true_and] at h'
    obtain ⟨rfl, rfl⟩ := h'
    have hlt : g < w.heap.size := (Array.getElem?_eq_some_iff.1 hg).1
    refine .inr ⟨g, cap, putCells id 0 (flatK encE 2 d) cur, rfl, hb, ?_, hnc, hcm, by simp [putCells, hcs], ?_⟩
    · unfold sortWorldK
      rw [heap_grow_old _ _ (by simpa [putRowK] using hlt)]
      simp [putRowK, putRow, mapBlock, Sort.ahead, Array.getElem?_modify, hg, onCells]
    · rw [← flat_ecells]
      apply List.ext_getElem?
      intro j
      by_cases hj : j < n * 2
      · rw [List.getElem?_take_of_lt hj, Array.getElem?_toList, Array.getElem?_toList]
        have h1 : j < cur.size := by rw [hcs]; have := Nat.mul_le_mul_right 2 hnc; omega
        have h2 : j < (flatK encE 2 d).size := by rw [size_flatK]; omega
        simp only [putCells, Array.getElem?_mapIdx, Array.getElem?_eq_getElem h1, Option.map_some, Nat.zero_add, Nat.sub_zero, Nat.zero_le, true_and, id_eq]
        rw [if_pos h2, Array.getElem?_eq_getElem h2, getElem!_pos _ j h2]
      · rw [List.getElem?_take_eq_none (by omega), List.getElem?_eq_none (by simp; omega)]

set_option maxHeartbeats 1000000 in
/-- The sort of a row of the call's own. -/
theorem sort_own (v : Value) (base n : Nat) (l : List (Int × Int)) (w : World) (h : w.ownsRow base 56 2 v n (ecells l)) (hn : n ≤ 1000000000) :
    Calls Tryz.prog 75 #[v, .func (.func 76) #[] #[]] w fun e w' => e = .returned (.tuple #[]) ∧ w'.ownsRow base 56 2 v n (ecells (Ed.srt l)) ∧ w.grownBy w' v.ownBlock := by
  have hlen := h.1
  rw [ecells_len] at hlen
  rcases h.2 with ⟨rfl, rfl⟩ | ⟨g, cap, cur, rfl, hb, hg, hnc, hcm, hcs, htake⟩
  · obtain rfl : l = [] := List.length_eq_zero_iff.1 (by omega)
    refine (AnyF.slices_SortFunc_none Tryz.sortLaid none 0 _ w).mono ?_
    rintro e w' ⟨rfl, rfl⟩
    exact ⟨rfl, h, rfl, rfl, rfl, Nat.le_refl _, fun _ _ _ => rfl⟩
  · have eg : ∀ args w, (callFunc 76 args).run Tryz.prog w = .ok (.enter 76 args) w := enters_of Tryz.func76 (by kernel_rfl) rfl
    have hsz : l.toArray.size = n := by simp; omega
    have hcon := AnyQ.slices_SortFunc Tryz.sortLaid 2 Tryz.isAgg56 Tryz.sizeOf56 encE (fun _ => rfl) (fun x v hv => by simp [encE] at hv; rcases hv with rfl | rfl <;> rfl) cmpE swo_cmp 76 #[] g 0 cap l.toArray w eg (cmp_lays g 0 l.toArray.size w) (holds_own h) (Array.getElem?_eq_some_iff.1 hg).1 (by omega)
    rw [hsz] at hcon
    refine Calls.mono hcon ?_
    rintro e w' ⟨rfl, d', m, os, hp, hs, rfl⟩
    rw [ltOf_cmp, ← hsz] at hs
    rw [← hsz] at hp
    have hd := Ed.sorted_srt hp hs
    have hd' : Ed.srt l = d'.toList := by rw [hd]
    rw [hd']
    refine ⟨rfl, owns_sorted ?_ h, grown_sorted d'⟩
    rw [hp.1]; simp

set_option maxHeartbeats 1000000 in
theorem rising_own (v : Value) (base n : Nat) (l : List (Int × Int)) (w : World) (h : w.ownsRow base 56 2 v n (ecells l)) (hn : n ≤ 1000000000) :
    Calls Tryz.prog 46 #[v] w fun e w' => e = .returned v ∧ w'.ownsRow base 56 2 v n (ecells (Ed.srt l)) ∧ w.grownBy w' v.ownBlock := by
  have HS : Hid (Calls Tryz.prog 75 #[v, .func (.func 76) #[] #[]] w fun e w' => e = .returned (.tuple #[]) ∧ w'.ownsRow base 56 2 v n (ecells (Ed.srt l)) ∧ w.grownBy w' v.ownBlock) := sort_own v base n l w h hn
  clear h
  go_enter Tryz.func46, Tryz.ntmps46
  go_wp2_with fail
  refine Calls.mono HS.out ?_
  rintro e w' ⟨rfl, h1, h2⟩
  have h1 : Hid _ := h1
  have h2 : Hid _ := h2
  go_wp2
  go_ret
  exact ⟨rfl, h1.out, h2.out⟩

theorem Tryz.edgeInfo : (Tryz.prog.info? 56).map (fun i => (i.zero, i.size, i.bytes)) = some (some (.agg #[.int .i64 0, .int .i64 0]), 2, 16) := by kernel_rfl
set_option maxHeartbeats 1000000 in
set_option maxRecDepth 100000 in
theorem clone_some (ad : Addr) (cap : Nat) (l : List (Int × Int)) (w : World) (hl : l.length ≤ 1000000000) (hc : ∀ j u, (ecells l)[j]? = some u → w.cell? (ad.add j) = some u) :
    Calls Tryz.prog 47 #[.slice (some ad) l.length cap] w fun e w' => ∃ v', e = .returned v' ∧ w'.ownsRow w.heap.size 56 2 v' l.length (ecells l) ∧ Below w.heap.size w w' := by
  obtain ⟨i0, hi0, hz0, hz1, hz2⟩ := info_parts Tryz.edgeInfo
  have q22 : ∀ (w : World) (a : Option Addr) (n c n' c' : Nat), (binOp .eql 36 (.slice a n c) (.slice none n' c')).run Tryz.prog w = .ok (.bool a.isNone) w := fun w a n c n' c' => Lib.run_eql_slice_nil w _ _ a n c n' c' Tryz.underlying36
  have HC : Hid _ := hc
  clear hc
  go_enter Tryz.func47, Tryz.ntmps47
  go_wp2_with (at_builtin; refine wpList_append_own _ rfl _ _ 36 rfl w.heap.size 56 i0 (.agg #[.int .i64 0, .int .i64 0]) 2 16 Tryz.underlying36 hi0 hz0 hz1 hz2 rfl (by decide) _ _ _ rfl (World.ownsRow_made w #[] 0 (Nat.le_refl _) (Nat.zero_le _) (by simp)) ad l.length cap (ecells l) rfl ?qc1 ?qc2 ?qc3 ?qc4 ?qc5 ?qc6 ?_)
  case qc1 => exact ecells_len l
  case qc2 => intro j u hj; exact Lib.cell?_alloc_some _ (HC.out j u hj)
  case qc3 => exact ecells_one l
  case qc4 => unfold maxLen; omega
  case qc5 => omega
  case qc6 => simp
  intro v' w1 hown hgrow hnil
  have hb : Hid (Below w.heap.size w w1) := ((Below.refl _ w).alloc (Nat.le_refl _) _).grown hgrow (by simp) (by intro k hk; simp [Value.ownBlock] at hk; omega)
  go_wp2
  go_ret
  exact ⟨v', rfl, by simpa only [Nat.zero_add, List.nil_append] using hown, hb.out⟩

theorem clone_none (n cap : Nat) (w : World) :
    Calls Tryz.prog 47 #[.slice none n cap] w fun e w' => e = .returned (.slice none 0 0) ∧ w' = w := by
  have q22 : ∀ (w : World) (a : Option Addr) (n c n' c' : Nat), (binOp .eql 36 (.slice a n c) (.slice none n' c')).run Tryz.prog w = .ok (.bool a.isNone) w := fun w a n c n' c' => Lib.run_eql_slice_nil w _ _ a n c n' c' Tryz.underlying36
  go_enter Tryz.func47, Tryz.ntmps47
  go_wp2
  go_ret
  exact ⟨rfl, rfl⟩

theorem clone_any (v : Value) (l : List (Int × Int)) (w : World) (h : Edg w v l) (hl : l.length ≤ 1000000000) :
    Calls Tryz.prog 47 #[v] w fun e w' => ∃ v', e = .returned v' ∧ w'.ownsRow w.heap.size 56 2 v' l.length (ecells l) ∧ Below w.heap.size w w' := by
  obtain ⟨a, cap, rfl, _, h⟩ := h
  rcases h with rfl | ⟨b, off, rfl, hc⟩
  · cases a with
    | none =>
      refine (clone_none _ cap w).mono ?_
      rintro e w' ⟨rfl, rfl⟩
      exact ⟨_, rfl, World.ownsRow_nil _ _ _ _, Below.refl _ _⟩
    | some ad => exact clone_some ad cap [] w hl (fun j u hj => by simp [ecells] at hj)
  · refine clone_some _ cap l w hl (fun j u hj => ?_)
    rw [Addr.add_lit]
    exact cells_of hc j u hj

/-- The closure that asks of an edge whether it may not be, its n in the box B. -/
theorem pred_bad (n : Int) (B : Nat) (w : World) (hB : B < w.heap.size) (hn : w.cell? ⟨B, 0, none⟩ = some (.int .i64 n)) :
    PredBelow Tryz.prog 73 #[.pointer (some ⟨B, 0, none⟩)] (fun x => .agg (encE x).toArray) (Ed.bad n) w := fun W x hb => by
  have hc : W.cell? ⟨B, 0, none⟩ = some (.int .i64 n) := (hb.cell (p := ⟨B, 0, none⟩) hB).trans hn
  exact (bad_any n x B W (Nat.lt_of_lt_of_le hB hb.size) hc).mono fun _ _ ⟨he, h⟩ => ⟨he, hb.trans (h.mono hb.size)⟩

theorem index_none (a : Option Addr) (cap : Nat) (f : Value) (w : World) :
    Calls Tryz.prog 72 #[.slice a 0 cap, f] w fun e w' => e = .returned (.int .i64 (-1)) ∧ w' = w := by
  go_enter Tryz.func72, Tryz.ntmps72
  go_wp2
  refine wp_loop_rounds 1 ?_
  rw [rounds_succ]
  go_wp2
  go_ret
  exact ⟨rfl, rfl⟩

theorem any_none (a : Option Addr) (cap : Nat) (f : Value) (w : World) :
    Calls Tryz.prog 43 #[.slice a 0 cap, f] w fun e w' => e = .returned (.bool false) ∧ w' = w := by
  go_enter Tryz.func43, Tryz.ntmps43
  go_wp2_with (go_at_call 72; refine (index_none _ _ _ _).mono ?_; rintro e w' ⟨rfl, rfl⟩)
  go_ret
  exact ⟨rfl, rfl⟩

/-- Is there an edge that may not be? -/
theorem any_bad (v : Value) (l : List (Int × Int)) (n : Int) (B : Nat) (w : World) (h : Edg w v l) (hl : l.length ≤ 1000000000) (hB : B < w.heap.size) (hn : w.cell? ⟨B, 0, none⟩ = some (.int .i64 n)) :
    Calls Tryz.prog 43 #[v, .func (.func 73) #[] #[.pointer (some ⟨B, 0, none⟩)]] w fun e w' => e = .returned (.bool (l.any (Ed.bad n))) ∧ Below w.heap.size w w' := by
  obtain ⟨a, cap, rfl, _, h⟩ := h
  rcases h with rfl | ⟨b, off, rfl, hc⟩
  · refine (any_none a cap _ w).mono ?_
    rintro e w' ⟨rfl, rfl⟩
    exact ⟨rfl, Below.refl _ _⟩
  · by_cases h0 : l = []
    · subst h0
      refine (any_none _ cap _ w).mono ?_
      rintro e w' ⟨rfl, rfl⟩
      exact ⟨rfl, Below.refl _ _⟩
    · have hp : 0 < l.length := List.length_pos_iff.2 h0
      have eg : ∀ args w, (callFunc 73 args).run Tryz.prog w = .ok (.enter 73 args) w := enters_of Tryz.func73 (by kernel_rfl) rfl
      have hcon := AnyQ.slices_ContainsFunc Tryz.anyLaid 2 Tryz.isAgg56 Tryz.sizeOf56 encE (fun _ => rfl) (Ed.bad n) 73 #[.pointer (some ⟨B, 0, none⟩)] eg b off l.length cap l w
        (pred_bad n B w hB hn) (Nat.le_refl _) (by omega) (World.block_lt_of_cell? _ _ (hc 0 hp).1) (fun j hj i v hi => by
          obtain ⟨h1, h2⟩ := hc j hj
          have e : l.getD j e0 = l[j]! := by rw [List.getD_eq_getElem?_getD, List.getElem?_eq_getElem hj, getElem!_pos l j hj]; rfl
          rw [e] at h1 h2
          generalize l[j]! = y at hi h1 h2
          match i, hi with
          | 0, hi => simp [encE] at hi; rw [← hi]; exact h1
          | 1, hi => simp [encE] at hi; rw [← hi]; exact h2
          | i + 2, hi => simp [encE] at hi)
      rw [List.take_length] at hcon
      exact hcon

end Go.Proofs.YtbhngncnhabbkaaGreat
