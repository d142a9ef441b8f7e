/- The walks of edges.Normal, Reverse and Out. -/
import Derived.Test.YtmgikaanckbadaaECompact
import Derived.Deep.RegionHeld3
namespace Go.Proofs.Ytmgikaanckbadaa
open Go.RowKit Go.Shelf Go.Sort Go.Lib

theorem grown_below {w w' : World} {B : Nat} {a : World} {v : Value} {base e size n : Nat} {xs : List Value} (hb : Below B a w) (hB : B ≤ w.heap.size) (h : w.ownsRow base e size v n xs) (hbase : B ≤ base) (hg : w.grownBy w' v.ownBlock) : Below B a w' :=
  hb.grown hg hB fun k hk => Nat.le_trans hbase (h.lt k hk).1

theorem maybe_any (n : Int) (w : World) :
    Calls Try.prog 22 #[.int .i64 n] w fun e w' => e = .returned (.func (.func 29) #[] #[.pointer (some ⟨w.heap.size, 0, none⟩)]) ∧ w' = w.alloc (.cells #[.int .i64 n] 3) := by
  go_enter Try.func22, Try.ntmps22
  go_wp2
  go_ret
  exact ⟨rfl, rfl⟩

theorem nor_many {n : Int} {l : List (Int × Int)} (h : Ed.many n = false) : Ed.nor n l = ([], 2) := by unfold Ed.nor; rw [if_pos h]
theorem nor_bad {n : Int} {l : List (Int × Int)} (h : Ed.many n = true) (hb : l.any (Ed.bad n) = true) : Ed.nor n l = ([], 2) := by unfold Ed.nor; rw [if_neg (by rw [h]; simp), if_pos hb]
theorem nor_long {n : Int} {l : List (Int × Int)} (h : Ed.many n = true) (hb : l.any (Ed.bad n) = false) (hl : 4096 < (Ed.nrm l).length) : Ed.nor n l = ([], 3) := by unfold Ed.nor; rw [if_neg (by rw [h]; simp), if_neg (by rw [hb]; simp), if_pos hl]
theorem nor_yes {n : Int} {l : List (Int × Int)} (h : Ed.many n = true) (hb : l.any (Ed.bad n) = false) (hl : ¬ 4096 < (Ed.nrm l).length) : Ed.nor n l = (Ed.nrm l, 0) := by unfold Ed.nor; rw [if_neg (by rw [h]; simp), if_neg (by rw [hb]; simp), if_neg hl]

set_option maxHeartbeats 1000000 in
theorem normal_any (v : Value) (l : List (Int × Int)) (n : Int) (w : World) (h : Edg w v l) (hl : l.length ≤ 1000000) :
    Calls Try.prog 8 #[.int .i64 n, v] w fun e w' => ∃ u, e = .returned (.tuple #[u, .int .i64 (Ed.nor n l).2]) ∧ Edg w' u (Ed.nor n l).1 ∧ Below w.heap.size w w' := by
  have M := many_any n w
  cases hm : Ed.many n with
  | false =>
    rw [hm] at M
    rw [nor_many hm]
    have HM : Hid _ := M
    clear M hm
    go_enter Try.func8, Try.ntmps8
    go_wp2_with fail
    refine Calls.mono HM.out ?_
    rintro e w' ⟨rfl, rfl⟩
    go_wp2
    go_ret2
    exact ⟨_, rfl, edg_nil _, Below.refl _ _⟩
  | true =>
    rw [hm] at M
    have HM : Hid _ := M
    have HB : Hid (Ed.many n = true) := hm
    have hb1 : Below w.heap.size w (w.alloc (.cells #[.int .i64 n] 3)) := (Below.refl _ w).alloc (Nat.le_refl _) _
    have HA : Hid (Calls _ _ _ _ _) := any_bad v l n w.heap.size (w.alloc (.cells #[.int .i64 n] 3)) (h.later hb1) (by omega) (by simp) (by simp)
    have HE : Hid (Edg w v l) := h
    have hb1 : Hid _ := hb1
    clear M hm h
    go_enter Try.func8, Try.ntmps8
    go_wp2_with fail
    refine Calls.mono HM.out ?_
    rintro e w' ⟨rfl, rfl⟩
    go_wp2_with fail
    refine Calls.mono (maybe_any n _) ?_
    rintro e w1 ⟨rfl, rfl⟩
    go_wp2_with fail
    refine Calls.mono HA.out ?_
    rintro e w2 ⟨rfl, hb2⟩
    replace hb2 : Hid (Below w'.heap.size w' w2) := bnext hb1.out hb2
    clear HA HM
    cases hany : l.any (Ed.bad n) with
    | true =>
      have HX : Hid (Ed.nor n l = ([], 2)) := nor_bad HB.out hany
      clear hany
      go_wp2
      go_ret2
      rw [HX.out]
      exact ⟨_, rfl, edg_nil _, hb2.out⟩
    | false =>
      have HY : Hid (¬ 4096 < (Ed.nrm l).length → Ed.nor n l = (Ed.nrm l, 0)) := nor_yes HB.out hany
      have HL : Hid (4096 < (Ed.nrm l).length → Ed.nor n l = ([], 3)) := nor_long HB.out hany
      have HN : Hid ((Ed.nrm l).length ≤ l.length) := Ed.nrm_len l
      clear hany
      go_wp2_with fail
      refine (clone_any v l w2 (HE.out.later hb2.out) (by omega)).mono ?_
      rintro e w3 ⟨v3, rfl, hown3, hb3⟩
      replace hb3 : Hid (Below w'.heap.size w' w3) := bnext hb2.out hb3
      have HO3 : Hid _ := hown3
      have HS3 : Hid (w'.heap.size ≤ w2.heap.size) := hb2.out.size
      clear hown3 hb2
      go_wp2_with fail
      refine (rising_own v3 _ _ l w3 HO3.out (by omega)).mono ?_
      rintro e w4 ⟨rfl, hown4, hg4⟩
      replace hb3 : Hid (Below w'.heap.size w' w4) := grown_below hb3.out hb3.out.size HO3.out HS3.out hg4
      clear HO3 hg4
      have HO4 : Hid _ := hown4
      clear hown4
      go_wp2_with fail
      refine (compact_own v3 _ _ (Ed.srt l) w4 HO4.out (Ed.srt_up l) (by omega)).mono ?_
      rintro e w5 ⟨v5, rfl, he5, hg5⟩
      rw [Ed.nrm_srt] at he5
      replace hb3 : Hid (Below w'.heap.size w' w5) := grown_below hb3.out hb3.out.size HO4.out HS3.out hg5
      clear HO4 hg5 HS3
      have he5' := he5
      obtain ⟨a5, cap5, rfl, _⟩ := he5
      have he5 : Hid (Edg w5 (.slice a5 (Ed.nrm l).length cap5) (Ed.nrm l)) := he5'
      clear he5'
      by_cases hlong : 4096 < (Ed.nrm l).length
      · have HX : Hid (Ed.nor n l = ([], 3)) := HL.out hlong
        clear HL HY
        generalize Ed.nrm l = u at *
        generalize u.length = m at *
        go_wp2
        go_ret2
        rw [HX.out]
        exact ⟨_, rfl, edg_nil _, hb3.out⟩
      · have HX : Hid (Ed.nor n l = (Ed.nrm l, 0)) := HY.out hlong
        clear HL HY
        generalize Ed.nrm l = u at *
        have HC : Hid (Calls _ _ _ _ _) := clone_any _ u w5 he5.out (by have := HN.out; omega)
        generalize hm : u.length = m at *
        clear hm
        go_wp2_with fail
        refine Calls.mono HC.out ?_
        rintro e w6 ⟨v6, rfl, hown6, hb6⟩
        have HE6 : Hid (Edg w6 v6 u) := Edg.of_own hown6
        have hb6 : Hid (Below w'.heap.size w' w6) := bnext hb3.out hb6
        clear hown6
        go_wp2
        go_ret2
        rw [HX.out]
        exact ⟨_, rfl, HE6.out, hb6.out⟩

end Go.Proofs.Ytmgikaanckbadaa
