/- The walks of edges.Normal, Reverse and Out. -/
import Derived.Test.YtbhngncnhabbkaaGreatECompact
import Derived.Deep.RegionHeld3
namespace Go.Proofs.YtbhngncnhabbkaaGreat
open Go.RowKit Go.Shelf Go.Sort Go.Lib

theorem maybe_any (n : Int) (w : World) :
    Calls Tryz.prog 44 #[.int .i64 n] w fun e w' => e = .returned (.func (.func 73) #[] #[.pointer (some ⟨w.heap.size, 0, none⟩)]) ∧ w' = w.alloc (.cells #[.int .i64 n] 3) := by
  go_enter Tryz.func44, Tryz.ntmps44
  go_wp2
  go_ret
  exact ⟨rfl, rfl⟩

theorem nor_many {n : Int} {l : List (Int × Int)} (h : Ed.many n = false) : Ed.nor n l = ([], 2) := by unfold Ed.nor; rw [if_pos h]
theorem nor_bad {n : Int} {l : List (Int × Int)} (h : Ed.many n = true) (hb : l.any (Ed.bad n) = true) : Ed.nor n l = ([], 2) := by unfold Ed.nor; rw [if_neg (by rw [h]; simp), if_pos hb]
theorem nor_long {n : Int} {l : List (Int × Int)} (h : Ed.many n = true) (hb : l.any (Ed.bad n) = false) (hl : 4096 < (Ed.nrm l).length) : Ed.nor n l = ([], 3) := by unfold Ed.nor; rw [if_neg (by rw [h]; simp), if_neg (by rw [hb]; simp), if_pos hl]
theorem nor_yes {n : Int} {l : List (Int × Int)} (h : Ed.many n = true) (hb : l.any (Ed.bad n) = false) (hl : ¬ 4096 < (Ed.nrm l).length) : Ed.nor n l = (Ed.nrm l, 0) := by unfold Ed.nor; rw [if_neg (by rw [h]; simp), if_neg (by rw [hb]; simp), if_neg hl]

set_option maxHeartbeats 1000000 in
theorem normal_any (v : Value) (l : List (Int × Int)) (n : Int) (w : World) (h : Edg w v l) (hl : l.length ≤ 1000000) :
    Calls Tryz.prog 20 #[.int .i64 n, v] w fun e w' => ∃ u, e = .returned (.tuple #[u, .int .i64 (Ed.nor n l).2]) ∧ Edg w' u (Ed.nor n l).1 ∧ Below w.heap.size w w' := by
  have M := many_any n w
  cases hm : Ed.many n with
  | false =>
    rw [hm] at M
    rw [nor_many hm]
    have HM : Hid _ := M
    clear M hm
    go_enter Tryz.func20, Tryz.ntmps20
    go_wp2_with fail
    refine Calls.mono HM.out ?_
    rintro e w' ⟨rfl, rfl⟩
    go_wp2
    go_ret2
    exact ⟨_, rfl, edg_nil _, Below.refl _ _⟩
  | true =>
    rw [hm] at M
    have HM : Hid _ := M
    have HB : Hid (Ed.many n = true) := hm
    have hb1 : Below w.heap.size w (w.alloc (.cells #[.int .i64 n] 3)) := (Below.refl _ w).alloc (Nat.le_refl _) _
    have HA : Hid (Calls _ _ _ _ _) := any_bad v l n w.heap.size (w.alloc (.cells #[.int .i64 n] 3)) (h.later hb1) (by omega) (by simp) (by simp)
    have HE : Hid (Edg w v l) := h
    have hb1 : Hid _ := hb1
    clear M hm h
    go_enter Tryz.func20, Tryz.ntmps20
    go_wp2_with fail
    refine Calls.mono HM.out ?_
    rintro e w' ⟨rfl, rfl⟩
    go_wp2_with fail
    refine Calls.mono (maybe_any n _) ?_
    rintro e w1 ⟨rfl, rfl⟩
    go_wp2_with fail
    refine Calls.mono HA.out ?_
    rintro e w2 ⟨rfl, hb2⟩
    replace hb2 : Hid (Below w'.heap.size w' w2) := bnext hb1.out hb2
    clear HA HM
    cases hany : l.any (Ed.bad n) with
    | true =>
      have HX : Hid (Ed.nor n l = ([], 2)) := nor_bad HB.out hany
      clear hany
      go_wp2
      go_ret2
      rw [HX.out]
      exact ⟨_, rfl, edg_nil _, hb2.out⟩
    | false =>
      have HY : Hid (¬ 4096 < (Ed.nrm l).length → Ed.nor n l = (Ed.nrm l, 0)) := nor_yes HB.out hany
      have HL : Hid (4096 < (Ed.nrm l).length → Ed.nor n l = ([], 3)) := nor_long HB.out hany
      have HN : Hid ((Ed.nrm l).length ≤ l.length) := Ed.nrm_len l
      clear hany
      go_wp2_with fail
      refine (clone_any v l w2 (HE.out.later hb2.out) (by omega)).mono ?_
      rintro e w3 ⟨v3, rfl, hown3, hb3⟩
      replace hb3 : Hid (Below w'.heap.size w' w3) := bnext hb2.out hb3
      have HO3 : Hid _ := hown3
      have HS3 : Hid (w'.heap.size ≤ w2.heap.size) := hb2.out.size
      clear hown3 hb2
      go_wp2_with fail
      refine (rising_own v3 _ _ l w3 HO3.out (by omega)).mono ?_
      rintro e w4 ⟨rfl, hown4, hg4⟩
      replace hb3 : Hid (Below w'.heap.size w' w4) := grown_below hb3.out hb3.out.size HO3.out HS3.out hg4
      clear HO3 hg4
      have HO4 : Hid _ := hown4
      clear hown4
      go_wp2_with fail
      refine (compact_own v3 _ _ (Ed.srt l) w4 HO4.out (Ed.srt_up l) (by omega)).mono ?_
      rintro e w5 ⟨v5, rfl, he5, hg5⟩
      rw [Ed.nrm_srt] at he5
      replace hb3 : Hid (Below w'.heap.size w' w5) := grown_below hb3.out hb3.out.size HO4.out HS3.out hg5
      clear HO4 hg5 HS3
      have he5' := he5
      obtain ⟨a5, cap5, rfl, _⟩ := he5
      have he5 : Hid (Edg w5 (.slice a5 (Ed.nrm l).length cap5) (Ed.nrm l)) := he5'
      clear he5'
      by_cases hlong : 4096 < (Ed.nrm l).length
      · have HX : Hid (Ed.nor n l = ([], 3)) := HL.out hlong
        clear HL HY
        generalize Ed.nrm l = u at *
        generalize u.length = m at *
        go_wp2
        go_ret2
        rw [HX.out]
        exact ⟨_, rfl, edg_nil _, hb3.out⟩
      · have HX : Hid (Ed.nor n l = (Ed.nrm l, 0)) := HY.out hlong
        clear HL HY
        generalize Ed.nrm l = u at *
        have HC : Hid (Calls _ _ _ _ _) := clone_any _ u w5 he5.out (by have := HN.out; omega)
        generalize hm : u.length = m at *
        clear hm
        go_wp2_with fail
        refine Calls.mono HC.out ?_
        rintro e w6 ⟨v6, rfl, hown6, hb6⟩
        have HE6 : Hid (Edg w6 v6 u) := Edg.of_own hown6
        have hb6 : Hid (Below w'.heap.size w' w6) := bnext hb3.out hb6
        clear hown6
        go_wp2
        go_ret2
        rw [HX.out]
        exact ⟨_, rfl, HE6.out, hb6.out⟩

end Go.Proofs.YtbhngncnhabbkaaGreat

/- The walk of the statements' helper 'does' (the chapter's examples of edges): it returns true; nothing that was in memory has changed. -/
namespace Go.Proofs.YtbhngncnhabbkaaGreat
open Go.RowKit Go.Shelf Go.Sort Go.Lib

/-- Edges that are written out. -/
theorem edg_new (W : World) (l : List (Int × Int)) (arr : Array Value) (n : Nat) (h : arr.toList = ecells l) (hn : arr.size = n * 2) (hm : n ≤ maxLen) : Edg (W.alloc (.cells arr 56)) (.slice (some ⟨W.heap.size, 0, none⟩) n n) l := by
  have hown := World.ownsRow_lit (e := 56) (size := 2) (base := W.heap.size) W arr n (Nat.le_refl _) hm hn
  rw [h] at hown
  exact Edg.of_own hown
theorem ints_new (W : World) (zs : List Int) (arr : Array Value) (n : Nat) (h : arr.toList = zs.map (Value.int .i64)) (hn : arr.size = n * 1) (hm : n ≤ maxLen) : Ints (W.alloc (.cells arr 3)) (.slice (some ⟨W.heap.size, 0, none⟩) n n) zs := by
  have hown := World.ownsRow_lit (e := 3) (size := 1) (base := W.heap.size) W arr n (Nat.le_refl _) hm hn
  rw [h] at hown
  exact Ints.of_own hown

theorem Edg.hid {w w' : World} {v : Value} {l : List (Int × Int)} (h : Hid (Edg w v l)) (hb : Below w.heap.size w w') : Hid (Edg w' v l) := h.out.later hb
theorem Ints.hid {w w' : World} {v : Value} {l : List Int} (h : Hid (Ints w v l)) (hb : Below w.heap.size w w') : Hid (Ints w' v l) := h.out.later hb
end Go.Proofs.YtbhngncnhabbkaaGreat

/- The walk of the statements' helper Some: edges among n vertices, by pairs of numbers. -/
namespace Go.Proofs.YtbhngncnhabbkaaGreat
open Go.RowKit Go.Shelf Go.Sort Go.Lib

/-- The slice v holds the pairs of bytes l. -/
def Prs (W : World) (v : Value) (l : List (Nat × Nat)) : Prop :=
  ∃ a cap, v = .slice a l.length cap ∧ l.length ≤ cap ∧ (l = [] ∨ ∃ b off, a = some ⟨b, off, none⟩ ∧ ∀ j, j < l.length → W.cell? ⟨b, off + j * 2, none⟩ = some (.int .u8 (l.getD j (0, 0)).1) ∧ W.cell? ⟨b, off + j * 2 + 1, none⟩ = some (.int .u8 (l.getD j (0, 0)).2))
def Small (l : List (Nat × Nat)) : Prop := ∀ p ∈ l, p.1 < 256 ∧ p.2 < 256

theorem Prs.later {w w' : World} {v : Value} {l : List (Nat × Nat)} (h : Prs w v l) (hb : Below w.heap.size w w') : Prs w' v l := by
  obtain ⟨a, cap, rfl, hc, h⟩ := h
  refine ⟨a, cap, rfl, hc, ?_⟩
  rcases h with h | ⟨b, off, rfl, h⟩
  · exact .inl h
  · exact .inr ⟨b, off, rfl, fun j hj => ⟨cell_after hb (h j hj).1, cell_after hb (h j hj).2⟩⟩

/-- An edge by a pair of numbers. -/
def edgeOf (n : Nat) (p : Nat × Nat) : Int × Int := ((p.1 % n : Nat), if p.1 % n ≤ p.2 % (n - 1) then (p.2 % (n - 1) + 1 : Nat) else (p.2 % (n - 1) : Nat))
def someE (n : Nat) (l : List (Nat × Nat)) : List (Int × Int) := l.map (edgeOf n)
theorem someE_len (n : Nat) (l : List (Nat × Nat)) : (someE n l).length = l.length := by simp [someE]

theorem edgeOf_ok {n : Nat} (h : 2 ≤ n) (p : Nat × Nat) : ∃ a b : Nat, edgeOf n p = ((a : Int), (b : Int)) ∧ a < n ∧ b < n ∧ a ≠ b := by
  have h1 : p.1 % n < n := Nat.mod_lt _ (by omega)
  have h2 : p.2 % (n - 1) < n - 1 := Nat.mod_lt _ (by omega)
  unfold edgeOf
  by_cases c : p.1 % n ≤ p.2 % (n - 1)
  · rw [if_pos c]; exact ⟨_, _, rfl, h1, by omega, by omega⟩
  · rw [if_neg c]; exact ⟨_, _, rfl, h1, by omega, by omega⟩
theorem some_ok {n : Nat} (h : 2 ≤ n) {l : List (Nat × Nat)} : ∀ x ∈ someE n l, ∃ a b : Nat, x = ((a : Int), (b : Int)) ∧ a < n ∧ b < n ∧ a ≠ b := by
  intro x hx
  obtain ⟨p, _, rfl⟩ := List.mem_map.1 hx
  exact edgeOf_ok h p
theorem some_good {n : Nat} (h : 2 ≤ n) (l : List (Nat × Nat)) : (someE n l).any (Ed.bad n) = false := by
  rw [List.any_eq_false]
  intro x hx
  obtain ⟨a, b, rfl, h1, h2, h3⟩ := some_ok h x hx
  simp [Ed.bad, Ed.vert]
  omega

theorem take_succ_p (l : List (Nat × Nat)) (k : Nat) (h : k < l.length) : l.take (k + 1) = l.take k ++ [l.getD k (0, 0)] := by
  rw [List.take_add_one, List.getElem?_eq_getElem h]
  simp [List.getD, h]

/-- An edge more behind a row of the call's own. -/
theorem ecells_snoc (l : List (Int × Int)) (x : Int × Int) : ecells l ++ [.int .i64 x.1, .int .i64 x.2] = ecells (l ++ [x]) := by
  rw [ecells_app]; rfl

set_option maxHeartbeats 2000000 in
set_option maxRecDepth 100000 in
theorem some_any (n : Nat) (v : Value) (l : List (Nat × Nat)) (w : World) (h2 : 2 ≤ n) (hn : n ≤ 256) (h : Prs w v l) (hs : Small l) (hl : l.length ≤ 1000000) :
    Calls Tryz.prog 21 #[.int .i64 n, v] w fun e w' => ∃ u, e = .returned u ∧ w'.ownsRow w.heap.size 56 2 u l.length (ecells (someE n l)) ∧ Below w.heap.size w w' := by
  obtain ⟨i0, hi0, hz0, hz1, hz2⟩ := info_parts Tryz.edgeInfo
  obtain ⟨a, cap, rfl, _, h⟩ := h
  have HE : Hid _ := h
  have HS : Hid (Small l) := hs
  clear h hs
  go_enter Tryz.func21, Tryz.ntmps21
  go_wp2
  go_loopw [5, 6] (fun u i wr => ∃ k : Nat, k ≤ l.length ∧ i = .int .i64 k ∧ Hid (wr.ownsRow w.heap.size 56 2 u k (ecells (someE n (l.take k)))) ∧ Hid (Below w.heap.size w wr)) (fun _ i _ => l.length - (intOf i).toNat)
  case atStart => exact ⟨0, Nat.zero_le _, rfl, World.ownsRow_nil _ _ _ _, Below.refl _ _⟩
  case round =>
    obtain ⟨k, hk, rfl, HO, HB⟩ := hrel
    by_cases hlt : k < l.length
    · obtain ⟨b, off, rfl, hc⟩ := HE.out.resolve_left (by rintro rfl; simp at hlt)
      have c1 := cell_after HB.out (hc k hlt).1
      have c2 := cell_after HB.out (hc k hlt).2
      clear hc
      have HT : Hid (someE n (l.take (k + 1)) = someE n (l.take k) ++ [edgeOf n (l.getD k (0, 0))]) := by rw [Hid, take_succ_p l k hlt]; simp [someE]
      have hsm : (l.getD k (0, 0)).1 < 256 ∧ (l.getD k (0, 0)).2 < 256 := HS.out _ (by rw [List.getD_eq_getElem?_getD, List.getElem?_eq_getElem hlt]; exact List.getElem_mem hlt)
      generalize l.getD k (0, 0) = p at *
      obtain ⟨x, y⟩ := p
      dsimp only at c1 c2 hsm HT
      have hf : (x : Int) % n = ((x % n : Nat) : Int) := by omega
      have ht : (y : Int) % ((n : Int) - 1) = ((y % (n - 1) : Nat) : Int) := by
        rw [show ((n : Int) - 1) = ((n - 1 : Nat) : Int) by omega]; omega
      have HE2 : Hid (edgeOf n (x, y) = (((x % n : Nat) : Int), if x % n ≤ y % (n - 1) then ((y % (n - 1) + 1 : Nat) : Int) else ((y % (n - 1) : Nat) : Int))) := rfl
      have hfl : x % n < n := Nat.mod_lt _ (by omega)
      have htl : y % (n - 1) < n - 1 := Nat.mod_lt _ (by omega)
      generalize x % n = f at *
      generalize y % (n - 1) = t at *
      by_cases hft : f ≤ t
      · have HX : Hid (edgeOf n (x, y) = ((f : Int), (t : Int) + 1)) := by rw [Hid, HE2.out, if_pos hft]; simp
        clear HE2
        go_wp2_with (at_builtin; refine wpList_append_own _ rfl _ _ 36 rfl w.heap.size 56 i0 (.agg #[.int .i64 0, .int .i64 0]) 2 16 Tryz.underlying36 hi0 hz0 hz1 hz2 rfl (by decide) _ _ _ rfl (HO.out.alloc _) ⟨wr.heap.size, 0, none⟩ 1 1 [.int .i64 f, .int .i64 ((t : Int) + 1)] rfl rfl (cell_two_new _ _ _ _) (by simp [Value.oneCell']) (by unfold maxLen; omega) (by omega) (by have := HB.out.size; simp; omega) ?_; intro v' w1 hown1 hgrow1 _)
        have HO1 : Hid (w1.ownsRow w.heap.size 56 2 v' (k + 1) (ecells (someE n (l.take (k + 1))))) := by rw [Hid, HT.out, HX.out, ← ecells_snoc]; exact hown1
        have HB1 : Hid (Below w.heap.size w w1) := (HB.out.alloc HB.out.size _).grown hgrow1 (by have := HB.out.size; simp; omega) (fun q e => (HO.out.lt q e).1)
        clear hown1 hgrow1
        go_roundw
        case rel => exact ⟨k + 1, by omega, by go_num, HO1, HB1⟩
        case measure => simp [intOf]; omega
      · have HX : Hid (edgeOf n (x, y) = ((f : Int), (t : Int))) := by rw [Hid, HE2.out, if_neg hft]
        clear HE2
        go_wp2_with (at_builtin; refine wpList_append_own _ rfl _ _ 36 rfl w.heap.size 56 i0 (.agg #[.int .i64 0, .int .i64 0]) 2 16 Tryz.underlying36 hi0 hz0 hz1 hz2 rfl (by decide) _ _ _ rfl (HO.out.alloc _) ⟨wr.heap.size, 0, none⟩ 1 1 [.int .i64 f, .int .i64 (t : Int)] rfl rfl (cell_two_new _ _ _ _) (by simp [Value.oneCell']) (by unfold maxLen; omega) (by omega) (by have := HB.out.size; simp; omega) ?_; intro v' w1 hown1 hgrow1 _)
        have HO1 : Hid (w1.ownsRow w.heap.size 56 2 v' (k + 1) (ecells (someE n (l.take (k + 1))))) := by rw [Hid, HT.out, HX.out, ← ecells_snoc]; exact hown1
        have HB1 : Hid (Below w.heap.size w w1) := (HB.out.alloc HB.out.size _).grown hgrow1 (by have := HB.out.size; simp; omega) (fun q e => (HO.out.lt q e).1)
        clear hown1 hgrow1
        go_roundw
        case rel => exact ⟨k + 1, by omega, by go_num, HO1, HB1⟩
        case measure => simp [intOf]; omega
    · obtain rfl : k = l.length := by omega
      have HO1 : Hid (wr.ownsRow w.heap.size 56 2 u5 l.length (ecells (someE n l))) := by
        have h := HO.out
        rwa [List.take_length] at h
      go_wp2
      go_ret
      exact ⟨_, rfl, HO1.out, HB.out⟩

end Go.Proofs.YtbhngncnhabbkaaGreat
