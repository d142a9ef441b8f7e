/- The document's own edges: the walks of Less and put. -/
import Derived.Test.YtmgikaanckbadaaESome
import Derived.Test.YtmgikaanckbadaaLater
import Derived.Deep.RegionLaw
import Derived.Deep.AppendLies
namespace Go.Proofs.Ytmgikaanckbadaa
open Go.RowKit Go.Shelf Go.Sort Go.Lib

set_option maxHeartbeats 1000000 in
theorem less_any (x y : Int × Int) (w : World) :
    Calls Try.prog 34 #[.agg #[.int .i64 x.1, .int .i64 x.2], .agg #[.int .i64 y.1, .int .i64 y.2]] w fun e w' => e = .returned (.bool (Ed.lt x y)) ∧ Below w.heap.size w w' := by
  obtain ⟨wa, hwa⟩ : ∃ wa, (w.alloc (.cells #[.int .i64 x.1, .int .i64 x.2] 24)).alloc (.cells #[.int .i64 y.1, .int .i64 y.2] 24) = wa := ⟨_, rfl⟩
  have HB : Hid (Below w.heap.size w wa) := by rw [Hid, ← hwa]; exact ((Below.refl _ w).alloc (Nat.le_refl _) _).alloc (by simp) _
  have c1 : wa.cell? ⟨w.heap.size, 0, none⟩ = some (.int .i64 x.1) := by rw [← hwa]; simp
  have c2 : wa.cell? ⟨w.heap.size, 1, none⟩ = some (.int .i64 x.2) := by rw [← hwa]; simp
  have c3 : wa.cell? ⟨w.heap.size + 1, 0, none⟩ = some (.int .i64 y.1) := by rw [← hwa]; simp
  have c4 : wa.cell? ⟨w.heap.size + 1, 1, none⟩ = some (.int .i64 y.2) := by rw [← hwa]; simp
  obtain ⟨B, HL⟩ : ∃ B, Hid (Ed.lt x y = B) := ⟨_, rfl⟩
  rw [HL.out]
  have HI0 := Ed.lt_iff x y
  rw [HL.out] at HI0
  have HI : Hid _ := HI0
  clear HL HI0
  generalize x.1 = a at *
  generalize x.2 = b at *
  generalize y.1 = c at *
  generalize y.2 = d at *
  by_cases h1 : a < c
  · obtain rfl : B = true := HI.out.2 (.inl h1)
    go_enter Try.func34, Try.ntmps34
    go_wp2
    go_ret
    exact ⟨rfl, HB.out⟩
  · by_cases h2 : a = c
    · subst h2
      by_cases h3 : b < d
      · obtain rfl : B = true := HI.out.2 (.inr ⟨rfl, h3⟩)
        go_enter Try.func34, Try.ntmps34
        go_wp2
        go_ret
        exact ⟨rfl, HB.out⟩
      · obtain rfl : B = false := by
          cases hB : B with
          | false => rfl
          | true => rcases HI.out.1 hB with h | ⟨_, h⟩ <;> omega
        go_enter Try.func34, Try.ntmps34
        go_wp2
        go_ret
        exact ⟨rfl, HB.out⟩
    · obtain rfl : B = false := by
        cases hB : B with
        | false => rfl
        | true => rcases HI.out.1 hB with h | ⟨h, _⟩ <;> omega
      have hq : (a == c) = false := by simpa using h2
      go_enter Try.func34, Try.ntmps34
      go_wp2
      go_ret
      exact ⟨rfl, HB.out⟩

/-- An edge laid behind those that are not above it, ahead of those that are. -/
theorem ins_at {l : List (Int × Int)} {x : Int × Int} {k : Nat} (hu : Ed.Up l) (hk : k ≤ l.length) (h1 : ∀ j, k ≤ j → j < l.length → Ed.lt x (l.getD j e0) = true) (h2 : k = 0 ∨ Ed.lt x (l.getD (k - 1) e0) = false) :
    l.take k ++ x :: l.drop k = Ed.ins x l := by
  have hlow : ∀ y ∈ l.take k, Ed.lt x y = false := by
    intro y hy
    obtain ⟨j, hj, rfl⟩ := List.getElem_of_mem hy
    have hjk : j < k ∧ j < l.length := by rw [List.length_take] at hj; omega
    rcases h2 with rfl | h2
    · omega
    · rw [List.getElem_take]
      rw [List.getD_eq_getElem?_getD, List.getElem?_eq_getElem (by omega)] at h2
      by_cases e : j = k - 1
      · subst e; exact h2
      · have := (List.pairwise_iff_getElem.1 hu) j (k - 1) hjk.2 (by omega) (by omega)
        exact Ed.lt_ntrans h2 this
  have hhigh : ∀ y ∈ l.drop k, Ed.lt x y = true := by
    intro y hy
    obtain ⟨j, hj, rfl⟩ := List.getElem_of_mem hy
    have hjk : k + j < l.length := by simp at hj; omega
    rw [List.getElem_drop]
    have := h1 (k + j) (by omega) hjk
    rw [List.getD_eq_getElem?_getD, List.getElem?_eq_getElem hjk] at this
    exact this
  refine Ed.up_unique ?_ (Ed.ins_up hu) ?_
  · refine List.pairwise_append.2 ⟨hu.sublist (List.take_sublist _ _), List.pairwise_cons.2 ⟨fun y hy => Ed.lt_asym (hhigh y hy), hu.sublist (List.drop_sublist _ _)⟩, fun a ha b hb => ?_⟩
    rcases List.mem_cons.1 hb with rfl | hb
    · exact hlow a ha
    · exact Ed.lt_ntrans (Ed.lt_asym (hhigh b hb)) (hlow a ha)
  · refine List.perm_middle.trans ?_
    rw [List.take_append_drop]
    exact (Ed.ins_perm x l).symm

/-- An edge is there just if it stands where it would be laid. -/
theorem mem_at {l : List (Int × Int)} {x : Int × Int} {k : Nat} (hu : Ed.Up l) (hk : k ≤ l.length) (h1 : ∀ j, k ≤ j → j < l.length → Ed.lt x (l.getD j e0) = true) (h2 : k = 0 ∨ Ed.lt x (l.getD (k - 1) e0) = false) :
    x ∈ l ↔ 0 < k ∧ l.getD (k - 1) e0 = x := by
  constructor
  · intro hx
    obtain ⟨j, hj, rfl⟩ := List.getElem_of_mem hx
    have hjk : j < k := by
      rcases Nat.lt_or_ge j k with h | h
      · exact h
      · have := h1 j h hj
        rw [List.getD_eq_getElem?_getD, List.getElem?_eq_getElem hj] at this
        simp only [Option.getD_some] at this
        rw [Ed.lt_irr] at this; cases this
    refine ⟨by omega, ?_⟩
    rcases h2 with rfl | h2
    · omega
    · rw [List.getD_eq_getElem?_getD, List.getElem?_eq_getElem (show k - 1 < l.length by omega)] at h2 ⊢
      simp only [Option.getD_some] at h2 ⊢
      by_cases e : j = k - 1
      · subst e; rfl
      · exact (Ed.lt_tri h2 ((List.pairwise_iff_getElem.1 hu) j (k - 1) hj (by omega) (by omega))).symm
  · rintro ⟨h, rfl⟩
    exact getD_mem_e (by omega)

/-- What put makes. -/
def putE (l : List (Int × Int)) (x : Int × Int) (once : Bool) : List (Int × Int) := if once && decide (x ∈ l) then l else Ed.ins x l

theorem ecells_drop (l : List (Int × Int)) (n : Nat) : (ecells l).drop (n * 2) = ecells (l.drop n) := by
  induction l generalizing n with
  | nil => simp [ecells]
  | cons x l ih =>
    cases n with
    | zero => simp [ecells]
    | succ n =>
      rw [show (n + 1) * 2 = n * 2 + 1 + 1 by omega]
      have e : ecells (x :: l) = .int .i64 x.1 :: .int .i64 x.2 :: ecells l := rfl
      rw [e, List.drop_succ_cons, List.drop_succ_cons, ih]
      rfl

/-- A list of edges that the document's own text has made: nil, or a row with an edge in it. -/
def Held (W : World) (v : Value) (l : List (Int × Int)) : Prop :=
  (v = .slice none 0 0 ∧ l = []) ∨ ∃ g cap, v = .slice (some ⟨g, 0, none⟩) l.length cap ∧ 0 < l.length ∧ l.length ≤ cap ∧ ∀ j, j < l.length → W.cell? ⟨g, j * 2, none⟩ = some (.int .i64 (l.getD j e0).1) ∧ W.cell? ⟨g, j * 2 + 1, none⟩ = some (.int .i64 (l.getD j e0).2)
theorem Held.later {w w' : World} {v : Value} {l : List (Int × Int)} (h : Held w v l) (hb : Below w.heap.size w w') : Held w' v l := by
  rcases h with h | ⟨g, cap, rfl, h1, h2, h3⟩
  · exact .inl h
  · exact .inr ⟨g, cap, rfl, h1, h2, fun j hj => ⟨cell_after hb (h3 j hj).1, cell_after hb (h3 j hj).2⟩⟩
theorem Held.edg {w : World} {v : Value} {l : List (Int × Int)} (h : Held w v l) : Edg w v l := by
  rcases h with ⟨rfl, rfl⟩ | ⟨g, cap, rfl, h1, h2, h3⟩
  · exact edg_nil w
  · exact ⟨_, cap, rfl, h2, .inr ⟨g, 0, rfl, fun j hj => by rw [Nat.zero_add]; exact h3 j hj⟩⟩
theorem Held.of_own {w : World} {base n : Nat} {v : Value} {l : List (Int × Int)} (h : w.ownsRow base 24 2 v n (ecells l)) (hn : 0 < n) : Held w v l := by
  have hlen := h.1
  rw [ecells_len] at hlen
  have hl : l.length = n := by omega
  rcases h.2 with ⟨_, h0⟩ | ⟨g, cap, cur, rfl, _, _, hcap, _⟩
  · omega
  · refine .inr ⟨g, cap, by rw [hl], by omega, by omega, fun j hj => ?_⟩
    obtain ⟨c1, c2, _, _⟩ := own_at h hl (show j < n by omega)
    exact ⟨c1, c2⟩

theorem putE_nil (x : Int × Int) (once : Bool) : putE [] x once = [x] := by unfold putE; simp [Ed.ins]

theorem own_nil (w : World) (base : Nat) : w.ownsRow base 24 2 (.slice none 0 0) 0 (ecells []) := World.ownsRow_nil _ _ _ _

theorem own_cap {w : World} {base e size g n cap : Nat} {xs : List Value} (h : w.ownsRow base e size (.slice (some ⟨g, 0, none⟩) n cap) n xs) : n ≤ cap := by
  rcases h.2 with ⟨h', _⟩ | ⟨g', cap', cur, h', _, _, hnc, _⟩
  · simp at h'
  · simp only [Value.slice.injEq, Option.some.injEq, Addr.mk.injEq, and_true, true_and] at h'
    obtain ⟨rfl, rfl⟩ := h'
    exact hnc

set_option maxHeartbeats 2000000 in
set_option maxRecDepth 100000 in
theorem put_nil (x : Int × Int) (once : Bool) (w : World) :
    Calls Try.prog 26 #[.slice none 0 0, .agg #[.int .i64 x.1, .int .i64 x.2], .bool once] w fun e w' => ∃ u, e = .returned u ∧ Held w' u [x] ∧ Below w.heap.size w w' := by
  obtain ⟨i0, hi0, hz0, hz1, hz2⟩ := info_parts Try.edgeInfo
  obtain ⟨wA, hwA⟩ : ∃ wA, w.alloc (.cells #[.int .i64 x.1, .int .i64 x.2] 24) = wA := ⟨_, rfl⟩
  have HBA : Hid (Below w.heap.size w wA) := by rw [Hid, ← hwA]; exact alloc_below w _
  have b1 : wA.cell? ⟨w.heap.size, 0, none⟩ = some (.int .i64 x.1) := by rw [← hwA]; simp
  have b2 : wA.cell? ⟨w.heap.size, 1, none⟩ = some (.int .i64 x.2) := by rw [← hwA]; simp
  have b1' := Later.cell b1
  have b2' := Later.cell b2
  have hne := Later.some wA
  cases once
  · go_enter Try.func26, Try.ntmps26
    go_wp2_with fail
    refine wp_loop_rounds 1 ?_
    rw [rounds_succ]
    go_wp2_with fail
    refine wp_region_later (by kernel_rfl) (by kernel_rfl) ?_
    repeat (go_big_quiet_step (fail))
    refine wpQuiet_nil ?_
    intro w1 hw1
    obtain ⟨⟨w2, hb2⟩, rfl⟩ := hw1
    go_wp2_with fail
    have hne2 := Later.some w1
    refine wp_region_later (by kernel_rfl) (by kernel_rfl) ?_
    repeat (go_big_quiet_step (fail))
    refine wpQuiet_nil ?_
    intro w3 hw3
    obtain ⟨⟨w4, hb4⟩, rfl⟩ := hw3
    have hb5 := bnext hb2 hb4
    have d1 := cell_after hb5 b1
    have d2 := cell_after hb5 b2
    have HB4 : Hid (Below w.heap.size w w3) := bnext HBA.out hb5
    have HS4 : Hid (w.heap.size ≤ w3.heap.size) := HB4.out.size
    clear hb2 hb4 hb5 b1 b2 b1' b2' hne hne2
    go_wp2_with (at_builtin; refine wpList_append_lies _ rfl _ _ 22 rfl w.heap.size 24 i0 (.agg #[.int .i64 0, .int .i64 0]) 2 16 Try.underlying22 hi0 hz0 hz1 hz2 rfl (by decide) _ 0 (ecells []) rfl (own_nil _ _) ⟨w3.heap.size, 0, none⟩ 1 1 [.int .i64 x.1, .int .i64 x.2] rfl rfl (cell_two_new _ _ _ _) (by simp [Value.oneCell']) (by decide) (by unfold maxLen; omega) (by omega) (by have := HS4.out; simp; omega) _ rfl ?_)
    intro g cap w5 hown hgrow hat hlt
    have hcap1 : 1 ≤ cap := own_cap hown
    have HO : Hid (w5.ownsRow w.heap.size 24 2 (.slice (some ⟨g, 0, none⟩) 1 cap) 1 (ecells [x])) := hown
    have HB5 : Hid (Below w.heap.size w w5) := (HB4.out.alloc HB4.out.size _).grown hgrow (by have := HS4.out; simp; omega) (by intro k hk; cases hk)
    clear hown hgrow hat hlt
    go_wp2
    go_ret
    exact ⟨_, rfl, Held.of_own HO.out (by decide), HB5.out⟩
  · go_enter Try.func26, Try.ntmps26
    go_wp2_with fail
    refine wp_loop_rounds 1 ?_
    rw [rounds_succ]
    go_wp2_with fail
    refine wp_region_later (by kernel_rfl) (by kernel_rfl) ?_
    repeat (go_big_quiet_step (fail))
    refine wpQuiet_nil ?_
    intro w1 hw1
    obtain ⟨⟨w2, hb2⟩, rfl⟩ := hw1
    go_wp2_with fail
    have hne2 := Later.some w1
    refine wp_region_later (by kernel_rfl) (by kernel_rfl) ?_
    repeat (go_big_quiet_step (fail))
    refine wpQuiet_nil ?_
    intro w3 hw3
    obtain ⟨⟨w4, hb4⟩, rfl⟩ := hw3
    have hb5 := bnext hb2 hb4
    have d1 := cell_after hb5 b1
    have d2 := cell_after hb5 b2
    have HB4 : Hid (Below w.heap.size w w3) := bnext HBA.out hb5
    have HS4 : Hid (w.heap.size ≤ w3.heap.size) := HB4.out.size
    clear hb2 hb4 hb5 b1 b2 b1' b2' hne hne2
    go_wp2_with (at_builtin; refine wpList_append_lies _ rfl _ _ 22 rfl w.heap.size 24 i0 (.agg #[.int .i64 0, .int .i64 0]) 2 16 Try.underlying22 hi0 hz0 hz1 hz2 rfl (by decide) _ 0 (ecells []) rfl (own_nil _ _) ⟨w3.heap.size, 0, none⟩ 1 1 [.int .i64 x.1, .int .i64 x.2] rfl rfl (cell_two_new _ _ _ _) (by simp [Value.oneCell']) (by decide) (by unfold maxLen; omega) (by omega) (by have := HS4.out; simp; omega) _ rfl ?_)
    intro g cap w5 hown hgrow hat hlt
    have hcap1 : 1 ≤ cap := own_cap hown
    have HO : Hid (w5.ownsRow w.heap.size 24 2 (.slice (some ⟨g, 0, none⟩) 1 cap) 1 (ecells [x])) := hown
    have HB5 : Hid (Below w.heap.size w w5) := (HB4.out.alloc HB4.out.size _).grown hgrow (by have := HS4.out; simp; omega) (by intro k hk; cases hk)
    clear hown hgrow hat hlt
    go_wp2
    go_ret
    exact ⟨_, rfl, Held.of_own HO.out (by decide), HB5.out⟩

set_option maxHeartbeats 4000000 in
set_option maxRecDepth 100000 in
theorem put_some (g cap : Nat) (l : List (Int × Int)) (x : Int × Int) (once : Bool) (w : World) (hpos : 0 < l.length) (hcap : l.length ≤ cap) (hc : ∀ j, j < l.length → w.cell? ⟨g, j * 2, none⟩ = some (.int .i64 (l.getD j e0).1) ∧ w.cell? ⟨g, j * 2 + 1, none⟩ = some (.int .i64 (l.getD j e0).2)) (hu : Ed.Up l) (hl : l.length ≤ 1000000) :
    Calls Try.prog 26 #[.slice (some ⟨g, 0, none⟩) l.length cap, .agg #[.int .i64 x.1, .int .i64 x.2], .bool once] w fun e w' => ∃ u, e = .returned u ∧ Held w' u (putE l x once) ∧ Below w.heap.size w w' := by
  obtain ⟨i0, hi0, hz0, hz1, hz2⟩ := info_parts Try.edgeInfo
  have HU : Hid (Ed.Up l) := hu
  have HCL : Hid _ := hc
  clear hu hc
  have hgd := edge_guard
  obtain ⟨wA, hwA⟩ : ∃ wA, w.alloc (.cells #[.int .i64 x.1, .int .i64 x.2] 24) = wA := ⟨_, rfl⟩
  have HBA : Hid (Below w.heap.size w wA) := by rw [Hid, ← hwA]; exact alloc_below w _
  have b1 : Hid (wA.cell? ⟨w.heap.size, 0, none⟩ = some (.int .i64 x.1)) := by rw [Hid, ← hwA]; simp
  have b2 : Hid (wA.cell? ⟨w.heap.size, 1, none⟩ = some (.int .i64 x.2)) := by rw [Hid, ← hwA]; simp
  go_enter Try.func26, Try.ntmps26
  go_wp2_with fail
  go_loopw [7] (fun i wr => ∃ k : Nat, k ≤ l.length ∧ i = .int .i64 k ∧ Hid (∀ j, k ≤ j → j < l.length → Ed.lt x (l.getD j e0) = true) ∧ Hid (Below wA.heap.size wA wr)) (fun i _ => (intOf i).toNat)
  case atStart => exact ⟨l.length, Nat.le_refl _, rfl, fun j h1 h2 => by omega, Below.refl _ _⟩
  case round =>
    obtain ⟨k, hk, rfl, HH, HB⟩ := hrel
    have x1 := cell_after HB.out b1.out
    have x2 := cell_after HB.out b2.out
    by_cases h0 : k = 0
    · subst h0
      have hne := Later.some wr
      cases once
      · have HP : Hid (putE l x false = l.take 0 ++ x :: l.drop 0) := by
          have h1 := ins_at HU.out hk HH.out (.inl rfl)
          have h2 := mem_at HU.out hk HH.out (.inl rfl)
          rw [Hid]
          unfold putE
          rw [decide_eq_false (fun h => by have := (h2.1 h).1; omega), Bool.and_false, if_neg (by simp), ← h1]
        go_wp2_with fail
        refine wp_region_later (by kernel_rfl) (by kernel_rfl) ?_
        repeat (go_big_quiet_step (fail))
        refine wpQuiet_nil ?_
        intro w1 hw1
        obtain ⟨⟨w2, hb2⟩, rfl⟩ := hw1
        have hb2 : Hid (Below wr.heap.size wr w1) := hb2
        have hne2 := Later.some w1
        clear hne
        go_wp2_with fail
        refine wp_region_later (by kernel_rfl) (by kernel_rfl) ?_
        repeat (go_big_quiet_step (fail))
        refine wpQuiet_nil ?_
        intro w3 hw3
        obtain ⟨⟨w4, hb4⟩, rfl⟩ := hw3
        have hb5 := bnext hb2.out hb4
        have d1 := cell_after hb5 x1
        have d2 := cell_after hb5 x2
        have HB3 : Hid (Below w.heap.size w w3) := bnext (bnext HBA.out HB.out) hb5
        have HS3 : Hid (w.heap.size ≤ w3.heap.size) := HB3.out.size
        clear hb4 hb5 hne2 x1 x2
        go_wp2_with (at_builtin; refine wpList_append_own _ rfl _ _ 22 rfl w.heap.size 24 i0 (.agg #[.int .i64 0, .int .i64 0]) 2 16 Try.underlying22 hi0 hz0 hz1 hz2 rfl (by decide) _ 0 (ecells []) rfl (own_nil _ _) ⟨g, 0, none⟩ 0 cap (ecells (l.take 0)) rfl ?q1 ?q2 ?q3 ?q4 ?q5 ?q6 ?_)
        case q1 => rw [ecells_len, List.length_take]; omega
        case q2 =>
          intro j u hj
          rw [Addr.add_lit]
          refine cell_after HB3.out (cells_of (off := 0) (fun j hj => by rw [Nat.zero_add]; exact HCL.out j hj) j u ?_)
          rw [← ecells_take] at hj
          by_cases hjk : j < 0 * 2
          · rwa [List.getElem?_take_of_lt hjk] at hj
          · rw [List.getElem?_take_eq_none (by omega)] at hj; cases hj
        case q3 => exact ecells_one _
        case q4 => unfold maxLen; omega
        case q5 => omega
        case q6 => exact HS3.out
        intro v5 w5 hown5 hgrow5 hnil5
        have HO5 : Hid (w5.ownsRow w.heap.size 24 2 v5 0 (ecells (l.take 0))) := by
          rw [Hid]; first | exact hown5 | (rw [Nat.zero_add] at hown5; exact hown5)
        have HB5 : Hid (Below w.heap.size w w5) := HB3.out.grown hgrow5 HS3.out (by intro k hk; cases hk)
        have HS5 : Hid (w.heap.size ≤ w5.heap.size) := HB5.out.size
        have f1 : w5.cell? ⟨w.heap.size, 0, none⟩ = some (.int .i64 x.1) := hgrow5.cell d1 (by simp [Value.ownBlock])
        have f2 : w5.cell? ⟨w.heap.size, 1, none⟩ = some (.int .i64 x.2) := hgrow5.cell d2 (by simp [Value.ownBlock])
        clear hown5 hgrow5 hnil5 d1 d2 HB3 HS3
        go_wp2_with (at_builtin; refine wpList_append_lies _ rfl _ _ 22 rfl w.heap.size 24 i0 (.agg #[.int .i64 0, .int .i64 0]) 2 16 Try.underlying22 hi0 hz0 hz1 hz2 rfl (by decide) _ 0 (ecells (l.take 0)) rfl (HO5.out.alloc _) ⟨w5.heap.size, 0, none⟩ 1 1 [.int .i64 x.1, .int .i64 x.2] rfl rfl (cell_two_new _ _ _ _) (by simp [Value.oneCell']) (by decide) (by unfold maxLen; omega) (by omega) (by have := HS5.out; simp; omega) _ rfl ?_)
        intro g6 cap6 w6 hown6 hgrow6 hat6 hlt6
        have hcap6 : 0 + 1 ≤ cap6 := own_cap hown6
        have HO6 : Hid (w6.ownsRow w.heap.size 24 2 (.slice (some ⟨g6, 0, none⟩) (0 + 1) cap6) (0 + 1) (ecells (l.take 0 ++ [x]))) := by
          rw [Hid, ← ecells_snoc]; exact hown6
        have HB6 : Hid (Below w.heap.size w w6) := (HB5.out.alloc HS5.out _).grown hgrow6 (by have := HS5.out; simp; omega) (fun q e => (HO5.out.lt q e).1)
        have HS6 : Hid (w.heap.size ≤ w6.heap.size) := HB6.out.size
        clear hown6 hgrow6 hat6 hlt6 f1 f2 HO5 HB5 HS5
        have HT : Hid (putE l x false = l.take 0 ++ [x] ++ l.drop 0) := by rw [Hid, HP.out, List.append_assoc]; rfl
        go_wp2_with (at_builtin; refine wpList_append_own _ rfl _ _ 22 rfl w.heap.size 24 i0 (.agg #[.int .i64 0, .int .i64 0]) 2 16 Try.underlying22 hi0 hz0 hz1 hz2 rfl (by decide) _ (0 + 1) (ecells (l.take 0 ++ [x])) rfl HO6.out ⟨g, 0, none⟩ l.length cap (ecells (l.drop 0)) rfl ?q1 ?q2 ?q3 ?q4 ?q5 ?q6 ?_)
        case q1 => rw [ecells_len, List.length_drop]; rfl
        case q2 =>
          intro j u hj
          rw [Addr.add_lit]
          exact cell_after HB6.out (cells_of (off := 0) (fun j hj => by rw [Nat.zero_add]; exact HCL.out j hj) j u hj)
        case q3 => exact ecells_one _
        case q4 => unfold maxLen; omega
        case q5 => omega
        case q6 => exact HS6.out
        intro v7 w7 hown7 hgrow7 hnil7
        have HO7 : Hid (w7.ownsRow w.heap.size 24 2 v7 (0 + 1 + l.length) (ecells (putE l x false))) := by
          rw [Hid, HT.out, ecells_app (l.take 0 ++ [x])]; exact hown7
        have HB7 : Hid (Below w.heap.size w w7) := HB6.out.grown hgrow7 HS6.out (fun q e => (HO6.out.lt q e).1)
        clear hown7 hgrow7 hnil7
        go_wp2
        go_ret
        exact ⟨_, rfl, Held.of_own HO7.out (by omega), HB7.out⟩
      · have HP : Hid (putE l x true = l.take 0 ++ x :: l.drop 0) := by
          have h1 := ins_at HU.out hk HH.out (.inl rfl)
          have h2 := mem_at HU.out hk HH.out (.inl rfl)
          rw [Hid]
          unfold putE
          rw [decide_eq_false (fun h => by have := (h2.1 h).1; omega), Bool.and_false, if_neg (by simp), ← h1]
        go_wp2_with fail
        refine wp_region_later (by kernel_rfl) (by kernel_rfl) ?_
        repeat (go_big_quiet_step (fail))
        refine wpQuiet_nil ?_
        intro w1 hw1
        obtain ⟨⟨w2, hb2⟩, rfl⟩ := hw1
        have hb2 : Hid (Below wr.heap.size wr w1) := hb2
        have hne2 := Later.some w1
        clear hne
        go_wp2_with fail
        refine wp_region_later (by kernel_rfl) (by kernel_rfl) ?_
        repeat (go_big_quiet_step (fail))
        refine wpQuiet_nil ?_
        intro w3 hw3
        obtain ⟨⟨w4, hb4⟩, rfl⟩ := hw3
        have hb5 := bnext hb2.out hb4
        have d1 := cell_after hb5 x1
        have d2 := cell_after hb5 x2
        have HB3 : Hid (Below w.heap.size w w3) := bnext (bnext HBA.out HB.out) hb5
        have HS3 : Hid (w.heap.size ≤ w3.heap.size) := HB3.out.size
        clear hb4 hb5 hne2 x1 x2
        go_wp2_with (at_builtin; refine wpList_append_own _ rfl _ _ 22 rfl w.heap.size 24 i0 (.agg #[.int .i64 0, .int .i64 0]) 2 16 Try.underlying22 hi0 hz0 hz1 hz2 rfl (by decide) _ 0 (ecells []) rfl (own_nil _ _) ⟨g, 0, none⟩ 0 cap (ecells (l.take 0)) rfl ?q1 ?q2 ?q3 ?q4 ?q5 ?q6 ?_)
        case q1 => rw [ecells_len, List.length_take]; omega
        case q2 =>
          intro j u hj
          rw [Addr.add_lit]
          refine cell_after HB3.out (cells_of (off := 0) (fun j hj => by rw [Nat.zero_add]; exact HCL.out j hj) j u ?_)
          rw [← ecells_take] at hj
          by_cases hjk : j < 0 * 2
          · rwa [List.getElem?_take_of_lt hjk] at hj
          · rw [List.getElem?_take_eq_none (by omega)] at hj; cases hj
        case q3 => exact ecells_one _
        case q4 => unfold maxLen; omega
        case q5 => omega
        case q6 => exact HS3.out
        intro v5 w5 hown5 hgrow5 hnil5
        have HO5 : Hid (w5.ownsRow w.heap.size 24 2 v5 0 (ecells (l.take 0))) := by
          rw [Hid]; first | exact hown5 | (rw [Nat.zero_add] at hown5; exact hown5)
        have HB5 : Hid (Below w.heap.size w w5) := HB3.out.grown hgrow5 HS3.out (by intro k hk; cases hk)
        have HS5 : Hid (w.heap.size ≤ w5.heap.size) := HB5.out.size
        have f1 : w5.cell? ⟨w.heap.size, 0, none⟩ = some (.int .i64 x.1) := hgrow5.cell d1 (by simp [Value.ownBlock])
        have f2 : w5.cell? ⟨w.heap.size, 1, none⟩ = some (.int .i64 x.2) := hgrow5.cell d2 (by simp [Value.ownBlock])
        clear hown5 hgrow5 hnil5 d1 d2 HB3 HS3
        go_wp2_with (at_builtin; refine wpList_append_lies _ rfl _ _ 22 rfl w.heap.size 24 i0 (.agg #[.int .i64 0, .int .i64 0]) 2 16 Try.underlying22 hi0 hz0 hz1 hz2 rfl (by decide) _ 0 (ecells (l.take 0)) rfl (HO5.out.alloc _) ⟨w5.heap.size, 0, none⟩ 1 1 [.int .i64 x.1, .int .i64 x.2] rfl rfl (cell_two_new _ _ _ _) (by simp [Value.oneCell']) (by decide) (by unfold maxLen; omega) (by omega) (by have := HS5.out; simp; omega) _ rfl ?_)
        intro g6 cap6 w6 hown6 hgrow6 hat6 hlt6
        have hcap6 : 0 + 1 ≤ cap6 := own_cap hown6
        have HO6 : Hid (w6.ownsRow w.heap.size 24 2 (.slice (some ⟨g6, 0, none⟩) (0 + 1) cap6) (0 + 1) (ecells (l.take 0 ++ [x]))) := by
          rw [Hid, ← ecells_snoc]; exact hown6
        have HB6 : Hid (Below w.heap.size w w6) := (HB5.out.alloc HS5.out _).grown hgrow6 (by have := HS5.out; simp; omega) (fun q e => (HO5.out.lt q e).1)
        have HS6 : Hid (w.heap.size ≤ w6.heap.size) := HB6.out.size
        clear hown6 hgrow6 hat6 hlt6 f1 f2 HO5 HB5 HS5
        have HT : Hid (putE l x true = l.take 0 ++ [x] ++ l.drop 0) := by rw [Hid, HP.out, List.append_assoc]; rfl
        go_wp2_with (at_builtin; refine wpList_append_own _ rfl _ _ 22 rfl w.heap.size 24 i0 (.agg #[.int .i64 0, .int .i64 0]) 2 16 Try.underlying22 hi0 hz0 hz1 hz2 rfl (by decide) _ (0 + 1) (ecells (l.take 0 ++ [x])) rfl HO6.out ⟨g, 0, none⟩ l.length cap (ecells (l.drop 0)) rfl ?q1 ?q2 ?q3 ?q4 ?q5 ?q6 ?_)
        case q1 => rw [ecells_len, List.length_drop]; rfl
        case q2 =>
          intro j u hj
          rw [Addr.add_lit]
          exact cell_after HB6.out (cells_of (off := 0) (fun j hj => by rw [Nat.zero_add]; exact HCL.out j hj) j u hj)
        case q3 => exact ecells_one _
        case q4 => unfold maxLen; omega
        case q5 => omega
        case q6 => exact HS6.out
        intro v7 w7 hown7 hgrow7 hnil7
        have HO7 : Hid (w7.ownsRow w.heap.size 24 2 v7 (0 + 1 + l.length) (ecells (putE l x true))) := by
          rw [Hid, HT.out, ecells_app (l.take 0 ++ [x])]; exact hown7
        have HB7 : Hid (Below w.heap.size w w7) := HB6.out.grown hgrow7 HS6.out (fun q e => (HO6.out.lt q e).1)
        clear hown7 hgrow7 hnil7
        go_wp2
        go_ret
        exact ⟨_, rfl, Held.of_own HO7.out (by omega), HB7.out⟩
    · have hB2 := bnext HBA.out HB.out
      have c1 := cell_after hB2 (HCL.out (k - 1) (by omega)).1
      have c2 := cell_after hB2 (HCL.out (k - 1) (by omega)).2
      have hkd : decide (0 < k) = true := by simp; omega
      have hk1 : ((k : Int) - 1) = ((k - 1 : Nat) : Int) := by omega
      have hkk : k - 1 < l.length := by omega
      have HN : Hid (Ed.lt x (l.getD (k - 1) e0) = true → ∀ j, k - 1 ≤ j → j < l.length → Ed.lt x (l.getD j e0) = true) := fun h j h1 h2 => by
        by_cases e : j = k - 1
        · subst e; exact h
        · exact HH.out j (by omega) h2
      have HC := fun W => less_any x (l.getD (k - 1) e0) W
      have HS : Hid (Ed.lt x (l.getD (k - 1) e0) = false → l.take k ++ x :: l.drop k = Ed.ins x l ∧ (x ∈ l ↔ l.getD (k - 1) e0 = x)) := fun h => ⟨ins_at HU.out hk HH.out (.inr h), (mem_at HU.out hk HH.out (.inr h)).trans ⟨fun h => h.2, fun h => ⟨by omega, h⟩⟩⟩
      generalize l.getD (k - 1) e0 = p at *
      have x1' := Later.cell x1
      have x2' := Later.cell x2
      have c1' := Later.cell c1
      have c2' := Later.cell c2
      have hne := Later.some wr
      cases hlt : Ed.lt x p with
      | true =>
        rw [hlt] at HC
        have HC : Hid _ := HC
        have HN1 : Hid _ := HN.out hlt
        clear hlt HN HS
        go_wp2_with fail
        refine wp_region_later (by kernel_rfl) (by kernel_rfl) ?_
        repeat (go_big_quiet_step ((go_at_call 34; exact Later.made (HC.out _))))
        refine wpQuiet_nil ?_
        intro w1 hw1
        obtain ⟨⟨w2, hb2⟩, rfl⟩ := hw1
        have hb2 : Hid _ := hb2
        go_wp2
        go_roundw
        case rel => exact ⟨k - 1, by omega, by go_num, HN1, HB.out.trans (hb2.out.mono HB.out.size)⟩
        case measure => simp [intOf]; omega
      | false =>
        rw [hlt] at HC
        have HC : Hid _ := HC
        have HS1 : Hid _ := HS.out hlt
        clear hlt HN HS
        cases once
        · have HP : Hid (putE l x false = l.take k ++ x :: l.drop k) := by
            rw [Hid]; unfold putE
            rw [HS1.out.1]; rfl
          go_wp2_with fail
          refine wp_region_later (by kernel_rfl) (by kernel_rfl) ?_
          repeat (go_big_quiet_step ((go_at_call 34; exact Later.made (HC.out _))))
          refine wpQuiet_nil ?_
          intro w1 hw1
          obtain ⟨⟨w2, hb2⟩, rfl⟩ := hw1
          have hb2 : Hid (Below wr.heap.size wr w1) := hb2
          have hne2 := Later.some w1
          clear x1' x2' c1' c2' hne
          go_wp2_with fail
          refine wp_region_later (by kernel_rfl) (by kernel_rfl) ?_
          repeat (go_big_quiet_step (fail))
          refine wpQuiet_nil ?_
          intro w3 hw3
          obtain ⟨⟨w4, hb4⟩, rfl⟩ := hw3
          have hb5 := bnext hb2.out hb4
          have d1 := cell_after hb5 x1
          have d2 := cell_after hb5 x2
          have HB3 : Hid (Below w.heap.size w w3) := bnext hB2 hb5
          have HS3 : Hid (w.heap.size ≤ w3.heap.size) := HB3.out.size
          clear hb4 hb5 hne2 x1 x2 c1 c2 hB2
          go_wp2_with (at_builtin; refine wpList_append_own _ rfl _ _ 22 rfl w.heap.size 24 i0 (.agg #[.int .i64 0, .int .i64 0]) 2 16 Try.underlying22 hi0 hz0 hz1 hz2 rfl (by decide) _ 0 (ecells []) rfl (own_nil _ _) ⟨g, 0, none⟩ k cap (ecells (l.take k)) rfl ?q1 ?q2 ?q3 ?q4 ?q5 ?q6 ?_)
          case q1 => rw [ecells_len, List.length_take]; omega
          case q2 =>
            intro j u hj
            rw [Addr.add_lit]
            refine cell_after HB3.out (cells_of (off := 0) (fun j hj => by rw [Nat.zero_add]; exact HCL.out j hj) j u ?_)
            rw [← ecells_take] at hj
            by_cases hjk : j < k * 2
            · rwa [List.getElem?_take_of_lt hjk] at hj
            · rw [List.getElem?_take_eq_none (by omega)] at hj; cases hj
          case q3 => exact ecells_one _
          case q4 => unfold maxLen; omega
          case q5 => omega
          case q6 => exact HS3.out
          intro v5 w5 hown5 hgrow5 hnil5
          have HO5 : Hid (w5.ownsRow w.heap.size 24 2 v5 k (ecells (l.take k))) := by
            rw [Hid]; first | exact hown5 | (rw [Nat.zero_add] at hown5; exact hown5)
          have HB5 : Hid (Below w.heap.size w w5) := HB3.out.grown hgrow5 HS3.out (by intro k hk; cases hk)
          have HS5 : Hid (w.heap.size ≤ w5.heap.size) := HB5.out.size
          have f1 : w5.cell? ⟨w.heap.size, 0, none⟩ = some (.int .i64 x.1) := hgrow5.cell d1 (by simp [Value.ownBlock])
          have f2 : w5.cell? ⟨w.heap.size, 1, none⟩ = some (.int .i64 x.2) := hgrow5.cell d2 (by simp [Value.ownBlock])
          clear hown5 hgrow5 hnil5 d1 d2 HB3 HS3
          go_wp2_with (at_builtin; refine wpList_append_lies _ rfl _ _ 22 rfl w.heap.size 24 i0 (.agg #[.int .i64 0, .int .i64 0]) 2 16 Try.underlying22 hi0 hz0 hz1 hz2 rfl (by decide) _ k (ecells (l.take k)) rfl (HO5.out.alloc _) ⟨w5.heap.size, 0, none⟩ 1 1 [.int .i64 x.1, .int .i64 x.2] rfl rfl (cell_two_new _ _ _ _) (by simp [Value.oneCell']) (by decide) (by unfold maxLen; omega) (by omega) (by have := HS5.out; simp; omega) _ rfl ?_)
          intro g6 cap6 w6 hown6 hgrow6 hat6 hlt6
          have hcap6 : k + 1 ≤ cap6 := own_cap hown6
          have HO6 : Hid (w6.ownsRow w.heap.size 24 2 (.slice (some ⟨g6, 0, none⟩) (k + 1) cap6) (k + 1) (ecells (l.take k ++ [x]))) := by
            rw [Hid, ← ecells_snoc]; exact hown6
          have HB6 : Hid (Below w.heap.size w w6) := (HB5.out.alloc HS5.out _).grown hgrow6 (by have := HS5.out; simp; omega) (fun q e => (HO5.out.lt q e).1)
          have HS6 : Hid (w.heap.size ≤ w6.heap.size) := HB6.out.size
          clear hown6 hgrow6 hat6 hlt6 f1 f2 HO5 HB5 HS5
          have HT : Hid (putE l x false = l.take k ++ [x] ++ l.drop k) := by rw [Hid, HP.out, List.append_assoc]; rfl
          by_cases hkl : k = l.length
          · have HL : Hid (putE l x false = l.take k ++ [x]) := by rw [Hid, HT.out, List.drop_of_length_le (by omega), List.append_nil]
            have HH6 : Hid (Held w6 (.slice (some ⟨g6, 0, none⟩) (k + 1) cap6) (putE l x false)) := by rw [Hid, HL.out]; exact Held.of_own HO6.out (by omega)
            rw [hkl] at HH6
            clear HL HT HO6
            go_wp2
            all_goals go_ret
            all_goals exact ⟨_, rfl, HH6.out, HB6.out⟩
          · have hkl2 : k < l.length := by omega
            go_wp2_with (at_builtin; refine wpList_append_own _ rfl _ _ 22 rfl w.heap.size 24 i0 (.agg #[.int .i64 0, .int .i64 0]) 2 16 Try.underlying22 hi0 hz0 hz1 hz2 rfl (by decide) _ (k + 1) (ecells (l.take k ++ [x])) rfl HO6.out ⟨g, k * 2, none⟩ (l.length - k) (cap - k) (ecells (l.drop k)) rfl ?q1 ?q2 ?q3 ?q4 ?q5 ?q6 ?_)
            case q1 => rw [ecells_len, List.length_drop]
            case q2 =>
              intro j u hj
              rw [Addr.add_lit]
              refine cell_after HB6.out ?_
              refine Eq.trans ?_ (cells_of (off := 0) (fun j hj => by rw [Nat.zero_add]; exact HCL.out j hj) (k * 2 + j) u ?_)
              · rw [Nat.zero_add]
              · rw [← ecells_drop, List.getElem?_drop] at hj
                exact hj
            case q3 => exact ecells_one _
            case q4 => unfold maxLen; omega
            case q5 => omega
            case q6 => exact HS6.out
            intro v7 w7 hown7 hgrow7 hnil7
            have HO7 : Hid (w7.ownsRow w.heap.size 24 2 v7 (k + 1 + (l.length - k)) (ecells (putE l x false))) := by
              rw [Hid, HT.out, ecells_app (l.take k ++ [x])]; exact hown7
            have HB7 : Hid (Below w.heap.size w w7) := HB6.out.grown hgrow7 HS6.out (fun q e => (HO6.out.lt q e).1)
            clear hown7 hgrow7 hnil7
            go_wp2
            go_ret
            exact ⟨_, rfl, Held.of_own HO7.out (by omega), HB7.out⟩
        · by_cases hpx : p = x
          · have HP : Hid (putE l x true = l) := by
              rw [Hid]; unfold putE
              rw [decide_eq_true (HS1.out.2.2 hpx)]; rfl
            have heq : ∀ w, Sem.run Try.prog (binOp .eql 24 (.agg #[.int .i64 p.1, .int .i64 p.2]) (.agg #[.int .i64 x.1, .int .i64 x.2])) w = .ok (.bool true) w := fun w => by rw [edge_eql, decide_eq_true hpx]
            clear hpx
            go_wp2_with fail
            refine wp_region_later (by kernel_rfl) (by kernel_rfl) ?_
            repeat (go_big_quiet_step ((go_at_call 34; exact Later.made (HC.out _))))
            refine wpQuiet_nil ?_
            intro w1 hw1
            obtain ⟨⟨w2, hb2⟩, rfl⟩ := hw1
            have hb2 : Hid (Below wr.heap.size wr w1) := hb2
            have y1 := Later.cell (cell_after hb2.out x1)
            have y2 := Later.cell (cell_after hb2.out x2)
            have y3 := Later.cell (cell_after hb2.out c1)
            have y4 := Later.cell (cell_after hb2.out c2)
            have hne2 := Later.some w1
            clear x1' x2' c1' c2' hne
            go_wp2_with fail
            refine wp_region_later (by kernel_rfl) (by kernel_rfl) ?_
            repeat (go_big_quiet_step (fail))
            refine wpQuiet_nil ?_
            intro w3 hw3
            obtain ⟨⟨w4, hb4⟩, rfl⟩ := hw3
            have HB3 : Hid (Below w.heap.size w w3) := bnext hB2 (bnext hb2.out hb4)
            clear hb4 y1 y2 y3 y4 hne2
            go_wp2
            go_ret
            rw [HP.out]
            refine ⟨_, rfl, .inr ⟨g, cap, rfl, hpos, hcap, fun j hj => ?_⟩, HB3.out⟩
            exact ⟨cell_after HB3.out (HCL.out j hj).1, cell_after HB3.out (HCL.out j hj).2⟩
          · have HP : Hid (putE l x true = l.take k ++ x :: l.drop k) := by
              rw [Hid]; unfold putE
              rw [decide_eq_false (fun h => hpx (HS1.out.2.1 h)), HS1.out.1]; rfl
            have heq : ∀ w, Sem.run Try.prog (binOp .eql 24 (.agg #[.int .i64 p.1, .int .i64 p.2]) (.agg #[.int .i64 x.1, .int .i64 x.2])) w = .ok (.bool false) w := fun w => by rw [edge_eql, decide_eq_false hpx]
            clear hpx
            go_wp2_with fail
            refine wp_region_later (by kernel_rfl) (by kernel_rfl) ?_
            repeat (go_big_quiet_step ((go_at_call 34; exact Later.made (HC.out _))))
            refine wpQuiet_nil ?_
            intro w1 hw1
            obtain ⟨⟨w2, hb2⟩, rfl⟩ := hw1
            have hb2 : Hid (Below wr.heap.size wr w1) := hb2
            have y1 := Later.cell (cell_after hb2.out x1)
            have y2 := Later.cell (cell_after hb2.out x2)
            have y3 := Later.cell (cell_after hb2.out c1)
            have y4 := Later.cell (cell_after hb2.out c2)
            have hne2 := Later.some w1
            clear x1' x2' c1' c2' hne
            go_wp2_with fail
            refine wp_region_later (by kernel_rfl) (by kernel_rfl) ?_
            repeat (go_big_quiet_step (fail))
            refine wpQuiet_nil ?_
            intro w3 hw3
            obtain ⟨⟨w4, hb4⟩, rfl⟩ := hw3
            have hb5 := bnext hb2.out hb4
            have d1 := cell_after hb5 x1
            have d2 := cell_after hb5 x2
            have HB3 : Hid (Below w.heap.size w w3) := bnext hB2 hb5
            have HS3 : Hid (w.heap.size ≤ w3.heap.size) := HB3.out.size
            clear hb4 hb5 hne2 x1 x2 c1 c2 hB2 y1 y2 y3 y4
            go_wp2_with (at_builtin; refine wpList_append_own _ rfl _ _ 22 rfl w.heap.size 24 i0 (.agg #[.int .i64 0, .int .i64 0]) 2 16 Try.underlying22 hi0 hz0 hz1 hz2 rfl (by decide) _ 0 (ecells []) rfl (own_nil _ _) ⟨g, 0, none⟩ k cap (ecells (l.take k)) rfl ?q1 ?q2 ?q3 ?q4 ?q5 ?q6 ?_)
            case q1 => rw [ecells_len, List.length_take]; omega
            case q2 =>
              intro j u hj
              rw [Addr.add_lit]
              refine cell_after HB3.out (cells_of (off := 0) (fun j hj => by rw [Nat.zero_add]; exact HCL.out j hj) j u ?_)
              rw [← ecells_take] at hj
              by_cases hjk : j < k * 2
              · rwa [List.getElem?_take_of_lt hjk] at hj
              · rw [List.getElem?_take_eq_none (by omega)] at hj; cases hj
            case q3 => exact ecells_one _
            case q4 => unfold maxLen; omega
            case q5 => omega
            case q6 => exact HS3.out
            intro v5 w5 hown5 hgrow5 hnil5
            have HO5 : Hid (w5.ownsRow w.heap.size 24 2 v5 k (ecells (l.take k))) := by
              rw [Hid]; first | exact hown5 | (rw [Nat.zero_add] at hown5; exact hown5)
            have HB5 : Hid (Below w.heap.size w w5) := HB3.out.grown hgrow5 HS3.out (by intro k hk; cases hk)
            have HS5 : Hid (w.heap.size ≤ w5.heap.size) := HB5.out.size
            have f1 : w5.cell? ⟨w.heap.size, 0, none⟩ = some (.int .i64 x.1) := hgrow5.cell d1 (by simp [Value.ownBlock])
            have f2 : w5.cell? ⟨w.heap.size, 1, none⟩ = some (.int .i64 x.2) := hgrow5.cell d2 (by simp [Value.ownBlock])
            clear hown5 hgrow5 hnil5 d1 d2 HB3 HS3
            go_wp2_with (at_builtin; refine wpList_append_lies _ rfl _ _ 22 rfl w.heap.size 24 i0 (.agg #[.int .i64 0, .int .i64 0]) 2 16 Try.underlying22 hi0 hz0 hz1 hz2 rfl (by decide) _ k (ecells (l.take k)) rfl (HO5.out.alloc _) ⟨w5.heap.size, 0, none⟩ 1 1 [.int .i64 x.1, .int .i64 x.2] rfl rfl (cell_two_new _ _ _ _) (by simp [Value.oneCell']) (by decide) (by unfold maxLen; omega) (by omega) (by have := HS5.out; simp; omega) _ rfl ?_)
            intro g6 cap6 w6 hown6 hgrow6 hat6 hlt6
            have hcap6 : k + 1 ≤ cap6 := own_cap hown6
            have HO6 : Hid (w6.ownsRow w.heap.size 24 2 (.slice (some ⟨g6, 0, none⟩) (k + 1) cap6) (k + 1) (ecells (l.take k ++ [x]))) := by
              rw [Hid, ← ecells_snoc]; exact hown6
            have HB6 : Hid (Below w.heap.size w w6) := (HB5.out.alloc HS5.out _).grown hgrow6 (by have := HS5.out; simp; omega) (fun q e => (HO5.out.lt q e).1)
            have HS6 : Hid (w.heap.size ≤ w6.heap.size) := HB6.out.size
            clear hown6 hgrow6 hat6 hlt6 f1 f2 HO5 HB5 HS5
            have HT : Hid (putE l x true = l.take k ++ [x] ++ l.drop k) := by rw [Hid, HP.out, List.append_assoc]; rfl
            by_cases hkl : k = l.length
            · have HL : Hid (putE l x true = l.take k ++ [x]) := by rw [Hid, HT.out, List.drop_of_length_le (by omega), List.append_nil]
              have HH6 : Hid (Held w6 (.slice (some ⟨g6, 0, none⟩) (k + 1) cap6) (putE l x true)) := by rw [Hid, HL.out]; exact Held.of_own HO6.out (by omega)
              rw [hkl] at HH6
              clear HL HT HO6
              go_wp2
              all_goals go_ret
              all_goals exact ⟨_, rfl, HH6.out, HB6.out⟩
            · have hkl2 : k < l.length := by omega
              go_wp2_with (at_builtin; refine wpList_append_own _ rfl _ _ 22 rfl w.heap.size 24 i0 (.agg #[.int .i64 0, .int .i64 0]) 2 16 Try.underlying22 hi0 hz0 hz1 hz2 rfl (by decide) _ (k + 1) (ecells (l.take k ++ [x])) rfl HO6.out ⟨g, k * 2, none⟩ (l.length - k) (cap - k) (ecells (l.drop k)) rfl ?q1 ?q2 ?q3 ?q4 ?q5 ?q6 ?_)
              case q1 => rw [ecells_len, List.length_drop]
              case q2 =>
                intro j u hj
                rw [Addr.add_lit]
                refine cell_after HB6.out ?_
                refine Eq.trans ?_ (cells_of (off := 0) (fun j hj => by rw [Nat.zero_add]; exact HCL.out j hj) (k * 2 + j) u ?_)
                · rw [Nat.zero_add]
                · rw [← ecells_drop, List.getElem?_drop] at hj
                  exact hj
              case q3 => exact ecells_one _
              case q4 => unfold maxLen; omega
              case q5 => omega
              case q6 => exact HS6.out
              intro v7 w7 hown7 hgrow7 hnil7
              have HO7 : Hid (w7.ownsRow w.heap.size 24 2 v7 (k + 1 + (l.length - k)) (ecells (putE l x true))) := by
                rw [Hid, HT.out, ecells_app (l.take k ++ [x])]; exact hown7
              have HB7 : Hid (Below w.heap.size w w7) := HB6.out.grown hgrow7 HS6.out (fun q e => (HO6.out.lt q e).1)
              clear hown7 hgrow7 hnil7
              go_wp2
              go_ret
              exact ⟨_, rfl, Held.of_own HO7.out (by omega), HB7.out⟩

/-- put, of a list that the document's own text has made. -/
theorem put_any (v : Value) (l : List (Int × Int)) (x : Int × Int) (once : Bool) (w : World) (h : Held w v l) (hu : Ed.Up l) (hl : l.length ≤ 1000000) :
    Calls Try.prog 26 #[v, .agg #[.int .i64 x.1, .int .i64 x.2], .bool once] w fun e w' => ∃ u, e = .returned u ∧ Held w' u (putE l x once) ∧ Below w.heap.size w w' := by
  rcases h with ⟨rfl, rfl⟩ | ⟨g, cap, rfl, h1, h2, h3⟩
  · rw [putE_nil]
    exact put_nil x once w
  · exact put_some g cap l x once w h1 h2 h3 hu hl

end Go.Proofs.Ytmgikaanckbadaa
