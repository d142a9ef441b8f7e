/- The walk of edges.Degrees. -/
import Derived.Test.YtmgikaanckbadaaEOut
namespace Go.Proofs.Ytmgikaanckbadaa
open Go.RowKit Go.Shelf Go.Sort Go.Lib

/-- Of each of m vertices how often it is in L. -/
def tall (L : List Int) (m : Nat) : List Int := (List.range m).map fun v : Nat => Ed.cnt L (v : Int)
theorem tall_len (L : List Int) (m : Nat) : (tall L m).length = m := by simp [tall]
theorem cnt_snoc (L : List Int) (x v : Int) : Ed.cnt (L ++ [x]) v = Ed.cnt L v + if x = v then 1 else 0 := by
  unfold Ed.cnt
  rw [List.filter_append, List.length_append]
  by_cases h : x = v <;> simp [h]
theorem cnt_le (L : List Int) (v : Int) : 0 ≤ Ed.cnt L v ∧ Ed.cnt L v ≤ L.length := by
  unfold Ed.cnt
  have := List.length_filter_le (fun x => decide (x = v)) L
  omega
theorem tall_get (L : List Int) (m j : Nat) (h : j < m) : (tall L m)[j]? = some (Ed.cnt L j) := by
  simp [tall, h]
theorem tall_yes (L : List Int) (m j : Nat) (h : j < m) : tall (L ++ [(j : Int)]) m = (tall L m).set j (Ed.cnt L j + 1) := by
  apply List.ext_getElem?
  intro i
  rw [List.getElem?_set]
  by_cases hi : i < m
  · rw [tall_get _ m i hi, cnt_snoc]
    by_cases e : j = i
    · subst e
      rw [if_pos rfl, if_pos rfl, if_pos (by rw [tall_len]; exact h)]
    · rw [if_neg (by omega), if_neg e, tall_get _ m i hi, Int.add_zero]
  · rw [List.getElem?_eq_none (by rw [tall_len]; omega), if_neg (by omega), List.getElem?_eq_none (by rw [tall_len]; omega)]
theorem tall_no (L : List Int) (m : Nat) (x : Int) (h : ¬ (0 ≤ x ∧ x < m)) : tall (L ++ [x]) m = tall L m := by
  unfold tall
  apply List.map_congr_left
  intro v hv
  have := List.mem_range.1 hv
  rw [cnt_snoc, if_neg (by omega), Int.add_zero]
theorem tall_nil (m : Nat) : tall [] m = List.replicate m 0 := by
  apply List.ext_getElem?
  intro i
  by_cases hi : i < m
  · rw [tall_get _ m i hi, List.getElem?_replicate, if_pos hi]; rfl
  · rw [List.getElem?_eq_none (by rw [tall_len]; omega), List.getElem?_eq_none (by simp; omega)]

theorem vert_iff (m : Nat) (x : Int) : Ed.vert m x = true ↔ 0 ≤ x ∧ x < m := by simp [Ed.vert]

theorem row_at {W : World} {base g m j : Nat} {L : List Int} (h : W.ownsRow base 3 1 (.slice (some ⟨g, 0, none⟩) m m) m ((tall L m).map (Value.int .i64))) (hj : j < m) : W.cell? ⟨g, j, none⟩ = some (.int .i64 (Ed.cnt L j)) := by
  rw [h.cellAt j (by omega), List.getElem?_map, tall_get L m j hj]
  rfl
theorem row_put {W : World} {base g m j : Nat} {L : List Int} (h : W.ownsRow base 3 1 (.slice (some ⟨g, 0, none⟩) m m) m ((tall L m).map (Value.int .i64))) (hj : j < m) :
    (W.setCell ⟨g, j, none⟩ (.int .i64 (Ed.cnt L j + 1))).ownsRow base 3 1 (.slice (some ⟨g, 0, none⟩) m m) m ((tall (L ++ [(j : Int)]) m).map (Value.int .i64)) ∧ W.grownBy (W.setCell ⟨g, j, none⟩ (.int .i64 (Ed.cnt L j + 1))) (some g) := by
  have hs := h.stored j (.int .i64 (Ed.cnt L j + 1))
  rw [tall_yes L m j hj, List.map_set]
  exact hs

/-- make([]int, m), in whatever world. -/
theorem made_ints (m : Nat) (hm : m ≤ 1000000) :
    ∃ C : Array Value, ∀ w : World, (Instr.makeSlice 29 (.int .i64 (m : Int)) (.int .i64 (m : Int))).run Try.prog w = .ok (.slice (some ⟨w.heap.size, 0, none⟩) m m) (w.alloc (.cells C 3)) ∧ ∀ base, base ≤ w.heap.size → (w.alloc (.cells C 3)).ownsRow base 3 1 (.slice (some ⟨w.heap.size, 0, none⟩) m m) m ((tall [] m).map (Value.int .i64)) := by
  obtain ⟨i0, hi0, hz0, hz1, hz2⟩ := info_parts Try.intInfo
  refine ⟨madeCells (Value.int .i64 0).cells (m * i0.size), fun w => ?_⟩
  have hr := run_make (P := Try.prog) w 29 3 i0 (.int .i64 0) Try.underlying29 hi0 hz0 .i64 .i64 (m : Int) (m : Int) (by omega) (by omega) (by rw [hz2]; omega) (by omega)
  simp only [Int.toNat_natCast] at hr
  refine ⟨hr, fun base hb => ?_⟩
  obtain ⟨w', hr2, h2, _⟩ := run_make_full (P := Try.prog) w base 29 3 i0 (.int .i64 0) 1 Try.underlying29 hi0 hz0 hz1 .i64 .i64 m (by rw [hz2]; omega) (by unfold maxLen; omega) hb
  rw [hr] at hr2
  injection hr2 with _ h4
  rw [h4, tall_nil, List.map_replicate]
  have e : (madeCells (Value.int .i64 0).cells (m * 1)).toList = List.replicate m (Value.int .i64 0) := by
    rw [Nat.mul_one]; exact toList_madeCells_one _ _
  rw [e] at h2
  exact h2

set_option maxHeartbeats 2000000 in
set_option maxRecDepth 100000 in
theorem degrees_any (v : Value) (l : List (Int × Int)) (n : Int) (w : World) (h : Edg w v l) (hl : l.length ≤ 1000000) :
    Calls Try.prog 11 #[.int .i64 n, v] w fun e w' => ∃ u1 u2, e = .returned (.tuple #[u1, u2]) ∧ Ints w' u1 (Ed.degs n (l.map (·.1))) ∧ Ints w' u2 (Ed.degs n (l.map (·.2))) ∧ Below w.heap.size w w' := by
  obtain ⟨i0, hi0, hz0, hz1, hz2⟩ := info_parts Try.intInfo
  have M := many_any n w
  obtain ⟨a, cap, rfl, _, h⟩ := h
  have HE : Hid _ := h
  clear h
  cases hm : Ed.many n with
  | false =>
    rw [hm] at M
    have HM : Hid _ := M
    have HX : Hid (∀ L, Ed.degs n L = []) := fun L => by unfold Ed.degs; rw [hm]; rfl
    clear M hm
    go_enter Try.func11, Try.ntmps11
    go_wp2_with fail
    refine Calls.mono HM.out ?_
    rintro e w' ⟨rfl, rfl⟩
    go_wp2
    go_ret2
    rw [HX.out, HX.out]
    exact ⟨_, _, rfl, ints_nil _, ints_nil _, Below.refl _ _⟩
  | true =>
    rw [hm] at M
    have HM : Hid _ := M
    obtain ⟨m, rfl, hm1, hm2⟩ : ∃ m : Nat, n = m ∧ 1 ≤ m ∧ m ≤ 256 := by
      have h1 : 1 ≤ n ∧ n ≤ 256 := by simpa [Ed.many] using hm
      exact ⟨n.toNat, by omega, by omega, by omega⟩
    have HX : Hid (∀ L, Ed.degs (m : Int) L = tall L m) := fun L => by unfold Ed.degs; rw [hm]; simp [tall]
    clear M hm
    go_enter Try.func11, Try.ntmps11
    go_wp2_with fail
    refine Calls.mono HM.out ?_
    rintro e w' ⟨rfl, rfl⟩
    obtain ⟨C, hC⟩ := made_ints m (by omega)
    have HC : Hid (∀ (w : World) (base : Nat), base ≤ w.heap.size → (w.alloc (.cells C 3)).ownsRow base 3 1 (.slice (some ⟨w.heap.size, 0, none⟩) m m) m ((tall [] m).map (Value.int .i64))) := fun w base hb => (hC w).2 base hb
    have hmk := fun w => (hC w).1
    clear hC
    go_wp2_with fail
    --LOOP
    have HB0 : Hid (Below w'.heap.size w' ((w'.alloc (.cells C 3)).alloc (.cells C 3)).drew) := (((Below.refl _ w').alloc (Nat.le_refl _) _).alloc (by simp) _).drew
    have HR1 : Hid (((w'.alloc (.cells C 3)).alloc (.cells C 3)).drew.ownsRow w'.heap.size 3 1 (.slice (some ⟨w'.heap.size, 0, none⟩) m m) m ((tall [] m).map (Value.int .i64))) := owns_drew ((HC.out w' _ (Nat.le_refl _)).alloc _)
    have HR2 : Hid (((w'.alloc (.cells C 3)).alloc (.cells C 3)).drew.ownsRow w'.heap.size 3 1 (.slice (some ⟨w'.heap.size + 1, 0, none⟩) m m) m ((tall [] m).map (Value.int .i64))) := by
      have := HC.out (w'.alloc (.cells C 3)) w'.heap.size (by simp)
      rw [Hid]
      exact owns_drew (by simpa using this)
    go_region
    · go_wp2
      go_loopw [17] (fun i wr => ∃ k : Nat, k ≤ l.length ∧ i = .int .i64 k ∧ Hid (wr.ownsRow w'.heap.size 3 1 (.slice (some ⟨w'.heap.size, 0, none⟩) m m) m ((tall ((l.take k).map (·.1)) m).map (Value.int .i64))) ∧ Hid (wr.ownsRow w'.heap.size 3 1 (.slice (some ⟨w'.heap.size + 1, 0, none⟩) m m) m ((tall ((l.take k).map (·.2)) m).map (Value.int .i64))) ∧ Hid (Below w'.heap.size w' wr)) (fun i _ => l.length - (intOf i).toNat)
      case atStart => exact ⟨0, Nat.zero_le _, rfl, HR1.out, HR2.out, HB0.out⟩
      case round =>
        obtain ⟨k, hk, rfl, HO1, HO2, HB⟩ := hrel
        by_cases hlt : k < l.length
        · obtain ⟨b, off, rfl, hc⟩ := HE.out.resolve_left (by rintro rfl; simp at hlt)
          have c1 := cell_after HB.out (hc k hlt).1
          have c2 := cell_after HB.out (hc k hlt).2
          clear hc
          have HS1 : Hid ((l.take (k + 1)).map (·.1) = (l.take k).map (·.1) ++ [(l.getD k e0).1]) := by rw [Hid, take_succ_e l k hlt, List.map_append]; rfl
          have HS2 : Hid ((l.take (k + 1)).map (·.2) = (l.take k).map (·.2) ++ [(l.getD k e0).2]) := by rw [Hid, take_succ_e l k hlt, List.map_append]; rfl
          have HL1 : Hid (((l.take k).map (·.1)).length ≤ 1000000) := by rw [Hid, List.length_map, List.length_take]; omega
          have HL2 : Hid (((l.take k).map (·.2)).length ≤ 1000000) := by rw [Hid, List.length_map, List.length_take]; omega
          generalize l.getD k e0 = p at *
          generalize (l.take k).map (·.1) = L1 at *
          generalize (l.take k).map (·.2) = L2 at *
          obtain ⟨x, y⟩ := p
          dsimp only at c1 c2 HS1 HS2
          obtain ⟨wa, hwa⟩ : ∃ wa, wr.alloc (.cells #[.int .i64 x, .int .i64 y] 24) = wa := ⟨_, rfl⟩
          have HA1 : Hid (wa.ownsRow w'.heap.size 3 1 (.slice (some ⟨w'.heap.size, 0, none⟩) m m) m ((tall L1 m).map (Value.int .i64))) := by rw [Hid, ← hwa]; exact HO1.out.alloc _
          have HA2 : Hid (wa.ownsRow w'.heap.size 3 1 (.slice (some ⟨w'.heap.size + 1, 0, none⟩) m m) m ((tall L2 m).map (Value.int .i64))) := by rw [Hid, ← hwa]; exact HO2.out.alloc _
          have HBa : Hid (Below w'.heap.size w' wa) := by rw [Hid, ← hwa]; exact HB.out.alloc HB.out.size _
          have c7 : wa.cell? ⟨wr.heap.size, 0, none⟩ = some (.int .i64 x) := by rw [← hwa]; simp
          have c8 : wa.cell? ⟨wr.heap.size, 1, none⟩ = some (.int .i64 y) := by rw [← hwa]; simp
          have hge : Hid (wr.heap.size ≠ w'.heap.size) := Nat.ne_of_gt (show w'.heap.size < wr.heap.size from (HO1.out.lt _ rfl).2)
          clear HO1 HO2 HB
          have V1 : Hid (∀ W, Calls Try.prog 27 #[.int .i64 (m : Int), .int .i64 x] W fun e w' => e = .returned (.bool (Ed.vert m x)) ∧ w' = W) := fun W => vert_any m x W
          have V2 : Hid (∀ W, Calls Try.prog 27 #[.int .i64 (m : Int), .int .i64 y] W fun e w' => e = .returned (.bool (Ed.vert m y)) ∧ w' = W) := fun W => vert_any m y W
          cases hx : Ed.vert m x with
          | true =>
            obtain ⟨j1, rfl⟩ : ∃ j : Nat, x = j := ⟨x.toNat, by have := (vert_iff m x).1 hx; omega⟩
            have hj1 : j1 < m := by have := (vert_iff m j1).1 hx; omega
            rw [hx] at V1
            have d1 := row_at HA1.out hj1
            have f1 : wa.frozen? ⟨w'.heap.size, j1, none⟩ = false := HA1.out.frozenAt _
            have q1 := cnt_le L1 (j1 : Int)
            obtain ⟨s1, s2⟩ := row_put HA1.out hj1
            generalize Ed.cnt L1 (j1 : Int) = z1 at *
            obtain ⟨wb, hwb⟩ : ∃ wb, wa.setCell ⟨w'.heap.size, j1, none⟩ (.int .i64 (z1 + 1)) = wb := ⟨_, rfl⟩
            rw [hwb] at s1 s2
            have HK1 : Hid (wb.ownsRow w'.heap.size 3 1 (.slice (some ⟨w'.heap.size, 0, none⟩) m m) m ((tall (L1 ++ [(j1 : Int)]) m).map (Value.int .i64))) := s1
            have HK2 : Hid (wb.ownsRow w'.heap.size 3 1 (.slice (some ⟨w'.heap.size + 1, 0, none⟩) m m) m ((tall L2 m).map (Value.int .i64))) := HA2.out.kept s2 (.inr (by simp [Value.ownBlock]))
            have HKB : Hid (Below w'.heap.size w' wb) := HBa.out.grown s2 HBa.out.size (fun q e => by cases e; omega)
            have c9 : wb.cell? ⟨wr.heap.size, 1, none⟩ = some (.int .i64 y) := s2.cell c8 (by have := hge.out; simp; omega)
            have hl1 := HL1.out
            clear s1 s2 hx HA1 HA2 HBa
            cases hy : Ed.vert m y with
            | true =>
              obtain ⟨j2, rfl⟩ : ∃ j : Nat, y = j := ⟨y.toNat, by have := (vert_iff m y).1 hy; omega⟩
              have hj2 : j2 < m := by have := (vert_iff m j2).1 hy; omega
              rw [hy] at V2
              have d2 := row_at HK2.out hj2
              have f2 : wb.frozen? ⟨w'.heap.size + 1, j2, none⟩ = false := HK2.out.frozenAt _
              have q2 := cnt_le L2 (j2 : Int)
              obtain ⟨s1, s2⟩ := row_put HK2.out hj2
              have hl2 := HL2.out
              generalize Ed.cnt L2 (j2 : Int) = z2 at *
              obtain ⟨wc, hwc⟩ : ∃ wc, wb.setCell ⟨w'.heap.size + 1, j2, none⟩ (.int .i64 (z2 + 1)) = wc := ⟨_, rfl⟩
              rw [hwc] at s1 s2
              have HM2 : Hid (wc.ownsRow w'.heap.size 3 1 (.slice (some ⟨w'.heap.size + 1, 0, none⟩) m m) m ((tall (L2 ++ [(j2 : Int)]) m).map (Value.int .i64))) := s1
              have HM1 : Hid (wc.ownsRow w'.heap.size 3 1 (.slice (some ⟨w'.heap.size, 0, none⟩) m m) m (_ : List Value)) := HK1.out.kept s2 (.inr (by simp [Value.ownBlock]))
              have HMB : Hid (Below w'.heap.size w' wc) := HKB.out.grown s2 HKB.out.size (fun q e => by cases e; omega)
              clear s1 s2 hy HK1 HK2
              go_wp2_with fail
              refine Calls.mono (V1.out _) ?_
              rintro e w5 ⟨rfl, rfl⟩
              go_wp2_with fail
              refine Calls.mono (V2.out _) ?_
              rintro e w6 ⟨rfl, rfl⟩
              go_wp2
              go_roundw
              case rel => exact ⟨k + 1, by omega, by go_num, by rw [Hid, HS1.out]; exact HM1.out, by rw [Hid, HS2.out]; exact HM2.out, HMB.out⟩
              case measure => simp [intOf]; omega
            | false =>
              rw [hy] at V2
              have HM1 : Hid _ := HK1.out
              have HM2 : Hid (wb.ownsRow w'.heap.size 3 1 (.slice (some ⟨w'.heap.size + 1, 0, none⟩) m m) m ((tall (L2 ++ [y]) m).map (Value.int .i64))) := by rw [Hid, tall_no L2 m y (fun h => by rw [(vert_iff m y).2 h] at hy; cases hy)]; exact HK2.out
              have HMB : Hid _ := HKB.out
              clear hy HK1 HK2
              go_wp2_with fail
              refine Calls.mono (V1.out _) ?_
              rintro e w5 ⟨rfl, rfl⟩
              go_wp2_with fail
              refine Calls.mono (V2.out _) ?_
              rintro e w6 ⟨rfl, rfl⟩
              go_wp2
              go_roundw
              case rel => exact ⟨k + 1, by omega, by go_num, by rw [Hid, HS1.out]; exact HM1.out, by rw [Hid, HS2.out]; exact HM2.out, HMB.out⟩
              case measure => simp [intOf]; omega
          | false =>
            rw [hx] at V1
            have HK1 : Hid (wa.ownsRow w'.heap.size 3 1 (.slice (some ⟨w'.heap.size, 0, none⟩) m m) m ((tall (L1 ++ [x]) m).map (Value.int .i64))) := by rw [Hid, tall_no L1 m x (fun h => by rw [(vert_iff m x).2 h] at hx; cases hx)]; exact HA1.out
            clear hx HA1
            cases hy : Ed.vert m y with
            | true =>
              obtain ⟨j2, rfl⟩ : ∃ j : Nat, y = j := ⟨y.toNat, by have := (vert_iff m y).1 hy; omega⟩
              have hj2 : j2 < m := by have := (vert_iff m j2).1 hy; omega
              rw [hy] at V2
              have d2 := row_at HA2.out hj2
              have f2 : wa.frozen? ⟨w'.heap.size + 1, j2, none⟩ = false := HA2.out.frozenAt _
              have q2 := cnt_le L2 (j2 : Int)
              obtain ⟨s1, s2⟩ := row_put HA2.out hj2
              have hl2 := HL2.out
              generalize Ed.cnt L2 (j2 : Int) = z2 at *
              obtain ⟨wc, hwc⟩ : ∃ wc, wa.setCell ⟨w'.heap.size + 1, j2, none⟩ (.int .i64 (z2 + 1)) = wc := ⟨_, rfl⟩
              rw [hwc] at s1 s2
              have HM2 : Hid (wc.ownsRow w'.heap.size 3 1 (.slice (some ⟨w'.heap.size + 1, 0, none⟩) m m) m ((tall (L2 ++ [(j2 : Int)]) m).map (Value.int .i64))) := s1
              have HM1 : Hid (wc.ownsRow w'.heap.size 3 1 (.slice (some ⟨w'.heap.size, 0, none⟩) m m) m (_ : List Value)) := HK1.out.kept s2 (.inr (by simp [Value.ownBlock]))
              have HMB : Hid (Below w'.heap.size w' wc) := HBa.out.grown s2 HBa.out.size (fun q e => by cases e; omega)
              clear s1 s2 hy HK1 HA2
              go_wp2_with fail
              refine Calls.mono (V1.out _) ?_
              rintro e w5 ⟨rfl, rfl⟩
              go_wp2_with fail
              refine Calls.mono (V2.out _) ?_
              rintro e w6 ⟨rfl, rfl⟩
              go_wp2
              go_roundw
              case rel => exact ⟨k + 1, by omega, by go_num, by rw [Hid, HS1.out]; exact HM1.out, by rw [Hid, HS2.out]; exact HM2.out, HMB.out⟩
              case measure => simp [intOf]; omega
            | false =>
              rw [hy] at V2
              have HM1 : Hid _ := HK1.out
              have HM2 : Hid (wa.ownsRow w'.heap.size 3 1 (.slice (some ⟨w'.heap.size + 1, 0, none⟩) m m) m ((tall (L2 ++ [y]) m).map (Value.int .i64))) := by rw [Hid, tall_no L2 m y (fun h => by rw [(vert_iff m y).2 h] at hy; cases hy)]; exact HA2.out
              have HMB : Hid _ := HBa.out
              clear hy HK1 HA2
              go_wp2_with fail
              refine Calls.mono (V1.out _) ?_
              rintro e w5 ⟨rfl, rfl⟩
              go_wp2_with fail
              refine Calls.mono (V2.out _) ?_
              rintro e w6 ⟨rfl, rfl⟩
              go_wp2
              go_roundw
              case rel => exact ⟨k + 1, by omega, by go_num, by rw [Hid, HS1.out]; exact HM1.out, by rw [Hid, HS2.out]; exact HM2.out, HMB.out⟩
              case measure => simp [intOf]; omega
        · obtain rfl : k = l.length := by omega
          have HI1 : Hid (Ints wr (.slice (some ⟨w'.heap.size, 0, none⟩) m m) (Ed.degs m (l.map (·.1)))) := by
            have h := HO1.out
            rw [List.take_length] at h
            rw [Hid, HX.out]
            exact Ints.of_own h
          have HI2 : Hid (Ints wr (.slice (some ⟨w'.heap.size + 1, 0, none⟩) m m) (Ed.degs m (l.map (·.2)))) := by
            have h := HO2.out
            rw [List.take_length] at h
            rw [Hid, HX.out]
            exact Ints.of_own h
          go_wp2
          go_ret2
          exact ⟨_, _, rfl, HI1.out, HI2.out, HB.out⟩
    · go_wp2
      go_loopw [17] (fun i wr => ∃ k : Nat, k ≤ l.length ∧ i = .int .i64 k ∧ Hid (wr.ownsRow w'.heap.size 3 1 (.slice (some ⟨w'.heap.size + 1, 0, none⟩) m m) m ((tall ((l.take k).map (·.1)) m).map (Value.int .i64))) ∧ Hid (wr.ownsRow w'.heap.size 3 1 (.slice (some ⟨w'.heap.size, 0, none⟩) m m) m ((tall ((l.take k).map (·.2)) m).map (Value.int .i64))) ∧ Hid (Below w'.heap.size w' wr)) (fun i _ => l.length - (intOf i).toNat)
      case atStart => exact ⟨0, Nat.zero_le _, rfl, HR2.out, HR1.out, HB0.out⟩
      case round =>
        obtain ⟨k, hk, rfl, HO1, HO2, HB⟩ := hrel
        by_cases hlt : k < l.length
        · obtain ⟨b, off, rfl, hc⟩ := HE.out.resolve_left (by rintro rfl; simp at hlt)
          have c1 := cell_after HB.out (hc k hlt).1
          have c2 := cell_after HB.out (hc k hlt).2
          clear hc
          have HS1 : Hid ((l.take (k + 1)).map (·.1) = (l.take k).map (·.1) ++ [(l.getD k e0).1]) := by rw [Hid, take_succ_e l k hlt, List.map_append]; rfl
          have HS2 : Hid ((l.take (k + 1)).map (·.2) = (l.take k).map (·.2) ++ [(l.getD k e0).2]) := by rw [Hid, take_succ_e l k hlt, List.map_append]; rfl
          have HL1 : Hid (((l.take k).map (·.1)).length ≤ 1000000) := by rw [Hid, List.length_map, List.length_take]; omega
          have HL2 : Hid (((l.take k).map (·.2)).length ≤ 1000000) := by rw [Hid, List.length_map, List.length_take]; omega
          generalize l.getD k e0 = p at *
          generalize (l.take k).map (·.1) = L1 at *
          generalize (l.take k).map (·.2) = L2 at *
          obtain ⟨x, y⟩ := p
          dsimp only at c1 c2 HS1 HS2
          obtain ⟨wa, hwa⟩ : ∃ wa, wr.alloc (.cells #[.int .i64 x, .int .i64 y] 24) = wa := ⟨_, rfl⟩
          have HA1 : Hid (wa.ownsRow w'.heap.size 3 1 (.slice (some ⟨w'.heap.size + 1, 0, none⟩) m m) m ((tall L1 m).map (Value.int .i64))) := by rw [Hid, ← hwa]; exact HO1.out.alloc _
          have HA2 : Hid (wa.ownsRow w'.heap.size 3 1 (.slice (some ⟨w'.heap.size, 0, none⟩) m m) m ((tall L2 m).map (Value.int .i64))) := by rw [Hid, ← hwa]; exact HO2.out.alloc _
          have HBa : Hid (Below w'.heap.size w' wa) := by rw [Hid, ← hwa]; exact HB.out.alloc HB.out.size _
          have c7 : wa.cell? ⟨wr.heap.size, 0, none⟩ = some (.int .i64 x) := by rw [← hwa]; simp
          have c8 : wa.cell? ⟨wr.heap.size, 1, none⟩ = some (.int .i64 y) := by rw [← hwa]; simp
          have hge : Hid (wr.heap.size ≠ w'.heap.size + 1) := Nat.ne_of_gt (show w'.heap.size + 1 < wr.heap.size from (HO1.out.lt _ rfl).2)
          clear HO1 HO2 HB
          have V1 : Hid (∀ W, Calls Try.prog 27 #[.int .i64 (m : Int), .int .i64 x] W fun e w' => e = .returned (.bool (Ed.vert m x)) ∧ w' = W) := fun W => vert_any m x W
          have V2 : Hid (∀ W, Calls Try.prog 27 #[.int .i64 (m : Int), .int .i64 y] W fun e w' => e = .returned (.bool (Ed.vert m y)) ∧ w' = W) := fun W => vert_any m y W
          cases hx : Ed.vert m x with
          | true =>
            obtain ⟨j1, rfl⟩ : ∃ j : Nat, x = j := ⟨x.toNat, by have := (vert_iff m x).1 hx; omega⟩
            have hj1 : j1 < m := by have := (vert_iff m j1).1 hx; omega
            rw [hx] at V1
            have d1 := row_at HA1.out hj1
            have f1 : wa.frozen? ⟨w'.heap.size + 1, j1, none⟩ = false := HA1.out.frozenAt _
            have q1 := cnt_le L1 (j1 : Int)
            obtain ⟨s1, s2⟩ := row_put HA1.out hj1
            generalize Ed.cnt L1 (j1 : Int) = z1 at *
            obtain ⟨wb, hwb⟩ : ∃ wb, wa.setCell ⟨w'.heap.size + 1, j1, none⟩ (.int .i64 (z1 + 1)) = wb := ⟨_, rfl⟩
            rw [hwb] at s1 s2
            have HK1 : Hid (wb.ownsRow w'.heap.size 3 1 (.slice (some ⟨w'.heap.size + 1, 0, none⟩) m m) m ((tall (L1 ++ [(j1 : Int)]) m).map (Value.int .i64))) := s1
            have HK2 : Hid (wb.ownsRow w'.heap.size 3 1 (.slice (some ⟨w'.heap.size, 0, none⟩) m m) m ((tall L2 m).map (Value.int .i64))) := HA2.out.kept s2 (.inr (by simp [Value.ownBlock]))
            have HKB : Hid (Below w'.heap.size w' wb) := HBa.out.grown s2 HBa.out.size (fun q e => by cases e; omega)
            have c9 : wb.cell? ⟨wr.heap.size, 1, none⟩ = some (.int .i64 y) := s2.cell c8 (by have := hge.out; simp; omega)
            have hl1 := HL1.out
            clear s1 s2 hx HA1 HA2 HBa
            cases hy : Ed.vert m y with
            | true =>
              obtain ⟨j2, rfl⟩ : ∃ j : Nat, y = j := ⟨y.toNat, by have := (vert_iff m y).1 hy; omega⟩
              have hj2 : j2 < m := by have := (vert_iff m j2).1 hy; omega
              rw [hy] at V2
              have d2 := row_at HK2.out hj2
              have f2 : wb.frozen? ⟨w'.heap.size, j2, none⟩ = false := HK2.out.frozenAt _
              have q2 := cnt_le L2 (j2 : Int)
              obtain ⟨s1, s2⟩ := row_put HK2.out hj2
              have hl2 := HL2.out
              generalize Ed.cnt L2 (j2 : Int) = z2 at *
              obtain ⟨wc, hwc⟩ : ∃ wc, wb.setCell ⟨w'.heap.size, j2, none⟩ (.int .i64 (z2 + 1)) = wc := ⟨_, rfl⟩
              rw [hwc] at s1 s2
              have HM2 : Hid (wc.ownsRow w'.heap.size 3 1 (.slice (some ⟨w'.heap.size, 0, none⟩) m m) m ((tall (L2 ++ [(j2 : Int)]) m).map (Value.int .i64))) := s1
              have HM1 : Hid (wc.ownsRow w'.heap.size 3 1 (.slice (some ⟨w'.heap.size + 1, 0, none⟩) m m) m (_ : List Value)) := HK1.out.kept s2 (.inr (by simp [Value.ownBlock]))
              have HMB : Hid (Below w'.heap.size w' wc) := HKB.out.grown s2 HKB.out.size (fun q e => by cases e; omega)
              clear s1 s2 hy HK1 HK2
              go_wp2_with fail
              refine Calls.mono (V1.out _) ?_
              rintro e w5 ⟨rfl, rfl⟩
              go_wp2_with fail
              refine Calls.mono (V2.out _) ?_
              rintro e w6 ⟨rfl, rfl⟩
              go_wp2
              go_roundw
              case rel => exact ⟨k + 1, by omega, by go_num, by rw [Hid, HS1.out]; exact HM1.out, by rw [Hid, HS2.out]; exact HM2.out, HMB.out⟩
              case measure => simp [intOf]; omega
            | false =>
              rw [hy] at V2
              have HM1 : Hid _ := HK1.out
              have HM2 : Hid (wb.ownsRow w'.heap.size 3 1 (.slice (some ⟨w'.heap.size, 0, none⟩) m m) m ((tall (L2 ++ [y]) m).map (Value.int .i64))) := by rw [Hid, tall_no L2 m y (fun h => by rw [(vert_iff m y).2 h] at hy; cases hy)]; exact HK2.out
              have HMB : Hid _ := HKB.out
              clear hy HK1 HK2
              go_wp2_with fail
              refine Calls.mono (V1.out _) ?_
              rintro e w5 ⟨rfl, rfl⟩
              go_wp2_with fail
              refine Calls.mono (V2.out _) ?_
              rintro e w6 ⟨rfl, rfl⟩
              go_wp2
              go_roundw
              case rel => exact ⟨k + 1, by omega, by go_num, by rw [Hid, HS1.out]; exact HM1.out, by rw [Hid, HS2.out]; exact HM2.out, HMB.out⟩
              case measure => simp [intOf]; omega
          | false =>
            rw [hx] at V1
            have HK1 : Hid (wa.ownsRow w'.heap.size 3 1 (.slice (some ⟨w'.heap.size + 1, 0, none⟩) m m) m ((tall (L1 ++ [x]) m).map (Value.int .i64))) := by rw [Hid, tall_no L1 m x (fun h => by rw [(vert_iff m x).2 h] at hx; cases hx)]; exact HA1.out
            clear hx HA1
            cases hy : Ed.vert m y with
            | true =>
              obtain ⟨j2, rfl⟩ : ∃ j : Nat, y = j := ⟨y.toNat, by have := (vert_iff m y).1 hy; omega⟩
              have hj2 : j2 < m := by have := (vert_iff m j2).1 hy; omega
              rw [hy] at V2
              have d2 := row_at HA2.out hj2
              have f2 : wa.frozen? ⟨w'.heap.size, j2, none⟩ = false := HA2.out.frozenAt _
              have q2 := cnt_le L2 (j2 : Int)
              obtain ⟨s1, s2⟩ := row_put HA2.out hj2
              have hl2 := HL2.out
              generalize Ed.cnt L2 (j2 : Int) = z2 at *
              obtain ⟨wc, hwc⟩ : ∃ wc, wa.setCell ⟨w'.heap.size, j2, none⟩ (.int .i64 (z2 + 1)) = wc := ⟨_, rfl⟩
              rw [hwc] at s1 s2
              have HM2 : Hid (wc.ownsRow w'.heap.size 3 1 (.slice (some ⟨w'.heap.size, 0, none⟩) m m) m ((tall (L2 ++ [(j2 : Int)]) m).map (Value.int .i64))) := s1
              have HM1 : Hid (wc.ownsRow w'.heap.size 3 1 (.slice (some ⟨w'.heap.size + 1, 0, none⟩) m m) m (_ : List Value)) := HK1.out.kept s2 (.inr (by simp [Value.ownBlock]))
              have HMB : Hid (Below w'.heap.size w' wc) := HBa.out.grown s2 HBa.out.size (fun q e => by cases e; omega)
              clear s1 s2 hy HK1 HA2
              go_wp2_with fail
              refine Calls.mono (V1.out _) ?_
              rintro e w5 ⟨rfl, rfl⟩
              go_wp2_with fail
              refine Calls.mono (V2.out _) ?_
              rintro e w6 ⟨rfl, rfl⟩
              go_wp2
              go_roundw
              case rel => exact ⟨k + 1, by omega, by go_num, by rw [Hid, HS1.out]; exact HM1.out, by rw [Hid, HS2.out]; exact HM2.out, HMB.out⟩
              case measure => simp [intOf]; omega
            | false =>
              rw [hy] at V2
              have HM1 : Hid _ := HK1.out
              have HM2 : Hid (wa.ownsRow w'.heap.size 3 1 (.slice (some ⟨w'.heap.size, 0, none⟩) m m) m ((tall (L2 ++ [y]) m).map (Value.int .i64))) := by rw [Hid, tall_no L2 m y (fun h => by rw [(vert_iff m y).2 h] at hy; cases hy)]; exact HA2.out
              have HMB : Hid _ := HBa.out
              clear hy HK1 HA2
              go_wp2_with fail
              refine Calls.mono (V1.out _) ?_
              rintro e w5 ⟨rfl, rfl⟩
              go_wp2_with fail
              refine Calls.mono (V2.out _) ?_
              rintro e w6 ⟨rfl, rfl⟩
              go_wp2
              go_roundw
              case rel => exact ⟨k + 1, by omega, by go_num, by rw [Hid, HS1.out]; exact HM1.out, by rw [Hid, HS2.out]; exact HM2.out, HMB.out⟩
              case measure => simp [intOf]; omega
        · obtain rfl : k = l.length := by omega
          have HI1 : Hid (Ints wr (.slice (some ⟨w'.heap.size + 1, 0, none⟩) m m) (Ed.degs m (l.map (·.1)))) := by
            have h := HO1.out
            rw [List.take_length] at h
            rw [Hid, HX.out]
            exact Ints.of_own h
          have HI2 : Hid (Ints wr (.slice (some ⟨w'.heap.size, 0, none⟩) m m) (Ed.degs m (l.map (·.2)))) := by
            have h := HO2.out
            rw [List.take_length] at h
            rw [Hid, HX.out]
            exact Ints.of_own h
          go_wp2
          go_ret2
          exact ⟨_, _, rfl, HI1.out, HI2.out, HB.out⟩

end Go.Proofs.Ytmgikaanckbadaa
