/- The walk of slices.Compact at edges, over a row of the call's own. -/
import Derived.Test.YtbhngncnhabbkaaGreatESort
namespace Go.Proofs.YtbhngncnhabbkaaGreat
open Go.RowKit Go.Shelf Go.Sort Go.Lib

section
variable {base e size g n cap : Nat}
theorem owned_cells : ∀ (vs : List Value) (o : Nat) (w : World) (xs : List Value), w.ownsRow base e size (.slice (some ⟨g, 0, none⟩) n cap) n xs →
    ∃ xs', (w.setCells g o vs).ownsRow base e size (.slice (some ⟨g, 0, none⟩) n cap) n xs' ∧ xs'.take o = xs.take o ∧ w.grownBy (w.setCells g o vs) (some g)
  | [], o, w, xs, h => ⟨xs, h, rfl, ⟨rfl, rfl, rfl, Nat.le_refl _, fun _ _ _ => rfl⟩⟩
  | v :: vs, o, w, xs, h => by
    obtain ⟨h1, h2⟩ := h.stored o v
    obtain ⟨xs', k1, k2, k3⟩ := owned_cells vs (o + 1) _ _ h1
    refine ⟨xs', k1, ?_, ⟨k3.os.trans h2.os, k3.tape.trans h2.tape, k3.output.trans h2.output, Nat.le_trans h2.size k3.size, fun k hk hne => (k3.block k (Nat.lt_of_lt_of_le hk h2.size) hne).trans (h2.block k hk hne)⟩⟩
    have : (xs'.take (o + 1)).take o = ((xs.set o v).take (o + 1)).take o := by rw [k2]
    rw [List.take_take, List.take_take, Nat.min_eq_left (Nat.le_succ o)] at this
    rw [this, List.take_set_of_le (Nat.le_refl _)]
end

theorem owns_drew {w : World} {base e size n : Nat} {v : Value} {xs : List Value} (h : w.ownsRow base e size v n xs) : w.drew.ownsRow base e size v n xs := h

/-- The first k of a row of the call's own. -/
theorem edg_take {W : World} {base g n cap k : Nat} {xs : List Value} {r : List (Int × Int)} (h : W.ownsRow base 56 2 (.slice (some ⟨g, 0, none⟩) n cap) n xs) (hx : xs.take (k * 2) = ecells r) (hr : r.length = k) (hk : k ≤ n) :
    Edg W (.slice (some ⟨g, 0, none⟩) k cap) r := by
  have hcap : n ≤ cap := by
    rcases h.2 with ⟨h', _⟩ | ⟨g', cap', cur, h', _, _, hnc, _⟩
    · simp at h'
    · simp only [Value.slice.injEq, Option.some.injEq, Addr.mk.injEq, and_true, true_and] at h'
      obtain ⟨rfl, rfl⟩ := h'
      exact hnc
  refine ⟨_, cap, by rw [hr], by omega, .inr ⟨g, 0, rfl, fun j hj => ?_⟩⟩
  obtain ⟨g1, g2⟩ := ecells_get r j hj
  have hxs : ∀ i, i < k * 2 → xs[i]? = (ecells r)[i]? := fun i hi => by rw [← hx, List.getElem?_take_of_lt hi]
  rw [Nat.zero_add, h.cellAt (j * 2) (by omega), h.cellAt (j * 2 + 1) (by omega), hxs _ (by omega), hxs _ (by omega)]
  exact ⟨g1, g2⟩

theorem ecells_set : ∀ (l : List (Int × Int)) (k : Nat) (u : Int × Int), ((ecells l).set (k * 2) (.int .i64 u.1)).set (k * 2 + 1) (.int .i64 u.2) = ecells (l.set k u)
  | [], k, u => by simp [ecells]
  | x :: l, 0, u => by simp [ecells, encE]
  | x :: l, k + 1, u => by
    have e : ecells (x :: l) = .int .i64 x.1 :: .int .i64 x.2 :: ecells l := rfl
    rw [e, show (k + 1) * 2 = k * 2 + 1 + 1 by omega, List.set_cons_succ, List.set_cons_succ, List.set_cons_succ, List.set_cons_succ, ecells_set l k u, List.set_cons_succ]
    rfl

/-- The two cells of place j in a row of the call's own. -/
theorem own_atXE {W : World} {base g n cap : Nat} {l : List (Int × Int)} (h : W.ownsRow base 56 2 (.slice (some ⟨g, 0, none⟩) n cap) n (ecells l)) (hl : l.length = n) {j : Nat} (hj : j < n) :
    W.cell? ⟨g, j * 2, none⟩ = some (.int .i64 (l.getD j e0).1) ∧ W.cell? ⟨g, j * 2 + 1, none⟩ = some (.int .i64 (l.getD j e0).2) ∧ W.frozen? ⟨g, j * 2, none⟩ = false ∧ W.frozen? ⟨g, j * 2 + 1, none⟩ = false := by
  obtain ⟨g1, g2⟩ := ecells_get l j (by omega)
  rw [h.cellAt (j * 2) (by omega), h.cellAt (j * 2 + 1) (by omega)]
  exact ⟨g1, g2, h.frozenAt _, h.frozenAt _⟩

/-- A store of an edge into a row of the call's own. -/
theorem own_putXE {W : World} {base g n cap : Nat} {l : List (Int × Int)} (h : W.ownsRow base 56 2 (.slice (some ⟨g, 0, none⟩) n cap) n (ecells l)) (j : Nat) (u : Int × Int) :
    ((W.setCell ⟨g, j * 2, none⟩ (.int .i64 u.1)).setCell ⟨g, j * 2 + 1, none⟩ (.int .i64 u.2)).ownsRow base 56 2 (.slice (some ⟨g, 0, none⟩) n cap) n (ecells (l.set j u)) ∧
    W.grownBy ((W.setCell ⟨g, j * 2, none⟩ (.int .i64 u.1)).setCell ⟨g, j * 2 + 1, none⟩ (.int .i64 u.2)) (some g) := by
  obtain ⟨h1, h2⟩ := h.stored (j * 2) (.int .i64 u.1)
  obtain ⟨h3, h4⟩ := h1.stored (j * 2 + 1) (.int .i64 u.2)
  rw [ecells_set] at h3
  exact ⟨h3, grown_trans h2 h4⟩

theorem getD_bang (d : Array (Int × Int)) (j : Nat) (hj : j < d.size) : d.toList.getD j e0 = d[j]! := by
  rw [List.getD_eq_getElem?_getD, Array.getElem?_toList, Array.getElem?_eq_getElem hj, getElem!_pos d j hj]; rfl

/-- What clear does to the rest of a row of edges. -/
theorem run_clear_edges (w : World) (ty g o n c : Nat) (hn : 0 < n) (hc : ∀ j, j < n * 2 → (w.cell? ⟨g, o + j, none⟩).isSome = true) (hf : ∀ j, j < n * 2 → w.frozen? ⟨g, o + j, none⟩ = false) :
    ∃ vs, (Builtin.clear_ #[36] ty #[.slice (some ⟨g, o, none⟩) n c]).run Tryz.prog w = .ok (.tuple #[]) (w.setCells g o vs) := by
  have hzc : (Builtin.zeroCells #[Value.int .i64 0, Value.int .i64 0] n).toList = ecells (List.replicate n (0, 0)) := by
    apply List.ext_getElem?
    intro j
    have hz : ∀ i, (#[Value.int .i64 0, Value.int .i64 0] : Array Value)[i % 2]! = .int .i64 0 := fun i => by
      rcases Nat.mod_two_eq_zero_or_one i with m | m <;> rw [m] <;> rfl
    have hl : (Builtin.zeroCells #[Value.int .i64 0, Value.int .i64 0] n).toList = (List.range (n * 2)).map fun _ => Value.int .i64 0 := by
      unfold Builtin.zeroCells
      rw [Array.toList_map, Array.toList_range]
      exact List.map_congr_left fun i _ => hz i
    rw [hl]
    by_cases hj : j < n * 2
    · obtain ⟨g1, g2⟩ := ecells_get (List.replicate n (0, 0)) (j / 2) (by simp; omega)
      have e : (List.replicate n ((0, 0) : Int × Int)).getD (j / 2) e0 = (0, 0) := by
        rw [List.getD_eq_getElem?_getD, List.getElem?_replicate, if_pos (by omega)]; rfl
      rw [e] at g1 g2
      rw [List.getElem?_map, List.getElem?_range hj]
      rcases Nat.mod_two_eq_zero_or_one j with m | m
      · rw [show j / 2 * 2 = j by omega] at g1
        rw [g1]; rfl
      · rw [show j / 2 * 2 + 1 = j by omega] at g2
        rw [g2]; rfl
    · rw [List.getElem?_eq_none (by simp; omega), List.getElem?_eq_none (by rw [ecells_len]; simp; omega)]
  have hst := run_storeCells_cells (P := Tryz.prog) g o (ecells (List.replicate n (0, 0))) 0 w (by rw [ecells_len]; simpa using hc) (by rw [ecells_len]; simpa using hf) (ecells_one _)
  simp only [Nat.add_zero] at hst
  refine ⟨ecells (List.replicate n (0, 0)), ?_⟩
  obtain ⟨m, rfl⟩ : ∃ m, n = m + 1 := ⟨n - 1, by omega⟩
  simp [Builtin.clear_, run_underlying Tryz.underlying36, Tryz.zeroValue56, Value.cells, hzc, hst]

set_option maxHeartbeats 4000000 in
set_option maxRecDepth 100000 in
theorem compact_some (g n cap base : Nat) (d : Array (Int × Int)) (w : World) (h : w.ownsRow base 56 2 (.slice (some ⟨g, 0, none⟩) n cap) n (ecells d.toList)) (hn : d.size = n) (hsz : n ≤ 1000000000) (hcap : n ≤ cap) :
    Calls Tryz.prog 45 #[.slice (some ⟨g, 0, none⟩) n cap] w fun e w' => ∃ k, e = .returned (.slice (some ⟨g, 0, none⟩) k cap) ∧ Edg w' (.slice (some ⟨g, 0, none⟩) k cap) (compactUpTo d d.size) ∧ w.grownBy w' (some g) := by
  have hgd := edge_guard
  by_cases h2 : n < 2
  · have HH : Hid (Edg w (.slice (some ⟨g, 0, none⟩) n cap) (compactUpTo d d.size)) := by
      rw [compactUpTo_all d d.size (fun j hj => keeps_lt_one d j (by omega)), range_map_get]
      exact edg_take h (List.take_of_length_le (by rw [ecells_len]; simp; omega)) (by simpa using hn) (Nat.le_refl _)
    clear h
    go_enter Tryz.func45, Tryz.ntmps45
    go_wp2
    go_ret
    exact ⟨_, rfl, HH.out, grown_refl _ _⟩
  · have HO : Hid _ := h
    clear h
    go_enter Tryz.func45, Tryz.ntmps45
    go_wp2
    go_loopw [3] (fun s3 wr => ∃ k : Nat, 1 ≤ k ∧ k ≤ n ∧ s3 = .int .i64 k ∧ Hid (wr.ownsRow base 56 2 (.slice (some ⟨g, 0, none⟩) n cap) n (ecells d.toList)) ∧ Hid (w.grownBy wr (some g)) ∧ Hid (∀ j, j < k → keeps d j = true)) (fun i _ => n - (intOf i).toNat)
    case atStart => exact ⟨1, Nat.le_refl _, by omega, rfl, HO, grown_refl _ _, keeps_lt_one d⟩
    case round =>
      obtain ⟨k, hk1, hk, rfl, HR, HG, HA⟩ := hrel
      by_cases hlt : k < n
      · obtain ⟨c1, c2, _, _⟩ := own_atXE HR.out (by simpa using hn) hlt
        obtain ⟨c3, c4, _, _⟩ := own_atXE HR.out (by simpa using hn) (show k - 1 < n by omega)
        rw [getD_bang d k (by omega)] at c1 c2
        rw [getD_bang d (k - 1) (by omega)] at c3 c4
        have HK : Hid (d[k]! ≠ d[k - 1]! → keeps d k = true) := keeps_pos
        have HN : Hid (d[k]! = d[k - 1]! → keeps d k = false) := keeps_neg (by omega)
        generalize d[k]! = x at *
        generalize d[k - 1]! = y at *
        by_cases hdup : x = y
        · have heq : ∀ w, Sem.run Tryz.prog (binOp .eql 56 (.agg #[.int .i64 x.1, .int .i64 x.2]) (.agg #[.int .i64 y.1, .int .i64 y.2])) w = .ok (.bool true) w := fun w => by rw [edge_eql, decide_eq_true hdup]
          have HN1 : Hid (keeps d k = false) := HN.out hdup
          clear HK HN hdup
          go_wp2_with fail
          go_region
          go_wp2
          clear c1 c2 c3 c4
          go_loopw [3, 5] (fun s3 s5 wi => ∃ (kk k2 : Nat) (dk : Array (Int × Int)), s3 = .int .i64 kk ∧ s5 = .int .i64 k2 ∧ 1 ≤ k2 ∧ k + k2 ≤ n ∧ Hid (wi.ownsRow base 56 2 (.slice (some ⟨g, 0, none⟩) n cap) n (ecells dk.toList)) ∧ Hid (w.grownBy wi (some g)) ∧ Hid (CompInv d (k + k2) kk dk)) (fun _ i _ => n - k - (intOf i).toNat)
          case atStart => exact ⟨k, 1, d, rfl, rfl, Nat.le_refl _, by omega, owns_drew HR.out, grown_drew HG.out, CompInv.start HA.out HN1.out⟩
          case round =>
            obtain ⟨kk, k2, dk, rfl, rfl, h1, hle, HR2, HG2, HI⟩ := hrel
            have hkk := HI.out.lt
            have hds := HI.out.size
            by_cases hlt2 : k + k2 < n
            · obtain ⟨c1, c2, _, _⟩ := own_atXE HR2.out (by simp; omega) (show k + k2 < n by omega)
              obtain ⟨c3, c4, _, _⟩ := own_atXE HR2.out (by simp; omega) (show k + k2 - 1 < n by omega)
              obtain ⟨c5, c6, f5, f6⟩ := own_atXE HR2.out (by simp; omega) (show kk < n by omega)
              rw [getD_bang dk (k + k2) (by omega), HI.out.high (k + k2) (by omega), show (k + k2) * 2 = k * 2 + k2 * 2 by omega] at c1 c2
              rw [getD_bang dk (k + k2 - 1) (by omega), HI.out.high (k + k2 - 1) (by omega), show (k + k2 - 1) * 2 = k * 2 + (k2 - 1) * 2 by omega] at c3 c4
              have HK : Hid (d[k + k2]! ≠ d[k + k2 - 1]! → CompInv d (k + (k2 + 1)) (kk + 1) (dk.setIfInBounds kk d[k + k2]!)) := fun h => HI.out.keep (by omega) (keeps_pos h)
              have HN : Hid (d[k + k2]! = d[k + k2 - 1]! → CompInv d (k + (k2 + 1)) kk dk) := fun h => HI.out.skip (keeps_neg (by omega) h)
              generalize d[k + k2]! = u at *
              generalize d[k + k2 - 1]! = v at *
              by_cases huv : u = v
              · have hne : ∀ w, Sem.run Tryz.prog (binOp .neq 56 (.agg #[.int .i64 u.1, .int .i64 u.2]) (.agg #[.int .i64 v.1, .int .i64 v.2])) w = .ok (.bool false) w := fun w => by rw [edge_neq, decide_eq_true huv]; rfl
                have HI2 : Hid _ := HN.out huv
                clear HK HN huv
                go_wp2_with fail
                go_region
                all_goals go_wp2
                go_roundw
                case rel => exact ⟨kk, k2 + 1, dk, rfl, by go_num, by omega, by omega, owns_drew HR2.out, grown_drew HG2.out, HI2.out⟩
                case measure => simp [intOf]; omega
              · have hne : ∀ w, Sem.run Tryz.prog (binOp .neq 56 (.agg #[.int .i64 u.1, .int .i64 u.2]) (.agg #[.int .i64 v.1, .int .i64 v.2])) w = .ok (.bool true) w := fun w => by rw [edge_neq, decide_eq_false huv]; rfl
                have HI2 : Hid _ := HK.out huv
                clear HK HN huv
                go_wp2_with fail
                have hpw := own_putXE HR2.out kk u
                rw [← Array.toList_setIfInBounds] at hpw
                have HR3 : Hid (((wr.setCell ⟨g, kk * 2, none⟩ (.int .i64 u.1)).setCell ⟨g, kk * 2 + 1, none⟩ (.int .i64 u.2)).ownsRow base 56 2 (.slice (some ⟨g, 0, none⟩) n cap) n (ecells (dk.setIfInBounds kk u).toList)) := hpw.1
                have HG3 : Hid (wr.grownBy ((wr.setCell ⟨g, kk * 2, none⟩ (.int .i64 u.1)).setCell ⟨g, kk * 2 + 1, none⟩ (.int .i64 u.2)) (some g)) := hpw.2
                clear hpw
                go_region
                all_goals go_wp2
                go_roundw
                case rel => exact ⟨kk + 1, k2 + 1, dk.setIfInBounds kk u, by go_num, by go_num, by omega, by omega, owns_drew HR3.out, grown_drew (grown_trans HG2.out HG3.out), HI2.out⟩
                case measure => simp [intOf]; omega
            · have hend : k + k2 = n := by omega
              have hkn : kk < n := by omega
              obtain ⟨vs, hvs⟩ : ∃ vs, ∀ ty, (Builtin.clear_ #[36] ty #[.slice (some ⟨g, kk * 2, none⟩) (n - kk) (cap - kk)]).run Tryz.prog wr = .ok (.tuple #[]) (wr.setCells g (kk * 2) vs) := by
                obtain ⟨vs, h⟩ := run_clear_edges wr 0 g (kk * 2) (n - kk) (cap - kk) (by omega) (fun j hj => by
                  have hl : (ecells dk.toList).length = n * 2 := by rw [ecells_len]; simp; omega
                  rw [HR2.out.cellAt (kk * 2 + j) (by omega), List.getElem?_eq_getElem (by omega)]
                  rfl) (fun j _ => HR2.out.frozenAt _)
                exact ⟨vs, fun ty => h⟩
              have hown := owned_cells vs (kk * 2) wr _ HR2.out
              obtain ⟨wc, hwc⟩ : ∃ wc, wr.setCells g (kk * 2) vs = wc := ⟨_, rfl⟩
              rw [hwc] at hvs hown
              have HH : Hid (Edg wc (.slice (some ⟨g, 0, none⟩) kk cap) (compactUpTo d d.size)) := by
                obtain ⟨xs, k1, k2', _⟩ := hown
                have hI := HI.out
                rw [hend, ← hn] at hI
                refine edg_take k1 ?_ hI.len (by omega)
                rw [k2', ecells_take]
                congr 1
                apply List.ext_getElem?
                intro j
                by_cases hj : j < kk
                · rw [List.getElem?_take_of_lt hj, hI.low j hj, Array.getElem?_toList, getElem!_pos dk j (by omega), Array.getElem?_eq_getElem]
                · rw [List.getElem?_take_eq_none (by omega), List.getElem?_eq_none (by rw [hI.len]; omega)]
              have HG3 : Hid (wr.grownBy wc (some g)) := by obtain ⟨_, _, _, h⟩ := hown; exact h
              clear hwc hown
              go_wp2
              go_ret
              exact ⟨_, rfl, HH.out, grown_trans HG2.out HG3.out⟩
        · have heq : ∀ w, Sem.run Tryz.prog (binOp .eql 56 (.agg #[.int .i64 x.1, .int .i64 x.2]) (.agg #[.int .i64 y.1, .int .i64 y.2])) w = .ok (.bool false) w := fun w => by rw [edge_eql, decide_eq_false hdup]
          have HK1 : Hid (keeps d k = true) := HK.out hdup
          clear HK HN hdup
          go_wp2_with fail
          go_region
          all_goals go_wp2
          go_roundw
          case rel =>
            refine ⟨k + 1, by omega, by omega, by go_num, owns_drew HR.out, grown_drew HG.out, fun j hj => ?_⟩
            by_cases e : j = k
            · subst e; exact HK1.out
            · exact HA.out j (by omega)
          case measure => simp [intOf]; omega
      · obtain rfl : k = n := by omega
        have HH : Hid (Edg wr (.slice (some ⟨g, 0, none⟩) k cap) (compactUpTo d d.size)) := by
          rw [compactUpTo_all d d.size (fun j hj => HA.out j (by omega)), range_map_get]
          exact edg_take HR.out (List.take_of_length_le (by rw [ecells_len]; simp; omega)) (by simpa using hn) (Nat.le_refl _)
        go_wp2
        go_ret
        exact ⟨_, rfl, HH.out, HG.out⟩

/-- The compacting of a row of the call's own. -/
theorem compact_own (v : Value) (base n : Nat) (l : List (Int × Int)) (w : World) (h : w.ownsRow base 56 2 v n (ecells l)) (hu : Ed.Up l) (hn : n ≤ 1000000000) :
    Calls Tryz.prog 45 #[v] w fun e w' => ∃ v', e = .returned v' ∧ Edg w' v' (Ed.nrm l) ∧ w.grownBy w' v.ownBlock := by
  have hlen := h.1
  rw [ecells_len] at hlen
  rcases h.2 with ⟨rfl, rfl⟩ | ⟨g, cap, cur, rfl, hb, hg, hnc, hcm, hcs, htake⟩
  · obtain rfl : l = [] := List.length_eq_zero_iff.1 (by omega)
    go_enter Tryz.func45, Tryz.ntmps45
    go_wp2
    go_ret
    exact ⟨_, rfl, edg_nil w, grown_refl _ _⟩
  · have hd : l.toArray.size = n := by simp; omega
    refine (compact_some g n cap base l.toArray w (by simpa using h) hd hn hnc).mono ?_
    rintro e w' ⟨k, rfl, h1, h2⟩
    rw [Ed.compact_nrm l.toArray (by simpa using hu)] at h1
    exact ⟨_, rfl, by simpa using h1, h2⟩

end Go.Proofs.YtbhngncnhabbkaaGreat
