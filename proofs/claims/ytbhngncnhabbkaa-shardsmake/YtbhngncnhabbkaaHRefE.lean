/- The walk of the document's own Make. -/
import Derived.Test.YtbhngncnhabbkaaHRws
import Derived.Deep.RegionLaw
namespace Go.Proofs.Ytbhngncnhabbkaa
open Go.RowKit Go.Deep

theorem own_cap {W : World} {base e size n c : Nat} {a : Option Addr} {xs : List Value} (h : W.ownsRow base e size (.slice a n c) n xs) : n ≤ c := by
  rcases h.2 with ⟨e, _⟩ | ⟨g, cap, cur, e, _, _, hle, _⟩
  · simp only [Value.slice.injEq] at e; omega
  · simp only [Value.slice.injEq] at e; omega
theorem getD_rise {A : List Int} (h : A.Pairwise (· < ·)) {i j : Nat} (hij : i < j) (hj : j < A.length) : A.getD i 0 < A.getD j 0 := by
  have := List.pairwise_iff_getElem.1 h i j (by omega) hj hij
  simpa [List.getD, show i < A.length by omega, hj] using this

set_option maxHeartbeats 2000000 in
set_option maxRecDepth 100000 in
theorem rmake_any (v : Value) (l : List (Int × Int)) (p : Int × Int) (w : World) (h : Edg w v l) (hl : l.length ≤ 300) (hp : (-9223372036854775808 ≤ p.1 ∧ p.1 ≤ 9223372036854775807) ∧ (-9223372036854775808 ≤ p.2 ∧ p.2 ≤ 9223372036854775807)) :
    Calls Try.prog 7 #[v, .agg #[.int .i64 p.1, .int .i64 p.2]] w fun e w' => ∃ u, e = .returned (.agg (scells (Sh.mk l p) u)) ∧ Lists w' u (Sh.mk l p).2 ∧ Below w.heap.size w w' := by
  obtain ⟨i0, hi0, hz0, hz1, hz2⟩ := info_parts Try.rowInfo
  obtain ⟨p1, p2⟩ := p
  dsimp only at hp ⊢
  obtain ⟨wa, hwa⟩ : ∃ wa, w.alloc (.cells #[.int .i64 p1, .int .i64 p2] 24) = wa := ⟨_, rfl⟩
  obtain ⟨wb, hwb⟩ : ∃ wb, wa.alloc (.cells #[.int .i64 0, .int .i64 0, .slice none 0 0] 28) = wb := ⟨_, rfl⟩
  have HSA : Hid (wa.heap.size = w.heap.size + 1) := by rw [Hid, ← hwa]; simp
  have HSB : Hid (wb.heap.size = w.heap.size + 2) := by rw [Hid, ← hwb]; simp [HSA.out]
  have HP0 : Hid (wb.heap[w.heap.size]? = some (.cells #[.int .i64 p1, .int .i64 p2] 24 (0, 0))) := by rw [Hid, ← hwb, heap_alloc_old _ _ (by rw [HSA.out]; omega), ← hwa]; exact heap_alloc_new _ _
  have HP1 : Hid (wb.heap[wa.heap.size]? = some (.cells #[.int .i64 0, .int .i64 0, .slice none 0 0] 28 (0, 0))) := by rw [Hid, ← hwb]; exact heap_alloc_new _ _
  have HBB : Hid (Below w.heap.size w wb) := by rw [Hid, ← hwb, ← hwa]; exact ((Below.refl _ w).alloc (Nat.le_refl _) _).alloc (by simp) _
  have HM := rmayP_any (p1, p2) wb
  dsimp only at HM
  obtain ⟨a, cap, rfl, hcap, _⟩ := id h
  have HEW : Hid (Edg w (.slice a l.length cap) l) := h
  clear h
  cases hm : Sh.mayP (p1, p2) with
  | false =>
    rw [hm] at HM
    have HR : Hid (Sh.mk l (p1, p2) = Sh.none_) := by unfold Sh.mk; rw [Hid, if_neg (by rw [hm]; simp)]
    rw [HR.out]
    replace HM : Hid _ := HM
    clear hm HR
    go_enter Try.func7, Try.ntmps7
    obtain ⟨a0, a1, _, _⟩ := two_cells HP0.out
    go_wp2_with fail
    refine Calls.mono HM.out ?_
    rintro e w1 ⟨rfl, hb1⟩
    obtain ⟨q0, q1, q2, f0, f1, f2⟩ := three_cells (blk_later HP1.out hb1)
    have HB1 : Hid (Below w.heap.size w w1) := bnext HBB.out hb1
    clear hb1 HM
    go_wp2
    refine bodyPost_ret (v := .agg #[.int .i64 0, .int .i64 0, .slice none 0 0]) ?r rfl ⟨.slice none 0 0, rfl, lists_nil _, ?b⟩
    case r =>
      rw [results_cell rfl]
      go_simp
    case b =>
      have hge : w.heap.size ≤ wa.heap.size := by rw [HSA.out]; omega
      exact ((HB1.out.setCell hge _).setCell hge _).setCell hge _
  | true =>
    rw [hm] at HM
    have hmp := Sh.mayP_iff.1 hm
    dsimp only at hmp
    obtain ⟨n, hn, hn1, hn2⟩ : ∃ n : Nat, p2 - p1 = (n : Int) ∧ 1 ≤ n ∧ n ≤ 256 := ⟨(p2 - p1).toNat, by omega, by omega, by omega⟩
    have HR : Hid (Sh.mk l (p1, p2) = ((p1, p2), Sh.ofP l p1 n)) := by
      unfold Sh.mk
      rw [Hid, if_pos hm]
      dsimp only
      rw [show (p2 - p1).toNat = n by omega]
    rw [HR.out]
    unfold scells
    dsimp only
    replace HM : Hid _ := HM
    clear hm HR
    go_enter Try.func7, Try.ntmps7
    obtain ⟨a0, a1, _, _⟩ := two_cells HP0.out
    go_wp2_with fail
    refine Calls.mono HM.out ?_
    rintro e w1 ⟨rfl, hb1⟩
    obtain ⟨wm, hwm⟩ : ∃ wm, w1.alloc (.cells #[.int .i64 p1, .int .i64 p2, .slice none 0 0] 28) = wm := ⟨_, rfl⟩
    have hbm : Below w1.heap.size w1 wm := by rw [← hwm]; exact (Below.refl _ w1).alloc (Nat.le_refl _) _
    have HG : Hid (w.heap.size + 2 ≤ w1.heap.size) := by have := hb1.size; have := HSB.out; rw [Hid]; omega
    obtain ⟨r0, r1, _, _⟩ := two_cells (blk_later HP0.out hb1)
    replace HP0 : Hid _ := blk_later (blk_later HP0.out hb1) hbm
    replace HP1 : Hid _ := blk_later (blk_later HP1.out hb1) hbm
    have HB1 : Hid (Below w.heap.size w wm) := bnext (bnext HBB.out hb1) hbm
    have HSB0 : Hid (wm.heap[w1.heap.size]? = some (.cells #[.int .i64 p1, .int .i64 p2, .slice none 0 0] 28 (0, 0))) := by rw [Hid, ← hwm]; exact heap_alloc_new _ _
    have HGM : Hid (w1.heap.size + 1 ≤ wm.heap.size) := by rw [Hid, ← hwm]; simp
    have HWM : Hid (w1.alloc (.cells #[.int .i64 p1, .int .i64 p2, .slice none 0 0] 28) = wm) := hwm
    have m0 : (w1.alloc (.cells #[.int .i64 p1, .int .i64 p2, .slice none 0 0] 28)).cell? ⟨w.heap.size, 0, none⟩ = some (.int .i64 p1) := by rw [hwm]; exact (two_cells HP0.out).1
    clear hwm hb1 hbm HM HBB a0 a1
    go_wp2_with fail
    go_loopw [6] (fun c wr => ∃ (k : Nat) (vv : Int), k ≤ n ∧ c = .int .i64 vv ∧ Hid (p1 + (k : Int) = vv) ∧ Hid (∃ ov xs, wr.heap[w1.heap.size]? = some (.cells #[.int .i64 p1, .int .i64 p2, ov] 28 (0, 0)) ∧ Rws wr (w1.heap.size + 1) ov xs (Sh.ofP l p1 k)) ∧ Hid (Below w1.heap.size wm wr)) (fun c _ => n - (intOf c - p1).toNat)
    case atStart => exact ⟨0, p1, Nat.zero_le _, rfl, by simp [Hid], ⟨_, _, by rw [HWM.out]; exact HSB0.out, Rws.nil _ _⟩, by rw [HWM.out]; exact Below.refl _ _⟩
    case round =>
      obtain ⟨k, vv, hk, rfl, HVV, HF, HB⟩ := hrel
      have hbw : Below w.heap.size w wr := HB1.out.trans (HB.out.mono (by have := HG.out; omega))
      have HPW : Hid _ := blk_below HP0.out HB.out (by have := HG.out; omega)
      obtain ⟨s0, s1, _, _⟩ := two_cells HPW.out
      have HGR : Hid (w1.heap.size + 1 ≤ wr.heap.size) := Nat.le_trans HGM.out HB.out.size
      obtain ⟨wo, rfl⟩ : ∃ wo, wo = wr := ⟨wr, rfl⟩
      obtain ⟨ov, xs, hov, hrw⟩ := HF.out
      by_cases hlt : k < n
      · have HRW : Hid (Rws wo (w1.heap.size + 1) ov xs (Sh.ofP l p1 k)) := hrw
        have HOV : Hid (wo.heap[w1.heap.size]? = some (.cells #[.int .i64 p1, .int .i64 p2, ov] 28 (0, 0))) := hov
        have HEO : Hid (Edg wo (.slice a l.length cap) l) := HEW.out.later hbw
        have HSUC : Hid (Sh.ofP l p1 (k + 1) = Sh.ofP l p1 k ++ [Sh.ends l (p1 + (k : Int))]) := Sh.ofP_succ l p1 k
        rw [HVV.out] at HSUC
        generalize Sh.ofP l p1 k = O at *
        have hvb : 0 ≤ vv ∧ vv < 256 := by have := HVV.out; omega
        have hd0 : decide (vv < p2) = true := by have := HVV.out; simp; omega
        clear hov hrw hbw HF
        go_wp2_with fail
        go_loopw [7, 8] (fun u i wr => ∃ q : Nat, q ≤ l.length ∧ i = .int .i64 q ∧ Hid (wr.ownsRow wo.heap.size 3 1 u (Sh.ends (l.take q) vv).length (icells (Sh.ends (l.take q) vv))) ∧ Hid (Below wo.heap.size wo wr)) (fun _ i _ => l.length - (intOf i).toNat)
        case atStart => exact ⟨0, Nat.zero_le _, rfl, World.ownsRow_nil _ _ _ _, Below.refl _ _⟩
        case round =>
          obtain ⟨q, hq, rfl, HO, HBO⟩ := hrel
          obtain ⟨wp, rfl⟩ : ∃ wp, wp = wr := ⟨wr, rfl⟩
          by_cases hlq : q < l.length
          · obtain ⟨b, off, rfl, c1, c2⟩ := (HEO.out.later HBO.out).at_ hlq
            have HT : Hid (l.take (q + 1) = l.take q ++ [l.getD q e0]) := take_succ_e l q hlq
            have HA1 : Hid (∃ A1, Sh.ends (l.take (q + 1)) vv = A1) := ⟨_, rfl⟩
            have HLEN : Hid ((Sh.ends (l.take q) vv).length ≤ 300) := by have := Sh.ends_len (l.take q) vv; rw [List.length_take] at this; rw [Hid]; omega
            have HRISE : Hid ((Sh.ends (l.take q) vv).Pairwise (· < ·)) := Sh.ends_rise _ _
            have HSKIP : Hid ((l.getD q e0).1 ≠ vv → Sh.ends (l.take (q + 1)) vv = Sh.ends (l.take q) vv) := fun h => by rw [HT.out, Sh.ends_skip h]
            have HHAVE : Hid ((l.getD q e0).2 ∈ Sh.ends (l.take q) vv → Sh.ends (l.take (q + 1)) vv = Sh.ends (l.take q) vv) := fun h => by rw [HT.out, Sh.ends_have h]
            have HPUT : Hid ((l.getD q e0).1 = vv → ∀ j, j ≤ (Sh.ends (l.take q) vv).length → (∀ i, i < j → (Sh.ends (l.take q) vv).getD i 0 < (l.getD q e0).2) → (∀ i, j ≤ i → i < (Sh.ends (l.take q) vv).length → (l.getD q e0).2 < (Sh.ends (l.take q) vv).getD i 0) →
              Sh.ends (l.take (q + 1)) vv = (Sh.ends (l.take q) vv).take j ++ (l.getD q e0).2 :: (Sh.ends (l.take q) vv).drop j) := fun h j h1 h2 h3 => by rw [HT.out]; exact Sh.ends_put h j h1 h2 h3
            obtain ⟨A1, hA1⟩ := HA1.out
            have HAA : Hid (Sh.ends (l.take (q + 1)) vv = A1) := hA1
            rw [hA1] at HSKIP HHAVE HPUT
            generalize l.getD q e0 = ed at *
            obtain ⟨x, y⟩ := ed
            dsimp only at c1 c2 HSKIP HHAVE HPUT
            generalize Sh.ends (l.take q) vv = A at *
            have HIN : Hid (Ints wp _ A) := Ints.of_own HO.out
            obtain ⟨va, vc, rfl, _⟩ := HIN.out
            have hvc : A.length ≤ vc := own_cap HO.out
            have hA3 : A.length ≤ 300 := HLEN.out
            clear hA1 HA1 HT HLEN
            go_wp2_with fail
            go_loopw [9] (fun c wr => ∃ j : Nat, j ≤ A.length ∧ c = .int .i64 j ∧ Hid (∀ i, i < j → A.getD i 0 < y) ∧ Hid (Below wp.heap.size wp wr)) (fun c _ => A.length - (intOf c).toNat)
            case atStart => exact ⟨0, Nat.zero_le _, rfl, fun i hi => by omega, Below.refl _ _⟩
            case round =>
              obtain ⟨j, hj, rfl, HLS, HBP⟩ := hrel
              have e1 := cell_after HBP.out c1
              have e2 := cell_after HBP.out c2
              have l1 := Later.cell e1
              have l2 := Later.cell e2
              have hsome := Later.some wr
              by_cases hlj : j < A.length
              · have hd1 : decide ((j : Int) < (A.length : Int)) = true := by simp; exact hlj
                obtain ⟨va', vc', he, hcl⟩ := HIN.out
                simp only [Value.slice.injEq, true_and] at he
                obtain ⟨rfl, rfl⟩ := he
                obtain ⟨g, o2, rfl, _, hcc⟩ := hcl.resolve_left (by rintro rfl; simp at hlj)
                have hcj := hcc j hlj
                have l3 := Later.cell (cell_after HBP.out hcj)
                clear hcl hcc
                by_cases hay : A.getD j 0 < y
                · have hd2 : decide (A.getD j 0 < y) = true := by simpa using hay
                  have HLS2 : Hid (∀ i, i < j + 1 → A.getD i 0 < y) := fun i hi => by
                    by_cases e : i = j
                    · rw [e]; exact hay
                    · exact HLS.out i (by omega)
                  generalize A.getD j 0 = z at *
                  clear hay
                  go_wp2_with fail
                  refine wp_region_later (by kernel_rfl) (by kernel_rfl) ?_
                  repeat (go_big_quiet_step (fail))
                  refine wpQuiet_nil ?_
                  intro w5 hw5
                  obtain ⟨⟨w6, hb6⟩, rfl⟩ := hw5
                  have HB6 : Hid (Below wp.heap.size wp w5) := bnext HBP.out hb6
                  go_wp2
                  go_roundw
                  case rel => exact ⟨j + 1, by omega, by go_num, HLS2, HB6⟩
                  case measure => simp [intOf]; omega
                · have HMZ : Hid (A.getD j 0 = y → A1 = A) := fun h => HHAVE.out (by rw [← h, List.getD_eq_getElem?_getD, List.getElem?_eq_getElem hlj]; exact List.getElem_mem hlj)
                  have HNZ : Hid (x = vv → A.getD j 0 ≠ y → A1 = A.take j ++ y :: A.drop j) := fun hx hz => HPUT.out hx j hj HLS.out fun i h1 h2 => by
                    have h3 : y < A.getD j 0 := by omega
                    by_cases e : i = j
                    · rw [e]; exact h3
                    · have := getD_rise HRISE.out (i := j) (j := i) (by omega) h2; omega
                  generalize A.getD j 0 = z at *
                  have hd2 : decide (z < y) = false := by simpa using hay
                  clear hay
                  go_wp2_with fail
                  refine wp_region_later (by kernel_rfl) (by kernel_rfl) ?_
                  repeat (go_big_quiet_step (fail))
                  refine wpQuiet_nil ?_
                  intro w5 hw5
                  obtain ⟨⟨w6, hb6⟩, rfl⟩ := hw5
                  clear l1 l2 l3 hsome
                  have HB6 : Hid (Below wp.heap.size wp w5) := bnext HBP.out hb6
                  have l1 := Later.cell (cell_after HB6.out c1)
                  have l2 := Later.cell (cell_after HB6.out c2)
                  have hsome := Later.some w5
                  have l3 := Later.cell (cell_after HB6.out hcj)
                  by_cases hxv : x = vv
                  · skip
                    have hd3 : (x != vv) = false := by simpa using hxv
                    by_cases hay2 : z = y
                    · have hd4 : (z == y) = true := by simpa using hay2
                      have hd4b : decide (z = y) = true := by simpa using hay2
                      have HMEM : Hid (A1 = A) := HMZ.out hay2
                      clear hay2 hxv
                      go_wp2_with fail
                      refine wp_region_later (by kernel_rfl) (by kernel_rfl) ?_
                      repeat (go_big_quiet_step (fail))
                      refine wpQuiet_nil ?_
                      intro w7 hw7
                      obtain ⟨⟨w7x, hb7⟩, rfl⟩ := hw7
                      have HOX : Hid (w7.ownsRow wo.heap.size 3 1 (.slice (some ⟨g, o2, none⟩) A.length vc) (Sh.ends (l.take (q + 1)) vv).length (icells (Sh.ends (l.take (q + 1)) vv))) := by rw [Hid, HAA.out, HMEM.out]; exact own_later HO.out (bnext HB6.out hb7)
                      have HBX : Hid (Below wo.heap.size wo w7) := bnext HBO.out (bnext HB6.out hb7)
                      go_wp2
                      go_roundw
                      case rel => exact ⟨q + 1, by omega, by go_num, HOX, HBX⟩
                      case measure => simp [intOf]; omega
                    · have hd4 : (z == y) = false := by simpa using hay2
                      have hd4b : decide (z = y) = false := by simpa using hay2
                      have HNEW : Hid (A1 = A.take j ++ y :: A.drop j) := HNZ.out hxv hay2
                      clear hay2 hxv
                      go_wp2_with fail
                      refine wp_region_later (by kernel_rfl) (by kernel_rfl) ?_
                      repeat (go_big_quiet_step (fail))
                      refine wpQuiet_nil ?_
                      intro w7 hw7
                      obtain ⟨⟨w7x, hb7⟩, rfl⟩ := hw7
                      have HB7 : Hid (Below wp.heap.size wp w7) := bnext HB6.out hb7
                      have HX7 : Hid (Ints w7 (.slice (some ⟨g, o2 + j, none⟩) (A.length - j) (vc - j)) (A.drop j)) := by
                        have := ints_drop (HIN.out.later HB7.out) hj hvc
                        rw [if_neg (show ¬ vc = j by omega), Option.map_some, Go.WideShapes.add_plain] at this
                        exact this
                      have hcj2 : ¬ vc = j := by omega
                      have hjc : j ≤ vc := by omega
                      have HDL : Hid ((A.drop j).length = A.length - j) := List.length_drop
                      have hdl := HDL.out
                      clear hb7 l1 l2 l3 hsome
                      go_wp2_with (at_builtin; refine wpList_app_own w7 rfl _ _ rfl w7.heap.size (.slice none 0 0) 0 [] rfl (World.ownsRow_nil _ _ _ _) _ (A.drop j) rfl HX7.out (by omega) (Nat.le_refl _) ?_; intro v8 w8 hown8 hgrow8)
                      have HR8 : Hid (Ints w8 v8 (A.drop j)) := Ints.of_own (by simpa using hown8)
                      have HBX8 : Hid (Below wo.heap.size wo w8) := (bnext HBO.out HB7.out).grown hgrow8 (bnext HBO.out HB7.out).size (fun q e => by simp [Value.ownBlock] at e)
                      have hb78 : Below w7.heap.size w7 w8 := (Below.refl _ w7).grown hgrow8 (Nat.le_refl _) (fun q e => by simp [Value.ownBlock] at e)
                      obtain ⟨wd, hwd⟩ : ∃ wd, w8.alloc (.cells #[.int .i64 y] 3) = wd := ⟨_, rfl⟩
                      have hb8d : Below w8.heap.size w8 wd := by rw [← hwd]; exact (Below.refl _ w8).alloc (Nat.le_refl _) _
                      have HB8 : Hid (Below wp.heap.size wp w8) := bnext HB7.out hb78
                      have HBD : Hid (Below wp.heap.size wp wd) := bnext HB8.out hb8d
                      have HXD : Hid (Below wo.heap.size wo wd) := bnext HBX8.out hb8d
                      have hzc : wd.cell? ⟨w8.heap.size, 0, none⟩ = some (.int .i64 y) := by rw [← hwd]; simp
                      have HZC : Hid (wd.drew.cell? ⟨w8.heap.size, 0, none⟩ = some (.int .i64 y)) := hzc
                      have g2 : w8.drew.cell? _ = _ := cell_after HB8.out.drew c2
                      have g4 : wd.drew.cell? _ = _ := cell_after HBD.out.drew c2
                      have HID : Hid (Ints wd.drew (.slice (some ⟨g, o2, none⟩) A.length vc) A) := HIN.out.later HBD.out.drew
                      have HCD : Hid (_ ∧ _ ∧ _) := ints_cut HID.out hj
                      have HRD : Hid (Ints wd.drew v8 (A.drop j)) := HR8.out.later hb8d.drew
                      have hwds : wd.drew.heap.size = wd.heap.size := rfl
                      clear hown8 hgrow8 hb78 hb8d hzc hdl
                      go_wp2_with fail
                      go_region_law (first
                        | (refine step_app_cut wd.drew (by rfl) _ _ (by rfl) (some ⟨g, o2, none⟩) j (A.take j) (by rfl) HCD.out y ⟨w8.heap.size, 0, none⟩ 1 (by rfl) HZC.out (by omega) ?_; intro v9 w9 hown9 hgrow9
                           have HO9 : Hid (w9.ownsRow wd.heap.size 3 1 v9 (j + 1) (icells (A.take j ++ [y]))) := hown9
                           have HR9 : Hid (Ints w9 v8 (A.drop j)) := HRD.out.grown hgrow9 (fun q _ e => by cases e)
                           have HX9 : Hid (Below wo.heap.size wo w9) := (HXD.out.drew).grown hgrow9 HXD.out.size (fun q e => by cases e)
                           have HS9 : Hid (wd.heap.size ≤ w9.heap.size) := hgrow9.size
                           clear hown9 hgrow9)
                        | (refine step_app_own w9 (by rfl) _ _ (by rfl) wd.heap.size v9 (j + 1) (A.take j ++ [y]) (by rfl) HO9.out v8 (A.drop j) (by rfl) HR9.out (by have := HDL.out; omega) HS9.out ?_; intro v10 w10 hown10 hgrow10
                           have HOX : Hid (w10.ownsRow wo.heap.size 3 1 v10 (Sh.ends (l.take (q + 1)) vv).length (icells (Sh.ends (l.take (q + 1)) vv))) := by
                             rw [Hid, HAA.out, HNEW.out]
                             have h := hown10.mono HXD.out.size
                             rw [List.append_assoc] at h
                             have e : j + 1 + (A.drop j).length = (A.take j ++ y :: A.drop j).length := by rw [List.length_append, List.length_cons, HCD.out.1]; omega
                             rw [e] at h
                             exact h
                           have HBX : Hid (Below wo.heap.size wo w10) := HX9.out.grown hgrow10 HX9.out.size (fun q e => Nat.le_trans HXD.out.size (HO9.out.lt q e).1)
                           clear hown10 hgrow10))
                      all_goals go_wp2
                      all_goals go_roundw
                      all_goals first
                        | exact ⟨q + 1, by omega, by go_num, HOX, HBX⟩
                        | (simp [intOf]; omega)
                  · skip
                    have hd3 : (x != vv) = true := by simpa using hxv
                    have HSK2 : Hid (A1 = A) := HSKIP.out hxv
                    clear hxv
                    go_wp2_with fail
                    refine wp_region_later (by kernel_rfl) (by kernel_rfl) ?_
                    repeat (go_big_quiet_step (fail))
                    refine wpQuiet_nil ?_
                    intro w7 hw7
                    obtain ⟨⟨w7x, hb7⟩, rfl⟩ := hw7
                    have HOX : Hid (w7.ownsRow wo.heap.size 3 1 (.slice (some ⟨g, o2, none⟩) A.length vc) (Sh.ends (l.take (q + 1)) vv).length (icells (Sh.ends (l.take (q + 1)) vv))) := by rw [Hid, HAA.out, HSK2.out]; exact own_later HO.out (bnext HB6.out hb7)
                    have HBX : Hid (Below wo.heap.size wo w7) := bnext HBO.out (bnext HB6.out hb7)
                    go_wp2
                    go_roundw
                    case rel => exact ⟨q + 1, by omega, by go_num, HOX, HBX⟩
                    case measure => simp [intOf]; omega
              · obtain rfl : j = A.length := by omega
                have hd1 : decide ((A.length : Int) < (A.length : Int)) = false := by simp
                go_wp2_with fail
                refine wp_region_later (by kernel_rfl) (by kernel_rfl) ?_
                repeat (go_big_quiet_step (fail))
                refine wpQuiet_nil ?_
                intro w5 hw5
                obtain ⟨⟨w6, hb6⟩, rfl⟩ := hw5
                clear l1 l2 hsome
                have HB6 : Hid (Below wp.heap.size wp w5) := bnext HBP.out hb6
                have l1 := Later.cell (cell_after HB6.out c1)
                have l2 := Later.cell (cell_after HB6.out c2)
                have hsome := Later.some w5
                by_cases hxv : x = vv
                · skip
                  have hd3 : (x != vv) = false := by simpa using hxv
                  have HNEW : Hid (A1 = A.take A.length ++ y :: A.drop A.length) := HPUT.out hxv A.length (Nat.le_refl _) HLS.out (fun i h1 h2 => by omega)
                  clear hxv
                  go_wp2_with fail
                  refine wp_region_later (by kernel_rfl) (by kernel_rfl) ?_
                  repeat (go_big_quiet_step (fail))
                  refine wpQuiet_nil ?_
                  intro w7 hw7
                  obtain ⟨⟨w7x, hb7⟩, rfl⟩ := hw7
                  have HB7 : Hid (Below wp.heap.size wp w7) := bnext HB6.out hb7
                  clear hb7 hsome
                  have hk6 : A.length ≤ 1000000 := by omega
                  rcases HO.out.2 with ⟨he, h0⟩ | ⟨g, c', cur, he, _⟩
                  · simp only [Value.slice.injEq] at he
                    obtain ⟨rfl, hl0, rfl⟩ := he
                    obtain rfl : A = [] := List.length_eq_zero_iff.1 hl0
                    clear hl0 h0
                    have HX7 : Hid (∀ a c, Ints w7 (.slice a 0 c) (([] : List Int).drop 0)) := fun a c => ⟨a, c, by simp, .inl (by simp)⟩
                    have HDL : Hid ((([] : List Int).drop 0).length = 0) := by simp [Hid]
                    have hdl := HDL.out
                    go_wp2_with (at_builtin; refine wpList_app_own w7 rfl _ _ rfl w7.heap.size (.slice none 0 0) 0 [] rfl (World.ownsRow_nil _ _ _ _) _ (([] : List Int).drop 0) rfl (HX7.out _ _) (by omega) (Nat.le_refl _) ?_; intro v8 w8 hown8 hgrow8)
                    have HR8 : Hid (Ints w8 v8 (([] : List Int).drop 0)) := Ints.of_own (by simpa using hown8)
                    have HBX8 : Hid (Below wo.heap.size wo w8) := (bnext HBO.out HB7.out).grown hgrow8 (bnext HBO.out HB7.out).size (fun q e => by simp [Value.ownBlock] at e)
                    have hb78 : Below w7.heap.size w7 w8 := (Below.refl _ w7).grown hgrow8 (Nat.le_refl _) (fun q e => by simp [Value.ownBlock] at e)
                    obtain ⟨wd, hwd⟩ : ∃ wd, w8.alloc (.cells #[.int .i64 y] 3) = wd := ⟨_, rfl⟩
                    have hb8d : Below w8.heap.size w8 wd := by rw [← hwd]; exact (Below.refl _ w8).alloc (Nat.le_refl _) _
                    have HB8 : Hid (Below wp.heap.size wp w8) := bnext HB7.out hb78
                    have HBD : Hid (Below wp.heap.size wp wd) := bnext HB8.out hb8d
                    have HXD : Hid (Below wo.heap.size wo wd) := bnext HBX8.out hb8d
                    have hzc : wd.cell? ⟨w8.heap.size, 0, none⟩ = some (.int .i64 y) := by rw [← hwd]; simp
                    have HZC : Hid (wd.drew.cell? ⟨w8.heap.size, 0, none⟩ = some (.int .i64 y)) := hzc
                    have g2 : w8.drew.cell? _ = _ := cell_after HB8.out.drew c2
                    have g4 : wd.drew.cell? _ = _ := cell_after HBD.out.drew c2
                    have HID : Hid (Ints wd.drew (.slice none 0 0) ([] : List Int)) := HIN.out.later HBD.out.drew
                    have HCD : Hid (_ ∧ _ ∧ _) := ints_cut HID.out (Nat.le_refl _)
                    have HRD : Hid (Ints wd.drew v8 (([] : List Int).drop 0)) := HR8.out.later hb8d.drew
                    have hwds : wd.drew.heap.size = wd.heap.size := rfl
                    clear hown8 hgrow8 hb78 hb8d hzc hdl
                    go_wp2_with fail
                    go_region_law (first
                      | (refine step_app_cut wd.drew (by rfl) _ _ (by rfl) none 0 (([] : List Int).take 0) (by rfl) (ints_cut HID.out (Nat.le_refl _)) y ⟨w8.heap.size, 0, none⟩ 1 (by rfl) HZC.out (Nat.zero_le _) ?_; intro v9 w9 hown9 hgrow9
                         have HO9 : Hid (w9.ownsRow wd.heap.size 3 1 v9 (0 + 1) (icells (([] : List Int).take 0 ++ [y]))) := hown9
                         have HR9 : Hid (Ints w9 v8 (([] : List Int).drop 0)) := HRD.out.grown hgrow9 (fun q _ e => by cases e)
                         have HX9 : Hid (Below wo.heap.size wo w9) := (HXD.out.drew).grown hgrow9 HXD.out.size (fun q e => by cases e)
                         have HS9 : Hid (wd.heap.size ≤ w9.heap.size) := hgrow9.size
                         clear hown9 hgrow9)
                      | (refine step_app_own w9 (by rfl) _ _ (by rfl) wd.heap.size v9 (0 + 1) (([] : List Int).take 0 ++ [y]) (by rfl) HO9.out v8 (([] : List Int).drop 0) (by rfl) HR9.out (by have := HDL.out; omega) HS9.out ?_; intro v10 w10 hown10 hgrow10
                         have HOX : Hid (w10.ownsRow wo.heap.size 3 1 v10 (Sh.ends (l.take (q + 1)) vv).length (icells (Sh.ends (l.take (q + 1)) vv))) := by
                           rw [Hid, HAA.out, HNEW.out]
                           have h := hown10.mono HXD.out.size
                           rw [List.append_assoc] at h
                           have e : 0 + 1 + (([] : List Int).drop 0).length = (([] : List Int).take 0 ++ y :: ([] : List Int).drop 0).length := by rw [List.length_append, List.length_cons, HCD.out.1]; omega
                           rw [e] at h
                           exact h
                         have HBX : Hid (Below wo.heap.size wo w10) := HX9.out.grown hgrow10 HX9.out.size (fun q e => Nat.le_trans HXD.out.size (HO9.out.lt q e).1)
                         clear hown10 hgrow10))
                    all_goals go_wp2
                    all_goals go_roundw
                    all_goals first
                      | exact ⟨q + 1, by omega, by go_num, HOX, HBX⟩
                      | (simp [intOf]; omega)
                  · simp only [Value.slice.injEq, true_and] at he
                    obtain ⟨rfl, rfl⟩ := he
                    have HX7 : Hid (∀ a c, Ints w7 (.slice a 0 c) (A.drop A.length)) := fun a c => ⟨a, c, by simp, .inl (by simp)⟩
                    have HDL : Hid ((A.drop A.length).length = 0) := by simp [Hid]
                    have hdl := HDL.out
                    have hjc : A.length ≤ vc := hvc
                    have hcj2 : vc = A.length ∨ ¬ vc = A.length := Classical.em _
                    rcases hcj2 with hcj2 | hcj2
                    any_goals subst hcj2
                    all_goals
                      go_wp2_with (at_builtin; refine wpList_app_own w7 rfl _ _ rfl w7.heap.size (.slice none 0 0) 0 [] rfl (World.ownsRow_nil _ _ _ _) _ (A.drop A.length) rfl (HX7.out _ _) (by omega) (Nat.le_refl _) ?_; intro v8 w8 hown8 hgrow8)
                      have HR8 : Hid (Ints w8 v8 (A.drop A.length)) := Ints.of_own (by simpa using hown8)
                      have HBX8 : Hid (Below wo.heap.size wo w8) := (bnext HBO.out HB7.out).grown hgrow8 (bnext HBO.out HB7.out).size (fun q e => by simp [Value.ownBlock] at e)
                      have hb78 : Below w7.heap.size w7 w8 := (Below.refl _ w7).grown hgrow8 (Nat.le_refl _) (fun q e => by simp [Value.ownBlock] at e)
                      obtain ⟨wd, hwd⟩ : ∃ wd, w8.alloc (.cells #[.int .i64 y] 3) = wd := ⟨_, rfl⟩
                      have hb8d : Below w8.heap.size w8 wd := by rw [← hwd]; exact (Below.refl _ w8).alloc (Nat.le_refl _) _
                      have HB8 : Hid (Below wp.heap.size wp w8) := bnext HB7.out hb78
                      have HBD : Hid (Below wp.heap.size wp wd) := bnext HB8.out hb8d
                      have HXD : Hid (Below wo.heap.size wo wd) := bnext HBX8.out hb8d
                      have hzc : wd.cell? ⟨w8.heap.size, 0, none⟩ = some (.int .i64 y) := by rw [← hwd]; simp
                      have HZC : Hid (wd.drew.cell? ⟨w8.heap.size, 0, none⟩ = some (.int .i64 y)) := hzc
                      have g2 : w8.drew.cell? _ = _ := cell_after HB8.out.drew c2
                      have g4 : wd.drew.cell? _ = _ := cell_after HBD.out.drew c2
                      have HID : Hid (Ints wd.drew (.slice (some ⟨g, 0, none⟩) A.length _) A) := HIN.out.later HBD.out.drew
                      have HCD : Hid (_ ∧ _ ∧ _) := ints_cut HID.out (Nat.le_refl _)
                      have HRD : Hid (Ints wd.drew v8 (A.drop A.length)) := HR8.out.later hb8d.drew
                      have hwds : wd.drew.heap.size = wd.heap.size := rfl
                      clear hown8 hgrow8 hb78 hb8d hzc hdl
                      go_wp2_with fail
                      go_region_law (first
                        | (refine step_app_cut wd.drew (by rfl) _ _ (by rfl) (some ⟨g, 0, none⟩) A.length (A.take A.length) (by rfl) (ints_cut HID.out (Nat.le_refl _)) y ⟨w8.heap.size, 0, none⟩ 1 (by rfl) HZC.out hk6 ?_; intro v9 w9 hown9 hgrow9
                           have HO9 : Hid (w9.ownsRow wd.heap.size 3 1 v9 (A.length + 1) (icells (A.take A.length ++ [y]))) := hown9
                           have HR9 : Hid (Ints w9 v8 (A.drop A.length)) := HRD.out.grown hgrow9 (fun q _ e => by cases e)
                           have HX9 : Hid (Below wo.heap.size wo w9) := (HXD.out.drew).grown hgrow9 HXD.out.size (fun q e => by cases e)
                           have HS9 : Hid (wd.heap.size ≤ w9.heap.size) := hgrow9.size
                           clear hown9 hgrow9)
                        | (refine step_app_own w9 (by rfl) _ _ (by rfl) wd.heap.size v9 (A.length + 1) (A.take A.length ++ [y]) (by rfl) HO9.out v8 (A.drop A.length) (by rfl) HR9.out (by have := HDL.out; omega) HS9.out ?_; intro v10 w10 hown10 hgrow10
                           have HOX : Hid (w10.ownsRow wo.heap.size 3 1 v10 (Sh.ends (l.take (q + 1)) vv).length (icells (Sh.ends (l.take (q + 1)) vv))) := by
                             rw [Hid, HAA.out, HNEW.out]
                             have h := hown10.mono HXD.out.size
                             rw [List.append_assoc] at h
                             have e : A.length + 1 + (A.drop A.length).length = (A.take A.length ++ y :: A.drop A.length).length := by rw [List.length_append, List.length_cons, HCD.out.1]; omega
                             rw [e] at h
                             exact h
                           have HBX : Hid (Below wo.heap.size wo w10) := HX9.out.grown hgrow10 HX9.out.size (fun q e => Nat.le_trans HXD.out.size (HO9.out.lt q e).1)
                           clear hown10 hgrow10))
                      all_goals go_wp2
                      all_goals go_roundw
                      all_goals first
                        | exact ⟨q + 1, by omega, by go_num, HOX, HBX⟩
                        | (simp [intOf]; omega)
                · skip
                  have hd3 : (x != vv) = true := by simpa using hxv
                  have HSK2 : Hid (A1 = A) := HSKIP.out hxv
                  clear hxv
                  go_wp2_with fail
                  refine wp_region_later (by kernel_rfl) (by kernel_rfl) ?_
                  repeat (go_big_quiet_step (fail))
                  refine wpQuiet_nil ?_
                  intro w7 hw7
                  obtain ⟨⟨w7x, hb7⟩, rfl⟩ := hw7
                  have HOX : Hid (w7.ownsRow wo.heap.size 3 1 (.slice va A.length vc) (Sh.ends (l.take (q + 1)) vv).length (icells (Sh.ends (l.take (q + 1)) vv))) := by rw [Hid, HAA.out, HSK2.out]; exact own_later HO.out (bnext HB6.out hb7)
                  have HBX : Hid (Below wo.heap.size wo w7) := bnext HBO.out (bnext HB6.out hb7)
                  go_wp2
                  go_roundw
                  case rel => exact ⟨q + 1, by omega, by go_num, HOX, HBX⟩
                  case measure => simp [intOf]; omega
          · obtain rfl : q = l.length := by omega
            have HOA : Hid (wp.ownsRow wo.heap.size 3 1 u7 (Sh.ends l vv).length (icells (Sh.ends l vv))) := by have := HO.out; rwa [List.take_length] at this
            generalize Sh.ends l vv = A at *
            have HIN : Hid (Ints wp _ A) := Ints.of_own HOA.out
            obtain ⟨va, vc, rfl, _⟩ := HIN.out
            obtain ⟨wq, hwq⟩ : ∃ wq, wp.alloc (.cells #[.slice va A.length vc] 41) = wq := ⟨_, rfl⟩
            have hbq : Below wp.heap.size wp wq := by rw [← hwq]; exact (Below.refl _ wp).alloc (Nat.le_refl _) _
            have HBQ : Hid (Below wo.heap.size wo wq) := bnext HBO.out hbq
            have HNEW : Hid (wq.heap[wp.heap.size]? = some (.cells #[.slice va A.length vc] 41 (0, 0))) := by rw [Hid, ← hwq]; exact heap_alloc_new _ _
            have HRQ : Hid (Rws wq (w1.heap.size + 1) ov xs O) := HRW.out.later HBQ.out
            have HXI : Hid (Ints wq (.slice va A.length vc) A) := HIN.out.later hbq
            have HXO : Hid (∀ k, (Value.slice va A.length vc).ownBlock = some k → w1.heap.size + 1 ≤ k ∧ k < wq.heap.size ∧ ov.ownBlock ≠ some k) := fun k hk => by
              have h1 := HOA.out.lt k hk
              have h2 := hbq.size
              have h3 := HGR.out
              refine ⟨by omega, by omega, fun e => ?_⟩
              have := (HRW.out.own.lt k e).2
              omega
            have HSQ : Hid (wq.heap[w1.heap.size]? = _) := blk_later HOV.out HBQ.out
            have HSZ : Hid (w1.heap.size + 1 ≤ wq.heap.size) := Nat.le_trans HGR.out HBQ.out.size
            have HXL : Hid (xs.length ≤ 256) := by have := HRW.out.len; have h2 := congrArg List.length HSUC.out; rw [Sh.ofP_len, List.length_append] at h2; simp at h2; rw [Hid]; omega
            obtain ⟨t0, t1, t2, _, _, _⟩ := three_cells (blk_later HOV.out HBO.out)
            obtain ⟨z0, z1, z2, _, _, _⟩ := three_cells HSQ.out
            have hxl := HXL.out
            clear hbq HO
            go_wp2_with (at_builtin; refine wpList_append_own_at _ rfl _ _ 26 rfl (w1.heap.size + 1) 41 i0 (.slice none 0 0) 1 24 Try.underlying26 hi0 hz0 hz1 hz2 rfl (by decide) ov xs.length xs rfl HRQ.out.own ⟨wp.heap.size, 0, none⟩ 1 1 [.slice va A.length vc] rfl rfl (World.news_of_block (cs := #[.slice va A.length vc]) (t := 41) (fr := (0, 0)) HNEW.out) (by simp [Value.oneCell']) (by unfold maxLen; omega) (by omega) HSZ.out ?_
                         intro v' w7 hown hgrow _ hat
                         obtain ⟨g7, c7, rfl, _, _⟩ := hown.form (by omega)
                         have HS7 : Hid (w7.heap[w1.heap.size]? = _) := (hgrow.block _ (by have := HSZ.out; omega) (fun e => by have := (HRQ.out.own.lt _ e.symm).1; omega)).trans HSQ.out
                         have HR7 : Hid (Rws w7 (w1.heap.size + 1) _ _ (O ++ [A])) := HRQ.out.push HXI.out HXO.out hown hgrow hat
                         have HB7 : Hid (Below w1.heap.size wm w7) := (HB.out.trans (HBQ.out.mono (by have := HGR.out; omega))).grown hgrow (by have := HSZ.out; omega) (fun k e => by have := (HRQ.out.own.lt k e).1; omega)
                         obtain ⟨_, _, y2, _, _, f2⟩ := three_cells HS7.out
                         clear hown hgrow hat)
            have HR8 : Hid (Rws (w7.setCell ⟨w1.heap.size, 2, none⟩ (.slice (some ⟨g7, 0, none⟩) (xs.length + 1) c7)) (w1.heap.size + 1) (.slice (some ⟨g7, 0, none⟩) (xs.length + 1) c7) (xs ++ [.slice va A.length vc]) (Sh.ofP l p1 (k + 1))) := by
              rw [Hid, HSUC.out]; exact HR7.out.turn (oth_set _ _ _ _) (Nat.lt_succ_self _)
            have HS8 : Hid ((w7.setCell ⟨w1.heap.size, 2, none⟩ (.slice (some ⟨g7, 0, none⟩) (xs.length + 1) c7)).heap[w1.heap.size]? = some (.cells #[.int .i64 p1, .int .i64 p2, .slice (some ⟨g7, 0, none⟩) (xs.length + 1) c7] 28 (0, 0))) := blk_set HS7.out
            have HV8 : Hid (p1 + ((k + 1 : Nat) : Int) = vv + 1) := by have := HVV.out; rw [Hid]; omega
            have HB8 : Hid (Below w1.heap.size wm (w7.setCell ⟨w1.heap.size, 2, none⟩ (.slice (some ⟨g7, 0, none⟩) (xs.length + 1) c7))) := HB7.out.setCell (Nat.le_refl _) _
            go_roundw
            case rel => exact ⟨k + 1, vv + 1, by omega, by go_num, HV8, ⟨_, _, HS8.out, HR8.out⟩, HB8⟩
            case measure => have := HVV.out; simp [intOf]; omega
      · obtain rfl : k = n := by omega
        have hvv : vv = p2 := by have := HVV.out; omega
        subst hvv
        have hqw := blk_below HP1.out HB.out (by have := HG.out; have := HSA.out; omega)
        obtain ⟨t0, t1, t2, u0, u1, u2⟩ := three_cells hqw
        obtain ⟨z0, z1, z2, _, _, _⟩ := three_cells hov
        have hxl : xs.length = k := by rw [hrw.len, Sh.ofP_len]
        obtain ⟨g7, c7, hov7, _, _⟩ := hrw.own.form (by omega)
        subst hov7
        have HRF : Hid (Rws wo (w1.heap.size + 1) (.slice (some ⟨g7, 0, none⟩) xs.length c7) xs (Sh.ofP l p1 k)) := hrw
        have HPG : Hid (wa.heap.size < w1.heap.size + 1) := by have := HG.out; have := HSA.out; rw [Hid]; omega
        have HBW : Hid (Below w.heap.size w wo) := hbw
        have HPW2 : Hid (w.heap.size ≤ wa.heap.size) := by have := HSA.out; rw [Hid]; omega
        clear hov hrw hqw hbw HF HP0 HP1 HB HB1
        go_wp2
        refine bodyPost_ret (v := .agg #[.int .i64 p1, .int .i64 vv, .slice (some ⟨g7, 0, none⟩) xs.length c7]) ?rz rfl ⟨_, rfl, (((HRF.out.turn (oth_set _ _ _ _) HPG.out).turn (oth_set _ _ _ _) HPG.out).turn (oth_set _ _ _ _) HPG.out).lists, ?bz⟩
        case rz =>
          rw [results_cell rfl]
          go_simp
        case bz => exact ((HBW.out.setCell HPW2.out _).setCell HPW2.out _).setCell HPW2.out _

end Go.Proofs.Ytbhngncnhabbkaa
