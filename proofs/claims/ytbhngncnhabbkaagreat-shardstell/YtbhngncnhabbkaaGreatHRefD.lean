/- The walk of the document's own Decode of shards. -/
import Derived.Test.YtbhngncnhabbkaaGreatHAt
namespace Go.Proofs.YtbhngncnhabbkaaGreat
open Go.RowKit

set_option maxHeartbeats 1000000 in
set_option maxRecDepth 100000 in
theorem srdec_any (b : ByteArray) (w : World) (hs : b.size ≤ 1000000) :
    Calls Tryz.prog 11 #[.string b] w fun e w' => ∃ u, e = .returned (.tuple #[u, .int .i64 (Sh.decE b.data.toList)]) ∧ Shd w' u (Sh.decS b.data.toList) ∧ Below w.heap.size w w' := by
  obtain ⟨i0, hi0, hz0, hz1, hz2⟩ := info_parts Tryz.rowInfo
  obtain ⟨wa, hwa⟩ : ∃ wa, w.alloc (.cells #[.int .i64 0, .int .i64 0, .slice none 0 0] 26) = wa := ⟨_, rfl⟩
  obtain ⟨wb, hwb⟩ : ∃ wb, wa.alloc (.cells #[.int .i64 0, .int .i64 0, .slice none 0 0] 26) = wb := ⟨_, rfl⟩
  have RX : wb.heap[w.heap.size]? = some (.cells #[.int .i64 0, .int .i64 0, .slice none 0 0] 26 (0, 0)) := by rw [← hwb, heap_alloc_old _ _ (by rw [← hwa]; simp), ← hwa]; exact heap_alloc_new _ _
  have SX : wb.heap[wa.heap.size]? = some (.cells #[.int .i64 0, .int .i64 0, .slice none 0 0] 26 (0, 0)) := by rw [← hwb]; exact heap_alloc_new _ _
  have hRS : w.heap.size ≠ wa.heap.size := by rw [← hwa]; simp
  have hSge : w.heap.size ≤ wa.heap.size := by rw [← hwa]; simp
  have hbb : Hid (Below w.heap.size w wb) := by rw [← hwb, ← hwa]; exact ((Below.refl _ w).alloc (Nat.le_refl _) _).alloc (by simp) _
  have HNO : Hid ((∀ s, Sh.may s = true → Sh.enc s ≠ b.data.toList) → Sh.decE b.data.toList = 10 ∧ Sh.decS b.data.toList = Sh.none_) := Sh.dec_no
  have HAT : Hid (∀ s, Sh.may s = true → Sh.enc s = b.data.toList → _) := fun s h1 h2 => by
    have h := Sh.enc_at h1
    rw [h2] at h
    exact h
  replace RX : Hid _ := RX
  replace SX : Hid _ := SX
  go_enter Tryz.func11, Tryz.ntmps11
  go_wp2_with fail
  refine (rget_any b 2 wb (by omega)).mono ?_
  rintro e w1 ⟨n1, x1, o1, rfl, HG1, hb1⟩
  replace RX : Hid _ := blk_later RX.out hb1
  replace SX : Hid _ := blk_later SX.out hb1
  replace hb1 : Hid (Below w.heap.size w w1) := bnext hbb.out hb1
  clear hbb hwa hwb
  go_wp2_with fail
  refine (rget_any b x1 w1 (by omega)).mono ?_
  rintro e w2 ⟨n2, x2, o2, rfl, HG2, hb2⟩
  replace RX : Hid (w2.heap[w.heap.size]? = some (.cells #[.int .i64 0, .int .i64 0, .slice none 0 0] 26 (0, 0))) := blk_later RX.out hb2
  replace SX : Hid (w2.heap[wa.heap.size]? = some (.cells #[.int .i64 0, .int .i64 0, .slice none 0 0] 26 (0, 0))) := blk_later SX.out hb2
  replace hb2 : Hid (Below w.heap.size w w2) := bnext hb1.out hb2
  clear hb1
  obtain ⟨h0, h1, _, h3, h4, _⟩ := three_cells SX.out
  obtain ⟨w3, hw3⟩ : ∃ w3, (w2.setCell ⟨wa.heap.size, 0, none⟩ (.int .i64 n1)).setCell ⟨wa.heap.size, 1, none⟩ (.int .i64 n2) = w3 := ⟨_, rfl⟩
  have SX3 : Hid (w3.heap[wa.heap.size]? = some (.cells #[.int .i64 n1, .int .i64 n2, .slice none 0 0] 26 (0, 0))) := by rw [Hid, ← hw3]; exact blk_set (blk_set SX.out)
  have RX3 : Hid (w3.heap[w.heap.size]? = some (.cells #[.int .i64 0, .int .i64 0, .slice none 0 0] 26 (0, 0))) := by rw [Hid, ← hw3, blk_other hRS, blk_other hRS]; exact RX.out
  have hb3 : Hid (Below w.heap.size w w3) := by rw [← hw3]; exact (hb2.out.setCell hSge _).setCell hSge _
  obtain ⟨g0, g1, _, _, _, _⟩ := three_cells SX3.out
  obtain ⟨r0, r1, r2, r3, r4, r5⟩ := three_cells RX3.out
  clear SX RX hb2
  cases o1 with
  | false =>
    have HN : Hid (Sh.decE b.data.toList = 10 ∧ Sh.decS b.data.toList = Sh.none_) := HNO.out fun s h5 h6 => by
      have h7 := (HAT.out s h5 h6).1
      rw [HG1.out] at h7
      simp at h7
    go_wp2
    refine bodyPost_ret (v := .tuple #[.agg #[.int .i64 0, .int .i64 0, .slice none 0 0], .int .i64 10]) ?_ rfl ⟨_, by rw [HN.out.1], by rw [HN.out.2]; exact ⟨_, rfl, lists_nil _⟩, ?_⟩
    · rw [results_cell_tmp rfl]
      go_simp
    · exact ((hb3.out.setCell (Nat.le_refl _) _).setCell (Nat.le_refl _) _).setCell (Nat.le_refl _) _
  | true =>
    have k1 := Gp.getS_some b.data.toList 2 (by rw [HG1.out])
    rw [HG1.out] at k1
    cases o2 with
    | false =>
      have HN : Hid (Sh.decE b.data.toList = 10 ∧ Sh.decS b.data.toList = Sh.none_) := HNO.out fun s h5 h6 => by
        have h7 := HAT.out s h5 h6
        have h8 := h7.1
        rw [HG1.out] at h8
        simp only [Prod.mk.injEq, and_true] at h8
        have h9 := h7.2.1
        rw [← h8.2, HG2.out] at h9
        simp at h9
      go_wp2
      refine bodyPost_ret (v := .tuple #[.agg #[.int .i64 0, .int .i64 0, .slice none 0 0], .int .i64 10]) ?_ rfl ⟨_, by rw [HN.out.1], by rw [HN.out.2]; exact ⟨_, rfl, lists_nil _⟩, ?_⟩
      · rw [results_cell_tmp rfl]
        go_simp
      · exact ((hb3.out.setCell (Nat.le_refl _) _).setCell (Nat.le_refl _) _).setCell (Nat.le_refl _) _
    | true =>
      have k2 := Gp.getS_some b.data.toList x1 (by rw [HG2.out])
      rw [HG2.out] at k2
      dsimp only at k1 k2
      have hbl : b.data.toList.length = b.size := Array.length_toList
      have HP : Hid (∀ s, Sh.may s = true → Sh.enc s = b.data.toList → s.1 = (n1, n2) ∧ (Sh.atW s.1 : Int) = x2) := fun s h5 h6 => by
        have h7 := HAT.out s h5 h6
        have h8 := h7.1
        rw [HG1.out] at h8
        simp only [Prod.mk.injEq, and_true] at h8
        have h9 := h7.2.1
        rw [← h8.2, HG2.out] at h9
        simp only [Prod.mk.injEq, and_true] at h9
        exact ⟨Prod.ext h8.1.symm h9.1.symm, h9.2.symm⟩
      have HM := rmayP_any (n1, n2) w3
      dsimp only at HM
      cases hm : Sh.mayP (n1, n2) with
      | false =>
        rw [hm] at HM
        have HN : Hid (Sh.decE b.data.toList = 10 ∧ Sh.decS b.data.toList = Sh.none_) := HNO.out fun s h5 h6 => by
          have h7 := (Sh.may_iff.1 h5).1
          rw [(HP.out s h5 h6).1, hm] at h7
          cases h7
        replace HM : Hid _ := HM
        clear hm k1 k2
        go_wp2_with fail
        refine Calls.mono HM.out ?_
        rintro e w4 ⟨rfl, hb4⟩
        obtain ⟨q0, q1, q2, q3, q4, q5⟩ := three_cells (blk_later RX3.out hb4)
        replace hb4 : Hid (Below w.heap.size w w4) := bnext hb3.out hb4
        clear HM r0 r1 r2 r3 r4 r5 g0 g1
        go_wp2
        refine bodyPost_ret (v := .tuple #[.agg #[.int .i64 0, .int .i64 0, .slice none 0 0], .int .i64 10]) ?_ rfl ⟨_, by rw [HN.out.1], by rw [HN.out.2]; exact ⟨_, rfl, lists_nil _⟩, ?_⟩
        · rw [results_cell_tmp rfl]
          go_simp
        · exact ((hb4.out.setCell (Nat.le_refl _) _).setCell (Nat.le_refl _) _).setCell (Nat.le_refl _) _
      | true =>
        rw [hm] at HM
        have hmp := Sh.mayP_iff.1 hm
        dsimp only at hmp
        replace HM : Hid _ := HM
        have HMP : Hid (Sh.mayP (n1, n2) = true) := hm
        clear hm
        by_cases hx : (b.size : Int) ≤ x2
        · have HN : Hid (Sh.decE b.data.toList = 10 ∧ Sh.decS b.data.toList = Sh.none_) := HNO.out fun s h5 h6 => by
            have h7 := (HP.out s h5 h6).2
            have h8 := (HAT.out s h5 h6).2.2.1
            omega
          clear k1 k2
          go_wp2_with fail
          refine Calls.mono HM.out ?_
          rintro e w4 ⟨rfl, hb4⟩
          obtain ⟨q0, q1, q2, q3, q4, q5⟩ := three_cells (blk_later RX3.out hb4)
          replace hb4 : Hid (Below w.heap.size w w4) := bnext hb3.out hb4
          clear HM r0 r1 r2 r3 r4 r5 g0 g1
          go_wp2
          refine bodyPost_ret (v := .tuple #[.agg #[.int .i64 0, .int .i64 0, .slice none 0 0], .int .i64 10]) ?_ rfl ⟨_, by rw [HN.out.1], by rw [HN.out.2]; exact ⟨_, rfl, lists_nil _⟩, ?_⟩
          · rw [results_cell_tmp rfl]
            go_simp
          · exact ((hb4.out.setCell (Nat.le_refl _) _).setCell (Nat.le_refl _) _).setCell (Nat.le_refl _) _
        · obtain ⟨a2, rfl⟩ : ∃ k : Nat, x2 = k := ⟨x2.toNat, by omega⟩
          have ha2 : a2 < b.size := by omega
          have ha3 : (a2 : Int) < (b.size : Int) := by omega
          have hdx : decide (b.size ≤ a2) = false := by simp; omega
          obtain ⟨n, hn, hn1, hn2⟩ : ∃ n : Nat, n2 - n1 = (n : Int) ∧ 1 ≤ n ∧ n ≤ 256 := ⟨(n2 - n1).toNat, by omega, by omega, by omega⟩
          have hy : b[a2].toNat < 256 := UInt8.toNat_lt _
          have HFST : Hid (Sh.Reads b.data.toList (n1, n2) [] ((a2 : Int) + 1 + ((n * b[a2].toNat + 7) / 8 : Nat))) := Sh.reads_first HG1.out HG2.out (by rw [Array.getElem?_toList]; exact Array.getElem?_eq_getElem ha2) hn
          obtain ⟨m, hm⟩ : ∃ m : Nat, n * b[a2].toNat = m := ⟨_, rfl⟩
          have hm1 : m ≤ 65536 := by rw [← hm]; exact Nat.le_trans (Nat.mul_le_mul hn2 (Nat.le_of_lt hy)) (by decide)
          have hmul : (n2 - n1) * (b[a2].toNat : Int) = (m : Int) := by rw [hn, ← hm]; simp
          obtain ⟨q, hq⟩ : ∃ q : Nat, (m + 7) / 8 = q := ⟨_, rfl⟩
          have hq1 : q ≤ 8200 := by omega
          have hdiv : ((m : Int) + 7) / 8 = (q : Int) := by omega
          rw [hm, hq] at HFST
          have HNN : Hid (n2 - n1 = (n : Int)) := hn
          clear hm hq hn k1 k2 hx
          go_wp2_with fail
          refine Calls.mono HM.out ?_
          rintro e w4 ⟨rfl, hb4⟩
          have RX4 : Hid (w4.heap[w.heap.size]? = some (.cells #[.int .i64 0, .int .i64 0, .slice none 0 0] 26 (0, 0))) := blk_later RX3.out hb4
          have SX4 : Hid (w4.heap[wa.heap.size]? = some (.cells #[.int .i64 n1, .int .i64 n2, .slice none 0 0] 26 (0, 0))) := blk_later SX3.out hb4
          have HW4 : Hid (wa.heap.size + 1 ≤ w4.heap.size) := (Array.getElem?_eq_some_iff.1 SX4.out).1
          have HRA : Hid (w.heap.size < wa.heap.size) := by rw [Hid]; omega
          replace hb4 : Hid (Below w.heap.size w w4) := bnext hb3.out hb4
          clear HM r0 r1 r2 r3 r4 r5 g0 g1 h0 h1 h3 h4 hw3 hRS SX3 RX3 hb3 HP HAT
          go_wp2_with fail
          clear hdiv hmul hm1 hq1 hy
          go_loopw [6, 10] (fun at_ i wr => ∃ (O : List (List Int)) (x vv : Int), O.length ≤ n ∧ at_ = .int .i64 x ∧ i = .int .i64 vv ∧ Hid (n1 + (O.length : Int) = vv) ∧ Hid (Sh.Reads b.data.toList (n1, n2) O x) ∧ Hid (FitS O) ∧ Hid (∃ ov xs, wr.heap[wa.heap.size]? = some (.cells #[.int .i64 n1, .int .i64 n2, ov] 26 (0, 0)) ∧ Rws wr (wa.heap.size + 1) ov xs O) ∧ Hid (Below wa.heap.size w4 wr)) (fun _ i _ => n - (intOf i - n1).toNat)
          case atStart => exact ⟨[], _, n1, Nat.zero_le _, rfl, rfl, by simp [Hid], HFST.out, ⟨by simp, fun l hl => by simp at hl⟩, ⟨_, _, SX4.out, Rws.nil _ _⟩, Below.refl _ _⟩
          case round =>
            obtain ⟨O, x, vv, hO, rfl, rfl, HVV, HRD, HFO, HST, HB⟩ := hrel
            obtain ⟨wo, rfl⟩ : ∃ wo, wo = wr := ⟨wr, rfl⟩
            obtain ⟨ov, xs, hov, hrw⟩ := HST.out
            have HRW : Hid (Rws wo (wa.heap.size + 1) ov xs O) := hrw
            have HOV : Hid (wo.heap[wa.heap.size]? = some (.cells #[.int .i64 n1, .int .i64 n2, ov] 26 (0, 0))) := hov
            have HRX : Hid (wo.heap[w.heap.size]? = some (.cells #[.int .i64 0, .int .i64 0, .slice none 0 0] 26 (0, 0))) := blk_below RX4.out HB.out HRA.out
            have HBW : Hid (Below w.heap.size w wo) := hb4.out.trans (HB.out.mono (Nat.le_of_lt HRA.out))
            clear hov hrw HST
            by_cases hlt : O.length < n
            · have hd0 : decide (vv < n2) = true := by have := HVV.out; have := HNN.out; simp; omega
              have hvb : 0 ≤ vv ∧ vv < 256 := by have := HVV.out; have := HNN.out; omega
              have HOL : Hid ((O.length : Int) < n2 - n1) := by have := HNN.out; rw [Hid]; omega
              go_wp2_with fail
              refine (rdecode_own b x wo (by omega)).mono ?_
              rintro e w5 ⟨v, nx, er, rfl, HT, hb5⟩
              cases hd : Gp.dec b.data.toList x with
              | none =>
                rw [hd] at HT
                obtain ⟨rfl, rfl, rfl⟩ := HT
                have HN : Hid (Sh.decE b.data.toList = 10 ∧ Sh.decS b.data.toList = Sh.none_) := HNO.out (Sh.reads_stop HRD.out HOL.out hd)
                obtain ⟨q0, q1, q2, q3, q4, q5⟩ := three_cells (blk_later HRX.out hb5)
                have HB5 : Hid (Below w.heap.size w w5) := bnext HBW.out hb5
                clear hb5 hd
                go_wp2
                refine bodyPost_ret (v := .tuple #[.agg #[.int .i64 0, .int .i64 0, .slice none 0 0], .int .i64 10]) ?rw rfl ⟨_, by rw [HN.out.1], by rw [HN.out.2]; exact ⟨_, rfl, lists_nil _⟩, ?bw⟩
                case rw =>
                  rw [results_cell_tmp rfl]
                  go_simp
                case bw => exact ((HB5.out.setCell (Nat.le_refl _) _).setCell (Nat.le_refl _) _).setCell (Nat.le_refl _) _
              | some lx =>
                obtain ⟨l, x'⟩ := lx
                rw [hd] at HT
                obtain ⟨⟨mm, hown⟩, e1, e2⟩ := HT
                obtain ⟨-, -, g3, -, -, -, -, g8⟩ := Gp.enc_dec _ _ _ _ hd
                have hl6 : l.length ≤ 1000000 := by omega
                have HRD2 : Hid (Sh.Reads b.data.toList (n1, n2) (O ++ [l]) x') := Sh.reads_step HRD.out HOL.out hd
                have HFO2 : Hid (FitS (O ++ [l])) := ⟨by simp; omega, fun q hq => by
                  rcases List.mem_append.1 hq with h | h
                  · exact HFO.out.2 q h
                  · obtain rfl := List.mem_singleton.1 h
                    exact ⟨hl6, g3⟩⟩
                have HOL2 : Hid ((O ++ [l]).length = O.length + 1) := by simp [Hid]
                subst e1 e2
                have HIN : Hid (Ints w5 v l) := Ints.of_own hown
                have HVO : Hid (∀ k, v.ownBlock = some k → wo.heap.size ≤ k ∧ k < w5.heap.size) := fun k hk => hown.lt k hk
                obtain ⟨va, vc, rfl, _⟩ := id HIN.out
                have HGR : Hid (wa.heap.size + 1 ≤ wo.heap.size) := Nat.le_trans HW4.out HB.out.size
                obtain ⟨wq, hwq⟩ : ∃ wq, w5.alloc (.cells #[.slice va l.length vc] 58) = wq := ⟨_, rfl⟩
                have hbq : Below w5.heap.size w5 wq := by rw [← hwq]; exact (Below.refl _ w5).alloc (Nat.le_refl _) _
                have HBQ : Hid (Below wo.heap.size wo wq) := bnext hb5 hbq
                have HNEW : Hid (wq.heap[w5.heap.size]? = some (.cells #[.slice va l.length vc] 58 (0, 0))) := by rw [Hid, ← hwq]; exact heap_alloc_new _ _
                have HRQ : Hid (Rws wq (wa.heap.size + 1) ov xs O) := HRW.out.later HBQ.out
                have HXI : Hid (Ints wq (.slice va l.length vc) l) := HIN.out.later hbq
                have HXO : Hid (∀ k, (Value.slice va l.length vc).ownBlock = some k → wa.heap.size + 1 ≤ k ∧ k < wq.heap.size ∧ ov.ownBlock ≠ some k) := fun k hk => by
                  have h1 := HVO.out k hk
                  have h2 := hbq.size
                  have h3 := HGR.out
                  refine ⟨by omega, by omega, fun e => ?_⟩
                  have := (HRW.out.own.lt k e).2
                  omega
                have HSQ : Hid (wq.heap[wa.heap.size]? = _) := blk_later HOV.out HBQ.out
                have HSZ : Hid (wa.heap.size + 1 ≤ wq.heap.size) := Nat.le_trans HGR.out HBQ.out.size
                have hxl : xs.length ≤ 256 := by have := HRW.out.len; omega
                obtain ⟨t0, t1, t2, _, _, _⟩ := three_cells (blk_later HOV.out hb5)
                obtain ⟨z0, z1, z2, _, _, _⟩ := three_cells HSQ.out
                clear hbq hown hd hb5 g3 g8 HVO
                go_wp2_with (at_builtin; refine wpList_append_own_at _ rfl _ _ 24 rfl (wa.heap.size + 1) 58 i0 (.slice none 0 0) 1 24 Tryz.underlying24 hi0 hz0 hz1 hz2 rfl (by decide) ov xs.length xs rfl HRQ.out.own ⟨w5.heap.size, 0, none⟩ 1 1 [.slice va l.length vc] rfl rfl (World.news_of_block (cs := #[.slice va l.length vc]) (t := 58) (fr := (0, 0)) HNEW.out) (by simp [Value.oneCell']) (by unfold maxLen; omega) (by omega) HSZ.out ?_
                             intro v' w7 hown hgrow _ hat
                             obtain ⟨g7, c7, rfl, _, _⟩ := hown.form (by omega)
                             have HS7 : Hid (w7.heap[wa.heap.size]? = _) := (hgrow.block _ (by have := HSZ.out; omega) (fun e => by have := (HRQ.out.own.lt _ e.symm).1; omega)).trans HSQ.out
                             have HR7 : Hid (Rws w7 (wa.heap.size + 1) _ _ (O ++ [l])) := HRQ.out.push HXI.out HXO.out hown hgrow hat
                             have HB7 : Hid (Below wa.heap.size w4 w7) := (HB.out.trans (HBQ.out.mono (by have := HGR.out; omega))).grown hgrow (by have := HSZ.out; omega) (fun k e => by have := (HRQ.out.own.lt k e).1; omega)
                             obtain ⟨_, _, y2, _, _, f2⟩ := three_cells HS7.out
                             clear hown hgrow hat)
                have HR8 : Hid (Rws (w7.setCell ⟨wa.heap.size, 2, none⟩ (.slice (some ⟨g7, 0, none⟩) (xs.length + 1) c7)) (wa.heap.size + 1) (.slice (some ⟨g7, 0, none⟩) (xs.length + 1) c7) (xs ++ [.slice va l.length vc]) (O ++ [l])) := HR7.out.turn (oth_set _ _ _ _) (Nat.lt_succ_self _)
                have HS8 : Hid ((w7.setCell ⟨wa.heap.size, 2, none⟩ (.slice (some ⟨g7, 0, none⟩) (xs.length + 1) c7)).heap[wa.heap.size]? = some (.cells #[.int .i64 n1, .int .i64 n2, .slice (some ⟨g7, 0, none⟩) (xs.length + 1) c7] 26 (0, 0))) := blk_set HS7.out
                have HV8 : Hid (n1 + ((O ++ [l]).length : Int) = vv + 1) := by have := HVV.out; have := HOL2.out; rw [Hid]; omega
                have HB8 : Hid (Below wa.heap.size w4 (w7.setCell ⟨wa.heap.size, 2, none⟩ (.slice (some ⟨g7, 0, none⟩) (xs.length + 1) c7))) := HB7.out.setCell (Nat.le_refl _) _
                go_roundw
                case rel => exact ⟨O ++ [l], _, vv + 1, by have := HOL2.out; omega, rfl, by go_num, HV8, HRD2, HFO2, ⟨_, _, HS8.out, HR8.out⟩, HB8⟩
                case measure => have := HVV.out; simp [intOf]; omega
            · obtain rfl : O.length = n := by omega
              have hd0 : decide (vv < n2) = false := by have := HVV.out; have := HNN.out; simp; omega
              obtain ⟨t0, t1, t2, _, _, _⟩ := three_cells HOV.out
              have hxl : xs.length = O.length := HRW.out.len
              obtain ⟨g7, c7, hov7, _, _⟩ := HRW.out.own.form (by omega)
              subst hov7
              have HEN := srenc_any ((n1, n2), O) (.slice (some ⟨g7, 0, none⟩) xs.length c7) wo HRW.out.lists HFO.out
              unfold scells at HEN
              dsimp only at HEN
              have HEND : Hid (∀ s, Sh.may s = true → Sh.enc s = b.data.toList → s = ((n1, n2), O)) := Sh.reads_end HRD.out (by have := HNN.out; dsimp only; omega)
              clear hxl
              cases hmy : Sh.may ((n1, n2), O) with
              | false =>
                rw [Sh.chk_no (by rw [hmy]; simp)] at HEN
                have HN : Hid (Sh.decE b.data.toList = 10 ∧ Sh.decS b.data.toList = Sh.none_) := HNO.out fun s h5 h6 => by rw [HEND.out s h5 h6, hmy] at h5; cases h5
                generalize Sh.encS ((n1, n2), O) = r at *
                replace HEN : Hid _ := HEN
                clear hmy
                go_wp2_with fail
                refine Calls.mono HEN.out ?_
                rintro e w6 ⟨rfl, hb6⟩
                obtain ⟨q0, q1, q2, q3, q4, q5⟩ := three_cells (blk_later HRX.out hb6)
                have HB6 : Hid (Below w.heap.size w w6) := bnext HBW.out hb6
                clear hb6 HEN
                go_wp2
                refine bodyPost_ret (v := .tuple #[.agg #[.int .i64 0, .int .i64 0, .slice none 0 0], .int .i64 10]) ?rw rfl ⟨_, by rw [HN.out.1], by rw [HN.out.2]; exact ⟨_, rfl, lists_nil _⟩, ?bw⟩
                case rw =>
                  rw [results_cell_tmp rfl]
                  go_simp
                case bw => exact ((HB6.out.setCell (Nat.le_refl _) _).setCell (Nat.le_refl _) _).setCell (Nat.le_refl _) _
              | true =>
                rw [Sh.chk_yes hmy, Sh.encS_enc hmy] at HEN
                by_cases he : Sh.enc ((n1, n2), O) = b.data.toList
                · have HD : Hid (Sh.decE b.data.toList = 0 ∧ Sh.decS b.data.toList = ((n1, n2), O)) := by rw [← he]; exact Sh.dec_told_yes hmy
                  rw [he, show (⟨b.data.toList.toArray⟩ : ByteArray) = b by simp] at HEN
                  replace HEN : Hid _ := HEN
                  clear hmy he
                  go_wp2_with fail
                  refine Calls.mono HEN.out ?_
                  rintro e w6 ⟨rfl, hb6⟩
                  obtain ⟨q0, q1, q2, q3, q4, q5⟩ := three_cells (blk_later HRX.out hb6)
                  obtain ⟨z0, z1, z2, _, _, _⟩ := three_cells (blk_later HOV.out hb6)
                  have HB6 : Hid (Below w.heap.size w w6) := bnext HBW.out hb6
                  have HR6 : Hid (Rws w6 (wa.heap.size + 1) (.slice (some ⟨g7, 0, none⟩) xs.length c7) xs O) := HRW.out.later hb6
                  have HPG : Hid (w.heap.size < wa.heap.size + 1) := Nat.lt_succ_of_lt HRA.out
                  clear hb6 HEN
                  go_wp2
                  refine bodyPost_ret (v := .tuple #[.agg #[.int .i64 n1, .int .i64 n2, .slice (some ⟨g7, 0, none⟩) xs.length c7], .int .i64 0]) ?rw rfl ⟨_, by rw [HD.out.1], by rw [HD.out.2]; exact ⟨_, rfl, (((HR6.out.turn (oth_set _ _ _ _) HPG.out).turn (oth_set _ _ _ _) HPG.out).turn (oth_set _ _ _ _) HPG.out).lists⟩, ?bw⟩
                  case rw =>
                    rw [results_cell_tmp rfl]
                    go_simp
                  case bw => exact ((HB6.out.setCell (Nat.le_refl _) _).setCell (Nat.le_refl _) _).setCell (Nat.le_refl _) _
                · have HN : Hid (Sh.decE b.data.toList = 10 ∧ Sh.decS b.data.toList = Sh.none_) := HNO.out fun s h5 h6 => by
                    have h7 := HEND.out s h5 h6
                    subst h7
                    exact he h6
                  have hne : ((ByteArray.toList ⟨(Sh.enc ((n1, n2), O)).toArray⟩) == b.toList) = false := by
                    rw [ByteArray.toList_eq, ByteArray.toList_eq]
                    simpa using he
                  generalize (⟨(Sh.enc ((n1, n2), O)).toArray⟩ : ByteArray) = f at *
                  replace HEN : Hid _ := HEN
                  clear hmy he
                  go_wp2_with fail
                  refine Calls.mono HEN.out ?_
                  rintro e w6 ⟨rfl, hb6⟩
                  obtain ⟨q0, q1, q2, q3, q4, q5⟩ := three_cells (blk_later HRX.out hb6)
                  have HB6 : Hid (Below w.heap.size w w6) := bnext HBW.out hb6
                  clear hb6 HEN
                  go_wp2
                  refine bodyPost_ret (v := .tuple #[.agg #[.int .i64 0, .int .i64 0, .slice none 0 0], .int .i64 10]) ?rw rfl ⟨_, by rw [HN.out.1], by rw [HN.out.2]; exact ⟨_, rfl, lists_nil _⟩, ?bw⟩
                  case rw =>
                    rw [results_cell_tmp rfl]
                    go_simp
                  case bw => exact ((HB6.out.setCell (Nat.le_refl _) _).setCell (Nat.le_refl _) _).setCell (Nat.le_refl _) _

end Go.Proofs.YtbhngncnhabbkaaGreat
