/- THE STATEMENT ShardsAll: the shards of all parts have all edges of a normal list, in order, and each of them its own alone. For every two bytes and every list of pairs; of more than 400 pairs nothing is asked. -/
import Derived.Test.YtbhngncnhabbkaaGreatHApp
namespace Go.Proofs.YtbhngncnhabbkaaGreat
open Go.ChangeShapes Go.WideShapes Go.ChangeAt Go.RowKit Go.Deep
open Go.ChangeMaps (open_string shut_string)

set_option maxHeartbeats 4000000 in
set_option maxRecDepth 100000 in
theorem shardsAll_walk (n k : Nat) (v : Value) (l : List (Nat × Nat)) (w : World) (hn : n < 256) (hk : k < 256) (h : Prs w v l) (hs : Small l) (_hl : l.length ≤ 9223372036854775807) :
    Calls Tryz.prog 6 #[.int .u8 n, .int .u8 k, v] w fun e w' => e = .returned (.bool true) ∧ Below w.heap.size w w' := by
  by_cases hl4 : 400 < l.length
  · obtain ⟨va, vc, rfl, _, _⟩ := id h
    clear h hs
    generalize l.length = m at *
    go_enter Tryz.func6, Tryz.ntmps6
    go_wp2
    go_ret
    exact ⟨rfl, Below.refl _ _⟩
  obtain ⟨N, hN, hN1, hN2⟩ : ∃ N : Nat, (2 : Int) + (n : Int) % 255 = (N : Int) ∧ 2 ≤ N ∧ N ≤ 256 := ⟨2 + n % 255, by omega, by omega, by omega⟩
  obtain ⟨m, hm, hm1, hm2, hm3⟩ : ∃ m : Nat, min (N : Int) 16 = (m : Int) ∧ 1 ≤ m ∧ m ≤ 16 ∧ m ≤ N := ⟨min N 16, by omega, by omega, by omega, by omega⟩
  obtain ⟨r, hr, hr1⟩ : ∃ r : Nat, (k : Int) % (m : Int) = (r : Int) ∧ r < m := ⟨k % m, by simp, Nat.mod_lt _ (by omega)⟩
  obtain ⟨K, hK, hK1, hK2, hK3⟩ : ∃ K : Nat, (1 : Int) + (r : Int) = (K : Int) ∧ 1 ≤ K ∧ K ≤ 16 ∧ K ≤ N := ⟨1 + r, by omega, by omega, by omega, by omega⟩
  have hgd := part_guard
  have HSO := some_any N v l w hN1 hN2 h hs (by omega)
  have hmany : Ed.many (N : Int) = true := by simp [Ed.many]; omega
  have hlen : (someE N l).length ≤ 400 := by rw [someE_len]; omega
  have hnl := Ed.nrm_len (someE N l)
  have hnor : Ed.nor (N : Int) (someE N l) = (Ed.nrm (someE N l), 0) := nor_yes hmany (some_good hN1 l) (by omega)
  have HNO : Hid (∀ W u, Edg W u (someE N l) → Calls Tryz.prog 20 #[.int .i64 N, u] W fun e w' => ∃ u, e = .returned (.tuple #[u, .int .i64 0]) ∧ Edg w' u (Ed.nrm (someE N l)) ∧ Below W.heap.size W w') := fun W u hE => by
    have := normal_any u (someE N l) N W hE (by omega)
    rwa [hnor] at this
  have HLL : Hid ((Ed.nrm (someE N l)).length ≤ 400) := Nat.le_trans hnl hlen
  have HOK : Hid (∀ p, Sh.mayP p = true → Sh.may (Sh.mk (Ed.nrm (someE N l)) p) = true) := fun p hp => Sh.mk_may hp (fun x hx => (Sh.nrm_of_some hN1 hN2 l x hx).2) (by omega)
  have HALL : Hid (Sh.allE (Ed.nrm (someE N l)) N K K = Ed.nrm (someE N l)) := Sh.allE_all hK1 hK3 hN2 (Ed.nrm_rising _) (fun x hx => (Sh.nrm_of_some hN1 hN2 l x hx).1)
  have HAL : Hid (∀ j, j ≤ K → (Sh.allE (Ed.nrm (someE N l)) N K j).length ≤ 400) := fun j hj => by
    rw [Sh.allE_cut _ hK1 hK3 hN2 j hj]
    exact Nat.le_trans (Sh.cutE_len _ _ _) HLL.out
  have HMK : Hid (∀ W u p, Sh.mayP p = true → Edg W u (Ed.nrm (someE N l)) → Calls Tryz.prog 23 #[u, .agg #[.int .i64 p.1, .int .i64 p.2]] W fun e w' => ∃ x, e = .returned (.agg (scells (Sh.mk (Ed.nrm (someE N l)) p) x)) ∧ ListsF W.heap.size w' x (Sh.mk (Ed.nrm (someE N l)) p).2 ∧ Below W.heap.size W w') := fun W u p hp hE => by
    have := Sh.mayP_iff.1 hp
    exact smakeF_any u _ p W hE (by omega) ⟨⟨by omega, by omega⟩, by omega, by omega⟩
  generalize someE N l = E at *
  generalize Ed.nrm E = L at *
  have HCU : Hid (∀ W, Calls Tryz.prog 22 #[.int .i64 N, .int .i64 K] W fun e w' => ∃ u, e = .returned (.tuple #[u, .int .i64 0]) ∧ w'.ownsRow W.heap.size 23 2 u K (pcells (Pt.cuts N K)) ∧ Below W.heap.size W w') := fun W => by
    have := cut_any N K W
    rw [cut_yes (by unfold Pt.can Pt.many; simp; omega)] at this
    dsimp only at this
    rwa [Pt.cuts_len] at this
  have HGE : Hid (∀ i, i < K → (Pt.cuts N K).getD i p0 = Pt.one N K i) := fun i hi1 => Pt.cuts_get hi1
  have HCL : Hid ((Pt.cuts N K).length = K) := Pt.cuts_len N K
  have HMP : Hid (∀ i, i < K → Sh.mayP (Pt.one N K i) = true) := fun i hi1 => Sh.one_may hK1 hK3 hN2 hi1
  have HDO : Hid (∀ W, Calls Tryz.prog 18 #[] W fun e w' => e = .returned (.bool true) ∧ Below W.heap.size W w') := fun W => sdoes_any W
  generalize Pt.cuts N K = C at *
  replace HSO : Hid _ := HSO
  have hK0 : ¬ (K = 0) := by omega
  clear hs hnor hmany hr1 hm3 hlen hnl
  obtain ⟨va, vc, rfl, _, _⟩ := id h
  clear h
  generalize l.length = vl at *
  go_enter Tryz.func6, Tryz.ntmps6
  go_wp2_with fail
  refine Calls.mono HSO.out ?_
  rintro e w1 ⟨u1, rfl, hu1, hb1⟩
  have HB1 : Hid (Below w.heap.size w w1) := hb1
  have HNO1 : Hid _ := HNO.out w1 u1 (Edg.of_own hu1)
  clear hu1 hb1 HSO HNO
  go_wp2_with fail
  refine Calls.mono HNO1.out ?_
  rintro e w2 ⟨u2, rfl, hu2, hb2⟩
  have HB2 : Hid (Below w.heap.size w w2) := bnext HB1.out hb2
  have HE2 : Hid (Edg w2 u2 L) := hu2
  have HCU2 : Hid _ := HCU.out w2
  clear hu2 hb2 HNO1 HCU HB1
  go_wp2_with fail
  refine Calls.mono HCU2.out ?_
  rintro e w3 ⟨u3, rfl, hu3, hb3⟩
  have HB3 : Hid (Below w.heap.size w w3) := bnext HB2.out hb3
  replace HE2 : Hid (Edg w3 u2 L) := HE2.out.later hb3
  have hp3 : Prt w3 u3 C := Prt.of_own hu3
  obtain ⟨g, cap, rfl, _, _⟩ := hu3.form (by omega)
  have HPC : Hid (∀ i, i < K → w3.cell? ⟨g, i * 2, none⟩ = some (.int .i64 (Pt.one N K i).1) ∧ w3.cell? ⟨g, i * 2 + 1, none⟩ = some (.int .i64 (Pt.one N K i).2)) := fun i hi1 => by
    obtain ⟨a', cap', e, _, h⟩ := hp3
    rcases h with h | ⟨b', off', rfl, h⟩
    · have := congrArg List.length h
      rw [HCL.out] at this
      have : K = 0 := this
      omega
    · simp only [Value.slice.injEq, Option.some.injEq, Addr.mk.injEq, and_true] at e
      obtain ⟨⟨rfl, rfl⟩, _⟩ := e
      have := h i (by rw [HCL.out]; exact hi1)
      rw [HGE.out i hi1, Nat.zero_add] at this
      exact this
  clear hu3 hb3 HCU2 hp3 hN hm hr hK HB2 HGE HCL
  obtain ⟨au2, cu2, rfl, _, _⟩ := id HE2.out
  go_wp2_with fail
  go_loopw [12, 13] (fun u i wr => ∃ j : Nat, j ≤ K ∧ i = .int .i64 j ∧ Hid (wr.ownsRow w3.heap.size 56 2 u (Sh.allE L N K j).length (ecells (Sh.allE L N K j))) ∧ Hid (Below w3.heap.size w3 wr)) (fun _ i _ => K - (intOf i).toNat)
  case atStart => exact ⟨0, Nat.zero_le _, rfl, World.ownsRow_nil _ _ _ _, Below.refl _ _⟩
  case round =>
    obtain ⟨j, hj, rfl, HO, HB⟩ := hrel
    by_cases hlt : j < K
    · have HMPj : Hid _ := HMP.out j hlt
      obtain ⟨c1, c2⟩ := HPC.out j hlt
      have HSUC : Hid (Sh.allE L N K (j + 1) = Sh.allE L N K j ++ Sh.eds (Sh.mk L (Pt.one N K j))) := Sh.allE_succ L N K j
      have HAL1 : Hid ((Sh.allE L N K (j + 1)).length ≤ 400) := HAL.out (j + 1) hlt
      have HIN : Hid (∀ x ∈ Sh.eds (Sh.mk L (Pt.one N K j)), (Pt.one N K j).1 ≤ x.1 ∧ x.1 < (Pt.one N K j).2) := Sh.eds_in L HMPj.out
      have HP1 : Hid ((Sh.mk L (Pt.one N K j)).1 = Pt.one N K j) := Sh.mk_part L HMPj.out
      have HOKj : Hid _ := HOK.out _ HMPj.out
      generalize Pt.one N K j = q at *
      obtain ⟨q1, q2⟩ := q
      dsimp only at c1 c2
      have HMK3 : Hid _ := HMK.out wr _ (q1, q2) HMPj.out (HE2.out.later HB.out)
      generalize Sh.mk L (q1, q2) = s at *
      have C1 : Hid _ := c1
      have C2 : Hid _ := c2
      replace c1 := cell_after HB.out c1
      replace c2 := cell_after HB.out c2
      generalize Sh.allE L N K j = A at *
      generalize hA1 : Sh.allE L N K (j + 1) = A1 at *
      have HA1 : Hid (Sh.allE L N K (j + 1) = A1) := hA1
      clear hA1
      have HED : Hid (∀ W x, Lists W x s.2 → Calls Tryz.prog 16 #[.agg (scells s x)] W fun e w' => ∃ u, e = .returned u ∧ w'.ownsRow W.heap.size 56 2 u (Sh.eds s).length (ecells (Sh.eds s)) ∧ Below W.heap.size W w') := fun W x hx => by
        have := Sh.may_iff.1 HOKj.out
        exact reds_any s x W hx (Sh.may_fit HOKj.out).1.1 (by omega)
      have HCK : Hid (∀ W x, Lists W x s.2 → Calls Tryz.prog 12 #[.agg (scells s x)] W fun e w' => e = .returned (.int .i64 0) ∧ Below W.heap.size W w') := fun W x hx => by
        have hf := Sh.may_fit HOKj.out
        have := schk_any s x W hx hf.1 hf.2
        rwa [Sh.chk_yes HOKj.out] at this
      generalize Sh.eds s = D at *
      obtain ⟨p, o⟩ := s
      obtain rfl : p = (q1, q2) := HP1.out
      clear HMP HMPj HAL HALL HOK HMK HP1 HOKj
      unfold scells at HMK3 HED HCK
      dsimp only at HMK3 HED HCK
      have hne : ∀ w, Sem.run Tryz.prog (binOp .neq 23 (.agg #[.int .i64 q1, .int .i64 q2]) (.agg #[.int .i64 q1, .int .i64 q2])) w = .ok (.bool false) w := fun w => by
        have := part_neq (q1, q2) (q1, q2) w
        simpa using this
      go_wp2_with fail
      refine Calls.mono HMK3.out ?_
      rintro e w4 ⟨x, rfl, hx, hb4⟩
      have hx := hx.lists
      obtain ⟨xa, xc, rfl, _, _⟩ := id hx
      obtain ⟨w5, hw5⟩ : ∃ w5, w4.alloc (.cells #[.int .i64 q1, .int .i64 q2, .slice xa o.length xc] 26) = w5 := ⟨_, rfl⟩
      have hb45 : Below w4.heap.size w4 w5 := by rw [← hw5]; exact (Below.refl _ w4).alloc (Nat.le_refl _) _
      have HS : Hid (w5.heap[w4.heap.size]? = some (.cells #[.int .i64 q1, .int .i64 q2, .slice xa o.length xc] 26 (0, 0))) := by rw [Hid, ← hw5]; exact heap_alloc_new _ _
      have HX : Hid (Lists w5 (.slice xa o.length xc) o) := hx.later hb45
      have HB5 : Hid (Below wr.heap.size wr w5) := bnext hb4 hb45
      obtain ⟨s0, s1, s2, _, _, _⟩ := three_cells HS.out
      have HED5 : Hid _ := HED.out w5 _ HX.out
      clear hx hb4 hb45 HMK3 HED
      go_wp2_with fail
      refine Calls.mono HED5.out ?_
      rintro e w6 ⟨ue, rfl, hue, hb6⟩
      have HUE : Hid (Edg w6 ue D) := Edg.of_own hue
      have HB6 : Hid (Below wr.heap.size wr w6) := bnext HB5.out hb6
      have HB36 : Hid (Below w3.heap.size w3 w6) := bnext HB.out HB6.out
      obtain ⟨s0, s1, s2, _, _, _⟩ := three_cells (blk_later HS.out hb6)
      have HCK6 : Hid (∀ y : Later w6, Calls Tryz.prog 12 #[.agg #[.int .i64 q1, .int .i64 q2, .slice xa o.length xc]] y.world fun e w' => e = .returned (.int .i64 0) ∧ Below y.world.heap.size y.world w') := fun y =>
        HCK.out y.world _ ((HX.out.later hb6).later y.below)
      have l0 := Later.cell s0
      have l1 := Later.cell s1
      have l2 := Later.cell s2
      have lc1 := Later.cell (cell_after HB36.out C1.out)
      have lc2 := Later.cell (cell_after HB36.out C2.out)
      have hsome := Later.some w6
      clear hue hb6 HED5 HCK HS HX HB5 c1 c2
      go_wp2_with fail
      refine wp_region_later (by kernel_rfl) (by kernel_rfl) ?_
      repeat (go_big_quiet_step ((go_at_call 12; exact Later.made (HCK6.out _))))
      refine wpQuiet_nil ?_
      intro w7 hw7
      obtain ⟨⟨w8, hb8⟩, rfl⟩ := hw7
      have HB8 : Hid (Below wr.heap.size wr w7) := bnext HB6.out hb8
      have HB38 : Hid (Below w3.heap.size w3 w7) := bnext HB.out HB8.out
      replace HUE : Hid (Edg w7 ue D) := HUE.out.later hb8
      clear l0 l1 l2 lc1 lc2 hsome s0 s1 s2 hb8 HB6 HB36 HCK6
      have hDl : D.length ≤ 400 := by
        have h1 := HAL1.out
        rw [HSUC.out, List.length_append] at h1
        omega
      obtain ⟨ea, ec, rfl, _, _⟩ := id HUE.out
      go_wp2_with fail
      go_loopw [16] (fun i wr => ∃ d : Nat, d ≤ D.length ∧ i = .int .i64 d ∧ Hid (Below w7.heap.size w7 wr)) (fun i _ => D.length - (intOf i).toNat)
      case atStart => exact ⟨0, Nat.zero_le _, rfl, Below.refl _ _⟩
      case round =>
        obtain ⟨d, hd, rfl, HBq⟩ := hrel
        have HB3q : Hid (Below w3.heap.size w3 wr) := bnext HB38.out HBq.out
        by_cases hltd : d < D.length
        · have hcd := HUE.out
          obtain ⟨ea', ec', he, _, hcd⟩ := hcd
          simp only [Value.slice.injEq, true_and] at he
          obtain ⟨rfl, rfl⟩ := he
          obtain ⟨b, off, rfl, hcc⟩ := hcd.resolve_left (by rintro rfl; simp at hltd)
          have e1 := Later.cell (cell_after HBq.out (hcc d hltd).1)
          have f1 := Later.cell (cell_after HB3q.out C1.out)
          have f2 := Later.cell (cell_after HB3q.out C2.out)
          have hsome := Later.some wr
          have hin := HIN.out (D.getD d e0) (by rw [List.getD_eq_getElem?_getD, List.getElem?_eq_getElem hltd]; exact List.getElem_mem hltd)
          clear hcd hcc
          generalize (D.getD d e0).1 = z at *
          have hd1 : decide (z < q1) = false := by have := hin.1; simp; omega
          have hd2 : decide (q2 ≤ z) = false := by have := hin.2; simp; omega
          clear hin
          go_wp2_with fail
          refine wp_region_later (by kernel_rfl) (by kernel_rfl) ?_
          repeat (go_big_quiet_step (fail))
          refine wpQuiet_nil ?_
          intro w9 hw9
          obtain ⟨⟨w10, hb10⟩, rfl⟩ := hw9
          have HBR : Hid (Below w7.heap.size w7 w9) := bnext HBq.out hb10
          go_wp2
          go_roundw
          case rel => exact ⟨d + 1, by omega, by go_num, HBR⟩
          case measure => simp [intOf]; omega
        · obtain rfl : d = D.length := by omega
          have HOq : Hid (wr.ownsRow w3.heap.size 56 2 u12 A.length (ecells A)) := own_later HO.out (bnext HB8.out HBq.out)
          have HUq : Hid (Edg wr (.slice ea D.length ec) D) := HUE.out.later HBq.out
          have hA1 : A.length + D.length ≤ 400 := by
            have h1 := HAL1.out
            rw [HSUC.out, List.length_append] at h1
            exact h1
          go_wp2_with (at_builtin; refine wpList_append_all _ rfl _ _ rfl w3.heap.size _ A.length A rfl HOq.out (.slice ea D.length ec) D rfl HUq.out (by omega) HB3q.out.size ?_; intro v5 w9 hown9 hgrow9)
          have HO9 : Hid (w9.ownsRow w3.heap.size 56 2 v5 A1.length (ecells A1)) := by
            rw [Hid, HSUC.out, List.length_append]; exact hown9
          have HB9 : Hid (Below w3.heap.size w3 w9) := HB3q.out.grown hgrow9 HB3q.out.size (fun q e => (HOq.out.lt q e).1)
          clear hown9 hgrow9
          go_roundw
          case rel => exact ⟨j + 1, by omega, by go_num, by rw [HA1.out]; exact HO9, HB9⟩
          case measure => simp [intOf]; omega
    · obtain rfl : j = K := by omega
      have HO1 := HO.out
      rw [HALL.out] at HO1
      have HSM : Hid _ := same_edg u12 (.slice au2 L.length cu2) L L wr (Edg.of_own HO1) (HE2.out.later HB.out) (by have := HLL.out; omega) (by have := HLL.out; omega)
      rw [decide_eq_true rfl] at HSM
      clear HO1
      go_wp2_with fail
      refine Calls.mono HSM.out ?_
      rintro e w4 ⟨rfl, hb4⟩
      have HB4 : Hid (Below w.heap.size w w4) := bnext (bnext HB3.out HB.out) hb4
      clear hb4
      go_wp2_with fail
      refine Calls.mono (HDO.out _) ?_
      rintro e w5 ⟨rfl, hb5⟩
      have HB5 : Hid (Below w.heap.size w w5) := bnext HB4.out hb5
      clear hb5
      go_wp2
      go_ret
      exact ⟨rfl, HB5.out⟩

set_option maxRecDepth 100000 in
theorem shardsAll_lifted (os : Os) (started : os.Started) (H : Type) (enc : TypeId × Value → H) :
    ReturnsInHanded {} Tryz.checked os 6 .any (Rows.shardsAllSpec.pre6 enc Tryz.prog Tryz.f6 Rows.shardsAllRow.domain false) (Rows.shardsAllSpec.post enc Tryz.prog Tryz.f6 false true false false) := by
  refine returnsInHanded_of_change (C := Tryz.checked) Tryz.own started (by kernel_rfl) Tryz.func6
    (ChangeSpec.witness6 (enc := enc) (C := Tryz.checked) false ⟨#[], #[.int .u8 0, .int .u8 0, .slice none 0 0], []⟩ 8 (by kernel_rfl) (by kernel_rfl) (by kernel_rfl) (by kernel_rfl)) ?_
  intro W base args ds gs before hval0 hW hcnd _
  have hval : ∀ (j : Nat) t v, Tryz.f6.params[j]? = some t → args[j]? = some v → Value.okWide Tryz.prog W .any base t v := hval0
  have hW' := hW
  obtain ⟨p, q, hA0, hV, rfl, hfz, hnd⟩ := hW
  have hA : DataW.TrodAll enc Tryz.prog W 0 (fun _ => true) true Tryz.f6.params.toList args.toList ds p := hA0
  rw [Tryz.params6] at hA hval
  obtain ⟨v0, vs0, d0, ds0, p0, q0, hargs, rfl, rfl, h0, r0⟩ := trodAll_cons hA
  obtain ⟨v1, vs1, d1, ds1, p1, q1, rfl, rfl, rfl, h1, r1⟩ := trodAll_cons r0
  obtain ⟨v2, vs2, d2, ds2, p2, q2, rfl, rfl, rfl, h2, r2⟩ := trodAll_cons r1
  obtain ⟨rfl, rfl, rfl⟩ := trodAll_nil r2
  obtain rfl : args = #[v0, v1, v2] := by cases args; simp_all
  obtain ⟨rfl, rfl⟩ := trodVars_none hV
  obtain ⟨a0, rfl, rfl, rfl, w0⟩ := open_int Tryz.underlying5 (hval 0 5 v0 rfl rfl) h0
  obtain ⟨a1, rfl, rfl, rfl, w1⟩ := open_int Tryz.underlying5 (hval 1 5 v1 rfl rfl) h1
  obtain ⟨b0, rfl, c0⟩ := wf_u8 w0
  obtain ⟨b1, rfl, c1⟩ := wf_u8 w1
  have lt2 : ∀ x ∈ p2, x.block < W.heap.size := by obtain ⟨m, hm⟩ := h2; exact DataW.trod_lt m _ _ _ hm
  obtain ⟨l2, k2, s2, n2⟩ := open_pairs (hval 2 41 v2 rfl rfl) h2
  clear hA0 hval0
  refine (shardsAll_walk b0 b1 v2 l2 W c0 c1 k2 s2 n2).mono fun e W' ⟨he, bel⟩ => ?_
  subst he
  exact ⟨_, rfl, _, _, _, [], _, [], hW', trodAll_mk1 (shut_bool Tryz.underlying4 _), (trodAll_cons_mk (shut_int Tryz.underlying5 w0) (trodAll_cons_mk (shut_int Tryz.underlying5 w1) (trodAll_cons_mk (Below.trod Tryz.laidOut (by kernel_rfl) (of_decide_eq_true (by kernel_rfl)) h2 bel lt2) trodAll_mk0))), rfl, bel.frame _, fun h => by cases h⟩

theorem shardsAll_holds : Rows.ShardsAllSaid :=
  OpenClaim.holds_of_wide 6 Tryz.f6 rfl rfl rfl rfl rfl rfl rfl ⟨rfl, rfl, rfl, rfl, rfl⟩ rfl rfl rfl rfl rfl (by kernel_rfl) Tryz.func6 (by kernel_rfl)
    (of_decide_eq_true (by kernel_rfl)) (by unfold Func.isWrapper; first | (rw [if_pos (by decide +kernel)]; kernel_rfl) | (rw [if_neg (by decide +kernel)]; exact ⟨rfl, rfl⟩))
    (fun os started H enc _ => shardsAll_lifted os started H enc)

end Go.Proofs.YtbhngncnhabbkaaGreat
