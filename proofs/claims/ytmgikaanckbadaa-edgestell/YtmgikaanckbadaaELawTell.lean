/- EdgesTell: for every int, every slice of edges and every int the call returns true: the normal list of any edges, where any vertex's lead, how many begin and end at each, and all of them the other way about, are the document's; the list stays (P8.1 to P8.3). No conditions. -/
import Derived.Test.YtmgikaanckbadaaEOpen
import Derived.Test.YtmgikaanckbadaaERef3
import Derived.Laws.OwnMore
namespace Go.Proofs.Ytmgikaanckbadaa
open Go.ChangeShapes Go.WideShapes Go.ChangeAt Go.RowKit Go.Shelf Go.Sort Go.Lib

theorem nor_len (n : Int) (l : List (Int × Int)) (hl : l.length ≤ 1000000) : (Ed.nor n l).1.length ≤ 1000000 := by
  have := Ed.nrm_len l
  unfold Ed.nor
  split
  · simp
  · split
    · simp
    · split
      · simp
      · simpa using Nat.le_trans this hl
theorem degs_len (n : Int) (L : List Int) : (Ed.degs n L).length ≤ 1000000 := by
  unfold Ed.degs
  split
  · rename_i h
    simp [Ed.many] at h
    simp
    omega
  · simp
theorem ret_ints (l : List Int) : decide (l = l) = true := by simp

theorem ret_same (l : List (Int × Int)) : decide (l = l) = true := by simp

set_option maxHeartbeats 4000000 in
set_option maxRecDepth 100000 in
theorem edgesTell_none (cap : Nat) (n x : Int) (w : World) :
    Calls Try.prog 3 #[.int .i64 n, .slice none 0 cap, .int .i64 x] w fun e w' => e = .returned (.bool true) ∧ Below w.heap.size w w' := by
  obtain ⟨i0, hi0, hz0, hz1, hz2⟩ := info_parts Try.edgeInfo
  have HE : Hid (Edg w (.slice none 0 cap) []) := ⟨none, cap, rfl, Nat.zero_le _, .inl rfl⟩
  go_enter Try.func3, Try.ntmps3
  go_wp2_with (at_make; refine wpList_make_own _ rfl _ _ 22 rfl w.heap.size 24 i0 (.agg #[.int .i64 0, .int .i64 0]) 2 Try.underlying22 hi0 hz0 hz1 _ _ _ 1 rfl rfl (by simp) ?b2 ?b3 ?b4 ?_)
  case b2 => rw [hz2]; omega
  case b3 => unfold maxLen; omega
  case b4 => exact Nat.le_refl _
  intro w1 hown1 hgrow1
  have HB1 : Hid (Below w.heap.size w w1) := (Below.refl _ _).grown hgrow1 (Nat.le_refl _) (by simp)
  have HB2 : Hid (Below w.heap.size w w1) := HB1
  have HO2 : Hid (w1.ownsRow w.heap.size 24 2 (.slice (some ⟨w.heap.size, 0, none⟩) 0 1) 0 (ecells [])) := by
    exact hown1
  clear hown1 hgrow1
  go_wp2_with (at_builtin; refine wpList_append_fits _ rfl _ _ 22 rfl w.heap.size 24 i0 2 Try.underlying22 hi0 hz1 w.heap.size 0 1 _ rfl (HO2.out.alloc _) ⟨w1.heap.size, 0, none⟩ 1 1 [.int .i64 (-7), .int .i64 0] rfl rfl (cell_two_new _ _ _ _) (by simp [Value.oneCell']) (by omega) ?_)
  intro w3 hown3 hgrow3
  have HB3 : Hid (Below w.heap.size w w3) := (HB2.out.alloc HB2.out.size _).grown hgrow3 (by have := HB2.out.size; simp; omega) (fun q e => by cases e; exact Nat.le_refl _)
  have HO3 : Hid (w3.ownsRow w.heap.size 24 2 (.slice (some ⟨w.heap.size, 0, none⟩) 1 1) 1 (ecells ([] ++ [(-7, 0)]))) := by
    rw [Hid, ← ecells_snoc]; exact hown3
  clear hown3 hgrow3 HO2 HB2 HB1
  have IT : Hid (Edg w3 (.slice (some ⟨w.heap.size, 0, none⟩) 0 1) []) := edg_take HO3.out rfl rfl (Nat.le_succ _)
  have HL : Hid (w3.cell? ⟨w.heap.size, 0, none⟩ = some (.int .i64 (-7)) ∧ w3.cell? ⟨w.heap.size, 1, none⟩ = some (.int .i64 0)) := by
    obtain ⟨c1, c2, _, _⟩ := own_at HO3.out rfl (show 0 < 1 by omega)
    exact ⟨c1, c2⟩
  have HE3 : Hid (Edg w3 (.slice none 0 cap) []) := HE.out.later HB3.out
  clear HO3
  have P1 : Hid (∀ W, Edg W (.slice (some ⟨w.heap.size, 0, none⟩) 0 1) [] → Calls Try.prog 8 #[.int .i64 n, (.slice (some ⟨w.heap.size, 0, none⟩) 0 1)] W fun e w' => ∃ u, e = .returned (.tuple #[u, .int .i64 (Ed.nor n []).2]) ∧ Edg w' u (Ed.nor n []).1 ∧ Below W.heap.size W w') := fun W h => normal_any _ [] n W h (by decide)
  have P2 : Hid (∀ W, Edg W (.slice none 0 cap) [] → Calls Try.prog 9 #[.int .i64 n, (.slice none 0 cap)] W fun e w' => ∃ u, e = .returned (.tuple #[u, .int .i64 (Ed.nor n []).2]) ∧ Edg w' u (Ed.nor n []).1 ∧ Below W.heap.size W w') := fun W h => rnormal_any _ [] n W h (by decide)
  have PL : Hid ((Ed.nor n []).1.length ≤ 1000000) := nor_len n [] (by decide)
  generalize (Ed.nor n []).1 = N at *
  generalize (Ed.nor n []).2 = er at *
  go_wp2_with fail
  refine Calls.mono (P1.out _ IT.out) ?_
  rintro e w4 ⟨u1, rfl, hu1, hb4⟩
  replace hu1 : Hid (Edg w4 u1 N) := hu1
  have hx4 : Hid (Below w3.heap.size w3 w4) := hb4
  clear hb4
  go_wp2_with fail
  refine Calls.mono (P2.out _ (HE3.out.later hx4.out)) ?_
  rintro e w5 ⟨u2, rfl, hu2, hb5⟩
  replace hu2 : Hid (Edg w5 u2 N) := hu2
  replace hu1 : Hid (Edg w5 u1 N) := hu1.out.later hb5
  have hx5 : Hid (Below w3.heap.size w3 w5) := bnext hx4.out hb5
  clear hb5 hx4 P1 P2
  have heq : (er == er) = true := by simp
  go_wp2_with fail
  refine (same_edg u1 u2 N N _ hu1.out hu2.out (by have := PL.out; omega) (by have := PL.out; omega)).mono ?_
  rintro e w6 ⟨rfl, hb6⟩
  rw [ret_same]
  have hx6 : Hid (Below w3.heap.size w3 w6) := bnext hx5.out hb6
  clear hb6 hx5 hu1 hu2
  have D1 : Hid (∀ W, Edg W (.slice (some ⟨w.heap.size, 0, none⟩) 0 1) [] → Calls Try.prog 11 #[.int .i64 n, (.slice (some ⟨w.heap.size, 0, none⟩) 0 1)] W fun e w' => ∃ u1 u2, e = .returned (.tuple #[u1, u2]) ∧ Ints w' u1 (Ed.degs n (([] : List (Int × Int)).map (·.1))) ∧ Ints w' u2 (Ed.degs n (([] : List (Int × Int)).map (·.2))) ∧ Below W.heap.size W w') := fun W h => degrees_any _ [] n W h (by decide)
  have D2 : Hid (∀ W, Edg W (.slice none 0 cap) [] → Calls Try.prog 12 #[.int .i64 n, (.slice none 0 cap)] W fun e w' => ∃ u1 u2, e = .returned (.tuple #[u1, u2]) ∧ Ints w' u1 (Ed.degs n (([] : List (Int × Int)).map (·.1))) ∧ Ints w' u2 (Ed.degs n (([] : List (Int × Int)).map (·.2))) ∧ Below W.heap.size W w') := fun W h => rdegrees_any _ [] n W h (by decide)
  have DL : Hid (∀ L, (Ed.degs n L).length ≤ 1000000) := fun L => degs_len n L
  have DL1 := DL.out (([] : List (Int × Int)).map (·.1))
  have DL2 := DL.out (([] : List (Int × Int)).map (·.2))
  generalize Ed.degs n (([] : List (Int × Int)).map (·.1)) = G1 at *
  generalize Ed.degs n (([] : List (Int × Int)).map (·.2)) = G2 at *
  go_wp2_with fail
  refine Calls.mono (D1.out _ (IT.out.later hx6.out)) ?_
  rintro e w7 ⟨o1, o2, rfl, ho1, ho2, hb7⟩
  replace ho1 : Hid (Ints w7 o1 G1) := ho1
  replace ho2 : Hid (Ints w7 o2 G2) := ho2
  have hx7 : Hid (Below w3.heap.size w3 w7) := bnext hx6.out hb7
  clear hb7 hx6
  go_wp2_with fail
  refine Calls.mono (D2.out _ (HE3.out.later hx7.out)) ?_
  rintro e w8 ⟨o3, o4, rfl, ho3, ho4, hb8⟩
  replace ho1 := Ints.hid ho1 hb8
  replace ho2 := Ints.hid ho2 hb8
  replace ho3 : Hid (Ints w8 o3 G1) := ho3
  replace ho4 : Hid (Ints w8 o4 G2) := ho4
  have hx8 : Hid (Below w3.heap.size w3 w8) := bnext hx7.out hb8
  clear hb8 hx7 D1 D2
  go_wp2_with fail
  refine (same_any o1 o3 G1 G1 _ ho1.out ho3.out (by omega) (by omega)).mono ?_
  rintro e w9 ⟨rfl, hb9⟩
  rw [ret_ints]
  replace ho2 := Ints.hid ho2 hb9
  replace ho4 := Ints.hid ho4 hb9
  have hx9 : Hid (Below w3.heap.size w3 w9) := bnext hx8.out hb9
  clear hb9 hx8 ho1 ho3
  go_wp2_with fail
  refine (same_any o2 o4 G2 G2 _ ho2.out ho4.out (by omega) (by omega)).mono ?_
  rintro e wa ⟨rfl, hba⟩
  rw [ret_ints]
  have hxa : Hid (Below w3.heap.size w3 wa) := bnext hx9.out hba
  clear hba hx9 ho2 ho4 DL1 DL2
  have O1 : Hid (∀ W, Edg W (.slice (some ⟨w.heap.size, 0, none⟩) 0 1) [] → Calls Try.prog 14 #[(.slice (some ⟨w.heap.size, 0, none⟩) 0 1), .int .i64 x] W fun e w' => ∃ u, e = .returned u ∧ Ints w' u (Ed.outs [] x) ∧ Below W.heap.size W w') := fun W h => (out_any _ [] x W h (by decide)).mono fun e w' ⟨u, h1, h2, h3⟩ => ⟨u, h1, Ints.of_own h2, h3⟩
  have O2 : Hid (∀ W, Edg W (.slice none 0 cap) [] → Calls Try.prog 15 #[(.slice none 0 cap), .int .i64 x] W fun e w' => ∃ u, e = .returned u ∧ Ints w' u (Ed.outs [] x) ∧ Below W.heap.size W w') := fun W h => rout_any _ [] x W h (by decide)
  have OL : (Ed.outs [] x).length ≤ 0 := outs_len [] x
  generalize Ed.outs [] x = J at *
  go_wp2_with fail
  refine Calls.mono (O1.out _ (IT.out.later hxa.out)) ?_
  rintro e wb ⟨j1, rfl, hj1, hbb⟩
  replace hj1 : Hid (Ints wb j1 J) := hj1
  have hxb : Hid (Below w3.heap.size w3 wb) := bnext hxa.out hbb
  clear hbb hxa
  go_wp2_with fail
  refine Calls.mono (O2.out _ (HE3.out.later hxb.out)) ?_
  rintro e wc ⟨j2, rfl, hj2, hbc⟩
  replace hj1 := Ints.hid hj1 hbc
  replace hj2 : Hid (Ints wc j2 J) := hj2
  have hxc : Hid (Below w3.heap.size w3 wc) := bnext hxb.out hbc
  clear hbc hxb O1 O2
  go_wp2_with fail
  refine (same_any j1 j2 J J _ hj1.out hj2.out (by omega) (by omega)).mono ?_
  rintro e wd ⟨rfl, hbd⟩
  rw [ret_ints]
  have hxd : Hid (Below w3.heap.size w3 wd) := bnext hxc.out hbd
  clear hbd hxc hj1 hj2 OL
  have R1 : Hid (∀ W, Edg W (.slice (some ⟨w.heap.size, 0, none⟩) 0 1) [] → Calls Try.prog 16 #[(.slice (some ⟨w.heap.size, 0, none⟩) 0 1)] W fun e w' => ∃ u, e = .returned u ∧ Edg w' u (Ed.rev []) ∧ Below W.heap.size W w') := fun W h => (reverse_any _ [] W h (by decide)).mono fun e w' ⟨u, h1, h2, h3⟩ => ⟨u, h1, Edg.of_own h2, h3⟩
  have R2 : Hid (∀ W, Edg W (.slice none 0 cap) [] → Calls Try.prog 17 #[(.slice none 0 cap)] W fun e w' => ∃ u, e = .returned u ∧ Edg w' u (Ed.rev []) ∧ Below W.heap.size W w') := fun W h => rreverse_any _ [] W h (by decide)
  have RL : Hid ((Ed.rev []).length = 0) := rfl
  generalize Ed.rev [] = R at *
  go_wp2_with fail
  refine Calls.mono (R1.out _ (IT.out.later hxd.out)) ?_
  rintro e we ⟨r1, rfl, hr1, hbe⟩
  replace hr1 : Hid (Edg we r1 R) := hr1
  have hxe : Hid (Below w3.heap.size w3 we) := bnext hxd.out hbe
  clear hbe hxd
  go_wp2_with fail
  refine Calls.mono (R2.out _ (HE3.out.later hxe.out)) ?_
  rintro e wf ⟨r2, rfl, hr2, hbf⟩
  replace hr1 := Edg.hid hr1 hbf
  replace hr2 : Hid (Edg wf r2 R) := hr2
  have hxf : Hid (Below w3.heap.size w3 wf) := bnext hxe.out hbf
  clear hbf hxe R1 R2
  go_wp2_with fail
  refine (same_edg r1 r2 R R _ hr1.out hr2.out (by have := RL.out; omega) (by have := RL.out; omega)).mono ?_
  rintro e wg ⟨rfl, hbg⟩
  rw [ret_same]
  have hxg : Hid (Below w3.heap.size w3 wg) := bnext hxf.out hbg
  clear hbg hxf hr1 hr2 RL
  have SL : Hid (∀ W, Edg W (.slice (some ⟨w.heap.size, 0, none⟩) 0 1) [] → Edg W (.slice none 0 cap) [] → Calls Try.prog 10 #[(.slice (some ⟨w.heap.size, 0, none⟩) 0 1), (.slice none 0 cap)] W fun e w' => e = .returned (.bool true) ∧ Below W.heap.size W w') := fun W h1 h2 => by
    have h := same_edg _ _ [] [] W h1 h2 (by decide) (by decide)
    rwa [ret_same] at h
  go_wp2_with fail
  refine Calls.mono (SL.out _ (IT.out.later hxg.out) (HE3.out.later hxg.out)) ?_
  rintro e wh ⟨rfl, hbh⟩
  have hxh : Hid (Below w3.heap.size w3 wh) := bnext hxg.out hbh
  have t1 := cell_after hxh.out HL.out.1
  have t2 := cell_after hxh.out HL.out.2
  have HBh : Hid (Below w.heap.size w wh) := bnext HB3.out hxh.out
  clear hbh hxg hxh SL IT HE3 HE
  have hgd := edge_guard
  have heqe : ∀ w, Sem.run Try.prog (binOp .eql 24 (.agg #[.int .i64 (-7), .int .i64 0]) (.agg #[.int .i64 (-7), .int .i64 0])) w = .ok (.bool true) w := fun w => edge_eql (-7, 0) (-7, 0) w
  go_wp2_with fail
  refine (does_any _).mono ?_
  rintro e wi ⟨rfl, hbi⟩
  have HBi : Hid (Below w.heap.size w wi) := bnext HBh.out hbi
  go_wp2
  go_ret
  exact ⟨rfl, HBi.out⟩

set_option maxHeartbeats 4000000 in
set_option maxRecDepth 100000 in
theorem edgesTell_walk (n : Int) (v : Value) (l : List (Int × Int)) (x : Int) (w : World) (_hn : (Lit.int .i64 n).wf = true) (h : Edg w v l) (_hl : l.length ≤ 9223372036854775807) (_hx : (Lit.int .i64 x).wf = true) :
    Calls Try.prog 3 #[.int .i64 n, v, .int .i64 x] w fun e w' => e = .returned (.bool true) ∧ Below w.heap.size w w' := by
  obtain ⟨i0, hi0, hz0, hz1, hz2⟩ := info_parts Try.edgeInfo
  have HE : Hid (Edg w v l) := h
  obtain ⟨a, cap, rfl, _, _⟩ := h
  by_cases h300 : 300 < l.length
  · go_enter Try.func3, Try.ntmps3
    go_wp2
    go_ret
    exact ⟨rfl, Below.refl _ _⟩
  · cases a with
    | none =>
      have hl0 : l = [] := by
        obtain ⟨a', cap', e, _, h⟩ := HE.out
        simp only [Value.slice.injEq, true_and] at e
        obtain ⟨rfl, rfl⟩ := e
        rcases h with h | ⟨b, off, e, _⟩
        · exact h
        · cases e
      subst hl0
      exact edgesTell_none cap n x w
    | some ad =>
      have HC : Hid (∀ j u, (ecells l)[j]? = some u → w.cell? (ad.add j) = some u) := by
        intro j u hj
        obtain ⟨a', cap', e, _, h⟩ := HE.out
        simp only [Value.slice.injEq, true_and] at e
        obtain ⟨rfl, rfl⟩ := e
        rcases h with rfl | ⟨b, off, e, hc⟩
        · simp [ecells] at hj
        · cases e
          rw [Addr.add_lit]
          exact cells_of hc j u hj
      go_enter Try.func3, Try.ntmps3
      go_wp2_with (at_make; refine wpList_make_own _ rfl _ _ 22 rfl w.heap.size 24 i0 (.agg #[.int .i64 0, .int .i64 0]) 2 Try.underlying22 hi0 hz0 hz1 _ _ _ (l.length + 1) rfl rfl (by simp) ?b2 ?b3 ?b4 ?_)
      case b2 => rw [hz2]; omega
      case b3 => unfold maxLen; omega
      case b4 => exact Nat.le_refl _
      intro w1 hown1 hgrow1
      have HB1 : Hid (Below w.heap.size w w1) := (Below.refl _ _).grown hgrow1 (Nat.le_refl _) (by simp)
      go_wp2_with (at_builtin; refine wpList_append_fits _ rfl _ _ 22 rfl w.heap.size 24 i0 2 Try.underlying22 hi0 hz1 w.heap.size 0 (l.length + 1) _ rfl hown1 ad l.length cap (ecells l) rfl (ecells_len l) (fun j u hu => cell_after HB1.out (HC.out j u hu)) (ecells_one l) (by omega) ?_)
      intro w2 hown2 hgrow2
      have HB2 : Hid (Below w.heap.size w w2) := HB1.out.grown hgrow2 HB1.out.size (fun q e => by cases e; exact Nat.le_refl _)
      have HO2 : Hid (w2.ownsRow w.heap.size 24 2 (.slice (some ⟨w.heap.size, 0, none⟩) l.length (l.length + 1)) l.length (ecells l)) := by
        rw [Hid]; first | exact hown2 | (rw [Nat.zero_add, List.nil_append] at hown2; exact hown2)
      clear hown1 hgrow1 hown2 hgrow2
      go_wp2_with (at_builtin; refine wpList_append_fits _ rfl _ _ 22 rfl w.heap.size 24 i0 2 Try.underlying22 hi0 hz1 w.heap.size l.length (l.length + 1) _ rfl (HO2.out.alloc _) ⟨w2.heap.size, 0, none⟩ 1 1 [.int .i64 (-7), .int .i64 0] rfl rfl (cell_two_new _ _ _ _) (by simp [Value.oneCell']) (by omega) ?_)
      intro w3 hown3 hgrow3
      have HB3 : Hid (Below w.heap.size w w3) := (HB2.out.alloc HB2.out.size _).grown hgrow3 (by have := HB2.out.size; simp; omega) (fun q e => by cases e; exact Nat.le_refl _)
      have HO3 : Hid (w3.ownsRow w.heap.size 24 2 (.slice (some ⟨w.heap.size, 0, none⟩) (l.length + 1) (l.length + 1)) (l.length + 1) (ecells (l ++ [(-7, 0)]))) := by
        rw [Hid, ← ecells_snoc]; exact hown3
      clear hown3 hgrow3 HO2 HB2 HB1
      have IT : Hid (Edg w3 (.slice (some ⟨w.heap.size, 0, none⟩) l.length (l.length + 1)) l) := edg_take HO3.out (by rw [ecells_take, List.take_left']; rfl) rfl (Nat.le_succ _)
      have HL : Hid (w3.cell? ⟨w.heap.size, l.length * 2, none⟩ = some (.int .i64 (-7)) ∧ w3.cell? ⟨w.heap.size, l.length * 2 + 1, none⟩ = some (.int .i64 0)) := by
        obtain ⟨c1, c2, _, _⟩ := own_at HO3.out (by simp) (show l.length < l.length + 1 by omega)
        have e : (l ++ [((-7 : Int), (0 : Int))]).getD l.length e0 = (-7, 0) := by simp [List.getD]
        rw [e] at c1 c2
        exact ⟨c1, c2⟩
      have HE3 : Hid (Edg w3 (.slice (some ad) l.length cap) l) := HE.out.later HB3.out
      clear HO3
      have P1 : Hid (∀ W, Edg W (.slice (some ⟨w.heap.size, 0, none⟩) l.length (l.length + 1)) l → Calls Try.prog 8 #[.int .i64 n, (.slice (some ⟨w.heap.size, 0, none⟩) l.length (l.length + 1))] W fun e w' => ∃ u, e = .returned (.tuple #[u, .int .i64 (Ed.nor n l).2]) ∧ Edg w' u (Ed.nor n l).1 ∧ Below W.heap.size W w') := fun W h => normal_any _ l n W h (by omega)
      have P2 : Hid (∀ W, Edg W (.slice (some ad) l.length cap) l → Calls Try.prog 9 #[.int .i64 n, (.slice (some ad) l.length cap)] W fun e w' => ∃ u, e = .returned (.tuple #[u, .int .i64 (Ed.nor n l).2]) ∧ Edg w' u (Ed.nor n l).1 ∧ Below W.heap.size W w') := fun W h => rnormal_any _ l n W h (by omega)
      have PL : Hid ((Ed.nor n l).1.length ≤ 1000000) := nor_len n l (by omega)
      generalize (Ed.nor n l).1 = N at *
      generalize (Ed.nor n l).2 = er at *
      go_wp2_with fail
      refine Calls.mono (P1.out _ IT.out) ?_
      rintro e w4 ⟨u1, rfl, hu1, hb4⟩
      replace hu1 : Hid (Edg w4 u1 N) := hu1
      have hx4 : Hid (Below w3.heap.size w3 w4) := hb4
      clear hb4
      go_wp2_with fail
      refine Calls.mono (P2.out _ (HE3.out.later hx4.out)) ?_
      rintro e w5 ⟨u2, rfl, hu2, hb5⟩
      replace hu2 : Hid (Edg w5 u2 N) := hu2
      replace hu1 : Hid (Edg w5 u1 N) := hu1.out.later hb5
      have hx5 : Hid (Below w3.heap.size w3 w5) := bnext hx4.out hb5
      clear hb5 hx4 P1 P2
      have heq : (er == er) = true := by simp
      go_wp2_with fail
      refine (same_edg u1 u2 N N _ hu1.out hu2.out (by have := PL.out; omega) (by have := PL.out; omega)).mono ?_
      rintro e w6 ⟨rfl, hb6⟩
      rw [ret_same]
      have hx6 : Hid (Below w3.heap.size w3 w6) := bnext hx5.out hb6
      clear hb6 hx5 hu1 hu2
      have D1 : Hid (∀ W, Edg W (.slice (some ⟨w.heap.size, 0, none⟩) l.length (l.length + 1)) l → Calls Try.prog 11 #[.int .i64 n, (.slice (some ⟨w.heap.size, 0, none⟩) l.length (l.length + 1))] W fun e w' => ∃ u1 u2, e = .returned (.tuple #[u1, u2]) ∧ Ints w' u1 (Ed.degs n (l.map (·.1))) ∧ Ints w' u2 (Ed.degs n (l.map (·.2))) ∧ Below W.heap.size W w') := fun W h => degrees_any _ l n W h (by omega)
      have D2 : Hid (∀ W, Edg W (.slice (some ad) l.length cap) l → Calls Try.prog 12 #[.int .i64 n, (.slice (some ad) l.length cap)] W fun e w' => ∃ u1 u2, e = .returned (.tuple #[u1, u2]) ∧ Ints w' u1 (Ed.degs n (l.map (·.1))) ∧ Ints w' u2 (Ed.degs n (l.map (·.2))) ∧ Below W.heap.size W w') := fun W h => rdegrees_any _ l n W h (by omega)
      have DL : Hid (∀ L, (Ed.degs n L).length ≤ 1000000) := fun L => degs_len n L
      have DL1 := DL.out (l.map (·.1))
      have DL2 := DL.out (l.map (·.2))
      generalize Ed.degs n (l.map (·.1)) = G1 at *
      generalize Ed.degs n (l.map (·.2)) = G2 at *
      go_wp2_with fail
      refine Calls.mono (D1.out _ (IT.out.later hx6.out)) ?_
      rintro e w7 ⟨o1, o2, rfl, ho1, ho2, hb7⟩
      replace ho1 : Hid (Ints w7 o1 G1) := ho1
      replace ho2 : Hid (Ints w7 o2 G2) := ho2
      have hx7 : Hid (Below w3.heap.size w3 w7) := bnext hx6.out hb7
      clear hb7 hx6
      go_wp2_with fail
      refine Calls.mono (D2.out _ (HE3.out.later hx7.out)) ?_
      rintro e w8 ⟨o3, o4, rfl, ho3, ho4, hb8⟩
      replace ho1 := Ints.hid ho1 hb8
      replace ho2 := Ints.hid ho2 hb8
      replace ho3 : Hid (Ints w8 o3 G1) := ho3
      replace ho4 : Hid (Ints w8 o4 G2) := ho4
      have hx8 : Hid (Below w3.heap.size w3 w8) := bnext hx7.out hb8
      clear hb8 hx7 D1 D2
      go_wp2_with fail
      refine (same_any o1 o3 G1 G1 _ ho1.out ho3.out (by omega) (by omega)).mono ?_
      rintro e w9 ⟨rfl, hb9⟩
      rw [ret_ints]
      replace ho2 := Ints.hid ho2 hb9
      replace ho4 := Ints.hid ho4 hb9
      have hx9 : Hid (Below w3.heap.size w3 w9) := bnext hx8.out hb9
      clear hb9 hx8 ho1 ho3
      go_wp2_with fail
      refine (same_any o2 o4 G2 G2 _ ho2.out ho4.out (by omega) (by omega)).mono ?_
      rintro e wa ⟨rfl, hba⟩
      rw [ret_ints]
      have hxa : Hid (Below w3.heap.size w3 wa) := bnext hx9.out hba
      clear hba hx9 ho2 ho4 DL1 DL2
      have O1 : Hid (∀ W, Edg W (.slice (some ⟨w.heap.size, 0, none⟩) l.length (l.length + 1)) l → Calls Try.prog 14 #[(.slice (some ⟨w.heap.size, 0, none⟩) l.length (l.length + 1)), .int .i64 x] W fun e w' => ∃ u, e = .returned u ∧ Ints w' u (Ed.outs l x) ∧ Below W.heap.size W w') := fun W h => (out_any _ l x W h (by omega)).mono fun e w' ⟨u, h1, h2, h3⟩ => ⟨u, h1, Ints.of_own h2, h3⟩
      have O2 : Hid (∀ W, Edg W (.slice (some ad) l.length cap) l → Calls Try.prog 15 #[(.slice (some ad) l.length cap), .int .i64 x] W fun e w' => ∃ u, e = .returned u ∧ Ints w' u (Ed.outs l x) ∧ Below W.heap.size W w') := fun W h => rout_any _ l x W h (by omega)
      have OL := outs_len l x
      generalize Ed.outs l x = J at *
      go_wp2_with fail
      refine Calls.mono (O1.out _ (IT.out.later hxa.out)) ?_
      rintro e wb ⟨j1, rfl, hj1, hbb⟩
      replace hj1 : Hid (Ints wb j1 J) := hj1
      have hxb : Hid (Below w3.heap.size w3 wb) := bnext hxa.out hbb
      clear hbb hxa
      go_wp2_with fail
      refine Calls.mono (O2.out _ (HE3.out.later hxb.out)) ?_
      rintro e wc ⟨j2, rfl, hj2, hbc⟩
      replace hj1 := Ints.hid hj1 hbc
      replace hj2 : Hid (Ints wc j2 J) := hj2
      have hxc : Hid (Below w3.heap.size w3 wc) := bnext hxb.out hbc
      clear hbc hxb O1 O2
      go_wp2_with fail
      refine (same_any j1 j2 J J _ hj1.out hj2.out (by omega) (by omega)).mono ?_
      rintro e wd ⟨rfl, hbd⟩
      rw [ret_ints]
      have hxd : Hid (Below w3.heap.size w3 wd) := bnext hxc.out hbd
      clear hbd hxc hj1 hj2 OL
      have R1 : Hid (∀ W, Edg W (.slice (some ⟨w.heap.size, 0, none⟩) l.length (l.length + 1)) l → Calls Try.prog 16 #[(.slice (some ⟨w.heap.size, 0, none⟩) l.length (l.length + 1))] W fun e w' => ∃ u, e = .returned u ∧ Edg w' u (Ed.rev l) ∧ Below W.heap.size W w') := fun W h => (reverse_any _ l W h (by omega)).mono fun e w' ⟨u, h1, h2, h3⟩ => ⟨u, h1, Edg.of_own h2, h3⟩
      have R2 : Hid (∀ W, Edg W (.slice (some ad) l.length cap) l → Calls Try.prog 17 #[(.slice (some ad) l.length cap)] W fun e w' => ∃ u, e = .returned u ∧ Edg w' u (Ed.rev l) ∧ Below W.heap.size W w') := fun W h => rreverse_any _ l W h (by omega)
      have RL : Hid ((Ed.rev l).length = l.length) := by rw [Hid]; unfold Ed.rev; rw [Ed.srt_len, List.length_map]
      generalize Ed.rev l = R at *
      go_wp2_with fail
      refine Calls.mono (R1.out _ (IT.out.later hxd.out)) ?_
      rintro e we ⟨r1, rfl, hr1, hbe⟩
      replace hr1 : Hid (Edg we r1 R) := hr1
      have hxe : Hid (Below w3.heap.size w3 we) := bnext hxd.out hbe
      clear hbe hxd
      go_wp2_with fail
      refine Calls.mono (R2.out _ (HE3.out.later hxe.out)) ?_
      rintro e wf ⟨r2, rfl, hr2, hbf⟩
      replace hr1 := Edg.hid hr1 hbf
      replace hr2 : Hid (Edg wf r2 R) := hr2
      have hxf : Hid (Below w3.heap.size w3 wf) := bnext hxe.out hbf
      clear hbf hxe R1 R2
      go_wp2_with fail
      refine (same_edg r1 r2 R R _ hr1.out hr2.out (by have := RL.out; omega) (by have := RL.out; omega)).mono ?_
      rintro e wg ⟨rfl, hbg⟩
      rw [ret_same]
      have hxg : Hid (Below w3.heap.size w3 wg) := bnext hxf.out hbg
      clear hbg hxf hr1 hr2 RL
      have SL : Hid (∀ W, Edg W (.slice (some ⟨w.heap.size, 0, none⟩) l.length (l.length + 1)) l → Edg W (.slice (some ad) l.length cap) l → Calls Try.prog 10 #[(.slice (some ⟨w.heap.size, 0, none⟩) l.length (l.length + 1)), (.slice (some ad) l.length cap)] W fun e w' => e = .returned (.bool true) ∧ Below W.heap.size W w') := fun W h1 h2 => by
        have h := same_edg _ _ l l W h1 h2 (by omega) (by omega)
        rwa [ret_same] at h
      go_wp2_with fail
      refine Calls.mono (SL.out _ (IT.out.later hxg.out) (HE3.out.later hxg.out)) ?_
      rintro e wh ⟨rfl, hbh⟩
      have hxh : Hid (Below w3.heap.size w3 wh) := bnext hxg.out hbh
      have t1 := cell_after hxh.out HL.out.1
      have t2 := cell_after hxh.out HL.out.2
      have HBh : Hid (Below w.heap.size w wh) := bnext HB3.out hxh.out
      clear hbh hxg hxh SL IT HE3 HE
      have hgd := edge_guard
      have heqe : ∀ w, Sem.run Try.prog (binOp .eql 24 (.agg #[.int .i64 (-7), .int .i64 0]) (.agg #[.int .i64 (-7), .int .i64 0])) w = .ok (.bool true) w := fun w => edge_eql (-7, 0) (-7, 0) w
      go_wp2_with fail
      refine (does_any _).mono ?_
      rintro e wi ⟨rfl, hbi⟩
      have HBi : Hid (Below w.heap.size w wi) := bnext HBh.out hbi
      go_wp2
      go_ret
      exact ⟨rfl, HBi.out⟩

set_option maxRecDepth 100000 in
theorem edgesTell_lifted (os : Os) (started : os.Started) (H : Type) (enc : TypeId × Value → H) :
    ReturnsInHanded {} Try.checked os 3 .any (Rows.edgesTellSpec.pre6 enc Try.prog Try.f3 Rows.edgesTellRow.domain false) (Rows.edgesTellSpec.post enc Try.prog Try.f3 false true false false) := by
  refine returnsInHanded_of_change (C := Try.checked) Try.own started (by kernel_rfl) Try.func3
    (ChangeSpec.witness6 (enc := enc) (C := Try.checked) false ⟨#[], #[.int .i64 0, .slice none 0 0, .int .i64 0], []⟩ 8 (by kernel_rfl) (by kernel_rfl) (by kernel_rfl) (by kernel_rfl)) ?_
  intro W base args ds gs before hval0 hW hcnd _
  have hval : ∀ (j : Nat) t v, Try.f3.params[j]? = some t → args[j]? = some v → Value.okWide Try.prog W .any base t v := hval0
  have hW' := hW
  obtain ⟨p, q, hA0, hV, rfl, hfz, hnd⟩ := hW
  have hA : DataW.TrodAll enc Try.prog W 0 (fun _ => true) true Try.f3.params.toList args.toList ds p := hA0
  rw [Try.params3] at hA hval
  obtain ⟨v0, vs0, d0, ds0, p0, q0, hargs, rfl, rfl, h0, r0⟩ := trodAll_cons hA
  obtain ⟨v1, vs1, d1, ds1, p1, q1, rfl, rfl, rfl, h1, r1⟩ := trodAll_cons r0
  obtain ⟨v2, vs2, d2, ds2, p2, q2, rfl, rfl, rfl, h2, r2⟩ := trodAll_cons r1
  obtain ⟨rfl, rfl, rfl⟩ := trodAll_nil r2
  obtain rfl : args = #[v0, v1, v2] := by cases args; simp_all
  obtain ⟨rfl, rfl⟩ := trodVars_none hV
  obtain ⟨a0, rfl, rfl, rfl, w0⟩ := open_int Try.underlying3 (hval 0 3 v0 rfl rfl) h0
  have lt1 : ∀ x ∈ p1, x.block < W.heap.size := by obtain ⟨m, hm⟩ := h1; exact DataW.trod_lt m _ _ _ hm
  obtain ⟨l1, k1, n1⟩ := open_edges (hval 1 22 v1 rfl rfl) h1
  obtain ⟨a2, rfl, rfl, rfl, w2⟩ := open_int Try.underlying3 (hval 2 3 v2 rfl rfl) h2
  clear hA0 hval0
  refine (edgesTell_walk a0 v1 l1 a2 W w0 k1 n1 w2).mono fun e W' ⟨he, bel⟩ => ?_
  subst he
  exact ⟨_, rfl, _, _, _, [], _, [], hW', trodAll_mk1 (shut_bool Try.underlying4 _), (trodAll_cons_mk (shut_int Try.underlying3 w0) (trodAll_cons_mk (Below.trod Try.laidOut (by kernel_rfl) (of_decide_eq_true (by kernel_rfl)) h1 bel lt1) (trodAll_cons_mk (shut_int Try.underlying3 w2) trodAll_mk0))), rfl, bel.frame _, fun h => by cases h⟩

theorem edgesTell_holds : Rows.EdgesTellSaid :=
  OpenClaim.holds_of_wide 3 Try.f3 rfl rfl rfl rfl rfl rfl rfl ⟨rfl, rfl, rfl, rfl, rfl⟩ rfl rfl rfl rfl rfl (by kernel_rfl) Try.func3 (by kernel_rfl)
    (of_decide_eq_true (by kernel_rfl)) (by unfold Func.isWrapper; first | (rw [if_pos (by decide +kernel)]; kernel_rfl) | (rw [if_neg (by decide +kernel)]; exact ⟨rfl, rfl⟩))
    (fun os started H enc _ => edgesTell_lifted os started H enc)

end Go.Proofs.Ytmgikaanckbadaa
