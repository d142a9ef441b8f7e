/- PartsSpoilt: for every list of bytes and every two bytes the call returns true: parts of which one end is another one, that lack one, or have one twice, are none of as many vertices (P9.2). No conditions. -/
import Derived.Test.YtehjbhblccjpeaaAOpen
import Derived.Test.YtehjbhblccjpeaaARef
import Derived.Test.YtehjbhblccjpeaaALay
namespace Go.Proofs.Ytehjbhblccjpeaa
open Go.ChangeShapes Go.WideShapes Go.ChangeAt Go.RowKit Go.Deep

theorem take_succ_b (l : List UInt8) (k : Nat) (h : k < l.length) : l.take (k + 1) = l.take k ++ [l.getD k 0] := by
  rw [List.take_add_one, List.getElem?_eq_getElem h]
  simp [List.getD, h]

theorem pcells_set1 : ∀ (l : List (Int × Int)) (k : Nat) (x : Int), (pcells l).set (k * 2) (.int .i64 x) = pcells (l.set k (x, (l.getD k p0).2))
  | [], k, x => by simp [pcells]
  | y :: l, 0, x => by simp [pcells, encP]
  | y :: l, k + 1, x => by
    have e : pcells (y :: l) = .int .i64 y.1 :: .int .i64 y.2 :: pcells l := rfl
    rw [e, show (k + 1) * 2 = k * 2 + 1 + 1 by omega, List.set_cons_succ, List.set_cons_succ, pcells_set1 l k x, List.set_cons_succ]
    rfl
theorem pcells_set2 : ∀ (l : List (Int × Int)) (k : Nat) (x : Int), (pcells l).set (k * 2 + 1) (.int .i64 x) = pcells (l.set k ((l.getD k p0).1, x))
  | [], k, x => by simp [pcells]
  | y :: l, 0, x => by simp [pcells, encP]
  | y :: l, k + 1, x => by
    have e : pcells (y :: l) = .int .i64 y.1 :: .int .i64 y.2 :: pcells l := rfl
    rw [e, show (k + 1) * 2 + 1 = k * 2 + 1 + 1 + 1 by omega, List.set_cons_succ, List.set_cons_succ, pcells_set2 l k x, List.set_cons_succ]
    rfl

/-- A store of one end. -/
theorem own_put1 {W : World} {base g n cap : Nat} {l : List (Int × Int)} (h : W.ownsRow base 33 2 (.slice (some ⟨g, 0, none⟩) n cap) n (pcells l)) (j : Nat) (x : Int) :
    (W.setCell ⟨g, j * 2, none⟩ (.int .i64 x)).ownsRow base 33 2 (.slice (some ⟨g, 0, none⟩) n cap) n (pcells (l.set j (x, (l.getD j p0).2))) ∧ W.grownBy (W.setCell ⟨g, j * 2, none⟩ (.int .i64 x)) (some g) := by
  obtain ⟨h1, h2⟩ := h.stored (j * 2) (.int .i64 x)
  rw [pcells_set1] at h1
  exact ⟨h1, h2⟩
theorem own_put2 {W : World} {base g n cap : Nat} {l : List (Int × Int)} (h : W.ownsRow base 33 2 (.slice (some ⟨g, 0, none⟩) n cap) n (pcells l)) (j : Nat) (x : Int) :
    (W.setCell ⟨g, j * 2 + 1, none⟩ (.int .i64 x)).ownsRow base 33 2 (.slice (some ⟨g, 0, none⟩) n cap) n (pcells (l.set j ((l.getD j p0).1, x))) ∧ W.grownBy (W.setCell ⟨g, j * 2 + 1, none⟩ (.int .i64 x)) (some g) := by
  obtain ⟨h1, h2⟩ := h.stored (j * 2 + 1) (.int .i64 x)
  rw [pcells_set2] at h1
  exact ⟨h1, h2⟩
/-- The cells of a row, all of them, one behind the other. -/
theorem prt_cells {W : World} {g n cap : Nat} {l : List (Int × Int)} (h : Prt W (.slice (some ⟨g, 0, none⟩) n cap) l) : ∀ j u, (pcells l)[j]? = some u → W.cell? ⟨g, j, none⟩ = some u := by
  intro j u hj
  obtain ⟨a', cap', e, _, h⟩ := h
  rcases h with rfl | ⟨b', off', rfl, h⟩
  · simp [pcells] at hj
  · simp only [Value.slice.injEq, Option.some.injEq, Addr.mk.injEq, and_true] at e
    obtain ⟨⟨rfl, rfl⟩, _⟩ := e
    have := cells_of h j u hj
    rwa [Nat.zero_add] at this
theorem prt_at {W : World} {g n cap : Nat} {l : List (Int × Int)} (h : Prt W (.slice (some ⟨g, 0, none⟩) n cap) l) {k : Nat} (hk : k < l.length) : W.cell? ⟨g, k * 2, none⟩ = some (.int .i64 (l.getD k p0).1) ∧ W.cell? ⟨g, k * 2 + 1, none⟩ = some (.int .i64 (l.getD k p0).2) := by
  obtain ⟨g1, g2⟩ := pcells_get l k hk
  exact ⟨prt_cells h _ _ g1, prt_cells h _ _ g2⟩
theorem cells_take {W : World} {g n cap : Nat} {l : List (Int × Int)} (h : Prt W (.slice (some ⟨g, 0, none⟩) n cap) l) (k : Nat) : ∀ j u, (pcells (l.take k))[j]? = some u → W.cell? ((⟨g, 0, none⟩ : Addr).add j) = some u := by
  intro j u hj
  rw [Addr.add_lit, Nat.zero_add]
  refine prt_cells h j u ?_
  rw [← pcells_take, List.getElem?_take] at hj
  by_cases c : j < k * 2
  · rwa [if_pos c] at hj
  · rw [if_neg c] at hj; cases hj
theorem cells_drop {W : World} {g n cap : Nat} {l : List (Int × Int)} (h : Prt W (.slice (some ⟨g, 0, none⟩) n cap) l) (k : Nat) : ∀ j u, (pcells (l.drop k))[j]? = some u → W.cell? ((⟨g, k * 2, none⟩ : Addr).add j) = some u := by
  intro j u hj
  rw [Addr.add_lit]
  refine prt_cells h _ u ?_
  rw [← pcells_drop2, List.getElem?_drop] at hj
  exact hj

set_option maxHeartbeats 2000000 in
set_option maxRecDepth 100000 in
theorem partsSpoilt_walk (v0 : Value) (l0 : List UInt8) (x y : Int) (w : World) (h : Bts w v0 l0) (_hl : l0.length ≤ 9223372036854775807) (hx : (Lit.int .u8 x).wf = true) (hy : (Lit.int .u8 y).wf = true) :
    Calls Try.prog 7 #[v0, .int .u8 x, .int .u8 y] w fun e w' => e = .returned (.bool true) ∧ Below w.heap.size w w' := by
  obtain ⟨i0, hi0, hz0, hz1, hz2'⟩ := info_parts Try.partInfo
  obtain ⟨a, cap, rfl, _, h⟩ := h
  obtain ⟨S, hS⟩ : ∃ S, l0.take 16 = S := ⟨_, rfl⟩
  have hSl : S.length = min 16 l0.length := by rw [← hS, List.length_take]
  have hS16 : S.length ≤ 16 := by omega
  have hSle : S.length ≤ l0.length := by omega
  have hSor : S.length = l0.length ∨ S.length = 16 := by omega
  have HC : Hid (∀ {j}, j < S.length → ∃ b off, a = some ⟨b, off, none⟩ ∧ w.cell? ⟨b, off + j, none⟩ = some (.int .u8 (S.getD j 0).toNat)) := fun {j} hj => by
    rcases h with rfl | ⟨b, off, rfl, hc⟩
    · simp at hSle; rw [hSle] at hj; simp at hj
    · refine ⟨b, off, rfl, ?_⟩
      have e : S.getD j 0 = l0.getD j 0 := by rw [← hS]; simp [List.getD, show j < 16 by omega]
      rw [e]
      exact hc j (by omega)
  clear h hS hSl
  go_enter Try.func7, Try.ntmps7
  go_wp2
  go_loopw [7, 8, 9] (fun u n i wr => ∃ k : Nat, k ≤ S.length ∧ i = .int .i64 k ∧ n = .int .i64 (Pt.tot (S.take k)) ∧ Hid (wr.ownsRow w.heap.size 33 2 u k (pcells (Pt.lay 0 (S.take k)))) ∧ Hid (Below w.heap.size w wr)) (fun _ _ i _ => S.length - (intOf i).toNat)
  case atStart => exact ⟨0, Nat.zero_le _, rfl, rfl, World.ownsRow_nil _ _ _ _, Below.refl _ _⟩
  case round =>
    obtain ⟨k, hk, rfl, rfl, HO, HB⟩ := hrel
    by_cases hlt : k < S.length
    · obtain ⟨b, off, rfl, hcs⟩ := HC.out hlt
      have c1 := cell_after HB.out hcs
      clear hcs
      have hka : (k : Int) < l0.length := by omega
      have hkb : (k : Int) < 16 := by omega
      have HT : Hid (S.take (k + 1) = S.take k ++ [S.getD k 0]) := take_succ_b S k hlt
      have HB8 : (S.getD k 0).toNat < 256 := UInt8.toNat_lt _
      have htot : Pt.tot (S.take k) ≤ 256 := by
        have := Pt.tot_le (S.take k)
        rw [List.length_take] at this
        omega
      have HZ : Hid (Pt.sz (S.getD k 0) = 1 + (S.getD k 0).toNat % 16) := rfl
      have HL2 : Hid (Pt.lay 0 (S.take (k + 1)) = Pt.lay 0 (S.take k) ++ [((Pt.tot (S.take k) : Int), ((Pt.tot (S.take k) + Pt.sz (S.getD k 0) : Nat) : Int))]) := by
        rw [Hid, HT.out, Pt.lay_app, Nat.zero_add]; rfl
      have HT2 : Hid (Pt.tot (S.take (k + 1)) = Pt.tot (S.take k) + Pt.sz (S.getD k 0)) := by rw [Hid, HT.out, Pt.tot_app]; rfl
      generalize Pt.tot (S.take k) = n at *
      generalize Pt.sz (S.getD k 0) = z at *
      generalize (S.getD k 0).toNat = x at *
      have hx : (x : Int) % 16 = ((x % 16 : Nat) : Int) := by omega
      have hxm : x % 16 < 16 := Nat.mod_lt _ (by omega)
      generalize x % 16 = m at *
      have hz : (1 : Int) + (m : Int) = (z : Int) := by have := HZ.out; omega
      have hz2 : z ≤ 16 := by omega
      have hnz : (n : Int) + (z : Int) = ((n + z : Nat) : Int) := by omega
      have ht : n + z ≤ 272 := by omega
      generalize n + z = t at *
      go_wp2_with (at_builtin; refine wpList_append_own _ rfl _ _ 22 rfl w.heap.size 33 i0 (.agg #[.int .i64 0, .int .i64 0]) 2 16 Try.underlying22 hi0 hz0 hz1 hz2' rfl (by decide) _ _ _ rfl (HO.out.alloc _) ⟨wr.heap.size, 0, none⟩ 1 1 [.int .i64 n, .int .i64 t] rfl rfl (cell_two_new _ _ _ _) (by simp [Value.oneCell']) (by unfold maxLen; omega) (by omega) (by have := HB.out.size; simp; omega) ?_; intro v' w1 hown1 hgrow1 _)
      have HO1 : Hid (w1.ownsRow w.heap.size 33 2 v' (k + 1) (pcells (Pt.lay 0 (S.take (k + 1))))) := by rw [Hid, HL2.out, ← pcells_snoc]; exact hown1
      have HB1 : Hid (Below w.heap.size w w1) := (HB.out.alloc HB.out.size _).grown hgrow1 (by have := HB.out.size; simp; omega) (fun q e => (HO.out.lt q e).1)
      clear hown1 hgrow1
      go_roundw
      case rel => exact ⟨k + 1, by omega, by go_num, by rw [HT2.out], HO1, HB1⟩
      case measure => simp [intOf]; omega
    · obtain rfl : k = S.length := by omega
      have HO1 : Hid (wr.ownsRow w.heap.size 33 2 u7 S.length (pcells (Pt.lay 0 S))) := by
        have h := HO.out
        rwa [List.take_length] at h
      rw [List.take_length]
      clear HO HC
      have hend : ((S.length : Int) < l0.length ∧ ¬ (S.length : Int) < 16) ∨ ¬ (S.length : Int) < l0.length := by omega
      have hLN : Pt.tot S ≤ 256 := by have := Pt.tot_le S; omega
      have HLL : Hid ((Pt.lay 0 S).length = S.length) := Pt.lay_len 0 S
      obtain ⟨wo, rfl⟩ : ∃ wo, wo = wr := ⟨wr, rfl⟩
      have HP : Hid (Prt wo u7 (Pt.lay 0 S)) := Prt.of_own HO1.out
      have HWR : Hid (Below w.heap.size w wo) := HB
      clear hk hlt HB
      by_cases hs0 : S.length = 0
      · obtain ⟨a7, cap7, rfl, _, _⟩ := HP.out
        have hl0 : (Pt.lay 0 S).length = 0 := by rw [HLL.out]; exact hs0
        clear HO1 HP
        generalize Pt.lay 0 S = L at *
        generalize Pt.tot S = n at *
        rcases hend with ⟨hend1, hend2⟩ | hend1
        · exact absurd (show (S.length : Int) < 16 by omega) hend2
        go_wp2_with fail
        refine (does_any _).mono ?_
        rintro e5 w5 ⟨rfl, hb5⟩
        replace hb5 : Hid (Below w.heap.size w w5) := bnext HWR.out hb5
        go_wp2
        go_ret
        exact ⟨rfl, hb5.out⟩
      have hpos : 0 < S.length := by omega
      obtain ⟨g, capL, rfl, _, _⟩ := HO1.out.form hpos
      have hcapL : S.length ≤ capL := by
        obtain ⟨a', cap', e, hc, _⟩ := HP.out
        simp only [Value.slice.injEq] at e
        have := HLL.out
        omega
      by_cases hy0 : y = 0
      · subst hy0
        clear HO1 HP
        generalize Pt.tot S = n at *
        rcases hend with ⟨hend1, hend2⟩ | hend1
        all_goals
          go_wp2_with fail
          refine (does_any _).mono ?_
          rintro e5 w5 ⟨rfl, hb5⟩
          replace hb5 : Hid (Below w.heap.size w w5) := bnext HWR.out hb5
          go_wp2
          go_ret
          exact ⟨rfl, hb5.out⟩
      obtain ⟨b, rfl, hb255⟩ := wf_u8 hy
      have hb0 : 0 < b := by omega
      have hbn : ¬ b = 0 := by omega
      have hbi : ¬ (b : Int) = 0 := by omega
      have hbe : ((b : Int) == 0) = false := by simp; omega
      obtain ⟨a', rfl, ha255⟩ := wf_u8 hx
      obtain ⟨k, hkk⟩ : ∃ k, a' % S.length = k := ⟨_, rfl⟩
      have hks : k < S.length := by rw [← hkk]; exact Nat.mod_lt _ hpos
      have hki : (a' : Int) % (S.length : Int) = (k : Int) := by rw [← hkk]; omega
      obtain ⟨f, z, r, hz, hfz, -, -, HLk, -, -, -⟩ := Pt.lay_split hks
      have HF1 := Pt.off_from hks b hb0
      have HF2 := Pt.off_to hks b hb0
      have HF3 := Pt.without hks
      have HF4 := Pt.twice hks
      rw [HLk] at HF1 HF2
      dsimp only at HF1 HF2
      obtain ⟨t, ht⟩ : ∃ t, f + z = t := ⟨_, rfl⟩
      rw [ht] at HF1 HF2 HLk hfz
      have hf256 : f ≤ 256 := by omega
      have ht256 : t ≤ 256 := by omega
      clear hkk hz ht
      generalize Pt.lay 0 S = L at *
      generalize Pt.tot S = n at *
      have HS2 : Hid ((L.set k ((f : Int) + b, (t : Int))).set k ((f : Int), (t : Int)) = L) := by
        rw [Hid, List.set_set]
        have hkl : k < L.length := by rw [HLL.out]; exact hks
        have e : ((f : Int), (t : Int)) = L[k] := by rw [← HLk]; simp [List.getD, hkl]
        rw [e]
        exact List.set_getElem_self hkl
      replace HF1 : Hid _ := HF1
      replace HF2 : Hid _ := HF2
      replace HF3 : Hid _ := HF3
      replace HF4 : Hid _ := HF4
      replace HLk : Hid (L.getD k p0 = ((f : Int), (t : Int))) := HLk
      generalize hS : S.length = s at *
      have HCL : Hid (∀ j u, (pcells L)[j]? = some u → wo.cell? ((⟨g, 0, none⟩ : Addr).add j) = some u) := fun j u hj => by
        rw [Addr.add_lit, Nat.zero_add]; exact prt_cells HP.out j u hj
      clear HO1
      rcases hend with ⟨hend1, hend2⟩ | hend1
      all_goals
        go_wp2_with (at_builtin; refine wpList_append_own _ rfl _ _ 22 rfl wo.heap.size 33 i0 (.agg #[.int .i64 0, .int .i64 0]) 2 16 Try.underlying22 hi0 hz0 hz1 hz2' rfl (by decide) _ 0 [] rfl (World.ownsRow_nil _ _ _ _) ⟨g, 0, none⟩ s capL (pcells L) rfl (by rw [pcells_len, HLL.out]) HCL.out (pcells_one _) (by unfold maxLen; omega) (by omega) (Nat.le_refl _) ?_; intro v1 w1 hown1 hgrow1 _)
        rw [Nat.zero_add, List.nil_append] at hown1
        have hb1 : Hid (Below wo.heap.size wo w1) := (Below.refl _ wo).grown hgrow1 (Nat.le_refl _) (by intro k hk; cases hk)
        obtain ⟨g1, cap1, rfl, hg1, _⟩ := hown1.form hpos
        obtain ⟨c1, c2, f1, f2⟩ := own_at hown1 HLL.out hks
        rw [HLk.out] at c1 c2
        obtain ⟨hown2, hgrow2⟩ := own_put1 hown1 k ((f : Int) + (b : Int))
        rw [show (L.getD k p0) = ((f : Int), (t : Int)) from HLk.out] at hown2
        obtain ⟨w2, hw2⟩ : ∃ w2, w1.setCell ⟨g1, k * 2, none⟩ (.int .i64 ((f : Int) + (b : Int))) = w2 := ⟨_, rfl⟩
        rw [hw2] at hown2 hgrow2
        have hb2 : Hid (Below wo.heap.size wo w2) := hb1.out.grown hgrow2 hb1.out.size (fun q e => by cases e; exact hg1)
        have HO2 : Hid (w2.ownsRow wo.heap.size 33 2 (.slice (some ⟨g1, 0, none⟩) s cap1) s (pcells (L.set k ((f : Int) + b, (t : Int))))) := hown2
        clear hown1 hgrow1 hown2 hgrow2 hb1
        have HX2 : Hid _ := chk_any n _ (L.set k ((f : Int) + b, (t : Int))) w2 (Prt.of_own HO2.out) (by rw [List.length_set, HLL.out]; omega)
        go_wp2_with fail
        refine Calls.mono HX2.out ?_
        rw [HF1.out]
        rintro e3 w3 ⟨rfl, hb3⟩
        have HO3 : Hid (w3.ownsRow wo.heap.size 33 2 (.slice (some ⟨g1, 0, none⟩) s cap1) s (pcells (L.set k ((f : Int) + b, (t : Int))))) := own_later HO2.out hb3
        replace hb3 : Hid (Below wo.heap.size wo w3) := hb2.out.trans (hb3.mono hb2.out.size)
        clear HO2 HX2 c1 c2 f1 f2 hw2 hb2
        obtain ⟨c1, c2⟩ := prt_at (HP.out.later hb3.out) (show k < L.length by rw [HLL.out]; exact hks)
        rw [HLk.out] at c1 c2
        obtain ⟨d1, d2, f1, f2⟩ := own_at HO3.out (by rw [List.length_set]; exact HLL.out) hks
        obtain ⟨hown4, hgrow4⟩ := own_put HO3.out k ((f : Int), (t : Int))
        rw [HS2.out] at hown4
        obtain ⟨w4, hw4⟩ : ∃ w4, (w3.setCell ⟨g1, k * 2, none⟩ (.int .i64 (f : Int))).setCell ⟨g1, k * 2 + 1, none⟩ (.int .i64 (t : Int)) = w4 := ⟨_, rfl⟩
        dsimp only at hown4 hgrow4
        rw [hw4] at hown4 hgrow4
        have hb4 : Hid (Below wo.heap.size wo w4) := hb3.out.grown hgrow4 hb3.out.size (fun q e => by cases e; exact hg1)
        obtain ⟨d3, d4, f3, f4⟩ := own_at hown4 HLL.out hks
        rw [HLk.out] at d3 d4
        obtain ⟨hown5, hgrow5⟩ := own_put2 hown4 k ((t : Int) - (b : Int))
        rw [show (L.getD k p0) = ((f : Int), (t : Int)) from HLk.out] at hown5
        obtain ⟨w5, hw5⟩ : ∃ w5, w4.setCell ⟨g1, k * 2 + 1, none⟩ (.int .i64 ((t : Int) - (b : Int))) = w5 := ⟨_, rfl⟩
        rw [hw5] at hown5 hgrow5
        have hb5 : Hid (Below wo.heap.size wo w5) := hb4.out.grown hgrow5 hb4.out.size (fun q e => by cases e; exact hg1)
        have HO5 : Hid (w5.ownsRow wo.heap.size 33 2 (.slice (some ⟨g1, 0, none⟩) s cap1) s (pcells (L.set k ((f : Int), (t : Int) - b)))) := hown5
        have HX5 : Hid _ := chk_any n _ (L.set k ((f : Int), (t : Int) - b)) w5 (Prt.of_own HO5.out) (by rw [List.length_set, HLL.out]; omega)
        clear hown4 hgrow4 hown5 hgrow5 hb4 HO3
        generalize ((L.set k ((f : Int) + (b : Int), (t : Int))).getD k p0) = old at *
        go_wp2_with fail
        refine Calls.mono HX5.out ?_
        rw [HF2.out]
        rintro e6 w6 ⟨rfl, hb6⟩
        replace hb6 : Hid (Below wo.heap.size wo w6) := hb5.out.trans (hb6.mono hb5.out.size)
        clear HX5 HO5 c1 c2 d1 d2 d3 d4 f1 f2 f3 f4 hw4 hw5 hb5 hb3
        have HP6 : Hid (Prt w6 (.slice (some ⟨g, 0, none⟩) s capL) L) := HP.out.later hb6.out
        have HT1 := cells_take HP6.out k
        have HD1 : ∀ ad, (if capL = k + 1 then some (⟨g, 0, none⟩ : Addr) else some ⟨g, (k + 1) * 2, none⟩) = some ad → ∀ j u, (pcells (L.drop (k + 1)))[j]? = some u → w6.cell? (ad.add j) = some u := fun ad had j u hj => by
          by_cases c : k + 1 < s
          · rw [if_neg (by omega)] at had
            cases had
            exact cells_drop HP6.out (k + 1) j u hj
          · rw [List.drop_of_length_le (by rw [HLL.out]; omega)] at hj
            simp [pcells] at hj
        obtain ⟨ad, had⟩ : ∃ ad, (if capL = k + 1 then some (⟨g, 0, none⟩ : Addr) else some ⟨g, (k + 1) * 2, none⟩) = some ad := by split <;> exact ⟨_, rfl⟩
        replace HD1 := HD1 ad had
        have HL1 : Hid ((pcells (L.take k)).length = k * 2) := by rw [Hid, pcells_len, List.length_take, HLL.out]; omega
        have HL2 : Hid ((pcells (L.drop (k + 1))).length = (s - (k + 1)) * 2) := by rw [Hid, pcells_len, List.length_drop, HLL.out]
        have HL3 : Hid ((pcells (L.take (k + 1))).length = (k + 1) * 2) := by rw [Hid, pcells_len, List.length_take, HLL.out]; omega
        have HL4 : Hid ((pcells (L.drop k)).length = (s - k) * 2) := by rw [Hid, pcells_len, List.length_drop, HLL.out]
        have o1 : Hid _ := pcells_one (L.take k)
        have o2 : Hid _ := pcells_one (L.drop (k + 1))
        have o3 : Hid _ := pcells_one (L.take (k + 1))
        have o4 : Hid _ := pcells_one (L.drop k)
        have HT3 := cells_take HP6.out (k + 1)
        have HD4 := cells_drop HP6.out k
        have HK1 : Hid (∀ v W, W.ownsRow w6.heap.size 33 2 v (0 + k + (s - (k + 1))) ([] ++ pcells (L.take k) ++ pcells (L.drop (k + 1))) → Prt W v (L.take k ++ L.drop (k + 1))) := fun v W h => Prt.of_own (by rw [pcells_app]; rw [List.nil_append] at h; exact h)
        have HK2 : Hid (∀ v W B, W.ownsRow B 33 2 v (0 + (k + 1) + (s - k)) ([] ++ pcells (L.take (k + 1)) ++ pcells (L.drop k)) → Prt W v (L.take (k + 1) ++ L.drop k)) := fun v W B h => Prt.of_own (by rw [pcells_app]; rw [List.nil_append] at h; exact h)
        have HN1 : Hid ((L.take k ++ L.drop (k + 1)).length ≤ 1000000000000) := by rw [Hid, List.length_append, List.length_take, List.length_drop, HLL.out]; omega
        have HN2 : Hid ((L.take (k + 1) ++ L.drop k).length ≤ 1000000000000) := by rw [Hid, List.length_append, List.length_take, List.length_drop, HLL.out]; omega
        generalize pcells (L.take k) = F1 at *
        generalize pcells (L.drop (k + 1)) = F2 at *
        generalize pcells (L.take (k + 1)) = F3 at *
        generalize pcells (L.drop k) = F4 at *
        generalize L.take k ++ L.drop (k + 1) = LA at *
        generalize L.take (k + 1) ++ L.drop k = LB at *
        replace HT1 : Hid _ := HT1
        replace HD1 : Hid _ := HD1
        replace HT3 : Hid _ := HT3
        replace HD4 : Hid _ := HD4
        have hzk : (0 : Int) ≤ (k : Int) := by omega
        have hks2 : (k : Int) ≤ (s : Int) := by omega
        have hkc : (k : Int) ≤ (capL : Int) := by omega
        have hkc2 : ¬ capL = k := by omega
        have hkc3 : k ≤ capL := by omega
        have hkc4 : k + 1 ≤ capL := by omega
        have hks3 : k + 1 ≤ s := by omega
        have hwr : IntKind.i64.wrap ((k : Int) + 1) = (k : Int) + 1 := IntWalk.i64_in _ (by omega)
        have hq1 : (0 : Int) ≤ (k : Int) + 1 := by omega
        have hq2 : (k : Int) + 1 ≤ (s : Int) := by omega
        have hq4 : (k : Int) + 1 ≤ (capL : Int) := by omega
        have hq3 : ((k : Int) + 1).toNat = k + 1 := by omega
        clear HCL HP6
        go_wp2_with fail
        go_region_law
          (first
          | (refine step_append_own (w := w6.drew) (by rfl) _ _ 22 (by rfl) w6.heap.size 33 i0 (.agg #[.int .i64 0, .int .i64 0]) 2 16 Try.underlying22 hi0 hz0 hz1 hz2' rfl (by omega) (.slice none 0 0) 0 [] (by rfl) (World.ownsRow_nil _ _ _ _) (some ⟨g, 0, none⟩) _ rfl k capL F1 (by simp [Act.eval, Act.put]) HL1.out HT1.out o1.out (by unfold maxLen; omega) (by omega) (Nat.le_refl _) ?_; intro v7 w7 hown7 hgrow7;
             have HX7 : Hid (Below w6.heap.size w6 w7) := (Below.refl _ w6).drew.grown hgrow7 (Nat.le_refl _) (by intro k hk; cases hk);
             have HU7 : Hid (∀ j u, F2[j]? = some u → w7.cell? (ad.add j) = some u) := fun j u hj => cell_after HX7.out (HD1.out j u hj);
             have hbs7 := HX7.out.size)
          | (refine step_append_own (w := w7) (by rfl) _ _ 22 (by rfl) w6.heap.size 33 i0 (.agg #[.int .i64 0, .int .i64 0]) 2 16 Try.underlying22 hi0 hz0 hz1 hz2' rfl (by omega) v7 (0 + k) ([] ++ F1) (by simp [Act.eval]) hown7 (some ad) ad rfl (s - (k + 1)) (capL - (k + 1)) F2 (by simp [Act.eval]) HL2.out HU7.out o2.out (by unfold maxLen; omega) (by omega) hbs7 ?_; intro v8 w8 hown8 hgrow8;
             have HX8 : Hid (Below w6.heap.size w6 w8) := HX7.out.grown hgrow8 hbs7 (fun q e => (hown7.lt q e).1))
          | fail)
        all_goals
          have HA8 : Hid (Prt w8 v8 LA) := HK1.out v8 w8 hown8
          replace HT3 : Hid (∀ j u, F3[j]? = some u → w8.cell? ((⟨g, 0, none⟩ : Addr).add j) = some u) := fun j u hj => cell_after HX8.out (HT3.out j u hj)
          replace HD4 : Hid (∀ j u, F4[j]? = some u → w8.cell? ((⟨g, k * 2, none⟩ : Addr).add j) = some u) := fun j u hj => cell_after HX8.out (HD4.out j u hj)
          have hb8 : Hid (Below wo.heap.size wo w8) := hb6.out.trans (HX8.out.mono hb6.out.size)
          clear hown7 hgrow7 hown8 hgrow8 HX7 HX8 HU7 HT1 HD1 HL1 HL2 o1 o2 HK1 had hb6
          go_wp2_with fail
          go_region_law
            (first
            | (refine step_append_own (w := w8.drew) (by rfl) _ _ 22 (by rfl) w8.heap.size 33 i0 (.agg #[.int .i64 0, .int .i64 0]) 2 16 Try.underlying22 hi0 hz0 hz1 hz2' rfl (by omega) (.slice none 0 0) 0 [] (by rfl) (World.ownsRow_nil _ _ _ _) (some ⟨g, 0, none⟩) _ rfl (k + 1) capL F3 (by simp [Act.eval, Act.put]) HL3.out HT3.out o3.out (by unfold maxLen; omega) (by omega) (Nat.le_refl _) ?_; intro v9 w9 hown9 hgrow9;
               have HX9 : Hid (Below w8.heap.size w8 w9) := (Below.refl _ w8).drew.grown hgrow9 (Nat.le_refl _) (by intro k hk; cases hk);
               have HU9 : Hid (∀ j u, F4[j]? = some u → w9.cell? ((⟨g, k * 2, none⟩ : Addr).add j) = some u) := fun j u hj => cell_after HX9.out (HD4.out j u hj);
               have hbs9 := HX9.out.size)
            | (refine step_append_own (w := w9) (by rfl) _ _ 22 (by rfl) w8.heap.size 33 i0 (.agg #[.int .i64 0, .int .i64 0]) 2 16 Try.underlying22 hi0 hz0 hz1 hz2' rfl (by omega) v9 (0 + (k + 1)) ([] ++ F3) (by simp [Act.eval]) hown9 (some ⟨g, k * 2, none⟩) _ rfl (s - k) (capL - k) F4 (by simp [Act.eval]) HL4.out HU9.out o4.out (by unfold maxLen; omega) (by omega) hbs9 ?_; intro vA wA hownA hgrowA;
               have HXA : Hid (Below w8.heap.size w8 wA) := HX9.out.grown hgrowA hbs9 (fun q e => (hown9.lt q e).1))
            | fail)
          all_goals
            have HB9 : Hid (Prt wA vA LB) := HK2.out vA wA _ hownA
            replace HA8 := Prt.hid HA8 HXA.out
            have hbA : Hid (Below wo.heap.size wo wA) := hb8.out.trans (HXA.out.mono hb8.out.size)
            clear hown9 hgrow9 hownA hgrowA HX9 HXA HU9 HT3 HD4 HL3 HL4 o3 o4 HK2 hb8
            go_wp2_with fail
            refine (chk_any n _ LA wA HA8.out HN1.out).mono ?_
            rw [HF3.out]
            rintro e1 wB ⟨rfl, hbB⟩
            replace HB9 := Prt.hid HB9 hbB
            replace hbB : Hid (Below wo.heap.size wo wB) := hbA.out.trans (hbB.mono hbA.out.size)
            go_wp2_with fail
            refine (chk_any n _ LB wB HB9.out HN2.out).mono ?_
            rw [HF4.out]
            rintro e2 wC ⟨rfl, hbC⟩
            replace hbC : Hid (Below w.heap.size w wC) := bnext HWR.out (hbB.out.trans (hbC.mono hbB.out.size))
            go_wp2_with fail
            refine (does_any _).mono ?_
            rintro e3 wD ⟨rfl, hbD⟩
            replace hbD : Hid (Below w.heap.size w wD) := bnext hbC.out hbD
            go_wp2
            go_ret
            exact ⟨rfl, hbD.out⟩

set_option maxRecDepth 100000 in
theorem partsSpoilt_lifted (os : Os) (started : os.Started) (H : Type) (enc : TypeId × Value → H) :
    ReturnsInHanded {} Try.checked os 7 .any (Rows.partsSpoiltSpec.pre6 enc Try.prog Try.f7 Rows.partsSpoiltRow.domain false) (Rows.partsSpoiltSpec.post enc Try.prog Try.f7 false true false false) := by
  refine returnsInHanded_of_change (C := Try.checked) Try.own started (by kernel_rfl) Try.func7
    (ChangeSpec.witness6 (enc := enc) (C := Try.checked) false ⟨#[], #[.slice none 0 0, .int .u8 0, .int .u8 0], []⟩ 8 (by kernel_rfl) (by kernel_rfl) (by kernel_rfl) (by kernel_rfl)) ?_
  intro W base args ds gs before hval0 hW hcnd _
  have hval : ∀ (j : Nat) t v, Try.f7.params[j]? = some t → args[j]? = some v → Value.okWide Try.prog W .any base t v := hval0
  have hW' := hW
  obtain ⟨p, q, hA0, hV, rfl, hfz, hnd⟩ := hW
  have hA : DataW.TrodAll enc Try.prog W 0 (fun _ => true) true Try.f7.params.toList args.toList ds p := hA0
  rw [Try.params7] at hA hval
  obtain ⟨v0, vs0, d0, ds0, p0, q0, hargs, rfl, rfl, h0, r0⟩ := trodAll_cons hA
  obtain ⟨v1, vs1, d1, ds1, p1, q1, rfl, rfl, rfl, h1, r1⟩ := trodAll_cons r0
  obtain ⟨v2, vs2, d2, ds2, p2, q2, rfl, rfl, rfl, h2, r2⟩ := trodAll_cons r1
  obtain ⟨rfl, rfl, rfl⟩ := trodAll_nil r2
  obtain rfl : args = #[v0, v1, v2] := by cases args; simp_all
  obtain ⟨rfl, rfl⟩ := trodVars_none hV
  have lt0 : ∀ x ∈ p0, x.block < W.heap.size := by obtain ⟨m, hm⟩ := h0; exact DataW.trod_lt m _ _ _ hm
  obtain ⟨l0, k0, n0⟩ := open_bts (hval 0 35 v0 rfl rfl) h0
  obtain ⟨a1, rfl, rfl, rfl, w1⟩ := open_int Try.underlying5 (hval 1 5 v1 rfl rfl) h1
  obtain ⟨a2, rfl, rfl, rfl, w2⟩ := open_int Try.underlying5 (hval 2 5 v2 rfl rfl) h2
  clear hA0 hval0
  refine (partsSpoilt_walk v0 l0 a1 a2 W k0 n0 w1 w2).mono fun e W' ⟨he, bel⟩ => ?_
  subst he
  exact ⟨_, rfl, _, _, _, [], _, [], hW', trodAll_mk1 (shut_bool Try.underlying4 _), (trodAll_cons_mk (Below.trod Try.laidOut (by kernel_rfl) (of_decide_eq_true (by kernel_rfl)) h0 bel lt0) (trodAll_cons_mk (shut_int Try.underlying5 w1) (trodAll_cons_mk (shut_int Try.underlying5 w2) trodAll_mk0))), rfl, bel.frame _, fun h => by cases h⟩

theorem partsSpoilt_holds : Rows.PartsSpoiltSaid :=
  OpenClaim.holds_of_wide 7 Try.f7 rfl rfl rfl rfl rfl rfl rfl ⟨rfl, rfl, rfl, rfl, rfl⟩ rfl rfl rfl rfl rfl (by kernel_rfl) Try.func7 (by kernel_rfl)
    (of_decide_eq_true (by kernel_rfl)) (by unfold Func.isWrapper; first | (rw [if_pos (by decide +kernel)]; kernel_rfl) | (rw [if_neg (by decide +kernel)]; exact ⟨rfl, rfl⟩))
    (fun os started H enc _ => partsSpoilt_lifted os started H enc)

end Go.Proofs.Ytehjbhblccjpeaa
