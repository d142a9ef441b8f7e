/- EdgesBack: for every list of edges the call returns true: edges turned about rise; turned about twice they are what they were, in order (P8.2, P8.4). No conditions; above 400 edges the call returns true at once. -/
import Derived.Test.YtmgikaanckbadaaEOpen
import Derived.Test.YtmgikaanckbadaaLater
import Derived.Deep.RegionLawGrows
import Derived.Deep.AppendLies
namespace Go.Proofs.Ytmgikaanckbadaa
open Go.ChangeShapes Go.WideShapes Go.ChangeAt Go.RowKit Go.Shelf Go.Sort Go.Lib

theorem rev_perm (l : List (Int × Int)) : (Ed.rev l).Perm (l.map Ed.swap) := Ed.srt_perm _
theorem swap_swap (l : List (Int × Int)) : (l.map Ed.swap).map Ed.swap = l := by
  rw [List.map_map]; conv => rhs; rw [← List.map_id l]
  rfl
theorem rev_rev_perm (l : List (Int × Int)) : (Ed.rev (Ed.rev l)).Perm l := by
  have h := (rev_perm (Ed.rev l)).trans ((rev_perm l).map Ed.swap)
  rwa [swap_swap] at h
theorem rev_rev_up {l : List (Int × Int)} (h : Ed.Up l) : Ed.rev (Ed.rev l) = l := Ed.up_unique (Ed.srt_up _) h (rev_rev_perm l)
theorem rev_length (l : List (Int × Int)) : (Ed.rev l).length = l.length := by rw [(rev_perm l).length_eq, List.length_map]
theorem up_next {l : List (Int × Int)} (h : Ed.Up l) {k : Nat} (h1 : 0 < k) (h2 : k < l.length) : Ed.lt (l.getD k e0) (l.getD (k - 1) e0) = false := by
  have := List.pairwise_iff_getElem.1 h (k - 1) k (by omega) h2 (by omega)
  simpa [List.getD, h2, show k - 1 < l.length by omega] using this

/-- The last place ahead of k where x lies, or -1. -/
def Last (l : List (Int × Int)) (x : Int × Int) (k : Nat) (z : Int) : Prop := (z = -1 ∧ ∀ j, j < k → l.getD j e0 ≠ x) ∨ ∃ p : Nat, p < k ∧ z = p ∧ l.getD p e0 = x
theorem last_zero (l : List (Int × Int)) (x : Int × Int) : Last l x 0 (-1) := .inl ⟨rfl, fun j hj => by omega⟩
theorem last_hit {l : List (Int × Int)} {x : Int × Int} {k : Nat} (h : l.getD k e0 = x) : Last l x (k + 1) k := .inr ⟨k, by omega, rfl, h⟩
theorem last_miss {l : List (Int × Int)} {x : Int × Int} {k : Nat} {z : Int} (h : Last l x k z) (hx : l.getD k e0 ≠ x) : Last l x (k + 1) z := by
  rcases h with ⟨rfl, h⟩ | ⟨p, hp, h⟩
  · refine .inl ⟨rfl, fun j hj => ?_⟩
    by_cases e : j = k
    · rw [e]; exact hx
    · exact h j (by omega)
  · exact .inr ⟨p, by omega, h⟩
theorem last_all {l : List (Int × Int)} {x : Int × Int} {z : Int} (h : Last l x l.length z) (hx : x ∈ l) : ∃ p : Nat, p < l.length ∧ z = p ∧ l.getD p e0 = x := by
  rcases h with ⟨_, h⟩ | h
  · obtain ⟨j, hj, rfl⟩ := List.mem_iff_getElem.1 hx
    exact absurd (by simp [List.getD, hj]) (h j hj)
  · exact h
theorem perm_out {l m : List (Int × Int)} {x : Int × Int} {p : Nat} (h : l.Perm (x :: m)) (hp : p < l.length) (hx : l.getD p e0 = x) : (l.take p ++ l.drop (p + 1)).Perm m := by
  have e : l = l.take p ++ x :: l.drop (p + 1) := by
    conv => lhs; rw [← List.take_append_drop p l]
    congr 1
    rw [List.drop_eq_getElem_cons hp, ← hx]
    simp [List.getD, hp]
  have h2 : (x :: (l.take p ++ l.drop (p + 1))).Perm (x :: m) := List.perm_middle.symm.trans (by rw [← e]; exact h)
  exact h2.cons_inv
theorem drop_at (l : List (Int × Int)) {k : Nat} (h : k < l.length) : l.drop k = l.getD k e0 :: l.drop (k + 1) := by
  rw [List.drop_eq_getElem_cons h]; simp [List.getD, h]

theorem ecells_drop2 (l : List (Int × Int)) (n : Nat) : (ecells l).drop (n * 2) = ecells (l.drop n) := by
  induction l generalizing n with
  | nil => simp [ecells]
  | cons x l ih =>
    cases n with
    | zero => simp [ecells]
    | succ n =>
      rw [show (n + 1) * 2 = n * 2 + 1 + 1 by omega]
      have e : ecells (x :: l) = .int .i64 x.1 :: .int .i64 x.2 :: ecells l := rfl
      rw [e, List.drop_succ_cons, List.drop_succ_cons, ih]
      rfl

/-- Nothing is appended. -/
theorem run_append_zero {P : Program} (w : World) (t ty e : TypeId) (i : TypeInfo) (ht : P.underlying t = some (.slice e)) (hi : P.info? e = some i) (base : Option Addr) (n cap : Nat) (hle : n ≤ cap) (ao : Option Addr) (c : Nat) :
    (Builtin.append_ #[t, t] ty #[.slice base n cap, .slice ao 0 c]).run P w = .ok (.slice base n cap) w := by
  have h1 : (Builtin.firstCells i.size 0 (.slice ao 0 c)).run P w = .ok #[] w := by
    cases ao with
    | none => exact run_firstCells_none _ _ _ _ _
    | some ad => exact run_firstCells_some (P := P) w i.size 0 ad 0 c [] (by simp) (by simp)
  cases base <;> simp [Builtin.append_, run_underlying ht, sizeOf, typeInfo, hi, Builtin.lenOf, hle, h1, storeCells]
theorem step_append_zero {P : Program} {ops : Array Oper} {o : Oper} {a : Act} {w : World} {K : Act → World → Prop} {Q : Exit → Act → World → Prop} {E : Prop}
    (hg : o.guard = none) (s x : Operand) (t : TypeId) (hop : o.op = Op.call { callee := Callee.builtin Builtin.append, args := #[s, x], argTypes := #[t, t] })
    (e : TypeId) (i : TypeInfo) (ht : P.underlying t = some (.slice e)) (hi : P.info? e = some i) (base : Option Addr) (n cap : Nat) (hle : n ≤ cap) (hs : a.eval s = .slice base n cap)
    (ao : Option Addr) (m c : Nat) (hx : a.eval x = .slice ao m c) (hm : m = 0) (hK : K (a.put o.dst (.slice base n cap)) w) :
    if Region.wanted o (yielded ops a.tmps) = true then Oper.wp P o a w K Q else E := by
  have hw : Region.wanted o (yielded ops a.tmps) = true := by simp [Region.wanted, hg]
  rw [if_pos hw]
  subst hm
  have hrun := run_append_zero (P := P) w t o.type e i ht hi base n cap hle ao c
  unfold Oper.wp
  simp [execOp, hop, resolve, invoke, builtin, hs, hx, hrun, Result.andThen]
  exact hK

set_option maxHeartbeats 1000000 in
set_option maxRecDepth 100000 in
theorem edgesBack_none (a : Option Addr) (cap : Nat) (w : World) (h : Edg w (.slice a 0 cap) []) :
    Calls Try.prog 5 #[.slice a 0 cap] w fun e w' => e = .returned (.bool true) ∧ Below w.heap.size w w' := by
  have HE : Hid (Edg w (.slice a 0 cap) []) := h
  clear h
  go_enter Try.func5, Try.ntmps5
  go_wp2_with fail
  refine (reverse_any _ [] w HE.out (by decide)).mono ?_
  rintro e w1 ⟨u1, rfl, hu1, hb1⟩
  replace hu1 : Hid (Edg w1 u1 []) := Edg.of_own hu1
  obtain ⟨a1, cap1, rfl, _, _⟩ := hu1.out
  go_wp2_with fail
  refine wp_loop_rounds 1 ?_
  rw [rounds_succ]
  go_wp2_with fail
  refine (reverse_any _ [] w1 hu1.out (by decide)).mono ?_
  rintro e w2 ⟨u2, rfl, hu2, hb2⟩
  replace hu2 : Hid (Edg w2 u2 []) := Edg.of_own hu2
  obtain ⟨a2, cap2, rfl, _, _⟩ := hu2.out
  replace hb2 : Hid (Below w.heap.size w w2) := bnext hb1 hb2
  cases a2
  all_goals
    go_wp2_with fail
    refine wp_loop_rounds 1 ?_
    rw [rounds_succ]
    go_wp2_with fail
    refine (reverse_any _ [] w2 hu2.out (by decide)).mono ?_
    rintro e w3 ⟨u3, rfl, hu3, hb3⟩
    replace hu3 : Hid (Edg w3 u3 []) := Edg.of_own hu3
    replace hu2 := Edg.hid hu2 hb3
    replace hb3 : Hid (Below w.heap.size w w3) := bnext hb2.out hb3
    go_wp2_with fail
    refine (reverse_any _ [] w3 hu3.out (by decide)).mono ?_
    rintro e w4 ⟨u4, rfl, hu4, hb4⟩
    replace hu4 : Hid (Edg w4 u4 []) := Edg.of_own hu4
    replace hu2 := Edg.hid hu2 hb4
    replace hb4 : Hid (Below w.heap.size w w4) := bnext hb3.out hb4
    go_wp2_with fail
    refine (same_edg _ _ [] [] w4 hu4.out hu2.out (by decide) (by decide)).mono ?_
    rintro e w5 ⟨rfl, hb5⟩
    rw [show decide (([] : List (Int × Int)) = []) = true from rfl]
    replace hb5 : Hid (Below w.heap.size w w5) := bnext hb4.out hb5
    go_wp2_with fail
    refine (does_any _).mono ?_
    rintro e w9 ⟨rfl, hb9⟩
    replace hb9 : Hid (Below w.heap.size w w9) := bnext hb5.out hb9
    go_wp2
    go_ret
    exact ⟨rfl, hb9.out⟩

set_option maxHeartbeats 400000 in
set_option maxRecDepth 100000 in
theorem edgesBack_walk (v : Value) (l : List (Int × Int)) (w : World) (h : Edg w v l) (_hl : l.length ≤ 9223372036854775807) :
    Calls Try.prog 5 #[v] w fun e w' => e = .returned (.bool true) ∧ Below w.heap.size w w' := by
  obtain ⟨i0, hi0, hz0, hz1, hz2⟩ := info_parts Try.edgeInfo
  have HE : Hid (Edg w v l) := h
  obtain ⟨a, cap, rfl, _, h⟩ := h
  by_cases h400 : 400 < l.length
  · go_enter Try.func5, Try.ntmps5
    go_wp2
    go_ret
    exact ⟨rfl, Below.refl _ _⟩
  · by_cases h0 : l = []
    · subst h0
      exact edgesBack_none a cap w HE.out
    · obtain ⟨b, off, rfl, hc⟩ := h.resolve_left h0
      have hpos : 0 < l.length := by cases l <;> simp_all
      have HC : Hid (∀ j, j < l.length → w.cell? ⟨b, off + j * 2, none⟩ = some (.int .i64 (l.getD j e0).1) ∧ w.cell? ⟨b, off + j * 2 + 1, none⟩ = some (.int .i64 (l.getD j e0).2)) := hc
      clear hc h h0
      go_enter Try.func5, Try.ntmps5
      go_wp2_with fail
      refine (reverse_any _ l w HE.out (by omega)).mono ?_
      rintro e w1 ⟨u1, rfl, hu1, hb1⟩
      obtain ⟨g1, cap1, rfl, _, _⟩ := hu1.form hpos
      replace hu1 : Hid (Edg w1 (.slice (some ⟨g1, 0, none⟩) l.length cap1) (Ed.rev l)) := Edg.of_own hu1
      replace hb1 : Hid (Below w.heap.size w w1) := hb1
      have HRL : Hid ((Ed.rev l).length = l.length) := rev_length l
      have HUP : Hid (∀ k, 0 < k → k < l.length → Ed.lt ((Ed.rev l).getD k e0) ((Ed.rev l).getD (k - 1) e0) = false) := fun k h1 h2 => up_next (l := Ed.rev l) (Ed.srt_up _) h1 (by rw [rev_length]; exact h2)
      have HCR : Hid (∀ j, j < l.length → w1.cell? ⟨g1, j * 2, none⟩ = some (.int .i64 ((Ed.rev l).getD j e0).1) ∧ w1.cell? ⟨g1, j * 2 + 1, none⟩ = some (.int .i64 ((Ed.rev l).getD j e0).2)) := fun j hj => by
        obtain ⟨a', cap', e, _, h⟩ := hu1.out
        rcases h with h | ⟨b', off', rfl, h⟩
        · have := congrArg List.length h
          rw [HRL.out] at this
          have : l.length = 0 := this
          omega
        · simp only [Value.slice.injEq, Option.some.injEq, Addr.mk.injEq, and_true] at e
          obtain ⟨⟨rfl, rfl⟩, _⟩ := e
          have := h j (by rw [HRL.out]; exact hj)
          rwa [Nat.zero_add] at this
      clear HE
      go_wp2_with fail
      go_loopw [4] (fun i wr => ∃ k : Nat, 1 ≤ k ∧ k ≤ l.length ∧ i = .int .i64 k ∧ Hid (Below w1.heap.size w1 wr)) (fun i _ => l.length - (intOf i).toNat)
      case atStart => exact ⟨1, Nat.le_refl _, hpos, rfl, Below.refl _ _⟩
      case round =>
        obtain ⟨k, hk1, hk, rfl, HB⟩ := hrel
        by_cases hkn : k < l.length
        · obtain ⟨x1, x2⟩ := HCR.out (k - 1) (by omega)
          obtain ⟨y1, y2⟩ := HCR.out k hkn
          have hlt := HUP.out k hk1 hkn
          generalize (Ed.rev l).getD (k - 1) e0 = p at *
          generalize (Ed.rev l).getD k e0 = q at *
          have c1 := Later.cell (cell_after HB.out x1)
          have c2 := Later.cell (cell_after HB.out x2)
          have c3 := Later.cell (cell_after HB.out y1)
          have c4 := Later.cell (cell_after HB.out y2)
          clear x1 x2 y1 y2
          have hne := Later.some wr
          have hk2 : ((k : Int) - 1) = ((k - 1 : Nat) : Int) := by omega
          have hkk : k - 1 < l.length := by omega
          rw [Ed.lt_no] at hlt
          have hA : decide (q.1 < p.1) = false := by simp; omega
          by_cases hpq : p.1 = q.1
          · have hB : decide (p.1 = q.1) = true := by simp; exact hpq
            have hB' : (p.1 == q.1) = true := by simp; exact hpq
            have hD : decide (q.2 < p.2) = false := by simp; omega
            clear hlt hpq
            go_wp2_with fail
            refine wp_region_later (by kernel_rfl) (by kernel_rfl) ?_
            repeat (go_big_quiet_step (fail))
            refine wpQuiet_nil ?_
            intro w2 hw2
            obtain ⟨⟨w3, hb3⟩, rfl⟩ := hw2
            have HB3 : Hid (Below w1.heap.size w1 w2) := bnext HB.out hb3
            go_wp2
            go_roundw
            case rel => exact ⟨k + 1, by omega, by omega, by go_num, HB3⟩
            case measure => simp [intOf]; omega
          · have hB : decide (p.1 = q.1) = false := by simp; exact hpq
            have hB' : (p.1 == q.1) = false := by simp; exact hpq
            clear hlt hpq
            go_wp2_with fail
            refine wp_region_later (by kernel_rfl) (by kernel_rfl) ?_
            repeat (go_big_quiet_step (fail))
            refine wpQuiet_nil ?_
            intro w2 hw2
            obtain ⟨⟨w3, hb3⟩, rfl⟩ := hw2
            have HB3 : Hid (Below w1.heap.size w1 w2) := bnext HB.out hb3
            go_wp2
            go_roundw
            case rel => exact ⟨k + 1, by omega, by omega, by go_num, HB3⟩
            case measure => simp [intOf]; omega
        · obtain rfl : k = l.length := by omega
          have HRR : Hid (Edg wr (.slice (some ⟨g1, 0, none⟩) l.length cap1) (Ed.rev l)) := Edg.hid hu1 HB.out
          replace hb1 : Hid (Below w.heap.size w wr) := bnext hb1.out HB.out
          clear hu1 HB HCR HUP
          have HPB : Hid ((Ed.rev (Ed.rev l)).Perm l) := rev_rev_perm l
          have HBB : Hid (Ed.rev (Ed.rev (Ed.rev (Ed.rev l))) = Ed.rev (Ed.rev l)) := rev_rev_up (Ed.srt_up _)
          have HBL : Hid ((Ed.rev (Ed.rev l)).length = l.length) := by rw [Hid, rev_length, rev_length]
          have hn63 : ¬ (l.length : Int) < (l.length : Int) := by omega
          go_wp2_with fail
          refine (reverse_any _ (Ed.rev l) wr HRR.out (by rw [HRL.out]; omega)).mono ?_
          rintro e w2 ⟨u2, rfl, hu2, hb2⟩
          rw [HRL.out] at hu2
          obtain ⟨g2, cap2, rfl, _, _⟩ := hu2.form hpos
          replace hb2 : Hid (Below w.heap.size w w2) := bnext hb1.out hb2
          clear HRR hb1 HRL
          generalize Ed.rev (Ed.rev l) = B at *
          have HB2 : Hid (Edg w2 (.slice (some ⟨g2, 0, none⟩) l.length cap2) B) := Edg.of_own hu2
          have HCB : Hid (∀ j u, (ecells B)[j]? = some u → w2.cell? ((⟨g2, 0, none⟩ : Addr).add j) = some u) := fun j u hj => by
            have hlen := hu2.1
            rw [Addr.add_lit, Nat.zero_add, hu2.cellAt _ (by have := (List.getElem?_eq_some_iff.1 hj).1; omega)]
            exact hj
          clear hu2
          go_wp2_with (at_builtin; refine wpList_append_own _ rfl _ _ 22 rfl w2.heap.size 24 i0 (.agg #[.int .i64 0, .int .i64 0]) 2 16 Try.underlying22 hi0 hz0 hz1 hz2 rfl (by decide) _ 0 [] rfl (World.ownsRow_nil _ _ _ _) ⟨g2, 0, none⟩ l.length cap2 (ecells B) rfl ?q1 HCB.out (ecells_one _) ?q4 ?q5 ?q6 ?_)
          case q1 => rw [ecells_len, HBL.out]
          case q4 => unfold maxLen; omega
          case q5 => omega
          case q6 => exact Nat.le_refl _
          intro v3 w3 hown3 hgrow3 _
          have HB3 : Hid (Below w2.heap.size w2 w3) := (Below.refl _ w2).grown hgrow3 (Nat.le_refl _) (by intro k hk; cases hk)
          have HE3 : Hid (Edg w3 v3 B) := Edg.of_own hown3
          have HA3 : Hid (Below w.heap.size w w3) := bnext hb2.out HB3.out
          replace HB2 := Edg.hid HB2 HB3.out
          clear hown3 hgrow3 HB3 HCB hb2
          go_wp2_with fail
          go_loopw [6, 7] (fun u i wr => ∃ (k : Nat) (L : List (Int × Int)), k ≤ l.length ∧ i = .int .i64 k ∧ L.length + k = l.length ∧ Hid (Edg wr u L) ∧ Hid (L.Perm (l.drop k)) ∧ Hid (Below w3.heap.size w3 wr)) (fun _ i _ => l.length - (intOf i).toNat)
          case atStart => exact ⟨0, B, Nat.zero_le _, rfl, by have := HBL.out; omega, HE3, HPB, Below.refl _ _⟩
          case round =>
            obtain ⟨k, L, hk, rfl, hL, HEL, HPL, HBW⟩ := hrel
            obtain ⟨aL, capL, rfl, hLcap, hLc⟩ := HEL.out
            by_cases hkn : k < l.length
            · obtain ⟨bL, oL, rfl, hLd⟩ := hLc.resolve_left (by intro e; rw [e] at hL; simp at hL; omega)
              have HLC : Hid (∀ j, j < L.length → wr.cell? ⟨bL, oL + j * 2, none⟩ = some (.int .i64 (L.getD j e0).1) ∧ wr.cell? ⟨bL, oL + j * 2 + 1, none⟩ = some (.int .i64 (L.getD j e0).2)) := hLd
              obtain ⟨y1, y2⟩ := HC.out k hkn
              have HY1 : Hid _ := cell_after (bnext HA3.out HBW.out) y1
              have HY2 : Hid _ := cell_after (bnext HA3.out HBW.out) y2
              have HPX : Hid (L.Perm (l.getD k e0 :: l.drop (k + 1))) := by rw [Hid, ← drop_at l hkn]; exact HPL.out
              clear hLc hLd y1 y2 HPL
              generalize l.getD k e0 = x at *
              have hgd := edge_guard
              obtain ⟨wo, hwo⟩ : ∃ wo, wo = wr := ⟨_, rfl⟩
              subst hwo
              go_wp2_with fail
              go_loopw [8, 9] (fun u i wq => ∃ (j : Nat) (z : Int), j ≤ L.length ∧ i = .int .i64 j ∧ u = .int .i64 z ∧ Hid (Last L x j z) ∧ Hid (Below wo.heap.size wo wq)) (fun _ i _ => L.length - (intOf i).toNat)
              case atStart => exact ⟨0, -1, Nat.zero_le _, rfl, rfl, last_zero _ _, Below.refl _ _⟩
              case round =>
                obtain ⟨j, z, hj, rfl, rfl, HZ, HBQ⟩ := hrel
                by_cases hjn : j < L.length
                · obtain ⟨x1, x2⟩ := HLC.out j hjn
                  have c1 := cell_after HBQ.out x1
                  have c2 := cell_after HBQ.out x2
                  have c3 := cell_after HBQ.out HY1.out
                  have c4 := cell_after HBQ.out HY2.out
                  clear x1 x2
                  have HH : Hid (L.getD j e0 = x → Last L x (j + 1) j) := last_hit
                  have HM : Hid (L.getD j e0 ≠ x → Last L x (j + 1) z) := last_miss HZ.out
                  generalize L.getD j e0 = p at *
                  by_cases hpx : p = x
                  · have heq : ∀ w, Sem.run Try.prog (binOp .eql 24 (.agg #[.int .i64 p.1, .int .i64 p.2]) (.agg #[.int .i64 x.1, .int .i64 x.2])) w = .ok (.bool true) w := fun w => by rw [edge_eql, decide_eq_true hpx]
                    have HX : Hid (Last L x (j + 1) j) := HH.out hpx
                    clear hpx HH HM
                    go_wp2
                    go_region
                    all_goals go_wp2
                    go_roundw
                    case rel => exact ⟨j + 1, j, by omega, by go_num, rfl, HX, HBQ.out.drew⟩
                    case measure => simp [intOf]; omega
                  · have heq : ∀ w, Sem.run Try.prog (binOp .eql 24 (.agg #[.int .i64 p.1, .int .i64 p.2]) (.agg #[.int .i64 x.1, .int .i64 x.2])) w = .ok (.bool false) w := fun w => by rw [edge_eql, decide_eq_false hpx]
                    have HX : Hid (Last L x (j + 1) z) := HM.out hpx
                    clear hpx HH HM
                    go_wp2
                    go_region
                    all_goals go_wp2
                    go_roundw
                    case rel => exact ⟨j + 1, z, by omega, by go_num, rfl, HX, HBQ.out.drew⟩
                    case measure => simp [intOf]; omega
                · obtain rfl : j = L.length := by omega
                  obtain ⟨p, hp, rfl, hpe⟩ := last_all HZ.out (HPX.out.mem_iff.2 List.mem_cons_self)
                  have HPL : Hid ((L.take p ++ L.drop (p + 1)).Perm (l.drop (k + 1))) := perm_out HPX.out hp hpe
                  clear hpe HZ HPX hgd
                  have hp0 : ¬ (p : Int) < 0 := by omega
                  have HBO : Hid (Below wo.heap.size wo wr) := HBQ.out
                  have HLQ : Hid (∀ j, j < L.length → wr.cell? ⟨bL, oL + j * 2, none⟩ = some (.int .i64 (L.getD j e0).1) ∧ wr.cell? ⟨bL, oL + j * 2 + 1, none⟩ = some (.int .i64 (L.getD j e0).2)) := fun j hj => ⟨cell_after HBQ.out (HLC.out j hj).1, cell_after HBQ.out (HLC.out j hj).2⟩
                  clear HBQ HLC HY1 HY2 HEL
                  have HL1 : Hid ((ecells (L.take p)).length = p * 2) := by rw [Hid, ecells_len, List.length_take]; omega
                  have HL2 : Hid ((ecells (L.drop (p + 1))).length = (L.length - (p + 1)) * 2) := by rw [Hid, ecells_len, List.length_drop]
                  have HF1 : Hid (∀ b, some (⟨bL, oL, none⟩ : Addr) = some b → ∀ j u, (ecells (L.take p))[j]? = some u → wr.drew.cell? (b.add j) = some u) := by
                    intro b e j u hj
                    cases e
                    rw [Addr.add_lit]
                    refine cells_of (W := wr) HLQ.out j u ?_
                    rw [← ecells_take] at hj
                    by_cases hjk : j < p * 2
                    · rwa [List.getElem?_take_of_lt hjk] at hj
                    · rw [List.getElem?_take_eq_none (by omega)] at hj; cases hj
                  have HF2 : Hid (∀ j u, (ecells (L.drop (p + 1)))[j]? = some u → wr.drew.cell? ((⟨bL, oL + (p + 1) * 2, none⟩ : Addr).add j) = some u) := by
                    intro j u hj
                    rw [Addr.add_lit, Nat.add_assoc]
                    refine cells_of (W := wr) HLQ.out _ u ?_
                    rw [← ecells_drop2, List.getElem?_drop] at hj
                    exact hj
                  have o1 : Hid _ := ecells_one (L.take p)
                  have o2 : Hid _ := ecells_one (L.drop (p + 1))
                  have HAP : Hid (ecells (L.take p ++ L.drop (p + 1)) = ecells (L.take p) ++ ecells (L.drop (p + 1))) := ecells_app _ _
                  have HLN : Hid ((L.take p ++ L.drop (p + 1)).length + (k + 1) = l.length) := by rw [Hid, List.length_append, List.length_take, List.length_drop]; omega
                  have HLL : Hid (p + 1 = L.length → ecells (L.drop (p + 1)) = []) := fun e => by rw [List.drop_eq_nil_of_le (by omega)]; rfl
                  generalize hLN : L.take p ++ L.drop (p + 1) = LN at *
                  clear hLN
                  have hpc : p ≤ capL := by omega
                  have hpl1 : p + 1 ≤ L.length := by omega
                  have hwr : IntKind.i64.wrap ((p : Int) + 1) = (p : Int) + 1 := IntWalk.i64_in _ (by omega)
                  have hq1 : (0 : Int) ≤ (p : Int) + 1 := by omega
                  have hq2 : (p : Int) + 1 ≤ (L.length : Int) := by omega
                  have hq3 : ((p : Int) + 1).toNat = p + 1 := by omega
                  by_cases hlast : p + 1 < L.length
                  · have hne : ¬ capL = p + 1 := by omega
                    have HK : Hid (∀ v W, W.ownsRow wr.drew.heap.size 24 2 v (p + (L.length - (p + 1))) (ecells (L.take p) ++ ecells (L.drop (p + 1))) → Edg W v LN) := fun v W h => Edg.of_own (by rw [HAP.out]; exact h)
                    clear HLQ HLL
                    generalize ecells (L.take p) = F1 at *
                    generalize ecells (L.drop (p + 1)) = F2 at *
                    go_wp2_with fail
                    go_region_law
                      (first
                      | (refine step_append_grows (w := wr.drew) (by rfl) _ _ 22 (by rfl) 24 i0 (.agg #[.int .i64 0, .int .i64 0]) 2 16 Try.underlying22 hi0 hz0 hz1 hz2 rfl (by omega) (some ⟨bL, oL, none⟩) p p F1 (by simp [Act.eval, Act.put]) (fun e => by cases e) HL1.out HF1.out ⟨bL, oL + (p + 1) * 2, none⟩ (L.length - (p + 1)) (capL - (p + 1)) F2 (by simp [Act.eval, Act.put]) HL2.out HF2.out o2.out (by omega) (by unfold maxLen; omega) (by omega) ?_; intro v5 w5 hown5 hgrow5;
                         have HB5 : Hid (Below wo.heap.size wo w5) := bnext HBO.out ((Below.refl _ wr).drew.grown hgrow5 (Nat.le_refl _) (by intro k hk; cases hk)))
                      | fail)
                    all_goals
                      have HE5 : Hid (Edg w5 v5 LN) := HK.out v5 w5 hown5
                      clear hown5 hgrow5 HK HL1 HL2 HF1 HF2 o1 o2 HAP
                      go_wp2_with fail
                      go_roundw
                      case rel => exact ⟨k + 1, LN, by omega, by go_num, HLN.out, HE5, HPL, bnext HBW.out HB5.out⟩
                      case measure => simp [intOf]; omega
                  · have hpl : p + 1 = L.length := by omega
                    have HK : Hid (Edg wr.drew (.slice (some ⟨bL, oL, none⟩) p p) LN) := by
                      have hl : LN.length = p := by have := HLN.out; omega
                      refine ⟨_, _, by rw [hl], by omega, .inr ⟨bL, oL, rfl, fun j hj => ?_⟩⟩
                      have hE := HAP.out
                      rw [HLL.out hpl, List.append_nil] at hE
                      obtain ⟨g1, g2⟩ := ecells_get LN j hj
                      rw [hE] at g1 g2
                      have c1 := HF1.out _ rfl _ _ g1
                      have c2 := HF1.out _ rfl _ _ g2
                      rw [Addr.add_lit] at c1 c2
                      exact ⟨c1, by rw [Nat.add_assoc]; exact c2⟩
                    have HB5 : Hid (Below wo.heap.size wo wr.drew) := HBO.out.drew
                    clear HLQ HLL HL1 HL2 HF1 HF2 o1 o2 HAP
                    go_wp2_with fail
                    go_region_law
                      (first
                      | (refine step_append_zero (w := wr.drew) (by rfl) _ _ 22 (by rfl) 24 i0 Try.underlying22 hi0 (some ⟨bL, oL, none⟩) p p (Nat.le_refl _) (by simp [Act.eval, Act.put]) (if capL = L.length then some ⟨bL, oL, none⟩ else some ⟨bL, oL + L.length * 2, none⟩) 0 (capL - L.length) (by simp [Act.eval, Act.put]) rfl ?_)
                      | fail)
                    all_goals
                      go_wp2_with fail
                      go_roundw
                      case rel => exact ⟨k + 1, LN, by omega, by go_num, HLN.out, HK, HPL, bnext HBW.out HB5.out⟩
                      case measure => simp [intOf]; omega
            · obtain rfl : k = l.length := by omega
              obtain rfl : L = [] := List.length_eq_zero_iff.1 (by omega)
              replace HB2 := Edg.hid HB2 HBW.out
              have HAW : Hid (Below w.heap.size w wr) := bnext HA3.out HBW.out
              clear HEL HPL HBW HA3 hLc HE3
              go_wp2_with fail
              refine (reverse_any _ B wr HB2.out (by rw [HBL.out]; omega)).mono ?_
              rintro e w4 ⟨u4, rfl, hu4, hb4⟩
              replace hu4 : Hid (Edg w4 u4 (Ed.rev B)) := Edg.of_own hu4
              replace HB2 := Edg.hid HB2 hb4
              replace hb4 : Hid (Below w.heap.size w w4) := bnext HAW.out hb4
              go_wp2_with fail
              refine (reverse_any _ (Ed.rev B) w4 hu4.out (by rw [rev_length, HBL.out]; omega)).mono ?_
              rintro e w5 ⟨u5, rfl, hu5, hb5⟩
              rw [HBB.out] at hu5
              replace hu5 : Hid (Edg w5 u5 B) := Edg.of_own hu5
              replace HB2 := Edg.hid HB2 hb5
              replace hb5 : Hid (Below w.heap.size w w5) := bnext hb4.out hb5
              clear hu4 hb4 HAW
              go_wp2_with fail
              refine (same_edg _ _ B B w5 hu5.out HB2.out (by rw [HBL.out]; omega) (by rw [HBL.out]; omega)).mono ?_
              rintro e w6 ⟨rfl, hb6⟩
              rw [show decide (B = B) = true from decide_eq_true rfl]
              replace hb6 : Hid (Below w.heap.size w w6) := bnext hb5.out hb6
              go_wp2_with fail
              refine (does_any _).mono ?_
              rintro e w9 ⟨rfl, hb9⟩
              replace hb9 : Hid (Below w.heap.size w w9) := bnext hb6.out hb9
              go_wp2
              go_ret
              exact ⟨rfl, hb9.out⟩

set_option maxRecDepth 100000 in
theorem edgesBack_lifted (os : Os) (started : os.Started) (H : Type) (enc : TypeId × Value → H) :
    ReturnsInHanded {} Try.checked os 5 .any (Rows.edgesBackSpec.pre6 enc Try.prog Try.f5 Rows.edgesBackRow.domain false) (Rows.edgesBackSpec.post enc Try.prog Try.f5 false true false false) := by
  refine returnsInHanded_of_change (C := Try.checked) Try.own started (by kernel_rfl) Try.func5
    (ChangeSpec.witness6 (enc := enc) (C := Try.checked) false ⟨#[], #[.slice none 0 0], []⟩ 8 (by kernel_rfl) (by kernel_rfl) (by kernel_rfl) (by kernel_rfl)) ?_
  intro W base args ds gs before hval0 hW hcnd _
  have hval : ∀ (j : Nat) t v, Try.f5.params[j]? = some t → args[j]? = some v → Value.okWide Try.prog W .any base t v := hval0
  have hW' := hW
  obtain ⟨p, q, hA0, hV, rfl, hfz, hnd⟩ := hW
  have hA : DataW.TrodAll enc Try.prog W 0 (fun _ => true) true Try.f5.params.toList args.toList ds p := hA0
  rw [Try.params5] at hA hval
  obtain ⟨v0, vs0, d0, ds0, p0, q0, hargs, rfl, rfl, h0, r0⟩ := trodAll_cons hA
  obtain ⟨rfl, rfl, rfl⟩ := trodAll_nil r0
  obtain rfl : args = #[v0] := by cases args; simp_all
  obtain ⟨rfl, rfl⟩ := trodVars_none hV
  have lt0 : ∀ x ∈ p0, x.block < W.heap.size := by obtain ⟨m, hm⟩ := h0; exact DataW.trod_lt m _ _ _ hm
  obtain ⟨l0, k0, n0⟩ := open_edges (hval 0 22 v0 rfl rfl) h0
  clear hA0 hval0
  refine (edgesBack_walk v0 l0 W k0 n0).mono fun e W' ⟨he, bel⟩ => ?_
  subst he
  exact ⟨_, rfl, _, _, _, [], _, [], hW', trodAll_mk1 (shut_bool Try.underlying4 _), (trodAll_cons_mk (Below.trod Try.laidOut (by kernel_rfl) (of_decide_eq_true (by kernel_rfl)) h0 bel lt0) trodAll_mk0), rfl, bel.frame _, fun h => by cases h⟩

theorem edgesBack_holds : Rows.EdgesBackSaid :=
  OpenClaim.holds_of_wide 5 Try.f5 rfl rfl rfl rfl rfl rfl rfl ⟨rfl, rfl, rfl, rfl, rfl⟩ rfl rfl rfl rfl rfl (by kernel_rfl) Try.func5 (by kernel_rfl)
    (of_decide_eq_true (by kernel_rfl)) (by unfold Func.isWrapper; first | (rw [if_pos (by decide +kernel)]; kernel_rfl) | (rw [if_neg (by decide +kernel)]; exact ⟨rfl, rfl⟩))
    (fun os started H enc _ => edgesBack_lifted os started H enc)

end Go.Proofs.Ytmgikaanckbadaa
