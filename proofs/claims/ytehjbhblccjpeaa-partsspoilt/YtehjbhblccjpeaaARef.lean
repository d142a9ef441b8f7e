/- Appends of parts within a region that draws its order; the walks of the document's own answer: Cut, Of, Check. -/
import Derived.Test.YtehjbhblccjpeaaADoes
import Derived.Deep.OwnRows
import Derived.Deep.RegionLaw
import Derived.Deep.RegionLawGrows
import Derived.Maps.AppendAt
namespace Go.Proofs.Ytehjbhblccjpeaa
open Go.RowKit Go.Deep

theorem step_append_own {P : Program} {w : World} {ops : Array Oper} {o : Oper} {a : Act} {K : Act → World → Prop} {Q : Exit → Act → World → Prop} {E : Prop} (hgd : o.guard = none) (s x : Operand) (t : TypeId)
    (ho : o.op = .call { callee := .builtin .append, args := #[s, x], argTypes := #[t, t] })
    (base : Nat) (e : TypeId) (i : TypeInfo) (z : Value) (size bytes : Nat) (ht : P.underlying t = some (.slice e)) (hi : P.info? e = some i) (hz : i.zero = some z)
    (hsize : i.size = size) (hby : i.bytes = bytes) (hzs : z.cells.size = size) (hsz : 0 < size)
    (v : Value) (n : Nat) (xs : List Value) (hs : a.eval s = v) (hown : w.ownsRow base e size v n xs)
    (adr : Option Addr) (ad : Addr) (hadr : adr = some ad) (m c : Nat) (news : List Value) (hx : a.eval x = .slice adr m c) (hl : news.length = m * size) (hnews : ∀ j u, news[j]? = some u → w.cell? (ad.add j) = some u) (h1 : ∀ u ∈ news, u.oneCell' = true)
    (h63 : n + m ≤ maxLen) (hbytes : (n + m) * bytes ≤ 140737488355328) (hbase : base ≤ w.heap.size)
    (h : ∀ v' w', w'.ownsRow base e size v' (n + m) (xs ++ news) → w.grownBy w' v.ownBlock → K (a.put o.dst v') w') :
    if Region.wanted o (yielded ops a.tmps) = true then Oper.wp P o a w K Q else E := by
  have hw : Region.wanted o (yielded ops a.tmps) = true := by simp [Region.wanted, hgd]
  rw [if_pos hw]
  rw [hadr] at hx
  exact wp_append_own w s x t ho base e i z size bytes ht hi hz hsize hby hzs hsz v n xs hs hown ad m c news hx hl hnews h1 h63 hbytes hbase fun v' w' h2 h3 _ => h v' w' h2 h3

theorem pcells_drop2 (l : List (Int × Int)) (n : Nat) : (pcells l).drop (n * 2) = pcells (l.drop n) := by
  induction l generalizing n with
  | nil => simp [pcells]
  | cons x l ih =>
    cases n with
    | zero => simp [pcells]
    | succ n =>
      rw [show (n + 1) * 2 = n * 2 + 1 + 1 by omega]
      have e : pcells (x :: l) = .int .i64 x.1 :: .int .i64 x.2 :: pcells l := rfl
      rw [e, List.drop_succ_cons, List.drop_succ_cons, ih]
      rfl

/-- Nothing is appended. -/
theorem run_append_zero {P : Program} (w : World) (t ty e : TypeId) (i : TypeInfo) (ht : P.underlying t = some (.slice e)) (hi : P.info? e = some i) (base : Option Addr) (n cap : Nat) (hle : n ≤ cap) (ao : Option Addr) (c : Nat) :
    (Builtin.append_ #[t, t] ty #[.slice base n cap, .slice ao 0 c]).run P w = .ok (.slice base n cap) w := by
  have h1 : (Builtin.firstCells i.size 0 (.slice ao 0 c)).run P w = .ok #[] w := by
    cases ao with
    | none => exact run_firstCells_none _ _ _ _ _
    | some ad => exact run_firstCells_some (P := P) w i.size 0 ad 0 c [] (by simp) (by simp)
  cases base <;> simp [Builtin.append_, run_underlying ht, sizeOf, typeInfo, hi, Builtin.lenOf, hle, h1, storeCells]
theorem step_append_zero {P : Program} {ops : Array Oper} {o : Oper} {a : Act} {w : World} {K : Act → World → Prop} {Q : Exit → Act → World → Prop} {E : Prop}
    (hg : o.guard = none) (s x : Operand) (t : TypeId) (hop : o.op = Op.call { callee := Callee.builtin Builtin.append, args := #[s, x], argTypes := #[t, t] })
    (e : TypeId) (i : TypeInfo) (ht : P.underlying t = some (.slice e)) (hi : P.info? e = some i) (base : Option Addr) (n cap : Nat) (hle : n ≤ cap) (hs : a.eval s = .slice base n cap)
    (ao : Option Addr) (m c : Nat) (hx : a.eval x = .slice ao m c) (hm : m = 0) (hK : K (a.put o.dst (.slice base n cap)) w) :
    if Region.wanted o (yielded ops a.tmps) = true then Oper.wp P o a w K Q else E := by
  have hw : Region.wanted o (yielded ops a.tmps) = true := by simp [Region.wanted, hg]
  rw [if_pos hw]
  subst hm
  have hrun := run_append_zero (P := P) w t o.type e i ht hi base n cap hle ao c
  unfold Oper.wp
  simp [execOp, hop, resolve, invoke, builtin, hs, hx, hrun, Result.andThen]
  exact hK


set_option maxHeartbeats 400000 in
set_option maxRecDepth 100000 in
theorem rof_any (v : Value) (l : List (Int × Int)) (x : Int) (w : World) (h : Prt w v l) (hl : l.length ≤ 1000000000000) :
    Calls Try.prog 13 #[v, .int .i64 x] w fun e w' => e = .returned (.int .i64 (Pt.of l x)) ∧ Below w.heap.size w w' := by
  obtain ⟨a, cap, rfl, _, h⟩ := h
  have HE : Hid _ := h
  clear h
  go_enter Try.func13, Try.ntmps13
  go_wp2
  go_loopw [5] (fun i wr => ∃ k : Nat, k ≤ l.length ∧ i = .int .i64 k ∧ Hid (∀ j, j < k → Pt.has (l.getD j p0) x = false) ∧ Hid (Below w.heap.size w wr)) (fun i _ => l.length - (intOf i).toNat)
  case atStart => exact ⟨0, Nat.zero_le _, rfl, fun j hj => by omega, Below.refl _ _⟩
  case round =>
    obtain ⟨k, hk, rfl, HN, HB⟩ := hrel
    by_cases hlt : k < l.length
    · obtain ⟨b, off, rfl, hc⟩ := HE.out.resolve_left (by rintro rfl; simp at hlt)
      have c1 := cell_after HB.out (hc k hlt).1
      have c2 := cell_after HB.out (hc k hlt).2
      clear hc
      have HY : Hid (Pt.has (l.getD k p0) x = true → Pt.of l x = k) := fun hh => Pt.of_hit hlt (fun j hj _ => HN.out j hj) hh
      have HZ : Hid (Pt.has (l.getD k p0) x = false → ∀ j, j < k + 1 → Pt.has (l.getD j p0) x = false) := fun hh j hj => by
        by_cases e : j = k
        · rw [e]; exact hh
        · exact HN.out j (by omega)
      generalize l.getD k p0 = p at *
      by_cases h1 : p.1 ≤ x
      · by_cases h2 : x < p.2
        · have HR : Hid (Pt.of l x = k) := HY.out (by simp [Pt.has, h1, h2])
          clear HY HZ
          go_wp2
          go_ret
          exact ⟨ret_int HR.out.symm, HB.out⟩
        · have HR : Hid _ := HZ.out (by simp [Pt.has, h2])
          clear HY HZ
          go_wp2
          go_roundw
          case rel => exact ⟨k + 1, by omega, by go_num, HR, HB⟩
          case measure => simp [intOf]; omega
      · have HR : Hid _ := HZ.out (by simp [Pt.has, h1])
        clear HY HZ
        go_wp2
        go_roundw
        case rel => exact ⟨k + 1, by omega, by go_num, HR, HB⟩
        case measure => simp [intOf]; omega
    · obtain rfl : k = l.length := by omega
      have HR : Hid (Pt.of l x = -1) := Pt.of_none fun j hj => HN.out j hj
      go_wp2
      go_ret
      exact ⟨ret_int HR.out.symm, HB.out⟩

theorem wrap_fits {x : Int} (h1 : -9223372036854775808 ≤ x) (h2 : x ≤ 9223372036854775807) : IntKind.i64.wrap x = x := IntWalk.i64_in _ (by omega)

set_option maxHeartbeats 400000 in
set_option maxRecDepth 100000 in
theorem rcut_any (n s : Int) (w : World) :
    Calls Try.prog 9 #[.int .i64 n, .int .i64 s] w fun e w' => ∃ u, e = .returned (.tuple #[u, .int .i64 (Pt.cut n s).2]) ∧ w'.ownsRow w.heap.size 33 2 u (Pt.cut n s).1.length (pcells (Pt.cut n s).1) ∧ Below w.heap.size w w' := by
  obtain ⟨i0, hi0, hz0, hz1, hz2⟩ := info_parts Try.partInfo
  by_cases h1 : n < 1
  · rw [cut_no (by unfold Pt.can Pt.many; simp; omega)]
    go_enter Try.func9, Try.ntmps9
    go_wp2
    go_ret2
    exact ⟨_, rfl, World.ownsRow_nil _ _ _ _, Below.refl _ _⟩
  by_cases h2 : 256 < n
  · rw [cut_no (by unfold Pt.can Pt.many; simp; omega)]
    go_enter Try.func9, Try.ntmps9
    go_wp2
    go_ret2
    exact ⟨_, rfl, World.ownsRow_nil _ _ _ _, Below.refl _ _⟩
  by_cases h3 : s < 1
  · rw [cut_no (by unfold Pt.can Pt.many; simp; omega)]
    go_enter Try.func9, Try.ntmps9
    go_wp2
    go_ret2
    exact ⟨_, rfl, World.ownsRow_nil _ _ _ _, Below.refl _ _⟩
  by_cases h4 : n < s
  · rw [cut_no (by unfold Pt.can Pt.many; simp; omega)]
    go_enter Try.func9, Try.ntmps9
    go_wp2
    go_ret2
    exact ⟨_, rfl, World.ownsRow_nil _ _ _ _, Below.refl _ _⟩
  by_cases h5 : 16 < s
  · rw [cut_no (by unfold Pt.can Pt.many; simp; omega)]
    go_enter Try.func9, Try.ntmps9
    go_wp2
    go_ret2
    exact ⟨_, rfl, World.ownsRow_nil _ _ _ _, Below.refl _ _⟩
  obtain ⟨n', rfl⟩ : ∃ k : Nat, n = k := ⟨n.toNat, by omega⟩
  obtain ⟨s', rfl⟩ : ∃ k : Nat, s = k := ⟨s.toNat, by omega⟩
  rw [cut_yes (by unfold Pt.can Pt.many; simp; omega)]
  have HL : Hid ((Pt.cuts n' s').length = s') := Pt.cuts_len n' s'
  have HG : Hid (∀ k, k < s' → (Pt.cuts n' s').getD k p0 = Pt.one n' s' k) := fun k hk => Pt.cuts_get hk
  generalize Pt.cuts n' s' = l at *
  dsimp only
  go_enter Try.func9, Try.ntmps9
  go_wp2
  go_loopw [6, 7] (fun u i wr => ∃ k : Nat, k ≤ s' ∧ i = .int .i64 k ∧ Hid (wr.ownsRow w.heap.size 33 2 u k (pcells (l.take k))) ∧ Hid (Below w.heap.size w wr)) (fun _ i _ => s' - (intOf i).toNat)
  case atStart => exact ⟨0, Nat.zero_le _, rfl, World.ownsRow_nil _ _ _ _, Below.refl _ _⟩
  case round =>
    obtain ⟨k, hk, rfl, HO, HB⟩ := hrel
    by_cases hlt : k < s'
    · have HT : Hid (l.take (k + 1) = l.take k ++ [Pt.one n' s' k]) := by rw [Hid, take_succ_e l k (by rw [HL.out]; exact hlt), HG.out k hlt]
      have m1 : (k : Int) * n' = ((k * n' : Nat) : Int) := by simp
      have m2 : ((k : Int) + 1) * n' = (((k + 1) * n' : Nat) : Int) := by simp
      have l1 : k * n' ≤ 4096 := Nat.mul_le_mul (show k ≤ 16 by omega) (show n' ≤ 256 by omega)
      have l2 : (k + 1) * n' ≤ 4096 := Nat.mul_le_mul (show k + 1 ≤ 16 by omega) (show n' ≤ 256 by omega)
      have q1 : ((k * n' : Nat) : Int).tdiv (s' : Int) = ((k * n' / s' : Nat) : Int) := by rw [Int.tdiv_eq_ediv_of_nonneg (by omega)]; simp
      have q2 : (((k + 1) * n' : Nat) : Int).tdiv (s' : Int) = (((k + 1) * n' / s' : Nat) : Int) := by rw [Int.tdiv_eq_ediv_of_nonneg (by omega)]; simp
      have l3 : k * n' / s' ≤ 4096 := Nat.le_trans (Nat.div_le_self _ _) l1
      have l4 : (k + 1) * n' / s' ≤ 4096 := Nat.le_trans (Nat.div_le_self _ _) l2
      have z0 : ¬ s' = 0 := by omega
      have HP : Hid (Pt.one n' s' k = (((k * n' / s' : Nat) : Int), (((k + 1) * n' / s' : Nat) : Int))) := rfl
      generalize k * n' / s' = x at *
      generalize (k + 1) * n' / s' = y at *
      generalize k * n' = a at *
      generalize (k + 1) * n' = b at *
      have e1 : IntKind.i64.wrap (a : Int) = a := wrap_fits (by omega) (by omega)
      have e2 : IntKind.i64.wrap (b : Int) = b := wrap_fits (by omega) (by omega)
      have e3 : IntKind.i64.wrap (x : Int) = x := wrap_fits (by omega) (by omega)
      have e4 : IntKind.i64.wrap (y : Int) = y := wrap_fits (by omega) (by omega)
      have e5 : IntKind.i64.wrap ((k : Int) + 1) = (k : Int) + 1 := wrap_fits (by omega) (by omega)
      have HO1 : Hid ((wr.drew.alloc (.cells #[.int .i64 x, .int .i64 y] 33)).ownsRow w.heap.size 33 2 u6 k (pcells (l.take k))) := HO.out.drew.alloc _
      have HB1 : Hid (Below w.heap.size w (wr.drew.alloc (.cells #[.int .i64 x, .int .i64 y] 33))) := HB.out.drew.alloc HB.out.size _
      go_wp2_with fail
      go_region_law
        (first
        | (refine step_append_own (w := wr.drew.alloc (.cells #[.int .i64 x, .int .i64 y] 33)) (by rfl) _ _ 22 (by rfl) w.heap.size 33 i0 (.agg #[.int .i64 0, .int .i64 0]) 2 16 Try.underlying22 hi0 hz0 hz1 hz2 rfl (by omega) u6 k (pcells (l.take k)) (by simp [Act.eval]) HO1.out (some ⟨wr.drew.heap.size, 0, none⟩) _ rfl 1 1 [.int .i64 x, .int .i64 y] (by simp [Act.eval]) rfl (cell_two_new _ _ _ _) (by simp [Value.oneCell']) (by unfold maxLen; omega) (by omega) HB1.out.size ?_; intro v5 w5 hown5 hgrow5)
        | fail)
      all_goals
        have HO5 : Hid (w5.ownsRow w.heap.size 33 2 v5 (k + 1) (pcells (l.take (k + 1)))) := by
          rw [Hid, HT.out, HP.out, ← pcells_snoc]; exact hown5
        have HB5 : Hid (Below w.heap.size w w5) := HB1.out.grown hgrow5 HB1.out.size (fun q e => (HO1.out.lt q e).1)
        clear hown5 hgrow5 HO1 HB1
        go_wp2_with fail
        go_roundw
        case rel => exact ⟨k + 1, by omega, by go_num, HO5, HB5⟩
        case measure => simp [intOf]; omega
    · obtain rfl : k = s' := by omega
      have HO1 := HO.out
      rw [List.take_of_length_le (by rw [HL.out]; exact Nat.le_refl _)] at HO1
      have HO2 : Hid _ := HO1
      clear HO1
      go_wp2
      go_ret2
      exact ⟨_, rfl, by rw [HL.out]; exact HO2.out, HB.out⟩

end Go.Proofs.Ytehjbhblccjpeaa
