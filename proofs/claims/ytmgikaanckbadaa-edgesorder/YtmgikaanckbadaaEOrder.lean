/- EdgesOrder's square of 256 times 256 places: which edges it has met, and how many unlike ones. -/
import Derived.Test.YtmgikaanckbadaaEOpen
import Derived.Test.YtmgikaanckbadaaEZero
import Derived.Deep.OwnRows
import Derived.Deep.RegionLaw
import Derived.Deep.AppendLies
namespace Go.Proofs.Ytmgikaanckbadaa
open Go.ChangeShapes Go.WideShapes Go.ChangeAt Go.RowKit Go.Shelf Go.Sort Go.Lib

theorem zero_square : ∃ c : Array Value, (∀ w, Sem.run Try.prog (zeroValue 41) w = .ok (.agg c) w) ∧ c.size = 65536 ∧ ∀ i, i < 65536 → c[i]? = some (.bool false) := by
  obtain ⟨l, n, h1, h2, h3, hn⟩ := zero_parts
  unfold Fs at h3
  refine ⟨l.toArray, fun w => ?_, ?_, fun i hi => ?_⟩
  · simp [zeroValue, typeInfo, h1, h2]
  · rw [List.size_toArray, h3, List.length_replicate, hn]
  · rw [← hn] at hi
    rw [List.getElem?_toArray, h3, List.getElem?_replicate, if_pos hi]

/-- The edge that place j of the square stands for. -/
def pr (j : Nat) : Int × Int := (((j / 256 : Nat) : Int), ((j % 256 : Nat) : Int))
theorem pr_at {v k : Nat} (hk : k < 256) : pr (v * 256 + k) = ((v : Int), (k : Int)) := by
  unfold pr
  have h1 : (v * 256 + k) / 256 = v := by omega
  have h2 : (v * 256 + k) % 256 = k := by omega
  rw [h1, h2]
/-- The edges of l that lie at the first t places. -/
def hd (l : List (Int × Int)) (t : Nat) : List (Int × Int) := (List.range t).filterMap fun j => if pr j ∈ l then some (pr j) else none
theorem hd_zero (l : List (Int × Int)) : hd l 0 = [] := rfl
theorem hd_step (l : List (Int × Int)) {v k : Nat} (hk : k < 256) : hd l (v * 256 + (k + 1)) = hd l (v * 256 + k) ++ (if ((v : Int), (k : Int)) ∈ l then [((v : Int), (k : Int))] else []) := by
  unfold hd
  rw [← Nat.add_assoc, List.range_succ, List.filterMap_append]
  congr 1
  have e := pr_at (v := v) hk
  by_cases h : ((v : Int), (k : Int)) ∈ l
  · rw [if_pos h]; simp [e, h]
  · rw [if_neg h]; simp [e, h]
theorem hd_yes {l : List (Int × Int)} {v k : Nat} (hk : k < 256) (h : ((v : Int), (k : Int)) ∈ l) : (hd l (v * 256 + (k + 1))).length = (hd l (v * 256 + k)).length + 1 := by
  rw [hd_step l hk, if_pos h]; simp
theorem hd_no {l : List (Int × Int)} {v k : Nat} (hk : k < 256) (h : ((v : Int), (k : Int)) ∉ l) : (hd l (v * 256 + (k + 1))).length = (hd l (v * 256 + k)).length := by
  rw [hd_step l hk, if_neg h]; simp
theorem hd_le (l : List (Int × Int)) (t : Nat) : (hd l t).length ≤ t := by
  have := List.length_filterMap_le (fun j => if pr j ∈ l then some (pr j) else none) (List.range t)
  simpa [hd] using this
theorem hd_rising (l : List (Int × Int)) (t : Nat) : Ed.Rising (hd l t) := by
  unfold Ed.Rising hd
  refine List.Pairwise.filterMap _ ?_ (List.pairwise_lt_range (n := t))
  intro a b hab x hx y hy
  by_cases ha : pr a ∈ l
  · by_cases hb : pr b ∈ l
    · simp only [if_pos ha, Option.some.injEq] at hx
      simp only [if_pos hb, Option.some.injEq] at hy
      subst hx hy
      rw [Ed.lt_iff]
      unfold pr
      by_cases e : a / 256 = b / 256
      · right; constructor
        · simp [e]
        · simp; omega
      · left; simp; omega
    · simp [hb] at hy
  · simp [ha] at hx
theorem hd_mem {l : List (Int × Int)} (h : ∀ x ∈ l, ∃ a b : Nat, x = ((a : Int), (b : Int)) ∧ a < 256 ∧ b < 256) (x : Int × Int) : x ∈ hd l 65536 ↔ x ∈ l := by
  unfold hd
  rw [List.mem_filterMap]
  constructor
  · rintro ⟨j, _, hj⟩
    by_cases hp : pr j ∈ l
    · rw [if_pos hp] at hj; cases hj; exact hp
    · rw [if_neg hp] at hj; cases hj
  · intro hx
    obtain ⟨a, b, rfl, ha, hb⟩ := h x hx
    refine ⟨a * 256 + b, List.mem_range.2 (by omega), ?_⟩
    rw [pr_at hb, if_pos hx]
theorem hd_all {l : List (Int × Int)} (h : ∀ x ∈ l, ∃ a b : Nat, x = ((a : Int), (b : Int)) ∧ a < 256 ∧ b < 256) : hd l 65536 = Ed.nrm l := Ed.nrm_of (hd_rising l _) (hd_mem h)

/-- The square when the first k edges of l are met. -/
def sqf (l : List (Int × Int)) (k : Nat) (j : Nat) : Value := .bool (decide (pr j ∈ l.take k))
theorem sqf_zero (l : List (Int × Int)) (j : Nat) : sqf l 0 j = .bool false := by simp [sqf]
theorem sqf_step {l : List (Int × Int)} {k a b : Nat} (hk : k < l.length) (he : l.getD k e0 = ((a : Int), (b : Int))) (hb : b < 256) (j : Nat) :
    (if j = a * 256 + b then Value.bool true else sqf l k j) = sqf l (k + 1) j := by
  unfold sqf
  rw [take_succ_e l k hk, he]
  by_cases e : j = a * 256 + b
  · rw [if_pos e, e, pr_at hb]; simp
  · rw [if_neg e]
    congr 2
    simp only [List.mem_append, List.mem_singleton, eq_iff_iff]
    constructor
    · exact .inl
    · rintro (h | h)
      · exact h
      · exfalso
        apply e
        unfold pr at h
        simp only [Prod.mk.injEq] at h
        omega

/-- Block B is the square, its places as f tells. -/
def Sq (W : World) (B : Nat) (f : Nat → Value) : Prop := W.rowIs B 41 65536 f

theorem step_append_own {P : Program} {w : World} {ops : Array Oper} {o : Oper} {a : Act} {K : Act → World → Prop} {Q : Exit → Act → World → Prop} {E : Prop} (hgd : o.guard = none) (s x : Operand) (t : TypeId)
    (ho : o.op = .call { callee := .builtin .append, args := #[s, x], argTypes := #[t, t] })
    (base : Nat) (e : TypeId) (i : TypeInfo) (z : Value) (size bytes : Nat) (ht : P.underlying t = some (.slice e)) (hi : P.info? e = some i) (hz : i.zero = some z)
    (hsize : i.size = size) (hby : i.bytes = bytes) (hzs : z.cells.size = size) (hsz : 0 < size)
    (v : Value) (n : Nat) (xs : List Value) (hs : a.eval s = v) (hown : w.ownsRow base e size v n xs)
    (adr : Option Addr) (ad : Addr) (hadr : adr = some ad) (m c : Nat) (news : List Value) (hx : a.eval x = .slice adr m c) (hl : news.length = m * size) (hnews : ∀ j u, news[j]? = some u → w.cell? (ad.add j) = some u) (h1 : ∀ u ∈ news, u.oneCell' = true)
    (h63 : n + m ≤ maxLen) (hbytes : (n + m) * bytes ≤ 140737488355328) (hbase : base ≤ w.heap.size)
    (h : ∀ v' w', w'.ownsRow base e size v' (n + m) (xs ++ news) → w.grownBy w' v.ownBlock → K (a.put o.dst v') w') :
    if Region.wanted o (yielded ops a.tmps) = true then Oper.wp P o a w K Q else E := by
  have hw : Region.wanted o (yielded ops a.tmps) = true := by simp [Region.wanted, hgd]
  rw [if_pos hw]
  rw [hadr] at hx
  exact wp_append_own w s x t ho base e i z size bytes ht hi hz hsize hby hzs hsz v n xs hs hown ad m c news hx hl hnews h1 h63 hbytes hbase fun v' w' h2 h3 _ => h v' w' h2 h3

theorem ecells_drop2 (l : List (Int × Int)) (n : Nat) : (ecells l).drop (n * 2) = ecells (l.drop n) := by
  induction l generalizing n with
  | nil => simp [ecells]
  | cons x l ih =>
    cases n with
    | zero => simp [ecells]
    | succ n =>
      rw [show (n + 1) * 2 = n * 2 + 1 + 1 by omega]
      have e : ecells (x :: l) = .int .i64 x.1 :: .int .i64 x.2 :: ecells l := rfl
      rw [e, List.drop_succ_cons, List.drop_succ_cons, ih]
      rfl

/-- The cells of a row of the call's own, from place k on. -/
theorem own_from {W : World} {base g n cap : Nat} {l : List (Int × Int)} (h : W.ownsRow base 24 2 (.slice (some ⟨g, 0, none⟩) n cap) n (ecells l)) (k : Nat) :
    ∀ j u, (ecells (l.drop k))[j]? = some u → W.cell? ((⟨g, k * 2, none⟩ : Addr).add j) = some u := by
  intro j u hj
  rw [← ecells_drop2, List.getElem?_drop] at hj
  have hlen := h.1
  rw [Addr.add_lit, h.cellAt _ (by have := (List.getElem?_eq_some_iff.1 hj).1; omega)]
  exact hj
theorem own_upto {W : World} {base g n cap : Nat} {l : List (Int × Int)} (h : W.ownsRow base 24 2 (.slice (some ⟨g, 0, none⟩) n cap) n (ecells l)) (k : Nat) :
    ∀ j u, (ecells (l.take k))[j]? = some u → W.cell? ((⟨g, 0, none⟩ : Addr).add j) = some u := by
  intro j u hj
  rw [← ecells_take] at hj
  have hlen := h.1
  have hjk : j < k * 2 := by
    rcases Nat.lt_or_ge j (k * 2) with h | h
    · exact h
    · rw [List.getElem?_take_eq_none h] at hj; cases hj
  rw [List.getElem?_take_of_lt hjk] at hj
  rw [Addr.add_lit, Nat.zero_add, h.cellAt _ (by have := (List.getElem?_eq_some_iff.1 hj).1; omega)]
  exact hj


/-- Nothing is appended. -/
theorem run_append_zero {P : Program} (w : World) (t ty e : TypeId) (i : TypeInfo) (ht : P.underlying t = some (.slice e)) (hi : P.info? e = some i) (base : Option Addr) (n cap : Nat) (hle : n ≤ cap) (ao : Option Addr) (c : Nat) :
    (Builtin.append_ #[t, t] ty #[.slice base n cap, .slice ao 0 c]).run P w = .ok (.slice base n cap) w := by
  have h1 : (Builtin.firstCells i.size 0 (.slice ao 0 c)).run P w = .ok #[] w := by
    cases ao with
    | none => exact run_firstCells_none _ _ _ _ _
    | some ad => exact run_firstCells_some (P := P) w i.size 0 ad 0 c [] (by simp) (by simp)
  cases base <;> simp [Builtin.append_, run_underlying ht, sizeOf, typeInfo, hi, Builtin.lenOf, hle, h1, storeCells]
theorem step_append_zero {P : Program} {ops : Array Oper} {o : Oper} {a : Act} {w : World} {K : Act → World → Prop} {Q : Exit → Act → World → Prop} {E : Prop}
    (hg : o.guard = none) (s x : Operand) (t : TypeId) (hop : o.op = Op.call { callee := Callee.builtin Builtin.append, args := #[s, x], argTypes := #[t, t] })
    (e : TypeId) (i : TypeInfo) (ht : P.underlying t = some (.slice e)) (hi : P.info? e = some i) (base : Option Addr) (n cap : Nat) (hle : n ≤ cap) (hs : a.eval s = .slice base n cap)
    (ao : Option Addr) (m c : Nat) (hx : a.eval x = .slice ao m c) (hm : m = 0) (hK : K (a.put o.dst (.slice base n cap)) w) :
    if Region.wanted o (yielded ops a.tmps) = true then Oper.wp P o a w K Q else E := by
  have hw : Region.wanted o (yielded ops a.tmps) = true := by simp [Region.wanted, hg]
  rw [if_pos hw]
  subst hm
  have hrun := run_append_zero (P := P) w t o.type e i ht hi base n cap hle ao c
  unfold Oper.wp
  simp [execOp, hop, resolve, invoke, builtin, hs, hx, hrun, Result.andThen]
  exact hK

theorem rising_next {l : List (Int × Int)} (h : Ed.Rising l) {k : Nat} (h1 : 0 < k) (h2 : k < l.length) : Ed.lt (l.getD (k - 1) e0) (l.getD k e0) = true := by
  have := List.pairwise_iff_getElem.1 h (k - 1) k (by omega) h2 (by omega)
  simpa [List.getD, h2, show k - 1 < l.length by omega] using this

end Go.Proofs.Ytmgikaanckbadaa
