/- The shard of edges and of a part, and the edges of a shard, in plain words: the edges of the shards of parts that follow on one another are all edges. -/
import Derived.Test.YtbhngncnhabbkaaGreatERow
import Derived.Test.YtbhngncnhabbkaaGreatRows
import Derived.WalkKit
import Derived.Below
namespace Go.Proofs.YtbhngncnhabbkaaGreat
namespace Sh

/-- The ends of the edges that begin at v, rising, each once. -/
def ends (l : List (Int × Int)) (v : Int) : List Int := (Ed.nrm (l.filter fun x => decide (x.1 = v))).map (·.2)

theorem ends_edges (l : List (Int × Int)) (v : Int) : (ends l v).map (fun x => (v, x)) = Ed.nrm (l.filter fun x => decide (x.1 = v)) := by
  unfold ends
  rw [List.map_map]
  conv => rhs; rw [← List.map_id (Ed.nrm _)]
  refine List.map_congr_left fun x hx => ?_
  rw [Ed.mem_nrm, List.mem_filter] at hx
  have : x.1 = v := by simpa using hx.2
  exact Prod.ext this.symm rfl
theorem mem_ends {l : List (Int × Int)} {v x : Int} : x ∈ ends l v ↔ (v, x) ∈ l := by
  have h : x ∈ ends l v ↔ (v, x) ∈ (ends l v).map (fun x => (v, x)) := by simp
  rw [h, ends_edges, Ed.mem_nrm, List.mem_filter]
  simp
theorem rise_map {v : Int} {a : List Int} : Ed.Rising (a.map fun x => (v, x)) ↔ a.Pairwise (· < ·) := by
  unfold Ed.Rising
  rw [List.pairwise_map]
  refine ⟨fun h => h.imp fun h => ?_, fun h => h.imp fun h => ?_⟩
  · rw [Ed.lt_iff] at h; dsimp only at h; omega
  · rw [Ed.lt_iff]; dsimp only; omega
theorem ends_rise (l : List (Int × Int)) (v : Int) : (ends l v).Pairwise (· < ·) := by
  rw [← rise_map (v := v), ends_edges]; exact Ed.nrm_rising _
theorem ends_unique {l : List (Int × Int)} {v : Int} {a : List Int} (h : a.Pairwise (· < ·)) (hm : ∀ x, x ∈ a ↔ (v, x) ∈ l) : ends l v = a := by
  have e : (ends l v).map (fun x => (v, x)) = a.map fun x => (v, x) := by
    refine Ed.rising_unique (rise_map.2 (ends_rise l v)) (rise_map.2 h) fun y => ?_
    simp only [List.mem_map]
    constructor
    · rintro ⟨x, hx, rfl⟩; exact ⟨x, (hm x).2 (mem_ends.1 hx), rfl⟩
    · rintro ⟨x, hx, rfl⟩; exact ⟨x, mem_ends.2 ((hm x).1 hx), rfl⟩
  have e2 := congrArg (List.map (·.2)) e
  simpa [List.map_map, Function.comp_def] using e2
theorem ends_len (l : List (Int × Int)) (v : Int) : (ends l v).length ≤ l.length := by
  unfold ends
  rw [List.length_map]
  exact Nat.le_trans (Ed.nrm_len _) (List.length_filter_le _ _)
theorem ends_nil (v : Int) : ends [] v = [] := rfl
theorem ends_skip {l : List (Int × Int)} {v : Int} {e : Int × Int} (h : e.1 ≠ v) : ends (l ++ [e]) v = ends l v := by
  refine ends_unique (ends_rise l v) fun x => ?_
  rw [mem_ends, List.mem_append, List.mem_singleton]
  refine ⟨.inl, fun k => k.resolve_right ?_⟩
  rintro rfl
  exact h rfl
theorem ends_have {l : List (Int × Int)} {v : Int} {e : Int × Int} (h : e.2 ∈ ends l v) : ends (l ++ [e]) v = ends l v := by
  by_cases hv : e.1 = v
  · refine ends_unique (ends_rise l v) fun x => ?_
    rw [mem_ends, List.mem_append, List.mem_singleton]
    refine ⟨.inl, fun k => k.elim id ?_⟩
    intro k
    rw [← k] at h
    exact mem_ends.1 h
  · exact ends_skip hv
theorem ends_put {l : List (Int × Int)} {v : Int} {e : Int × Int} (hv : e.1 = v) (k : Nat) (hk : k ≤ (ends l v).length) (h1 : ∀ j, j < k → (ends l v).getD j 0 < e.2) (h2 : ∀ j, k ≤ j → j < (ends l v).length → e.2 < (ends l v).getD j 0) :
    ends (l ++ [e]) v = (ends l v).take k ++ e.2 :: (ends l v).drop k := by
  have hr := ends_rise l v
  have hm : ∀ x, x ∈ ends l v ↔ (v, x) ∈ l := fun x => mem_ends
  generalize ends l v = a at *
  refine ends_unique ?_ fun x => ?_
  · have hsp : (a.take k ++ a.drop k).Pairwise (· < ·) := by rw [List.take_append_drop]; exact hr
    rw [List.pairwise_append] at hsp ⊢
    obtain ⟨p1, p2, p3⟩ := hsp
    have t1 : ∀ x ∈ a.take k, x < e.2 := fun x hx => by
      obtain ⟨j, hj, rfl⟩ := List.mem_iff_getElem.1 hx
      rw [List.length_take] at hj
      have := h1 j (by omega)
      rw [List.getElem_take]
      simpa [List.getD, show j < a.length by omega] using this
    have t2 : ∀ x ∈ a.drop k, e.2 < x := fun x hx => by
      obtain ⟨j, hj, rfl⟩ := List.mem_iff_getElem.1 hx
      rw [List.length_drop] at hj
      have := h2 (k + j) (by omega) (by omega)
      rw [List.getElem_drop]
      simpa [List.getD, show k + j < a.length by omega] using this
    refine ⟨p1, List.pairwise_cons.2 ⟨t2, p2⟩, fun x hx y hy => ?_⟩
    rcases List.mem_cons.1 hy with rfl | hy
    · exact t1 x hx
    · exact p3 x hx y hy
  · rw [List.mem_append, List.mem_cons, List.mem_append, List.mem_singleton, ← hm]
    have e1 : x ∈ a ↔ x ∈ a.take k ∨ x ∈ a.drop k := by rw [← List.mem_append, List.take_append_drop]
    rw [e1]
    have e2 : (v, x) = e ↔ x = e.2 := by
      constructor
      · intro h; rw [← h]
      · intro h; rw [h, ← hv]
    rw [e2]
    constructor
    · rintro (h | h | h)
      · exact .inl (.inl h)
      · exact .inr h
      · exact .inl (.inr h)
    · rintro ((h | h) | h)
      · exact .inl h
      · exact .inr (.inr h)
      · exact .inr (.inl h)

/-- The lists of n vertices from a on. -/
def ofP (l : List (Int × Int)) (a : Int) (n : Nat) : List (List Int) := (List.range n).map fun i : Nat => ends l (a + i)
theorem ofP_len (l : List (Int × Int)) (a : Int) (n : Nat) : (ofP l a n).length = n := by simp [ofP]
theorem ofP_succ (l : List (Int × Int)) (a : Int) (n : Nat) : ofP l a (n + 1) = ofP l a n ++ [ends l (a + n)] := by simp [ofP, List.range_succ]
/-- What Make tells. -/
def mk (l : List (Int × Int)) (p : Int × Int) : Shard := if mayP p = true then (p, ofP l p.1 (p.2 - p.1).toNat) else none_

/-- What Edges tells. -/
def edsF (a : Int) : Nat → List (List Int) → List (Int × Int)
  | _, [] => []
  | i, l :: r => l.map (fun x => (IntKind.i64.wrap (a + i), x)) ++ edsF a (i + 1) r
def eds (s : Shard) : List (Int × Int) := edsF s.1.1 0 s.2

theorem edsF_app (a : Int) : ∀ (i : Nat) (o q : List (List Int)), edsF a i (o ++ q) = edsF a i o ++ edsF a (i + o.length) q
  | i, [], q => by simp [edsF]
  | i, l :: o, q => by
    rw [List.cons_append, edsF, edsF, edsF_app a (i + 1) o q, List.append_assoc, List.length_cons, show i + 1 + o.length = i + (o.length + 1) by omega]
theorem eds_len (a : Int) : ∀ (i : Nat) (o : List (List Int)), (edsF a i o).length = many o
  | i, [] => rfl
  | i, l :: o => by
    rw [edsF, List.length_append, List.length_map, eds_len a (i + 1) o]; simp [many]

/-- The edges of l that begin from a on, ahead of b. -/
def cutE (l : List (Int × Int)) (a b : Int) : List (Int × Int) := Ed.nrm (l.filter fun x => decide (a ≤ x.1) && decide (x.1 < b))
theorem mem_cutE {l : List (Int × Int)} {a b : Int} {x : Int × Int} : x ∈ cutE l a b ↔ x ∈ l ∧ a ≤ x.1 ∧ x.1 < b := by
  unfold cutE
  rw [Ed.mem_nrm, List.mem_filter]
  simp
theorem cutE_rising (l : List (Int × Int)) (a b : Int) : Ed.Rising (cutE l a b) := Ed.nrm_rising _
theorem cutE_len (l : List (Int × Int)) (a b : Int) : (cutE l a b).length ≤ l.length := Nat.le_trans (Ed.nrm_len _) (List.length_filter_le _ _)
theorem cutE_none (l : List (Int × Int)) (a : Int) : cutE l a a = [] := by
  apply List.eq_nil_iff_forall_not_mem.2
  intro x hx
  have := mem_cutE.1 hx
  omega
theorem rising_app {a b : List (Int × Int)} (ha : Ed.Rising a) (hb : Ed.Rising b) (h : ∀ x ∈ a, ∀ y ∈ b, x.1 < y.1) : Ed.Rising (a ++ b) :=
  List.pairwise_append.2 ⟨ha, hb, fun x hx y hy => by rw [Ed.lt_iff]; exact .inl (h x hx y hy)⟩
theorem cutE_app (l : List (Int × Int)) {a b c : Int} (h1 : a ≤ b) (h2 : b ≤ c) : cutE l a b ++ cutE l b c = cutE l a c := by
  refine Ed.rising_unique (rising_app (cutE_rising _ _ _) (cutE_rising _ _ _) fun x hx y hy => ?_) (cutE_rising _ _ _) fun x => ?_
  · have := mem_cutE.1 hx
    have := mem_cutE.1 hy
    omega
  · rw [List.mem_append, mem_cutE, mem_cutE, mem_cutE]
    constructor
    · rintro (⟨h, h3, h4⟩ | ⟨h, h3, h4⟩)
      · exact ⟨h, h3, by omega⟩
      · exact ⟨h, by omega, h4⟩
    · rintro ⟨h, h3, h4⟩
      by_cases hc : x.1 < b
      · exact .inl ⟨h, h3, hc⟩
      · exact .inr ⟨h, by omega, h4⟩
theorem cutE_one (l : List (Int × Int)) (v : Int) : cutE l v (v + 1) = (ends l v).map fun x => (v, x) := by
  rw [ends_edges]
  refine Ed.rising_unique (cutE_rising _ _ _) (Ed.nrm_rising _) fun x => ?_
  rw [mem_cutE, Ed.mem_nrm, List.mem_filter, decide_eq_true_eq]
  constructor
  · rintro ⟨h1, h2, h3⟩; exact ⟨h1, by omega⟩
  · rintro ⟨h1, h2⟩; exact ⟨h1, by omega, by omega⟩
theorem cutE_all {l : List (Int × Int)} {a b : Int} (h : Ed.Rising l) (hl : ∀ x ∈ l, a ≤ x.1 ∧ x.1 < b) : cutE l a b = l := by
  refine Ed.rising_unique (cutE_rising _ _ _) h fun x => ?_
  rw [mem_cutE]
  exact ⟨fun h => h.1, fun h => ⟨h, hl x h⟩⟩

theorem wrap_in {x : Int} (h : -9223372036854775808 ≤ x ∧ x ≤ 9223372036854775807) : IntKind.i64.wrap x = x := IntWalk.i64_in _ (by omega)
theorem eds_ofP (l : List (Int × Int)) (a : Int) (ha : 0 ≤ a ∧ a ≤ 256) : ∀ n, n ≤ 256 → edsF a 0 (ofP l a n) = cutE l a (a + n)
  | 0, _ => by simp [ofP, edsF, cutE_none]
  | n + 1, hn => by
    rw [ofP_succ, edsF_app, ofP_len, eds_ofP l a ha n (by omega), Nat.zero_add, edsF, edsF, List.append_nil, wrap_in (by omega), ← cutE_one,
      cutE_app l (by omega) (by omega), show a + (n : Int) + 1 = a + ((n + 1 : Nat) : Int) by omega]
theorem eds_mk (l : List (Int × Int)) {p : Int × Int} (hp : mayP p = true) : eds (mk l p) = cutE l p.1 p.2 := by
  have h := mayP_iff.1 hp
  unfold mk eds
  rw [if_pos hp]
  dsimp only
  rw [eds_ofP l p.1 (by omega) _ (by omega), show p.1 + ((p.2 - p.1).toNat : Int) = p.2 by omega]
theorem mk_part (l : List (Int × Int)) {p : Int × Int} (hp : mayP p = true) : (mk l p).1 = p := by unfold mk; rw [if_pos hp]

theorem up_of_rise : ∀ {a : Int} {l : List Int}, l.Pairwise (· < ·) → (∀ x ∈ l, a < x) → Gp.up a l = true
  | _, [], _, _ => rfl
  | a, n :: r, h, ha => by
    obtain ⟨h1, h2⟩ := List.pairwise_cons.1 h
    simp only [Gp.up, Bool.and_eq_true, decide_eq_true_eq]
    exact ⟨ha n List.mem_cons_self, up_of_rise h2 h1⟩
theorem okF_of (l : List (Int × Int)) (hl : ∀ x ∈ l, 0 ≤ x.2 ∧ x.2 < 256 ∧ x.1 ≠ x.2) : ∀ (n : Nat) (a : Int), okF a ((List.range n).map fun i => ends l (a + (i : Nat))) = true
  | 0, _ => rfl
  | n + 1, a => by
    rw [List.range_succ_eq_map, List.map_cons, List.map_map]
    have h := okF_of l hl n (a + 1)
    have e : ((fun i : Nat => ends l (a + (i : Nat))) ∘ Nat.succ) = fun i : Nat => ends l (a + 1 + (i : Nat)) := by
      funext i
      show ends l (a + ((i + 1 : Nat) : Int)) = _
      rw [show a + ((i + 1 : Nat) : Int) = a + 1 + (i : Int) by omega]
    rw [e, okF, h, Bool.and_true]
    have hz : a + ((0 : Nat) : Int) = a := by omega
    rw [hz]
    unfold okL
    rw [Bool.and_eq_true]
    refine ⟨up_of_rise (ends_rise l a) fun x hx => ?_, List.all_eq_true.2 fun x hx => ?_⟩
    · have := hl _ (mem_ends.1 hx); dsimp only at this; omega
    · have := hl _ (mem_ends.1 hx); dsimp only at this; simp; omega
/-- Of edges that may be, and of a part, there is a shard that may be. -/
theorem mk_may {l : List (Int × Int)} {p : Int × Int} (hp : mayP p = true) (hl : ∀ x ∈ l, 0 ≤ x.2 ∧ x.2 < 256 ∧ x.1 ≠ x.2) (hn : l.length ≤ 4096) : may (mk l p) = true := by
  have h := mayP_iff.1 hp
  have hm := eds_mk l hp
  have hm2 : many (mk l p).2 ≤ 4096 := by
    have := eds_len (mk l p).1.1 0 (mk l p).2
    rw [show edsF (mk l p).1.1 0 (mk l p).2 = cutE l p.1 p.2 from hm] at this
    have := cutE_len l p.1 p.2
    omega
  rw [may_iff, mk_part l hp]
  refine ⟨hp, ?_, ?_, hm2⟩
  · unfold mk; rw [if_pos hp]; dsimp only; rw [ofP_len]; omega
  · unfold mk; rw [if_pos hp]; exact okF_of l hl _ _
end Sh

end Go.Proofs.YtbhngncnhabbkaaGreat

/- Parts of vertices as pairs of ints, in plain words: cut, asked for a vertex, held against the rules of parts. -/
namespace Go.Proofs.YtbhngncnhabbkaaGreat

namespace Pt
/-- Does the part x have v? -/
def has (x : Int × Int) (v : Int) : Bool := decide (x.1 ≤ v) && decide (v < x.2)

/-- The place of the first part from k on that has v. -/
def at_ : List (Int × Int) → Int → Nat → Int
  | [], _, _ => -1
  | x :: l, v, k => if has x v then k else at_ l v (k + 1)
/-- The place of the first part that has v, or -1. -/
def of (l : List (Int × Int)) (v : Int) : Int := at_ l v 0

theorem at_drop {l : List (Int × Int)} {v : Int} : ∀ (k : Nat), (∀ j, j < k → j < l.length → has (l.getD j (0, 0)) v = false) → at_ l v 0 = at_ (l.drop k) v k := by
  intro k
  induction k with
  | zero => intro _; rfl
  | succ k ih =>
    intro h
    rw [ih fun j hj => h j (by omega)]
    by_cases hk : k < l.length
    · rw [List.drop_eq_getElem_cons hk]
      have := h k (by omega) hk
      rw [List.getD_eq_getElem?_getD, List.getElem?_eq_getElem hk] at this
      have e : has l[k] v = false := this
      simp [at_, e]
    · rw [List.drop_of_length_le (by omega), List.drop_of_length_le (by omega)]; rfl
theorem of_hit {l : List (Int × Int)} {v : Int} {k : Nat} (hk : k < l.length) (h : ∀ j, j < k → j < l.length → has (l.getD j (0, 0)) v = false) (hh : has (l.getD k (0, 0)) v = true) : of l v = k := by
  unfold of
  rw [at_drop k h, List.drop_eq_getElem_cons hk]
  rw [List.getD_eq_getElem?_getD, List.getElem?_eq_getElem hk] at hh
  have e : has l[k] v = true := hh
  simp [at_, e]
theorem of_none {l : List (Int × Int)} {v : Int} (h : ∀ j, j < l.length → has (l.getD j (0, 0)) v = false) : of l v = -1 := by
  unfold of
  rw [at_drop l.length fun j _ hj => h j hj, List.drop_of_length_le (by omega)]; rfl
theorem at_cases : ∀ (l : List (Int × Int)) (v : Int) (k : Nat), (at_ l v k = -1 ∧ ∀ x ∈ l, has x v = false) ∨ ∃ j, j < l.length ∧ at_ l v k = ((k + j : Nat) : Int) ∧ has (l.getD j (0, 0)) v = true
  | [], _, _ => .inl ⟨rfl, by simp⟩
  | x :: l, v, k => by
    cases hx : has x v with
    | true => exact .inr ⟨0, by simp, by simp [at_, hx], by simpa using hx⟩
    | false =>
      rcases at_cases l v (k + 1) with ⟨h1, h2⟩ | ⟨j, hj, h1, h2⟩
      · refine .inl ⟨by simp [at_, hx, h1], ?_⟩
        intro y hy
        rcases List.mem_cons.1 hy with rfl | hy
        · exact hx
        · exact h2 y hy
      · refine .inr ⟨j + 1, by simpa using hj, ?_, by simpa using h2⟩
        simp [at_, hx, h1]; omega
theorem of_cases (l : List (Int × Int)) (v : Int) : (of l v = -1 ∧ ∀ x ∈ l, has x v = false) ∨ ∃ j, j < l.length ∧ of l v = (j : Int) ∧ has (l.getD j (0, 0)) v = true := by
  rcases at_cases l v 0 with h | ⟨j, h1, h2, h3⟩
  · exact .inl h
  · exact .inr ⟨j, h1, by rw [of, h2]; simp, h3⟩

/-- Where the parts end that follow on one another from e on, or none. -/
def run : Int → List (Int × Int) → Option Int
  | e, [] => some e
  | e, x :: l => if x.1 = e ∧ x.1 < x.2 then run x.2 l else none
/-- May a graph have n vertices? -/
def many (n : Int) : Bool := decide (1 ≤ n) && decide (n ≤ 256)
/-- ErrArg, if these are no parts of n vertices. -/
def chk (n : Int) (l : List (Int × Int)) : Int := if many n = true ∧ l.length ≤ 16 ∧ run 0 l = some n then 0 else 2

theorem run_app : ∀ (l m : List (Int × Int)) (e : Int), run e (l ++ m) = (run e l).bind fun e' => run e' m
  | [], m, e => by simp only [List.nil_append, run, Option.bind]
  | x :: l, m, e => by
    simp only [List.cons_append, run]
    by_cases h : x.1 = e ∧ x.1 < x.2
    · rw [if_pos h, if_pos h, run_app l m]
    · rw [if_neg h, if_neg h]; rfl
theorem run_take {l : List (Int × Int)} {e : Int} {k : Nat} (hk : k < l.length) : run 0 (l.take k) = some e → run 0 (l.take (k + 1)) = if (l.getD k (0, 0)).1 = e ∧ (l.getD k (0, 0)).1 < (l.getD k (0, 0)).2 then some (l.getD k (0, 0)).2 else none := by
  intro h
  rw [List.take_add_one, List.getElem?_eq_getElem hk, run_app, h]
  have e1 : l.getD k (0, 0) = l[k] := by simp [List.getD, hk]
  rw [e1]
  show run e [l[k]] = _
  by_cases c : l[k].1 = e ∧ l[k].1 < l[k].2
  · rw [if_pos c, run, if_pos c, run]
  · rw [if_neg c, run, if_neg c]
theorem run_cut {l : List (Int × Int)} {e : Int} (k : Nat) (h : run e (l.take k) = none) : run e l = none := by
  conv => lhs; rw [← List.take_append_drop k l]
  rw [run_app, h]; rfl
theorem run_ge : ∀ {l : List (Int × Int)} {e n : Int}, run e l = some n → e + l.length ≤ n
  | [], e, n, h => by simp [run] at h; simp; omega
  | x :: l, e, n, h => by
    unfold run at h
    by_cases c : x.1 = e ∧ x.1 < x.2
    · rw [if_pos c] at h
      have := run_ge h
      simp; omega
    · rw [if_neg c] at h; cases h

/-- The k-th of s parts of n vertices. -/
def one (n s k : Nat) : Int × Int := (((k * n / s : Nat) : Int), (((k + 1) * n / s : Nat) : Int))
def cuts (n s : Nat) : List (Int × Int) := (List.range s).map (one n s)
/-- May n vertices be cut in s parts? -/
def can (n s : Int) : Bool := many n && decide (1 ≤ s) && decide (s ≤ n) && decide (s ≤ 16)
def cut (n s : Int) : List (Int × Int) × Int := if can n s then (cuts n.toNat s.toNat, 0) else ([], 2)

theorem cuts_len (n s : Nat) : (cuts n s).length = s := by simp [cuts]
theorem cuts_get {n s k : Nat} (h : k < s) : (cuts n s).getD k (0, 0) = one n s k := by simp [cuts, List.getD, h]
end Pt

end Go.Proofs.YtbhngncnhabbkaaGreat
