/- Parts of vertices as pairs of ints, in plain words: cut, asked for a vertex, held against the rules of parts. -/
import Derived.Test.YtmekaofjcjmklaaSByte
import Derived.Test.YtmekaofjcjmklaaRows
import Derived.WalkKit
import Derived.Below
namespace Go.Proofs.Ytmekaofjcjmklaa

namespace Pt
/-- Does the part x have v? -/
def has (x : Int × Int) (v : Int) : Bool := decide (x.1 ≤ v) && decide (v < x.2)

/-- The place of the first part from k on that has v. -/
def at_ : List (Int × Int) → Int → Nat → Int
  | [], _, _ => -1
  | x :: l, v, k => if has x v then k else at_ l v (k + 1)
/-- The place of the first part that has v, or -1. -/
def of (l : List (Int × Int)) (v : Int) : Int := at_ l v 0

theorem at_drop {l : List (Int × Int)} {v : Int} : ∀ (k : Nat), (∀ j, j < k → j < l.length → has (l.getD j (0, 0)) v = false) → at_ l v 0 = at_ (l.drop k) v k := by
  intro k
  induction k with
  | zero => intro _; rfl
  | succ k ih =>
    intro h
    rw [ih fun j hj => h j (by omega)]
    by_cases hk : k < l.length
    · rw [List.drop_eq_getElem_cons hk]
      have := h k (by omega) hk
      rw [List.getD_eq_getElem?_getD, List.getElem?_eq_getElem hk] at this
      have e : has l[k] v = false := this
      simp [at_, e]
    · rw [List.drop_of_length_le (by omega), List.drop_of_length_le (by omega)]; rfl
theorem of_hit {l : List (Int × Int)} {v : Int} {k : Nat} (hk : k < l.length) (h : ∀ j, j < k → j < l.length → has (l.getD j (0, 0)) v = false) (hh : has (l.getD k (0, 0)) v = true) : of l v = k := by
  unfold of
  rw [at_drop k h, List.drop_eq_getElem_cons hk]
  rw [List.getD_eq_getElem?_getD, List.getElem?_eq_getElem hk] at hh
  have e : has l[k] v = true := hh
  simp [at_, e]
theorem of_none {l : List (Int × Int)} {v : Int} (h : ∀ j, j < l.length → has (l.getD j (0, 0)) v = false) : of l v = -1 := by
  unfold of
  rw [at_drop l.length fun j _ hj => h j hj, List.drop_of_length_le (by omega)]; rfl
theorem at_cases : ∀ (l : List (Int × Int)) (v : Int) (k : Nat), (at_ l v k = -1 ∧ ∀ x ∈ l, has x v = false) ∨ ∃ j, j < l.length ∧ at_ l v k = ((k + j : Nat) : Int) ∧ has (l.getD j (0, 0)) v = true
  | [], _, _ => .inl ⟨rfl, by simp⟩
  | x :: l, v, k => by
    cases hx : has x v with
    | true => exact .inr ⟨0, by simp, by simp [at_, hx], by simpa using hx⟩
    | false =>
      rcases at_cases l v (k + 1) with ⟨h1, h2⟩ | ⟨j, hj, h1, h2⟩
      · refine .inl ⟨by simp [at_, hx, h1], ?_⟩
        intro y hy
        rcases List.mem_cons.1 hy with rfl | hy
        · exact hx
        · exact h2 y hy
      · refine .inr ⟨j + 1, by simpa using hj, ?_, by simpa using h2⟩
        simp [at_, hx, h1]; omega
theorem of_cases (l : List (Int × Int)) (v : Int) : (of l v = -1 ∧ ∀ x ∈ l, has x v = false) ∨ ∃ j, j < l.length ∧ of l v = (j : Int) ∧ has (l.getD j (0, 0)) v = true := by
  rcases at_cases l v 0 with h | ⟨j, h1, h2, h3⟩
  · exact .inl h
  · exact .inr ⟨j, h1, by rw [of, h2]; simp, h3⟩

/-- Where the parts end that follow on one another from e on, or none. -/
def run : Int → List (Int × Int) → Option Int
  | e, [] => some e
  | e, x :: l => if x.1 = e ∧ x.1 < x.2 then run x.2 l else none
/-- May a graph have n vertices? -/
def many (n : Int) : Bool := decide (1 ≤ n) && decide (n ≤ 256)
/-- ErrArg, if these are no parts of n vertices. -/
def chk (n : Int) (l : List (Int × Int)) : Int := if many n = true ∧ l.length ≤ 16 ∧ run 0 l = some n then 0 else 2

theorem run_app : ∀ (l m : List (Int × Int)) (e : Int), run e (l ++ m) = (run e l).bind fun e' => run e' m
  | [], m, e => by simp only [List.nil_append, run, Option.bind]
  | x :: l, m, e => by
    simp only [List.cons_append, run]
    by_cases h : x.1 = e ∧ x.1 < x.2
    · rw [if_pos h, if_pos h, run_app l m]
    · rw [if_neg h, if_neg h]; rfl
theorem run_take {l : List (Int × Int)} {e : Int} {k : Nat} (hk : k < l.length) : run 0 (l.take k) = some e → run 0 (l.take (k + 1)) = if (l.getD k (0, 0)).1 = e ∧ (l.getD k (0, 0)).1 < (l.getD k (0, 0)).2 then some (l.getD k (0, 0)).2 else none := by
  intro h
  rw [List.take_add_one, List.getElem?_eq_getElem hk, run_app, h]
  have e1 : l.getD k (0, 0) = l[k] := by simp [List.getD, hk]
  rw [e1]
  show run e [l[k]] = _
  by_cases c : l[k].1 = e ∧ l[k].1 < l[k].2
  · rw [if_pos c, run, if_pos c, run]
  · rw [if_neg c, run, if_neg c]
theorem run_cut {l : List (Int × Int)} {e : Int} (k : Nat) (h : run e (l.take k) = none) : run e l = none := by
  conv => lhs; rw [← List.take_append_drop k l]
  rw [run_app, h]; rfl
theorem run_ge : ∀ {l : List (Int × Int)} {e n : Int}, run e l = some n → e + l.length ≤ n
  | [], e, n, h => by simp [run] at h; simp; omega
  | x :: l, e, n, h => by
    unfold run at h
    by_cases c : x.1 = e ∧ x.1 < x.2
    · rw [if_pos c] at h
      have := run_ge h
      simp; omega
    · rw [if_neg c] at h; cases h

/-- The k-th of s parts of n vertices. -/
def one (n s k : Nat) : Int × Int := (((k * n / s : Nat) : Int), (((k + 1) * n / s : Nat) : Int))
def cuts (n s : Nat) : List (Int × Int) := (List.range s).map (one n s)
/-- May n vertices be cut in s parts? -/
def can (n s : Int) : Bool := many n && decide (1 ≤ s) && decide (s ≤ n) && decide (s ≤ 16)
def cut (n s : Int) : List (Int × Int) × Int := if can n s then (cuts n.toNat s.toNat, 0) else ([], 2)

theorem cuts_len (n s : Nat) : (cuts n s).length = s := by simp [cuts]
theorem cuts_get {n s k : Nat} (h : k < s) : (cuts n s).getD k (0, 0) = one n s k := by simp [cuts, List.getD, h]
end Pt

end Go.Proofs.Ytmekaofjcjmklaa
