/- Lists and shards in plain words, place by place. -/
import Derived.Test.YtbhngncnhabbkaaHSame
namespace Go.Proofs.Ytbhngncnhabbkaa
open Go.RowKit

namespace Sh
theorem okF_take (a : Int) : ∀ (o : List (List Int)) (k : Nat), k < o.length → okF a (o.take (k + 1)) = (okF a (o.take k) && okL (a + k) (o.getD k []))
  | [], k, h => by simp at h
  | l :: o, 0, _ => by simp [okF]
  | l :: o, k + 1, h => by
    rw [List.take_succ_cons, okF, okF_take (a + 1) o k (by simpa using h), List.take_succ_cons, okF, Bool.and_assoc, show a + 1 + (k : Int) = a + ((k + 1 : Nat) : Int) by omega]
    rfl
theorem okF_stop {a : Int} {o : List (List Int)} {k : Nat} (h : okF a (o.take k) = false) : okF a o = false := by
  conv => lhs; rw [← List.take_append_drop k o]
  generalize o.take k = u at *
  generalize o.drop k = z at *
  induction u generalizing a with
  | nil => simp [okF] at h
  | cons l u ih =>
    rw [List.cons_append, okF]
    rw [okF] at h
    cases hl : okL a l with
    | false => rfl
    | true =>
      rw [hl, Bool.true_and] at h
      rw [ih h]; simp
theorem okL_iff {v : Int} {l : List Int} : okL v l = true ↔ Gp.up (-1) l = true ∧ ∀ j, j < l.length → l.getD j 0 < 256 ∧ l.getD j 0 ≠ v := by
  unfold okL
  rw [Bool.and_eq_true, List.all_eq_true]
  refine and_congr_right fun _ => ⟨fun h j hj => ?_, fun h x hx => ?_⟩
  · have := h (l.getD j 0) (by rw [List.getD_eq_getElem?_getD, List.getElem?_eq_getElem hj]; exact List.getElem_mem hj)
    simpa using this
  · obtain ⟨j, hj, rfl⟩ := List.mem_iff_getElem.1 hx
    have := h j hj
    rw [List.getD_eq_getElem?_getD, List.getElem?_eq_getElem hj] at this
    simpa using this
theorem chk_no {s : Shard} (h : may s ≠ true) : chk s = 2 := by unfold chk; rw [if_neg h]
theorem chk_yes {s : Shard} (h : may s = true) : chk s = 0 := by unfold chk; rw [if_pos h]
end Sh

theorem many_fit {o : List (List Int)} (h : FitS o) : Sh.many o ≤ 1000000000000 := by
  have e : ∀ (q : List (List Int)), (∀ l ∈ q, l.length ≤ 1000000) → Sh.many q ≤ q.length * 1000000 := by
    intro q
    induction q with
    | nil => intro _; simp [Sh.many]
    | cons l q ih =>
      intro hq
      have h1 := hq l List.mem_cons_self
      have h2 := ih fun l hl => hq l (List.mem_cons_of_mem _ hl)
      have e : Sh.many (l :: q) = l.length + Sh.many q := by simp [Sh.many]
      rw [e, List.length_cons]; omega
  have h1 := e o fun l hl => (h.2 l hl).1
  have h2 := h.1
  omega
/-- The k-th place of a list that lies in a slice. -/
theorem Ints.at_ {W : World} {a : Option Addr} {n cap : Nat} {l : List Int} (h : Ints W (.slice a n cap) l) : l = [] ∨ ∃ b off, a = some ⟨b, off, none⟩ ∧ ∀ j, j < l.length → W.cell? ⟨b, off + j, none⟩ = some (.int .i64 (l.getD j 0)) := by
  obtain ⟨a', cap', e, h⟩ := h
  simp only [Value.slice.injEq] at e
  obtain ⟨rfl, _, _⟩ := e
  rcases h with h | ⟨b, off, rfl, _, hc⟩
  · exact .inl h
  · exact .inr ⟨b, off, rfl, hc⟩

end Go.Proofs.Ytbhngncnhabbkaa
