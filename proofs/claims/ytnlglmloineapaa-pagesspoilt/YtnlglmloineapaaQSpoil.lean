/- Pages of which one has something behind it, or is there twice: what Join tells of them. -/
import Derived.Test.YtnlglmloineapaaQDoes
namespace Go.Proofs.Ytnlglmloineapaa
open Go.RowKit

namespace Pg
theorem parts_front (d : List UInt8) (j : Nat) (h : j + 1 < (parts d).length) : ((parts d)[j]'(by omega)).length = 122 := by
  have h1 := ((parts_may (parts d) (parts_le d)).1 (by rw [parts_flat])).2 j (by omega)
  unfold May at h1
  rwa [if_pos h] at h1
theorem fits_map (Q : List (List UInt8)) (hle : ∀ d ∈ Q, d.length ≤ 122) : Fits (Q.map page) ↔ Q ≠ [] ∧ ∀ j (h : j < Q.length), May Q[j].length j Q.length := by
  unfold Fits
  have e : Q.map page ≠ [] ↔ Q ≠ [] := by simp
  rw [e]
  refine and_congr_right fun _ => ⟨fun h j hj => ?_, fun h j hj => ?_⟩
  · have := (h j (by simpa using hj)).2
    rw [List.getElem_map, tell_page (hle _ (List.getElem_mem hj)), List.length_map] at this
    exact this
  · simp only [List.length_map] at hj
    simp only [List.getElem_map, List.length_map]
    rw [tell_page (hle _ (List.getElem_mem hj))]
    exact ⟨ok_page (hle _ (List.getElem_mem hj)), h j hj⟩
theorem may_full {x j m : Nat} (h : May x j m) (hj : j + 1 < m) : x = 122 := by
  unfold May at h; rwa [if_pos hj] at h
theorem may_last {x j m : Nat} (h : May x j m) (hj : ¬ j + 1 < m) (h1 : m ≠ 1) : 0 < x := by
  unfold May at h; rw [if_neg hj] at h; omega

/-- Pages, and one of them once more behind them. -/
theorem fits_twice (d : List UInt8) (i n : Nat) (hn : (parts d).length = n + 1) (hi : i < (parts d).length) :
    Fits (split d ++ [page (parts d)[i]]) ↔ ((parts d)[n]).length = 122 ∧ (parts d)[i].length ≠ 0 := by
  have hle : ∀ q ∈ parts d ++ [(parts d)[i]], q.length ≤ 122 := by
    intro q hq
    rcases List.mem_append.1 hq with h | h
    · exact parts_le d q h
    · rw [List.mem_singleton.1 h]; exact parts_le d _ (List.getElem_mem hi)
  have e : split d ++ [page (parts d)[i]] = (parts d ++ [(parts d)[i]]).map page := by simp [split]
  rw [e, fits_map _ hle]
  have hl : (parts d ++ [(parts d)[i]]).length = n + 2 := by rw [List.length_append, hn]; rfl
  constructor
  · rintro ⟨_, h⟩
    constructor
    · have := may_full (h n (by omega)) (by omega)
      rwa [List.getElem_append_left (by omega)] at this
    · have := may_last (h (n + 1) (by omega)) (by omega) (by omega)
      rw [List.getElem_append_right (by omega)] at this
      have e2 : [(parts d)[i]][n + 1 - (parts d).length]'(by simp; omega) = (parts d)[i] := by simp [hn]
      rw [e2] at this
      omega
  · rintro ⟨h1, h2⟩
    refine ⟨by simp, fun j hj => ?_⟩
    unfold May
    by_cases hj2 : j + 1 < (parts d ++ [(parts d)[i]]).length
    · rw [if_pos hj2, List.getElem_append_left (by omega)]
      by_cases hj3 : j = n
      · subst hj3; exact h1
      · exact parts_front d j (by omega)
    · rw [if_neg hj2]
      obtain rfl : j = n + 1 := by omega
      rw [List.getElem_append_right (by omega)]
      have e2 : [(parts d)[i]][n + 1 - (parts d).length]'(by simp; omega) = (parts d)[i] := by simp [hn]
      rw [e2]
      left; omega
theorem join_twice (d : List UInt8) (i n : Nat) (hn : (parts d).length = n + 1) (hi : i < (parts d).length) (h1 : ((parts d)[n]).length = 122) (h2 : (parts d)[i].length ≠ 0) :
    join (split d ++ [page (parts d)[i]]) = (d ++ (parts d)[i], 0) := by
  rw [join_yes ((fits_twice d i n hn hi).2 ⟨h1, h2⟩), List.map_append, split_tell, List.flatten_append, parts_flat, List.map_singleton, tell_page (parts_le d _ (List.getElem_mem hi))]
  simp
theorem join_twice_no (d : List UInt8) (i n : Nat) (hn : (parts d).length = n + 1) (hi : i < (parts d).length) (h : ¬ (((parts d)[n]).length = 122 ∧ (parts d)[i].length ≠ 0)) :
    join (split d ++ [page (parts d)[i]]) = ([], 50) := join_no fun hf => h ((fits_twice d i n hn hi).1 hf)
/-- Pages, one of which has something behind it. -/
theorem join_behind (d m : List UInt8) (i : Nat) (hi : i < (split d).length) (hm : m ≠ []) : join ((split d).set i ((split d)[i] ++ m)) = ([], 50) := by
  refine join_no fun hf => ?_
  have h := (hf.2 i (by simpa using hi)).1.1
  rw [List.getElem_set_self, List.length_append, (split_ok d _ (List.getElem_mem hi)).1] at h
  exact hm (List.eq_nil_of_length_eq_zero (by omega))
end Pg

end Go.Proofs.Ytnlglmloineapaa
