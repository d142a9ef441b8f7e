/- Graphs in memory; the walks of Check, of the statements' helper Same, and of the lists of ends and of parts. -/
import Derived.Test.YtmekaofjcjmklaaMMath
namespace Go.Proofs.Ytmekaofjcjmklaa
open Go.RowKit

/-- The cells of a graph whose parts the slice u holds. -/
def gcells (g : Mf.Graph) (u : Value) : Array Value := #[.int .i64 g.1.1, .int .i64 g.1.2, u]
/-- The graph g. -/
def Grf (W : World) (v : Value) (g : Mf.Graph) : Prop := ∃ u, v = .agg (gcells g u) ∧ Prt W u g.2
theorem Grf.later {w w' : World} {v : Value} {g : Mf.Graph} (h : Grf w v g) (hb : Below w.heap.size w w') : Grf w' v g := by
  obtain ⟨u, rfl, h⟩ := h
  exact ⟨u, rfl, h.later hb⟩
theorem chk_left {n m : Int} {l : List (Int × Int)} (h : m < 0 ∨ 4096 < m) : Mf.chk ((n, m), l) = 2 := by
  have : ¬ (Mf.okE m = true) := by simp [Mf.okE]; omega
  unfold Mf.chk
  rw [if_neg this]
theorem chk_right {n m : Int} {l : List (Int × Int)} (h : 0 ≤ m ∧ m ≤ 4096) : Mf.chk ((n, m), l) = Pt.chk n l := by
  have : Mf.okE m = true := by simp [Mf.okE]; omega
  unfold Mf.chk
  rw [if_pos this]

set_option maxHeartbeats 400000 in
set_option maxRecDepth 100000 in
theorem mchk_any (g : Mf.Graph) (u : Value) (w : World) (h : Prt w u g.2) (hl : g.2.length ≤ 1000000000000) :
    Calls Try.prog 11 #[.agg (gcells g u)] w fun e w' => e = .returned (.int .i64 (Mf.chk g)) ∧ Below w.heap.size w w' := by
  obtain ⟨⟨n, m⟩, l⟩ := g
  unfold gcells
  dsimp only at h hl ⊢
  obtain ⟨a, cap, rfl, _⟩ := id h
  obtain ⟨wa, hwa⟩ : ∃ wa, w.alloc (.cells #[.int .i64 n, .int .i64 m, .slice a l.length cap] 24) = wa := ⟨_, rfl⟩
  have c0 : wa.cell? ⟨w.heap.size, 0, none⟩ = some (.int .i64 n) := by rw [← hwa]; simp
  have c1 : wa.cell? ⟨w.heap.size, 1, none⟩ = some (.int .i64 m) := by rw [← hwa]; simp
  have c2 : wa.cell? ⟨w.heap.size, 2, none⟩ = some (.slice a l.length cap) := by rw [← hwa]; simp
  have hba : Hid (Below w.heap.size w wa) := by rw [← hwa]; exact (Below.refl _ w).alloc (Nat.le_refl _) _
  have HC := chk_any n (.slice a l.length cap) l wa (h.later hba.out) hl
  clear h hl
  by_cases h0 : m < 0
  · have HE : Hid (Mf.chk ((n, m), l) = 2) := chk_left (.inl h0)
    generalize Mf.chk ((n, m), l) = r at *
    clear HC
    go_enter Try.func11, Try.ntmps11
    go_wp2
    go_ret
    exact ⟨ret_int HE.out.symm, hba.out⟩
  · by_cases h1 : 4096 < m
    · have HE : Hid (Mf.chk ((n, m), l) = 2) := chk_left (.inr h1)
      generalize Mf.chk ((n, m), l) = r at *
      clear HC
      go_enter Try.func11, Try.ntmps11
      go_wp2
      go_ret
      exact ⟨ret_int HE.out.symm, hba.out⟩
    · rw [chk_right ⟨by omega, by omega⟩]
      generalize Pt.chk n l = r at *
      replace HC : Hid _ := HC
      go_enter Try.func11, Try.ntmps11
      go_wp2_with fail
      refine Calls.mono HC.out ?_
      rintro e w1 ⟨rfl, hb1⟩
      clear HC
      go_wp2
      go_ret
      exact ⟨rfl, bnext hba.out hb1⟩

set_option maxHeartbeats 400000 in
set_option maxRecDepth 100000 in
theorem msame_any (g k : Mf.Graph) (u v : Value) (w : World) (hu : Prt w u g.2) (hv : Prt w v k.2) (lg : g.2.length ≤ 1000000000000) (lk : k.2.length ≤ 1000000000000) :
    Calls Try.prog 13 #[.agg (gcells g u), .agg (gcells k v)] w fun e w' => e = .returned (.bool (decide (g = k))) ∧ Below w.heap.size w w' := by
  obtain ⟨⟨n, m⟩, l⟩ := g
  obtain ⟨⟨n', m'⟩, l'⟩ := k
  unfold gcells
  dsimp only at hu hv lg lk ⊢
  obtain ⟨a, cap, rfl, _⟩ := id hu
  obtain ⟨a', cap', rfl, _⟩ := id hv
  obtain ⟨wa, hwa⟩ : ∃ wa, w.alloc (.cells #[.int .i64 n, .int .i64 m, .slice a l.length cap] 24) = wa := ⟨_, rfl⟩
  obtain ⟨wb, hwb⟩ : ∃ wb, wa.alloc (.cells #[.int .i64 n', .int .i64 m', .slice a' l'.length cap'] 24) = wb := ⟨_, rfl⟩
  have c0 : wb.cell? ⟨w.heap.size, 0, none⟩ = some (.int .i64 n) := by rw [← hwb, ← hwa]; simp
  have c1 : wb.cell? ⟨w.heap.size, 1, none⟩ = some (.int .i64 m) := by rw [← hwb, ← hwa]; simp
  have c2 : wb.cell? ⟨w.heap.size, 2, none⟩ = some (.slice a l.length cap) := by rw [← hwb, ← hwa]; simp
  have d0 : wb.cell? ⟨wa.heap.size, 0, none⟩ = some (.int .i64 n') := by rw [← hwb]; simp
  have d1 : wb.cell? ⟨wa.heap.size, 1, none⟩ = some (.int .i64 m') := by rw [← hwb]; simp
  have d2 : wb.cell? ⟨wa.heap.size, 2, none⟩ = some (.slice a' l'.length cap') := by rw [← hwb]; simp
  have hbb : Hid (Below w.heap.size w wb) := by rw [← hwb, ← hwa]; exact ((Below.refl _ w).alloc (Nat.le_refl _) _).alloc (by simp) _
  have HS := same_prt (.slice a l.length cap) (.slice a' l'.length cap') l l' wb (hu.later hbb.out) (hv.later hbb.out) lg lk
  clear hu hv lg lk
  by_cases h0 : n = n'
  · subst h0
    by_cases h1 : m = m'
    · subst h1
      have HE : Hid (decide (((n, m), l) = ((n, m), l')) = decide (l = l')) := decide_eq_decide.2 ⟨fun h => (Prod.ext_iff.1 h).2, fun h => by rw [h]⟩
      rw [HE.out]
      generalize decide (l = l') = r at *
      replace HS : Hid _ := HS
      clear HE
      go_enter Try.func13, Try.ntmps13
      go_wp2_with fail
      refine Calls.mono HS.out ?_
      rintro e w1 ⟨rfl, hb1⟩
      clear HS
      go_wp2
      go_ret
      exact ⟨rfl, bnext hbb.out hb1⟩
    · have HE : Hid (decide (((n, m), l) = ((n, m'), l')) = false) := decide_eq_false fun h => h1 (by injection h with h; injection h)
      generalize decide (((n, m), l) = ((n, m'), l')) = r at *
      clear HS
      go_enter Try.func13, Try.ntmps13
      go_wp2
      go_ret
      exact ⟨ret_bool HE.out.symm, hbb.out⟩
  · have HE : Hid (decide (((n, m), l) = ((n', m'), l')) = false) := decide_eq_false fun h => h0 (by injection h with h; injection h)
    generalize decide (((n, m), l) = ((n', m'), l')) = r at *
    clear HS
    go_enter Try.func13, Try.ntmps13
    go_wp2
    go_ret
    exact ⟨ret_bool HE.out.symm, hbb.out⟩

end Go.Proofs.Ytmekaofjcjmklaa
