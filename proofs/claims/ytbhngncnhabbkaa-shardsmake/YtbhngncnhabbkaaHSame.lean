/- The walk of the statements' helper Same of shards. -/
import Derived.Test.YtbhngncnhabbkaaHRow
namespace Go.Proofs.Ytbhngncnhabbkaa
open Go.RowKit

theorem same_upto_o {xs ys : List (List Int)} {k : Nat} (hk : k = xs.length) (hl : xs.length = ys.length) (h : xs.take k = ys.take k) : xs = ys := by
  subst hk
  rw [List.take_length] at h
  rw [hl, List.take_length] at h
  exact h
theorem same_stop_o {xs ys : List (List Int)} {k : Nat} (h : xs.getD k [] ≠ ys.getD k []) : xs ≠ ys := by
  rintro rfl
  exact h rfl

set_option maxHeartbeats 1000000 in
set_option maxRecDepth 100000 in
theorem ssame_any (s t : Sh.Shard) (v u : Value) (w : World) (hv : Lists w v s.2) (hu : Lists w u t.2) (ls : s.2.length ≤ 1000000000000 ∧ ∀ l ∈ s.2, l.length ≤ 1000000000000) (lt : t.2.length ≤ 1000000000000 ∧ ∀ l ∈ t.2, l.length ≤ 1000000000000) :
    Calls Try.prog 5 #[.agg (scells s v), .agg (scells t u)] w fun e w' => e = .returned (.bool (decide (s = t))) ∧ Below w.heap.size w w' := by
  have HD : Hid (decide (s = t) = decide (s.1 = t.1 ∧ s.2 = t.2)) := decide_eq_decide.2 Prod.ext_iff
  rw [HD.out]
  obtain ⟨p, o⟩ := s
  obtain ⟨q, z⟩ := t
  unfold scells
  dsimp only at hv hu ls lt ⊢
  obtain ⟨a, cap, rfl, _, _⟩ := id hv
  obtain ⟨a', cap', rfl, _, _⟩ := id hu
  obtain ⟨wa, hwa⟩ : ∃ wa, w.alloc (.cells #[.int .i64 p.1, .int .i64 p.2, .slice a o.length cap] 28) = wa := ⟨_, rfl⟩
  obtain ⟨wb, hwb⟩ : ∃ wb, wa.alloc (.cells #[.int .i64 q.1, .int .i64 q.2, .slice a' z.length cap'] 28) = wb := ⟨_, rfl⟩
  have c0 : wb.cell? ⟨w.heap.size, 0, none⟩ = some (.int .i64 p.1) := by rw [← hwb, ← hwa]; simp
  have c1 : wb.cell? ⟨w.heap.size, 1, none⟩ = some (.int .i64 p.2) := by rw [← hwb, ← hwa]; simp
  have c2 : wb.cell? ⟨w.heap.size, 2, none⟩ = some (.slice a o.length cap) := by rw [← hwb, ← hwa]; simp
  have d0 : wb.cell? ⟨wa.heap.size, 0, none⟩ = some (.int .i64 q.1) := by rw [← hwb]; simp
  have d1 : wb.cell? ⟨wa.heap.size, 1, none⟩ = some (.int .i64 q.2) := by rw [← hwb]; simp
  have d2 : wb.cell? ⟨wa.heap.size, 2, none⟩ = some (.slice a' z.length cap') := by rw [← hwb]; simp
  have hbb : Hid (Below w.heap.size w wb) := by rw [← hwb, ← hwa]; exact ((Below.refl _ w).alloc (Nat.le_refl _) _).alloc (by simp) _
  have HV : Hid (Lists wb (.slice a o.length cap) o) := hv.later hbb.out
  have HU : Hid (Lists wb (.slice a' z.length cap') z) := hu.later hbb.out
  have HLS : Hid (∀ l ∈ o, l.length ≤ 1000000000000) := ls.2
  have HLT : Hid (∀ l ∈ z, l.length ≤ 1000000000000) := lt.2
  have ls1 := ls.1
  have lt1 := lt.1
  clear hv hu ls lt
  have hgd := part_guard
  by_cases hpq : p = q
  · have hne : ∀ w, Sem.run Try.prog (binOp .neq 24 (.agg #[.int .i64 p.1, .int .i64 p.2]) (.agg #[.int .i64 q.1, .int .i64 q.2])) w = .ok (.bool false) w := fun w => by rw [part_neq, decide_eq_true hpq]; rfl
    have HPQ : Hid (p = q) := hpq
    clear hpq
    by_cases hl : o.length = z.length
    · have HL : Hid (o.length = z.length) := hl
      rw [← hl] at d2 HU lt1
      clear hl
      have HEQ : Hid ((o = z) → decide (p = q ∧ o = z) = true) := fun h => decide_eq_true ⟨HPQ.out, h⟩
      have HNE : Hid (¬ (o = z) → decide (p = q ∧ o = z) = false) := fun h => decide_eq_false fun hh => h hh.2
      generalize decide (p = q ∧ o = z) = r at *
      generalize hn : o.length = n at *
      have HN : Hid (o.length = n) := hn
      clear hn
      go_enter Try.func5, Try.ntmps5
      go_wp2
      go_loopw [5] (fun i wr => ∃ k : Nat, k ≤ n ∧ i = .int .i64 k ∧ Hid (o.take k = z.take k) ∧ Hid (Below wb.heap.size wb wr)) (fun i _ => n - (intOf i).toNat)
      case atStart => exact ⟨0, Nat.zero_le _, rfl, rfl, Below.refl _ _⟩
      case round =>
        obtain ⟨k, hk, rfl, HT, HB⟩ := hrel
        have e2 := Later.cell (cell_after HB.out c2)
        have e4 := Later.cell (cell_after HB.out d2)
        have e2' := cell_after HB.out c2
        by_cases hlt : k < n
        · obtain ⟨b, off, rfl, x, hx, hi⟩ := HV.out.at_ (k := k) (by have := HN.out; omega)
          obtain ⟨b', off', rfl, x', hx', hi'⟩ := HU.out.at_ (k := k) (by have := HN.out; have := HL.out; omega)
          have c5 := Later.cell (cell_after HB.out hx)
          have c6 := Later.cell (cell_after HB.out hx')
          have m1 := HLS.out _ (getD_mem_o (o := o) (k := k) (by have := HN.out; omega))
          have m2 := HLT.out _ (getD_mem_o (o := z) (k := k) (by have := HN.out; have := HL.out; omega))
          have HC : Hid (∀ y : Later wr, Calls Try.prog 13 #[x, x'] y.world fun e w' => e = .returned (.bool (decide (o.getD k [] = z.getD k []))) ∧ Below y.world.heap.size y.world w') := fun y =>
            same_any x x' _ _ y.world ((hi.later HB.out).later y.below) ((hi'.later HB.out).later y.below) m1 m2
          have HX : Hid (o.take (k + 1) = o.take k ++ [o.getD k []]) := Sh.take_snoc_o o k (by have := HN.out; omega)
          have HY : Hid (z.take (k + 1) = z.take k ++ [z.getD k []]) := Sh.take_snoc_o z k (by have := HN.out; have := HL.out; omega)
          have HS : Hid (o.getD k [] ≠ z.getD k [] → o ≠ z) := same_stop_o
          have hsome := Later.some wr
          clear hi hi' hx hx' m1 m2
          generalize o.getD k [] = l at *
          generalize z.getD k [] = l' at *
          by_cases hll : l = l'
          · have HLL : Hid (l = l') := hll
            rw [decide_eq_true hll] at HC
            clear hll
            go_wp2_with fail
            refine wp_region_later (by kernel_rfl) (by kernel_rfl) ?_
            repeat (go_big_quiet_step ((go_at_call 13; exact Later.made (HC.out _))))
            refine wpQuiet_nil ?_
            intro w2 hw2
            obtain ⟨⟨w3, hb3⟩, rfl⟩ := hw2
            go_wp2
            go_roundw
            case rel => exact ⟨k + 1, by omega, by go_num, by rw [Hid, HX.out, HY.out, HT.out, HLL.out], bnext HB.out hb3⟩
            case measure => simp [intOf]; omega
          · have HLL : Hid (o ≠ z) := HS.out hll
            rw [decide_eq_false hll] at HC
            clear hll HS
            go_wp2_with fail
            refine wp_region_later (by kernel_rfl) (by kernel_rfl) ?_
            repeat (go_big_quiet_step ((go_at_call 13; exact Later.made (HC.out _))))
            refine wpQuiet_nil ?_
            intro w2 hw2
            obtain ⟨⟨w3, hb3⟩, rfl⟩ := hw2
            have HR : Hid (r = false) := HNE.out HLL.out
            go_wp2
            go_ret
            exact ⟨ret_bool HR.out.symm, hbb.out.trans ((bnext HB.out hb3).mono hbb.out.size)⟩
        · obtain rfl : k = n := by omega
          have HR : Hid (r = true) := HEQ.out (same_upto_o HN.out.symm (HN.out.trans HL.out) HT.out)
          go_wp2
          go_ret
          exact ⟨ret_bool HR.out.symm, hbb.out.trans (HB.out.mono hbb.out.size)⟩
    · have HR : Hid (decide (p = q ∧ o = z) = false) := decide_eq_false fun hh => hl (by rw [hh.2])
      generalize decide (p = q ∧ o = z) = r at *
      have hb : ((o.length : Int) == (z.length : Int)) = false := by simp; omega
      generalize o.length = n at *
      generalize z.length = m at *
      go_enter Try.func5, Try.ntmps5
      go_wp2
      go_ret
      exact ⟨ret_bool HR.out.symm, hbb.out⟩
  · have hne : ∀ w, Sem.run Try.prog (binOp .neq 24 (.agg #[.int .i64 p.1, .int .i64 p.2]) (.agg #[.int .i64 q.1, .int .i64 q.2])) w = .ok (.bool true) w := fun w => by rw [part_neq, decide_eq_false hpq]; rfl
    have HR : Hid (decide (p = q ∧ o = z) = false) := decide_eq_false fun hh => hpq hh.1
    generalize decide (p = q ∧ o = z) = r at *
    clear hpq
    go_enter Try.func5, Try.ntmps5
    go_wp2
    go_ret
    exact ⟨ret_bool HR.out.symm, hbb.out⟩

end Go.Proofs.Ytbhngncnhabbkaa
