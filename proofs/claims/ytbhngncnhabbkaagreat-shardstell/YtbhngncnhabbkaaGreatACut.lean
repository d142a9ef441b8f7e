/- The walks of parts' functions: mayBeMany, part, list, Cut, Of, Check. -/
import Derived.Test.YtbhngncnhabbkaaGreatESome
namespace Go.Proofs.YtbhngncnhabbkaaGreat
open Go.RowKit

theorem many_anyXA (n : Int) (w : World) :
    Calls Tryz.prog 48 #[.int .i64 n] w fun e w' => e = .returned (.bool (Pt.many n)) ∧ w' = w := by
  by_cases h1 : 1 ≤ n
  · by_cases h2 : n ≤ 256
    · have e : Pt.many n = true := by simp [Pt.many, h1, h2]
      rw [e]
      go_enter Tryz.func48, Tryz.ntmps48
      go_wp2
      go_ret
      exact ⟨rfl, rfl⟩
    · have e : Pt.many n = false := by simp [Pt.many, h2]
      rw [e]
      go_enter Tryz.func48, Tryz.ntmps48
      go_wp2
      go_ret
      exact ⟨rfl, rfl⟩
  · have e : Pt.many n = false := by simp [Pt.many, h1]
    rw [e]
    go_enter Tryz.func48, Tryz.ntmps48
    go_wp2
    go_ret
    exact ⟨rfl, rfl⟩

set_option maxHeartbeats 400000 in
set_option maxRecDepth 100000 in
theorem part_any (n s k : Nat) (w : World) (hn : n ≤ 256) (hs : 1 ≤ s) (hs2 : s ≤ 16) (hk : k < s) :
    Calls Tryz.prog 50 #[.agg #[.int .i64 n, .int .i64 s], .int .i64 k] w fun e w' => e = .returned (.agg (encP (Pt.one n s k)).toArray) ∧ Below w.heap.size w w' := by
  obtain ⟨wa, hwa⟩ : ∃ wa, w.alloc (.cells #[.int .i64 n, .int .i64 s] 87) = wa := ⟨_, rfl⟩
  obtain ⟨wb, hwb⟩ : ∃ wb, wa.alloc (.cells #[.int .i64 0, .int .i64 0] 23) = wb := ⟨_, rfl⟩
  have c1 : wb.cell? ⟨w.heap.size, 0, none⟩ = some (.int .i64 n) := by rw [← hwb, ← hwa]; simp
  have c2 : wb.cell? ⟨w.heap.size, 1, none⟩ = some (.int .i64 s) := by rw [← hwb, ← hwa]; simp
  have c3 : wb.cell? ⟨wa.heap.size, 0, none⟩ = some (.int .i64 0) := by rw [← hwb]; simp
  have c4 : wb.cell? ⟨wa.heap.size, 1, none⟩ = some (.int .i64 0) := by rw [← hwb]; simp
  have f3 : wb.frozen? ⟨wa.heap.size, 0, none⟩ = false := by rw [← hwb]; simp
  have f4 : wb.frozen? ⟨wa.heap.size, 1, none⟩ = false := by rw [← hwb]; simp
  have hb : Hid (Below w.heap.size w wb) := by
    rw [← hwb, ← hwa]
    exact ((Below.refl _ w).alloc (Nat.le_refl _) _).alloc (by simp) _
  have HP : Hid (Pt.one n s k = (((k * n / s : Nat) : Int), (((k + 1) * n / s : Nat) : Int))) := rfl
  rw [HP.out]
  have m1 : (k : Int) * n = ((k * n : Nat) : Int) := by simp
  have m2 : ((k : Int) + 1) * n = (((k + 1) * n : Nat) : Int) := by simp
  have l1 : k * n ≤ 4096 := Nat.mul_le_mul (show k ≤ 16 by omega) hn
  have l2 : (k + 1) * n ≤ 4096 := Nat.mul_le_mul (show k + 1 ≤ 16 by omega) hn
  have q1 : ((k * n : Nat) : Int) / (s : Int) = ((k * n / s : Nat) : Int) := by simp
  have q2 : (((k + 1) * n : Nat) : Int) / (s : Int) = (((k + 1) * n / s : Nat) : Int) := by simp
  have l3 : k * n / s ≤ 4096 := Nat.le_trans (Nat.div_le_self _ _) l1
  have l4 : (k + 1) * n / s ≤ 4096 := Nat.le_trans (Nat.div_le_self _ _) l2
  generalize k * n / s = x at *
  generalize (k + 1) * n / s = y at *
  generalize k * n = a at *
  generalize (k + 1) * n = b at *
  go_enter Tryz.func50, Tryz.ntmps50
  go_wp2_with fail
  go_region
  all_goals go_wp2
  refine bodyPost_ret (v := .agg #[.int .i64 x, .int .i64 y]) ?r rfl ⟨rfl, ?b⟩
  case b => exact ((hb.out.setCell (by rw [← hwa]; simp) _).setCell (by rw [← hwa]; simp) _).drew
  case r =>
    rw [results_cell rfl]
    go_simp

/-- The row behind k rounds. -/
def half (l : List (Int × Int)) (k : Nat) : List (Int × Int) := l.take k ++ List.replicate (l.length - k) (0, 0)
theorem half_len (l : List (Int × Int)) (k : Nat) (h : k ≤ l.length) : (half l k).length = l.length := by simp [half]; omega
theorem half_set (l : List (Int × Int)) (k : Nat) (h : k < l.length) : (half l k).set k (l.getD k p0) = half l (k + 1) := by
  unfold half
  rw [show l.length - k = (l.length - (k + 1)) + 1 by omega, List.replicate_succ]
  have hk : (l.take k).length = k := by simp; omega
  rw [List.set_append_right _ _ (by omega), hk, Nat.sub_self, List.set_cons_zero]
  rw [take_succ_eXA l k h, List.append_assoc]
  rfl
theorem half_all (l : List (Int × Int)) : half l l.length = l := by
  unfold half
  rw [Nat.sub_self, List.take_length]
  simp

/-- The method value. -/
def tell (n s : Nat) : Value := .func (.func 50) #[.agg #[.int .i64 n, .int .i64 s]] #[]

set_option maxHeartbeats 400000 in
set_option maxRecDepth 100000 in
theorem list_any (n s : Nat) (w : World) (hn : n ≤ 256) (hs : 1 ≤ s) (hs2 : s ≤ 16) :
    Calls Tryz.prog 49 #[.int .i64 s, tell n s] w fun e w' => ∃ u, e = .returned u ∧ w'.ownsRow w.heap.size 23 2 u s (pcells (Pt.cuts n s)) ∧ Below w.heap.size w w' := by
  obtain ⟨i0, hi0, hz0, hz1, hz2⟩ := info_parts Tryz.partInfo
  have HL : Hid ((Pt.cuts n s).length = s) := Pt.cuts_len n s
  have HG : Hid (∀ k, k < s → (Pt.cuts n s).getD k p0 = Pt.one n s k) := fun k hk => Pt.cuts_get hk
  unfold tell
  generalize Pt.cuts n s = l at *
  go_enter Tryz.func49, Tryz.ntmps49
  go_wp2_with (at_make; refine wpList_make_full _ rfl _ _ 52 rfl w.heap.size 23 i0 (.agg #[.int .i64 0, .int .i64 0]) 2 Tryz.underlying52 hi0 hz0 hz1 _ _ _ _ s rfl rfl rfl rfl ?b2 ?b3 ?b4 ?_)
  case b2 => rw [hz2]; omega
  case b3 => unfold maxLen; omega
  case b4 => exact Nat.le_refl _
  intro w1 hown1 hgrow1
  rw [made_parts] at hown1
  have HO1 : Hid (w1.ownsRow w.heap.size 23 2 (.slice (some ⟨w.heap.size, 0, none⟩) s s) s (pcells (half l 0))) := by
    have e : half l 0 = List.replicate s (0, 0) := by simp [half, HL.out]
    rw [Hid, e]; exact hown1
  have HB1 : Hid (Below w.heap.size w w1) := (Below.refl _ _).grown hgrow1 (Nat.le_refl _) (by simp)
  clear hown1 hgrow1
  go_wp2
  go_loopw [11] (fun i wr => ∃ k : Nat, k ≤ s ∧ i = .int .i64 k ∧ Hid (wr.ownsRow w.heap.size 23 2 (.slice (some ⟨w.heap.size, 0, none⟩) s s) s (pcells (half l k))) ∧ Hid (Below w.heap.size w wr)) (fun i _ => s - (intOf i).toNat)
  case atStart => exact ⟨0, Nat.zero_le _, rfl, HO1, HB1⟩
  case round =>
    obtain ⟨k, hk, rfl, HO, HB⟩ := hrel
    by_cases hlt : k < s
    · go_wp2_with fail
      refine (part_any n s k _ hn hs hs2 hlt).mono ?_
      rintro e wa ⟨rfl, hba⟩
      have HOa := own_later HO.out hba
      have HBa : Below w.heap.size w wa := HB.out.trans (hba.mono HB.out.size)
      have HS : Hid ((half l k).set k (Pt.one n s k) = half l (k + 1)) := by rw [Hid, ← HG.out k hlt]; exact half_set l k (by rw [HL.out]; exact hlt)
      generalize Pt.one n s k = p at *
      obtain ⟨c5, c6, f5, f6⟩ := own_at HOa (by rw [half_len l k (by rw [HL.out]; exact hk)]; exact HL.out) hlt
      have hpw := own_put HOa k p
      rw [HS.out] at hpw
      have HO2 : Hid (((wa.setCell ⟨w.heap.size, k * 2, none⟩ (.int .i64 p.1)).setCell ⟨w.heap.size, k * 2 + 1, none⟩ (.int .i64 p.2)).ownsRow w.heap.size 23 2 (.slice (some ⟨w.heap.size, 0, none⟩) s s) s (pcells (half l (k + 1)))) := hpw.1
      have HB2 : Hid (Below w.heap.size w ((wa.setCell ⟨w.heap.size, k * 2, none⟩ (.int .i64 p.1)).setCell ⟨w.heap.size, k * 2 + 1, none⟩ (.int .i64 p.2))) := HBa.grown hpw.2 HBa.size (fun q e => by cases e; exact Nat.le_refl _)
      clear hpw HOa HBa HS
      generalize (half l k).getD k p0 = old at *
      have hE : (encP p).toArray = #[.int .i64 p.1, .int .i64 p.2] := rfl
      rw [hE]
      go_wp2
      go_roundw
      case rel => exact ⟨k + 1, by omega, by go_num, HO2, HB2⟩
      case measure => simp [intOf]; omega
    · obtain rfl : k = s := by omega
      go_wp2
      go_ret
      have h := HO.out
      rw [show half l k = l by have := half_all l; rwa [HL.out] at this] at h
      exact ⟨_, rfl, h, HB.out⟩

end Go.Proofs.YtbhngncnhabbkaaGreat

/- The walk of parts.Cut. -/
namespace Go.Proofs.YtbhngncnhabbkaaGreat
open Go.RowKit

theorem cut_no {n s : Int} (h : Pt.can n s = false) : Pt.cut n s = ([], 2) := by unfold Pt.cut; rw [if_neg (by rw [h]; simp)]
theorem cut_yes {n s : Nat} (h : Pt.can n s = true) : Pt.cut n s = (Pt.cuts n s, 0) := by unfold Pt.cut; rw [if_pos h]; rfl

set_option maxHeartbeats 400000 in
set_option maxRecDepth 100000 in
theorem cut_any (n s : Int) (w : World) :
    Calls Tryz.prog 22 #[.int .i64 n, .int .i64 s] w fun e w' => ∃ u, e = .returned (.tuple #[u, .int .i64 (Pt.cut n s).2]) ∧ w'.ownsRow w.heap.size 23 2 u (Pt.cut n s).1.length (pcells (Pt.cut n s).1) ∧ Below w.heap.size w w' := by
  have M := many_anyXA n w
  cases hm : Pt.many n with
  | false =>
    rw [hm] at M
    rw [cut_no (by unfold Pt.can; rw [hm]; rfl)]
    have HM : Hid _ := M
    clear M hm
    go_enter Tryz.func22, Tryz.ntmps22
    go_wp2_with fail
    refine Calls.mono HM.out ?_
    rintro e w' ⟨rfl, rfl⟩
    go_wp2
    go_ret2
    exact ⟨_, rfl, World.ownsRow_nil _ _ _ _, Below.refl _ _⟩
  | true =>
    rw [hm] at M
    have HM : Hid _ := M
    have hb : 1 ≤ n ∧ n ≤ 256 := by simpa [Pt.many] using hm
    clear M
    by_cases h1 : 1 ≤ s
    · obtain ⟨m, hm1, hm2⟩ : ∃ m : Int, (if (16 : Int) < n then (16 : Int) else n) = m ∧ (m < s ↔ ¬ (s ≤ n ∧ s ≤ 16)) := ⟨_, rfl, by split <;> omega⟩
      by_cases h2 : m < s
      · rw [cut_no (by have := hm2.1 h2; unfold Pt.can; simp; omega)]
        clear hm2
        go_enter Tryz.func22, Tryz.ntmps22
        go_wp2_with fail
        refine Calls.mono HM.out ?_
        rintro e w' ⟨rfl, rfl⟩
        go_wp2
        go_ret2
        exact ⟨_, rfl, World.ownsRow_nil _ _ _ _, Below.refl _ _⟩
      · have h3 : s ≤ n ∧ s ≤ 16 := by
          by_cases c : s ≤ n ∧ s ≤ 16
          · exact c
          · exact absurd (hm2.2 c) h2
        clear hm2
        obtain ⟨n', rfl⟩ : ∃ k : Nat, n = k := ⟨n.toNat, by omega⟩
        obtain ⟨s', rfl⟩ : ∃ k : Nat, s = k := ⟨s.toNat, by omega⟩
        rw [cut_yes (by unfold Pt.can; rw [hm]; simp; omega)]
        go_enter Tryz.func22, Tryz.ntmps22
        go_wp2_with fail
        refine Calls.mono HM.out ?_
        rintro e w' ⟨rfl, rfl⟩
        go_wp2_with fail
        refine (list_any n' s' _ (by omega) (by omega) (by omega)).mono ?_
        rintro e w1 ⟨u, rfl, hu, hb1⟩
        go_wp2
        go_ret2
        exact ⟨_, rfl, by rw [Pt.cuts_len]; exact hu, hb1⟩
    · rw [cut_no (by unfold Pt.can; simp; omega)]
      go_enter Tryz.func22, Tryz.ntmps22
      go_wp2_with fail
      refine Calls.mono HM.out ?_
      rintro e w' ⟨rfl, rfl⟩
      go_wp2
      go_ret2
      exact ⟨_, rfl, World.ownsRow_nil _ _ _ _, Below.refl _ _⟩

end Go.Proofs.YtbhngncnhabbkaaGreat
