/- The walk of the document's own Check. -/
import Derived.Test.YtmekaofjcjmklaaARef
namespace Go.Proofs.Ytmekaofjcjmklaa
open Go.RowKit Go.Deep

/-- Where the parts ahead of place k end. -/
def endAt (l : List (Int × Int)) (k : Nat) : Int := if k = 0 then 0 else (l.getD (k - 1) p0).2
theorem run_last {l : List (Int × Int)} {e n : Int} (h0 : 0 < l.length) (h : Pt.run e l = some n) : (l.getD (l.length - 1) p0).2 = n := by
  have hl : l.take (l.length - 1) ++ [l.getD (l.length - 1) p0] = l := by
    rw [← take_succ_e l (l.length - 1) (by omega)]
    exact List.take_of_length_le (by omega)
  rw [← hl, Pt.run_app] at h
  cases hr : Pt.run e (l.take (l.length - 1)) with
  | none => rw [hr] at h; cases h
  | some e' =>
    rw [hr] at h
    have h2 : Pt.run e' [l.getD (l.length - 1) p0] = some n := h
    generalize l.getD (l.length - 1) p0 = p at *
    unfold Pt.run at h2
    by_cases c : p.1 = e' ∧ p.1 < p.2
    · rw [if_pos c] at h2
      simpa [Pt.run] using h2
    · rw [if_neg c] at h2; cases h2

set_option maxHeartbeats 1000000 in
set_option maxRecDepth 100000 in
theorem rchk_any (n : Int) (v : Value) (l : List (Int × Int)) (w : World) (h : Prt w v l) (hl : l.length ≤ 1000000000000) :
    Calls Try.prog 27 #[.int .i64 n, v] w fun e w' => e = .returned (.int .i64 (Pt.chk n l)) ∧ Below w.heap.size w w' := by
  obtain ⟨a, cap, rfl, _, h⟩ := h
  have HE : Hid _ := h
  clear h
  by_cases h1 : n < 1
  · have HR : Hid (Pt.chk n l = 2) := chk_no (by unfold Pt.many; simp; omega)
    generalize Pt.chk n l = r at *
    go_enter Try.func27, Try.ntmps27
    go_wp2
    go_ret
    exact ⟨ret_int HR.out.symm, Below.refl _ _⟩
  by_cases h2 : 256 < n
  · have HR : Hid (Pt.chk n l = 2) := chk_no (by unfold Pt.many; simp; omega)
    generalize Pt.chk n l = r at *
    go_enter Try.func27, Try.ntmps27
    go_wp2
    go_ret
    exact ⟨ret_int HR.out.symm, Below.refl _ _⟩
  by_cases h3 : l.length < 1
  · obtain rfl : l = [] := List.length_eq_zero_iff.1 (by omega)
    have HR : Hid (Pt.chk n [] = 2) := chk_no (by simp [Pt.run]; omega)
    generalize Pt.chk n [] = r at *
    go_enter Try.func27, Try.ntmps27
    go_wp2
    go_ret
    exact ⟨ret_int HR.out.symm, Below.refl _ _⟩
  by_cases h4 : 16 < l.length
  · have HR : Hid (Pt.chk n l = 2) := chk_no (by omega)
    generalize Pt.chk n l = r at *
    go_enter Try.func27, Try.ntmps27
    go_wp2
    go_ret
    exact ⟨ret_int HR.out.symm, Below.refl _ _⟩
  have hm : Pt.many n = true := by unfold Pt.many; simp; omega
  have HCN : Hid (Pt.run 0 l ≠ some n → Pt.chk n l = 2) := fun h => chk_no fun hh => h hh.2.2
  have HCY : Hid (Pt.run 0 l = some n → Pt.chk n l = 0) := fun h => chk_yes ⟨hm, by omega, h⟩
  have HLN : Hid (l.length ≤ 16) := by rw [Hid]; omega
  generalize Pt.chk n l = r at *
  clear hm
  obtain ⟨b, off, rfl, hc⟩ := HE.out.resolve_left (by rintro rfl; simp at h3)
  have HC : Hid (∀ j, j < l.length → w.cell? ⟨b, off + j * 2, none⟩ = some (.int .i64 (l.getD j p0).1) ∧ w.cell? ⟨b, off + j * 2 + 1, none⟩ = some (.int .i64 (l.getD j p0).2)) := hc
  clear hc HE
  have c1 : w.cell? ⟨b, off, none⟩ = some (.int .i64 (l.getD 0 p0).1) := by have := (HC.out 0 (by omega)).1; simpa using this
  have c2 := (HC.out (l.length - 1) (by omega)).2
  have hx : ((l.length : Int) - 1) = ((l.length - 1 : Nat) : Int) := by omega
  have hlt1 : l.length - 1 < l.length := by omega
  have HF : Hid ((l.getD 0 p0).1 ≠ 0 → r = 2) := fun hh => HCN.out (by
    rw [Pt.run_cut 1 (by rw [Pt.run_take (e := 0) (by omega) rfl, if_neg (by intro c; exact hh c.1)])]; simp)
  have HZ : Hid ((l.getD (l.length - 1) p0).2 ≠ n → r = 2) := fun hh => HCN.out fun hr => hh (run_last (by omega) hr)
  by_cases h5 : (l.getD 0 p0).1 = 0
  · by_cases h6 : (l.getD (l.length - 1) p0).2 = n
    · have H5 : Hid ((l.getD 0 p0).1 = 0) := h5
      have H6 : Hid ((l.getD (l.length - 1) p0).2 = n) := h6
      clear HF HZ
      rw [h5] at c1
      rw [h6] at c2
      clear h5 h6
      go_enter Try.func27, Try.ntmps27
      go_wp2
      clear c1 c2 hx hlt1
      go_loopw [5] (fun i wr => ∃ k : Nat, k ≤ l.length ∧ i = .int .i64 k ∧ Hid (Pt.run 0 (l.take k) = some (endAt l k)) ∧ Hid (Below w.heap.size w wr)) (fun i _ => l.length - (intOf i).toNat)
      case atStart => exact ⟨0, Nat.zero_le _, rfl, rfl, Below.refl _ _⟩
      case round =>
        obtain ⟨k, hk, rfl, HT, HB⟩ := hrel
        by_cases hlt : k < l.length
        · have c1 := Later.cell (cell_after HB.out (HC.out k hlt).1)
          have c2 := Later.cell (cell_after HB.out (HC.out k hlt).2)
          have HX : Hid (Pt.run 0 (l.take (k + 1)) = if (l.getD k p0).1 = endAt l k ∧ (l.getD k p0).1 < (l.getD k p0).2 then some (l.getD k p0).2 else none) := Pt.run_take hlt HT.out
          have HN : Hid (endAt l (k + 1) = (l.getD k p0).2) := by simp [Hid, endAt]
          have hne := Later.some wr
          by_cases hk0 : k = 0
          · subst hk0
            have HE0 : Hid (endAt l 0 = 0) := rfl
            rw [Nat.zero_mul, Nat.add_zero] at c1 c2
            generalize l.getD 0 p0 = p at *
            by_cases hp : p.2 ≤ p.1
            · have HR : Hid (r = 2) := HCN.out (by rw [Pt.run_cut (0 + 1) (by rw [HX.out, if_neg (by omega)])]; simp)
              have hA : decide (p.2 ≤ p.1) = true := by simp; exact hp
              clear HX hp
              go_wp2_with fail
              refine wp_region_later (by kernel_rfl) (by kernel_rfl) ?_
              repeat (go_big_quiet_step (fail))
              refine wpQuiet_nil ?_
              intro w2 hw2
              obtain ⟨⟨w3, hb3⟩, rfl⟩ := hw2
              go_wp2
              go_ret
              exact ⟨ret_int HR.out.symm, bnext HB.out hb3⟩
            · have HR : Hid (Pt.run 0 (l.take (0 + 1)) = some (endAt l (0 + 1))) := by rw [Hid, HX.out, HN.out, HE0.out, if_pos ⟨H5.out, by omega⟩]
              have hA : decide (p.2 ≤ p.1) = false := by simp; omega
              clear HX hp
              go_wp2_with fail
              refine wp_region_later (by kernel_rfl) (by kernel_rfl) ?_
              repeat (go_big_quiet_step (fail))
              refine wpQuiet_nil ?_
              intro w2 hw2
              obtain ⟨⟨w3, hb3⟩, rfl⟩ := hw2
              go_wp2
              go_roundw
              case rel => exact ⟨0 + 1, by omega, by go_num, HR, bnext HB.out hb3⟩
              case measure => simp [intOf]; omega
          · have c4 := Later.cell (cell_after HB.out (HC.out (k - 1) (by omega)).2)
            have HEk : Hid (endAt l k = (l.getD (k - 1) p0).2) := by rw [Hid, endAt, if_neg hk0]
            rw [HEk.out] at HX
            generalize l.getD k p0 = p at *
            generalize l.getD (k - 1) p0 = q at *
            have hkk : k - 1 < l.length := by omega
            have hk2 : ((k : Int) - 1) = ((k - 1 : Nat) : Int) := by omega
            have hk3 : decide ((0 : Int) < k) = true := by simp; omega
            have hk4 : decide (0 < k) = true := by simp; omega
            have hk5 : 0 < k := by omega
            by_cases hp : p.2 ≤ p.1
            · have HR : Hid (r = 2) := HCN.out (by rw [Pt.run_cut (k + 1) (by rw [HX.out, if_neg (by omega)])]; simp)
              have hA : decide (p.2 ≤ p.1) = true := by simp; exact hp
              clear HX hp
              go_wp2_with fail
              refine wp_region_later (by kernel_rfl) (by kernel_rfl) ?_
              repeat (go_big_quiet_step (fail))
              refine wpQuiet_nil ?_
              intro w2 hw2
              obtain ⟨⟨w3, hb3⟩, rfl⟩ := hw2
              go_wp2
              go_ret
              exact ⟨ret_int HR.out.symm, bnext HB.out hb3⟩
            · have hA : decide (p.2 ≤ p.1) = false := by simp; omega
              by_cases hq : p.1 = q.2
              · have HR : Hid (Pt.run 0 (l.take (k + 1)) = some (endAt l (k + 1))) := by rw [Hid, HX.out, HN.out, if_pos ⟨hq, by omega⟩]
                have hB : decide (p.1 = q.2) = true := by simp; exact hq
                have hB' : (p.1 == q.2) = true := by simp; exact hq
                clear HX hp hq
                go_wp2_with fail
                refine wp_region_later (by kernel_rfl) (by kernel_rfl) ?_
                repeat (go_big_quiet_step (fail))
                refine wpQuiet_nil ?_
                intro w2 hw2
                obtain ⟨⟨w3, hb3⟩, rfl⟩ := hw2
                go_wp2
                go_roundw
                case rel => exact ⟨k + 1, by omega, by go_num, HR, bnext HB.out hb3⟩
                case measure => simp [intOf]; omega
              · have HR : Hid (r = 2) := HCN.out (by rw [Pt.run_cut (k + 1) (by rw [HX.out, if_neg (by intro c; exact hq c.1)])]; simp)
                have hB : decide (p.1 = q.2) = false := by simp; exact hq
                have hB' : (p.1 == q.2) = false := by simp; exact hq
                clear HX hp hq
                go_wp2_with fail
                refine wp_region_later (by kernel_rfl) (by kernel_rfl) ?_
                repeat (go_big_quiet_step (fail))
                refine wpQuiet_nil ?_
                intro w2 hw2
                obtain ⟨⟨w3, hb3⟩, rfl⟩ := hw2
                go_wp2
                go_ret
                exact ⟨ret_int HR.out.symm, bnext HB.out hb3⟩
        · obtain rfl : k = l.length := by omega
          have HT2 := HT.out
          rw [List.take_length] at HT2
          have HR : Hid (r = 0) := HCY.out (by rw [HT2, endAt, if_neg (by omega), H6.out])
          clear HT2
          go_wp2
          go_ret
          exact ⟨ret_int HR.out.symm, HB.out⟩
    · have HR : Hid (r = 2) := HZ.out h6
      clear HF HZ
      rw [h5] at c1
      clear h5
      generalize (l.getD (l.length - 1) p0).2 = z at *
      have hzn : (z != n) = true := by simpa using h6
      clear h6
      go_enter Try.func27, Try.ntmps27
      go_wp2
      go_ret
      exact ⟨ret_int HR.out.symm, Below.refl _ _⟩
  · have HR : Hid (r = 2) := HF.out h5
    clear HF HZ
    generalize (l.getD 0 p0).1 = z at *
    go_enter Try.func27, Try.ntmps27
    go_wp2
    go_ret
    exact ⟨ret_int HR.out.symm, Below.refl _ _⟩

end Go.Proofs.Ytmekaofjcjmklaa
