/- The walks of shards.mayBePart, mayBeList, total and Check. -/
import Derived.Test.YtbhngncnhabbkaaGreatSByte
namespace Go.Proofs.YtbhngncnhabbkaaGreat
open Go.RowKit

theorem smayP_any (p : Int × Int) (w : World) :
    Calls Tryz.prog 38 #[.agg #[.int .i64 p.1, .int .i64 p.2]] w fun e w' => e = .returned (.bool (Sh.mayP p)) ∧ Below w.heap.size w w' := by
  obtain ⟨a, b⟩ := p
  dsimp only
  have hb : Hid (Below w.heap.size w (w.alloc (.cells #[.int .i64 a, .int .i64 b] 23))) := (Below.refl _ w).alloc (Nat.le_refl _) _
  by_cases h1 : 0 ≤ a
  · by_cases h2 : a < b
    · by_cases h3 : b ≤ 256
      · have HR : Hid (Sh.mayP (a, b) = true) := Sh.mayP_iff.2 ⟨h1, h2, h3⟩
        generalize Sh.mayP (a, b) = r at *
        go_enter Tryz.func38, Tryz.ntmps38
        go_wp2
        go_ret
        exact ⟨ret_bool HR.out.symm, hb.out⟩
      · have HR : Hid (Sh.mayP (a, b) = false) := by simp [Hid, Sh.mayP, h3]
        generalize Sh.mayP (a, b) = r at *
        go_enter Tryz.func38, Tryz.ntmps38
        go_wp2
        go_ret
        exact ⟨ret_bool HR.out.symm, hb.out⟩
    · have HR : Hid (Sh.mayP (a, b) = false) := by simp [Hid, Sh.mayP, h2]
      generalize Sh.mayP (a, b) = r at *
      go_enter Tryz.func38, Tryz.ntmps38
      go_wp2
      go_ret
      exact ⟨ret_bool HR.out.symm, hb.out⟩
  · have HR : Hid (Sh.mayP (a, b) = false) := by simp [Hid, Sh.mayP, h1]
    generalize Sh.mayP (a, b) = r at *
    go_enter Tryz.func38, Tryz.ntmps38
    go_wp2
    go_ret
    exact ⟨ret_bool HR.out.symm, hb.out⟩

theorem not_mem_upto {l : List Int} {x : Int} (h : ∀ j, j < l.length → l.getD j 0 ≠ x) : ¬ x ∈ l := fun hx => by
  obtain ⟨j, hj, e⟩ := List.mem_iff_getElem.1 hx
  exact h j hj (by simp [List.getD, hj, e])
theorem mem_at {l : List Int} {j : Nat} (hj : j < l.length) : l.getD j 0 ∈ l := by
  rw [List.getD_eq_getElem?_getD, List.getElem?_eq_getElem hj]; exact List.getElem_mem hj

set_option maxHeartbeats 400000 in
theorem index_any (v : Value) (l : List Int) (x : Int) (w : World) (h : Ints w v l) (hl : l.length ≤ 1000000000000) :
    Calls Tryz.prog 95 #[v, .int .i64 x] w fun e w' => ∃ i : Int, e = .returned (.int .i64 i) ∧ Hid (0 ≤ i ↔ x ∈ l) ∧ w' = w := by
  obtain ⟨a, cap, rfl, h⟩ := h
  have HC : Hid _ := h
  clear h
  go_enter Tryz.func95, Tryz.ntmps95
  go_wp2
  go_loop [8] (fun i => ∃ k : Nat, k ≤ l.length ∧ i = .int .i64 k ∧ Hid (∀ j, j < k → l.getD j 0 ≠ x)) (fun i => l.length - (intOf i).toNat)
  case atStart => exact ⟨0, Nat.zero_le _, rfl, fun j hj => by omega⟩
  case round =>
    obtain ⟨k, hk, rfl, HJ⟩ := hrel
    by_cases hlt : k < l.length
    · obtain ⟨b, off, rfl, _, hc⟩ := HC.out.resolve_left (by rintro rfl; simp at hlt)
      have c1 := hc k hlt
      have HM : Hid (l.getD k 0 ∈ l) := mem_at hlt
      have HJ2 : Hid (l.getD k 0 ≠ x → ∀ j, j < k + 1 → l.getD j 0 ≠ x) := fun h j hj => by
        by_cases e : j = k
        · rw [e]; exact h
        · exact HJ.out j (by omega)
      clear hc
      generalize l.getD k 0 = z at *
      by_cases hz : z = x
      · subst hz
        go_wp2
        go_ret
        exact ⟨_, rfl, ⟨fun _ => HM.out, fun _ => by omega⟩, rfl⟩
      · have hzb : (x == z) = false := by rw [beq_eq_false_iff_ne]; exact fun e => hz e.symm
        have HJ3 : Hid _ := HJ2.out hz
        clear hz
        go_wp2
        go_round
        case rel => exact ⟨k + 1, by omega, by go_num, HJ3⟩
        case measure => simp [intOf]; omega
    · obtain rfl : k = l.length := by omega
      have HN : Hid (¬ x ∈ l) := not_mem_upto HJ.out
      go_wp2
      go_ret
      exact ⟨_, rfl, ⟨fun h => by omega, fun h => absurd h HN.out⟩, rfl⟩

theorem contains_any (v : Value) (l : List Int) (x : Int) (w : World) (h : Ints w v l) (hl : l.length ≤ 1000000000000) :
    Calls Tryz.prog 71 #[v, .int .i64 x] w fun e w' => e = .returned (.bool (decide (x ∈ l))) ∧ w' = w := by
  have HI : Hid _ := index_any v l x w h hl
  go_enter Tryz.func71, Tryz.ntmps71
  go_wp2_with fail
  refine Calls.mono HI.out ?_
  rintro e w1 ⟨i, rfl, hi, rfl⟩
  have HD : Hid (decide (0 ≤ i) = decide (x ∈ l)) := decide_eq_decide.2 hi.out
  clear hi HI
  go_wp2
  go_ret
  exact ⟨congrArg (fun b => Ending.returned (.bool b)) HD.out, rfl⟩

namespace Sh
theorem up_mono {l : List Int} (hu : Gp.up (-1) l = true) : ∀ k, k < l.length → ∀ j, j ≤ k → l.getD j 0 ≤ l.getD k 0
  | 0, _, j, hj => by obtain rfl : j = 0 := by omega
                      exact Int.le_refl _
  | k + 1, h, j, hj => by
    by_cases e : j = k + 1
    · rw [e]; exact Int.le_refl _
    · have h1 := up_mono hu k (by omega) j (by omega)
      have h2 := (Gp.up_at l hu (k + 1) h).1
      rw [Gp.prev_succ] at h2
      omega
theorem okL_no {v : Int} {l : List Int} (h : Gp.up (-1) l = false) : okL v l = false := by unfold okL; rw [h, Bool.false_and]
theorem okL_self {v : Int} {l : List Int} (h : v ∈ l) : okL v l = false := by
  cases hk : okL v l with
  | false => rfl
  | true =>
    obtain ⟨j, hj, e⟩ := List.mem_iff_getElem.1 h
    exact absurd (by simp [List.getD, hj, e]) ((okL_iff.1 hk).2 j hj).2
theorem okL_nil (v : Int) : okL v [] = true := rfl
theorem okL_last {v : Int} {l : List Int} {n : Nat} (hu : Gp.up (-1) l = true) (hv : ¬ v ∈ l) (hn : l.length = n + 1) : okL v l = decide (l.getD n 0 < 256) := by
  rw [Bool.eq_iff_iff, okL_iff, decide_eq_true_eq]
  refine ⟨fun h => (h.2 n (by omega)).1, fun h => ⟨hu, fun j hj => ⟨?_, fun e => hv (e ▸ ?_)⟩⟩⟩
  · have := up_mono hu n (by omega) j (by omega)
    omega
  · rw [List.getD_eq_getElem?_getD, List.getElem?_eq_getElem hj]; exact List.getElem_mem hj
end Sh

set_option maxHeartbeats 400000 in
theorem mayL_any (v : Value) (l : List Int) (x : Int) (w : World) (h : Ints w v l) (hf : Gp.Fit l) (hl : l.length ≤ 1000000000000) :
    Calls Tryz.prog 39 #[v, .int .i64 x] w fun e w' => e = .returned (.bool (Sh.okL x l)) ∧ w' = w := by
  have HCK := check_any v l w h hf hl
  have HCT := contains_any v l x w h hl
  obtain ⟨a, cap, rfl, h⟩ := h
  cases hu : Gp.up (-1) l with
  | false =>
    rw [err_no hu] at HCK
    rw [Sh.okL_no hu]
    have HC : Hid _ := HCK
    clear HCK HCT hu h
    generalize l.length = n at *
    go_enter Tryz.func39, Tryz.ntmps39
    go_wp2_with fail
    refine Calls.mono HC.out ?_
    rintro e w1 ⟨rfl, rfl⟩
    go_wp2
    go_ret
    exact ⟨rfl, rfl⟩
  | true =>
    rw [err_yes hu] at HCK
    have HC : Hid _ := HCK
    clear HCK
    by_cases hx : x ∈ l
    · rw [decide_eq_true hx] at HCT
      rw [Sh.okL_self hx]
      have HT : Hid _ := HCT
      clear HCT hu h hx
      generalize l.length = n at *
      go_enter Tryz.func39, Tryz.ntmps39
      go_wp2_with fail
      refine Calls.mono HC.out ?_
      rintro e w1 ⟨rfl, rfl⟩
      go_wp2_with fail
      refine Calls.mono HT.out ?_
      rintro e w2 ⟨rfl, rfl⟩
      go_wp2
      go_ret
      exact ⟨rfl, rfl⟩
    · rw [decide_eq_false hx] at HCT
      have HT : Hid _ := HCT
      clear HCT
      cases hn : l.length with
      | zero =>
        obtain rfl : l = [] := List.length_eq_zero_iff.1 hn
        rw [Sh.okL_nil]
        clear h hu hx hn
        go_enter Tryz.func39, Tryz.ntmps39
        go_wp2_with fail
        refine Calls.mono HC.out ?_
        rintro e w1 ⟨rfl, rfl⟩
        go_wp2_with fail
        refine Calls.mono HT.out ?_
        rintro e w2 ⟨rfl, rfl⟩
        go_wp2
        go_ret
        exact ⟨rfl, rfl⟩
      | succ n =>
        rw [Sh.okL_last hu hx hn]
        obtain ⟨b, off, rfl, _, hc⟩ := h.resolve_left (by rintro rfl; simp at hn)
        have c1 := hc n (by omega)
        rw [hn] at HC HT hl
        clear hc hu hx hn
        generalize l.getD n 0 = z at *
        have e1 : ((n + 1 : Nat) : Int) - 1 = n := by omega
        go_enter Tryz.func39, Tryz.ntmps39
        go_wp2_with fail
        refine Calls.mono HC.out ?_
        rintro e w1 ⟨rfl, rfl⟩
        go_wp2_with fail
        refine Calls.mono HT.out ?_
        rintro e w2 ⟨rfl, rfl⟩
        go_wp2
        go_ret
        exact ⟨rfl, rfl⟩

set_option maxHeartbeats 400000 in
theorem stotal_any (v : Value) (o : List (List Int)) (w : World) (h : Lists w v o) (hf : FitS o) :
    Calls Tryz.prog 27 #[v] w fun e w' => e = .returned (.int .i64 (Sh.many o : Nat)) ∧ w' = w := by
  have hol := hf.1
  have HMB : Hid (Sh.many o ≤ 1000000000000) := many_fit hf
  have HL : Hid (Lists w v o) := h
  have HF : Hid (FitS o) := hf
  obtain ⟨t, HT⟩ : ∃ x, Hid (Sh.many o = x) := ⟨_, rfl⟩
  rw [HT.out]
  obtain ⟨a, cap, rfl, _, _⟩ := id h
  clear h hf
  go_enter Tryz.func27, Tryz.ntmps27
  go_wp2
  go_loop [3, 8] (fun m i => ∃ k : Nat, k ≤ o.length ∧ i = .int .i64 k ∧ m = .int .i64 (Sh.many (o.take k))) (fun _ i => o.length - (intOf i).toNat)
  case atStart => exact ⟨0, Nat.zero_le _, rfl, rfl⟩
  case round =>
    obtain ⟨k, hk, rfl, rfl⟩ := hrel
    by_cases hlt : k < o.length
    · obtain ⟨b, off, rfl, x, hx, hi⟩ := HL.out.at_ hlt
      obtain ⟨ax, cx, rfl, _⟩ := hi
      have hfl := (HF.out.2 _ (getD_mem_o hlt)).1
      have HM1 : Hid (Sh.many (o.take (k + 1)) = Sh.many (o.take k) + (o.getD k []).length) := many_step hlt
      have hm2 : Sh.many (o.take k) ≤ 1000000000000 := Nat.le_trans (many_mono k) HMB.out
      generalize (o.getD k []).length = n at *
      generalize Sh.many (o.take k) = m at *
      go_wp2
      go_round
      case rel => exact ⟨k + 1, by omega, by go_num, by rw [HM1.out]; go_num⟩
      case measure => simp [intOf]; omega
    · obtain rfl : k = o.length := by omega
      rw [List.take_length, HT.out]
      go_wp2
      go_ret
      exact ⟨rfl, rfl⟩

set_option maxHeartbeats 1000000 in
set_option maxRecDepth 100000 in
theorem schk_any (s : Sh.Shard) (v : Value) (w : World) (h : Lists w v s.2) (hf : FitS s.2) (hp : (-9223372036854775808 ≤ s.1.1 ∧ s.1.1 ≤ 9223372036854775807) ∧ (-9223372036854775808 ≤ s.1.2 ∧ s.1.2 ≤ 9223372036854775807)) :
    Calls Tryz.prog 12 #[.agg (scells s v)] w fun e w' => e = .returned (.int .i64 (Sh.chk s)) ∧ Below w.heap.size w w' := by
  obtain ⟨p, o⟩ := s
  unfold scells
  dsimp only at h hf hp ⊢
  obtain ⟨a, cap, rfl, hcap, _⟩ := id h
  obtain ⟨wa, hwa⟩ : ∃ wa, w.alloc (.cells #[.int .i64 p.1, .int .i64 p.2, .slice a o.length cap] 26) = wa := ⟨_, rfl⟩
  have c0 : wa.cell? ⟨w.heap.size, 0, none⟩ = some (.int .i64 p.1) := by rw [← hwa]; simp
  have c1 : wa.cell? ⟨w.heap.size, 1, none⟩ = some (.int .i64 p.2) := by rw [← hwa]; simp
  have c2 : wa.cell? ⟨w.heap.size, 2, none⟩ = some (.slice a o.length cap) := by rw [← hwa]; simp
  have hba : Hid (Below w.heap.size w wa) := by rw [← hwa]; exact (Below.refl _ w).alloc (Nat.le_refl _) _
  have HL : Hid (Lists wa (.slice a o.length cap) o) := h.later hba.out
  have HF : Hid (FitS o) := hf
  have hol := hf.1
  have HM := smayP_any p wa
  clear h hf hp
  have HCN : Hid (¬ Sh.may (p, o) = true → Sh.chk (p, o) = 2) := fun h => Sh.chk_no h
  have HCY : Hid (Sh.may (p, o) = true → Sh.chk (p, o) = 0) := fun h => Sh.chk_yes h
  generalize Sh.chk (p, o) = r at *
  cases hm : Sh.mayP p with
  | false =>
    rw [hm] at HM
    have HR : Hid (r = 2) := HCN.out fun hh => by have := (Sh.may_iff.1 hh).1; rw [hm] at this; cases this
    replace HM : Hid _ := HM
    clear hm
    go_enter Tryz.func12, Tryz.ntmps12
    go_wp2_with fail
    refine Calls.mono HM.out ?_
    rintro e w1 ⟨rfl, hb1⟩
    replace hb1 : Hid (Below wa.heap.size wa w1) := hb1
    clear HM
    go_wp2
    go_ret
    exact ⟨ret_int HR.out.symm, hba.out.trans (hb1.out.mono hba.out.size)⟩
  | true =>
    rw [hm] at HM
    have hmp := Sh.mayP_iff.1 hm
    replace HM : Hid _ := HM
    by_cases hlen : (o.length : Int) = p.2 - p.1
    · have HLEN : Hid ((o.length : Int) = p.2 - p.1) := hlen
      have hlb : ((o.length : Int) != p.2 - p.1) = false := by simpa using hlen
      have HMP : Hid (Sh.mayP p = true) := hm
      clear hm hlen
      go_enter Tryz.func12, Tryz.ntmps12
      go_wp2_with fail
      refine Calls.mono HM.out ?_
      rintro e w1 ⟨rfl, hb1⟩
      replace c0 := cell_after hb1 c0
      replace c1 := cell_after hb1 c1
      replace c2 := cell_after hb1 c2
      replace HL := Lists.hid HL hb1
      replace hb1 : Hid (Below w.heap.size w w1) := hba.out.trans (hb1.mono hba.out.size)
      clear HM hba hwa
      go_wp2_with fail
      go_loop [25] (fun i => ∃ k : Nat, k ≤ o.length ∧ i = .int .i64 k ∧ Hid (Sh.okF p.1 (o.take k) = true)) (fun i => o.length - (intOf i).toNat)
      case atStart => exact ⟨0, Nat.zero_le _, rfl, rfl⟩
      case round =>
        obtain ⟨k, hk, rfl, HK⟩ := hrel
        by_cases hlt : k < o.length
        · obtain ⟨b, off, rfl, x, hx, hi⟩ := HL.out.at_ hlt
          obtain ⟨ax, cx, rfl, _⟩ := id hi
          have hfl := HF.out.2 _ (getD_mem_o hlt)
          have HO1 : Hid (Sh.okL (p.1 + k) (o.getD k []) = true → Sh.okF p.1 (o.take (k + 1)) = true) := fun h => by rw [Sh.okF_take _ _ _ hlt, HK.out, h]; rfl
          have HO2 : Hid (Sh.okL (p.1 + k) (o.getD k []) = false → r = 2) := fun h => HCN.out fun hh => by
            have h1 := (Sh.may_iff.1 hh).2.2.1
            rw [Sh.okF_stop (k := k + 1) (by rw [Sh.okF_take _ _ _ hlt]; show (_ && Sh.okL (p.1 + k) (o.getD k [])) = false; rw [h, Bool.and_false])] at h1
            cases h1
          have HML := mayL_any _ (o.getD k []) (p.1 + k) w1 hi hfl.2 (by omega)
          have hk256 : k < 256 := by have := HLEN.out; omega
          clear hi hfl
          generalize Sh.okL (p.1 + k) (o.getD k []) = q at *
          generalize (o.getD k []).length = n at *
          cases q with
          | false =>
            have HR : Hid (r = 2) := HO2.out rfl
            replace HML : Hid _ := HML
            go_wp2_with fail
            refine Calls.mono HML.out ?_
            rintro e w2 ⟨rfl, rfl⟩
            go_wp2
            go_ret
            exact ⟨ret_int HR.out.symm, hb1.out⟩
          | true =>
            have HK2 : Hid _ := HO1.out rfl
            replace HML : Hid _ := HML
            go_wp2_with fail
            refine Calls.mono HML.out ?_
            rintro e w2 ⟨rfl, rfl⟩
            go_wp2
            go_round
            case rel => exact ⟨k + 1, by omega, by go_num, HK2⟩
            case measure => simp [intOf]; omega
        · obtain rfl : k = o.length := by omega
          rw [List.take_length] at HK
          have HY : Hid (Sh.many o ≤ 4096 → r = 0) := fun h => HCY.out (Sh.may_iff.2 ⟨HMP.out, HLEN.out, HK.out, h⟩)
          have HN : Hid (¬ Sh.many o ≤ 4096 → r = 2) := fun h => HCN.out fun hh => h (Sh.may_iff.1 hh).2.2.2
          have HT : Hid _ := stotal_any _ o w1 HL.out HF.out
          generalize Sh.many o = m at *
          by_cases h4 : m ≤ 4096
          · have HR : Hid (r = 0) := HY.out h4
            go_wp2_with fail
            refine Calls.mono HT.out ?_
            rintro e w2 ⟨rfl, rfl⟩
            go_wp2
            go_ret
            exact ⟨ret_int HR.out.symm, hb1.out⟩
          · have HR : Hid (r = 2) := HN.out h4
            go_wp2_with fail
            refine Calls.mono HT.out ?_
            rintro e w2 ⟨rfl, rfl⟩
            go_wp2
            go_ret
            exact ⟨ret_int HR.out.symm, hb1.out⟩
    · have HR : Hid (r = 2) := HCN.out fun hh => hlen (Sh.may_iff.1 hh).2.1
      have hlb : ((o.length : Int) != p.2 - p.1) = true := by simpa using hlen
      clear hm hlen
      go_enter Tryz.func12, Tryz.ntmps12
      go_wp2_with fail
      refine Calls.mono HM.out ?_
      rintro e w1 ⟨rfl, hb1⟩
      replace c0 := cell_after hb1 c0
      replace c1 := cell_after hb1 c1
      replace c2 := cell_after hb1 c2
      replace hb1 : Hid (Below wa.heap.size wa w1) := hb1
      clear HM
      go_wp2
      go_ret
      exact ⟨ret_int HR.out.symm, hba.out.trans (hb1.out.mono hba.out.size)⟩

end Go.Proofs.YtbhngncnhabbkaaGreat
