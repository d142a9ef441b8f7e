/- The document's own edges: the walks of Normal, Reverse, Out and Degrees. -/
import Derived.Test.YtmgikaanckbadaaERef
import Derived.Deep.RegionHeld3
namespace Go.Proofs.Ytmgikaanckbadaa
open Go.RowKit Go.Shelf Go.Sort Go.Lib

theorem nrm_put (l : List (Int × Int)) (x : Int × Int) : Ed.nrm (l ++ [x]) = putE (Ed.nrm l) x true := by
  rw [Ed.nrm_snoc]
  unfold putE
  by_cases h : x ∈ Ed.nrm l
  · rw [if_pos (by simpa using h), decide_eq_true h]; rfl
  · rw [if_neg (by simpa using h), decide_eq_false h]; rfl
theorem srt_put (l : List (Int × Int)) (x : Int × Int) : Ed.srt (l ++ [x]) = putE (Ed.srt l) x false := by
  rw [Ed.srt_snoc]; rfl

theorem bad_iff (n : Int) (x : Int × Int) : Ed.bad n x = true ↔ (x.1 < 0 ∨ n ≤ x.1 ∨ x.2 < 0 ∨ n ≤ x.2 ∨ x.1 = x.2) := by
  simp [Ed.bad, Ed.vert]; omega

set_option maxHeartbeats 2000000 in
set_option maxRecDepth 100000 in
theorem rout_any (v : Value) (l : List (Int × Int)) (x : Int) (w : World) (h : Edg w v l) (hl : l.length ≤ 1000000) :
    Calls Try.prog 15 #[v, .int .i64 x] w fun e w' => ∃ u, e = .returned u ∧ Ints w' u (Ed.outs l x) ∧ Below w.heap.size w w' := by
  obtain ⟨i0, hi0, hz0, hz1, hz2⟩ := info_parts Try.intInfo
  obtain ⟨a, cap, rfl, _, h⟩ := h
  have HE : Hid _ := h
  clear h
  go_enter Try.func15, Try.ntmps15
  go_wp2
  go_loopw [5, 6] (fun u i wr => ∃ k : Nat, k ≤ l.length ∧ i = .int .i64 k ∧ Hid (wr.ownsRow w.heap.size 3 1 u (Ed.outs (l.take k) x).length ((Ed.outs (l.take k) x).map (Value.int .i64))) ∧ Hid (Below w.heap.size w wr)) (fun _ i _ => l.length - (intOf i).toNat)
  case atStart => exact ⟨0, Nat.zero_le _, rfl, World.ownsRow_nil _ _ _ _, Below.refl _ _⟩
  case round =>
    obtain ⟨k, hk, rfl, HO, HB⟩ := hrel
    by_cases hlt : k < l.length
    · obtain ⟨b, off, rfl, hc⟩ := HE.out.resolve_left (by rintro rfl; simp at hlt)
      have c1 := cell_after HB.out (hc k hlt).1
      have c2 := cell_after HB.out (hc k hlt).2
      clear hc
      have HS : Hid (Ed.outs (l.take (k + 1)) x = if (l.getD k e0).1 = x then Ed.outs (l.take k) x ++ [(l.getD k e0).2] else Ed.outs (l.take k) x) := by
        rw [Hid, take_succ_e l k hlt, outs_snoc]
      have HN : Hid ((Ed.outs (l.take k) x).length ≤ 1000000) := Nat.le_trans (outs_len _ _) (by rw [List.length_take]; omega)
      generalize l.getD k e0 = p at *
      by_cases hpx : p.1 = x
      · have hq : (p.1 == x) = true := by simpa using hpx
        have HS1 : Hid (Ed.outs (l.take (k + 1)) x = Ed.outs (l.take k) x ++ [p.2]) := by rw [Hid, HS.out, if_pos hpx]
        clear hpx HS
        go_wp2_with (at_builtin; refine wpList_append_own _ rfl _ _ 29 rfl w.heap.size 3 i0 (.int .i64 0) 1 8 Try.underlying29 hi0 hz0 hz1 hz2 rfl (by decide) _ _ _ rfl (HO.out.alloc _) ⟨wr.heap.size, 0, none⟩ 1 1 [.int .i64 p.2] rfl rfl (cell_one_new _ _ _) (by simp [Value.oneCell']) (by have := HN.out; unfold maxLen; omega) (by have := HN.out; omega) (by have := HB.out.size; simp; omega) ?_; intro v' w1 hown1 hgrow1 _)
        have HO1 : Hid (w1.ownsRow w.heap.size 3 1 v' (Ed.outs (l.take (k + 1)) x).length ((Ed.outs (l.take (k + 1)) x).map (Value.int .i64))) := by
          rw [Hid, HS1.out]; simpa using hown1
        have HB1 : Hid (Below w.heap.size w w1) := (HB.out.alloc HB.out.size _).grown hgrow1 (by have := HB.out.size; simp; omega) (fun q e => (HO.out.lt q e).1)
        clear hown1 hgrow1
        go_roundw
        case rel => exact ⟨k + 1, by omega, by go_num, HO1, HB1⟩
        case measure => simp [intOf]; omega
      · have hq : (p.1 == x) = false := by simpa using hpx
        have HS1 : Hid (Ed.outs (l.take (k + 1)) x = Ed.outs (l.take k) x) := by rw [Hid, HS.out, if_neg hpx]
        clear hpx HS
        go_wp2
        go_roundw
        case rel => exact ⟨k + 1, by omega, by go_num, by rw [Hid, HS1.out]; exact HO.out, HB.out⟩
        case measure => simp [intOf]; omega
    · obtain rfl : k = l.length := by omega
      have HO2 : Hid (Ints wr u5 (Ed.outs l x)) := by
        have h := HO.out
        rw [List.take_length] at h
        exact Ints.of_own h
      go_wp2
      go_ret
      exact ⟨_, rfl, HO2.out, HB.out⟩

set_option maxHeartbeats 2000000 in
set_option maxRecDepth 100000 in
theorem rnormal_any (v : Value) (l : List (Int × Int)) (n : Int) (w : World) (h : Edg w v l) (hl : l.length ≤ 1000000) :
    Calls Try.prog 9 #[.int .i64 n, v] w fun e w' => ∃ u, e = .returned (.tuple #[u, .int .i64 (Ed.nor n l).2]) ∧ Edg w' u (Ed.nor n l).1 ∧ Below w.heap.size w w' := by
  obtain ⟨a, cap, rfl, _, h⟩ := h
  have HE : Hid _ := h
  clear h
  by_cases h1 : n < 1
  · have HX : Hid (Ed.nor n l = ([], 2)) := nor_many (by unfold Ed.many; simp; omega)
    go_enter Try.func9, Try.ntmps9
    go_wp2
    go_ret2
    rw [HX.out]
    exact ⟨_, rfl, edg_nil _, Below.refl _ _⟩
  · by_cases h2 : n > 256
    · have HX : Hid (Ed.nor n l = ([], 2)) := nor_many (by unfold Ed.many; simp; omega)
      go_enter Try.func9, Try.ntmps9
      go_wp2
      go_ret2
      rw [HX.out]
      exact ⟨_, rfl, edg_nil _, Below.refl _ _⟩
    · have HM : Hid (Ed.many n = true) := by rw [Hid]; unfold Ed.many; simp; omega
      go_enter Try.func9, Try.ntmps9
      go_wp2
      go_loopw [6, 7] (fun u i wr => ∃ k : Nat, k ≤ l.length ∧ i = .int .i64 k ∧ Hid (Held wr u (Ed.nrm (l.take k))) ∧ Hid ((l.take k).any (Ed.bad n) = false) ∧ Hid (Below w.heap.size w wr)) (fun _ i _ => l.length - (intOf i).toNat)
      case atStart => exact ⟨0, Nat.zero_le _, rfl, .inl ⟨rfl, rfl⟩, rfl, Below.refl _ _⟩
      case round =>
        obtain ⟨k, hk, rfl, HH, HA, HB⟩ := hrel
        by_cases hlt : k < l.length
        · obtain ⟨b, off, rfl, hc⟩ := HE.out.resolve_left (by rintro rfl; simp at hlt)
          have c1 := cell_after HB.out (hc k hlt).1
          have c2 := cell_after HB.out (hc k hlt).2
          clear hc
          have HT : Hid (Ed.nrm (l.take (k + 1)) = putE (Ed.nrm (l.take k)) (l.getD k e0) true) := by rw [Hid, take_succ_e l k hlt, nrm_put]
          have HA2 : Hid (Ed.bad n (l.getD k e0) = false → (l.take (k + 1)).any (Ed.bad n) = false) := fun h => by
            rw [take_succ_e l k hlt, List.any_append, HA.out]; simpa using h
          have HX : Hid (Ed.bad n (l.getD k e0) = true → Ed.nor n l = ([], 2)) := fun h => nor_bad HM.out (List.any_eq_true.2 ⟨_, getD_mem_e hlt, h⟩)
          have HN : Hid ((Ed.nrm (l.take k)).length ≤ 1000000) := Nat.le_trans (Ed.nrm_len _) (by rw [List.length_take]; omega)
          have HU : Hid (Ed.Up (Ed.nrm (l.take k))) := (Ed.nrm_rising _).up
          generalize l.getD k e0 = p at *
          have HBI : Hid (Ed.bad n p = true ↔ (p.1 < 0 ∨ n ≤ p.1 ∨ p.2 < 0 ∨ n ≤ p.2 ∨ p.1 = p.2)) := bad_iff n p
          obtain ⟨wA, hwA⟩ : ∃ wA, wr.alloc (.cells #[.int .i64 p.1, .int .i64 p.2] 24) = wA := ⟨_, rfl⟩
          have b1 : wA.cell? ⟨wr.heap.size, 0, none⟩ = some (.int .i64 p.1) := by rw [← hwA]; simp
          have b2 : wA.cell? ⟨wr.heap.size, 1, none⟩ = some (.int .i64 p.2) := by rw [← hwA]; simp
          have HBA : Hid (Below w.heap.size w wA) := by rw [Hid, ← hwA]; exact HB.out.alloc HB.out.size _
          have HHA : Hid (Held wA u6 (Ed.nrm (l.take k))) := by rw [Hid, ← hwA]; exact HH.out.later (alloc_below wr _)
          clear HH HB
          by_cases hbad : Ed.bad n p = true
          · have HX1 : Hid (Ed.nor n l = ([], 2)) := HX.out hbad
            have hyes := HBI.out.1 hbad
            clear hbad HX HA2 HBI HT HN HU HHA
            by_cases g1 : p.1 < 0
            · clear hyes
              go_wp2
              go_ret2
              rw [HX1.out]
              exact ⟨_, rfl, edg_nil _, HBA.out⟩
            · by_cases g2 : n ≤ p.1
              · clear hyes
                go_wp2
                go_ret2
                rw [HX1.out]
                exact ⟨_, rfl, edg_nil _, HBA.out⟩
              · by_cases g3 : p.2 < 0
                · clear hyes
                  go_wp2
                  go_ret2
                  rw [HX1.out]
                  exact ⟨_, rfl, edg_nil _, HBA.out⟩
                · by_cases g4 : n ≤ p.2
                  · clear hyes
                    go_wp2
                    go_ret2
                    rw [HX1.out]
                    exact ⟨_, rfl, edg_nil _, HBA.out⟩
                  · have g5 : (p.1 == p.2) = true := by simp; omega
                    clear hyes
                    go_wp2
                    go_ret2
                    rw [HX1.out]
                    exact ⟨_, rfl, edg_nil _, HBA.out⟩
          · have hno : ¬ (p.1 < 0 ∨ n ≤ p.1 ∨ p.2 < 0 ∨ n ≤ p.2 ∨ p.1 = p.2) := fun h => hbad (HBI.out.2 h)
            have g1 : ¬ p.1 < 0 := by omega
            have g2 : ¬ n ≤ p.1 := by omega
            have g3 : ¬ p.2 < 0 := by omega
            have g4 : ¬ n ≤ p.2 := by omega
            have g5 : (p.1 == p.2) = false := by simp; omega
            have HA3 : Hid ((l.take (k + 1)).any (Ed.bad n) = false) := HA2.out (by simpa using hbad)
            clear hbad hno HX HA2 HBI
            go_wp2_with fail
            refine (put_any _ _ p true _ HHA.out HU.out HN.out).mono ?_
            rintro e w2 ⟨u2, rfl, hh2, hb2⟩
            rw [← HT.out] at hh2
            have HH2 : Hid (Held w2 u2 (Ed.nrm (l.take (k + 1)))) := hh2
            have HB2 : Hid (Below w.heap.size w w2) := bnext HBA.out hb2
            clear hh2 hb2
            go_wp2
            go_roundw
            case rel => exact ⟨k + 1, by omega, by go_num, HH2, HA3, HB2⟩
            case measure => simp [intOf]; omega
        · obtain rfl : k = l.length := by omega
          have HH1 : Hid (Held wr u6 (Ed.nrm l)) := by have h := HH.out; rwa [List.take_length] at h
          have HA1 : Hid (l.any (Ed.bad n) = false) := by have h := HA.out; rwa [List.take_length] at h
          obtain ⟨au, capu, rfl, _, _⟩ := HH1.out.edg
          by_cases hlong : 4096 < (Ed.nrm l).length
          · have HX : Hid (Ed.nor n l = ([], 3)) := nor_long HM.out HA1.out hlong
            generalize Ed.nrm l = U at *
            generalize U.length = m at *
            go_wp2
            go_ret2
            rw [HX.out]
            exact ⟨_, rfl, edg_nil _, HB.out⟩
          · have HX : Hid (Ed.nor n l = (Ed.nrm l, 0)) := nor_yes HM.out HA1.out hlong
            have HE2 : Hid (Edg wr (.slice au (Ed.nrm l).length capu) (Ed.nrm l)) := HH1.out.edg
            generalize Ed.nrm l = U at *
            generalize U.length = m at *
            go_wp2
            go_ret2
            rw [HX.out]
            exact ⟨_, rfl, HE2.out, HB.out⟩

end Go.Proofs.Ytmgikaanckbadaa
