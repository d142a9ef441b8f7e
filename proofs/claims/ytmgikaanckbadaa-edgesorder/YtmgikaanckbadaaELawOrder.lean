/- EdgesOrder: for every byte, every list of pairs of bytes and every uint16 the call returns true: a normal list rises, has the edges handed in and no other, is its own normal list, and is the same in another order or with edges twice (P8.1, P8.4). No conditions; above 400 pairs the call returns true at once. -/
import Derived.Test.YtmgikaanckbadaaEOrder
import Derived.Test.YtmgikaanckbadaaLater
import Derived.Deep.RegionLaw
import Derived.Deep.AppendLies
namespace Go.Proofs.Ytmgikaanckbadaa
open Go.ChangeShapes Go.WideShapes Go.ChangeAt Go.RowKit Go.Shelf Go.Sort Go.Lib

set_option maxHeartbeats 4000000 in
set_option maxRecDepth 100000 in
theorem edgesOrder_walk (n0 : Int) (v : Value) (l : List (Nat × Nat)) (f0 : Int) (w : World) (hn : (Lit.int .u8 n0).wf = true) (h : Prs w v l) (hs : Small l) (hl : l.length ≤ 9223372036854775807) (hf : (Lit.int .u16 f0).wf = true) :
    Calls Try.prog 4 #[.int .u8 n0, v, .int .u16 f0] w fun e w' => e = .returned (.bool true) ∧ Below w.heap.size w w' := by
  obtain ⟨n, rfl, hn2⟩ := wf_u8 hn
  obtain ⟨f, rfl, hf2⟩ := wf_u16 hf
  by_cases h400 : 400 < l.length
  · obtain ⟨a, cap, rfl, _, _⟩ := h
    go_enter Try.func4, Try.ntmps4
    go_wp2
    go_ret
    exact ⟨rfl, Below.refl _ _⟩
  · obtain ⟨i0, hi0, hz0, hz1, hz2⟩ := info_parts Try.edgeInfo
    obtain ⟨c, hzv, hcs, hc⟩ := zero_square
    obtain ⟨m, hm⟩ : ∃ m, 2 + n % 255 = m := ⟨_, rfl⟩
    have hm1 : 2 ≤ m ∧ m ≤ 256 := by omega
    have hm3 : 2 + (n : Int) % 255 = m := by omega
    have HS : Hid (Calls _ _ _ _ _) := some_any m v l w hm1.1 hm1.2 h hs (by omega)
    obtain ⟨a, cap, rfl, _, _⟩ := h
    clear hm hs hn hf
    go_enter Try.func4, Try.ntmps4
    go_wp2_with fail
    refine Calls.mono HS.out ?_
    rintro e w1 ⟨u, rfl, hown, hb⟩
    have HOK : Hid (∀ x ∈ someE m l, ∃ a b : Nat, x = ((a : Int), (b : Int)) ∧ a < m ∧ b < m ∧ a ≠ b) := some_ok hm1.1
    have hlen := someE_len m l
    rw [← hlen] at h400 hown
    clear hlen HS
    generalize someE m l = E at *
    have HO1 : Hid (w1.ownsRow w.heap.size 24 2 u E.length (ecells E)) := hown
    have he : Hid (Edg w1 u E) := Edg.of_own hown
    have hb : Hid (Below w.heap.size w w1) := hb
    have hel : E.length ≤ 400 := by omega
    have HNL : Hid ((Ed.nrm E).length ≤ E.length) := Ed.nrm_len E
    have HNR : Hid (Ed.nor (m : Int) E = (Ed.nrm E, 0)) := by
      have hm' : Ed.many (m : Int) = true := by unfold Ed.many; simp; omega
      have hb' : E.any (Ed.bad (m : Int)) = false := by
        rw [List.any_eq_false]
        intro x hx
        obtain ⟨a, b, rfl, h1, h2, h3⟩ := HOK.out x hx
        simp [Ed.bad, Ed.vert]
        omega
      exact nor_yes hm' hb' (by have := HNL.out; omega)
    clear hown h400
    go_wp2_with fail
    refine (normal_any u E m w1 he.out (by omega)).mono ?_
    rintro e w2 ⟨ua, rfl, hua, hb2⟩
    rw [HNR.out] at hua ⊢
    replace hua : Hid (Edg w2 ua (Ed.nrm E)) := hua
    have HB2 : Hid (Below w1.heap.size w1 w2) := hb2
    obtain ⟨aA, capA, rfl, hcA, hcAc⟩ := hua.out
    obtain ⟨aE, capE, rfl, hcE, hcEc⟩ := he.out
    have hnl : (Ed.nrm E).length ≤ E.length := HNL.out
    have hnd : decide (E.length < (Ed.nrm E).length) = false := by simpa using hnl
    have HCE : Hid (E = [] ∨ ∃ b off, aE = some ⟨b, off, none⟩ ∧ ∀ j, j < E.length → w1.cell? ⟨b, off + j * 2, none⟩ = some (.int .i64 (E.getD j e0).1) ∧ w1.cell? ⟨b, off + j * 2 + 1, none⟩ = some (.int .i64 (E.getD j e0).2)) := hcEc
    have HCA : Hid (Ed.nrm E = [] ∨ ∃ b off, aA = some ⟨b, off, none⟩ ∧ ∀ j, j < (Ed.nrm E).length → w2.cell? ⟨b, off + j * 2, none⟩ = some (.int .i64 ((Ed.nrm E).getD j e0).1) ∧ w2.cell? ⟨b, off + j * 2 + 1, none⟩ = some (.int .i64 ((Ed.nrm E).getD j e0).2)) := hcAc
    have HR : Hid (Sq (w2.alloc (.cells c 41)) w2.heap.size (sqf E 0)) := by
      have := World.rowIs_alloc w2 c 41 (sqf E 0) (fun i hi => by rw [hc i (by omega), sqf_zero])
      rw [hcs] at this; exact this
    have HB3 : Hid (Below w2.heap.size w2 (w2.alloc (.cells c 41))) := alloc_below w2 _
    have HPT : Hid (∀ k, k < E.length → ∃ a b : Nat, E.getD k e0 = ((a : Int), (b : Int)) ∧ a < 256 ∧ b < 256) := fun k hk => by
      obtain ⟨a, b, h, h1, h2, _⟩ := HOK.out _ (getD_mem_e hk)
      exact ⟨a, b, h, by omega, by omega⟩
    clear HNR hcAc hcEc
    go_wp2_with fail
    clear hc hcs hzv
    generalize w2.alloc (.cells c 41) = w3 at *
    generalize hB : w2.heap.size = B at *
    go_loopw [12] (fun i wr => ∃ k : Nat, k ≤ E.length ∧ i = .int .i64 k ∧ Hid (Sq wr B (sqf E k)) ∧ Hid (Below B w2 wr)) (fun i _ => E.length - (intOf i).toNat)
    case atStart => exact ⟨0, Nat.zero_le _, rfl, HR, HB3⟩
    case round =>
      obtain ⟨k, hk, rfl, HRK, HBK⟩ := hrel
      by_cases hkn : k < E.length
      · obtain ⟨bE, oE, rfl, hce⟩ := HCE.out.resolve_left (by intro e; rw [e] at hkn; simp at hkn)
        obtain ⟨x, y, hxy, hx, hy⟩ := HPT.out k hkn
        have HBX : Hid (Below w1.heap.size w1 wr) := bnext HB2.out (by rw [hB]; exact HBK.out)
        have c1 := cell_after HBX.out (hce k hkn).1
        have c2 := cell_after HBX.out (hce k hkn).2
        rw [hxy] at c1 c2
        have c3 := World.rowIs.cell HRK.out (i := x * 256 + y) (by omega)
        have c4 := World.rowIs.frozen HRK.out (x * 256 + y)
        generalize sqf E k (x * 256 + y) = sv at c3
        have HST : Hid (∀ j, (if j = x * 256 + y then Value.bool true else sqf E k j) = sqf E (k + 1) j) := sqf_step hkn hxy hy
        clear hce hxy
        go_wp2
        go_region
        all_goals go_wp2
        go_roundw
        case rel => exact ⟨k + 1, by omega, by go_num, ((World.rowIs.set HRK.out _ _).drew.congr fun j _ => HST.out j), (HBK.out.setCell (p := ⟨B, x * 256 + y, none⟩) (Nat.le_refl _) _).drew⟩
        case measure => simp [intOf]; omega
      · obtain rfl : k = E.length := by omega
        have HSQ : Hid (∀ v k : Nat, v < 256 → k < 256 → wr.cell? ⟨B, v * 256 + k, none⟩ = some (.bool (decide (((v : Int), (k : Int)) ∈ E)))) := fun v k h1 h2 => by
          rw [World.rowIs.cell HRK.out (i := v * 256 + k) (by omega), sqf, pr_at h2, List.take_length]
        have HBW : Hid (Below w2.heap.size w2 wr) := by rw [hB]; exact HBK.out
        have hBs : B < wr.heap.size := World.rowIs.lt HRK.out
        have HHD : Hid (hd E 65536 = Ed.nrm E) := hd_all fun x hx => by
          obtain ⟨a, b, h, h1, h2, _⟩ := HOK.out x hx
          exact ⟨a, b, h, by omega, by omega⟩
        clear HR HB3 HPT HRK HBK
        obtain ⟨w4, hw4⟩ : ∃ w4, w4 = wr := ⟨_, rfl⟩
        subst hw4
        go_wp2_with fail
        go_loopw [13, 14] (fun u i wr => ∃ v : Nat, v ≤ 256 ∧ i = .int .i64 v ∧ u = .int .i64 (hd E (v * 256)).length ∧ w4 = wr) (fun _ i _ => 256 - (intOf i).toNat)
        case atStart => exact ⟨0, by omega, rfl, rfl, rfl⟩
        case round =>
          obtain ⟨v, hv, rfl, rfl, rfl⟩ := hrel
          by_cases hv2 : v < 256
          · go_wp2_with fail
            go_loopw [13, 15] (fun u i wq => ∃ k : Nat, k ≤ 256 ∧ i = .int .i64 k ∧ u = .int .i64 (hd E (v * 256 + k)).length ∧ w4 = wq) (fun _ i _ => 256 - (intOf i).toNat)
            case atStart => exact ⟨0, by omega, rfl, rfl, rfl⟩
            case round =>
              obtain ⟨k, hk, rfl, rfl, rfl⟩ := hrel
              by_cases hk2 : k < 256
              · have c1 := HSQ.out v k hv2 hk2
                have hle := hd_le E (v * 256 + k)
                by_cases hvk : ((v : Int), (k : Int)) ∈ E
                · have HY : Hid ((hd E (v * 256 + (k + 1))).length = (hd E (v * 256 + k)).length + 1) := hd_yes hk2 hvk
                  rw [decide_eq_true hvk] at c1
                  generalize (hd E (v * 256 + k)).length = q at *
                  clear hvk
                  go_wp2
                  go_roundw
                  case rel => exact ⟨k + 1, by omega, by go_num, by rw [HY.out]; go_num, trivial⟩
                  case measure => simp [intOf]; omega
                · have HY : Hid ((hd E (v * 256 + (k + 1))).length = (hd E (v * 256 + k)).length) := hd_no hk2 hvk
                  rw [decide_eq_false hvk] at c1
                  generalize (hd E (v * 256 + k)).length = q at *
                  clear hvk
                  go_wp2
                  go_roundw
                  case rel => exact ⟨k + 1, by omega, by go_num, by rw [HY.out], trivial⟩
                  case measure => simp [intOf]; omega
              · obtain rfl : k = 256 := by omega
                have HE2 : Hid ((hd E ((v + 1) * 256)).length = (hd E (v * 256 + 256)).length) := by rw [Hid, show (v + 1) * 256 = v * 256 + 256 by omega]
                generalize (hd E (v * 256 + 256)).length = q at *
                go_wp2
                go_roundw
                case rel => exact ⟨v + 1, by omega, by go_num, by rw [HE2.out], trivial⟩
                case measure => simp [intOf]; omega
          · have HE2 : Hid ((hd E (v * 256)).length = (Ed.nrm E).length) := by
              have e : v = 256 := by omega
              rw [Hid, ← HHD.out, e]
            rw [HE2.out]
            go_wp2_with fail
            clear hv hv2
            clear HE2 HHD
            have HRI : Hid (∀ k, 0 < k → k < (Ed.nrm E).length → Ed.lt ((Ed.nrm E).getD (k - 1) e0) ((Ed.nrm E).getD k e0) = true) := fun k h1 h2 => rising_next (Ed.nrm_rising E) h1 h2
            have HIN : Hid (∀ k, k < (Ed.nrm E).length → ∃ a b : Nat, (Ed.nrm E).getD k e0 = ((a : Int), (b : Int)) ∧ a < 256 ∧ b < 256 ∧ ((a : Int), (b : Int)) ∈ E) := fun k hk => by
              have hx := (Ed.mem_nrm E _).1 (getD_mem_e hk)
              obtain ⟨a, b, h, h1, h2, _⟩ := HOK.out _ hx
              exact ⟨a, b, h, by omega, by omega, by rw [← h]; exact hx⟩
            go_loopw [16] (fun i wr => ∃ k : Nat, k ≤ (Ed.nrm E).length ∧ i = .int .i64 k ∧ Hid (Below w4.heap.size w4 wr)) (fun i _ => (Ed.nrm E).length - (intOf i).toNat)
            case atStart => exact ⟨0, Nat.zero_le _, rfl, Below.refl _ _⟩
            case round =>
              obtain ⟨k, hk, rfl, HBK⟩ := hrel
              by_cases hkn : k < (Ed.nrm E).length
              · obtain ⟨bA, oA, rfl, hca⟩ := HCA.out.resolve_left (by intro e; rw [e] at hkn; simp at hkn)
                obtain ⟨x, y, hxy, hx, hy, hin⟩ := HIN.out k hkn
                have HBX : Hid (Below w2.heap.size w2 wr) := bnext HBW.out HBK.out
                have c1 := cell_after HBX.out (hca k hkn).1
                have c2 := cell_after HBX.out (hca k hkn).2
                have hlt := HRI.out k
                rw [hxy] at c1 c2 hlt
                have c3 := HSQ.out x y hx hy
                rw [decide_eq_true hin] at c3
                have c3' : ∀ o, (wr.alloc o).cell? ⟨B, x * 256 + y, none⟩ = some (.bool true) := fun o => cell_after (alloc_below wr o) (cell_after HBK.out c3)
                have hx0 : decide ((x : Int) < 0) = false := by simp
                have hy0 : decide ((y : Int) < 0) = false := by simp
                have hx255 : decide (255 < (x : Int)) = false := by simp; omega
                have hy255 : decide (255 < (y : Int)) = false := by simp; omega
                obtain ⟨w5, hw5⟩ : ∃ w5, wr.alloc (.cells #[.int .i64 x, .int .i64 y] 24) = w5 := ⟨_, rfl⟩
                have HB5 : Hid (Below wr.heap.size wr w5) := by rw [Hid, ← hw5]; exact alloc_below wr _
                have d1 : w5.cell? ⟨wr.heap.size, 0, none⟩ = some (.int .i64 x) := by rw [← hw5]; simp
                have d2 : w5.cell? ⟨wr.heap.size, 1, none⟩ = some (.int .i64 y) := by rw [← hw5]; simp
                have d3 : w5.cell? ⟨B, x * 256 + y, none⟩ = some (.bool true) := cell_after HB5.out (cell_after HBK.out c3)
                have e1 := Later.cell d1
                have e2 := Later.cell d2
                have e3 := Later.cell d3
                have hne := Later.some w5
                clear d1 d2 d3 c3
                by_cases hk0 : k = 0
                · subst hk0
                  clear hlt hxy hin hca
                  rw [Nat.zero_mul, Nat.add_zero] at c1 c2
                  go_wp2_with fail
                  refine wp_region_later (by kernel_rfl) (by kernel_rfl) ?_
                  repeat (go_big_quiet_step (fail))
                  refine wpQuiet_nil ?_
                  intro w6 hw6
                  obtain ⟨⟨w7, hb7⟩, rfl⟩ := hw6
                  have HB7 : Hid (Below w4.heap.size w4 w6) := bnext HBK.out (bnext HB5.out hb7)
                  go_wp2
                  go_roundw
                  case rel => exact ⟨0 + 1, by omega, by go_num, HB7⟩
                  case measure => simp [intOf]; omega
                · obtain ⟨p1, p2⟩ := hca (k - 1) (by omega)
                  have hlt := hlt (by omega) hkn
                  generalize (Ed.nrm E).getD (k - 1) e0 = p at *
                  have e4 := Later.cell (cell_after (bnext HBX.out HB5.out) p1)
                  have e5 := Later.cell (cell_after (bnext HBX.out HB5.out) p2)
                  have hk1 : ((k : Int) - 1) = ((k - 1 : Nat) : Int) := by omega
                  have hkk : k - 1 < (Ed.nrm E).length := by omega
                  have hkd : decide (0 < k) = true := by simp; omega
                  have hkd2 : decide (0 < (k : Int)) = true := by simp; omega
                  rw [Ed.lt_iff] at hlt
                  have hA : decide ((x : Int) < p.1) = false := by simp; simp at hlt; omega
                  clear hxy hin hca p1 p2
                  by_cases hpx : p.1 = (x : Int)
                  · have hB1 : decide (p.1 = (x : Int)) = true := by simp; exact hpx
                    have hB2 : (p.1 == (x : Int)) = true := by simp; exact hpx
                    have hD : decide ((y : Int) ≤ p.2) = false := by simp; simp at hlt; omega
                    clear hlt hpx
                    go_wp2_with fail
                    refine wp_region_later (by kernel_rfl) (by kernel_rfl) ?_
                    repeat (go_big_quiet_step (fail))
                    refine wpQuiet_nil ?_
                    intro w6 hw6
                    obtain ⟨⟨w7, hb7⟩, rfl⟩ := hw6
                    have HB7 : Hid (Below w4.heap.size w4 w6) := bnext HBK.out (bnext HB5.out hb7)
                    go_wp2
                    go_roundw
                    case rel => exact ⟨k + 1, by omega, by go_num, HB7⟩
                    case measure => simp [intOf]; omega
                  · have hB1 : decide (p.1 = (x : Int)) = false := by simp; exact hpx
                    have hB2 : (p.1 == (x : Int)) = false := by simp; exact hpx
                    clear hlt hpx
                    go_wp2_with fail
                    refine wp_region_later (by kernel_rfl) (by kernel_rfl) ?_
                    repeat (go_big_quiet_step (fail))
                    refine wpQuiet_nil ?_
                    intro w6 hw6
                    obtain ⟨⟨w7, hb7⟩, rfl⟩ := hw6
                    have HB7 : Hid (Below w4.heap.size w4 w6) := bnext HBK.out (bnext HB5.out hb7)
                    go_wp2
                    go_roundw
                    case rel => exact ⟨k + 1, by omega, by go_num, HB7⟩
                    case measure => simp [intOf]; omega
              · have HBX : Hid (Below w2.heap.size w2 wr) := bnext HBW.out HBK.out
                have HBY : Hid (Below w1.heap.size w1 wr) := bnext HB2.out HBX.out
                have HBA : Hid (Below w.heap.size w wr) := bnext hb.out HBY.out
                have heA : Hid (Edg wr (.slice aA (Ed.nrm E).length capA) (Ed.nrm E)) := hua.out.later HBX.out
                have heE : Hid (Edg wr (.slice aE E.length capE) E) := he.out.later HBY.out
                obtain ⟨kk, hkk⟩ : ∃ kk, f % (E.length + 1) = kk := ⟨_, rfl⟩
                have hkl : kk < E.length + 1 := by rw [← hkk]; exact Nat.mod_lt _ (by omega)
                have hki : (f : Int) % ((E.length : Int) + 1) = kk := by
                  rw [← hkk]
                  show (f : Int) % ((E.length + 1 : Nat) : Int) = _
                  omega
                have HNE : ∀ l' : List (Int × Int), (∀ x, x ∈ l' ↔ x ∈ E) → Ed.nor (m : Int) l' = (Ed.nrm E, 0) := fun l' hl' => by
                  have hm' : Ed.many (m : Int) = true := by unfold Ed.many; simp; omega
                  have hb' : l'.any (Ed.bad (m : Int)) = false := by
                    rw [List.any_eq_false]
                    intro x hx
                    obtain ⟨a, b, rfl, h1, h2, h3⟩ := HOK.out x ((hl' x).1 hx)
                    simp [Ed.bad, Ed.vert]
                    omega
                  have e := Ed.nrm_same hl'
                  rw [nor_yes hm' hb' (by rw [e]; have := HNL.out; omega), e]
                have HN1 : Hid (Ed.nor (m : Int) (E.drop kk ++ E ++ E.take kk) = (Ed.nrm E, 0)) := HNE _ fun x => by
                  simp only [List.mem_append]
                  constructor
                  · rintro ((h | h) | h)
                    · exact List.mem_of_mem_drop h
                    · exact h
                    · exact List.mem_of_mem_take h
                  · exact fun h => .inl (.inr h)
                have HN2 : Hid (Ed.nor (m : Int) (Ed.nrm E) = (Ed.nrm E, 0)) := HNE _ (Ed.mem_nrm E)
                have HE0 : Hid (E = [] → Ed.nor (m : Int) [] = (Ed.nrm E, 0)) := fun e => HNE [] (fun x => by rw [e])
                clear HCE HCA hua he hcA hkk hBs HOK HNE HIN HRI HSQ HB2 HBW HBK HBX hnd HNL hB
                by_cases hE : E = []
                · subst hE
                  generalize hNN : Ed.nrm [] = N at *
                  have hN4 : N.length ≤ 400 := by rw [← hNN]; decide
                  clear hNN
                  have HNM : Hid (∀ W, Calls Try.prog 8 #[.int .i64 m, .slice none 0 0] W fun e w' => ∃ u, e = .returned (.tuple #[u, .int .i64 0]) ∧ Edg w' u N ∧ Below W.heap.size W w') := fun W => by
                    have h := normal_any (.slice none 0 0) [] m W (edg_nil W) (by decide)
                    rw [HE0.out rfl] at h
                    exact h
                  have hk0a : (f : Int) % (0 + 1) = 0 := by omega
                  have hk0b : (f : Int) % 1 = 0 := by omega
                  clear HE0 HN1 hki hkl
                  rcases HO1.out.2 with ⟨e, _⟩ | ⟨g, cap', cur, e, _⟩
                  · cases e
                    clear HO1
                    go_wp2_with fail
                    go_region_law
                      (first
                      | (refine step_append_zero (w := wr.drew) (by rfl) _ _ 22 (by rfl) 24 i0 Try.underlying22 hi0 none 0 0 (Nat.le_refl _) (by first | rfl | simp [Act.eval]) none 0 0 (by first | (simp [Act.eval]; done) | (simp [Act.eval, Act.put]; done)) rfl ?_)
                      | (go_simp; go_at_call 8; refine Calls.mono (HNM.out _) ?_; rintro e w8 ⟨u8, rfl, hu8, hb8⟩)
                      | fail)
                    all_goals
                      have HB8 : Hid (Below wr.heap.size wr w8) := bnext (Below.refl _ wr).drew hb8
                      have hu8 : Hid (Edg w8 u8 N) := hu8
                      clear HNM hb8
                      have HA8 : Hid (Edg w8 (.slice aA N.length capA) N) := heA.out.later HB8.out
                      have HT8 : Hid (Below w.heap.size w w8) := bnext HBA.out HB8.out
                      clear HB8 heA heE HBA HBY
                      go_wp2_with fail
                      refine (normal_any _ N m w8 HA8.out (by omega)).mono ?_
                      rintro e w9 ⟨u9, rfl, hu9, hb9⟩
                      rw [HN2.out] at hu9 ⊢
                      replace hu9 : Hid (Edg w9 u9 N) := hu9
                      replace hu8 := Edg.hid hu8 hb9
                      replace HA8 := Edg.hid HA8 hb9
                      replace HT8 : Hid (Below w.heap.size w w9) := bnext HT8.out hb9
                      clear hb9 HN2
                      go_wp2_with fail
                      refine (same_edg _ _ N N w9 hu8.out HA8.out (by omega) (by omega)).mono ?_
                      rintro e wa ⟨rfl, hba⟩
                      rw [show decide (N = N) = true from decide_eq_true rfl]
                      replace hu9 := Edg.hid hu9 hba
                      replace HA8 := Edg.hid HA8 hba
                      replace HT8 : Hid (Below w.heap.size w wa) := bnext HT8.out hba
                      clear hba hu8
                      go_wp2_with fail
                      refine (same_edg _ _ N N wa hu9.out HA8.out (by omega) (by omega)).mono ?_
                      rintro e wb ⟨rfl, hbb⟩
                      rw [show decide (N = N) = true from decide_eq_true rfl]
                      replace HT8 : Hid (Below w.heap.size w wb) := bnext HT8.out hbb
                      clear hbb hu9 HA8
                      go_wp2_with fail
                      refine (does_any _).mono ?_
                      rintro e wc ⟨rfl, hbc⟩
                      replace HT8 : Hid (Below w.heap.size w wc) := bnext HT8.out hbc
                      go_wp2
                      go_ret
                      exact ⟨rfl, HT8.out⟩
                  · cases e
                    clear HO1
                    go_wp2_with fail
                    go_region_law
                      (first
                      | (refine step_append_zero (w := wr.drew) (by rfl) _ _ 22 (by rfl) 24 i0 Try.underlying22 hi0 none 0 0 (Nat.le_refl _) (by first | rfl | simp [Act.eval]) (some ⟨g, 0, none⟩) 0 capE (by first | (simp [Act.eval]; done) | (simp [Act.eval, Act.put]; done)) rfl ?_)
                      | (go_simp; go_at_call 8; refine Calls.mono (HNM.out _) ?_; rintro e w8 ⟨u8, rfl, hu8, hb8⟩)
                      | fail)
                    all_goals
                      have HB8 : Hid (Below wr.heap.size wr w8) := bnext (Below.refl _ wr).drew hb8
                      have hu8 : Hid (Edg w8 u8 N) := hu8
                      clear HNM hb8
                      have HA8 : Hid (Edg w8 (.slice aA N.length capA) N) := heA.out.later HB8.out
                      have HT8 : Hid (Below w.heap.size w w8) := bnext HBA.out HB8.out
                      clear HB8 heA heE HBA HBY
                      go_wp2_with fail
                      refine (normal_any _ N m w8 HA8.out (by omega)).mono ?_
                      rintro e w9 ⟨u9, rfl, hu9, hb9⟩
                      rw [HN2.out] at hu9 ⊢
                      replace hu9 : Hid (Edg w9 u9 N) := hu9
                      replace hu8 := Edg.hid hu8 hb9
                      replace HA8 := Edg.hid HA8 hb9
                      replace HT8 : Hid (Below w.heap.size w w9) := bnext HT8.out hb9
                      clear hb9 HN2
                      go_wp2_with fail
                      refine (same_edg _ _ N N w9 hu8.out HA8.out (by omega) (by omega)).mono ?_
                      rintro e wa ⟨rfl, hba⟩
                      rw [show decide (N = N) = true from decide_eq_true rfl]
                      replace hu9 := Edg.hid hu9 hba
                      replace HA8 := Edg.hid HA8 hba
                      replace HT8 : Hid (Below w.heap.size w wa) := bnext HT8.out hba
                      clear hba hu8
                      go_wp2_with fail
                      refine (same_edg _ _ N N wa hu9.out HA8.out (by omega) (by omega)).mono ?_
                      rintro e wb ⟨rfl, hbb⟩
                      rw [show decide (N = N) = true from decide_eq_true rfl]
                      replace HT8 : Hid (Below w.heap.size w wb) := bnext HT8.out hbb
                      clear hbb hu9 HA8
                      go_wp2_with fail
                      refine (does_any _).mono ?_
                      rintro e wc ⟨rfl, hbc⟩
                      replace HT8 : Hid (Below w.heap.size w wc) := bnext HT8.out hbc
                      go_wp2
                      go_ret
                      exact ⟨rfl, HT8.out⟩
                · have hpos : 0 < E.length := by cases E <;> simp_all
                  obtain ⟨g, cap', e, _, hgl⟩ := HO1.out.form hpos
                  simp only [Value.slice.injEq, true_and] at e
                  obtain ⟨rfl, rfl⟩ := e
                  have hgw : g < w1.heap.size := hgl
                  have HOW : Hid (wr.ownsRow w.heap.size 24 2 (.slice (some ⟨g, 0, none⟩) E.length capE) E.length (ecells E)) := by
                    have h1 := HO1.out
                    refine ⟨h1.1, .inr ?_⟩
                    rcases h1.2 with ⟨e, _⟩ | ⟨g', cap', cur, e, h2, h3, h4⟩
                    · cases e
                    · cases e
                      exact ⟨g, capE, cur, rfl, h2, (HBY.out.block g hgw).trans h3, h4⟩
                  clear HO1 hE HE0
                  have HF := own_from HOW.out kk
                  have HU := own_upto HOW.out kk
                  have HA := own_upto HOW.out E.length
                  rw [List.take_length] at HA
                  have HU : Hid _ := HU
                  have HA : Hid _ := HA
                  have hzk : (0 : Int) ≤ (kk : Int) := by omega
                  have hkl2 : (kk : Int) ≤ (E.length : Int) := by omega
                  have hkc2 : (kk : Int) ≤ (capE : Int) := by omega
                  have hkc3 : kk ≤ capE := by omega
                  have hkl3 : kk ≤ E.length := by omega
                  have HL1 : Hid ((ecells (E.drop kk)).length = (E.length - kk) * 2) := by rw [Hid, ecells_len, List.length_drop]
                  have HL2 : Hid ((ecells (E.take kk)).length = kk * 2) := by rw [Hid, ecells_len, List.length_take]; omega
                  have HL3 : Hid ((ecells E).length = E.length * 2) := ecells_len E
                  have o1 : Hid _ := ecells_one (E.drop kk)
                  have o2 : Hid _ := ecells_one (E.take kk)
                  have o3 : Hid _ := ecells_one E
                  have HNM : Hid (∀ (v : Value) W n', W.ownsRow wr.heap.size 24 2 v n' (ecells (E.drop kk) ++ ecells E ++ ecells (E.take kk)) → Calls Try.prog 8 #[.int .i64 m, v] W fun e w' => ∃ u, e = .returned (.tuple #[u, .int .i64 0]) ∧ Edg w' u (Ed.nrm E) ∧ Below W.heap.size W w') := fun v W n' hW => by
                    have h := normal_any v (E.drop kk ++ E ++ E.take kk) m W (Edg.of_own (by rw [ecells_app, ecells_app]; exact hW)) (by rw [List.length_append, List.length_append, List.length_drop, List.length_take]; omega)
                    rw [HN1.out] at h
                    exact h
                  have HFd : Hid (∃ ad : Addr, (∀ j u, (ecells (E.drop kk))[j]? = some u → wr.drew.cell? (ad.add j) = some u) ∧ (capE = kk → ad = ⟨g, 0, none⟩) ∧ (capE ≠ kk → ad = ⟨g, kk * 2, none⟩)) := by
                    by_cases hck : capE = kk
                    · refine ⟨⟨g, 0, none⟩, fun j u hj => ?_, fun _ => rfl, fun h => absurd hck h⟩
                      rw [List.drop_eq_nil_of_le (by omega)] at hj
                      simp [ecells] at hj
                    · exact ⟨⟨g, kk * 2, none⟩, HF, fun h => absurd h hck, fun _ => rfl⟩
                  clear HF HN1 HOW
                  generalize ecells (E.drop kk) = F1 at *
                  generalize ecells (E.take kk) = F2 at *
                  generalize ecells E = F3 at *
                  obtain ⟨ad1, HF1, had1, had2⟩ := HFd.out
                  have HF1 : Hid _ := HF1
                  have had1 : Hid _ := had1
                  have had2 : Hid _ := had2
                  clear HFd
                  by_cases hck : capE = kk
                  · obtain rfl := had1.out hck
                    have hkE : kk = E.length := by omega
                    subst hck
                    subst hkE
                    have HL0 : Hid (F1.length = 0 * 2) := by rw [Hid, HL1.out, Nat.sub_self]
                    go_wp2_with fail
                    go_region_law
                      (first
                      | (refine step_append_own (w := wr.drew) (by rfl) _ _ 22 (by rfl) wr.heap.size 24 i0 (.agg #[.int .i64 0, .int .i64 0]) 2 16 Try.underlying22 hi0 hz0 hz1 hz2 rfl (by omega) (.slice none 0 0) 0 [] (by rfl) (World.ownsRow_nil _ _ _ _) (some ⟨g, 0, none⟩) _ rfl 0 0 F1 (by simp [Act.eval, Act.put]) HL0.out HF1.out o1.out (by unfold maxLen; omega) (by omega) (Nat.le_refl _) ?_; intro v5 w5 hown5 hgrow5;
                         have HX5 : Hid (Below wr.heap.size wr w5) := (Below.refl _ wr).drew.grown hgrow5 (Nat.le_refl _) (by intro k hk; cases hk);
                         have HA5 : Hid (∀ j u, F3[j]? = some u → w5.cell? ((⟨g, 0, none⟩ : Addr).add j) = some u) := fun j u hj => cell_after HX5.out (HA.out j u hj);
                         have HU5 : Hid (∀ j u, F2[j]? = some u → w5.cell? ((⟨g, 0, none⟩ : Addr).add j) = some u) := fun j u hj => cell_after HX5.out (HU.out j u hj);
                         have hbs5 := HX5.out.size)
                      | (refine step_append_own (w := w5) (by rfl) _ _ 22 (by rfl) wr.heap.size 24 i0 (.agg #[.int .i64 0, .int .i64 0]) 2 16 Try.underlying22 hi0 hz0 hz1 hz2 rfl (by omega) v5 (0 + 0) ([] ++ F1) (by simp [Act.eval]) hown5 (some ⟨g, 0, none⟩) _ rfl E.length E.length F3 (by simp [Act.eval]) HL3.out HA5.out o3.out (by unfold maxLen; omega) (by omega) hbs5 ?_; intro v6 w6 hown6 hgrow6;
                         have HX6 : Hid (Below wr.heap.size wr w6) := HX5.out.grown hgrow6 hbs5 (fun q e => (hown5.lt q e).1);
                         have HU6 : Hid (∀ j u, F2[j]? = some u → w6.cell? ((⟨g, 0, none⟩ : Addr).add j) = some u) := fun j u hj => cell_after HX6.out (HU.out j u hj);
                         have hbs6 := HX6.out.size)
                      | (refine step_append_own (w := w6) (by rfl) _ _ 22 (by rfl) wr.heap.size 24 i0 (.agg #[.int .i64 0, .int .i64 0]) 2 16 Try.underlying22 hi0 hz0 hz1 hz2 rfl (by omega) v6 (0 + 0 + E.length) ([] ++ F1 ++ F3) (by simp [Act.eval]) hown6 (some ⟨g, 0, none⟩) _ rfl E.length E.length F2 (by simp [Act.eval]) HL2.out HU6.out o2.out (by unfold maxLen; omega) (by omega) hbs6 ?_; intro v7 w7 hown7 hgrow7;
                         have HX7 : Hid (Below wr.heap.size wr w7) := HX6.out.grown hgrow7 hbs6 (fun q e => (hown6.lt q e).1))
                      | (go_simp; go_at_call 8; refine Calls.mono (HNM.out v7 w7 _ hown7) ?_; rintro e w8 ⟨u8, rfl, hu8, hb8⟩)
                      | fail)
                    all_goals
                      have HB8 : Hid (Below wr.heap.size wr w8) := bnext HX7.out hb8
                      clear HX5 HA5 HU5 HX6 HU6 HX7 hown5 hown6 hown7 hgrow5 hgrow6 hgrow7 HF1 had1 had2 o1 o2 o3 HNM HL0 HL1 HL2 HL3 hb8 HU HA
                      have hu8 : Hid (Edg w8 u8 (Ed.nrm E)) := hu8
                      have HA8 : Hid (Edg w8 (.slice aA (Ed.nrm E).length capA) (Ed.nrm E)) := heA.out.later HB8.out
                      have HT8 : Hid (Below w.heap.size w w8) := bnext HBA.out HB8.out
                      clear HB8 heA heE HBA HBY
                      generalize Ed.nrm E = N at *
                      go_wp2_with fail
                      refine (normal_any _ N m w8 HA8.out (by omega)).mono ?_
                      rintro e w9 ⟨u9, rfl, hu9, hb9⟩
                      rw [HN2.out] at hu9 ⊢
                      replace hu9 : Hid (Edg w9 u9 N) := hu9
                      replace hu8 := Edg.hid hu8 hb9
                      replace HA8 := Edg.hid HA8 hb9
                      replace HT8 : Hid (Below w.heap.size w w9) := bnext HT8.out hb9
                      clear hb9 HN2
                      go_wp2_with fail
                      refine (same_edg _ _ N N w9 hu8.out HA8.out (by omega) (by omega)).mono ?_
                      rintro e wa ⟨rfl, hba⟩
                      rw [show decide (N = N) = true from decide_eq_true rfl]
                      replace hu9 := Edg.hid hu9 hba
                      replace HA8 := Edg.hid HA8 hba
                      replace HT8 : Hid (Below w.heap.size w wa) := bnext HT8.out hba
                      clear hba hu8
                      go_wp2_with fail
                      refine (same_edg _ _ N N wa hu9.out HA8.out (by omega) (by omega)).mono ?_
                      rintro e wb ⟨rfl, hbb⟩
                      rw [show decide (N = N) = true from decide_eq_true rfl]
                      replace HT8 : Hid (Below w.heap.size w wb) := bnext HT8.out hbb
                      clear hbb hu9 HA8
                      go_wp2_with fail
                      refine (does_any _).mono ?_
                      rintro e wc ⟨rfl, hbc⟩
                      replace HT8 : Hid (Below w.heap.size w wc) := bnext HT8.out hbc
                      go_wp2
                      go_ret
                      exact ⟨rfl, HT8.out⟩
                  · obtain rfl := had2.out hck
                    go_wp2_with fail
                    go_region_law
                      (first
                      | (refine step_append_own (w := wr.drew) (by rfl) _ _ 22 (by rfl) wr.heap.size 24 i0 (.agg #[.int .i64 0, .int .i64 0]) 2 16 Try.underlying22 hi0 hz0 hz1 hz2 rfl (by omega) (.slice none 0 0) 0 [] (by rfl) (World.ownsRow_nil _ _ _ _) (some ⟨g, kk * 2, none⟩) _ rfl (E.length - kk) (capE - kk) F1 (by simp [Act.eval, Act.put]) HL1.out HF1.out o1.out (by unfold maxLen; omega) (by omega) (Nat.le_refl _) ?_; intro v5 w5 hown5 hgrow5;
                         have HX5 : Hid (Below wr.heap.size wr w5) := (Below.refl _ wr).drew.grown hgrow5 (Nat.le_refl _) (by intro k hk; cases hk);
                         have HA5 : Hid (∀ j u, F3[j]? = some u → w5.cell? ((⟨g, 0, none⟩ : Addr).add j) = some u) := fun j u hj => cell_after HX5.out (HA.out j u hj);
                         have HU5 : Hid (∀ j u, F2[j]? = some u → w5.cell? ((⟨g, 0, none⟩ : Addr).add j) = some u) := fun j u hj => cell_after HX5.out (HU.out j u hj);
                         have hbs5 := HX5.out.size)
                      | (refine step_append_own (w := w5) (by rfl) _ _ 22 (by rfl) wr.heap.size 24 i0 (.agg #[.int .i64 0, .int .i64 0]) 2 16 Try.underlying22 hi0 hz0 hz1 hz2 rfl (by omega) v5 (0 + (E.length - kk)) ([] ++ F1) (by simp [Act.eval]) hown5 (some ⟨g, 0, none⟩) _ rfl E.length capE F3 (by simp [Act.eval]) HL3.out HA5.out o3.out (by unfold maxLen; omega) (by omega) hbs5 ?_; intro v6 w6 hown6 hgrow6;
                         have HX6 : Hid (Below wr.heap.size wr w6) := HX5.out.grown hgrow6 hbs5 (fun q e => (hown5.lt q e).1);
                         have HU6 : Hid (∀ j u, F2[j]? = some u → w6.cell? ((⟨g, 0, none⟩ : Addr).add j) = some u) := fun j u hj => cell_after HX6.out (HU.out j u hj);
                         have hbs6 := HX6.out.size)
                      | (refine step_append_own (w := w6) (by rfl) _ _ 22 (by rfl) wr.heap.size 24 i0 (.agg #[.int .i64 0, .int .i64 0]) 2 16 Try.underlying22 hi0 hz0 hz1 hz2 rfl (by omega) v6 (0 + (E.length - kk) + E.length) ([] ++ F1 ++ F3) (by simp [Act.eval]) hown6 (some ⟨g, 0, none⟩) _ rfl kk capE F2 (by simp [Act.eval]) HL2.out HU6.out o2.out (by unfold maxLen; omega) (by omega) hbs6 ?_; intro v7 w7 hown7 hgrow7;
                         have HX7 : Hid (Below wr.heap.size wr w7) := HX6.out.grown hgrow7 hbs6 (fun q e => (hown6.lt q e).1))
                      | (go_simp; go_at_call 8; refine Calls.mono (HNM.out v7 w7 _ hown7) ?_; rintro e w8 ⟨u8, rfl, hu8, hb8⟩)
                      | fail)
                    all_goals
                      have HB8 : Hid (Below wr.heap.size wr w8) := bnext HX7.out hb8
                      clear HX5 HA5 HU5 HX6 HU6 HX7 hown5 hown6 hown7 hgrow5 hgrow6 hgrow7 HF1 had1 had2 o1 o2 o3 HNM HL1 HL2 HL3 hb8 HU HA
                      have hu8 : Hid (Edg w8 u8 (Ed.nrm E)) := hu8
                      have HA8 : Hid (Edg w8 (.slice aA (Ed.nrm E).length capA) (Ed.nrm E)) := heA.out.later HB8.out
                      have HT8 : Hid (Below w.heap.size w w8) := bnext HBA.out HB8.out
                      clear HB8 heA heE HBA HBY
                      generalize Ed.nrm E = N at *
                      go_wp2_with fail
                      refine (normal_any _ N m w8 HA8.out (by omega)).mono ?_
                      rintro e w9 ⟨u9, rfl, hu9, hb9⟩
                      rw [HN2.out] at hu9 ⊢
                      replace hu9 : Hid (Edg w9 u9 N) := hu9
                      replace hu8 := Edg.hid hu8 hb9
                      replace HA8 := Edg.hid HA8 hb9
                      replace HT8 : Hid (Below w.heap.size w w9) := bnext HT8.out hb9
                      clear hb9 HN2
                      go_wp2_with fail
                      refine (same_edg _ _ N N w9 hu8.out HA8.out (by omega) (by omega)).mono ?_
                      rintro e wa ⟨rfl, hba⟩
                      rw [show decide (N = N) = true from decide_eq_true rfl]
                      replace hu9 := Edg.hid hu9 hba
                      replace HA8 := Edg.hid HA8 hba
                      replace HT8 : Hid (Below w.heap.size w wa) := bnext HT8.out hba
                      clear hba hu8
                      go_wp2_with fail
                      refine (same_edg _ _ N N wa hu9.out HA8.out (by omega) (by omega)).mono ?_
                      rintro e wb ⟨rfl, hbb⟩
                      rw [show decide (N = N) = true from decide_eq_true rfl]
                      replace HT8 : Hid (Below w.heap.size w wb) := bnext HT8.out hbb
                      clear hbb hu9 HA8
                      go_wp2_with fail
                      refine (does_any _).mono ?_
                      rintro e wc ⟨rfl, hbc⟩
                      replace HT8 : Hid (Below w.heap.size w wc) := bnext HT8.out hbc
                      go_wp2
                      go_ret
                      exact ⟨rfl, HT8.out⟩

set_option maxRecDepth 100000 in
theorem edgesOrder_lifted (os : Os) (started : os.Started) (H : Type) (enc : TypeId × Value → H) :
    ReturnsInHanded {} Try.checked os 4 .any (Rows.edgesOrderSpec.pre6 enc Try.prog Try.f4 Rows.edgesOrderRow.domain false) (Rows.edgesOrderSpec.post enc Try.prog Try.f4 false true false false) := by
  refine returnsInHanded_of_change (C := Try.checked) Try.own started (by kernel_rfl) Try.func4
    (ChangeSpec.witness6 (enc := enc) (C := Try.checked) false ⟨#[], #[.int .u8 0, .slice none 0 0, .int .u16 0], []⟩ 8 (by kernel_rfl) (by kernel_rfl) (by kernel_rfl) (by kernel_rfl)) ?_
  intro W base args ds gs before hval0 hW hcnd _
  have hval : ∀ (j : Nat) t v, Try.f4.params[j]? = some t → args[j]? = some v → Value.okWide Try.prog W .any base t v := hval0
  have hW' := hW
  obtain ⟨p, q, hA0, hV, rfl, hfz, hnd⟩ := hW
  have hA : DataW.TrodAll enc Try.prog W 0 (fun _ => true) true Try.f4.params.toList args.toList ds p := hA0
  rw [Try.params4] at hA hval
  obtain ⟨v0, vs0, d0, ds0, p0, q0, hargs, rfl, rfl, h0, r0⟩ := trodAll_cons hA
  obtain ⟨v1, vs1, d1, ds1, p1, q1, rfl, rfl, rfl, h1, r1⟩ := trodAll_cons r0
  obtain ⟨v2, vs2, d2, ds2, p2, q2, rfl, rfl, rfl, h2, r2⟩ := trodAll_cons r1
  obtain ⟨rfl, rfl, rfl⟩ := trodAll_nil r2
  obtain rfl : args = #[v0, v1, v2] := by cases args; simp_all
  obtain ⟨rfl, rfl⟩ := trodVars_none hV
  obtain ⟨a0, rfl, rfl, rfl, w0⟩ := open_int Try.underlying5 (hval 0 5 v0 rfl rfl) h0
  have lt1 : ∀ x ∈ p1, x.block < W.heap.size := by obtain ⟨m, hm⟩ := h1; exact DataW.trod_lt m _ _ _ hm
  obtain ⟨l1, k1, s1, n1⟩ := open_pairs (hval 1 37 v1 rfl rfl) h1
  obtain ⟨a2, rfl, rfl, rfl, w2⟩ := open_int Try.underlying38 (hval 2 38 v2 rfl rfl) h2
  clear hA0 hval0
  refine (edgesOrder_walk a0 v1 l1 a2 W w0 k1 s1 n1 w2).mono fun e W' ⟨he, bel⟩ => ?_
  subst he
  exact ⟨_, rfl, _, _, _, [], _, [], hW', trodAll_mk1 (shut_bool Try.underlying4 _), (trodAll_cons_mk (shut_int Try.underlying5 w0) (trodAll_cons_mk (Below.trod Try.laidOut (by kernel_rfl) (of_decide_eq_true (by kernel_rfl)) h1 bel lt1) (trodAll_cons_mk (shut_int Try.underlying38 w2) trodAll_mk0))), rfl, bel.frame _, fun h => by cases h⟩

theorem edgesOrder_holds : Rows.EdgesOrderSaid :=
  OpenClaim.holds_of_wide 4 Try.f4 rfl rfl rfl rfl rfl rfl rfl ⟨rfl, rfl, rfl, rfl, rfl⟩ rfl rfl rfl rfl rfl (by kernel_rfl) Try.func4 (by kernel_rfl)
    (of_decide_eq_true (by kernel_rfl)) (by unfold Func.isWrapper; first | (rw [if_pos (by decide +kernel)]; kernel_rfl) | (rw [if_neg (by decide +kernel)]; exact ⟨rfl, rfl⟩))
    (fun os started H enc _ => edgesOrder_lifted os started H enc)

end Go.Proofs.Ytmgikaanckbadaa
