/- EdgesDegrees: for every byte and every slice of pairs of bytes the call returns true: as many edges begin as end, and as many as there are; of each vertex as many begin as Out tells, and as many end as begin there the other way about (P8.3, P8.4). No conditions. -/
import Derived.Test.YtmgikaanckbadaaEOpen
import Derived.Test.YtmgikaanckbadaaLater
import Derived.Deep.RegionHeld3
namespace Go.Proofs.Ytmgikaanckbadaa
open Go.ChangeShapes Go.WideShapes Go.ChangeAt Go.RowKit Go.Shelf Go.Sort Go.Lib

/-- How many of L are below k. -/
def low (L : List Int) (k : Nat) : Int := ((L.filter fun x : Int => decide (0 ≤ x ∧ x < (k : Int))).length : Nat)
theorem low_zero (L : List Int) : low L 0 = 0 := by
  unfold low
  rw [List.filter_eq_nil_iff.2 (fun x _ => by simp)]
  rfl
theorem low_succ (L : List Int) (k : Nat) : low L (k + 1) = low L k + Ed.cnt L k := by
  unfold low Ed.cnt
  induction L with
  | nil => rfl
  | cons x L ih =>
    rw [List.filter_cons, List.filter_cons, List.filter_cons]
    by_cases h1 : x = k
    · rw [if_pos (by simp; omega), if_neg (by simp; omega), if_pos (by simpa using h1)]
      simp only [List.length_cons]
      omega
    · by_cases h2 : 0 ≤ x ∧ x < k
      · rw [if_pos (by simp; omega), if_pos (by simpa using h2), if_neg (by simpa using h1)]
        simp only [List.length_cons]
        omega
      · rw [if_neg (by simp; omega), if_neg (by simpa using h2), if_neg (by simpa using h1)]
        exact ih
theorem low_all {L : List Int} {m : Nat} (h : ∀ x ∈ L, 0 ≤ x ∧ x < m) : low L m = L.length := by
  unfold low
  rw [List.filter_eq_self.2 (fun x hx => by simpa using h x hx)]
theorem low_le (L : List Int) (k : Nat) : 0 ≤ low L k ∧ low L k ≤ L.length := by
  unfold low
  have := List.length_filter_le (fun x => decide (0 ≤ x ∧ x < (k : Int))) L
  omega

theorem outs_cnt (l : List (Int × Int)) (v : Int) : ((Ed.outs l v).length : Int) = Ed.cnt (l.map (·.1)) v := by
  unfold Ed.outs Ed.cnt
  rw [List.length_map, List.filter_map, List.length_map]
  rfl
theorem cnt_perm {a b : List Int} (h : a.Perm b) (v : Int) : Ed.cnt a v = Ed.cnt b v := by
  unfold Ed.cnt
  rw [(h.filter _).length_eq]
theorem rev_cnt (l : List (Int × Int)) (v : Int) : ((Ed.outs (Ed.rev l) v).length : Int) = Ed.cnt (l.map (·.2)) v := by
  rw [outs_cnt]
  refine cnt_perm ?_ v
  have := (Ed.srt_perm (l.map Ed.swap)).map (·.1)
  rw [List.map_map] at this
  exact this

theorem rev_len (l : List (Int × Int)) : (Ed.rev l).length = l.length := by unfold Ed.rev; rw [Ed.srt_len, List.length_map]

theorem degs_tall {m : Nat} (h1 : 1 ≤ m) (h2 : m ≤ 256) (L : List Int) : Ed.degs m L = tall L m := by
  unfold Ed.degs
  rw [if_pos (by simp [Ed.many]; omega)]
  simp [tall]

theorem ints_cell {W : World} {v : Value} {L : List Int} {m : Nat} (h : Ints W v (tall L m)) (hm : 0 < m) : ∃ b off cap, v = .slice (some ⟨b, off, none⟩) m cap ∧ ∀ j, j < m → W.cell? ⟨b, off + j, none⟩ = some (.int .i64 (Ed.cnt L j)) := by
  obtain ⟨a, cap, rfl, h⟩ := h
  have hl := tall_len L m
  rcases h with h | ⟨b, off, rfl, _, hc⟩
  · rw [h] at hl; simp at hl; omega
  · refine ⟨b, off, cap, by rw [hl], fun j hj => ?_⟩
    have := hc j (by omega)
    rw [this, List.getD_eq_getElem?_getD, tall_get L m j hj]
    rfl

theorem slice_of {w : World} {base e size n : Nat} {v : Value} {xs : List Value} (h : w.ownsRow base e size v n xs) : ∃ a cap, v = .slice a n cap := by
  rcases h.2 with ⟨rfl, rfl⟩ | ⟨g, cap, cur, rfl, _⟩
  · exact ⟨none, 0, rfl⟩
  · exact ⟨_, cap, rfl⟩

set_option maxHeartbeats 1000000 in
set_option maxRecDepth 100000 in
theorem edgesDegrees_walk (n0 : Int) (v : Value) (l : List (Nat × Nat)) (w : World) (hn : (Lit.int .u8 n0).wf = true) (h : Prs w v l) (hs : Small l) (hl : l.length ≤ 9223372036854775807) :
    Calls Try.prog 6 #[.int .u8 n0, v] w fun e w' => e = .returned (.bool true) ∧ Below w.heap.size w w' := by
  obtain ⟨n, rfl, hn2⟩ := wf_u8 hn
  by_cases h400 : 400 < l.length
  · obtain ⟨a, cap, rfl, _, _⟩ := h
    go_enter Try.func6, Try.ntmps6
    go_wp2
    go_ret
    exact ⟨rfl, Below.refl _ _⟩
  · obtain ⟨m, hm⟩ : ∃ m, 2 + n % 255 = m := ⟨_, rfl⟩
    have hm1 : 2 ≤ m ∧ m ≤ 256 := by omega
    have hm3 : 2 + (n : Int) % 255 = m := by omega
    have HS : Hid (Calls _ _ _ _ _) := some_any m v l w hm1.1 hm1.2 h hs (by omega)
    obtain ⟨a, cap, rfl, _, _⟩ := h
    clear hm hs
    go_enter Try.func6, Try.ntmps6
    go_wp2_with fail
    refine Calls.mono HS.out ?_
    rintro e w1 ⟨u, rfl, hown, hb⟩
    have he : Edg w1 u (someE m l) := Edg.of_own hown
    have HOK : Hid (∀ x ∈ someE m l, ∃ a b : Nat, x = ((a : Int), (b : Int)) ∧ a < m ∧ b < m ∧ a ≠ b) := some_ok hm1.1
    have hlen := someE_len m l
    rw [← hlen] at h400
    clear hown hlen HS
    generalize someE m l = E at *
    have he : Hid (Edg w1 u E) := he
    have hb : Hid (Below w.heap.size w w1) := hb
    go_wp2_with fail
    refine (degrees_any u E m w1 he.out (by omega)).mono ?_
    rintro e w2 ⟨u1, u2, rfl, hu1, hu2, hb2⟩
    rw [degs_tall (by omega) (by omega)] at hu1 hu2
    replace hu1 : Hid (Ints w2 u1 (tall (E.map (·.1)) m)) := hu1
    replace hu2 : Hid (Ints w2 u2 (tall (E.map (·.2)) m)) := hu2
    replace he := Edg.hid he hb2
    replace hb2 : Hid (Below w.heap.size w w2) := bnext hb.out hb2
    clear hb
    go_wp2_with fail
    refine (reverse_any u E w2 he.out (by omega)).mono ?_
    rintro e w3 ⟨ur, rfl, hur, hb3⟩
    replace hur : Hid (Edg w3 ur (Ed.rev E)) := Edg.of_own hur
    replace he := Edg.hid he hb3
    replace hu1 := Ints.hid hu1 hb3
    replace hu2 := Ints.hid hu2 hb3
    replace hb3 : Hid (Below w.heap.size w w3) := bnext hb2.out hb3
    clear hb2
    obtain ⟨b1, o1, cap1, rfl, hc1⟩ := ints_cell hu1.out (by omega)
    obtain ⟨b2, o2, cap2, rfl, hc2⟩ := ints_cell hu2.out (by omega)
    have HC1 : Hid (∀ j, j < m → w3.cell? ⟨b1, o1 + j, none⟩ = some (.int .i64 (Ed.cnt (E.map (·.1)) j))) := hc1
    have HC2 : Hid (∀ j, j < m → w3.cell? ⟨b2, o2 + j, none⟩ = some (.int .i64 (Ed.cnt (E.map (·.2)) j))) := hc2
    clear hc1 hc2 hu1 hu2
    have HRL : Hid ((Ed.rev E).length = E.length) := rev_len E
    have HO1 : Hid (∀ (k : Nat) W, Below w3.heap.size w3 W → Calls Try.prog 14 #[u, .int .i64 k] W fun e w' => ∃ a cap, e = .returned (.slice a (Ed.outs E k).length cap) ∧ Below w3.heap.size w3 w') := fun k W hW => (out_any u E k W (he.out.later hW) (by omega)).mono fun e w' ⟨x, hx, hown, hb⟩ => by
      obtain ⟨a, cap, rfl⟩ := slice_of hown
      exact ⟨a, cap, hx, bnext hW hb⟩
    have HO2 : Hid (∀ (k : Nat) W, Below w3.heap.size w3 W → Calls Try.prog 14 #[ur, .int .i64 k] W fun e w' => ∃ a cap, e = .returned (.slice a (Ed.outs (Ed.rev E) k).length cap) ∧ Below w3.heap.size w3 w') := fun k W hW => (out_any ur (Ed.rev E) k W (hur.out.later hW) (by have := HRL.out; omega)).mono fun e w' ⟨x, hx, hown, hb⟩ => by
      obtain ⟨a, cap, rfl⟩ := slice_of hown
      exact ⟨a, cap, hx, bnext hW hb⟩
    go_wp2_with fail
    go_loopw [10, 11, 12] (fun a b i wr => ∃ k : Nat, k ≤ m ∧ i = .int .i64 k ∧ a = .int .i64 (low (E.map (·.1)) k) ∧ b = .int .i64 (low (E.map (·.2)) k) ∧ Hid (Below w3.heap.size w3 wr)) (fun _ _ i _ => m - (intOf i).toNat)
    case atStart => exact ⟨0, Nat.zero_le _, rfl, by rw [low_zero], by rw [low_zero], Below.refl _ _⟩
    case round =>
      obtain ⟨k, hk, rfl, rfl, rfl, HB⟩ := hrel
      by_cases hlt : k < m
      · have d1 := HC1.out k hlt
        have d2 := HC2.out k hlt
        have l1 := low_le (E.map (·.1)) (k + 1)
        have l2 := low_le (E.map (·.2)) (k + 1)
        have l3 := low_le (E.map (·.1)) k
        have l4 := low_le (E.map (·.2)) k
        rw [List.length_map] at l1 l2 l3 l4
        have s1 : Hid (low (E.map (·.1)) (k + 1) = low (E.map (·.1)) k + ((Ed.outs E k).length : Int)) := by rw [Hid, low_succ, outs_cnt]
        have s2 : Hid (low (E.map (·.2)) (k + 1) = low (E.map (·.2)) k + ((Ed.outs (Ed.rev E) k).length : Int)) := by rw [Hid, low_succ, rev_cnt]
        rw [s1.out] at l1
        rw [s2.out] at l2
        rw [← outs_cnt] at d1
        rw [← rev_cnt] at d2
        have P1 := HO1.out k
        have P2 := HO2.out k
        generalize (Ed.outs E k).length = n1 at *
        generalize (Ed.outs (Ed.rev E) k).length = n2 at *
        generalize low (E.map (·.1)) k = x1 at *
        generalize low (E.map (·.2)) k = x2 at *
        have P1 : Hid _ := P1
        have P2 : Hid _ := P2
        have c1 := cell_after HB.out d1
        have c2 := cell_after HB.out d2
        have D1 : Hid _ := d1
        have D2 : Hid _ := d2
        clear d1 d2
        have hB := HB.out
        have hBd := hB.drew
        go_wp2_with fail
        have c1d : wr.drew.cell? ⟨b1, o1 + k, none⟩ = some (.int .i64 n1) := c1
        have c2d : wr.drew.cell? ⟨b2, o2 + k, none⟩ = some (.int .i64 n2) := c2
        go_region_held3 (fun W => Below w3.heap.size w3 W ∧ W.cell? ⟨b1, o1 + k, none⟩ = some (.int .i64 n1) ∧ W.cell? ⟨b2, o2 + k, none⟩ = some (.int .i64 n2)) (first | exact ⟨by assumption, by assumption, by assumption⟩ | go_keep)
          (first
          | (go_at_call_of 14 u; refine Calls.mono (P1.out _ (by assumption)) ?_; rintro e w' ⟨a', cap', rfl, hb'⟩; have c1' := cell_after hb' D1.out; have c2' := cell_after hb' D2.out)
          | (go_at_call_of 14 ur; refine Calls.mono (P2.out _ (by assumption)) ?_; rintro e w' ⟨a', cap', rfl, hb'⟩; have c1' := cell_after hb' D1.out; have c2' := cell_after hb' D2.out)
          | fail)
        all_goals go_wp2
        go_roundw
        case rel => exact ⟨k + 1, by omega, by go_num, by rw [s1.out], by rw [s2.out], hb'⟩
        case measure => simp [intOf]; omega
      · obtain rfl : k = m := by omega
        have t1 : Hid (low (E.map (·.1)) k = (E.length : Int)) := by
          rw [Hid, low_all, List.length_map]
          intro x hx
          obtain ⟨y, hy, rfl⟩ := List.mem_map.1 hx
          obtain ⟨a, b, rfl, _, _, _⟩ := HOK.out y hy
          simp; omega
        have t2 : Hid (low (E.map (·.2)) k = (E.length : Int)) := by
          rw [Hid, low_all, List.length_map]
          intro x hx
          obtain ⟨y, hy, rfl⟩ := List.mem_map.1 hx
          obtain ⟨a, b, rfl, _, _, _⟩ := HOK.out y hy
          simp; omega
        rw [t1.out, t2.out]
        obtain ⟨ae, cape, rfl, _, _⟩ := he.out
        have hb3' := bnext hb3.out HB.out
        go_wp2_with fail
        refine (does_any _).mono ?_
        rintro e w9 ⟨rfl, hb9⟩
        replace hb9 : Hid (Below w.heap.size w w9) := bnext hb3' hb9
        go_wp2
        go_ret
        exact ⟨rfl, hb9.out⟩


set_option maxRecDepth 100000 in
theorem edgesDegrees_lifted (os : Os) (started : os.Started) (H : Type) (enc : TypeId × Value → H) :
    ReturnsInHanded {} Try.checked os 6 .any (Rows.edgesDegreesSpec.pre6 enc Try.prog Try.f6 Rows.edgesDegreesRow.domain false) (Rows.edgesDegreesSpec.post enc Try.prog Try.f6 false true false false) := by
  refine returnsInHanded_of_change (C := Try.checked) Try.own started (by kernel_rfl) Try.func6
    (ChangeSpec.witness6 (enc := enc) (C := Try.checked) false ⟨#[], #[.int .u8 0, .slice none 0 0], []⟩ 8 (by kernel_rfl) (by kernel_rfl) (by kernel_rfl) (by kernel_rfl)) ?_
  intro W base args ds gs before hval0 hW hcnd _
  have hval : ∀ (j : Nat) t v, Try.f6.params[j]? = some t → args[j]? = some v → Value.okWide Try.prog W .any base t v := hval0
  have hW' := hW
  obtain ⟨p, q, hA0, hV, rfl, hfz, hnd⟩ := hW
  have hA : DataW.TrodAll enc Try.prog W 0 (fun _ => true) true Try.f6.params.toList args.toList ds p := hA0
  rw [Try.params6] at hA hval
  obtain ⟨v0, vs0, d0, ds0, p0, q0, hargs, rfl, rfl, h0, r0⟩ := trodAll_cons hA
  obtain ⟨v1, vs1, d1, ds1, p1, q1, rfl, rfl, rfl, h1, r1⟩ := trodAll_cons r0
  obtain ⟨rfl, rfl, rfl⟩ := trodAll_nil r1
  obtain rfl : args = #[v0, v1] := by cases args; simp_all
  obtain ⟨rfl, rfl⟩ := trodVars_none hV
  obtain ⟨a0, rfl, rfl, rfl, w0⟩ := open_int Try.underlying5 (hval 0 5 v0 rfl rfl) h0
  have lt1 : ∀ x ∈ p1, x.block < W.heap.size := by obtain ⟨m, hm⟩ := h1; exact DataW.trod_lt m _ _ _ hm
  obtain ⟨l1, k1, s1, n1⟩ := open_pairs (hval 1 37 v1 rfl rfl) h1
  clear hA0 hval0
  refine (edgesDegrees_walk a0 v1 l1 W w0 k1 s1 n1).mono fun e W' ⟨he, bel⟩ => ?_
  subst he
  exact ⟨_, rfl, _, _, _, [], _, [], hW', trodAll_mk1 (shut_bool Try.underlying4 _), (trodAll_cons_mk (shut_int Try.underlying5 w0) (trodAll_cons_mk (Below.trod Try.laidOut (by kernel_rfl) (of_decide_eq_true (by kernel_rfl)) h1 bel lt1) trodAll_mk0)), rfl, bel.frame _, fun h => by cases h⟩

theorem edgesDegrees_holds : Rows.EdgesDegreesSaid :=
  OpenClaim.holds_of_wide 6 Try.f6 rfl rfl rfl rfl rfl rfl rfl ⟨rfl, rfl, rfl, rfl, rfl⟩ rfl rfl rfl rfl rfl (by kernel_rfl) Try.func6 (by kernel_rfl)
    (of_decide_eq_true (by kernel_rfl)) (by unfold Func.isWrapper; first | (rw [if_pos (by decide +kernel)]; kernel_rfl) | (rw [if_neg (by decide +kernel)]; exact ⟨rfl, rfl⟩))
    (fun os started H enc _ => edgesDegrees_lifted os started H enc)

end Go.Proofs.Ytmgikaanckbadaa
