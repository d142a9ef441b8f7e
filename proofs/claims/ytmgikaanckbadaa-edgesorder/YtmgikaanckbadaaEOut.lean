/- The walks of edges.Out, Reverse and Degrees. -/
import Derived.Test.YtmgikaanckbadaaENorm
import Derived.Maps.AppendAt
namespace Go.Proofs.Ytmgikaanckbadaa
open Go.RowKit Go.Shelf Go.Sort Go.Lib

theorem outs_snoc (l : List (Int × Int)) (v : Int) (x : Int × Int) : Ed.outs (l ++ [x]) v = if x.1 = v then Ed.outs l v ++ [x.2] else Ed.outs l v := by
  unfold Ed.outs
  by_cases h : x.1 = v <;> simp [h]

theorem cell_one_two (w : World) (o : Obj) (x : Value) (t : TypeId) : ∀ j u, [x][j]? = some u → ((w.alloc o).alloc (.cells #[x] t)).cell? ((⟨w.heap.size + 1, 0, none⟩ : Addr).add j) = some u := by
  have := cell_one_new (w.alloc o) x t
  simpa using this

theorem outs_len (l : List (Int × Int)) (v : Int) : (Ed.outs l v).length ≤ l.length := by
  unfold Ed.outs
  rw [List.length_map]
  exact List.length_filter_le _ _

set_option maxHeartbeats 1000000 in
set_option maxRecDepth 100000 in
theorem out_any (v : Value) (l : List (Int × Int)) (x : Int) (w : World) (h : Edg w v l) (hl : l.length ≤ 1000000) :
    Calls Try.prog 14 #[v, .int .i64 x] w fun e w' => ∃ u, e = .returned u ∧ w'.ownsRow w.heap.size 3 1 u (Ed.outs l x).length ((Ed.outs l x).map (Value.int .i64)) ∧ Below w.heap.size w w' := by
  obtain ⟨i0, hi0, hz0, hz1, hz2⟩ := info_parts Try.intInfo
  obtain ⟨a, cap, rfl, _, h⟩ := h
  have HE : Hid _ := h
  clear h
  go_enter Try.func14, Try.ntmps14
  go_wp2
  go_loopw [5, 10] (fun u i wr => ∃ k : Nat, k ≤ l.length ∧ i = .int .i64 k ∧ Hid (wr.ownsRow w.heap.size 3 1 u (Ed.outs (l.take k) x).length ((Ed.outs (l.take k) x).map (Value.int .i64))) ∧ Hid (Below w.heap.size w wr)) (fun _ i _ => l.length - (intOf i).toNat)
  case atStart => exact ⟨0, Nat.zero_le _, rfl, World.ownsRow_nil _ _ _ _, Below.refl _ _⟩
  case round =>
    obtain ⟨k, hk, rfl, HO, HB⟩ := hrel
    by_cases hlt : k < l.length
    · obtain ⟨b, off, rfl, hc⟩ := HE.out.resolve_left (by rintro rfl; simp at hlt)
      have c1 := cell_after HB.out (hc k hlt).1
      have c2 := cell_after HB.out (hc k hlt).2
      clear hc
      have HS : Hid (Ed.outs (l.take (k + 1)) x = if (l.getD k e0).1 = x then Ed.outs (l.take k) x ++ [(l.getD k e0).2] else Ed.outs (l.take k) x) := by
        rw [Hid, take_succ_e l k hlt, outs_snoc]
      have HN : Hid ((Ed.outs (l.take k) x).length ≤ 1000000) := Nat.le_trans (outs_len _ _) (by rw [List.length_take]; omega)
      generalize l.getD k e0 = p at *
      by_cases hpx : p.1 = x
      · have hq : (p.1 == x) = true := by simpa using hpx
        have HS1 : Hid (Ed.outs (l.take (k + 1)) x = Ed.outs (l.take k) x ++ [p.2]) := by rw [Hid, HS.out, if_pos hpx]
        clear hpx HS
        go_wp2_with (at_builtin; refine wpList_append_own _ rfl _ _ 29 rfl w.heap.size 3 i0 (.int .i64 0) 1 8 Try.underlying29 hi0 hz0 hz1 hz2 rfl (by decide) _ _ _ rfl ((HO.out.alloc _).alloc _) ⟨wr.heap.size + 1, 0, none⟩ 1 1 [.int .i64 p.2] rfl rfl (cell_one_two _ _ _ _) (by simp [Value.oneCell']) (by have := HN.out; unfold maxLen; omega) (by have := HN.out; omega) (by have := HB.out.size; simp; omega) ?_; intro v' w1 hown1 hgrow1 _)
        have HO1 : Hid (w1.ownsRow w.heap.size 3 1 v' (Ed.outs (l.take (k + 1)) x).length ((Ed.outs (l.take (k + 1)) x).map (Value.int .i64))) := by
          rw [Hid, HS1.out]; simpa using hown1
        have HB1 : Hid (Below w.heap.size w w1) := ((HB.out.alloc HB.out.size _).alloc (by have := HB.out.size; simp; omega) _).grown hgrow1 (by have := HB.out.size; simp; omega) (fun q e => (HO.out.lt q e).1)
        clear hown1 hgrow1
        go_roundw
        case rel => exact ⟨k + 1, by omega, by go_num, HO1, HB1⟩
        case measure => simp [intOf]; omega
      · have hq : (p.1 == x) = false := by simpa using hpx
        have HS1 : Hid (Ed.outs (l.take (k + 1)) x = Ed.outs (l.take k) x) := by rw [Hid, HS.out, if_neg hpx]
        clear hpx HS
        go_wp2
        go_roundw
        case rel => exact ⟨k + 1, by omega, by go_num, by rw [HS1.out]; exact HO.out.alloc _, HB.out.alloc HB.out.size _⟩
        case measure => simp [intOf]; omega
    · obtain rfl : k = l.length := by omega
      have HO1 := HO.out
      rw [List.take_length] at HO1
      have HO2 : Hid _ := HO1
      clear HO1
      go_wp2
      go_ret
      exact ⟨_, rfl, HO2.out, HB.out⟩

theorem swap_snoc (l : List (Int × Int)) (k : Nat) (h : k < l.length) : (l.map Ed.swap).take k ++ List.replicate (l.length - k) (0, 0) = (l.map Ed.swap).take k ++ (0, 0) :: List.replicate (l.length - (k + 1)) (0, 0) := by
  rw [show l.length - k = (l.length - (k + 1)) + 1 by omega, List.replicate_succ]

/-- The row behind k rounds. -/
def half (l : List (Int × Int)) (k : Nat) : List (Int × Int) := (l.map Ed.swap).take k ++ List.replicate (l.length - k) (0, 0)
theorem half_len (l : List (Int × Int)) (k : Nat) (h : k ≤ l.length) : (half l k).length = l.length := by simp [half]; omega
theorem half_set (l : List (Int × Int)) (k : Nat) (h : k < l.length) : (half l k).set k (Ed.swap (l.getD k e0)) = half l (k + 1) := by
  unfold half
  rw [swap_snoc l k h]
  have hk : ((l.map Ed.swap).take k).length = k := by simp; omega
  rw [List.set_append_right _ _ (by omega), hk, Nat.sub_self, List.set_cons_zero]
  rw [List.take_add_one, List.getElem?_map, List.getElem?_eq_getElem h]
  simp [List.getD, h]
theorem half_all (l : List (Int × Int)) : half l l.length = l.map Ed.swap := by
  unfold half
  rw [Nat.sub_self, List.take_of_length_le (by simp)]
  simp

theorem made_edges (n : Nat) : (madeCells #[.int .i64 0, .int .i64 0] (n * 2)).toList = ecells (List.replicate n (0, 0)) := by
  have hz : ∀ i, (#[Value.int .i64 0, Value.int .i64 0] : Array Value)[i % 2]! = .int .i64 0 := fun i => by
    rcases Nat.mod_two_eq_zero_or_one i with m | m <;> rw [m] <;> rfl
  have hl : (madeCells #[.int .i64 0, .int .i64 0] (n * 2)).toList = (List.range (n * 2)).map fun _ => Value.int .i64 0 := by
    unfold madeCells
    rw [Array.toList_map, Array.toList_range]
    exact List.map_congr_left fun i _ => hz i
  rw [hl]
  apply List.ext_getElem?
  intro j
  by_cases hj : j < n * 2
  · obtain ⟨g1, g2⟩ := ecells_get (List.replicate n (0, 0)) (j / 2) (by simp; omega)
    have e : (List.replicate n ((0, 0) : Int × Int)).getD (j / 2) e0 = (0, 0) := by
      rw [List.getD_eq_getElem?_getD, List.getElem?_replicate, if_pos (by omega)]; rfl
    rw [e] at g1 g2
    rw [List.getElem?_map, List.getElem?_range hj]
    rcases Nat.mod_two_eq_zero_or_one j with m | m
    · rw [show j / 2 * 2 = j by omega] at g1
      rw [g1]; rfl
    · rw [show j / 2 * 2 + 1 = j by omega] at g2
      rw [g2]; rfl
  · rw [List.getElem?_eq_none (by simp; omega), List.getElem?_eq_none (by rw [ecells_len]; simp; omega)]

set_option maxHeartbeats 1000000 in
set_option maxRecDepth 100000 in
theorem reverse_any (v : Value) (l : List (Int × Int)) (w : World) (h : Edg w v l) (hl : l.length ≤ 1000000) :
    Calls Try.prog 16 #[v] w fun e w' => ∃ u, e = .returned u ∧ w'.ownsRow w.heap.size 24 2 u l.length (ecells (Ed.rev l)) ∧ Below w.heap.size w w' := by
  obtain ⟨i0, hi0, hz0, hz1, hz2⟩ := info_parts Try.edgeInfo
  obtain ⟨a, cap, rfl, _, h⟩ := h
  have HE : Hid _ := h
  clear h
  go_enter Try.func16, Try.ntmps16
  go_wp2_with (at_make; refine wpList_make_full _ rfl _ _ 22 rfl w.heap.size 24 i0 (.agg #[.int .i64 0, .int .i64 0]) 2 Try.underlying22 hi0 hz0 hz1 _ _ _ _ l.length rfl rfl rfl rfl ?b2 ?b3 ?b4 ?_)
  case b2 => rw [hz2]; omega
  case b3 => unfold maxLen; omega
  case b4 => exact Nat.le_refl _
  intro w1 hown1 hgrow1
  rw [made_edges] at hown1
  have HO1 : Hid (w1.ownsRow w.heap.size 24 2 (.slice (some ⟨w.heap.size, 0, none⟩) l.length l.length) l.length (ecells (half l 0))) := by
    have e : half l 0 = List.replicate l.length (0, 0) := by simp [half]
    rw [Hid, e]; exact hown1
  have HB1 : Hid (Below w.heap.size w w1) := (Below.refl _ _).grown hgrow1 (Nat.le_refl _) (by simp)
  clear hown1 hgrow1
  go_wp2
  go_loopw [11] (fun i wr => ∃ k : Nat, k ≤ l.length ∧ i = .int .i64 k ∧ Hid (wr.ownsRow w.heap.size 24 2 (.slice (some ⟨w.heap.size, 0, none⟩) l.length l.length) l.length (ecells (half l k))) ∧ Hid (Below w.heap.size w wr)) (fun i _ => l.length - (intOf i).toNat)
  case atStart => exact ⟨0, Nat.zero_le _, rfl, HO1, HB1⟩
  case round =>
    obtain ⟨k, hk, rfl, HO, HB⟩ := hrel
    by_cases hlt : k < l.length
    · obtain ⟨b, off, rfl, hc⟩ := HE.out.resolve_left (by rintro rfl; simp at hlt)
      have c1 := cell_after HB.out (hc k hlt).1
      have c2 := cell_after HB.out (hc k hlt).2
      clear hc
      have HS : Hid ((half l k).set k (Ed.swap (l.getD k e0)) = half l (k + 1)) := half_set l k hlt
      generalize l.getD k e0 = p at *
      obtain ⟨wa, hwa⟩ : ∃ wa, wr.alloc (.cells #[.int .i64 p.1, .int .i64 p.2] 24) = wa := ⟨_, rfl⟩
      have HOa : wa.ownsRow w.heap.size 24 2 (.slice (some ⟨w.heap.size, 0, none⟩) l.length l.length) l.length (ecells (half l k)) := by rw [← hwa]; exact HO.out.alloc _
      have HBa : Below w.heap.size w wa := by rw [← hwa]; exact HB.out.alloc HB.out.size _
      obtain ⟨c5, c6, f5, f6⟩ := own_at HOa (half_len l k hk) hlt
      have c7 : wa.cell? ⟨wr.heap.size, 0, none⟩ = some (.int .i64 p.1) := by rw [← hwa]; simp
      have c8 : wa.cell? ⟨wr.heap.size, 1, none⟩ = some (.int .i64 p.2) := by rw [← hwa]; simp
      have hpw := own_put HOa k (Ed.swap p)
      rw [HS.out] at hpw
      have HO2 : Hid (((wa.setCell ⟨w.heap.size, k * 2, none⟩ (.int .i64 p.2)).setCell ⟨w.heap.size, k * 2 + 1, none⟩ (.int .i64 p.1)).ownsRow w.heap.size 24 2 (.slice (some ⟨w.heap.size, 0, none⟩) l.length l.length) l.length (ecells (half l (k + 1)))) := hpw.1
      have HB2 : Hid (Below w.heap.size w ((wa.setCell ⟨w.heap.size, k * 2, none⟩ (.int .i64 p.2)).setCell ⟨w.heap.size, k * 2 + 1, none⟩ (.int .i64 p.1))) := HBa.grown hpw.2 HBa.size (fun q e => by cases e; exact Nat.le_refl _)
      clear hpw HOa HBa HS
      generalize (half l k).getD k e0 = old at *
      go_wp2
      go_roundw
      case rel => exact ⟨k + 1, by omega, by go_num, HO2, HB2⟩
      case measure => simp [intOf]; omega
    · obtain rfl : k = l.length := by omega
      have HR : Hid (Ed.srt (half l l.length) = Ed.rev l) := by rw [Hid, half_all]; rfl
      have HL : Hid ((half l l.length).length = l.length) := half_len l _ (Nat.le_refl _)
      generalize hn : l.length = n at *
      go_wp2_with fail
      refine (rising_own _ _ n (half l n) wr HO.out (by omega)).mono ?_
      rintro e w2 ⟨rfl, hown2, hg2⟩
      rw [HR.out] at hown2
      have HO2 : Hid (w2.ownsRow w.heap.size 24 2 (.slice (some ⟨w.heap.size, 0, none⟩) n n) n (ecells (Ed.rev l))) := hown2
      have HB2 : Hid (Below w.heap.size w w2) := grown_below HB.out HB.out.size HO.out (Nat.le_refl _) hg2
      clear hown2 hg2
      go_wp2
      go_ret
      exact ⟨_, rfl, by rw [hn]; exact HO2.out, HB2.out⟩

end Go.Proofs.Ytmgikaanckbadaa
