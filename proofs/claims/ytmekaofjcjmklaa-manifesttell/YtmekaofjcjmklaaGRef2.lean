/- The walk of the document's own Decode (carouselref02): it returns what gaps' does; nothing that was in memory has changed. -/
import Derived.Test.YtmekaofjcjmklaaGRef
namespace Go.Proofs.Ytmekaofjcjmklaa
open Go.RowKit

theorem nums_last (a : Int) (p : List Gp.Gap) (j : Nat) (h : p.length = j + 1) : (Gp.nums a p)[j]? = some (Gp.top a p) := by
  rcases List.eq_nil_or_concat p with rfl | ⟨q, x, rfl⟩
  · simp at h
  · rw [List.concat_eq_append, Gp.nums_snoc, Gp.top_snoc]
    have hl : (Gp.nums a q).length = j := by
      rw [Gp.nums_length]
      simpa using h
    rw [List.getElem?_append_right (by omega), hl, Nat.sub_self]
    rfl

/-- What the loop knows when k gaps are read. -/
def Had (s : List UInt8) (c : Nat) (x : Int) (k : Nat) (pre : List Gp.Gap) : Prop :=
  k ≤ c ∧ pre.length = k ∧ Gp.run s c x = pre ++ Gp.run s (c - k) (Gp.place x pre) ∧ Gp.top (-1) pre ≤ 9223372036854775807

theorem had_none {s : List UInt8} {i : Int} {c : Nat} {x : Int} {k : Nat} {pre : List Gp.Gap} (hg : Vi.getS s i = ((c : Int), x, true)) (h : Had s c x k pre) (hk : k < c) (hb : (Vi.getS s (Gp.place x pre)).2.2 = false) : Gp.dec s i = none := by
  obtain ⟨h1, h2, h3, h4⟩ := h
  rw [run_stop _ _ _ hb, List.append_nil] at h3
  rw [dec_of _ _ _ _ hg, if_neg]
  rintro ⟨hl, _⟩
  rw [h3] at hl
  omega

theorem had_run {s : List UInt8} {c : Nat} {x : Int} {k : Nat} {pre : List Gp.Gap} (h : Had s c x k pre) (hk : k < c) {g y : Int} (hb : Vi.getS s (Gp.place x pre) = (g, y, true)) : Gp.run s c x = (pre ++ [Gp.mk g y]) ++ Gp.run s (c - (k + 1)) y := by
  obtain ⟨h1, h2, h3, h4⟩ := h
  rw [h3, show c - k = (c - (k + 1)) + 1 by omega, run_more _ _ _ _ _ hb, List.append_assoc]
  rfl

theorem get_range {s : List UInt8} {i g y : Int} (hb : Vi.getS s i = (g, y, true)) : 0 ≤ g ∧ g ≤ 9223372036854775807 := by
  have := Gp.getS_some s i (by rw [hb])
  rw [hb] at this
  exact ⟨this.2.1, this.2.2.1⟩

theorem had_more {s : List UInt8} {c : Nat} {x : Int} {k : Nat} {pre : List Gp.Gap} (h : Had s c x k pre) (hk : k < c) {g y : Int} (hb : Vi.getS s (Gp.place x pre) = (g, y, true)) (ht : Gp.top (-1) pre + 1 + g ≤ 9223372036854775807) :
    Had s c x (k + 1) (pre ++ [Gp.mk g y]) ∧ Gp.place x (pre ++ [Gp.mk g y]) = y ∧ Gp.nums (-1) (pre ++ [Gp.mk g y]) = Gp.nums (-1) pre ++ [Gp.top (-1) pre + 1 + g] := by
  have hm := Gp.mk_val g y (get_range hb)
  have hr := had_run h hk hb
  obtain ⟨h1, h2, h3, h4⟩ := h
  refine ⟨⟨by omega, by simp [h2], ?_, ?_⟩, by rw [Gp.place_snoc, hm], by rw [Gp.nums_snoc, hm]⟩
  · rw [Gp.place_snoc, hm]; exact hr
  · rw [Gp.top_snoc, hm]; exact ht

theorem had_over {s : List UInt8} {i : Int} {c : Nat} {x : Int} {k : Nat} {pre : List Gp.Gap} (hg : Vi.getS s i = ((c : Int), x, true)) (h : Had s c x k pre) (hk : k < c) {g y : Int} (hb : Vi.getS s (Gp.place x pre) = (g, y, true)) (ht : 9223372036854775807 < Gp.top (-1) pre + 1 + g) : Gp.dec s i = none := by
  have hm := Gp.mk_val g y (get_range hb)
  have hr := had_run h hk hb
  have hp := Gp.top_prefix (-1) (⟨_, hr.symm⟩ : (pre ++ [Gp.mk g y]) <+: Gp.run s c x)
  rw [Gp.top_snoc, hm] at hp
  rw [dec_of _ _ _ _ hg, if_neg]
  rintro ⟨_, h2⟩
  simp only at hp
  omega

theorem had_room {s : List UInt8} {i : Int} {c : Nat} {x : Int} {k : Nat} {pre : List Gp.Gap} (hg : Vi.getS s i = ((c : Int), x, true)) (h : Had s c x k pre) : k ≤ s.length := by
  obtain ⟨h1, h2, h3, h4⟩ := h
  have hs := Gp.getS_some s i (by rw [hg])
  rw [hg] at hs
  obtain ⟨k1, k2, k3, k4, k5, _, k7⟩ := hs
  simp only at k2 k4 k5 k7
  have hr := Gp.run_room s c x k5
  rw [h3, List.length_append] at hr
  omega

theorem had_low {s : List UInt8} {c : Nat} {x : Int} {j : Nat} {pre : List Gp.Gap} (h : Had s c x (j + 1) pre) : 0 ≤ Gp.top (-1) pre := by
  have hn := nums_last (-1) pre j h.2.1
  have := (Gp.nums_range (-1) pre _ (List.mem_of_getElem? hn)).1
  omega

theorem had_end {s : List UInt8} {i : Int} {c : Nat} {x : Int} {pre : List Gp.Gap} (hg : Vi.getS s i = ((c : Int), x, true)) (h : Had s c x c pre) : Gp.dec s i = some (Gp.nums (-1) pre, Gp.place x pre) := by
  obtain ⟨h1, h2, h3, h4⟩ := h
  rw [Nat.sub_self] at h3
  have e : Gp.run s c x = pre := by rw [h3]; exact List.append_nil _
  rw [dec_of _ _ _ _ hg, e, if_pos ⟨h2, h4⟩]

set_option maxHeartbeats 4000000 in
set_option maxRecDepth 100000 in
theorem rdecode_own (s : ByteArray) (i : Int) (w : World) (hs : s.size ≤ 1000000000000) :
    Calls Try.prog 25 #[.string s, .int .i64 i] w fun e w' => ∃ v n er, e = .returned (.tuple #[v, .int .i64 n, .int .i64 er]) ∧ ToldO w.heap.size w' (Gp.dec s.data.toList i) v n er ∧ Below w.heap.size w w' := by
  obtain ⟨i0, hi0, hz0, hz1, hz2⟩ := info_parts Try.intInfo
  go_enter Try.func25, Try.ntmps25
  go_wp2_with fail
  refine (rget_any s i _ (by omega)).mono ?_
  rintro e w1 ⟨c, x, ok, rfl, hg, hb1⟩
  cases ok with
  | false =>
    have HD : Hid _ := dec_none _ _ _ _ hg.out
    go_wp2
    go_ret3
    exact ⟨_, _, _, rfl, by rw [HD.out]; exact ⟨rfl, rfl, rfl⟩, hb1⟩
  | true =>
    have hr := get_range hg.out
    obtain ⟨c, rfl⟩ := Int.eq_ofNat_of_zero_le hr.1
    go_wp2
    go_loopw [8, 10, 11] (fun p v i wr => ∃ (k : Nat) (pre : List Gp.Gap), i = .int .i64 k ∧ p = .int .i64 (Gp.place x pre) ∧ Had s.data.toList c x k pre ∧ wr.ownsRow w.heap.size 3 1 v k ((Gp.nums (-1) pre).map (Value.int .i64)) ∧ Below w.heap.size w wr) (fun _ _ i _ => c - (intOf i).toNat)
    case atStart => exact ⟨0, [], rfl, rfl, ⟨Nat.zero_le _, rfl, rfl, by show (-1 : Int) ≤ _; decide⟩, World.ownsRow_nil _ _ _ _, hb1⟩
    case round =>
      clear hb1
      obtain ⟨k, pre, rfl, rfl, hhad, hown, hbel⟩ := hrel
      have hkc := hhad.1
      have HH : Hid _ := hhad
      clear hhad
      by_cases hlt : k < c
      · go_wp2_with fail
        refine (rget_any s (Gp.place x pre) _ (by omega)).mono ?_
        rintro e w2 ⟨g, y, ok, rfl, hg2, hb2⟩
        have hown2 := hown.kept (grown_of_below hb2) (by cases hv : Value.ownBlock _ <;> simp)
        have hbel2 := bnext hbel hb2
        clear hown hbel hb2
        cases ok with
        | false =>
          have HD : Hid _ := had_none hg.out HH.out hlt (by rw [hg2.out])
          go_wp2
          go_ret3
          exact ⟨_, _, _, rfl, by rw [HD.out]; exact ⟨rfl, rfl, rfl⟩, hbel2⟩
        | true =>
          have hr2 := get_range hg2.out
          have ht1 := Gp.top_ge (-1) pre
          have ht2 := HH.out.2.2.2
          have hpl : pre.length = k := HH.out.2.1
          have hroom : k ≤ s.size := by have := had_room hg.out HH.out; simpa using this
          by_cases hov : Gp.top (-1) pre + 1 + g ≤ 9223372036854775807
          · have hm := had_more HH.out hlt hg2.out hov
            have HM : Hid _ := hm
            clear hm
            cases k with
            | zero =>
              have hp0 : pre = [] := List.length_eq_zero_iff.1 hpl
              have HE : Hid (Gp.top (-1) pre + 1 + g = g) := by
                rw [Hid, hp0]
                show (-1 : Int) + 1 + g = g
                omega
              clear hp0
              generalize Gp.top (-1) pre = t at *
              generalize Gp.place x pre = p at *
              go_wp2_with (at_builtin; refine wpList_append_own _ rfl _ _ 44 rfl w.heap.size 3 i0 (.int .i64 0) 1 8 Try.underlying44 hi0 hz0 hz1 hz2 rfl (by decide) _ _ _ rfl (hown2.alloc _) ⟨w2.heap.size, 0, none⟩ 1 1 [.int .i64 g] rfl rfl (cell_one_new _ _ _) (by simp [Value.oneCell']) (by unfold maxLen; omega) (by omega) (by have := hbel2.size; simp; omega) ?_; intro v' w3 hown3 hgrow3 _)
              have hb3 := (hbel2.alloc hbel2.size (.cells #[.int .i64 g] 3)).grown hgrow3 (by have := hbel2.size; simp; omega) (fun q e => (hown2.lt q e).1)
              obtain ⟨m1, m2, m3⟩ := HM.out
              refine ⟨⟨0 + 1, _, by go_num, by rw [m2], m1, ?_, hb3⟩, by simp [intOf]; omega⟩
              rw [m3, HE.out]
              simpa using hown3
            | succ j =>
              have hlow := had_low HH.out
              obtain ⟨gb, cap, rfl⟩ := ownsRow_succ hown2
              have hcj := hown2.cellAt j (by omega)
              rw [List.getElem?_map, nums_last (-1) pre j hpl] at hcj
              simp only [Option.map_some] at hcj
              generalize Gp.top (-1) pre = t at *
              generalize Gp.place x pre = p at *
              have hq : (t == 9223372036854775807) = false := by simp; omega
              go_wp2_with (at_builtin; refine wpList_append_own _ rfl _ _ 44 rfl w.heap.size 3 i0 (.int .i64 0) 1 8 Try.underlying44 hi0 hz0 hz1 hz2 rfl (by decide) _ _ _ rfl (hown2.alloc _) ⟨w2.heap.size, 0, none⟩ 1 1 [.int .i64 (t + 1 + g)] rfl rfl (cell_one_new _ _ _) (by simp [Value.oneCell']) (by unfold maxLen; omega) (by omega) (by have := hbel2.size; simp; omega) ?_; intro v' w3 hown3 hgrow3 _)
              have hb3 := (hbel2.alloc hbel2.size (.cells #[.int .i64 (t + 1 + g)] 3)).grown hgrow3 (by have := hbel2.size; simp; omega) (fun q e => (hown2.lt q e).1)
              obtain ⟨m1, m2, m3⟩ := HM.out
              refine ⟨⟨j + 1 + 1, _, by go_num, by rw [m2], m1, ?_, hb3⟩, by simp [intOf]; omega⟩
              rw [m3]
              simpa using hown3
          · have HD : Hid _ := had_over hg.out HH.out hlt hg2.out (by omega)
            cases k with
            | zero =>
              exfalso
              have hp0 : pre = [] := List.length_eq_zero_iff.1 hpl
              rw [hp0] at hov
              apply hov
              show (-1 : Int) + 1 + g ≤ _
              omega
            | succ j =>
              have hlow := had_low HH.out
              obtain ⟨gb, cap, rfl⟩ := ownsRow_succ hown2
              have hcj := hown2.cellAt j (by omega)
              rw [List.getElem?_map, nums_last (-1) pre j hpl] at hcj
              simp only [Option.map_some] at hcj
              generalize Gp.top (-1) pre = t at *
              generalize Gp.place x pre = p at *
              go_wp2
              go_ret3
              exact ⟨_, _, _, rfl, by rw [HD.out]; exact ⟨rfl, rfl, rfl⟩, hbel2⟩
      · obtain rfl : k = c := by omega
        have HD : Hid _ := had_end hg.out HH.out
        go_wp2
        go_ret3
        exact ⟨_, _, _, rfl, by rw [HD.out]; exact ⟨⟨_, hown⟩, rfl, rfl⟩, hbel⟩

theorem rdecode_any (s : ByteArray) (i : Int) (w : World) (hs : s.size ≤ 1000000000000) :
    Calls Try.prog 25 #[.string s, .int .i64 i] w fun e w' => ∃ v n er, e = .returned (.tuple #[v, .int .i64 n, .int .i64 er]) ∧ Told w' (Gp.dec s.data.toList i) v n er ∧ Below w.heap.size w w' :=
  (rdecode_own s i w hs).mono fun _ _ ⟨v, n, er, he, ht, hb⟩ => ⟨v, n, er, he, ht.told, hb⟩

end Go.Proofs.Ytmekaofjcjmklaa
