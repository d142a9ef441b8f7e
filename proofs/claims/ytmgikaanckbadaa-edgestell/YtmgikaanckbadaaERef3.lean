/- The document's own edges: the walks of Reverse and Degrees. -/
import Derived.Test.YtmgikaanckbadaaERef2
namespace Go.Proofs.Ytmgikaanckbadaa
open Go.RowKit Go.Shelf Go.Sort Go.Lib

set_option maxHeartbeats 2000000 in
set_option maxRecDepth 100000 in
theorem rreverse_any (v : Value) (l : List (Int × Int)) (w : World) (h : Edg w v l) (hl : l.length ≤ 1000000) :
    Calls Try.prog 17 #[v] w fun e w' => ∃ u, e = .returned u ∧ Edg w' u (Ed.rev l) ∧ Below w.heap.size w w' := by
  obtain ⟨a, cap, rfl, _, h⟩ := h
  have HE : Hid _ := h
  clear h
  go_enter Try.func17, Try.ntmps17
  go_wp2
  go_loopw [3, 4] (fun u i wr => ∃ k : Nat, k ≤ l.length ∧ i = .int .i64 k ∧ Hid (Held wr u (Ed.srt ((l.take k).map Ed.swap))) ∧ Hid (Below w.heap.size w wr)) (fun _ i _ => l.length - (intOf i).toNat)
  case atStart => exact ⟨0, Nat.zero_le _, rfl, .inl ⟨rfl, rfl⟩, Below.refl _ _⟩
  case round =>
    obtain ⟨k, hk, rfl, HH, HB⟩ := hrel
    by_cases hlt : k < l.length
    · obtain ⟨b, off, rfl, hc⟩ := HE.out.resolve_left (by rintro rfl; simp at hlt)
      have c1 := cell_after HB.out (hc k hlt).1
      have c2 := cell_after HB.out (hc k hlt).2
      clear hc
      have HT : Hid (Ed.srt ((l.take (k + 1)).map Ed.swap) = putE (Ed.srt ((l.take k).map Ed.swap)) (Ed.swap (l.getD k e0)) false) := by rw [Hid, take_succ_e l k hlt, List.map_append, ← srt_put]; rfl
      have HN : Hid ((Ed.srt ((l.take k).map Ed.swap)).length ≤ 1000000) := by rw [Hid, Ed.srt_len, List.length_map, List.length_take]; omega
      have HU : Hid (Ed.Up (Ed.srt ((l.take k).map Ed.swap))) := Ed.srt_up _
      generalize l.getD k e0 = p at *
      generalize Ed.srt ((l.take k).map Ed.swap) = L at *
      have HP : Hid (∀ W, Held W u3 L → Calls Try.prog 26 #[u3, .agg #[.int .i64 p.2, .int .i64 p.1], .bool false] W fun e w' => ∃ u, e = .returned u ∧ Held w' u (putE L (Ed.swap p) false) ∧ Below W.heap.size W w') := fun W hW => put_any u3 L (Ed.swap p) false W hW HU.out HN.out
      have hh : Held wr.drew u3 L := HH.out
      have hb0 : Below w.heap.size w wr.drew := HB.out.drew
      have c1d : wr.drew.cell? ⟨b, off + k * 2, none⟩ = some (.int .i64 p.1) := c1
      have c2d : wr.drew.cell? ⟨b, off + k * 2 + 1, none⟩ = some (.int .i64 p.2) := c2
      go_wp2_with fail
      go_region_held3 (fun W => W.cell? ⟨b, off + k * 2, none⟩ = some (.int .i64 p.1) ∧ W.cell? ⟨b, off + k * 2 + 1, none⟩ = some (.int .i64 p.2)) (first | exact ⟨by assumption, by assumption⟩ | go_keep)
        (first
        | (go_at_call 26; refine Calls.mono (HP.out _ (by assumption)) ?_; rintro e w' ⟨u, rfl, hh', hb'⟩; have c1' := cell_after hb' c1d; have c2' := cell_after hb' c2d)
        | fail)
      rw [← HT.out] at hh'
      have HH2 : Hid (Held w' u (Ed.srt ((l.take (k + 1)).map Ed.swap))) := hh'
      have HB2 : Hid (Below w.heap.size w w') := bnext hb0 hb'
      clear hh' hb' c1' c2' c1d c2d c1 c2 hh hb0
      go_wp2
      go_roundw
      case rel => exact ⟨k + 1, by omega, by go_num, HH2, HB2⟩
      case measure => simp [intOf]; omega
    · obtain rfl : k = l.length := by omega
      have HH1 : Hid (Edg wr u3 (Ed.rev l)) := by
        have h := HH.out
        rw [List.take_length] at h
        exact h.edg
      go_wp2
      go_ret
      exact ⟨_, rfl, HH1.out, HB.out⟩

theorem degs_no {n : Int} (h : Ed.many n = false) (L : List Int) : Ed.degs n L = [] := by unfold Ed.degs; rw [h]; rfl
theorem degs_yes {m : Nat} (h1 : 1 ≤ m) (h2 : m ≤ 256) (L : List Int) : Ed.degs m L = tall L m := by
  unfold Ed.degs
  rw [if_pos (by simp [Ed.many]; omega)]
  simp [tall]
theorem tall_snoc (L : List Int) (k : Nat) : tall L (k + 1) = tall L k ++ [Ed.cnt L k] := by
  unfold tall
  rw [List.range_succ, List.map_append]; rfl

set_option maxHeartbeats 4000000 in
set_option maxRecDepth 100000 in
theorem rdegrees_any (v : Value) (l : List (Int × Int)) (n : Int) (w : World) (h : Edg w v l) (hl : l.length ≤ 1000000) :
    Calls Try.prog 12 #[.int .i64 n, v] w fun e w' => ∃ u1 u2, e = .returned (.tuple #[u1, u2]) ∧ Ints w' u1 (Ed.degs n (l.map (·.1))) ∧ Ints w' u2 (Ed.degs n (l.map (·.2))) ∧ Below w.heap.size w w' := by
  obtain ⟨i0, hi0, hz0, hz1, hz2⟩ := info_parts Try.intInfo
  obtain ⟨a, cap, rfl, _, h⟩ := h
  have HE : Hid _ := h
  clear h
  by_cases h1 : n < 1
  · have HX : Hid (Ed.many n = false) := by rw [Hid]; unfold Ed.many; simp; omega
    go_enter Try.func12, Try.ntmps12
    go_wp2
    go_ret2
    rw [degs_no HX.out, degs_no HX.out]
    exact ⟨_, _, rfl, ints_nil _, ints_nil _, Below.refl _ _⟩
  · by_cases h2 : n > 256
    · have HX : Hid (Ed.many n = false) := by rw [Hid]; unfold Ed.many; simp; omega
      go_enter Try.func12, Try.ntmps12
      go_wp2
      go_ret2
      rw [degs_no HX.out, degs_no HX.out]
      exact ⟨_, _, rfl, ints_nil _, ints_nil _, Below.refl _ _⟩
    · obtain ⟨m, rfl⟩ : ∃ m : Nat, n = m := ⟨n.toNat, by omega⟩
      have hm1 : 1 ≤ m := by omega
      have hm2 : m ≤ 256 := by omega
      clear h1 h2
      go_enter Try.func12, Try.ntmps12
      go_wp2
      go_loopw [6, 7, 8] (fun u1 u2 i wr => ∃ k : Nat, k ≤ m ∧ i = .int .i64 k ∧ Hid (wr.ownsRow w.heap.size 3 1 u1 k ((tall (l.map (·.1)) k).map (Value.int .i64))) ∧ Hid (wr.ownsRow w.heap.size 3 1 u2 k ((tall (l.map (·.2)) k).map (Value.int .i64))) ∧ Hid (∀ g, u1.ownBlock = some g → u2.ownBlock ≠ some g) ∧ Hid (Below w.heap.size w wr)) (fun _ _ i _ => m - (intOf i).toNat)
      case atStart => exact ⟨0, Nat.zero_le _, rfl, World.ownsRow_nil _ _ _ _, World.ownsRow_nil _ _ _ _, (fun g h => by cases h), Below.refl _ _⟩
      case round =>
        obtain ⟨k, hk, rfl, HO1, HO2, HD, HB⟩ := hrel
        by_cases hlt : k < m
        · go_wp2_with fail
          go_loop [9, 10, 11] (fun a b i => ∃ j : Nat, j ≤ l.length ∧ i = .int .i64 j ∧ a = .int .i64 (Ed.cnt ((l.take j).map (·.1)) k) ∧ b = .int .i64 (Ed.cnt ((l.take j).map (·.2)) k)) (fun _ _ i => l.length - (intOf i).toNat)
          case atStart => exact ⟨0, Nat.zero_le _, rfl, rfl, rfl⟩
          case round =>
            obtain ⟨j, hj, rfl, rfl, rfl⟩ := hrel
            by_cases hjl : j < l.length
            · obtain ⟨b, off, rfl, hc⟩ := HE.out.resolve_left (by rintro rfl; simp at hjl)
              have c1 := cell_after HB.out (hc j hjl).1
              have c2 := cell_after HB.out (hc j hjl).2
              clear hc
              have HS1 : Hid (Ed.cnt ((l.take (j + 1)).map (·.1)) k = Ed.cnt ((l.take j).map (·.1)) k + if (l.getD j e0).1 = k then 1 else 0) := by
                rw [Hid, take_succ_e l j hjl, List.map_append]; exact cnt_snoc _ _ _
              have HS2 : Hid (Ed.cnt ((l.take (j + 1)).map (·.2)) k = Ed.cnt ((l.take j).map (·.2)) k + if (l.getD j e0).2 = k then 1 else 0) := by
                rw [Hid, take_succ_e l j hjl, List.map_append]; exact cnt_snoc _ _ _
              have q1 := cnt_le ((l.take j).map (·.1)) k
              have q2 := cnt_le ((l.take j).map (·.2)) k
              rw [List.length_map, List.length_take] at q1 q2
              generalize l.getD j e0 = p at *
              generalize Ed.cnt ((l.take j).map (·.1)) k = z1 at *
              generalize Ed.cnt ((l.take j).map (·.2)) k = z2 at *
              by_cases hp1 : p.1 = k
              · have g1 : (p.1 == (k : Int)) = true := by simpa using hp1
                have HT1 : Hid (Ed.cnt ((l.take (j + 1)).map (·.1)) k = z1 + 1) := by rw [Hid, HS1.out, if_pos hp1]
                clear hp1 HS1
                by_cases hp2 : p.2 = k
                · have g2 : (p.2 == (k : Int)) = true := by simpa using hp2
                  have HT2 : Hid (Ed.cnt ((l.take (j + 1)).map (·.2)) k = z2 + 1) := by rw [Hid, HS2.out, if_pos hp2]
                  clear hp2 HS2
                  go_wp2
                  go_round
                  case rel => exact ⟨j + 1, by omega, by go_num, by rw [HT1.out], by rw [HT2.out]⟩
                  case measure => simp [intOf]; omega
                · have g2 : (p.2 == (k : Int)) = false := by simpa using hp2
                  have HT2 : Hid (Ed.cnt ((l.take (j + 1)).map (·.2)) k = z2) := by rw [Hid, HS2.out, if_neg hp2, Int.add_zero]
                  clear hp2 HS2
                  go_wp2
                  go_round
                  case rel => exact ⟨j + 1, by omega, by go_num, by rw [HT1.out], by rw [HT2.out]⟩
                  case measure => simp [intOf]; omega
              · have g1 : (p.1 == (k : Int)) = false := by simpa using hp1
                have HT1 : Hid (Ed.cnt ((l.take (j + 1)).map (·.1)) k = z1) := by rw [Hid, HS1.out, if_neg hp1, Int.add_zero]
                clear hp1 HS1
                by_cases hp2 : p.2 = k
                · have g2 : (p.2 == (k : Int)) = true := by simpa using hp2
                  have HT2 : Hid (Ed.cnt ((l.take (j + 1)).map (·.2)) k = z2 + 1) := by rw [Hid, HS2.out, if_pos hp2]
                  clear hp2 HS2
                  go_wp2
                  go_round
                  case rel => exact ⟨j + 1, by omega, by go_num, by rw [HT1.out], by rw [HT2.out]⟩
                  case measure => simp [intOf]; omega
                · have g2 : (p.2 == (k : Int)) = false := by simpa using hp2
                  have HT2 : Hid (Ed.cnt ((l.take (j + 1)).map (·.2)) k = z2) := by rw [Hid, HS2.out, if_neg hp2, Int.add_zero]
                  clear hp2 HS2
                  go_wp2
                  go_round
                  case rel => exact ⟨j + 1, by omega, by go_num, by rw [HT1.out], by rw [HT2.out]⟩
                  case measure => simp [intOf]; omega
            · obtain rfl : j = l.length := by omega
              rw [List.take_length]
              have HT1 : Hid (tall (l.map (·.1)) (k + 1) = tall (l.map (·.1)) k ++ [Ed.cnt (l.map (·.1)) k]) := tall_snoc _ _
              have HT2 : Hid (tall (l.map (·.2)) (k + 1) = tall (l.map (·.2)) k ++ [Ed.cnt (l.map (·.2)) k]) := tall_snoc _ _
              generalize Ed.cnt (l.map (·.1)) k = z1 at *
              generalize Ed.cnt (l.map (·.2)) k = z2 at *
              go_wp2_with (at_builtin; refine wpList_append_lies _ rfl _ _ 29 rfl w.heap.size 3 i0 (.int .i64 0) 1 8 Try.underlying29 hi0 hz0 hz1 hz2 rfl (by decide) _ k ((tall (l.map (·.1)) k).map (Value.int .i64)) rfl (HO1.out.alloc _) ⟨wr.heap.size, 0, none⟩ 1 1 [.int .i64 z1] rfl rfl (cell_one_new _ _ _) (by simp [Value.oneCell']) (by decide) (by unfold maxLen; omega) (by omega) (by have := HB.out.size; simp; omega) _ rfl ?_)
              intro g1 cap1 w1 hown1 hgrow1 hat1 hlt1
              have HQ1 : Hid (w1.ownsRow w.heap.size 3 1 (.slice (some ⟨g1, 0, none⟩) (k + 1) cap1) (k + 1) ((tall (l.map (·.1)) (k + 1)).map (Value.int .i64))) := by
                rw [Hid, HT1.out, List.map_append]; exact hown1
              have HQ2 : Hid (w1.ownsRow w.heap.size 3 1 u7 k ((tall (l.map (·.2)) k).map (Value.int .i64))) := (HO2.out.alloc _).kept hgrow1 (by
                cases h7 : u7.ownBlock with
                | none => exact .inl rfl
                | some q => exact .inr fun e => HD.out q e.symm h7)
              have HD1 : Hid (u7.ownBlock ≠ some g1) := fun e => by
                rcases hat1 with h | h
                · exact HD.out g1 h e
                · have := (HO2.out.lt g1 e).2
                  omega
              have HB1 : Hid (Below w.heap.size w w1) := (HB.out.alloc HB.out.size _).grown hgrow1 (by have := HB.out.size; simp; omega) (fun q e => (HO1.out.lt q e).1)
              have HS1 : Hid (w.heap.size ≤ w1.heap.size) := HB1.out.size
              have HL1 : Hid (g1 < w1.heap.size) := hlt1
              clear hown1 hgrow1 hat1 hlt1 HO1 HO2 HD HB
              go_wp2_with (at_builtin; refine wpList_append_lies _ rfl _ _ 29 rfl w.heap.size 3 i0 (.int .i64 0) 1 8 Try.underlying29 hi0 hz0 hz1 hz2 rfl (by decide) _ k ((tall (l.map (·.2)) k).map (Value.int .i64)) rfl (HQ2.out.alloc _) ⟨w1.heap.size, 0, none⟩ 1 1 [.int .i64 z2] rfl rfl (cell_one_new _ _ _) (by simp [Value.oneCell']) (by decide) (by unfold maxLen; omega) (by omega) (by have := HS1.out; simp; omega) _ rfl ?_)
              intro g2 cap2 w2 hown2 hgrow2 hat2 hlt2
              have HR2 : Hid (w2.ownsRow w.heap.size 3 1 (.slice (some ⟨g2, 0, none⟩) (k + 1) cap2) (k + 1) ((tall (l.map (·.2)) (k + 1)).map (Value.int .i64))) := by
                rw [Hid, HT2.out, List.map_append]; exact hown2
              have HR1 : Hid (w2.ownsRow w.heap.size 3 1 (.slice (some ⟨g1, 0, none⟩) (k + 1) cap1) (k + 1) ((tall (l.map (·.1)) (k + 1)).map (Value.int .i64))) := (HQ1.out.alloc _).kept hgrow2 (.inr fun e => HD1.out e.symm)
              have HD2 : Hid (∀ q, (Value.slice (some ⟨g1, 0, none⟩) (k + 1) cap1).ownBlock = some q → (Value.slice (some ⟨g2, 0, none⟩) (k + 1) cap2).ownBlock ≠ some q) := fun q e1 e2 => by
                cases e1
                have hg : g2 = g1 := by simpa [Value.ownBlock] using e2
                rcases hat2 with h | h
                · rw [hg] at h; exact HD1.out h
                · have := HL1.out
                  omega
              have HB2 : Hid (Below w.heap.size w w2) := (HB1.out.alloc HS1.out _).grown hgrow2 (by have := HS1.out; simp; omega) (fun q e => (HQ2.out.lt q e).1)
              clear hown2 hgrow2 hat2 hlt2 HQ1 HQ2 HD1 HB1 HS1 HL1
              go_wp2
              go_roundw
              case rel => exact ⟨k + 1, by omega, by go_num, HR1, HR2, HD2, HB2⟩
              case measure => simp [intOf]; omega
        · obtain rfl : k = m := by omega
          have HI1 : Hid (Ints wr u6 (Ed.degs k (l.map (·.1)))) := by rw [Hid, degs_yes hm1 hm2]; exact Ints.of_own HO1.out
          have HI2 : Hid (Ints wr u7 (Ed.degs k (l.map (·.2)))) := by rw [Hid, degs_yes hm1 hm2]; exact Ints.of_own HO2.out
          go_wp2
          go_ret2
          exact ⟨_, _, rfl, HI1.out, HI2.out, HB.out⟩

end Go.Proofs.Ytmgikaanckbadaa
