/- The walk of files' Put. -/
import Derived.Test.YtnlhgcpmmcmknaaFWrite
import Derived.Deep.AppendLies
namespace Go.Proofs.Ytnlhgcpmmcmknaa
open Go.RowKit Go.Maps

theorem putp_arg {st : Fi.St} {n : ByteArray} {i : Int} {s : ByteArray} (h : Fi.isName n = false ∨ i < 0 ∨ (Fi.rows st.fs n).length < i ∨ Fi.isPage s = false) : Fi.putp st n i s = (2, st) := by rw [Fi.putp, if_pos h]
theorem putp_in {st : Fi.St} {n : ByteArray} {k : Nat} {s : ByteArray} (h : Fi.isName n = true) (hk : k < (Fi.rows st.fs n).length) (hp : Fi.isPage s = true) : Fi.putp st n k s = (0, { st with fs := Fi.put st.fs n ((Fi.rows st.fs n).set k s) }) := by
  rw [Fi.putp, if_neg (by simp [h, hp]; omega), if_pos (by omega)]; rfl
theorem putp_room {st : Fi.St} {n : ByteArray} {k : Nat} {s : ByteArray} (h : Fi.isName n = true) (hk : k = (Fi.rows st.fs n).length) (hp : Fi.isPage s = true) (hr : st.room ≤ Fi.used st.fs) : Fi.putp st n k s = (61, st) := by
  rw [Fi.putp, if_neg (by simp [h, hp]; omega), if_neg (by omega), if_pos hr]
theorem putp_on {st : Fi.St} {n : ByteArray} {k : Nat} {s : ByteArray} (h : Fi.isName n = true) (hk : k = (Fi.rows st.fs n).length) (hp : Fi.isPage s = true) (hr : ¬ st.room ≤ Fi.used st.fs) : Fi.putp st n k s = (0, { st with fs := Fi.put st.fs n (Fi.rows st.fs n ++ [s]) }) := by
  rw [Fi.putp, if_neg (by simp [h, hp]; omega), if_neg (by omega), if_neg hr]

theorem Sits.owns {W : World} {p mb room : Nat} {ahead : Int} {T : Tab} (h : Sits W p mb room ahead T) (n : ByteArray) :
    W.ownsRow 0 9 1 (hdrAt T n) (Fi.rows (filesOf T) n).length (scells (Fi.rows (filesOf T) n)) := by
  rcases h.at n with ⟨_, h1, h2⟩ | ⟨g, cap, l, h0, h1, h2, h3⟩
  · rw [h1, h2]; exact World.ownsRow_nil _ _ _ _
  · rw [h1, h2]; exact h3

/-- The map's block is no file's row. -/
theorem Sits.mapApart {W : World} {p mb room : Nat} {ahead : Int} {T : Tab} (h : Sits W p mb room ahead T) (n : ByteArray) : some mb ≠ (hdrAt T n).ownBlock := by
  rcases h.at n with ⟨_, h1, _⟩ | ⟨g, cap, l, h0, h1, _, _⟩
  · rw [h1]; simp [Value.ownBlock]
  · obtain ⟨g', _, _, hv, _, _, hgm, _⟩ := h.rowAt (Fi.find_mem h0)
    rw [h1]
    simp at hv
    simp [Value.ownBlock]
    omega
theorem Sits.selfApart {W : World} {p mb room : Nat} {ahead : Int} {T : Tab} (h : Sits W p mb room ahead T) (n : ByteArray) : some p ≠ (hdrAt T n).ownBlock := by
  rcases h.at n with ⟨_, h1, _⟩ | ⟨g, cap, l, h0, h1, _, _⟩
  · rw [h1]; simp [Value.ownBlock]
  · obtain ⟨g', _, _, hv, _, hgp, _, _⟩ := h.rowAt (Fi.find_mem h0)
    rw [h1]
    simp at hv
    simp [Value.ownBlock]
    omega

set_option maxRecDepth 100000 in
set_option maxHeartbeats 4000000 in
theorem put_any {p : Nat} {o : Nat → Prop} {st : Fi.St} (n : ByteArray) (i : Int) (s : ByteArray) (w : World) (hs : Sys w p o st) (hn : n.size ≤ maxLen) :
    Calls Try.prog 33 #[.pointer (some ⟨p, 0, none⟩), .string n, .int .i64 i, .string s] w fun e w' => ∃ o', e = .returned (.int .i64 (Fi.putp st n i s).1) ∧ Sys w' p o' (Fi.putp st n i s).2 ∧ Turn o w o' w' := by
  have HNM : Hid (Calls _ _ _ _ _) := name_any n w (by unfold maxLen at hn; omega)
  have HPG : Hid (Calls _ _ _ _ _) := isNoPage_any s w
  have HS : Hid (Sys _ _ _ _) := hs
  have HU : Hid (∀ x : Later w, Calls Try.prog 21 #[.pointer (some ⟨p, 0, none⟩)] x.world fun e w' => e = .returned (.int .i64 (Fi.used st.fs)) ∧ Below x.world.heap.size x.world w') := fun x => used_any x.world (hs.later x.below)
  obtain ⟨mb, T, h, hf, rfl, hg⟩ := hs
  have HI : Hid (Calls _ _ _ _ _) := isNone_sits w h
  have hc := h.cell1
  have hl := h.look hn
  obtain ⟨a, cap, hh, hr⟩ := h.slice n
  have hrow := h.owns n
  have hma := h.mapApart n
  rw [hf] at hh hr hrow
  rw [hh] at hl hrow hma
  have hlen := hg.rows_le n
  have hroom := hg.room2
  have hused := hg.used
  have HH : Hid (Sits _ _ _ _ _ _) := h
  cases hb : Fi.isName n with
  | false =>
    rw [putp_arg (.inl hb)]
    rw [hb] at HNM
    clear h hf hr hrow hh hma
    generalize (Fi.rows st.fs n).length = k at *
    go_enter Try.func33, Try.ntmps33
    go_wp2_with fail
    refine Calls.mono HI.out ?_
    rintro e w1 ⟨rfl, rfl⟩
    go_wp2_with fail
    refine Calls.mono HNM.out ?_
    rintro e w1 ⟨rfl, rfl⟩
    go_wp2
    go_ret
    exact ⟨_, rfl, HS.out, Turn.below (Below.refl _ _)⟩
  | true =>
    rw [hb] at HNM
    by_cases h0 : i < 0
    · rw [putp_arg (.inr (.inl h0))]
      clear h hf hr hrow hh hma
      generalize (Fi.rows st.fs n).length = k at *
      go_enter Try.func33, Try.ntmps33
      go_wp2_with fail
      refine Calls.mono HI.out ?_
      rintro e w1 ⟨rfl, rfl⟩
      go_wp2_with fail
      refine Calls.mono HNM.out ?_
      rintro e w1 ⟨rfl, rfl⟩
      go_wp2
      go_ret
      exact ⟨_, rfl, HS.out, Turn.below (Below.refl _ _)⟩
    · by_cases h1 : (Fi.rows st.fs n).length < i
      · rw [putp_arg (.inr (.inr (.inl h1)))]
        clear h hf hr hrow hh hma
        generalize (Fi.rows st.fs n).length = k at *
        go_enter Try.func33, Try.ntmps33
        go_wp2_with fail
        refine Calls.mono HI.out ?_
        rintro e w1 ⟨rfl, rfl⟩
        go_wp2_with fail
        refine Calls.mono HNM.out ?_
        rintro e w1 ⟨rfl, rfl⟩
        go_wp2
        go_ret
        exact ⟨_, rfl, HS.out, Turn.below (Below.refl _ _)⟩
      · cases hp : Fi.isPage s with
        | false =>
          rw [putp_arg (.inr (.inr (.inr hp)))]
          rw [hp] at HPG
          clear h hf hr hrow hh hma
          generalize (Fi.rows st.fs n).length = k at *
          go_enter Try.func33, Try.ntmps33
          go_wp2_with fail
          refine Calls.mono HI.out ?_
          rintro e w1 ⟨rfl, rfl⟩
          go_wp2_with fail
          refine Calls.mono HNM.out ?_
          rintro e w1 ⟨rfl, rfl⟩
          go_wp2_with fail
          refine Calls.mono HPG.out ?_
          rintro e w1 ⟨rfl, rfl⟩
          go_wp2
          go_ret
          exact ⟨_, rfl, HS.out, Turn.below (Below.refl _ _)⟩
        | true =>
          rw [hp] at HPG
          obtain ⟨k, rfl⟩ : ∃ k : Nat, i = k := ⟨i.toNat, by omega⟩
          have hs128 := Fi.isPage_iff.1 hp
          have HCS : Hid (∀ W, Calls Try.prog 55 #[.string s] W fun e w' => e = .returned (.string s) ∧ Below W.heap.size W w') := fun W => clone_any s W (by omega)
          have HCN : Hid (∀ W, Calls Try.prog 55 #[.string n] W fun e w' => e = .returned (.string n) ∧ Below W.heap.size W w') := fun W => clone_any n W (by have := name_bound hb; omega)
          by_cases hlt : k < (Fi.rows st.fs n).length
          · rw [putp_in hb hlt hp]
            obtain ⟨g, rfl, hrow1, hfd⟩ : ∃ g, a = some ⟨g, 0, none⟩ ∧ w.ownsRow 0 9 1 (.slice (some ⟨g, 0, none⟩) (Fi.rows st.fs n).length cap) (Fi.rows st.fs n).length (scells (Fi.rows st.fs n)) ∧ Fi.find T n = some (.slice (some ⟨g, 0, none⟩) (Fi.rows st.fs n).length cap, Fi.rows st.fs n) := by
              rcases hr with hr | hr
              · rw [hr] at hlt; simp at hlt
              · exact hr
            have HROW : Hid (World.ownsRow _ _ _ _ _ _ _) := hrow1
            have HFD : Hid (_ = _) := hfd
            have HG : Hid (Fi.Good { st with fs := Fi.put st.fs n ((Fi.rows st.fs n).set k s) }) := by
              refine Fi.good_put hg hb (fun e => ?_) (fun t ht => ?_) (by rw [List.length_set]; omega)
              · have := congrArg List.length e
                rw [List.length_set] at this
                simp at this
                rw [this] at hlt; simp at hlt
              · rcases List.mem_or_eq_of_mem_set ht with h2 | rfl
                · rcases hg.rows_each n with h3 | ⟨_, _, h3⟩
                  · rw [h3] at h2; simp at h2
                  · exact h3 t h2
                · exact hs128
            have HT : Hid (Fi.Sorted T) := sorted_tab hf hg
            have HGL : Hid _ := scells_get (Fi.rows st.fs n) k hlt
            clear h hr hrow hh hma hrow1 hfd
            generalize hL : Fi.rows st.fs n = L at *
            clear hL
            generalize hm : L.length = m at *
            have HM : Hid (L.length = m) := hm
            clear hm
            go_enter Try.func33, Try.ntmps33
            go_wp2_with fail
            refine Calls.mono HI.out ?_
            rintro e w1 ⟨rfl, rfl⟩
            go_wp2_with fail
            refine Calls.mono HNM.out ?_
            rintro e w1 ⟨rfl, rfl⟩
            go_wp2_with fail
            refine Calls.mono HPG.out ?_
            rintro e w1 ⟨rfl, rfl⟩
            go_wp2_with fail
            refine (HCS.out _).mono ?_
            rintro e w2 ⟨rfl, hb2⟩
            have HB2 : Hid (Below _ _ _) := hb2
            have hrow2 := row_after HROW.out hb2
            have c1 := hrow2.cellAt k (by omega)
            rw [HGL.out] at c1
            have f1 := hrow2.frozenAt k
            have HP2 : Hid (_ ∧ _) := (HH.out.later hb2).page HT.out HFD.out (by rw [HM.out]) k s
            clear hb2 hrow2 hc hl
            go_wp2
            go_ret
            exact ⟨_, rfl, ⟨mb, _, HP2.out.1, by rw [files_put, hf], rfl, HG.out⟩, (Turn.below HB2.out).trans HP2.out.2⟩
          · have hke : k = (Fi.rows st.fs n).length := by omega
            have hd0 := Later.cell h.cell0
            have hne := Later.some w
            by_cases hrm : st.room ≤ Fi.used st.fs
            · rw [putp_room hb hke hp hrm]
              clear h hr hrow hh hma
              generalize (Fi.rows st.fs n).length = m at *
              generalize Fi.used st.fs = U at *
              subst hke
              go_enter Try.func33, Try.ntmps33
              go_wp2_with fail
              refine Calls.mono HI.out ?_
              rintro e w1 ⟨rfl, rfl⟩
              go_wp2_with fail
              refine Calls.mono HNM.out ?_
              rintro e w1 ⟨rfl, rfl⟩
              go_wp2_with fail
              refine Calls.mono HPG.out ?_
              rintro e w1 ⟨rfl, rfl⟩
              go_wp2_with fail
              refine wp_region_later (by kernel_rfl) (by kernel_rfl) ?_
              repeat (go_big_quiet_step ((go_at_call 21; exact Later.made (HU.out _))))
              refine wpQuiet_nil ?_
              intro w2 hw2
              obtain ⟨⟨w2, hb2⟩, rfl⟩ := hw2
              have HB2 : Hid (Below _ _ _) := hb2
              have HS2 : Hid (Sys _ _ _ _) := HS.out.later hb2
              clear hb2 hd0 hne
              go_wp2
              go_ret
              exact ⟨_, rfl, HS2.out, Turn.below HB2.out⟩
            · rw [putp_on hb hke hp hrm]
              have HG : Hid (Fi.Good { st with fs := Fi.put st.fs n (Fi.rows st.fs n ++ [s]) }) := by
                refine Fi.good_put hg hb (by simp) (fun t ht => ?_) (by rw [List.length_append]; simp; omega)
                rcases List.mem_append.1 ht with h2 | h2
                · rcases hg.rows_each n with h3 | ⟨_, _, h3⟩
                  · rw [h3] at h2; simp at h2
                  · exact h3 t h2
                · rw [List.mem_singleton.1 h2]; exact hs128
              have HROW : Hid (World.ownsRow _ _ _ _ _ _ _) := hrow
              have HMA : Hid (_ ≠ _) := hma
              have HSA : Hid (some p ≠ (Value.slice a (Fi.rows st.fs n).length cap).ownBlock) := by rw [← hh]; exact h.selfApart n
              have HHD : Hid (_ = _) := hh
              have hkey := key_of hn
              have hT4 : T.length ≤ 4096 := by
                have := hg.count
                rw [← hf] at this
                unfold filesOf at this
                rw [Fi.mapv_length] at this
                omega
              obtain ⟨i0, hi, hz0, hz1, hz2⟩ := info_parts Try.textInfo
              clear h hr hrow hh hma
              generalize hL : Fi.rows st.fs n = L at *
              clear hL
              subst hke
              generalize hm : L.length = m at *
              have HM : Hid (L.length = m) := hm
              clear hm
              generalize Fi.used st.fs = U at *
              go_enter Try.func33, Try.ntmps33
              go_wp2_with fail
              refine Calls.mono HI.out ?_
              rintro e w1 ⟨rfl, rfl⟩
              go_wp2_with fail
              refine Calls.mono HNM.out ?_
              rintro e w1 ⟨rfl, rfl⟩
              go_wp2_with fail
              refine Calls.mono HPG.out ?_
              rintro e w1 ⟨rfl, rfl⟩
              go_wp2_with fail
              refine wp_region_later (by kernel_rfl) (by kernel_rfl) ?_
              repeat (go_big_quiet_step ((go_at_call 21; exact Later.made (HU.out _))))
              refine wpQuiet_nil ?_
              intro w2 hw2
              obtain ⟨⟨w2, hb2⟩, rfl⟩ := hw2
              have HB2 : Hid (Below _ _ _) := hb2
              have HH2 : Hid (Sits _ _ _ _ _ _) := HH.out.later hb2
              have HROW2 : Hid (World.ownsRow _ _ _ _ _ _ _) := row_after HROW.out hb2
              have HBc : Hid (Below w2.heap.size w2 w2.drew) := (Below.refl _ w2).drew
              have hc2 := HH2.out.cell1
              clear hb2 hd0 hne hc hl HU HNM HPG HI HS HH HROW
              go_wp2_with fail
              go_region_law
                (first
                | (refine step_append_lies _ (by rfl) _ _ _ (by rfl) 0 9 i0 (.string ⟨#[]⟩) 1 16 Try.underlying78 hi hz0 hz1 hz2 rfl (by omega) (.slice a m cap) m (scells L) (by rfl) ((row_after HROW2.out HBc.out).alloc _)
                    ⟨wx.heap.size, 0, none⟩ 1 1 [.string s] (by rfl) (by rfl) (World.news_of_block (cs := #[.string s]) (t := 9) (fr := (0, 0)) (heap_alloc_new wx _)) (by simp [Value.oneCell'])
                    (by omega) (by unfold maxLen; omega) (by omega) (by omega) (wx.heap.size + 1) (by simp) ?_; intro g cap3 w3 hown3 hgrow3 hat3 hlt3
                   have hba : Below w2.heap.size w2 (wx.alloc (.cells #[.string s] 9)) := HBc.out.alloc HBc.out.size _
                   have HGR : Hid (w2.grownBy w3 (Value.slice a m cap).ownBlock) := (below_grown hba _).trans hgrow3
                   have hsz : w2.heap.size ≤ wx.heap.size := HBc.out.size
                   have HLOC : Hid ((Value.slice a m cap).ownBlock = some g ∨ w2.heap.size ≤ g) := hat3.imp id (fun e => by omega)
                   have HO3 : Hid (World.ownsRow _ _ _ _ _ _ _) := hown3
                   have hm3 := HH2.out.map.kept HGR.out HMA.out
                   have hc3 := HGR.out.cell hc2 HSA.out
                   obtain ⟨w6, hrun6, hown6, hturn6⟩ := hm3.store (val := .slice (some ⟨g, 0, none⟩) (m + 1) cap3) (d := .held (.slice (some ⟨g, 0, none⟩) (m + 1) cap3)) (ps := []) Try.keyed Try.underlying71 (by unfold maxLen; omega) hkey rfl
                   rw [Fi.ents_put] at hown6
                   have HO6 : Hid (World.ownsMap _ _ _ _ _ _ _) := hown6
                   have HT6 : Hid (World.mapTurned _ _ _) := hturn6
                   clear hown3 hgrow3 hat3 hlt3 hba hsz hm3 hown6 hturn6)
                | (go_simp; go_at_call 55; first | refine (HCN.out _).mono ?_ | refine (HCS.out _).mono ?_
                   rintro e wx ⟨rfl, hbx⟩
                   have HBc : Hid (Below w2.heap.size w2 wx) := bnext HBc.out hbx
                   have hcx := cell_after HBc.out hc2
                   have hca : (wx.alloc (.cells #[.string s] 9)).cell? ⟨p, 1, none⟩ = some (.map (some mb)) := cell_after (HBc.out.alloc HBc.out.size _) hc2
                   clear hbx))
              all_goals
                go_wp2
                go_ret
                have hlen := HM.out
                subst hlen
                have hl1 : L.length + 1 = (L ++ [s]).length := by simp
                have hrow9 := row_zero HO3.out
                rw [scells_snoc] at hrow9
                have hhd := HHD.out
                have hgr := HGR.out
                have hloc := HLOC.out
                rw [← hhd] at hgr hloc
                have ho6 := HO6.out
                rw [hl1] at hrow9 ho6
                have hst := HH2.out.store (n := n) hrow9 hgr hloc ho6 HT6.out.grown
                exact ⟨_, rfl, ⟨mb, _, hst.1, by rw [files_put, hf], rfl, HG.out⟩, (Turn.below HB2.out).trans hst.2⟩

end Go.Proofs.Ytnlhgcpmmcmknaa
