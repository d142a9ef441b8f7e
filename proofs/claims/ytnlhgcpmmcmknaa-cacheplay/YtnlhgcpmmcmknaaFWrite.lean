/- The walk of files' Write. -/
import Derived.Test.YtnlhgcpmmcmknaaFStore
namespace Go.Proofs.Ytnlhgcpmmcmknaa
open Go.RowKit Go.Maps

theorem Try.textInfo : (Try.prog.info? 9).map (fun i => (i.zero, i.size, i.bytes)) = some (some (.string ⟨#[]⟩), 1, 16) := by kernel_rfl

theorem row_zero {W : World} {base e size : Nat} {v : Value} {n : Nat} {xs : List Value} (h : W.ownsRow base e size v n xs) : W.ownsRow 0 e size v n xs :=
  ⟨h.1, h.2.imp id fun ⟨g, cap, cur, a, _, c⟩ => ⟨g, cap, cur, a, Nat.zero_le _, c⟩⟩
theorem below_grown {W W' : World} (h : Below W.heap.size W W') (row : Option Nat) : W.grownBy W' row := ⟨h.os, h.tape, h.output, h.size, fun k hk _ => h.block k hk⟩

/-- What lies in the new row behind k rounds. -/
def fillS (l : List ByteArray) (k : Nat) : List ByteArray := l.take k ++ List.replicate (l.length - k) ⟨#[]⟩
theorem fillS_zero (l : List ByteArray) : fillS l 0 = List.replicate l.length ⟨#[]⟩ := by simp [fillS]
theorem fillS_full (l : List ByteArray) : fillS l l.length = l := by simp [fillS]
theorem fillS_length (l : List ByteArray) {k : Nat} (h : k ≤ l.length) : (fillS l k).length = l.length := by simp [fillS]; omega
theorem fillS_set (l : List ByteArray) (k : Nat) (h : k < l.length) : (fillS l k).set k (l.getD k ByteArray.empty) = fillS l (k + 1) := by
  unfold fillS
  have hk : (l.take k).length = k := by rw [List.length_take]; omega
  rw [List.set_append_right _ _ (by omega), hk, Nat.sub_self, take_succ l k h, show l.length - k = (l.length - (k + 1)) + 1 by omega, List.replicate_succ, List.set_cons_zero, List.append_assoc]
  rfl
theorem made_texts (n : Nat) : (madeCells #[Value.string ⟨#[]⟩] n).toList = scells (List.replicate n ⟨#[]⟩) := by
  rw [toList_madeCells_one]
  simp [scells]

theorem write_arg {st : Fi.St} {n : ByteArray} {l : List ByteArray} (h : Fi.isName n = false ∨ l.all Fi.isPage = false) : Fi.write st n l = (2, st) := by rw [Fi.write, if_pos h]
theorem write_room {st : Fi.St} {n : ByteArray} {l : List ByteArray} (h : Fi.isName n = true) (h2 : l.all Fi.isPage = true) (h3 : st.room < Fi.used st.fs - (Fi.rows st.fs n).length + l.length) : Fi.write st n l = (61, st) := by
  rw [Fi.write, if_neg (by simp [h, h2]), if_pos h3]
theorem write_ok {st : Fi.St} {n : ByteArray} {l : List ByteArray} (h : Fi.isName n = true) (h2 : l.all Fi.isPage = true) (h3 : ¬ st.room < Fi.used st.fs - (Fi.rows st.fs n).length + l.length) : Fi.write st n l = (0, { st with fs := Fi.set st.fs n l }) := by
  rw [Fi.write, if_neg (by simp [h, h2]), if_neg h3]

theorem name_bound {n : ByteArray} (h : Fi.isName n = true) : n.size ≤ 8 := by
  unfold Fi.isName at h
  simp at h
  exact h.1.2
theorem page_bound {l : List ByteArray} (h : l.all Fi.isPage = true) : ∀ s ∈ l, s.size = 128 := fun s hs => Fi.isPage_iff.1 (List.all_eq_true.1 h s hs)

set_option maxRecDepth 100000 in
set_option maxHeartbeats 4000000 in
theorem write_any {p : Nat} {o : Nat → Prop} {st : Fi.St} (n : ByteArray) (v : Value) (l : List ByteArray) (w : World) (hs : Sys w p o st) (hn : n.size ≤ maxLen) (hv : Strs w v l) (hl : l.length ≤ 1000000) :
    Calls Try.prog 34 #[.pointer (some ⟨p, 0, none⟩), .string n, v] w fun e w' => ∃ o', e = .returned (.int .i64 (Fi.write st n l).1) ∧ Sys w' p o' (Fi.write st n l).2 ∧ Turn o w o' w' := by
  have HNM : Hid (Calls _ _ _ _ _) := name_any n w (by unfold maxLen at hn; omega)
  have HCT : Hid (Calls _ _ _ _ _) := contains_any v l w hv (by omega)
  have HS : Hid (Sys _ _ _ _) := hs
  have HU : Hid (∀ x : Later w, Calls Try.prog 21 #[.pointer (some ⟨p, 0, none⟩)] x.world fun e w' => e = .returned (.int .i64 (Fi.used st.fs)) ∧ Below x.world.heap.size x.world w') := fun x => used_any x.world (hs.later x.below)
  obtain ⟨mb, T, h, hf, rfl, hg⟩ := hs
  have HI : Hid (Calls _ _ _ _ _) := isNone_sits w h
  have hv0 := hv
  obtain ⟨a, cap, rfl, hcap, hvs⟩ := hv
  cases hb : Fi.isName n with
  | false =>
    rw [write_arg (.inl hb)]
    rw [hb] at HNM
    clear h hf hvs hv0
    go_enter Try.func34, Try.ntmps34
    go_wp2_with fail
    refine Calls.mono HI.out ?_
    rintro e w1 ⟨rfl, rfl⟩
    go_wp2_with fail
    refine Calls.mono HNM.out ?_
    rintro e w1 ⟨rfl, rfl⟩
    go_wp2
    go_ret
    exact ⟨_, rfl, HS.out, Turn.below (Below.refl _ _)⟩
  | true =>
    rw [hb] at HNM
    cases hp : l.all Fi.isPage with
    | false =>
      rw [write_arg (.inr hp)]
      rw [hp] at HCT
      clear h hf hvs hv0
      go_enter Try.func34, Try.ntmps34
      go_wp2_with fail
      refine Calls.mono HI.out ?_
      rintro e w1 ⟨rfl, rfl⟩
      go_wp2_with fail
      refine Calls.mono HNM.out ?_
      rintro e w1 ⟨rfl, rfl⟩
      go_wp2_with fail
      refine Calls.mono HCT.out ?_
      rintro e w1 ⟨rfl, rfl⟩
      go_wp2
      go_ret
      exact ⟨_, rfl, HS.out, Turn.below (Below.refl _ _)⟩
    | true =>
      rw [hp] at HCT
      obtain ⟨b0, cap0, hh, _⟩ := h.slice n
      rw [hf] at hh
      have hd0 := Later.cell h.cell0
      have hd1 := Later.cell h.cell1
      have hlk : ∀ x : Later w, (Instr.lookup 71 (.map (some mb)) (.string n) false).run Try.prog x.world = .ok (.slice b0 (Fi.rows st.fs n).length cap0) x.world := fun x => by rw [← hh]; exact (h.later x.below).look hn
      have hne := Later.some w
      have hru := Fi.rows_le hg.sorted n
      have hu1 := hg.used
      have hu2 := hg.room2
      have hkey := key_of hn
      have HH : Hid (Sits _ _ _ _ _ _) := h
      by_cases hrm : st.room < Fi.used st.fs - (Fi.rows st.fs n).length + l.length
      · rw [write_room hb hp hrm]
        clear h hf hvs hv0 hb hp hh hcap
        generalize (Fi.rows st.fs n).length = k at *
        generalize Fi.used st.fs = U at *
        generalize hlen : l.length = m at *
        go_enter Try.func34, Try.ntmps34
        go_wp2_with fail
        refine Calls.mono HI.out ?_
        rintro e w1 ⟨rfl, rfl⟩
        go_wp2_with fail
        refine Calls.mono HNM.out ?_
        rintro e w1 ⟨rfl, rfl⟩
        go_wp2_with fail
        refine Calls.mono HCT.out ?_
        rintro e w1 ⟨rfl, rfl⟩
        go_wp2_with fail
        refine wp_region_later (by kernel_rfl) (by kernel_rfl) ?_
        repeat (go_big_quiet_step ((go_at_call 21; exact Later.made (HU.out _))))
        refine wpQuiet_nil ?_
        intro w2 hw2
        obtain ⟨⟨w2, hb2⟩, rfl⟩ := hw2
        have HB2 : Hid (Below _ _ _) := hb2
        have HS2 : Hid (Sys _ _ _ _) := HS.out.later hb2
        clear hb2 hlk hd0 hd1 hne
        go_wp2
        go_ret
        exact ⟨_, rfl, HS2.out, Turn.below HB2.out⟩
      · rw [write_ok hb hp hrm]
        have HN8 : Hid (n.size ≤ 8) := name_bound hb
        have HPB : Hid (∀ s ∈ l, s.size = 128) := page_bound hp
        by_cases hl0 : l = []
        · have HG : Hid (Fi.Good { st with fs := Fi.del st.fs n }) := Fi.good_del hg n
          have e : Fi.set st.fs n l = Fi.del st.fs n := by rw [Fi.set, if_pos hl0]
          rw [e]
          subst hl0
          clear h hvs hv0 hb hp hh hcap
          simp only [List.length_nil] at hrm
          generalize (Fi.rows st.fs n).length = k at *
          generalize Fi.used st.fs = U at *
          go_enter Try.func34, Try.ntmps34
          go_wp2_with fail
          refine Calls.mono HI.out ?_
          rintro e w1 ⟨rfl, rfl⟩
          go_wp2_with fail
          refine Calls.mono HNM.out ?_
          rintro e w1 ⟨rfl, rfl⟩
          go_wp2_with fail
          refine Calls.mono HCT.out ?_
          rintro e w1 ⟨rfl, rfl⟩
          go_wp2_with fail
          refine wp_region_later (by kernel_rfl) (by kernel_rfl) ?_
          repeat (go_big_quiet_step ((go_at_call 21; exact Later.made (HU.out _))))
          refine wpQuiet_nil ?_
          intro w2 hw2
          obtain ⟨⟨w2, hb2⟩, rfl⟩ := hw2
          have HB2 : Hid (Below _ _ _) := hb2
          have HH2 : Hid (Sits _ _ _ _ _ _) := HH.out.later hb2
          have hc1 := HH2.out.cell1
          have hown := HH2.out.map
          clear hb2 hlk hd0 hd1 hne
          go_wp2_with (first | (at_delete; refine wpList_delete_own _ rfl _ _ 71 9 rfl 78 Try.keyed Try.underlying71 _ mb T.length _ rfl hown _ _ rfl hkey ?_; intro w3 hown2 hturn2))
          rw [Fi.ents_delete] at hown2
          have HD : Hid (_ ∧ _) := HH2.out.drop hown2 hturn2
          clear hown2 hturn2 hown
          go_wp2
          go_ret
          exact ⟨_, rfl, ⟨mb, Fi.del T n, HD.out.1, by rw [files_del, hf], rfl, HG.out⟩, (Turn.below HB2.out).trans HD.out.2⟩
        · have hpos : 0 < l.length := List.length_pos_iff.2 hl0
          have HG : Hid (Fi.Good { st with fs := Fi.put st.fs n l }) := Fi.good_put hg hb hl0 HPB.out (by omega)
          have e : Fi.set st.fs n l = Fi.put st.fs n l := by rw [Fi.set, if_neg hl0]
          rw [e]
          obtain ⟨b, off, rfl, hvc⟩ : ∃ b off, a = some ⟨b, off, none⟩ ∧ ∀ j, j < l.length → w.cell? ⟨b, off + j, none⟩ = some (.string (l.getD j ByteArray.empty)) := by
            rcases hvs with h | h
            · exact absurd h hl0
            · exact h
          have HV : Hid (∀ W, Below w.heap.size w W → ∀ j, j < l.length → W.cell? ⟨b, off + j, none⟩ = some (.string (l.getD j ByteArray.empty))) := fun W hb j hj => cell_after hb (hvc j hj)
          have HCL : Hid (∀ W j, j < l.length → Calls Try.prog 55 #[.string (l.getD j ByteArray.empty)] W fun e w' => e = .returned (.string (l.getD j ByteArray.empty)) ∧ Below W.heap.size W w') := fun W j hj => by
            have := HPB.out (l.getD j ByteArray.empty) (by rw [List.getD_eq_getElem?_getD, List.getElem?_eq_getElem hj]; exact List.getElem_mem hj)
            exact clone_any _ W (by omega)
          have HCN : Hid (∀ W, Calls Try.prog 55 #[.string n] W fun e w' => e = .returned (.string n) ∧ Below W.heap.size W w') := fun W => clone_any n W (by have := HN8.out; omega)
          have HF : Hid _ := fillS_set l
          have HF0 : Hid _ := fillS_zero l
          have HF1 : Hid _ := fillS_full l
          have HFL : Hid (∀ k, k ≤ l.length → (fillS l k).length = l.length) := fun k hk => fillS_length l hk
          obtain ⟨i0, hi, hz0, hz1, hz2⟩ := info_parts Try.textInfo
          have hT4 : T.length ≤ 4096 := by
            have := hg.count
            rw [← hf] at this
            unfold filesOf at this
            rw [Fi.mapv_length] at this
            omega
          clear h hvs hv0 hb hp hh hcap hvc hl0 e HPB
          generalize (Fi.rows st.fs n).length = k at *
          generalize Fi.used st.fs = U at *
          generalize hm : l.length = m at *
          have HM : Hid (l.length = m) := hm
          clear hm
          have hle : ((m : Int) == 0) = false := by simp; omega
          go_enter Try.func34, Try.ntmps34
          go_wp2_with fail
          refine Calls.mono HI.out ?_
          rintro e w1 ⟨rfl, rfl⟩
          go_wp2_with fail
          refine Calls.mono HNM.out ?_
          rintro e w1 ⟨rfl, rfl⟩
          go_wp2_with fail
          refine Calls.mono HCT.out ?_
          rintro e w1 ⟨rfl, rfl⟩
          go_wp2_with fail
          refine wp_region_later (by kernel_rfl) (by kernel_rfl) ?_
          repeat (go_big_quiet_step ((go_at_call 21; exact Later.made (HU.out _))))
          refine wpQuiet_nil ?_
          intro w2 hw2
          obtain ⟨⟨w2, hb2⟩, rfl⟩ := hw2
          have HB2 : Hid (Below _ _ _) := hb2
          have HH2 : Hid (Sits _ _ _ _ _ _) := HH.out.later hb2
          clear hb2 hlk hd0 hd1 hne HU HNM HCT HI HS HH
          go_wp2_with (at_make; refine wpList_make_full _ rfl _ _ 78 rfl w2.heap.size 9 i0 (.string ⟨#[]⟩) 1 Try.underlying78 hi hz0 hz1 _ _ _ _ m rfl rfl rfl rfl ?b2 ?b3 ?b4 ?_)
          case b2 => rw [hz2]; omega
          case b3 => unfold maxLen; omega
          case b4 => omega
          intro w3 hown hgrow
          rw [made_texts, ← HF0.out] at hown
          have hbel : Below w2.heap.size w2 w3 := (Below.refl _ _).grown hgrow (Nat.le_refl _) (by simp)
          have R0 : Hid (_ ∧ _) := And.intro hown hbel
          clear hown hgrow hbel HF0 hi hz0 hz1 hz2
          go_wp2
          go_loopw [50] (fun c wr => ∃ j : Nat, j ≤ m ∧ c = .int .i64 j ∧ Hid (wr.ownsRow w2.heap.size 9 1 (.slice (some ⟨w2.heap.size, 0, none⟩) m m) m (scells (fillS l j)) ∧ Below w2.heap.size w2 wr)) (fun c _ => m - (intOf c).toNat)
          case atStart => exact ⟨0, by omega, rfl, R0⟩
          case round =>
            clear R0
            obtain ⟨j, hj, rfl, R⟩ := hrel
            by_cases hlt : j < m
            · have hbw : Below w1.heap.size w1 wr := bnext HB2.out R.out.2
              have hc := HV.out wr hbw j hlt
              have HC1 : Hid (Calls _ _ _ _ _) := HCL.out wr j hlt
              have HF2 : Hid _ := HF.out j hlt
              have HLj : Hid ((fillS l j).length = m) := HFL.out j hj
              generalize l.getD j ByteArray.empty = s at *
              go_wp2_with fail
              refine Calls.mono HC1.out ?_
              rintro e w4 ⟨rfl, hb4⟩
              have hown4 := row_after R.out.1 hb4
              have c1 := hown4.cellAt j (by omega)
              rw [scells_get _ j (by rw [HLj.out]; exact hlt)] at c1
              have f1 := hown4.frozenAt j
              have hst := (hown4.stored j (.string s)).1
              rw [scells_set, HF2.out] at hst
              have R2 : Hid (_ ∧ _) := And.intro hst ((bnext R.out.2 hb4).setCell (p := ⟨w2.heap.size, j, none⟩) (Nat.le_refl _) (.string s))
              clear hst hown4 hb4 HC1 HF2 hbw hc R
              go_wp2
              go_roundw
              case rel => exact ⟨j + 1, by omega, by go_num, R2⟩
              case measure => simp [intOf]; omega
            · obtain rfl : j = m := by omega
              have hrow := R.out.1
              have e : scells (fillS l j) = scells l := by rw [HF1.out]
              rw [e] at hrow
              have HROW : Hid (World.ownsRow _ _ _ _ _ _ _) := hrow
              have hcr := (HH2.out.later R.out.2).cell1
              clear hrow e HCL HF HF1 HFL HV
              go_wp2_with fail
              go_region_law
                (go_simp; go_at_call 55; refine (HCN.out _).mono ?_; rintro e w5 ⟨rfl, hb5⟩
                 have hb6 : Below w2.heap.size w2 w5 := bnext R.out.2.drew hb5
                 have HB6 : Hid (Below _ _ _) := hb6
                 have hS6 := HH2.out.later hb6
                 have hc6 := hS6.cell1
                 have HR6 : Hid (World.ownsRow _ _ _ _ _ _ _) := row_after HROW.out.drew hb5
                 obtain ⟨w6, hrun6, hown6, hturn6⟩ := hS6.map.store (val := .slice (some ⟨w2.heap.size, 0, none⟩) j j) (d := .held (.slice (some ⟨w2.heap.size, 0, none⟩) j j)) (ps := []) Try.keyed Try.underlying71 (by unfold maxLen; omega) hkey rfl
                 rw [Fi.ents_put] at hown6
                 have HO6 : Hid (World.ownsMap _ _ _ _ _ _ _) := hown6
                 have HT6 : Hid (World.mapTurned _ _ _) := hturn6
                 clear hb5 hb6 hS6 hown6 hturn6)
              all_goals
                go_wp2
                go_ret
                have hlen := HM.out
                subst hlen
                have hst := HH2.out.store (n := n) (row_zero HR6.out) (below_grown HB6.out _) (.inr (Nat.le_refl _)) HO6.out HT6.out.grown
                exact ⟨_, rfl, ⟨mb, _, hst.1, by rw [files_put, hf], rfl, HG.out⟩, (Turn.below HB2.out).trans hst.2⟩

end Go.Proofs.Ytnlhgcpmmcmknaa
