/- The walks of the document's own Put and Flip. -/
import Derived.Test.YtnlhgcpmmcmknaaFRef4
namespace Go.Proofs.Ytnlhgcpmmcmknaa
open Go.RowKit Go.Maps

theorem own_some {w : World} {base n : Nat} {e : TypeId} {v : Value} {xs : List Value} (h : w.ownsRow base e 1 v n xs) (hn : 0 < n) : ∃ g cap, v = .slice (some ⟨g, 0, none⟩) n cap ∧ base ≤ g := by
  rcases h.2 with ⟨_, h0⟩ | ⟨g, cap, cur, e, hb, _⟩
  · omega
  · exact ⟨g, cap, e, hb⟩

theorem row_base {w : World} {base base' n : Nat} {e : TypeId} {v : Value} {xs : List Value} (h : w.ownsRow base e 1 v n xs) (hb : base' ≤ base) : w.ownsRow base' e 1 v n xs := by
  refine ⟨h.1, h.2.imp id ?_⟩
  rintro ⟨g, cap, cur, e, hg, h⟩
  exact ⟨g, cap, cur, e, Nat.le_trans hb hg, h⟩

theorem set_some {fs : Fi.Files} {n : ByteArray} {l : List ByteArray} (h : l ≠ []) : Fi.set fs n l = Fi.put fs n l := by rw [Fi.set, if_neg h]

/-- A copy of what is kept, one page in it another one. -/
theorem kept_put {ok : Nat → Prop} {r : Nat} {st : Fi.St} {n : ByteArray} {w : World} (hs : Ref w ok r st) (l : List ByteArray) (hl : l ≠ []) (hll : l.length ≤ 1000000) (hg : Fi.Good { st with fs := Fi.put st.fs n l }) (hok : ∀ i, w.heap.size ≤ i → ok i) :
    ∀ W v', Below w.heap.size w W → W.ownsRow w.heap.size 9 1 v' l.length (scells l) → Calls Try.prog 73 #[.pointer (some ⟨r, 0, none⟩), .string n, v'] W fun e w' => e = .returned (.tuple #[]) ∧ Ref w' ok r { st with fs := Fi.put st.fs n l } ∧ Turn (fun i => i = r) w (fun i => i = r) w' := by
  intro W v' hb hv'
  refine (rset_ref n v' l W (hs.later hb) ((StrsIn.of_own hv').of_new hok) hll (fun i hi => hok i (Nat.le_trans hb.size hi)) (by rw [set_some hl]; exact hg)).mono ?_
  rintro e w' ⟨rfl, hr, ht⟩
  rw [set_some hl] at hr
  exact ⟨rfl, hr, (Turn.below (o := fun i => i = r) hb).trans ht⟩

theorem good_set {st : Fi.St} {n s : ByteArray} {k : Nat} (hg : Fi.Good st) (hk : k < (Fi.rows st.fs n).length) (hs : s.size = 128) : Fi.Good { st with fs := Fi.put st.fs n ((Fi.rows st.fs n).set k s) } := by
  obtain ⟨hnm, hps⟩ : Fi.isName n = true ∧ ∀ s ∈ Fi.rows st.fs n, s.size = 128 := by
    rcases hg.rows_each n with h3 | ⟨h3, _, h4⟩
    · rw [h3] at hk; simp at hk
    · exact ⟨h3, h4⟩
  refine Fi.good_put hg hnm (fun e => ?_) (fun t ht => ?_) (by rw [List.length_set]; have := hg.used; omega)
  · have := congrArg List.length e
    rw [List.length_set] at this
    simp at this
    rw [this] at hk; simp at hk
  · rcases List.mem_or_eq_of_mem_set ht with h2 | rfl
    · exact hps t h2
    · exact hs
theorem good_more {st : Fi.St} {n s : ByteArray} (hg : Fi.Good st) (hb : Fi.isName n = true) (hs : s.size = 128) (hr : ¬ st.room ≤ Fi.used st.fs) : Fi.Good { st with fs := Fi.put st.fs n (Fi.rows st.fs n ++ [s]) } := by
  refine Fi.good_put hg hb (by simp) (fun t ht => ?_) (by rw [List.length_append]; simp; omega)
  rcases List.mem_append.1 ht with h2 | h2
  · rcases hg.rows_each n with h3 | ⟨_, _, h3⟩
    · rw [h3] at h2; simp at h2
    · exact h3 t h2
  · rw [List.mem_singleton.1 h2]; exact hs

set_option maxRecDepth 100000 in
set_option maxHeartbeats 2000000 in
theorem rput_any {ok : Nat → Prop} {r : Nat} {st : Fi.St} (n : ByteArray) (i : Int) (s : ByteArray) (w : World) (hs : Ref w ok r st) (hn : n.size ≤ 9223372036854775807) (_ : s.size ≤ 9223372036854775807) (hok : ∀ i, w.heap.size ≤ i → ok i) :
    Calls Try.prog 68 #[.pointer (some ⟨r, 0, none⟩), .string n, .int .i64 i, .string s] w fun e w' => e = .returned (.int .i64 (Fi.putp st n i s).1) ∧ Ref w' ok r (Fi.putp st n i s).2 ∧ Turn (fun i => i = r) w (fun i => i = r) w' := by
  have HR : Hid (Calls _ _ _ _ _) := rrows_any n w hs
  have HNM : Hid (Calls _ _ _ _ _) := rname_any n w hn
  have HS : Hid (Ref _ _ _ _) := hs
  have HU : Hid (∀ x : Later w, Calls Try.prog 22 #[.pointer (some ⟨r, 0, none⟩)] x.world fun e w' => e = .returned (.int .i64 (Fi.used st.fs)) ∧ w' = x.world) := fun x => rused_any x.world (hs.later x.below)
  have hg := hs.good
  have HD0 : Hid (∀ x : Later w, x.world.cell? ⟨r, 0, none⟩ = some (.int .i64 st.room)) := by
    obtain ⟨vL, T, h, _⟩ := hs
    exact Later.cell (h.cell 0)
  have hlen := hg.rows_le n
  have hroom := hg.room2
  have hused := hg.used
  have HK : Hid _ := fun l => kept_put (n := n) hs l
  have HOK : Hid (∀ i, w.heap.size ≤ i → ok i) := hok
  obtain ⟨i0, hti, hz0, hz1, hz2⟩ := info_parts Try.textInfo
  clear hs hok
  cases hb : Fi.isName n with
  | false =>
    rw [putp_arg (.inl hb)]
    rw [hb] at HNM
    clear hg
    generalize Fi.rows st.fs n = R at *
    generalize Fi.used st.fs = U at *
    go_enter Try.func68, Try.ntmps68
    go_wp2_with fail
    refine Calls.mono HR.out ?_
    rintro e w1 ⟨v, rfl, hv, rfl⟩
    obtain ⟨a, cap, rfl, _, _⟩ := hv
    go_wp2_with fail
    refine Calls.mono HNM.out ?_
    rintro e w1 ⟨rfl, rfl⟩
    go_wp2
    go_ret
    exact ⟨rfl, HS.out, Turn.below (Below.refl _ _)⟩
  | true =>
    rw [hb] at HNM
    by_cases hbad : i < 0 ∨ (Fi.rows st.fs n).length < i ∨ s.size ≠ 128
    · have HW : Hid (Fi.putp st n i s = (2, st)) := putp_arg (.inr (by rcases hbad with h | h | h; · exact .inl h
                                                                       · exact .inr (.inl h)
                                                                       · exact .inr (.inr (by unfold Fi.isPage; exact decide_eq_false h))))
      rw [HW.out]
      clear HW hg hb
      generalize Fi.rows st.fs n = R at *
      generalize Fi.used st.fs = U at *
      by_cases h0 : i < 0
      · clear hbad
        go_enter Try.func68, Try.ntmps68
        go_wp2_with fail
        refine Calls.mono HR.out ?_
        rintro e w1 ⟨v, rfl, hv, rfl⟩
        obtain ⟨a, cap, rfl, _, _⟩ := hv
        go_wp2_with fail
        refine Calls.mono HNM.out ?_
        rintro e w1 ⟨rfl, rfl⟩
        go_wp2
        go_ret
        exact ⟨rfl, HS.out, Turn.below (Below.refl _ _)⟩
      · by_cases h1 : (R.length : Int) < i
        · clear hbad
          go_enter Try.func68, Try.ntmps68
          go_wp2_with fail
          refine Calls.mono HR.out ?_
          rintro e w1 ⟨v, rfl, hv, rfl⟩
          obtain ⟨a, cap, rfl, _, _⟩ := hv
          go_wp2_with fail
          refine Calls.mono HNM.out ?_
          rintro e w1 ⟨rfl, rfl⟩
          go_wp2
          go_ret
          exact ⟨rfl, HS.out, Turn.below (Below.refl _ _)⟩
        · have h2 : ((s.size : Int) != 128) = true := by rw [bne_iff_ne]; omega
          clear hbad
          go_enter Try.func68, Try.ntmps68
          go_wp2_with fail
          refine Calls.mono HR.out ?_
          rintro e w1 ⟨v, rfl, hv, rfl⟩
          obtain ⟨a, cap, rfl, _, _⟩ := hv
          go_wp2_with fail
          refine Calls.mono HNM.out ?_
          rintro e w1 ⟨rfl, rfl⟩
          go_wp2
          go_ret
          exact ⟨rfl, HS.out, Turn.below (Below.refl _ _)⟩
    · obtain ⟨k, rfl⟩ : ∃ k : Nat, i = k := ⟨i.toNat, by omega⟩
      have h128 : s.size = 128 := by omega
      have hbq : ((s.size : Int) != 128) = false := by rw [h128]; rfl
      have hp : Fi.isPage s = true := Fi.isPage_iff.2 h128
      have hkle : k ≤ (Fi.rows st.fs n).length := by omega
      clear hbad
      by_cases hlt : k < (Fi.rows st.fs n).length
      · rw [putp_in hb hlt hp]
        have HK1 : Hid _ := HK.out ((Fi.rows st.fs n).set k s) (fun e => by have := congrArg List.length e; rw [List.length_set] at this; simp at this; rw [this] at hlt; simp at hlt) (by rw [List.length_set]; omega) (good_set hg hlt h128) HOK.out
        rw [List.length_set] at HK1
        have hkq : ((k : Int) == ((Fi.rows st.fs n).length : Int)) = false := by rw [beq_eq_false_iff_ne]; omega
        have hd0 : ∀ x : Later w, x.world.cell? ⟨r, 0, none⟩ = some (.int .i64 st.room) := HD0.out
        have hne := Later.some w
        clear hb hp hg HK h128
        generalize Fi.rows st.fs n = R at *
        generalize Fi.used st.fs = U at *
        go_enter Try.func68, Try.ntmps68
        go_wp2_with fail
        refine Calls.mono HR.out ?_
        rintro e w1 ⟨v, rfl, hv, rfl⟩
        have HV : Hid (Strs w1 v R) := hv.strs
        obtain ⟨a, cap, rfl, _, _⟩ := hv
        go_wp2_with fail
        refine Calls.mono HNM.out ?_
        rintro e w1 ⟨rfl, rfl⟩
        go_wp2_with fail
        refine wp_region_later (by kernel_rfl) (by kernel_rfl) ?_
        repeat (go_big_quiet_step ((go_at_call 22; exact Later.same (HU.out _))))
        refine wpQuiet_nil ?_
        intro w2 hw2
        obtain ⟨⟨w2, hb2⟩, rfl⟩ := hw2
        have HB2 : Hid (Below _ _ _) := hb2
        have HV2 : Hid (Strs w2 _ R) := HV.out.later hb2
        clear hb2 hd0 hne HV HR HNM HU HS
        go_wp2_with (at_builtin; refine wpList_copy_strs rfl _ _ 78 rfl 9 i0 Try.underlying78 hti hz0 hz1 hz2 rfl _ rfl R HV2.out (by omega) ?_)
        intro v3 w3 hown3 hb3
        obtain ⟨g, cap3, rfl, hbg⟩ := own_some hown3 (by omega)
        have HB3 : Hid (Below w1.heap.size w1 w3) := bnext HB2.out hb3
        have hs12 := HB2.out.size
        have c1 := hown3.cellAt k (by omega)
        rw [scells_get _ k hlt] at c1
        have f1 := hown3.frozenAt k
        have hst := (hown3.stored k (.string s)).1
        rw [scells_set] at hst
        have HC : Hid (Calls _ _ _ _ _) := HK1.out _ _ (HB3.out.setCell (p := ⟨g, k, none⟩) (Nat.le_trans hs12 hbg) (.string s)) (row_base hst hs12)
        clear hst hown3 hb3 HK1 hs12 hbg
        generalize R.getD k ByteArray.empty = z at *
        go_wp2_with fail
        refine Calls.mono HC.out ?_
        rintro e w4 ⟨rfl, hr4, ht4⟩
        have H4 : Hid (_ ∧ _) := And.intro hr4 ht4
        clear hr4 ht4 HC
        go_wp2
        go_ret
        exact ⟨rfl, H4.out⟩
      · have hke : k = (Fi.rows st.fs n).length := by omega
        clear hkle hlt
        have hd0 : ∀ x : Later w, x.world.cell? ⟨r, 0, none⟩ = some (.int .i64 st.room) := HD0.out
        have hne := Later.some w
        by_cases hrm : st.room ≤ Fi.used st.fs
        · rw [putp_room hb hke hp hrm]
          clear hb hp hg HK h128
          generalize Fi.rows st.fs n = R at *
          generalize Fi.used st.fs = U at *
          subst hke
          go_enter Try.func68, Try.ntmps68
          go_wp2_with fail
          refine Calls.mono HR.out ?_
          rintro e w1 ⟨v, rfl, hv, rfl⟩
          obtain ⟨a, cap, rfl, _, _⟩ := hv
          go_wp2_with fail
          refine Calls.mono HNM.out ?_
          rintro e w1 ⟨rfl, rfl⟩
          go_wp2_with fail
          refine wp_region_later (by kernel_rfl) (by kernel_rfl) ?_
          repeat (go_big_quiet_step ((go_at_call 22; exact Later.same (HU.out _))))
          refine wpQuiet_nil ?_
          intro w2 hw2
          obtain ⟨⟨w2, hb2⟩, rfl⟩ := hw2
          have H2 : Hid (_ ∧ _) := And.intro (HS.out.later hb2) (Turn.below (o := fun i => i = r) hb2)
          clear hb2 hd0 hne
          go_wp2
          go_ret
          exact ⟨rfl, H2.out⟩
        · rw [putp_on hb hke hp hrm]
          have HK1 : Hid _ := HK.out (Fi.rows st.fs n ++ [s]) (by simp) (by rw [List.length_append]; simp; omega) (good_more hg hb h128 hrm) HOK.out
          have hkq : ((k : Int) == ((Fi.rows st.fs n).length : Int)) = true := by rw [beq_iff_eq]; omega
          clear hb hp hg HK h128
          generalize Fi.rows st.fs n = R at *
          generalize Fi.used st.fs = U at *
          subst hke
          go_enter Try.func68, Try.ntmps68
          go_wp2_with fail
          refine Calls.mono HR.out ?_
          rintro e w1 ⟨v, rfl, hv, rfl⟩
          have HV : Hid (Strs w1 v R) := hv.strs
          obtain ⟨a, cap, rfl, _, _⟩ := hv
          go_wp2_with fail
          refine Calls.mono HNM.out ?_
          rintro e w1 ⟨rfl, rfl⟩
          go_wp2_with fail
          refine wp_region_later (by kernel_rfl) (by kernel_rfl) ?_
          repeat (go_big_quiet_step ((go_at_call 22; exact Later.same (HU.out _))))
          refine wpQuiet_nil ?_
          intro w2 hw2
          obtain ⟨⟨w2, hb2⟩, rfl⟩ := hw2
          have HB2 : Hid (Below _ _ _) := hb2
          have HV2 : Hid (Strs w2 _ R) := HV.out.later hb2
          clear hb2 hd0 hne HV HR HNM HU HS
          go_wp2_with (at_builtin; refine wpList_copy_strs rfl _ _ 78 rfl 9 i0 Try.underlying78 hti hz0 hz1 hz2 rfl _ rfl R HV2.out (by omega) ?_)
          intro v3 w3 hown3 hb3
          have HB3 : Hid (Below w1.heap.size w1 w3) := bnext HB2.out hb3
          have HR3 : Hid (World.ownsRow _ _ _ _ _ _ _) := hown3
          have hsz3 := hb3.size
          have HBB : Hid (Below w2.heap.size w2 w3) := hb3
          clear hown3 hb3
          obtain ⟨a3, cap3, rfl⟩ : ∃ a3 cap3, v3 = .slice a3 R.length cap3 := by
            rcases HR3.out.2 with ⟨e, h0⟩ | ⟨g, cap, cur, e, _⟩
            · exact ⟨none, 0, by rw [e, h0]⟩
            · exact ⟨_, _, e⟩
          go_wp2_with (at_builtin; refine wpList_append_lies _ rfl _ _ 78 rfl w2.heap.size 9 i0 (.string ⟨#[]⟩) 1 16 Try.underlying78 hti hz0 hz1 hz2 rfl (by omega) _ R.length (scells R) rfl (HR3.out.alloc _) ⟨w3.heap.size, 0, none⟩ 1 1 [.string s] rfl rfl (World.news_of_block (cs := #[.string s]) (t := 9) (fr := (0, 0)) (heap_alloc_new w3 _)) (by simp [Value.oneCell']) (by omega) (by unfold maxLen; omega) (by omega) (by simp; omega) _ rfl ?_)
          intro g4 cap4 w4 hown4 hgrow4 hat4 hlt4
          have hown4 : w4.ownsRow w2.heap.size 9 1 (.slice (some ⟨g4, 0, none⟩) (R.length + 1) cap4) (R.length + 1) (scells (R ++ [s])) := by rw [← scells_snoc]; exact hown4
          have hba : Below w2.heap.size w2 (w3.alloc (.cells #[.string s] 9)) := HBB.out.alloc hsz3 _
          have hb4 : Below w2.heap.size w2 w4 := hba.grown hgrow4 (by simp; omega) (fun k hk => (HR3.out.lt k hk).1)
          have hbg : w2.heap.size ≤ g4 := by
            rcases hown4.2 with ⟨e, h0⟩ | ⟨g, cap, cur, e, hb, _⟩
            · omega
            · simp at e; omega
          have HB4 : Hid (Below w1.heap.size w1 w4) := bnext HB2.out hb4
          have hs12 := HB2.out.size
          have c1 := hown4.cellAt R.length (by omega)
          rw [scells_get _ R.length (by simp)] at c1
          have f1 := hown4.frozenAt R.length
          have hst := (hown4.stored R.length (.string s)).1
          rw [scells_set] at hst
          have hse : (R ++ [s]).set R.length s = R ++ [s] := by rw [List.set_append_right _ _ (Nat.le_refl _)]; simp
          rw [hse] at hst
          have HC : Hid (Calls _ _ _ _ _) := HK1.out _ _ (HB4.out.setCell (p := ⟨g4, R.length, none⟩) (Nat.le_trans hs12 hbg) (.string s)) (by rw [List.length_append]; exact row_base hst hs12)
          clear hst hown4 hba hb4 hgrow4 hat4 hlt4 HK1 hs12 hbg hse HR3
          generalize (R ++ [s]).getD R.length ByteArray.empty = z at *
          go_wp2_with fail
          refine Calls.mono HC.out ?_
          rintro e w5 ⟨rfl, hr4, ht4⟩
          have H4 : Hid (_ ∧ _) := And.intro hr4 ht4
          clear hr4 ht4 HC
          go_wp2
          go_ret
          exact ⟨rfl, H4.out⟩

set_option maxRecDepth 100000 in
set_option maxHeartbeats 2000000 in
theorem rflip_any {ok : Nat → Prop} {r : Nat} {st : Fi.St} (n : ByteArray) (i k : Int) (x : UInt8) (w : World) (hs : Ref w ok r st) (hok : ∀ i, w.heap.size ≤ i → ok i) :
    Calls Try.prog 46 #[.pointer (some ⟨r, 0, none⟩), .string n, .int .i64 i, .int .i64 k, .int .u8 x.toNat] w fun e w' => e = .returned (.int .i64 (Fi.flip st n i k x).1) ∧ Ref w' ok r (Fi.flip st n i k x).2 ∧ Turn (fun i => i = r) w (fun i => i = r) w' := by
  have HR : Hid (Calls _ _ _ _ _) := rrows_any n w hs
  have HS : Hid (Ref _ _ _ _) := hs
  have hg := hs.good
  have hlen := hg.rows_le n
  have hroom := hg.room2
  have HK : Hid _ := fun l => kept_put (n := n) hs l
  have HOK : Hid (∀ i, w.heap.size ≤ i → ok i) := hok
  obtain ⟨i0, hti, hz0, hz1, hz2⟩ := info_parts Try.textInfo
  clear hs hok
  by_cases hno : i < 0 ∨ (Fi.rows st.fs n).length ≤ i
  · rw [flip_none (has_no hno)]
    clear hg
    generalize (x.toNat : Int) = X at *
    generalize Fi.rows st.fs n = R at *
    rcases hno with h0 | h0
    all_goals
      go_enter Try.func46, Try.ntmps46
      go_wp2_with fail
      refine Calls.mono HR.out ?_
      rintro e w1 ⟨v, rfl, hv, rfl⟩
      obtain ⟨a, cap, rfl, _, _⟩ := hv
      go_wp2
      go_ret
      exact ⟨rfl, HS.out, Turn.below (Below.refl _ _)⟩
  · obtain ⟨j, rfl⟩ : ∃ j : Nat, i = j := ⟨i.toNat, by omega⟩
    have hj : j < (Fi.rows st.fs n).length := by omega
    have hh : Fi.has st n j = true := Fi.has_iff.2 ⟨by omega, by omega⟩
    clear hno
    by_cases hk : k < 0 ∨ 128 ≤ k
    · rw [flip_arg hh hk]
      clear hg hh
      generalize (x.toNat : Int) = X at *
      generalize Fi.rows st.fs n = R at *
      rcases hk with h0 | h0
      all_goals
        go_enter Try.func46, Try.ntmps46
        go_wp2_with fail
        refine Calls.mono HR.out ?_
        rintro e w1 ⟨v, rfl, hv, rfl⟩
        obtain ⟨a, cap, rfl, _, _⟩ := hv
        go_wp2
        go_ret
        exact ⟨rfl, HS.out, Turn.below (Below.refl _ _)⟩
    · obtain ⟨m, rfl⟩ : ∃ m : Nat, k = m := ⟨k.toNat, by omega⟩
      have hm : m < 128 := by omega
      clear hk
      rw [flip_ok hh hm]
      have hpg : Fi.page st n j = (Fi.rows st.fs n).getD j ByteArray.empty := by show (Fi.rows st.fs n).getD (j : Int).toNat _ = _; rw [Int.toNat_natCast]
      have hsz : (Fi.page st n j).size = 128 := by
        have hpm : Fi.page st n j ∈ Fi.rows st.fs n := by
          rw [hpg, List.getD_eq_getElem?_getD, List.getElem?_eq_getElem hj]
          exact List.getElem_mem hj
        rcases hg.rows_each n with h3 | ⟨_, _, h4⟩
        · rw [h3] at hj; simp at hj
        · exact h4 _ hpm
      have HK1 : Hid _ := HK.out ((Fi.rows st.fs n).set j (Fi.turn (Fi.page st n j) m x)) (fun e => by have := congrArg List.length e; rw [List.length_set] at this; simp at this; rw [this] at hj; simp at hj) (by rw [List.length_set]; omega) (good_set hg hj (by rw [Fi.turn_size]; exact hsz)) HOK.out
      rw [List.length_set] at HK1
      -- the bytes, one of them turned over
      obtain ⟨cap2, W, hcv, hli, hbW⟩ := bytes_new w (Fi.page st n j)
      have hml : m < (Fi.page st n j).data.toList.length := by rw [size_list, hsz]; exact hm
      have c1 := hli.cell m hml
      have f1 := hli.free m hml
      have hx : bits .xor .u8 ((Fi.page st n j).data.toList[m].toNat : Int) (x.toNat : Int) = (((Fi.page st n j).data.toList[m] ^^^ x).toNat : Int) := by
        rw [UInt8.toNat_xor]
        exact u8_xor_nat _ _ (UInt8.toNat_lt _) (UInt8.toNat_lt _)
      have hst := hli.store m ((Fi.page st n j).data.toList[m] ^^^ x) hml
      have hbW2 : Below w.heap.size w (W.setCell ⟨w.heap.size, m, none⟩ (.int .u8 (((Fi.page st n j).data.toList[m] ^^^ x).toNat : Int))) := hbW.setCell (p := ⟨w.heap.size, m, none⟩) (Nat.le_refl _) _
      have ht := turn_list (Fi.page st n j) m x (by omega)
      have hll : ((Fi.page st n j).data.toList.set m ((Fi.page st n j).data.toList[m] ^^^ x)).length = 128 := by rw [List.length_set, size_list, hsz]
      have HCV : Hid (∀ W', Below (W.setCell ⟨w.heap.size, m, none⟩ (.int .u8 (((Fi.page st n j).data.toList[m] ^^^ x).toNat : Int))).heap.size (W.setCell ⟨w.heap.size, m, none⟩ (.int .u8 (((Fi.page st n j).data.toList[m] ^^^ x).toNat : Int))) W' → (convert 68 9 (.slice (some ⟨w.heap.size, 0, none⟩) 128 cap2)).run Try.prog W' = .ok (.string (Fi.turn (Fi.page st n j) m x)) W') := fun W' hb' => by
        rw [← ht]
        exact conv_lies (hst.later hb') cap2 hll
      rw [hsz] at hcv
      clear hst ht hll
      generalize (((Fi.page st n j).data.toList[m] ^^^ x).toNat : Int) = y at hx hbW2 HCV
      generalize ((Fi.page st n j).data.toList[m].toNat : Int) = z at hx c1
      generalize (x.toNat : Int) = X at hx ⊢
      obtain ⟨W2, HW2⟩ : ∃ W2, W.setCell ⟨w.heap.size, m, none⟩ (.int .u8 y) = W2 := ⟨_, rfl⟩
      rw [HW2] at hbW2 HCV
      have HBW : Hid (Below w.heap.size w W2) := hbW2
      have HPG : Hid (_ = _) := hpg
      clear hbW2 hli hbW hh hg HK hml hpg
      generalize Fi.turn (Fi.page st n j) m x = t at *
      generalize Fi.page st n j = s at *
      generalize Fi.rows st.fs n = R at *
      go_enter Try.func46, Try.ntmps46
      go_wp2_with fail
      refine Calls.mono HR.out ?_
      rintro e w1 ⟨v, rfl, hv, rfl⟩
      have HV : Hid (Strs w1 v R) := hv.strs
      obtain ⟨a, cap, rfl, _, hv⟩ := hv
      obtain ⟨b, off, rfl, hcs⟩ : ∃ b off, a = some ⟨b, off, none⟩ ∧ w1.cell? ⟨b, off + j, none⟩ = some (.string s) := by
        rcases hv with h | ⟨b, off, h, _, h2⟩
        · rw [h] at hj; simp at hj
        · exact ⟨b, off, h, by rw [HPG.out]; exact h2 j hj⟩
      have HV2 : Hid (Strs W2 _ R) := HV.out.later HBW.out
      clear hv HV HR HS HOK
      go_wp2_with (at_builtin; refine wpList_copy_strs rfl _ _ 78 rfl 9 i0 Try.underlying78 hti hz0 hz1 hz2 rfl _ rfl R HV2.out (by omega) ?_)
      intro v3 w3 hown3 hb3
      obtain ⟨g, cap3, rfl, hbg⟩ := own_some hown3 (by omega)
      have HB3 : Hid (Below w1.heap.size w1 w3) := bnext HBW.out hb3
      have hs12 := HBW.out.size
      have d1 := hown3.cellAt j (by omega)
      rw [scells_get _ j hj] at d1
      have f3 := hown3.frozenAt j
      have hst := (hown3.stored j (.string t)).1
      rw [scells_set] at hst
      have hcv3 := HCV.out w3 hb3
      have HC : Hid (Calls _ _ _ _ _) := HK1.out _ _ (HB3.out.setCell (p := ⟨g, j, none⟩) (Nat.le_trans hs12 hbg) (.string t)) (row_base hst hs12)
      clear hst hown3 hb3 HK1 hs12 hbg HCV hcv c1 f1 hx HW2
      generalize R.getD j ByteArray.empty = z at *
      go_wp2_with fail
      refine Calls.mono HC.out ?_
      rintro e w4 ⟨rfl, hr4, ht4⟩
      have H4 : Hid (_ ∧ _) := And.intro hr4 ht4
      clear hr4 ht4 HC
      go_wp2
      go_ret
      exact ⟨rfl, H4.out⟩

end Go.Proofs.Ytnlhgcpmmcmknaa
