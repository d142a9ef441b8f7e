/- THE STATEMENT ShardsNone: of what is no part Make tells the empty shard; Encode tells no error just where Check tells none, and then bytes, else none and ErrArg. For every part and shard; of a shard of more than 300 lists, 300 numbers in one or 5000 in all nothing is asked. -/
import Derived.Test.YtbhngncnhabbkabHOpen
namespace Go.Proofs.Ytbhngncnhabbkab
open Go.ChangeShapes Go.WideShapes Go.ChangeAt Go.RowKit

set_option maxHeartbeats 4000000 in
set_option maxRecDepth 100000 in
theorem shardsNone_walk (q : Int × Int) (s : Sh.Shard) (u : Value) (w : World) (hq1 : -9223372036854775808 ≤ q.1 ∧ q.1 ≤ 9223372036854775807) (hq2 : -9223372036854775808 ≤ q.2 ∧ q.2 ≤ 9223372036854775807)
    (hu : Lists w u s.2) (hok : OkO s.2) (hs1 : -9223372036854775808 ≤ s.1.1 ∧ s.1.1 ≤ 9223372036854775807) (hs2 : -9223372036854775808 ≤ s.1.2 ∧ s.1.2 ≤ 9223372036854775807) :
    Calls Try.prog 3 #[.agg #[.int .i64 q.1, .int .i64 q.2], .agg (scells s u)] w fun e w' => e = .returned (.bool true) ∧ Below w.heap.size w w' := by
  obtain ⟨q1, q2⟩ := q
  obtain ⟨⟨p1, p2⟩, o⟩ := s
  dsimp only at hq1 hq2 hu hok hs1 hs2 ⊢
  obtain ⟨wa, hwa⟩ : ∃ wa, w.alloc (.cells #[.int .i64 q1, .int .i64 q2] 23) = wa := ⟨_, rfl⟩
  obtain ⟨ua, uc, rfl, _, _⟩ := id hu
  obtain ⟨wb, hwb⟩ : ∃ wb, wa.alloc (.cells #[.int .i64 p1, .int .i64 p2, .slice ua o.length uc] 26) = wb := ⟨_, rfl⟩
  have hba : Below w.heap.size w wa := by rw [← hwa]; exact (Below.refl _ w).alloc (Nat.le_refl _) _
  have hab : Below wa.heap.size wa wb := by rw [← hwb]; exact (Below.refl _ wa).alloc (Nat.le_refl _) _
  have HP : Hid (wb.heap[w.heap.size]? = some (.cells #[.int .i64 q1, .int .i64 q2] 23 (0, 0))) := by
    rw [Hid, hab.block _ (by rw [← hwa]; simp), ← hwa]; exact heap_alloc_new _ _
  have HS : Hid (wb.heap[wa.heap.size]? = some (.cells #[.int .i64 p1, .int .i64 p2, .slice ua o.length uc] 26 (0, 0))) := by rw [Hid, ← hwb]; exact heap_alloc_new _ _
  have HB : Hid (Below w.heap.size w wb) := bnext hba hab
  have HU : Hid (Lists wb (.slice ua o.length uc) o) := hu.later HB.out
  have HGR := great_any ((p1, p2), o) (.slice ua o.length uc) wb HU.out hok.1 (fun l hl => (hok.2 l hl).1)
  have HDO : Hid (∀ W, Calls Try.prog 9 #[] W fun e w' => e = .returned (.bool true) ∧ Below W.heap.size W w') := fun W => sdoes_any W
  unfold scells at HGR ⊢
  dsimp only at HGR ⊢
  obtain ⟨s0, s1, s2, _, _, _⟩ := three_cells HS.out
  clear hu hba hab
  cases hg : gr o with
  | true =>
    rw [hg] at HGR
    replace HGR : Hid _ := HGR
    clear hg
    go_enter Try.func3, Try.ntmps3
    go_wp2_with fail
    refine Calls.mono HGR.out ?_
    rintro e w1 ⟨rfl, hb1⟩
    have HB1 : Hid (Below w.heap.size w w1) := bnext HB.out hb1
    clear hb1
    go_wp2
    go_ret
    exact ⟨rfl, HB1.out⟩
  | false =>
    rw [hg] at HGR
    have hless := gr_iff.1 hg
    have hfit : FitS o := ⟨by have := hless.1; omega, fun l hl => ⟨by have := hless.2.2 l hl; omega, (hok.2 l hl).2⟩⟩
    have HEN : Hid (∀ W u, Lists W u o → Calls Try.prog 7 #[.agg #[.int .i64 p1, .int .i64 p2, u]] W fun e w' => e = .returned (.tuple #[.string ⟨(Sh.encS ((p1, p2), o)).toArray⟩, .int .i64 (Sh.chk ((p1, p2), o))]) ∧ Below W.heap.size W w') := fun W u h => senc_any ((p1, p2), o) u W h hfit ⟨hs1, hs2⟩
    have HCK : Hid (∀ W u, Lists W u o → Calls Try.prog 8 #[.agg #[.int .i64 p1, .int .i64 p2, u]] W fun e w' => e = .returned (.int .i64 (Sh.chk ((p1, p2), o))) ∧ Below W.heap.size W w') := fun W u h => schk_any ((p1, p2), o) u W h hfit ⟨hs1, hs2⟩
    have HSM : Hid (∀ W u v, Lists W u [] → Lists W v [] → Calls Try.prog 5 #[.agg #[.int .i64 0, .int .i64 0, u], .agg #[.int .i64 0, .int .i64 0, v]] W fun e w' => e = .returned (.bool true) ∧ Below W.heap.size W w') := fun W u v h1 h2 => by
      have := ssame_any Sh.none_ Sh.none_ u v W h1 h2 (small_of none_fit) (small_of none_fit)
      rwa [decide_eq_true rfl] at this
    replace HGR : Hid _ := HGR
    clear hg hless hfit hok
    cases hm : Sh.mayP (q1, q2) with
    | true =>
      have hmp := Sh.mayP_iff.1 hm
      dsimp only at hmp
      obtain ⟨m1, m2, m3⟩ := hmp
      go_enter Try.func3, Try.ntmps3
      go_wp2_with fail
      refine Calls.mono HGR.out ?_
      rintro e wN ⟨rfl, hb1⟩
      obtain ⟨a0, a1, _, _⟩ := two_cells (blk_later HP.out hb1)
      replace HS : Hid _ := blk_later HS.out hb1
      replace HU : Hid (Lists wN (.slice ua o.length uc) o) := HU.out.later hb1
      replace HB : Hid (Below w.heap.size w wN) := bnext HB.out hb1
      clear hb1 HGR hm HP HSM
      have HEN2 := HEN.out wN _ HU.out
      obtain ⟨s0, s1, s2, _, _, _⟩ := three_cells HS.out
      cases hm : Sh.may ((p1, p2), o) with
      | true =>
        have HE : Hid ((ByteArray.toList ⟨(Sh.encS ((p1, p2), o)).toArray⟩).isEmpty = false) := by
          rw [ByteArray.toList_eq, Sh.encS_enc hm]
          have := (Sh.enc_len ((p1, p2), o)).1
          cases he : Sh.enc ((p1, p2), o) with
          | nil => rw [he] at this; simp at this
          | cons x l => rfl
        have he := HE.out
        rw [Sh.chk_yes hm] at HEN2
        have HCK2 : Hid (∀ W, Lists W (.slice ua o.length uc) o → Calls Try.prog 8 #[.agg #[.int .i64 p1, .int .i64 p2, .slice ua o.length uc]] W fun e w' => e = .returned (.int .i64 0) ∧ Below W.heap.size W w') := fun W h => by
          have := HCK.out W _ h
          rwa [Sh.chk_yes hm] at this
        generalize (⟨(Sh.encS ((p1, p2), o)).toArray⟩ : ByteArray) = b at *
        replace HEN2 : Hid _ := HEN2
        clear hm HEN HCK HE
        go_wp2_with fail
        refine Calls.mono HEN2.out ?_
        rintro e w3 ⟨rfl, hb3⟩
        obtain ⟨s0, s1, s2, _, _, _⟩ := three_cells (blk_later HS.out hb3)
        have HCK3 : Hid _ := HCK2.out w3 (HU.out.later hb3)
        have HB3 : Hid (Below w.heap.size w w3) := bnext HB.out hb3
        clear HEN2 hb3 HCK2 HU HS HB
        go_wp2_with fail
        refine Calls.mono HCK3.out ?_
        rintro e w4 ⟨rfl, hb4⟩
        have HB4 : Hid (Below w.heap.size w w4) := bnext HB3.out hb4
        clear hb4 HCK3
        go_wp2_with fail
        refine Calls.mono (HDO.out _) ?_
        rintro e w5 ⟨rfl, hb5⟩
        have HB5 : Hid (Below w.heap.size w w5) := bnext HB4.out hb5
        clear hb5
        go_wp2
        go_ret
        exact ⟨rfl, HB5.out⟩
      | false =>
        have hen : Sh.encS ((p1, p2), o) = [] := by unfold Sh.encS; rw [if_neg (by rw [hm]; simp)]
        rw [Sh.chk_no (by rw [hm]; simp), hen] at HEN2
        have HCK2 : Hid (∀ W, Lists W (.slice ua o.length uc) o → Calls Try.prog 8 #[.agg #[.int .i64 p1, .int .i64 p2, .slice ua o.length uc]] W fun e w' => e = .returned (.int .i64 2) ∧ Below W.heap.size W w') := fun W h => by
          have := HCK.out W _ h
          rwa [Sh.chk_no (by rw [hm]; simp)] at this
        replace HEN2 : Hid _ := HEN2
        clear hm HEN HCK hen
        go_wp2_with fail
        refine Calls.mono HEN2.out ?_
        rintro e w3 ⟨rfl, hb3⟩
        obtain ⟨s0, s1, s2, _, _, _⟩ := three_cells (blk_later HS.out hb3)
        have HCK3 : Hid _ := HCK2.out w3 (HU.out.later hb3)
        have HB3 : Hid (Below w.heap.size w w3) := bnext HB.out hb3
        clear HEN2 hb3 HCK2 HU HS HB
        go_wp2_with fail
        refine Calls.mono HCK3.out ?_
        rintro e w4 ⟨rfl, hb4⟩
        have HB4 : Hid (Below w.heap.size w w4) := bnext HB3.out hb4
        clear hb4 HCK3
        go_wp2_with fail
        refine Calls.mono (HDO.out _) ?_
        rintro e w5 ⟨rfl, hb5⟩
        have HB5 : Hid (Below w.heap.size w w5) := bnext HB4.out hb5
        clear hb5
        go_wp2
        go_ret
        exact ⟨rfl, HB5.out⟩
    | false =>
      have hor : q1 < 0 ∨ (¬ q1 < 0 ∧ q2 ≤ q1) ∨ (¬ q1 < 0 ∧ ¬ q2 ≤ q1 ∧ 256 < q2) := by
        by_cases h1 : q1 < 0
        · exact .inl h1
        · by_cases h2 : q2 ≤ q1
          · exact .inr (.inl ⟨h1, h2⟩)
          · by_cases h3 : 256 < q2
            · exact .inr (.inr ⟨h1, h2, h3⟩)
            · rw [Sh.mayP_iff.2 ⟨by dsimp only; omega, by dsimp only; omega, by dsimp only; omega⟩] at hm
              cases hm
      have HMK : Hid (∀ W v, Edg W v [(q1, 1)] → Calls Try.prog 6 #[v, .agg #[.int .i64 q1, .int .i64 q2]] W fun e w' => ∃ u, e = .returned (.agg #[.int .i64 0, .int .i64 0, u]) ∧ Lists w' u [] ∧ Below W.heap.size W w') := fun W v h => by
        have := smake_any v [(q1, 1)] (q1, q2) W h (by simp) ⟨hq1, hq2⟩
        rwa [show Sh.mk [(q1, 1)] (q1, q2) = Sh.none_ by unfold Sh.mk; rw [if_neg (by rw [hm]; simp)]] at this
      clear hm
      go_enter Try.func3, Try.ntmps3
      go_wp2_with fail
      refine Calls.mono HGR.out ?_
      rintro e w1 ⟨rfl, hb1⟩
      obtain ⟨a0, a1, _, _⟩ := two_cells (blk_later HP.out hb1)
      replace HP : Hid _ := blk_later HP.out hb1
      replace HS : Hid _ := blk_later HS.out hb1
      replace HU : Hid (Lists w1 (.slice ua o.length uc) o) := HU.out.later hb1
      replace HB : Hid (Below w.heap.size w w1) := bnext HB.out hb1
      obtain ⟨w2, hw2⟩ : ∃ w2, w1.alloc (.cells #[.int .i64 q1, .int .i64 1] 30) = w2 := ⟨_, rfl⟩
      have hb12 : Below w1.heap.size w1 w2 := by rw [← hw2]; exact (Below.refl _ w1).alloc (Nat.le_refl _) _
      have hE : Edg w2 (.slice (some ⟨w1.heap.size, 0, none⟩) 1 1) [(q1, 1)] := by
        refine ⟨_, 1, rfl, by simp, .inr ⟨_, 0, rfl, fun j hj => ?_⟩⟩
        rw [← hw2]
        obtain rfl : j = 0 := by simpa using hj
        exact ⟨cell_new _ _ _ _ _ rfl, cell_new _ _ _ _ _ rfl⟩
      have HMK2 : Hid _ := HMK.out w2 _ hE
      obtain ⟨b0, b1, _, _⟩ := two_cells (blk_later HP.out hb12)
      replace HS : Hid _ := blk_later HS.out hb12
      replace HU : Hid (Lists w2 (.slice ua o.length uc) o) := HU.out.later hb12
      replace HB : Hid (Below w.heap.size w w2) := bnext HB.out hb12
      clear hb1 HGR HP HMK hE hb12
      rcases hor with k1 | ⟨k1, k2⟩ | ⟨k1, k2, k3⟩
      all_goals
        go_wp2_with fail
        refine Calls.mono HMK2.out ?_
        rintro e w3 ⟨v, rfl, hv, hb3⟩
        replace HS : Hid _ := blk_later HS.out hb3
        replace HU : Hid (Lists w3 (.slice ua o.length uc) o) := HU.out.later hb3
        replace HB : Hid (Below w.heap.size w w3) := bnext HB.out hb3
        have HSM3 : Hid _ := HSM.out w3 _ (.slice none 0 0) hv (lists_nil _)
        clear HMK2 hv hb3 HSM
        go_wp2_with fail
        refine Calls.mono HSM3.out ?_
        rintro e wN ⟨rfl, hb4⟩
        replace HS : Hid _ := blk_later HS.out hb4
        replace HU : Hid (Lists wN (.slice ua o.length uc) o) := HU.out.later hb4
        replace HB : Hid (Below w.heap.size w wN) := bnext HB.out hb4
        clear hb4 HSM3
        have HEN2 := HEN.out wN _ HU.out
        obtain ⟨s0, s1, s2, _, _, _⟩ := three_cells HS.out
        cases hm : Sh.may ((p1, p2), o) with
        | true =>
          have HE : Hid ((ByteArray.toList ⟨(Sh.encS ((p1, p2), o)).toArray⟩).isEmpty = false) := by
            rw [ByteArray.toList_eq, Sh.encS_enc hm]
            have := (Sh.enc_len ((p1, p2), o)).1
            cases he : Sh.enc ((p1, p2), o) with
            | nil => rw [he] at this; simp at this
            | cons x l => rfl
          have he := HE.out
          rw [Sh.chk_yes hm] at HEN2
          have HCK2 : Hid (∀ W, Lists W (.slice ua o.length uc) o → Calls Try.prog 8 #[.agg #[.int .i64 p1, .int .i64 p2, .slice ua o.length uc]] W fun e w' => e = .returned (.int .i64 0) ∧ Below W.heap.size W w') := fun W h => by
            have := HCK.out W _ h
            rwa [Sh.chk_yes hm] at this
          generalize (⟨(Sh.encS ((p1, p2), o)).toArray⟩ : ByteArray) = b at *
          replace HEN2 : Hid _ := HEN2
          clear hm HEN HCK HE
          go_wp2_with fail
          refine Calls.mono HEN2.out ?_
          rintro e w3 ⟨rfl, hb3⟩
          obtain ⟨s0, s1, s2, _, _, _⟩ := three_cells (blk_later HS.out hb3)
          have HCK3 : Hid _ := HCK2.out w3 (HU.out.later hb3)
          have HB3 : Hid (Below w.heap.size w w3) := bnext HB.out hb3
          clear HEN2 hb3 HCK2 HU HS HB
          go_wp2_with fail
          refine Calls.mono HCK3.out ?_
          rintro e w4 ⟨rfl, hb4⟩
          have HB4 : Hid (Below w.heap.size w w4) := bnext HB3.out hb4
          clear hb4 HCK3
          go_wp2_with fail
          refine Calls.mono (HDO.out _) ?_
          rintro e w5 ⟨rfl, hb5⟩
          have HB5 : Hid (Below w.heap.size w w5) := bnext HB4.out hb5
          clear hb5
          go_wp2
          go_ret
          exact ⟨rfl, HB5.out⟩
        | false =>
          have hen : Sh.encS ((p1, p2), o) = [] := by unfold Sh.encS; rw [if_neg (by rw [hm]; simp)]
          rw [Sh.chk_no (by rw [hm]; simp), hen] at HEN2
          have HCK2 : Hid (∀ W, Lists W (.slice ua o.length uc) o → Calls Try.prog 8 #[.agg #[.int .i64 p1, .int .i64 p2, .slice ua o.length uc]] W fun e w' => e = .returned (.int .i64 2) ∧ Below W.heap.size W w') := fun W h => by
            have := HCK.out W _ h
            rwa [Sh.chk_no (by rw [hm]; simp)] at this
          replace HEN2 : Hid _ := HEN2
          clear hm HEN HCK hen
          go_wp2_with fail
          refine Calls.mono HEN2.out ?_
          rintro e w3 ⟨rfl, hb3⟩
          obtain ⟨s0, s1, s2, _, _, _⟩ := three_cells (blk_later HS.out hb3)
          have HCK3 : Hid _ := HCK2.out w3 (HU.out.later hb3)
          have HB3 : Hid (Below w.heap.size w w3) := bnext HB.out hb3
          clear HEN2 hb3 HCK2 HU HS HB
          go_wp2_with fail
          refine Calls.mono HCK3.out ?_
          rintro e w4 ⟨rfl, hb4⟩
          have HB4 : Hid (Below w.heap.size w w4) := bnext HB3.out hb4
          clear hb4 HCK3
          go_wp2_with fail
          refine Calls.mono (HDO.out _) ?_
          rintro e w5 ⟨rfl, hb5⟩
          have HB5 : Hid (Below w.heap.size w w5) := bnext HB4.out hb5
          clear hb5
          go_wp2
          go_ret
          exact ⟨rfl, HB5.out⟩

set_option maxRecDepth 100000 in
theorem shardsNone_lifted (os : Os) (started : os.Started) (H : Type) (enc : TypeId × Value → H) :
    ReturnsInHanded {} Try.checked os 3 .any (Rows.shardsNoneSpec.pre6 enc Try.prog Try.f3 Rows.shardsNoneRow.domain false) (Rows.shardsNoneSpec.post enc Try.prog Try.f3 false true false false) := by
  refine returnsInHanded_of_change (C := Try.checked) Try.own started (by kernel_rfl) Try.func3
    (ChangeSpec.witness6 (enc := enc) (C := Try.checked) false ⟨#[], #[.agg #[.int .i64 0, .int .i64 0], .agg #[.int .i64 0, .int .i64 0, .slice none 0 0]], []⟩ 8 (by kernel_rfl) (by kernel_rfl) (by kernel_rfl) (by kernel_rfl)) ?_
  intro W base args ds gs before hval0 hW hcnd _
  have hval : ∀ (j : Nat) t v, Try.f3.params[j]? = some t → args[j]? = some v → Value.okWide Try.prog W .any base t v := hval0
  have hW' := hW
  obtain ⟨p, q, hA0, hV, rfl, hfz, hnd⟩ := hW
  have hA : DataW.TrodAll enc Try.prog W 0 (fun _ => true) true Try.f3.params.toList args.toList ds p := hA0
  rw [Try.params3] at hA hval
  obtain ⟨v0, vs0, d0, ds0, p0, q0, hargs, rfl, rfl, h0, r0⟩ := trodAll_cons hA
  obtain ⟨v1, vs1, d1, ds1, p1, q1, rfl, rfl, rfl, h1, r1⟩ := trodAll_cons r0
  obtain ⟨rfl, rfl, rfl⟩ := trodAll_nil r1
  obtain rfl : args = #[v0, v1] := by cases args; simp_all
  obtain ⟨rfl, rfl⟩ := trodVars_none hV
  have lt0 : ∀ x ∈ p0, x.block < W.heap.size := by obtain ⟨m, hm⟩ := h0; exact DataW.trod_lt m _ _ _ hm
  obtain ⟨q0, rfl, b0, c0⟩ := open_part (hval 0 23 v0 rfl rfl) h0
  have lt1 : ∀ x ∈ p1, x.block < W.heap.size := by obtain ⟨m, hm⟩ := h1; exact DataW.trod_lt m _ _ _ hm
  obtain ⟨s1, u1, rfl, k1, n1, b1, c1⟩ := open_shard (hval 1 26 v1 rfl rfl) h1
  clear hA0 hval0
  refine (shardsNone_walk q0 s1 u1 W b0 c0 k1 n1 b1 c1).mono fun e W' ⟨he, bel⟩ => ?_
  subst he
  exact ⟨_, rfl, _, _, _, [], _, [], hW', trodAll_mk1 (shut_bool Try.underlying4 _), (trodAll_cons_mk (Below.trod Try.laidOut (by kernel_rfl) (of_decide_eq_true (by kernel_rfl)) h0 bel lt0) (trodAll_cons_mk (Below.trod Try.laidOut (by kernel_rfl) (of_decide_eq_true (by kernel_rfl)) h1 bel lt1) trodAll_mk0)), rfl, bel.frame _, fun h => by cases h⟩

theorem shardsNone_holds : Rows.ShardsNoneSaid :=
  OpenClaim.holds_of_wide 3 Try.f3 rfl rfl rfl rfl rfl rfl rfl ⟨rfl, rfl, rfl, rfl, rfl⟩ rfl rfl rfl rfl rfl (by kernel_rfl) Try.func3 (by kernel_rfl)
    (of_decide_eq_true (by kernel_rfl)) (by unfold Func.isWrapper; first | (rw [if_pos (by decide +kernel)]; kernel_rfl) | (rw [if_neg (by decide +kernel)]; exact ⟨rfl, rfl⟩))
    (fun os started H enc _ => shardsNone_lifted os started H enc)

end Go.Proofs.Ytbhngncnhabbkab
