/- THE STATEMENT ShardsBack: what is encoded is decoded, and no other shard has these bytes. For every two bytes, every list of pairs and every shard; of more than 400 pairs, or of a shard of more than 300 lists, 300 numbers in one or 5000 in all nothing is asked. -/
import Derived.Test.YtbhngncnhabbkaaGreatHSize
namespace Go.Proofs.YtbhngncnhabbkaaGreat
open Go.ChangeShapes Go.WideShapes Go.ChangeAt Go.RowKit Go.Deep

set_option maxHeartbeats 4000000 in
set_option maxRecDepth 100000 in
theorem shardsBack_walk (n k : Nat) (v : Value) (l : List (Nat × Nat)) (t : Sh.Shard) (u : Value) (w : World) (hn : n < 256) (hk : k < 256) (hv : Prs w v l) (hsm : Small l) (_hl : l.length ≤ 9223372036854775807)
    (hu : Lists w u t.2) (hok : OkO t.2) (hs1 : -9223372036854775808 ≤ t.1.1 ∧ t.1.1 ≤ 9223372036854775807) (hs2 : -9223372036854775808 ≤ t.1.2 ∧ t.1.2 ≤ 9223372036854775807) :
    Calls Tryz.prog 4 #[.agg #[.int .u8 n, .int .u8 k], v, .agg (scells t u)] w fun e w' => e = .returned (.bool true) ∧ Below w.heap.size w w' := by
  obtain ⟨⟨t1, t2⟩, o⟩ := t
  dsimp only at hu hok hs1 hs2 ⊢
  obtain ⟨wa, hwa⟩ : ∃ wa, w.alloc (.cells #[.int .u8 n, .int .u8 k] 40) = wa := ⟨_, rfl⟩
  obtain ⟨ua, uc, rfl, _, _⟩ := id hu
  obtain ⟨wb, hwb⟩ : ∃ wb, wa.alloc (.cells #[.int .i64 t1, .int .i64 t2, .slice ua o.length uc] 26) = wb := ⟨_, rfl⟩
  have hba : Below w.heap.size w wa := by rw [← hwa]; exact (Below.refl _ w).alloc (Nat.le_refl _) _
  have hab : Below wa.heap.size wa wb := by rw [← hwb]; exact (Below.refl _ wa).alloc (Nat.le_refl _) _
  have HN : Hid (wb.heap[w.heap.size]? = some (.cells #[.int .u8 n, .int .u8 k] 40 (0, 0))) := by
    rw [Hid, hab.block _ (by rw [← hwa]; simp), ← hwa]; exact heap_alloc_new _ _
  have HT : Hid (wb.heap[wa.heap.size]? = some (.cells #[.int .i64 t1, .int .i64 t2, .slice ua o.length uc] 26 (0, 0))) := by rw [Hid, ← hwb]; exact heap_alloc_new _ _
  have HB : Hid (Below w.heap.size w wb) := bnext hba hab
  have HU : Hid (Lists wb (.slice ua o.length uc) o) := hu.later HB.out
  have HV : Hid (Prs wb v l) := hv.later HB.out
  obtain ⟨va, vc, rfl, _, _⟩ := id hv
  have HGR := great_any ((t1, t2), o) (.slice ua o.length uc) wb HU.out hok.1 (fun l hl => (hok.2 l hl).1)
  have HDO : Hid (∀ W, Calls Tryz.prog 18 #[] W fun e w' => e = .returned (.bool true) ∧ Below W.heap.size W w') := fun W => sdoes_any W
  unfold scells at HGR ⊢
  dsimp only at HGR ⊢
  obtain ⟨y0, y1, y2, _, _, _⟩ := three_cells HT.out
  clear hu hba hab hv
  by_cases hl4 : 400 < l.length
  · clear HGR
    generalize l.length = m at *
    go_enter Tryz.func4, Tryz.ntmps4
    go_wp2
    go_ret
    exact ⟨rfl, HB.out⟩
  · cases hg : gr o with
    | true =>
      rw [hg] at HGR
      replace HGR : Hid _ := HGR
      clear hg HV
      generalize l.length = m at *
      go_enter Tryz.func4, Tryz.ntmps4
      go_wp2_with fail
      refine Calls.mono HGR.out ?_
      rintro e w1 ⟨rfl, hb1⟩
      have HB1 : Hid (Below w.heap.size w w1) := bnext HB.out hb1
      clear hb1
      go_wp2
      go_ret
      exact ⟨rfl, HB1.out⟩
    | false =>
      rw [hg] at HGR
      have hless := gr_iff.1 hg
      have hfit : FitS o := ⟨by have := hless.1; omega, fun l hl => ⟨by have := hless.2.2 l hl; omega, (hok.2 l hl).2⟩⟩
      have HFT : Hid (FitS o) := hfit
      have HENT : Hid (∀ W, Lists W (.slice ua o.length uc) o → Calls Tryz.prog 8 #[.agg #[.int .i64 t1, .int .i64 t2, .slice ua o.length uc]] W fun e w' => e = .returned (.tuple #[.string ⟨(Sh.encS ((t1, t2), o)).toArray⟩, .int .i64 (Sh.chk ((t1, t2), o))]) ∧ Below W.heap.size W w') := fun W h => senc_any ((t1, t2), o) _ W h hfit ⟨hs1, hs2⟩
      have HMD : Hid (∀ W, Prs W (.slice va l.length vc) l → Calls Tryz.prog 19 #[.int .u8 n, .int .u8 k, .slice va l.length vc] W fun e w' => ∃ u s x, e = .returned (.tuple #[u, .agg (scells s x), .bool true]) ∧ Sh.may s = true ∧ Lists w' x s.2 ∧ Below W.heap.size W w') := fun W h => smade_any n k _ l W hn hk h hsm (by omega)
      replace HGR : Hid _ := HGR
      clear hg hless hfit hok hsm
      generalize l.length = m at *
      go_enter Tryz.func4, Tryz.ntmps4
      go_wp2_with fail
      refine Calls.mono HGR.out ?_
      rintro e w1 ⟨rfl, hb1⟩
      obtain ⟨n0, n1, _, _⟩ := two_cells (blk_later HN.out hb1)
      replace HT : Hid _ := blk_later HT.out hb1
      replace HU : Hid (Lists w1 (.slice ua o.length uc) o) := HU.out.later hb1
      replace HB : Hid (Below w.heap.size w w1) := bnext HB.out hb1
      have HMD1 : Hid _ := HMD.out w1 (HV.out.later hb1)
      clear hb1 HGR HN HMD HV
      go_wp2_with fail
      refine Calls.mono HMD1.out ?_
      rintro e w2 ⟨z, s, x, rfl, hs, hx, hb2⟩
      obtain ⟨b, hb⟩ : ∃ b, (⟨(Sh.enc s).toArray⟩ : ByteArray) = b := ⟨_, rfl⟩
      have HEN : Hid _ := senc_yes hs hb
      have HDE : Hid _ := sdec_yes hs hb
      have HFS : Hid (FitS s.2) := (Sh.may_fit hs).1
      have HSS : Hid _ := ssame_yes s s HFS.out HFS.out (decide_eq_true rfl)
      have HTS : Hid (∀ b2, decide (((t1, t2), o) = s) = b2 → _) := fun b2 h => ssame_yes ((t1, t2), o) s HFT.out HFS.out h
      have HNI : Hid (Sh.may ((t1, t2), o) = true → ((⟨(Sh.enc ((t1, t2), o)).toArray⟩ : ByteArray).toList == b.toList) = decide (((t1, t2), o) = s)) := fun ht => by
        rw [← hb, ByteArray.toList_eq, ByteArray.toList_eq, Bool.eq_iff_iff, beq_iff_eq, decide_eq_true_eq]
        exact ⟨fun h => Sh.enc_inj ht hs h, fun h => by rw [h]⟩
      obtain ⟨⟨p1, p2⟩, q⟩ := s
      unfold scells at HEN HDE HSS HTS ⊢
      dsimp only at HEN HDE HSS HTS hx ⊢
      obtain ⟨xa, xc, rfl, _, _⟩ := id hx
      obtain ⟨w3, hw3⟩ : ∃ w3, w2.alloc (.cells #[.int .i64 p1, .int .i64 p2, .slice xa q.length xc] 26) = w3 := ⟨_, rfl⟩
      have hb23 : Below w2.heap.size w2 w3 := by rw [← hw3]; exact (Below.refl _ w2).alloc (Nat.le_refl _) _
      have HS : Hid (w3.heap[w2.heap.size]? = some (.cells #[.int .i64 p1, .int .i64 p2, .slice xa q.length xc] 26 (0, 0))) := by rw [Hid, ← hw3]; exact heap_alloc_new _ _
      obtain ⟨s0, s1, s2, _, _, _⟩ := three_cells HS.out
      have HX : Hid (Lists w3 (.slice xa q.length xc) q) := hx.later hb23
      replace HT : Hid _ := blk_later (blk_later HT.out hb2) hb23
      replace HU : Hid (Lists w3 (.slice ua o.length uc) o) := (HU.out.later hb2).later hb23
      replace HB : Hid (Below w.heap.size w w3) := bnext (bnext HB.out hb2) hb23
      have HEN3 : Hid _ := HEN.out w3 _ HX.out
      clear hs hb hx hb2 hb23 HMD1 HEN n0 n1 y0 y1 y2
      go_wp2_with fail
      refine Calls.mono HEN3.out ?_
      rintro e w4 ⟨rfl, hb4⟩
      replace HS : Hid _ := blk_later HS.out hb4
      replace HX : Hid (Lists w4 (.slice xa q.length xc) q) := HX.out.later hb4
      replace HT : Hid _ := blk_later HT.out hb4
      replace HU : Hid (Lists w4 (.slice ua o.length uc) o) := HU.out.later hb4
      replace HB : Hid (Below w.heap.size w w4) := bnext HB.out hb4
      have HDE4 : Hid _ := HDE.out w4
      clear hb4 HEN3 HDE
      go_wp2_with fail
      refine Calls.mono HDE4.out ?_
      rintro e w5 ⟨d, rfl, hd, hb5⟩
      obtain ⟨da, dc, rfl, _, _⟩ := id hd
      obtain ⟨w6, hw6⟩ : ∃ w6, w5.alloc (.cells #[.int .i64 p1, .int .i64 p2, .slice da q.length dc] 26) = w6 := ⟨_, rfl⟩
      have hb56 : Below w5.heap.size w5 w6 := by rw [← hw6]; exact (Below.refl _ w5).alloc (Nat.le_refl _) _
      have hD : w6.heap[w5.heap.size]? = some (.cells #[.int .i64 p1, .int .i64 p2, .slice da q.length dc] 26 (0, 0)) := by rw [← hw6]; exact heap_alloc_new _ _
      obtain ⟨d0, d1, d2, _, _, _⟩ := three_cells hD
      replace HS : Hid _ := blk_later (blk_later HS.out hb5) hb56
      replace HX : Hid (Lists w6 (.slice xa q.length xc) q) := (HX.out.later hb5).later hb56
      replace HT : Hid _ := blk_later (blk_later HT.out hb5) hb56
      replace HU : Hid (Lists w6 (.slice ua o.length uc) o) := (HU.out.later hb5).later hb56
      replace HB : Hid (Below w.heap.size w w6) := bnext (bnext HB.out hb5) hb56
      obtain ⟨s0, s1, s2, _, _, _⟩ := three_cells HS.out
      have HSS6 : Hid _ := HSS.out w6 _ _ (hd.later hb56) HX.out
      clear hd hb5 hb56 hD HDE4 HSS
      go_wp2_with fail
      refine Calls.mono HSS6.out ?_
      rintro e wE ⟨rfl, hbE⟩
      replace HS : Hid _ := blk_later HS.out hbE
      replace HX : Hid (Lists wE (.slice xa q.length xc) q) := HX.out.later hbE
      replace HT : Hid _ := blk_later HT.out hbE
      replace HU : Hid (Lists wE (.slice ua o.length uc) o) := HU.out.later hbE
      replace HB : Hid (Below w.heap.size w wE) := bnext HB.out hbE
      obtain ⟨y0, y1, y2, _, _, _⟩ := three_cells HT.out
      have HET := HENT.out wE HU.out
      clear hbE HSS6 HENT s0 s1 s2 d0 d1 d2
      cases ht : Sh.may ((t1, t2), o) with
      | false =>
        have hen : Sh.encS ((t1, t2), o) = [] := by unfold Sh.encS; rw [if_neg (by rw [ht]; simp)]
        rw [Sh.chk_no (by rw [ht]; simp), hen] at HET
        replace HET : Hid _ := HET
        clear ht hen HNI HTS
        go_wp2_with fail
        refine Calls.mono HET.out ?_
        rintro e w7 ⟨rfl, hb7⟩
        have HB7 : Hid (Below w.heap.size w w7) := bnext HB.out hb7
        clear hb7 HET
        go_wp2_with fail
        refine Calls.mono (HDO.out _) ?_
        rintro e w8 ⟨rfl, hb8⟩
        have HB8 : Hid (Below w.heap.size w w8) := bnext HB7.out hb8
        clear hb8
        go_wp2
        go_ret
        exact ⟨rfl, HB8.out⟩
      | true =>
        rw [Sh.chk_yes ht, Sh.encS_enc ht] at HET
        have hni := HNI.out ht
        have hne : (⟨(Sh.enc ((t1, t2), o)).toArray⟩ : ByteArray).toList.isEmpty = false := by
          rw [ByteArray.toList_eq]
          have := (Sh.enc_len ((t1, t2), o)).1
          cases he : Sh.enc ((t1, t2), o) with
          | nil => rw [he] at this; simp at this
          | cons x l => rfl
        generalize (⟨(Sh.enc ((t1, t2), o)).toArray⟩ : ByteArray) = c at *
        obtain ⟨bb, hbb⟩ : ∃ bb, decide (((t1, t2), o) = ((p1, p2), q)) = bb := ⟨_, rfl⟩
        rw [hbb] at hni
        have HTS2 : Hid _ := HTS.out bb hbb
        replace HET : Hid _ := HET
        clear ht HNI HTS hbb
        go_wp2_with fail
        refine Calls.mono HET.out ?_
        rintro e w7 ⟨rfl, hb7⟩
        obtain ⟨y0, y1, y2, _, _, _⟩ := three_cells (blk_later HT.out hb7)
        obtain ⟨s0, s1, s2, _, _, _⟩ := three_cells (blk_later HS.out hb7)
        have HTS7 : Hid _ := HTS2.out w7 _ _ (HU.out.later hb7) (HX.out.later hb7)
        have HB0 : Hid (Below w.heap.size w w7) := bnext HB.out hb7
        clear hb7 HET HTS2 HU HX HS HT
        go_wp2_with fail
        refine Calls.mono HTS7.out ?_
        rintro e w9 ⟨rfl, hb9⟩
        have HB7 : Hid (Below w.heap.size w w9) := bnext HB0.out hb9
        clear hb9 HTS7
        cases bb
        all_goals
          go_wp2_with fail
          refine Calls.mono (HDO.out _) ?_
          rintro e w8 ⟨rfl, hb8⟩
          have HB8 : Hid (Below w.heap.size w w8) := bnext HB7.out hb8
          clear hb8
          go_wp2
          go_ret
          exact ⟨rfl, HB8.out⟩

set_option maxRecDepth 100000 in
theorem shardsBack_lifted (os : Os) (started : os.Started) (H : Type) (enc : TypeId × Value → H) :
    ReturnsInHanded {} Tryz.checked os 4 .any (Rows.shardsBackSpec.pre6 enc Tryz.prog Tryz.f4 Rows.shardsBackRow.domain false) (Rows.shardsBackSpec.post enc Tryz.prog Tryz.f4 false true false false) := by
  refine returnsInHanded_of_change (C := Tryz.checked) Tryz.own started (by kernel_rfl) Tryz.func4
    (ChangeSpec.witness6 (enc := enc) (C := Tryz.checked) false ⟨#[], #[.agg #[.int .u8 0, .int .u8 0], .slice none 0 0, .agg #[.int .i64 0, .int .i64 0, .slice none 0 0]], []⟩ 8 (by kernel_rfl) (by kernel_rfl) (by kernel_rfl) (by kernel_rfl)) ?_
  intro W base args ds gs before hval0 hW hcnd _
  have hval : ∀ (j : Nat) t v, Tryz.f4.params[j]? = some t → args[j]? = some v → Value.okWide Tryz.prog W .any base t v := hval0
  have hW' := hW
  obtain ⟨p, q, hA0, hV, rfl, hfz, hnd⟩ := hW
  have hA : DataW.TrodAll enc Tryz.prog W 0 (fun _ => true) true Tryz.f4.params.toList args.toList ds p := hA0
  rw [Tryz.params4] at hA hval
  obtain ⟨v0, vs0, d0, ds0, p0, q0, hargs, rfl, rfl, h0, r0⟩ := trodAll_cons hA
  obtain ⟨v1, vs1, d1, ds1, p1, q1, rfl, rfl, rfl, h1, r1⟩ := trodAll_cons r0
  obtain ⟨v2, vs2, d2, ds2, p2, q2, rfl, rfl, rfl, h2, r2⟩ := trodAll_cons r1
  obtain ⟨rfl, rfl, rfl⟩ := trodAll_nil r2
  obtain rfl : args = #[v0, v1, v2] := by cases args; simp_all
  obtain ⟨rfl, rfl⟩ := trodVars_none hV
  have lt0 : ∀ x ∈ p0, x.block < W.heap.size := by obtain ⟨m, hm⟩ := h0; exact DataW.trod_lt m _ _ _ hm
  obtain ⟨a0, b0, rfl, sa0, sb0⟩ := open_two_u8 (hval 0 40 v0 rfl rfl) h0
  have lt1 : ∀ x ∈ p1, x.block < W.heap.size := by obtain ⟨m, hm⟩ := h1; exact DataW.trod_lt m _ _ _ hm
  obtain ⟨l1, k1, s1, n1⟩ := open_pairs (hval 1 41 v1 rfl rfl) h1
  have lt2 : ∀ x ∈ p2, x.block < W.heap.size := by obtain ⟨m, hm⟩ := h2; exact DataW.trod_lt m _ _ _ hm
  obtain ⟨s2, u2, rfl, k2, n2, b2, c2⟩ := open_shard (hval 2 26 v2 rfl rfl) h2
  clear hA0 hval0
  refine (shardsBack_walk a0 b0 v1 l1 s2 u2 W sa0 sb0 k1 s1 n1 k2 n2 b2 c2).mono fun e W' ⟨he, bel⟩ => ?_
  subst he
  exact ⟨_, rfl, _, _, _, [], _, [], hW', trodAll_mk1 (shut_bool Tryz.underlying4 _), (trodAll_cons_mk (Below.trod Tryz.laidOut (by kernel_rfl) (of_decide_eq_true (by kernel_rfl)) h0 bel lt0) (trodAll_cons_mk (Below.trod Tryz.laidOut (by kernel_rfl) (of_decide_eq_true (by kernel_rfl)) h1 bel lt1) (trodAll_cons_mk (Below.trod Tryz.laidOut (by kernel_rfl) (of_decide_eq_true (by kernel_rfl)) h2 bel lt2) trodAll_mk0))), rfl, bel.frame _, fun h => by cases h⟩

theorem shardsBack_holds : Rows.ShardsBackSaid :=
  OpenClaim.holds_of_wide 4 Tryz.f4 rfl rfl rfl rfl rfl rfl rfl ⟨rfl, rfl, rfl, rfl, rfl⟩ rfl rfl rfl rfl rfl (by kernel_rfl) Tryz.func4 (by kernel_rfl)
    (of_decide_eq_true (by kernel_rfl)) (by unfold Func.isWrapper; first | (rw [if_pos (by decide +kernel)]; kernel_rfl) | (rw [if_neg (by decide +kernel)]; exact ⟨rfl, rfl⟩))
    (fun os started H enc _ => shardsBack_lifted os started H enc)

end Go.Proofs.YtbhngncnhabbkaaGreat
