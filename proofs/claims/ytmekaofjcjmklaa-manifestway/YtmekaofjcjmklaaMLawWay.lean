/- THE STATEMENT ManifestWay: whatever bytes Decode tells a graph of were encoded so, and the graph may be; where it tells none it tells ErrForm and the empty graph. For every string; of more than 2000 bytes nothing is asked. -/
import Derived.Test.YtmekaofjcjmklaaFrame
import Derived.ChangeArms
import Derived.ChangeMaps5
namespace Go.Proofs.Ytmekaofjcjmklaa
open Go.ChangeShapes Go.WideShapes Go.ChangeAt Go.RowKit
open Go.ChangeMaps (open_string shut_string)

set_option maxHeartbeats 2000000 in
set_option maxRecDepth 100000 in
theorem manifestWay_walk (b : ByteArray) (w : World) (_hb : b.size ≤ maxLen) :
    Calls Try.prog 5 #[.string b] w fun e w' => e = .returned (.bool true) ∧ Below w.heap.size w w' := by
  by_cases h3 : 2000 < b.size
  · go_enter Try.func5, Try.ntmps5
    go_wp2
    go_ret
    exact ⟨rfl, Below.refl _ _⟩
  · have HD := mdec_any b w (by omega)
    have HDO : Hid (∀ W, Calls Try.prog 14 #[] W fun e w' => e = .returned (.bool true) ∧ Below W.heap.size W w') := fun W => mdoes_any W
    cases hd : Mf.dec b.data.toList with
    | none =>
      rw [(Mf.told_no hd).1, (Mf.told_no hd).2] at HD
      have HSM : Hid (∀ W u v, Prt W u [] → Prt W v [] → Calls Try.prog 13 #[.agg #[.int .i64 0, .int .i64 0, u], .agg #[.int .i64 0, .int .i64 0, v]] W fun e w' => e = .returned (.bool true) ∧ Below W.heap.size W w') := fun W u v h1 h2 => msame_yes (g := Mf.none_) W u v h1 h2 (by decide)
      replace HD : Hid _ := HD
      clear hd
      go_enter Try.func5, Try.ntmps5
      go_wp2_with fail
      refine Calls.mono HD.out ?_
      rintro e w1 ⟨v, rfl, hv0, -, hb1⟩
      unfold gcells Mf.none_
      dsimp only
      have hv : Prt w1 v [] := hv0.prt
      obtain ⟨va, vc, rfl, _, _⟩ := id hv
      have hv2 : Prt w1 (.slice va 0 vc) [] := hv
      obtain ⟨w2, hw2⟩ : ∃ w2, w1.alloc (.cells #[.int .i64 0, .int .i64 0, .slice va 0 vc] 24) = w2 := ⟨_, rfl⟩
      have hb12 : Below w1.heap.size w1 w2 := by rw [← hw2]; exact (Below.refl _ w1).alloc (Nat.le_refl _) _
      have hS2 : GBlk w2 w1.heap.size 0 0 (.slice va 0 vc) := by rw [← hw2]; exact heap_alloc_new _ _
      obtain ⟨s0, s1, s2, _, _, _⟩ := three_cells hS2
      have HSM2 : Hid _ := HSM.out w2 _ (.slice none 0 0) (hv2.later hb12) (prt_nil _)
      have HB2 : Hid (Below w.heap.size w w2) := bnext hb1 hb12
      clear hv hv0 hv2 hb12 hS2 hb1 HD HSM
      go_wp2_with fail
      refine Calls.mono HSM2.out ?_
      rintro e w3 ⟨rfl, hb3⟩
      have HB3 : Hid (Below w.heap.size w w3) := bnext HB2.out hb3
      clear HSM2 hb3
      go_wp2_with fail
      refine Calls.mono (HDO.out _) ?_
      rintro e w4 ⟨rfl, hb4⟩
      have HB4 : Hid (Below w.heap.size w w4) := bnext HB3.out hb4
      clear hb4
      go_wp2
      go_ret
      exact ⟨rfl, HB4.out⟩
    | some g =>
      rw [(Mf.told_yes hd).1, (Mf.told_yes hd).2] at HD
      obtain ⟨hc, he⟩ := Mf.dec_some hd
      have hen : (⟨(Mf.enc g).toArray⟩ : ByteArray) = b := by rw [he]
      have HEN : Hid (∀ W u, Prt W u g.2 → Calls Try.prog 7 #[.agg (gcells g u)] W fun e w' => e = .returned (.tuple #[.string b, .int .i64 0]) ∧ Below W.heap.size W w') := fun W u h => menc_yes hc hen W u h
      have hl16 := (Mf.chk_iff.1 hc).2.2.1
      have HCK : Hid (∀ W u, Prt W u g.2 → Calls Try.prog 11 #[.agg (gcells g u)] W fun e w' => e = .returned (.int .i64 0) ∧ Below W.heap.size W w') := fun W u h => by
        have := mchk_any g u W h (by omega)
        rwa [hc] at this
      clear hd hc he hen
      obtain ⟨⟨n, m⟩, o⟩ := g
      unfold gcells at HEN HCK
      dsimp only at HEN HCK hl16
      replace HD : Hid _ := HD
      go_enter Try.func5, Try.ntmps5
      go_wp2_with fail
      refine Calls.mono HD.out ?_
      rintro e w1 ⟨v, rfl, hv0, -, hb1⟩
      have hv : Prt w1 v o := hv0.prt
      unfold gcells
      dsimp only
      obtain ⟨va, vc, rfl, _, _⟩ := id hv
      obtain ⟨w2, hw2⟩ : ∃ w2, w1.alloc (.cells #[.int .i64 n, .int .i64 m, .slice va o.length vc] 24) = w2 := ⟨_, rfl⟩
      have hb12 : Below w1.heap.size w1 w2 := by rw [← hw2]; exact (Below.refl _ w1).alloc (Nat.le_refl _) _
      have HS2 : Hid (GBlk w2 w1.heap.size n m (.slice va o.length vc)) := by rw [Hid, ← hw2]; exact heap_alloc_new _ _
      obtain ⟨s0, s1, s2, _, _, _⟩ := three_cells HS2.out
      have HV2 : Hid (Prt w2 (.slice va o.length vc) o) := hv.later hb12
      have HEN2 : Hid _ := HEN.out w2 _ HV2.out
      have HB2 : Hid (Below w.heap.size w w2) := bnext hb1 hb12
      clear hv hv0 hb12 hb1 HD HEN
      go_wp2_with fail
      refine Calls.mono HEN2.out ?_
      rintro e w3 ⟨rfl, hb3⟩
      obtain ⟨s0, s1, s2, _, _, _⟩ := three_cells (blk_later HS2.out hb3)
      have HCK3 : Hid _ := HCK.out w3 _ (HV2.out.later hb3)
      have HB3 : Hid (Below w.heap.size w w3) := bnext HB2.out hb3
      clear HEN2 hb3 HCK HV2
      go_wp2_with fail
      refine Calls.mono HCK3.out ?_
      rintro e w4 ⟨rfl, hb4⟩
      have HB4 : Hid (Below w.heap.size w w4) := bnext HB3.out hb4
      clear hb4 HCK3
      go_wp2_with fail
      refine Calls.mono (HDO.out _) ?_
      rintro e w5 ⟨rfl, hb5⟩
      have HB5 : Hid (Below w.heap.size w w5) := bnext HB4.out hb5
      clear hb5
      go_wp2
      go_ret
      exact ⟨rfl, HB5.out⟩

set_option maxRecDepth 100000 in
theorem manifestWay_lifted (os : Os) (started : os.Started) (H : Type) (enc : TypeId × Value → H) :
    ReturnsInHanded {} Try.checked os 5 .any (Rows.manifestWaySpec.pre6 enc Try.prog Try.f5 Rows.manifestWayRow.domain false) (Rows.manifestWaySpec.post enc Try.prog Try.f5 false true false false) := by
  refine returnsInHanded_of_change (C := Try.checked) Try.own started (by kernel_rfl) Try.func5
    (ChangeSpec.witness6 (enc := enc) (C := Try.checked) false ⟨#[], #[.string ByteArray.empty], []⟩ 8 (by kernel_rfl) (by kernel_rfl) (by kernel_rfl) (by kernel_rfl)) ?_
  intro W base args ds gs before hval0 hW hcnd _
  have hval : ∀ (j : Nat) t v, Try.f5.params[j]? = some t → args[j]? = some v → Value.okWide Try.prog W .any base t v := hval0
  have hW' := hW
  obtain ⟨p, q, hA0, hV, rfl, hfz, hnd⟩ := hW
  have hA : DataW.TrodAll enc Try.prog W 0 (fun _ => true) true Try.f5.params.toList args.toList ds p := hA0
  rw [Try.params5] at hA hval
  obtain ⟨v0, vs0, d0, ds0, p0, q0, hargs, rfl, rfl, h0, r0⟩ := trodAll_cons hA
  obtain ⟨rfl, rfl, rfl⟩ := trodAll_nil r0
  obtain rfl : args = #[v0] := by cases args; simp_all
  obtain ⟨rfl, rfl⟩ := trodVars_none hV
  obtain ⟨a0, rfl, rfl, rfl, w0⟩ := open_string Try.underlying9 (hval 0 9 v0 rfl rfl) h0
  clear hA0 hval0
  simp only [List.append_nil] at hW'
  refine (manifestWay_walk a0 W w0).mono fun e W' ⟨he, bel⟩ => ?_
  subst he
  exact ⟨_, rfl, _, _, _, [], [], [], hW', trodAll_mk1 (shut_bool Try.underlying4 _), (trodAll_cons_mk (shut_string Try.underlying9 w0) trodAll_mk0), rfl, bel.frame _, fun h => by cases h⟩

theorem manifestWay_holds : Rows.ManifestWaySaid :=
  OpenClaim.holds_of_wide 5 Try.f5 rfl rfl rfl rfl rfl rfl rfl ⟨rfl, rfl, rfl, rfl, rfl⟩ rfl rfl rfl rfl rfl (by kernel_rfl) Try.func5 (by kernel_rfl)
    (of_decide_eq_true (by kernel_rfl)) (by unfold Func.isWrapper; first | (rw [if_pos (by decide +kernel)]; kernel_rfl) | (rw [if_neg (by decide +kernel)]; exact ⟨rfl, rfl⟩))
    (fun os started H enc _ => manifestWay_lifted os started H enc)

end Go.Proofs.Ytmekaofjcjmklaa
