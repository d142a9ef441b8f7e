/- THE STATEMENT ShardsWay: whatever bytes Decode tells a shard of were encoded so, and the shard may be; where it tells none it tells ErrForm and the empty shard. For every string; of more than 3000 bytes nothing is asked. -/
import Derived.Test.YtbhngncnhabbkaaHCase
import Derived.ChangeArms
import Derived.ChangeMaps5
namespace Go.Proofs.Ytbhngncnhabbkaa
open Go.ChangeShapes Go.WideShapes Go.ChangeAt Go.RowKit
open Go.ChangeMaps (open_string shut_string)

set_option maxHeartbeats 2000000 in
set_option maxRecDepth 100000 in
theorem shardsWay_walk (b : ByteArray) (w : World) (_hb : b.size ≤ maxLen) :
    Calls Try.prog 4 #[.string b] w fun e w' => e = .returned (.bool true) ∧ Below w.heap.size w w' := by
  by_cases h3 : 3000 < b.size
  · go_enter Try.func4, Try.ntmps4
    go_wp2
    go_ret
    exact ⟨rfl, Below.refl _ _⟩
  · have HD := sdec_any b w (by omega)
    have HDO : Hid (∀ W, Calls Try.prog 9 #[] W fun e w' => e = .returned (.bool true) ∧ Below W.heap.size W w') := fun W => sdoes_any W
    rcases Sh.decS_cases b.data.toList with ⟨h1, h2⟩ | ⟨s, hs, hse, h1, h2⟩
    · rw [h1, h2] at HD
      have HSM : Hid (∀ W u v, Lists W u [] → Lists W v [] → Calls Try.prog 5 #[.agg #[.int .i64 0, .int .i64 0, u], .agg #[.int .i64 0, .int .i64 0, v]] W fun e w' => e = .returned (.bool true) ∧ Below W.heap.size W w') := fun W u v h1 h2 => by
        have := ssame_any Sh.none_ Sh.none_ u v W h1 h2 (small_of none_fit) (small_of none_fit)
        rwa [decide_eq_true rfl] at this
      replace HD : Hid _ := HD
      clear h1 h2
      go_enter Try.func4, Try.ntmps4
      go_wp2_with fail
      refine Calls.mono HD.out ?_
      rintro e w1 ⟨u, rfl, ⟨v, rfl, hv⟩, hb1⟩
      unfold scells Sh.none_
      dsimp only
      replace hv : Lists w1 v [] := hv
      obtain ⟨va, vc, rfl, _, _⟩ := id hv
      have hv2 : Lists w1 (.slice va 0 vc) [] := hv
      obtain ⟨w2, hw2⟩ : ∃ w2, w1.alloc (.cells #[.int .i64 0, .int .i64 0, .slice va 0 vc] 28) = w2 := ⟨_, rfl⟩
      have hb12 : Below w1.heap.size w1 w2 := by rw [← hw2]; exact (Below.refl _ w1).alloc (Nat.le_refl _) _
      have hS2 : w2.heap[w1.heap.size]? = some (.cells #[.int .i64 0, .int .i64 0, .slice va 0 vc] 28 (0, 0)) := by rw [← hw2]; exact heap_alloc_new _ _
      obtain ⟨s0, s1, s2, _, _, _⟩ := three_cells hS2
      have HSM2 : Hid _ := HSM.out w2 _ (.slice none 0 0) (hv2.later hb12) (lists_nil _)
      have HB2 : Hid (Below w.heap.size w w2) := bnext hb1 hb12
      clear hv hv2 hb12 hS2 hb1 HD HSM
      go_wp2_with fail
      refine Calls.mono HSM2.out ?_
      rintro e w3 ⟨rfl, hb3⟩
      have HB3 : Hid (Below w.heap.size w w3) := bnext HB2.out hb3
      clear HSM2 hb3
      go_wp2_with fail
      refine Calls.mono (HDO.out _) ?_
      rintro e w4 ⟨rfl, hb4⟩
      have HB4 : Hid (Below w.heap.size w w4) := bnext HB3.out hb4
      clear hb4
      go_wp2
      go_ret
      exact ⟨rfl, HB4.out⟩
    · rw [h1, h2] at HD
      obtain ⟨hf, hp⟩ := Sh.may_fit hs
      have hcs := Sh.chk_yes hs
      have hen : (⟨(Sh.encS s).toArray⟩ : ByteArray) = b := by rw [Sh.encS_enc hs, hse]
      have HEN : Hid (∀ W u, Lists W u s.2 → Calls Try.prog 11 #[.agg (scells s u)] W fun e w' => e = .returned (.tuple #[.string b, .int .i64 0]) ∧ Below W.heap.size W w') := fun W u h => by
        have := senc_any s u W h hf hp
        rwa [hen, hcs] at this
      have HCK : Hid (∀ W u, Lists W u s.2 → Calls Try.prog 12 #[.agg (scells s u)] W fun e w' => e = .returned (.int .i64 0) ∧ Below W.heap.size W w') := fun W u h => by
        have := schk_any s u W h hf hp
        rwa [hcs] at this
      clear h1 h2 hs hse hf hp hcs hen
      obtain ⟨⟨p1, p2⟩, o⟩ := s
      unfold scells at HEN HCK
      dsimp only at HEN HCK
      replace HD : Hid _ := HD
      go_enter Try.func4, Try.ntmps4
      go_wp2_with fail
      refine Calls.mono HD.out ?_
      rintro e w1 ⟨u, rfl, ⟨v, rfl, hv⟩, hb1⟩
      unfold scells
      dsimp only at hv ⊢
      obtain ⟨va, vc, rfl, _, _⟩ := id hv
      obtain ⟨w2, hw2⟩ : ∃ w2, w1.alloc (.cells #[.int .i64 p1, .int .i64 p2, .slice va o.length vc] 28) = w2 := ⟨_, rfl⟩
      have hb12 : Below w1.heap.size w1 w2 := by rw [← hw2]; exact (Below.refl _ w1).alloc (Nat.le_refl _) _
      have HS2 : Hid (w2.heap[w1.heap.size]? = some (.cells #[.int .i64 p1, .int .i64 p2, .slice va o.length vc] 28 (0, 0))) := by rw [Hid, ← hw2]; exact heap_alloc_new _ _
      obtain ⟨s0, s1, s2, _, _, _⟩ := three_cells HS2.out
      have HV2 : Hid (Lists w2 (.slice va o.length vc) o) := hv.later hb12
      have HEN2 : Hid _ := HEN.out w2 _ HV2.out
      have HB2 : Hid (Below w.heap.size w w2) := bnext hb1 hb12
      clear hv hb12 hb1 HD HEN
      go_wp2_with fail
      refine Calls.mono HEN2.out ?_
      rintro e w3 ⟨rfl, hb3⟩
      obtain ⟨s0, s1, s2, _, _, _⟩ := three_cells (blk_later HS2.out hb3)
      have HCK3 : Hid _ := HCK.out w3 _ (HV2.out.later hb3)
      have HB3 : Hid (Below w.heap.size w w3) := bnext HB2.out hb3
      clear HEN2 hb3 HCK HV2
      go_wp2_with fail
      refine Calls.mono HCK3.out ?_
      rintro e w4 ⟨rfl, hb4⟩
      have HB4 : Hid (Below w.heap.size w w4) := bnext HB3.out hb4
      clear hb4 HCK3
      go_wp2_with fail
      refine Calls.mono (HDO.out _) ?_
      rintro e w5 ⟨rfl, hb5⟩
      have HB5 : Hid (Below w.heap.size w w5) := bnext HB4.out hb5
      clear hb5
      go_wp2
      go_ret
      exact ⟨rfl, HB5.out⟩

set_option maxRecDepth 100000 in
theorem shardsWay_lifted (os : Os) (started : os.Started) (H : Type) (enc : TypeId × Value → H) :
    ReturnsInHanded {} Try.checked os 4 .any (Rows.shardsWaySpec.pre6 enc Try.prog Try.f4 Rows.shardsWayRow.domain false) (Rows.shardsWaySpec.post enc Try.prog Try.f4 false true false false) := by
  refine returnsInHanded_of_change (C := Try.checked) Try.own started (by kernel_rfl) Try.func4
    (ChangeSpec.witness6 (enc := enc) (C := Try.checked) false ⟨#[], #[.string ByteArray.empty], []⟩ 8 (by kernel_rfl) (by kernel_rfl) (by kernel_rfl) (by kernel_rfl)) ?_
  intro W base args ds gs before hval0 hW hcnd _
  have hval : ∀ (j : Nat) t v, Try.f4.params[j]? = some t → args[j]? = some v → Value.okWide Try.prog W .any base t v := hval0
  have hW' := hW
  obtain ⟨p, q, hA0, hV, rfl, hfz, hnd⟩ := hW
  have hA : DataW.TrodAll enc Try.prog W 0 (fun _ => true) true Try.f4.params.toList args.toList ds p := hA0
  rw [Try.params4] at hA hval
  obtain ⟨v0, vs0, d0, ds0, p0, q0, hargs, rfl, rfl, h0, r0⟩ := trodAll_cons hA
  obtain ⟨rfl, rfl, rfl⟩ := trodAll_nil r0
  obtain rfl : args = #[v0] := by cases args; simp_all
  obtain ⟨rfl, rfl⟩ := trodVars_none hV
  obtain ⟨a0, rfl, rfl, rfl, w0⟩ := open_string Try.underlying9 (hval 0 9 v0 rfl rfl) h0
  clear hA0 hval0
  simp only [List.append_nil] at hW'
  refine (shardsWay_walk a0 W w0).mono fun e W' ⟨he, bel⟩ => ?_
  subst he
  exact ⟨_, rfl, _, _, _, [], [], [], hW', trodAll_mk1 (shut_bool Try.underlying4 _), (trodAll_cons_mk (shut_string Try.underlying9 w0) trodAll_mk0), rfl, bel.frame _, fun h => by cases h⟩

theorem shardsWay_holds : Rows.ShardsWaySaid :=
  OpenClaim.holds_of_wide 4 Try.f4 rfl rfl rfl rfl rfl rfl rfl ⟨rfl, rfl, rfl, rfl, rfl⟩ rfl rfl rfl rfl rfl (by kernel_rfl) Try.func4 (by kernel_rfl)
    (of_decide_eq_true (by kernel_rfl)) (by unfold Func.isWrapper; first | (rw [if_pos (by decide +kernel)]; kernel_rfl) | (rw [if_neg (by decide +kernel)]; exact ⟨rfl, rfl⟩))
    (fun os started H enc _ => shardsWay_lifted os started H enc)

end Go.Proofs.Ytbhngncnhabbkaa
