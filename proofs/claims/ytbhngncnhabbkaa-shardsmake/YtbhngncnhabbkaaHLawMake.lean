/- THE STATEMENT ShardsMake: the shard that Make tells of any edges and of any part is the document's, and the list stays. For every list and every part; of a list of more than 300 edges nothing is asked. -/
import Derived.Test.YtbhngncnhabbkaaHApp
import Derived.Deep.RegionHeld3
namespace Go.Proofs.Ytbhngncnhabbkaa
open Go.ChangeShapes Go.WideShapes Go.ChangeAt Go.RowKit

/-- What the law's last region keeps: what was there, and the part's two cells. -/
theorem S_later {w W W' : World} {a b : Addr} {x y : Value} (h : Below w.heap.size w W ∧ W.cell? a = some x ∧ W.cell? b = some y) (hb : Below W.heap.size W W') : Below w.heap.size w W' ∧ W'.cell? a = some x ∧ W'.cell? b = some y :=
  ⟨bnext h.1 hb, cell_after hb h.2.1, cell_after hb h.2.2⟩

theorem mk_small {l : List (Int × Int)} {p : Int × Int} (hl : l.length ≤ 300) : (Sh.mk l p).2.length ≤ 1000000000000 ∧ ∀ q ∈ (Sh.mk l p).2, q.length ≤ 1000000000000 := by
  unfold Sh.mk
  split
  · rename_i hm
    have hmp := Sh.mayP_iff.1 hm
    dsimp only
    refine ⟨by rw [Sh.ofP_len]; omega, fun q hq => ?_⟩
    unfold Sh.ofP at hq
    obtain ⟨i, _, rfl⟩ := List.mem_map.1 hq
    have := Sh.ends_len l (p.1 + i)
    omega
  · exact ⟨by decide, fun q hq => by simp [Sh.none_] at hq⟩

set_option maxHeartbeats 4000000 in
set_option maxRecDepth 100000 in
theorem shardsMake_walk (v : Value) (l : List (Int × Int)) (p : Int × Int) (w : World) (h : Edg w v l) (hb63 : l.length ≤ 9223372036854775807) (hp1 : -9223372036854775808 ≤ p.1 ∧ p.1 ≤ 9223372036854775807) (hp2 : -9223372036854775808 ≤ p.2 ∧ p.2 ≤ 9223372036854775807) :
    Calls Try.prog 3 #[v, .agg #[.int .i64 p.1, .int .i64 p.2]] w fun e w' => e = .returned (.bool true) ∧ Below w.heap.size w w' := by
  have HMA : Hid (∀ W v, Edg W v l → l.length ≤ 300 → Calls Try.prog 6 #[v, .agg #[.int .i64 p.1, .int .i64 p.2]] W fun e w' => ∃ u, e = .returned (.agg (scells (Sh.mk l p) u)) ∧ Lists w' u (Sh.mk l p).2 ∧ Below W.heap.size W w') := fun W v h1 h2 => smake_any v l p W h1 (by omega) ⟨hp1, hp2⟩
  have HMB : Hid (∀ W v, Edg W v l → l.length ≤ 300 → Calls Try.prog 7 #[v, .agg #[.int .i64 p.1, .int .i64 p.2]] W fun e w' => ∃ u, e = .returned (.agg (scells (Sh.mk l p) u)) ∧ Lists w' u (Sh.mk l p).2 ∧ Below W.heap.size W w') := fun W v h1 h2 => rmake_any v l p W h1 h2 ⟨hp1, hp2⟩
  obtain ⟨s, hs⟩ : ∃ s, Sh.mk l p = s := ⟨_, rfl⟩
  have HSM : Hid (l.length ≤ 300 → ∀ W u v, Lists W u s.2 → Lists W v s.2 → Calls Try.prog 5 #[.agg (scells s u), .agg (scells s v)] W fun e w' => e = .returned (.bool true) ∧ Below W.heap.size W w') := fun hl W u v h1 h2 => by
    have hf := mk_small (l := l) (p := p) hl
    rw [hs] at hf
    have := ssame_any s s u v W h1 h2 hf hf
    rwa [decide_eq_true rfl] at this
  rw [hs] at HMA HMB
  clear hs
  obtain ⟨⟨s1, s2⟩, o⟩ := s
  obtain ⟨p1, p2⟩ := p
  unfold scells at HMA HMB HSM
  dsimp only at hp1 hp2 HMA HMB HSM ⊢
  have HSE : Hid (∀ W u v, Edg W u l → Edg W v l → l.length ≤ 300 → Calls Try.prog 8 #[u, v] W fun e w' => e = .returned (.bool true) ∧ Below W.heap.size W w') := fun W u v h1 h2 h3 => by
    have := same_edg u v l l W h1 h2 (by omega) (by omega)
    rwa [decide_eq_true rfl] at this
  have HDO : Hid (∀ W, Calls Try.prog 9 #[] W fun e w' => e = .returned (.bool true) ∧ Below W.heap.size W w') := fun W => sdoes_any W
  obtain ⟨wa, hwa⟩ : ∃ wa, w.alloc (.cells #[.int .i64 p1, .int .i64 p2] 24) = wa := ⟨_, rfl⟩
  have HB : Hid (Below w.heap.size w wa) := by rw [Hid, ← hwa]; exact (Below.refl _ w).alloc (Nat.le_refl _) _
  have HP : Hid (wa.heap[w.heap.size]? = some (.cells #[.int .i64 p1, .int .i64 p2] 24 (0, 0))) := by rw [Hid, ← hwa]; exact heap_alloc_new _ _
  have HE : Hid (Edg wa v l) := h.later HB.out
  obtain ⟨a, cap, rfl, _, _⟩ := id h
  clear h
  by_cases hl : l.length ≤ 300
  · have HL3 : Hid (l.length ≤ 300) := hl
    go_enter Try.func3, Try.ntmps3
    go_wp2_with (at_builtin; refine wpList_append_all wa rfl _ _ rfl wa.heap.size (.slice none 0 0) 0 [] rfl (World.ownsRow_nil _ _ _ _) _ l rfl HE.out (by omega) (Nat.le_refl _) ?_; intro v8 w8 hown8 hgrow8)
    have hb8 : Below wa.heap.size wa w8 := (Below.refl _ wa).grown hgrow8 (Nat.le_refl _) (fun q e => by simp [Value.ownBlock] at e)
    have HE1 : Hid (Edg w8 v8 l) := Edg.of_own (by simpa using hown8)
    have HE2 : Hid (Edg w8 _ l) := HE.out.later hb8
    obtain ⟨b0, b1, _, _⟩ := two_cells (blk_later HP.out hb8)
    have HB8 : Hid (Below w.heap.size w w8) := bnext HB.out hb8
    clear hown8 hgrow8 hb8 HP HE hwa
    go_wp2_with fail
    have hb80 : Below w8.heap.size w8 w8.drew := (Below.refl _ _).drew
    have b0d : w8.drew.cell? ⟨w.heap.size, 0, none⟩ = some (.int .i64 p1) := b0
    have b1d : w8.drew.cell? ⟨w.heap.size, 1, none⟩ = some (.int .i64 p2) := b1
    go_region_held3 (fun W => Below w8.heap.size w8 W ∧ W.cell? ⟨w.heap.size, 0, none⟩ = some (.int .i64 p1) ∧ W.cell? ⟨w.heap.size, 1, none⟩ = some (.int .i64 p2)) (first | assumption | exact ⟨hb80, b0d, b1d⟩)
      (first
      | (go_at_call 6; refine Calls.mono (HMA.out _ _ (HE1.out.later (by assumption : Below w8.heap.size w8 _ ∧ _ ∧ _).1) HL3.out) ?_; rintro e w' ⟨u1, rfl, HU1, hb'⟩; (try have HV1 : Lists w' _ o := Lists.later (by assumption) hb'); have B' := S_later (by assumption) hb')
      | (go_at_call 7; refine Calls.mono (HMB.out _ _ (HE2.out.later (by assumption : Below w8.heap.size w8 _ ∧ _ ∧ _).1) HL3.out) ?_; rintro e w' ⟨u2, rfl, HU2, hb'⟩; (try have HV1 : Lists w' _ o := Lists.later (by assumption) hb'); have B' := S_later (by assumption) hb')
      | (go_at_call 5; refine Calls.mono (HSM.out HL3.out _ _ _ (by assumption) (by assumption)) ?_; rintro e w' ⟨rfl, hb'⟩; have B' := S_later (by assumption) hb')
      | (go_at_call 8; refine Calls.mono (HSE.out _ _ _ (HE1.out.later (by assumption : Below w8.heap.size w8 _ ∧ _ ∧ _).1) (HE2.out.later (by assumption : Below w8.heap.size w8 _ ∧ _ ∧ _).1) HL3.out) ?_; rintro e w' ⟨rfl, hb'⟩; have B' := S_later (by assumption) hb')
      | (go_at_call 9; refine Calls.mono (HDO.out _) ?_; rintro e w' ⟨rfl, hb'⟩; have B' := S_later (by assumption) hb')
      | fail)
    all_goals
      go_wp2
      go_ret
      exact ⟨rfl, bnext HB8.out (by assumption : Below w8.heap.size w8 _ ∧ _ ∧ _).1⟩
  · go_enter Try.func3, Try.ntmps3
    go_wp2
    go_ret
    exact ⟨rfl, HB.out⟩

set_option maxRecDepth 100000 in
theorem shardsMake_lifted (os : Os) (started : os.Started) (H : Type) (enc : TypeId × Value → H) :
    ReturnsInHanded {} Try.checked os 3 .any (Rows.shardsMakeSpec.pre6 enc Try.prog Try.f3 Rows.shardsMakeRow.domain false) (Rows.shardsMakeSpec.post enc Try.prog Try.f3 false true false false) := by
  refine returnsInHanded_of_change (C := Try.checked) Try.own started (by kernel_rfl) Try.func3
    (ChangeSpec.witness6 (enc := enc) (C := Try.checked) false ⟨#[], #[.slice none 0 0, .agg #[.int .i64 0, .int .i64 0]], []⟩ 8 (by kernel_rfl) (by kernel_rfl) (by kernel_rfl) (by kernel_rfl)) ?_
  intro W base args ds gs before hval0 hW hcnd _
  have hval : ∀ (j : Nat) t v, Try.f3.params[j]? = some t → args[j]? = some v → Value.okWide Try.prog W .any base t v := hval0
  have hW' := hW
  obtain ⟨p, q, hA0, hV, rfl, hfz, hnd⟩ := hW
  have hA : DataW.TrodAll enc Try.prog W 0 (fun _ => true) true Try.f3.params.toList args.toList ds p := hA0
  rw [Try.params3] at hA hval
  obtain ⟨v0, vs0, d0, ds0, p0, q0, hargs, rfl, rfl, h0, r0⟩ := trodAll_cons hA
  obtain ⟨v1, vs1, d1, ds1, p1, q1, rfl, rfl, rfl, h1, r1⟩ := trodAll_cons r0
  obtain ⟨rfl, rfl, rfl⟩ := trodAll_nil r1
  obtain rfl : args = #[v0, v1] := by cases args; simp_all
  obtain ⟨rfl, rfl⟩ := trodVars_none hV
  have lt0 : ∀ x ∈ p0, x.block < W.heap.size := by obtain ⟨m, hm⟩ := h0; exact DataW.trod_lt m _ _ _ hm
  obtain ⟨l0, k0, n0⟩ := open_edges (hval 0 22 v0 rfl rfl) h0
  have lt1 : ∀ x ∈ p1, x.block < W.heap.size := by obtain ⟨m, hm⟩ := h1; exact DataW.trod_lt m _ _ _ hm
  obtain ⟨q1, rfl, b1, c1⟩ := open_part (hval 1 24 v1 rfl rfl) h1
  clear hA0 hval0
  refine (shardsMake_walk v0 l0 q1 W k0 n0 b1 c1).mono fun e W' ⟨he, bel⟩ => ?_
  subst he
  exact ⟨_, rfl, _, _, _, [], _, [], hW', trodAll_mk1 (shut_bool Try.underlying4 _), (trodAll_cons_mk (Below.trod Try.laidOut (by kernel_rfl) (of_decide_eq_true (by kernel_rfl)) h0 bel lt0) (trodAll_cons_mk (Below.trod Try.laidOut (by kernel_rfl) (of_decide_eq_true (by kernel_rfl)) h1 bel lt1) trodAll_mk0)), rfl, bel.frame _, fun h => by cases h⟩

theorem shardsMake_holds : Rows.ShardsMakeSaid :=
  OpenClaim.holds_of_wide 3 Try.f3 rfl rfl rfl rfl rfl rfl rfl ⟨rfl, rfl, rfl, rfl, rfl⟩ rfl rfl rfl rfl rfl (by kernel_rfl) Try.func3 (by kernel_rfl)
    (of_decide_eq_true (by kernel_rfl)) (by unfold Func.isWrapper; first | (rw [if_pos (by decide +kernel)]; kernel_rfl) | (rw [if_neg (by decide +kernel)]; exact ⟨rfl, rfl⟩))
    (fun os started H enc _ => shardsMake_lifted os started H enc)

end Go.Proofs.Ytbhngncnhabbkaa
