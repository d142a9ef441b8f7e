/- SumsPages: for every list of strings the call returns true: the sum of texts that stand one behind the other is what they come to, joined from the last one on (P3.4). No conditions. -/
import Derived.Test.YtlhmcebgfpcokaaSFrame
import Derived.SliceStrings
namespace Go.Proofs.Ytlhmcebgfpcokaa
open Go.ChangeShapes Go.WideShapes Go.ChangeAt Go.RowKit
open Go.ChangeMaps (open_string shut_string)

/-- A slice of strings that came in. -/
def IsStrs (w : World) (a : Option Addr) (len cap : Nat) (zs : List ByteArray) : Prop :=
  (a = none ∧ len = 0 ∧ cap = 0 ∧ zs = []) ∨
  ∃ x, a = some x ∧ len ≤ cap ∧ cap ≤ maxLen ∧ zs.length = cap ∧ (∀ i, i < zs.length → w.cell? (x.add i) = some (.string (zs.getD i ByteArray.empty))) ∧ ∀ s ∈ zs, s.size ≤ maxLen

/-- The slice v holds the strings l. -/
def Strs (W : World) (v : Value) (l : List ByteArray) : Prop :=
  ∃ a cap, v = .slice a l.length cap ∧ (l = [] ∨ ∃ b off, a = some ⟨b, off, none⟩ ∧ ∀ j, j < l.length → W.cell? ⟨b, off + j, none⟩ = some (.string (l.getD j ByteArray.empty)))

theorem getD_take (l : List ByteArray) (n j : Nat) (h : j < n) : (l.take n).getD j ByteArray.empty = l.getD j ByteArray.empty := by
  simp [List.getD, h]

theorem strs_at {w : World} {a : Addr} {zs : List ByteArray} (h : ∀ i, i < zs.length → w.cell? (a.add i) = some (.string (zs.getD i ByteArray.empty))) (hp : 0 < zs.length) :
    ∃ b off, a = ⟨b, off, none⟩ ∧ ∀ j, j < zs.length → w.cell? ⟨b, off + j, none⟩ = some (.string (zs.getD j ByteArray.empty)) := by
  obtain ⟨b, off, spot⟩ := a
  have hspot : spot = none := by simpa [Addr.add] using World.cell?_spot (h 0 hp)
  subst hspot
  exact ⟨b, off, rfl, fun j hj => by rw [← Go.WideShapes.add_plain]; exact h j hj⟩

theorem strs_of_row {w : World} {a : Option Addr} {len cap : Nat} {zs : List ByteArray} (h : IsStrs w a len cap zs) : ∃ l, len = l.length ∧ l.length ≤ maxLen ∧ Strs w (.slice a len cap) l ∧ ∀ s ∈ l, s.size ≤ maxLen := by
  rcases h with ⟨rfl, rfl, rfl, rfl⟩ | ⟨x, rfl, h1, h2, h3, h4, h5⟩
  · exact ⟨[], rfl, Nat.zero_le _, ⟨none, 0, rfl, .inl rfl⟩, fun z hz => by simp at hz⟩
  · have hlen : (zs.take len).length = len := by rw [List.length_take]; omega
    refine ⟨zs.take len, hlen.symm, by omega, ?_, fun s hs => h5 s (List.mem_of_mem_take hs)⟩
    refine ⟨some x, cap, by rw [hlen], ?_⟩
    by_cases h0 : len = 0
    · left; rw [h0]; rfl
    · obtain ⟨b, off, rfl, hc⟩ := strs_at h4 (by omega)
      refine .inr ⟨b, off, rfl, fun j hj => ?_⟩
      rw [hlen] at hj
      rw [getD_take _ _ _ hj]
      exact hc j (by omega)

/-- The texts, one behind the other. -/
def flat (l : List ByteArray) : List UInt8 := l.flatMap fun s => s.data.toList

theorem flat_take (l : List ByteArray) (k : Nat) (h : k < l.length) : flat (l.take (k + 1)) = flat (l.take k) ++ (l.getD k ByteArray.empty).data.toList := by
  unfold flat
  rw [List.take_add_one, List.getElem?_eq_getElem h, List.flatMap_append]
  simp [List.getD, List.getElem?_eq_getElem h]
theorem flat_drop (l : List ByteArray) (k : Nat) (h : k < l.length) : flat (l.drop k) = (l.getD k ByteArray.empty).data.toList ++ flat (l.drop (k + 1)) := by
  unfold flat
  rw [List.drop_eq_getElem_cons h, List.flatMap_cons]
  simp [List.getD, List.getElem?_eq_getElem h]
theorem flat_le (l : List ByteArray) (k : Nat) : (flat (l.drop k)).length ≤ (flat l).length := by
  unfold flat
  have e : l.flatMap (fun s => s.data.toList) = (l.take k).flatMap (fun s => s.data.toList) ++ (l.drop k).flatMap (fun s => s.data.toList) := by
    rw [← List.flatMap_append, List.take_append_drop]
  rw [e, List.length_append]; omega

/-- The texts from the place m on, joined to the one ahead of them. -/
theorem flat_join (l : List ByteArray) (m : Nat) (h : m < l.length) : Cr.join (Cr.sum (l.getD m ByteArray.empty).data.toList) (Cr.sum (flat (l.drop (m + 1)))) (flat (l.drop (m + 1))).length = Cr.sum (flat (l.drop m)) := by
  rw [flat_drop l m h, Cr.sum_append]

set_option maxHeartbeats 1000000 in
theorem pages_none (a : Option Addr) (cap : Nat) (w : World) :
    Calls Try.prog 8 #[.slice a 0 cap] w fun e w' => e = .returned (.bool true) ∧ Below w.heap.size w w' := by
  have H := sum_any ⟨#[]⟩ w (by decide)
  rw [show Cr.sum (⟨#[]⟩ : ByteArray).data.toList = 0 from Cr.sum_none] at H
  go_enter Try.func8, Try.ntmps8
  go_wp2
  refine wp_loop_rounds 1 ?_
  rw [rounds_succ]
  go_wp2
  refine wp_loop_rounds 1 ?_
  rw [rounds_succ]
  go_wp2_with fail
  refine H.mono ?_
  rintro e w' ⟨rfl, rfl⟩
  go_wp2_with fail
  refine (check_any _).mono ?_
  rintro e w' ⟨rfl, rfl⟩
  go_wp2
  go_ret
  exact ⟨rfl, Below.refl _ _⟩

set_option maxHeartbeats 2000000 in
theorem pages_some (b off cap : Nat) (l : List ByteArray) (w : World) (hl : l.length ≤ maxLen) (hc : ∀ j, j < l.length → w.cell? ⟨b, off + j, none⟩ = some (.string (l.getD j ByteArray.empty))) :
    Calls Try.prog 8 #[.slice (some ⟨b, off, none⟩) l.length cap] w fun e w' => e = .returned (.bool true) ∧ Below w.heap.size w w' := by
  unfold maxLen at hl
  have HC : Hid _ := hc
  clear hc
  go_enter Try.func8, Try.ntmps8
  go_wp2
  go_loop [3, 4] (fun s i => ∃ (k : Nat) (A : ByteArray), k ≤ l.length ∧ i = .int .i64 k ∧ s = .string A ∧ A.size ≤ 12000 ∧ Hid (A.data.toList = flat (l.take k))) (fun _ i => l.length - (intOf i).toNat)
  case atStart => exact ⟨0, ⟨#[]⟩, Nat.zero_le _, rfl, rfl, by decide, rfl⟩
  case round =>
    obtain ⟨k, A, hk, rfl, rfl, hA, hf⟩ := hrel
    by_cases hlt : k < l.length
    · have hc1 := HC.out k hlt
      have hf2 : Hid ((A ++ l.getD k ByteArray.empty).data.toList = flat (l.take (k + 1))) := by
        show (A ++ l.getD k ByteArray.empty).data.toList = flat (l.take (k + 1))
        rw [flat_take l k hlt, ← hf.out]; simp
      generalize l.getD k ByteArray.empty = s at hc1 hf2
      by_cases h40 : 40 ≤ k
      · go_wp2_with fail
        refine (check_any _).mono ?_
        rintro e w' ⟨rfl, rfl⟩
        go_wp2
        go_ret
        exact ⟨rfl, Below.refl _ _⟩
      · by_cases hbig : (12000 : Int) - A.size < s.size
        · go_wp2_with fail
          refine (check_any _).mono ?_
          rintro e w' ⟨rfl, rfl⟩
          go_wp2
          go_ret
          exact ⟨rfl, Below.refl _ _⟩
        · go_wp2
          go_round
          case rel => exact ⟨k + 1, A ++ s, by omega, by go_num, rfl, by rw [ByteArray.size_append]; omega, hf2⟩
          case measure => simp [intOf]; omega
    · obtain rfl : k = l.length := by omega
      rw [List.take_length] at hf
      have hle : ∀ m, (flat (l.drop m)).length ≤ 12000 := by
        intro m
        have h1 := flat_le l m
        rw [← hf.out] at h1
        simp at h1
        exact Nat.le_trans h1 hA
      have HL : Hid _ := hle
      clear hle
      go_wp2
      go_loop [5, 6, 7] (fun s n i => ∃ m : Nat, m ≤ l.length ∧ i = .int .i64 ((m : Int) - 1) ∧ s = .int .u32 (Cr.sum (flat (l.drop m)) : Nat) ∧ n = .int .i64 ((flat (l.drop m)).length : Nat)) (fun _ _ i => ((intOf i) + 1).toNat)
      case atStart => exact ⟨l.length, Nat.le_refl _, rfl, by rw [List.drop_length]; rfl, by rw [List.drop_length]; rfl⟩
      case round =>
        obtain ⟨m, hm, rfl, rfl, rfl⟩ := hrel
        cases m with
        | zero =>
          have HS := sum_any A w (by omega)
          rw [hf.out] at HS
          rw [List.drop_zero]
          generalize Cr.sum (flat l) = x at HS
          go_wp2_with fail
          refine HS.mono ?_
          rintro e w' ⟨rfl, rfl⟩
          go_wp2_with fail
          refine (check_any _).mono ?_
          rintro e w' ⟨rfl, rfl⟩
          go_wp2
          go_ret
          exact ⟨rfl, Below.refl _ _⟩
        | succ m =>
          have hc1 := HC.out m (by omega)
          have hl1 := HL.out (m + 1)
          have hl0 := HL.out m
          have hfd := flat_drop l m (by omega)
          have hlen : Hid ((flat (l.drop m)).length = (l.getD m ByteArray.empty).size + (flat (l.drop (m + 1))).length) := by
            show (flat (l.drop m)).length = _
            rw [hfd, List.length_append]; simp
          have hsz : (l.getD m ByteArray.empty).size ≤ 12000 := by have := hlen.out; omega
          have HS := sum_any (l.getD m ByteArray.empty) w (by omega)
          have HJ := join_any _ _ ((flat (l.drop (m + 1))).length : Int) w (Cr.sum_lt (l.getD m ByteArray.empty).data.toList) (Cr.sum_lt (flat (l.drop (m + 1)))) (by omega) (by omega)
          rw [flat_join l m (by omega)] at HJ
          clear hfd hl0
          generalize Cr.sum (flat (l.drop (m + 1))) = u at HJ
          generalize Cr.sum (l.getD m ByteArray.empty).data.toList = v at HS HJ
          generalize l.getD m ByteArray.empty = s at hc1 HS hsz hlen
          generalize (flat (l.drop (m + 1))).length = n at hl1 HJ hlen
          go_wp2_with fail
          refine HS.mono ?_
          rintro e w' ⟨rfl, rfl⟩
          go_wp2_with fail
          refine HJ.mono ?_
          rintro e w' ⟨rfl, rfl⟩
          go_wp2
          go_round
          case rel => exact ⟨m, by omega, by go_num, rfl, by rw [hlen.out]; go_num⟩
          case measure => simp [intOf]

theorem sumsPages_walk (a : Option Addr) (cap : Nat) (l : List ByteArray) (w : World) (hlen : l.length ≤ maxLen) (hi : Strs w (.slice a l.length cap) l) (_hz : ∀ s ∈ l, s.size ≤ maxLen) :
    Calls Try.prog 8 #[.slice a l.length cap] w fun e w' => e = .returned (.bool true) ∧ Below w.heap.size w w' := by
  obtain ⟨a', cap', h, hc⟩ := hi
  obtain ⟨rfl, rfl⟩ : a = a' ∧ cap = cap' := by simpa using h
  rcases hc with rfl | ⟨b, off, rfl, hc⟩
  · exact pages_none a cap w
  · exact pages_some b off cap l w hlen hc

set_option maxRecDepth 100000 in
theorem sumsPages_lifted (os : Os) (started : os.Started) (H : Type) (enc : TypeId × Value → H) :
    ReturnsInHanded {} Try.checked os 8 .any (Rows.sumsPagesSpec.pre6 enc Try.prog Try.f8 Rows.sumsPagesRow.domain false) (Rows.sumsPagesSpec.post enc Try.prog Try.f8 false true false false) := by
  refine returnsInHanded_of_change (C := Try.checked) Try.own started (by kernel_rfl) Try.func8
    (ChangeSpec.witness6 (enc := enc) (C := Try.checked) false ⟨#[], #[.slice none 0 0], []⟩ 8 (by kernel_rfl) (by kernel_rfl) (by kernel_rfl) (by kernel_rfl)) ?_
  intro W base args ds gs before hval0 hW hcnd _
  have hval : ∀ (j : Nat) t v, Try.f8.params[j]? = some t → args[j]? = some v → Value.okWide Try.prog W .any base t v := hval0
  have hW' := hW
  obtain ⟨p, q, hA0, hV, rfl, hfz, hnd⟩ := hW
  have hA : DataW.TrodAll enc Try.prog W 0 (fun _ => true) true Try.f8.params.toList args.toList ds p := hA0
  rw [Try.params8] at hA hval
  obtain ⟨v0, vs0, d0, ds0, p0, q0, hargs, rfl, rfl, h0, r0⟩ := trodAll_cons hA
  obtain ⟨rfl, rfl, rfl⟩ := trodAll_nil r0
  obtain rfl : args = #[v0] := by cases args; simp_all
  obtain ⟨rfl, rfl⟩ := trodVars_none hV
  obtain ⟨a0, len0, cap0, rfl⟩ := okWide_slice Try.underlying34 (hval 0 34 v0 rfl rfl)
  have lt0 : ∀ x ∈ p0, x.block < W.heap.size := by obtain ⟨m, hm⟩ := h0; exact DataW.trod_lt m _ _ _ hm
  obtain ⟨z0, w0⟩ : ∃ zs, IsStrs W a0 len0 cap0 zs := by
    obtain ⟨fuel, hf⟩ := h0
    rcases open_strings Try.underlying34 Try.underlying9 (by kernel_rfl) hf with ⟨hcs, _⟩ | ⟨x, l, c, zs, hcs, _, hl, hm, hz, _, hcell, hwz⟩
    · simp [Value.cells] at hcs
      obtain ⟨rfl, rfl, rfl⟩ := hcs
      exact ⟨[], .inl ⟨rfl, rfl, rfl, rfl⟩⟩
    · simp [Value.cells] at hcs
      obtain ⟨rfl, rfl, rfl⟩ := hcs
      exact ⟨zs, .inr ⟨_, rfl, hl, hm, by simpa using hz, hcell, hwz⟩⟩
  obtain ⟨l0, rfl, n0, k0, f0⟩ := strs_of_row w0
  clear hA0 hval0
  refine (sumsPages_walk a0 cap0 l0 W n0 k0 f0).mono fun e W' ⟨he, bel⟩ => ?_
  subst he
  exact ⟨_, rfl, _, _, _, [], _, [], hW', trodAll_mk1 (shut_bool Try.underlying4 _), (trodAll_cons_mk (Below.trod Try.laidOut (by kernel_rfl) (of_decide_eq_true (by kernel_rfl)) h0 bel lt0) trodAll_mk0), rfl, bel.frame _, fun h => by cases h⟩

theorem sumsPages_holds : Rows.SumsPagesSaid :=
  OpenClaim.holds_of_wide 8 Try.f8 rfl rfl rfl rfl rfl rfl rfl ⟨rfl, rfl, rfl, rfl, rfl⟩ rfl rfl rfl rfl rfl (by kernel_rfl) Try.func8 (by kernel_rfl)
    (of_decide_eq_true (by kernel_rfl)) (by unfold Func.isWrapper; first | (rw [if_pos (by decide +kernel)]; kernel_rfl) | (rw [if_neg (by decide +kernel)]; exact ⟨rfl, rfl⟩))
    (fun os started H enc _ => sumsPages_lifted os started H enc)

end Go.Proofs.Ytlhmcebgfpcokaa
