/- PagesDecode: for every list of strings and every string the call returns true: the data of any page, and of any pages, is the document's, or there is none; the list stays (P5.1, P5.2). No conditions. -/
import Derived.Test.YtnlglmloineapaaQRef2
namespace Go.Proofs.Ytnlglmloineapaa
open Go.ChangeShapes Go.WideShapes Go.ChangeAt Go.RowKit
open Go.ChangeMaps (open_string shut_string)

/-- A list in memory of its own, with a star behind it. -/
abbrev TwinRow (w0 w : World) (g : Nat) (l : List ByteArray) : Prop :=
  w.ownsRow w0.heap.size 9 1 (.slice (some ⟨g, 0, none⟩) (l.length + 1) (l.length + 1)) (l.length + 1) (scells l ++ [.string ⟨#[42]⟩])

theorem TwinRow.strs {w0 w : World} {g : Nat} {l : List ByteArray} (h : TwinRow w0 w g l) : Strs w (.slice (some ⟨g, 0, none⟩) l.length (l.length + 1)) l := by
  refine ⟨_, _, rfl, by omega, .inr ⟨g, 0, rfl, fun j hj => ?_⟩⟩
  have := h.cellAt j (by omega)
  rw [Nat.zero_add, this, List.getElem?_append_left (by rw [scells_length]; exact hj), scells_get l j hj]
theorem TwinRow.last {w0 w : World} {g : Nat} {l : List ByteArray} (h : TwinRow w0 w g l) : w.cell? ⟨g, l.length, none⟩ = some (.string ⟨#[42]⟩) := by
  have := h.cellAt l.length (by omega)
  rw [this, List.getElem?_append_right (by rw [scells_length]; exact Nat.le_refl _), scells_length, Nat.sub_self]
  rfl
theorem append_none (W : World) (g m cap : Nat) (i : TypeInfo) (hi : Try.prog.info? 9 = some i) (ty : TypeId) :
    (Builtin.append_ #[26, 26] ty #[.slice (some ⟨g, 0, none⟩) 0 m, .slice none 0 cap]).run Try.prog W = .ok (.slice (some ⟨g, 0, none⟩) 0 m) W := by
  simp [Builtin.append_, run_underlying Try.underlying26, sizeOf, typeInfo, hi, Builtin.lenOf, Builtin.firstCells, storeCells]

set_option maxRecDepth 100000 in
set_option maxHeartbeats 2000000 in
theorem pagesDecode_none (cap : Nat) (s : ByteArray) (w : World) (hk : Strs w (.slice none 0 cap) []) (hs : s.size ≤ 9223372036854775807) (h3 : ¬ 300 < s.size) :
    Calls Try.prog 4 #[.slice none 0 cap, .string s] w fun e w' => e = .returned (.bool true) ∧ Below w.heap.size w w' := by
  have hfew : Few [] 30 := ⟨Nat.zero_le _, fun s hs => by simp at hs⟩
  have HZ : Hid (∀ s ∈ ([] : List ByteArray), s.size ≤ 9223372036854775807) := fun s hs => by simp at hs
  have HG : Hid (Calls _ _ _ _ _) := great_any _ [] 30 w hk (by simp) (by decide) (fun s hs => by simp at hs)
  have HK : Hid (Strs w (.slice none 0 cap) []) := hk
  have HD : Hid (∀ W, Calls _ _ _ _ _) := fun W => decode_any s W hs
  have HR : Hid (∀ W, Calls _ _ _ _ _) := fun W => rdecode_any s W hs
  have HJ : Hid (∀ W v, Strs W v ([] : List ByteArray) → Calls _ _ _ _ _) := fun W v h => join_any v ([] : List ByteArray) W h (by have := hfew.1; omega) HZ.out
  have HI : Hid (∀ W v, Strs W v ([] : List ByteArray) → Calls _ _ _ _ _) := fun W v h => rjoin_any v ([] : List ByteArray) W h (by have := hfew.1; omega) HZ.out
  have HX : Hid (∀ W v u, Strs W v ([] : List ByteArray) → Strs W u ([] : List ByteArray) → Calls Try.prog 11 #[v, u] W fun e w' => e = .returned (.bool true) ∧ Below W.heap.size W w') := fun W v u h1 h2 => by
    have := texts_any v u ([] : List ByteArray) ([] : List ByteArray) W h1 h2 (by have := hfew.1; omega) (by have := hfew.1; omega)
    rw [decide_eq_true rfl] at this
    exact this
  have hl30 := hfew.1
  generalize (⟨(Pg.dec s.data.toList).1.toArray⟩ : ByteArray) = p1 at HD HR
  generalize (Pg.dec s.data.toList).2 = e1 at HD HR
  generalize (⟨(Pg.join (lists ([] : List ByteArray))).1.toArray⟩ : ByteArray) = p2 at HJ HI
  generalize (Pg.join (lists ([] : List ByteArray))).2 = e2 at HJ HI
  rw [decide_eq_true hfew] at HG
  clear HZ hfew
  obtain ⟨i0, hi, hz0, hz1, hz2⟩ := info_parts Try.stringInfo
  go_enter Try.func4, Try.ntmps4
  go_wp2_with fail
  refine Calls.mono HG.out ?_
  rintro e wg ⟨rfl, rfl⟩
  clear HG
  go_wp2_with (at_make; refine wpList_make_own _ rfl _ _ 26 rfl wg.heap.size 9 i0 (.string ⟨#[]⟩) 1 Try.underlying26 hi hz0 hz1 _ _ _ 1 rfl rfl rfl ?b2 ?b3 ?b4 ?_)
  case b2 => rw [hz2]; decide
  case b3 => decide
  case b4 => exact Nat.le_refl _
  intro w1 hown1 hgrow1
  have hap := append_none w1 wg.heap.size 1 cap i0 hi 26
  have hb1 : Below wg.heap.size wg w1 := (Below.refl _ _).grown hgrow1 (Nat.le_refl _) (by simp)
  have hb1 : Hid _ := hb1
  go_wp2_with (at_builtin; refine wpList_append_fits _ rfl _ _ 26 rfl wg.heap.size 9 i0 1 Try.underlying26 hi hz1 wg.heap.size 0 1 _ rfl (hown1.alloc _) ⟨w1.heap.size, 0, none⟩ 1 1 [.string ⟨#[42]⟩] rfl rfl (cell_one_new _ _ _) (by simp [Value.oneCell']) (by omega) ?_)
  intro w3 hown3 hgrow3
  have hb3 : Below wg.heap.size wg w3 := (hb1.out.alloc hb1.out.size _).grown hgrow3 (by have := hb1.out.size; simp; omega) (fun q e => by cases e; exact Nat.le_refl _)
  have HT : Hid (TwinRow wg w3 wg.heap.size ([] : List ByteArray)) := hown3
  have HB3 : Hid (Below wg.heap.size wg w3) := hb3
  clear hown1 hgrow1 hap hgrow3 hown3 hb3 hi hz0 hz1 hz2
  go_wp2_with fail
  refine (HD.out _).mono ?_
  rintro e w4 ⟨rfl, hb4⟩
  have HB4 : Hid (Below wg.heap.size wg w4) := bnext HB3.out hb4
  have HT4 : Hid (TwinRow wg w4 wg.heap.size ([] : List ByteArray)) := row_after HT.out hb4
  clear hb4 HB3 HT
  go_wp2_with fail
  refine (HR.out _).mono ?_
  rintro e w5 ⟨rfl, hb5⟩
  have HB5 : Hid (Below wg.heap.size wg w5) := bnext HB4.out hb5
  have HT5 : Hid (TwinRow wg w5 wg.heap.size ([] : List ByteArray)) := row_after HT4.out hb5
  clear hb5 HB4 HT4
  go_wp2_with fail
  refine (HJ.out _ _ HT5.out.strs).mono ?_
  rintro e w6 ⟨rfl, hb6⟩
  have HB6 : Hid (Below wg.heap.size wg w6) := bnext HB5.out hb6
  have HT6 : Hid (TwinRow wg w6 wg.heap.size ([] : List ByteArray)) := row_after HT5.out hb6
  clear hb6 HB5 HT5
  go_wp2_with fail
  refine (HI.out _ _ (HK.out.later HB6.out)).mono ?_
  rintro e w7 ⟨rfl, hb7⟩
  have HB7 : Hid (Below wg.heap.size wg w7) := bnext HB6.out hb7
  have HT7 : Hid (TwinRow wg w7 wg.heap.size ([] : List ByteArray)) := row_after HT6.out hb7
  clear hb7 HB6 HT6
  go_wp2_with fail
  refine (HX.out _ _ _ HT7.out.strs (HK.out.later HB7.out)).mono ?_
  rintro e w8 ⟨rfl, hb8⟩
  have HB8 : Hid (Below wg.heap.size wg w8) := bnext HB7.out hb8
  have hc8 : w8.cell? ⟨wg.heap.size, 0, none⟩ = some (.string ⟨#[42]⟩) := cell_after hb8 HT7.out.last
  clear hb8 HB7 HT7
  go_wp2_with fail
  refine (does_any _).mono ?_
  rintro e w9 ⟨rfl, hb9⟩
  have HB9 : Hid (Below wg.heap.size wg w9) := bnext HB8.out hb9
  clear hb9 HB8
  go_wp2
  go_ret
  exact ⟨rfl, HB9.out⟩

set_option maxRecDepth 100000 in
set_option maxHeartbeats 2000000 in
theorem pagesDecode_some (ad : Addr) (cap : Nat) (l : List ByteArray) (s : ByteArray) (w : World) (hk : Strs w (.slice (some ad) l.length cap) l) (hz : ∀ s ∈ l, s.size ≤ 9223372036854775807) (hlen : l.length ≤ 9223372036854775807) (hs : s.size ≤ 9223372036854775807) (h3 : ¬ 300 < s.size) (hfew : Few l 30)
    (hc : ∀ j u, (scells l)[j]? = some u → w.cell? (ad.add j) = some u) :
    Calls Try.prog 4 #[.slice (some ad) l.length cap, .string s] w fun e w' => e = .returned (.bool true) ∧ Below w.heap.size w w' := by
  have HZ : Hid (∀ s ∈ l, s.size ≤ 9223372036854775807) := hz
  have HG : Hid (Calls _ _ _ _ _) := great_any _ l 30 w hk hlen (by decide) hz
  have HK : Hid (Strs w (.slice (some ad) l.length cap) l) := hk
  have HC : Hid _ := hc
  clear hz hk hc
  have HD : Hid (∀ W, Calls _ _ _ _ _) := fun W => decode_any s W hs
  have HR : Hid (∀ W, Calls _ _ _ _ _) := fun W => rdecode_any s W hs
  have HJ : Hid (∀ W v, Strs W v l → Calls _ _ _ _ _) := fun W v h => join_any v l W h (by have := hfew.1; omega) HZ.out
  have HI : Hid (∀ W v, Strs W v l → Calls _ _ _ _ _) := fun W v h => rjoin_any v l W h (by have := hfew.1; omega) HZ.out
  have HX : Hid (∀ W v u, Strs W v l → Strs W u l → Calls Try.prog 11 #[v, u] W fun e w' => e = .returned (.bool true) ∧ Below W.heap.size W w') := fun W v u h1 h2 => by
    have := texts_any v u l l W h1 h2 (by have := hfew.1; omega) (by have := hfew.1; omega)
    rw [decide_eq_true rfl] at this
    exact this
  have hl30 := hfew.1
  generalize (⟨(Pg.dec s.data.toList).1.toArray⟩ : ByteArray) = p1 at HD HR
  generalize (Pg.dec s.data.toList).2 = e1 at HD HR
  generalize (⟨(Pg.join (lists l)).1.toArray⟩ : ByteArray) = p2 at HJ HI
  generalize (Pg.join (lists l)).2 = e2 at HJ HI
  rw [decide_eq_true hfew] at HG
  clear HZ hfew
  obtain ⟨i0, hi, hz0, hz1, hz2⟩ := info_parts Try.stringInfo
  go_enter Try.func4, Try.ntmps4
  go_wp2_with fail
  refine Calls.mono HG.out ?_
  rintro e wg ⟨rfl, rfl⟩
  clear HG
  go_wp2_with (at_make; refine wpList_make_own _ rfl _ _ 26 rfl wg.heap.size 9 i0 (.string ⟨#[]⟩) 1 Try.underlying26 hi hz0 hz1 _ _ _ (l.length + 1) rfl rfl (by simp) ?b2 ?b3 ?b4 ?_)
  case b2 => rw [hz2]; omega
  case b3 => unfold maxLen; omega
  case b4 => exact Nat.le_refl _
  intro w1 hown1 hgrow1
  have hb1 : Below wg.heap.size wg w1 := (Below.refl _ _).grown hgrow1 (Nat.le_refl _) (by simp)
  have hb1 : Hid _ := hb1
  go_wp2_with (at_builtin; refine wpList_append_fits _ rfl _ _ 26 rfl wg.heap.size 9 i0 1 Try.underlying26 hi hz1 wg.heap.size 0 (l.length + 1) _ rfl hown1 ad l.length cap (scells l) rfl (by rw [scells_length, Nat.mul_one]) (fun j u hu => cell_after hb1.out (HC.out j u hu)) (scells_one l) (by omega) ?_)
  intro w2 hown2 hgrow2
  have hb2 : Below wg.heap.size wg w2 := hb1.out.grown hgrow2 hb1.out.size (fun q e => by cases e; exact Nat.le_refl _)
  have hb2 : Hid _ := hb2
  clear hown1 hgrow1 hgrow2 hb1
  go_wp2_with (at_builtin; refine wpList_append_fits _ rfl _ _ 26 rfl wg.heap.size 9 i0 1 Try.underlying26 hi hz1 wg.heap.size l.length (l.length + 1) _ rfl (hown2.alloc _) ⟨w2.heap.size, 0, none⟩ 1 1 [.string ⟨#[42]⟩] rfl rfl (cell_one_new _ _ _) (by simp [Value.oneCell']) (by omega) ?_)
  intro w3 hown3 hgrow3
  have hb3 : Below wg.heap.size wg w3 := (hb2.out.alloc hb2.out.size _).grown hgrow3 (by have := hb2.out.size; simp; omega) (fun q e => by cases e; exact Nat.le_refl _)
  have HT : Hid (TwinRow wg w3 wg.heap.size l) := (show TwinRow wg w3 wg.heap.size l by unfold TwinRow; simpa using hown3)
  have HB3 : Hid (Below wg.heap.size wg w3) := hb3
  clear hown2 hgrow3 hown3 hb3 hi hz0 hz1 hz2
  go_wp2_with fail
  refine (HD.out _).mono ?_
  rintro e w4 ⟨rfl, hb4⟩
  have HB4 : Hid (Below wg.heap.size wg w4) := bnext HB3.out hb4
  have HT4 : Hid (TwinRow wg w4 wg.heap.size l) := row_after HT.out hb4
  clear hb4 HB3 HT
  go_wp2_with fail
  refine (HR.out _).mono ?_
  rintro e w5 ⟨rfl, hb5⟩
  have HB5 : Hid (Below wg.heap.size wg w5) := bnext HB4.out hb5
  have HT5 : Hid (TwinRow wg w5 wg.heap.size l) := row_after HT4.out hb5
  clear hb5 HB4 HT4
  go_wp2_with fail
  refine (HJ.out _ _ HT5.out.strs).mono ?_
  rintro e w6 ⟨rfl, hb6⟩
  have HB6 : Hid (Below wg.heap.size wg w6) := bnext HB5.out hb6
  have HT6 : Hid (TwinRow wg w6 wg.heap.size l) := row_after HT5.out hb6
  clear hb6 HB5 HT5
  go_wp2_with fail
  refine (HI.out _ _ (HK.out.later HB6.out)).mono ?_
  rintro e w7 ⟨rfl, hb7⟩
  have HB7 : Hid (Below wg.heap.size wg w7) := bnext HB6.out hb7
  have HT7 : Hid (TwinRow wg w7 wg.heap.size l) := row_after HT6.out hb7
  clear hb7 HB6 HT6
  go_wp2_with fail
  refine (HX.out _ _ _ HT7.out.strs (HK.out.later HB7.out)).mono ?_
  rintro e w8 ⟨rfl, hb8⟩
  have HB8 : Hid (Below wg.heap.size wg w8) := bnext HB7.out hb8
  have hc8 := cell_after hb8 HT7.out.last
  clear hb8 HB7 HT7
  go_wp2_with fail
  refine (does_any _).mono ?_
  rintro e w9 ⟨rfl, hb9⟩
  have HB9 : Hid (Below wg.heap.size wg w9) := bnext HB8.out hb9
  clear hb9 HB8
  go_wp2
  go_ret
  exact ⟨rfl, HB9.out⟩

set_option maxHeartbeats 1000000 in
theorem pagesDecode_walk (a : Option Addr) (cap : Nat) (l : List ByteArray) (s : ByteArray) (w : World) (hlen : l.length ≤ maxLen) (hk : Strs w (.slice a l.length cap) l) (hz : ∀ s ∈ l, s.size ≤ maxLen) (hs : s.size ≤ maxLen) :
    Calls Try.prog 4 #[.slice a l.length cap, .string s] w fun e w' => e = .returned (.bool true) ∧ Below w.heap.size w w' := by
  unfold maxLen at hlen hz hs
  by_cases hfew : Few l 30
  · by_cases h3 : 300 < s.size
    · have HG : Hid (Calls _ _ _ _ _) := great_any _ l 30 w hk hlen (by decide) hz
      rw [decide_eq_true hfew] at HG
      clear hk hz
      go_enter Try.func4, Try.ntmps4
      go_wp2_with fail
      refine Calls.mono HG.out ?_
      rintro e w1 ⟨rfl, rfl⟩
      go_wp2
      go_ret
      exact ⟨rfl, Below.refl _ _⟩
    · have hk2 := hk
      obtain ⟨a', cap', e, _, h⟩ := hk2
      obtain ⟨rfl, rfl⟩ : a = a' ∧ cap = cap' := by simpa using e
      cases a with
      | none =>
        obtain rfl : l = [] := by
          rcases h with h | ⟨b, off, h, _⟩
          · exact h
          · cases h
        exact pagesDecode_none cap s w hk hs h3
      | some ad =>
        refine pagesDecode_some ad cap l s w hk hz hlen hs h3 hfew ?_
        rcases h with rfl | ⟨b, off, h, hc⟩
        · intro j u hu; simp [scells] at hu
        · obtain rfl : ad = ⟨b, off, none⟩ := by simpa using h
          exact strs_news hc
  · have HG : Hid (Calls _ _ _ _ _) := great_any _ l 30 w hk hlen (by decide) hz
    rw [decide_eq_false hfew] at HG
    clear hk hz hfew
    go_enter Try.func4, Try.ntmps4
    go_wp2_with fail
    refine Calls.mono HG.out ?_
    rintro e w1 ⟨rfl, rfl⟩
    go_wp2
    go_ret
    exact ⟨rfl, Below.refl _ _⟩

set_option maxRecDepth 100000 in
theorem pagesDecode_lifted (os : Os) (started : os.Started) (H : Type) (enc : TypeId × Value → H) :
    ReturnsInHanded {} Try.checked os 4 .any (Rows.pagesDecodeSpec.pre6 enc Try.prog Try.f4 Rows.pagesDecodeRow.domain false) (Rows.pagesDecodeSpec.post enc Try.prog Try.f4 false true false false) := by
  refine returnsInHanded_of_change (C := Try.checked) Try.own started (by kernel_rfl) Try.func4
    (ChangeSpec.witness6 (enc := enc) (C := Try.checked) false ⟨#[], #[.slice none 0 0, .string ByteArray.empty], []⟩ 8 (by kernel_rfl) (by kernel_rfl) (by kernel_rfl) (by kernel_rfl)) ?_
  intro W base args ds gs before hval0 hW hcnd _
  have hval : ∀ (j : Nat) t v, Try.f4.params[j]? = some t → args[j]? = some v → Value.okWide Try.prog W .any base t v := hval0
  have hW' := hW
  obtain ⟨p, q, hA0, hV, rfl, hfz, hnd⟩ := hW
  have hA : DataW.TrodAll enc Try.prog W 0 (fun _ => true) true Try.f4.params.toList args.toList ds p := hA0
  rw [Try.params4] at hA hval
  obtain ⟨v0, vs0, d0, ds0, p0, q0, hargs, rfl, rfl, h0, r0⟩ := trodAll_cons hA
  obtain ⟨v1, vs1, d1, ds1, p1, q1, rfl, rfl, rfl, h1, r1⟩ := trodAll_cons r0
  obtain ⟨rfl, rfl, rfl⟩ := trodAll_nil r1
  obtain rfl : args = #[v0, v1] := by cases args; simp_all
  obtain ⟨rfl, rfl⟩ := trodVars_none hV
  obtain ⟨a0, len0, cap0, rfl⟩ := okWide_slice Try.underlying26 (hval 0 26 v0 rfl rfl)
  have lt0 : ∀ x ∈ p0, x.block < W.heap.size := by obtain ⟨m, hm⟩ := h0; exact DataW.trod_lt m _ _ _ hm
  obtain ⟨z0, w0⟩ : ∃ zs, IsStrs W a0 len0 cap0 zs := by
    obtain ⟨fuel, hf⟩ := h0
    rcases open_strings Try.underlying26 Try.underlying9 (by kernel_rfl) hf with ⟨hcs, _⟩ | ⟨x, l, c, zs, hcs, _, hl, hm, hz, _, hcell, hwz⟩
    · simp [Value.cells] at hcs
      obtain ⟨rfl, rfl, rfl⟩ := hcs
      exact ⟨[], .inl ⟨rfl, rfl, rfl, rfl⟩⟩
    · simp [Value.cells] at hcs
      obtain ⟨rfl, rfl, rfl⟩ := hcs
      exact ⟨zs, .inr ⟨_, rfl, hl, hm, by simpa using hz, hcell, hwz⟩⟩
  obtain ⟨l0, rfl, n0, k0, f0⟩ := strs_of_row w0
  obtain ⟨a1, rfl, rfl, rfl, w1⟩ := open_string Try.underlying9 (hval 1 9 v1 rfl rfl) h1
  clear hA0 hval0
  refine (pagesDecode_walk a0 cap0 l0 a1 W n0 k0 f0 w1).mono fun e W' ⟨he, bel⟩ => ?_
  subst he
  exact ⟨_, rfl, _, _, _, [], _, [], hW', trodAll_mk1 (shut_bool Try.underlying4 _), (trodAll_cons_mk (Below.trod Try.laidOut (by kernel_rfl) (of_decide_eq_true (by kernel_rfl)) h0 bel lt0) (trodAll_cons_mk (shut_string Try.underlying9 w1) trodAll_mk0)), rfl, bel.frame _, fun h => by cases h⟩

theorem pagesDecode_holds : Rows.PagesDecodeSaid :=
  OpenClaim.holds_of_wide 4 Try.f4 rfl rfl rfl rfl rfl rfl rfl ⟨rfl, rfl, rfl, rfl, rfl⟩ rfl rfl rfl rfl rfl (by kernel_rfl) Try.func4 (by kernel_rfl)
    (of_decide_eq_true (by kernel_rfl)) (by unfold Func.isWrapper; first | (rw [if_pos (by decide +kernel)]; kernel_rfl) | (rw [if_neg (by decide +kernel)]; exact ⟨rfl, rfl⟩))
    (fun os started H enc _ => pagesDecode_lifted os started H enc)

end Go.Proofs.Ytnlglmloineapaa
