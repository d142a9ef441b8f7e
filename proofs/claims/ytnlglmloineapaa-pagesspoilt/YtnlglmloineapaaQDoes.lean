/- The walk of the statements' helper does: the chapter's examples. -/
import Derived.Test.YtnlglmloineapaaQSome
import Derived.Deep.RegionWith
namespace Go.Proofs.Ytnlglmloineapaa
open Go.RowKit

/-- The page of ab. -/
def pab : List UInt8 := Pg.page [97, 98]
theorem pab_length : pab.length = 128 := Pg.page_length (by decide)
theorem pab_head : ∃ q : List UInt8, pab = 0 :: 2 :: 97 :: 98 :: 0 :: 0 :: 0 :: q := by
  unfold pab
  rw [Pg.page_head]
  generalize Cr.four (Cr.sum (Pg.body [97, 98])) = f
  exact ⟨List.replicate 117 0 ++ f, rfl⟩
theorem pab_near : (((text pab).extract 0 3 ++ ⟨#[157]⟩) ++ (text pab).extract 4 128).data.toList = nearL pab 3 255 4 := by
  have h4 := extract_drop (text pab) 4
  rw [show (text pab).size = 128 from pab_length, text_toList] at h4
  have h3 := extract_take (text pab) 3
  rw [text_toList] at h3
  have e : (((text pab).extract 0 3 ++ ⟨#[157]⟩) ++ (text pab).extract 4 128).data.toList = ((text pab).extract 0 3).data.toList ++ [157] ++ ((text pab).extract 4 128).data.toList := by simp
  rw [e, h3, h4]
  obtain ⟨q, hq⟩ := pab_head
  rw [hq]
  simp [nearL]
  decide
theorem pab_turned : ¬ Pg.Ok (((text pab).extract 0 3 ++ ⟨#[157]⟩) ++ (text pab).extract 4 128).data.toList := by
  rw [pab_near]
  exact burst [97, 98] 3 255 (by decide) (by decide) (by decide) (by decide)
theorem zeros_sum : Cr.sum (List.replicate 128 0) ≠ 558161692 := by decide +kernel
theorem zeros_none : ¬ Pg.Ok (List.replicate 128 0) := by
  intro h
  have h1 := Pg.sum_page (Pg.tell (List.replicate 128 0))
  rw [Pg.page_tell h] at h1
  exact zeros_sum h1

theorem conv_one (W : World) : (convert 34 9 (.slice (some ⟨W.heap.size, 0, none⟩) 1 1)).run Try.prog (W.alloc (.cells #[.int .u8 157] 5)).drew = .ok (.string ⟨#[157]⟩) (W.alloc (.cells #[.int .u8 157] 5)).drew := by
  have hown := World.ownsRow_lit (e := 5) (size := 1) (base := W.heap.size) W #[.int .u8 157] 1 (Nat.le_refl _) (by decide) rfl
  exact conv_own _ _ _ 1 [157] rfl hown.drew

theorem xyz123 : (someL [120, 121, 122] 123).drop 122 = [122] := by decide +kernel
theorem parts_none : Pg.parts [] = [[]] := Pg.parts_short (by decide)
theorem split_none : ((Pg.split (⟨#[]⟩ : ByteArray).data.toList).map text).length = 1 := by
  rw [List.length_map, Pg.split_length, show (⟨#[]⟩ : ByteArray).data.toList = [] from rfl, parts_none]; rfl
theorem split_full : ((Pg.split (someL [120, 121, 122] 122)).map text).length = 1 := by
  rw [List.length_map, Pg.split_length, Pg.parts_short (by rw [someL_length]; omega)]; rfl
theorem split_over : (Pg.split (someL [120, 121, 122] 123)).map text = [text (Pg.page ((someL [120, 121, 122] 123).take 122)), text (Pg.page [122])] := by
  unfold Pg.split
  rw [Pg.parts_long (by rw [someL_length]; omega), xyz123, Pg.parts_short (by decide)]
  rfl
theorem fits_last : Pg.Fits [Pg.page [122]] := by
  have := Pg.fits_split [122]
  unfold Pg.split at this
  rw [Pg.parts_short (by decide)] at this
  exact this
theorem join_last : Pg.join (lists [text (Pg.page [122])]) = ([122], 0) := by
  have e : lists [text (Pg.page [122])] = [Pg.page [122]] := rfl
  rw [e, Pg.join_yes fits_last, List.map_cons, Pg.tell_page (by decide)]
  rfl

set_option maxRecDepth 100000 in
set_option maxHeartbeats 4000000 in
theorem does_any (w : World) : Calls Try.prog 14 #[] w fun e w' => e = .returned (.bool true) ∧ Below w.heap.size w w' := by
  obtain ⟨i0, hi, hz0, hz1, hz2⟩ := info_parts Try.info5
  have H1 : Hid (∀ W, Calls Try.prog 9 #[.string ⟨#[97, 98]⟩] W fun e w' => e = .returned (.tuple #[.string (text pab), .int .i64 0]) ∧ Below W.heap.size W w') := fun W => encode_any ⟨#[97, 98]⟩ W (by decide)
  have H2 : Hid (∀ W, Calls Try.prog 16 #[.string (text pab)] W fun e w' => e = .returned (.tuple #[.string ⟨#[97, 98]⟩, .int .i64 0]) ∧ Below W.heap.size W w') := fun W => by
    have := decode_any (text pab) W (by show pab.length ≤ _; rw [pab_length]; omega)
    rw [text_toList, show Pg.dec pab = ([97, 98], 0) from Pg.dec_page (by decide)] at this
    exact this
  have hps : (text pab).size = 128 := pab_length
  have H3 : Hid (∀ W, Calls Try.prog 16 #[.string (((text pab).extract 0 3 ++ ⟨#[157]⟩) ++ (text pab).extract 4 128)] W fun e w' => e = .returned (.tuple #[.string ⟨#[]⟩, .int .i64 50]) ∧ Below W.heap.size W w') := fun W => by
    have := decode_any (((text pab).extract 0 3 ++ ⟨#[157]⟩) ++ (text pab).extract 4 128) W (by
      rw [ByteArray.size_append, ByteArray.size_append, ByteArray.size_extract, ByteArray.size_extract, hps]; decide)
    rw [Pg.dec_no pab_turned] at this
    exact this
  have H4 : Hid (∀ W, Calls Try.prog 16 #[.string ⟨(List.replicate 128 0).toArray⟩] W fun e w' => e = .returned (.tuple #[.string ⟨#[]⟩, .int .i64 50]) ∧ Below W.heap.size W w') := fun W => by
    have := decode_any ⟨(List.replicate 128 0).toArray⟩ W (by decide)
    rw [show (⟨(List.replicate 128 0).toArray⟩ : ByteArray).data.toList = List.replicate 128 0 from rfl, Pg.dec_no zeros_none] at this
    exact this
  have hp4 : (text pab).extract 0 4 = ⟨#[0, 2, 97, 98]⟩ := by
    obtain ⟨q, hq⟩ := pab_head
    apply ByteArray.ext
    apply Array.toList_inj.1
    rw [extract_take, text_toList, hq]
    rfl
  have i3 : 3 < (text pab).size := by omega
  have hp3 : (text pab)[3] = 98 := by
    obtain ⟨q, hq⟩ := pab_head
    have e := getD_byte (text pab) 3 i3
    rw [← e]
    show pab.getD 3 0 = 98
    rw [hq]; rfl
  have hx : bits BinOp.xor IntKind.u8 IntKind.u8.max 98 = 157 := by decide
  generalize text pab = p at *
  have HS3 : Hid (∀ W, Calls _ _ _ _ _) := fun W => some_any ⟨#[120, 121, 122]⟩ 123 W (by decide) (by decide) (by decide)
  have HS2 : Hid (∀ W, Calls _ _ _ _ _) := fun W => some_any ⟨#[120, 121, 122]⟩ 122 W (by decide) (by decide) (by decide)
  have HT3 : Hid (∀ W, Calls _ _ _ _ _) := fun W => split_any ⟨(someL [120, 121, 122] 123).toArray⟩ W (by show (someL [120, 121, 122] 123).length ≤ _; rw [someL_length]; decide)
  have HT2 : Hid (∀ W, Calls _ _ _ _ _) := fun W => split_any ⟨(someL [120, 121, 122] 122).toArray⟩ W (by show (someL [120, 121, 122] 122).length ≤ _; rw [someL_length]; decide)
  have HT0 : Hid (∀ W, Calls _ _ _ _ _) := fun W => split_any ⟨#[]⟩ W (by decide)
  have HJ1 : Hid (∀ W v, Strs W v [text (Pg.page [122])] → Calls Try.prog 18 #[v] W fun e w' => e = .returned (.tuple #[.string ⟨#[122]⟩, .int .i64 0]) ∧ Below W.heap.size W w') := fun W v h => by
    have := join_any v _ W h (by decide) (fun s hs => by rw [List.mem_singleton.1 hs]; show (Pg.page [122]).length ≤ _; rw [Pg.page_length (by decide)]; decide)
    rw [join_last] at this
    exact this
  have HJ0 : Hid (∀ W, Calls Try.prog 18 #[.slice none 0 0] W fun e w' => e = .returned (.tuple #[.string ⟨#[]⟩, .int .i64 50]) ∧ Below W.heap.size W w') := fun W => by
    have := join_none none 0 W
    rw [Pg.join_no (fun h => h.1 rfl)] at this
    exact this
  simp only at HS3 HS2
  simp only [split_over] at HT3
  simp only at HT2
  generalize text (Pg.page [122]) = z2 at HT3 HJ1
  generalize text (Pg.page ((someL [120, 121, 122] 123).take 122)) = z1 at HT3
  generalize (⟨(someL [120, 121, 122] 123).toArray⟩ : ByteArray) = x3 at HS3 HT3
  generalize hx2 : (⟨(someL [120, 121, 122] 122).toArray⟩ : ByteArray) = x2 at HS2 HT2
  clear hx2
  go_enter Try.func14, Try.ntmps14
  go_wp2_with fail
  refine (H1.out _).mono ?_
  rintro e w1 ⟨rfl, hb1⟩
  have HB1 : Hid (Below w.heap.size w w1) := hb1
  clear hb1
  go_wp2_with fail
  refine (H2.out _).mono ?_
  rintro e w2 ⟨rfl, hb2⟩
  have HB2 : Hid (Below w.heap.size w w2) := bnext HB1.out hb2
  have hcv := conv_one w2
  clear hb2 HB1
  go_wp2_with fail
  go_region_with (go_at_call 16; refine (H3.out _).mono ?_; rintro e w3 ⟨rfl, hb3⟩; have HB3 : Hid (Below w.heap.size w w3) := bnext (HB2.out.alloc HB2.out.size _).drew hb3; clear hb3)
  all_goals
    clear HB2 hcv H1 H2 H3 hp3 i3 hx hp4 hps
    go_wp2_with (at_make; refine wpList_make_full _ rfl _ _ 34 rfl w3.heap.size 5 i0 (.int .u8 0) 1 Try.underlying34 hi hz0 hz1 _ _ _ _ 128 rfl rfl rfl rfl ?b2 ?b3 ?b4 ?_)
    case b2 => rw [hz2]; omega
    case b3 => unfold maxLen; omega
    case b4 => omega
    intro w4 hown hgrow
    rw [made_zeros] at hown
    have HB4 : Hid (Below w.heap.size w w4) := HB3.out.grown hgrow HB3.out.size (by simp)
    have hcv := conv_own w4 _ _ 128 _ (by simp) hown
    generalize hZ : (⟨(List.replicate 128 0).toArray⟩ : ByteArray) = Z at hcv H4
    clear hown hgrow HB3 hZ
    go_wp2_with fail
    refine (H4.out _).mono ?_
    rintro e w5 ⟨rfl, hb5⟩
    have HB5 : Hid (Below w.heap.size w w5) := bnext HB4.out hb5
    clear hb5 HB4 H4 hcv
    go_wp2_with fail
    refine (HS3.out _).mono ?_
    rintro e w6 ⟨rfl, hb6⟩
    have HB6 : Hid (Below w.heap.size w w6) := bnext HB5.out hb6
    clear hb6 HB5
    go_wp2_with fail
    refine (HT3.out _).mono ?_
    rintro e w7 ⟨v7, rfl, hs7, hb7⟩
    have HB7 : Hid (Below w.heap.size w w7) := bnext HB6.out hb7
    obtain ⟨a7, cap7, rfl, hcap7, hs7⟩ := hs7
    obtain ⟨b7, off7, rfl, hc7⟩ : ∃ b off, a7 = some ⟨b, off, none⟩ ∧ w7.cell? ⟨b, off + 1, none⟩ = some (.string z2) := by
      rcases hs7 with h | ⟨b, off, rfl, h⟩
      · cases h
      · exact ⟨b, off, rfl, h 1 (by simp)⟩
    have hcap7 : 2 ≤ cap7 := hcap7
    have HC7 : Hid (w7.cell? ⟨b7, off7 + 1, none⟩ = some (.string z2)) := hc7
    clear hb7 HB6 hc7 hs7
    go_wp2_with fail
    refine (HT0.out _).mono ?_
    rintro e w8 ⟨v8, rfl, hs8, hb8⟩
    have HB8 : Hid (Below w.heap.size w w8) := bnext HB7.out hb8
    have HC8 : Hid _ := cell_after hb8 HC7.out
    obtain ⟨a8, cap8, rfl, _, _⟩ := hs8
    rw [split_none]
    clear hb8 HB7 HC7
    go_wp2_with fail
    refine (HS2.out _).mono ?_
    rintro e w9 ⟨rfl, hb9⟩
    have HB9 : Hid (Below w.heap.size w w9) := bnext HB8.out hb9
    have HC9 : Hid _ := cell_after hb9 HC8.out
    clear hb9 HB8 HC8
    go_wp2_with fail
    refine (HT2.out _).mono ?_
    rintro e w10 ⟨v10, rfl, hs10, hb10⟩
    have HBa : Hid (Below w.heap.size w w10) := bnext HB9.out hb10
    have HCa : Hid _ := cell_after hb10 HC9.out
    obtain ⟨a10, cap10, rfl, _, _⟩ := hs10
    rw [split_full]
    clear hb10 HB9 HC9
    have HSa : Hid (Strs w10 (.slice (some ⟨b7, off7 + 1, none⟩) 1 (cap7 - 1)) [z2]) := ⟨_, _, rfl, by simp; omega, .inr ⟨b7, off7 + 1, rfl, fun j hj => by
      obtain rfl : j = 0 := by simpa using hj
      exact HCa.out⟩⟩
    have hcap : (2 : Int) ≤ (cap7 : Int) := by omega
    clear HCa
    go_wp2_with fail
    refine (HJ1.out _ _ HSa.out).mono ?_
    rintro e w11 ⟨rfl, hb11⟩
    have HBb : Hid (Below w.heap.size w w11) := bnext HBa.out hb11
    clear hb11 HBa HSa
    go_wp2_with fail
    refine (HJ0.out _).mono ?_
    rintro e w12 ⟨rfl, hb12⟩
    have HBc : Hid (Below w.heap.size w w12) := bnext HBb.out hb12
    clear hb12 HBb
    go_wp2
    go_ret
    exact ⟨rfl, HBc.out⟩

end Go.Proofs.Ytnlglmloineapaa
