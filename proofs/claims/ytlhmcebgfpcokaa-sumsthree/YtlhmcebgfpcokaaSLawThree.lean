/- SumsThree: for every three strings the call returns true: three texts of one length, put against one another byte by byte, have the sum that their sums, put against one another, are (P3.3). No conditions. -/
import Derived.Test.YtlhmcebgfpcokaaSLawNear
import Derived.Test.YtlhmcebgfpcokaaLater
namespace Go.Proofs.Ytlhmcebgfpcokaa
open Go.ChangeShapes Go.WideShapes Go.ChangeAt Go.RowKit
open Go.ChangeMaps (open_string shut_string)

/-- The three texts, put against one another. -/
def three (a b c : List UInt8) (n : Nat) : List UInt8 := Cr.put (Cr.put (a.take n) (b.take n)) (c.take n)
/-- What lies in the row behind j rounds. -/
def partL (t : List UInt8) (j n : Nat) : List UInt8 := t.take j ++ List.replicate (n - j) 0

theorem three_get (a b c : ByteArray) (n j : Nat) (hj : j < n) (ja : j < a.size) (jb : j < b.size) (jc : j < c.size) : (three a.data.toList b.data.toList c.data.toList n)[j]? = some (a[j] ^^^ b[j] ^^^ c[j]) := by
  have ea : (a.data.toList.take n)[j]? = some a[j] := by
    rw [List.getElem?_take, if_pos hj, List.getElem?_eq_getElem (by simpa using ja)]; rfl
  have eb : (b.data.toList.take n)[j]? = some b[j] := by
    rw [List.getElem?_take, if_pos hj, List.getElem?_eq_getElem (by simpa using jb)]; rfl
  have ec : (c.data.toList.take n)[j]? = some c[j] := by
    rw [List.getElem?_take, if_pos hj, List.getElem?_eq_getElem (by simpa using jc)]; rfl
  unfold three Cr.put
  rw [List.getElem?_zipWith, List.getElem?_zipWith, ea, eb, ec]

theorem partL_length {t : List UInt8} {j n : Nat} (ht : t.length = n) (hj : j ≤ n) : (partL t j n).length = n := by
  unfold partL; rw [List.length_append, List.length_take, List.length_replicate]; omega
theorem partL_full {t : List UInt8} {n : Nat} (ht : t.length = n) : partL t n n = t := by
  unfold partL; rw [Nat.sub_self, List.take_of_length_le (by omega)]; simp
theorem partL_set {t : List UInt8} {j n : Nat} (ht : t.length = n) (hj : j < n) {z : UInt8} (hz : t[j]? = some z) : (partL t j n).set j z = partL t (j + 1) n := by
  have hl : (t.take j).length = j := by rw [List.length_take]; omega
  unfold partL
  rw [List.set_append_right _ _ (by omega), hl, Nat.sub_self, show n - j = (n - (j + 1)) + 1 by omega, List.replicate_succ, List.set_cons_zero, List.take_add_one, hz]
  simp
theorem part_cell {W : World} {B : Nat} {t : List UInt8} {j n : Nat} (h : Holds W B (partL t j n)) (ht : t.length = n) (hj : j < n) : ∃ x : Int, W.cell? ⟨B, j, none⟩ = some (.int .u8 x) :=
  ⟨_, h.cell j (by rw [partL_length ht (by omega)]; omega)⟩
theorem part_store {W : World} {B : Nat} {t : List UInt8} {j n : Nat} (h : Holds W B (partL t j n)) (ht : t.length = n) (hj : j < n) {z : UInt8} (hz : t[j]? = some z) : Holds (W.setCell ⟨B, j, none⟩ (.int .u8 (z.toNat : Int))) B (partL t (j + 1) n) := by
  have := h.store j z (by rw [partL_length ht (by omega)]; omega)
  rwa [partL_set ht hj hz] at this
theorem holds_made {W : World} {B n : Nat} {t : List UInt8} (h : W.ownsRow B 5 1 (.slice (some ⟨B, 0, none⟩) n n) n (bcells (List.replicate n 0))) : Holds W B (partL t 0 n) := by
  have e : partL t 0 n = List.replicate n 0 := by simp [partL]
  rw [e]
  exact ⟨fun k hk => row_cell (by simp) h k (by simpa using hk), fun k _ => h.frozenAt k⟩
theorem Holds.later {W : World} {B : Nat} {l : List UInt8} (h : Holds W B l) (x : Later W) : Holds x.world B l := by
  refine ⟨fun k hk => Later.cell (h.cell k hk) x, fun k hk => ?_⟩
  rw [x.below.frozen (World.block_lt_of_cell? _ _ (h.cell k hk))]
  exact h.free k hk
theorem extract_take (s : ByteArray) (k : Nat) : (s.extract 0 k).data.toList = s.data.toList.take k := by
  rw [ByteArray.data_extract]; simp
theorem extract_size (s : ByteArray) (k : Nat) : (s.extract 0 k).size ≤ k := by
  rw [ByteArray.size_extract]; omega

set_option maxHeartbeats 1000000 in
theorem sumsThree_walk (a b c : ByteArray) (w : World) (ha : a.size ≤ maxLen) (_hb : b.size ≤ maxLen) (_hc : c.size ≤ maxLen) :
    Calls Try.prog 6 #[.string a, .string b, .string c] w fun e w' => e = .returned (.bool true) ∧ Below w.heap.size w w' := by
  unfold maxLen at ha _hb _hc
  obtain ⟨n, hn, na, nb, nc⟩ : ∃ n : Nat, n = min (min a.size b.size) c.size ∧ n ≤ a.size ∧ n ≤ b.size ∧ n ≤ c.size := ⟨_, rfl, by omega, by omega, by omega⟩
  have hm : (if (c.size : Int) < (if b.size < a.size then (b.size : Int) else (a.size : Int)) then (c.size : Int) else if b.size < a.size then (b.size : Int) else (a.size : Int)) = (n : Int) := by
    split <;> split at * <;> omega
  clear hn
  obtain ⟨i0, hi, hz0, hz1, hz2⟩ := info_parts Try.info5
  by_cases h4 : 4000 < n
  · go_enter Try.func6, Try.ntmps6
    go_wp2_with fail
    refine (check_any _).mono ?_
    rintro e w' ⟨rfl, rfl⟩
    go_wp2
    go_ret
    exact ⟨rfl, Below.refl _ _⟩
  · have la : (a.data.toList.take n).length = n := by rw [List.length_take]; simp; omega
    have lb : (b.data.toList.take n).length = n := by rw [List.length_take]; simp; omega
    have lc : (c.data.toList.take n).length = n := by rw [List.length_take]; simp; omega
    have lt : Hid ((three a.data.toList b.data.toList c.data.toList n).length = n) := by
      show (three a.data.toList b.data.toList c.data.toList n).length = n
      simp [three, Cr.put]; simp at la lb lc; omega
    have HS : Hid _ := Cr.sum_three _ _ _ (la.trans lb.symm) (lb.trans lc.symm)
    clear la lb lc
    have hg : Hid (∀ j (ja : j < a.size) (jb : j < b.size) (jc : j < c.size), j < n → (three a.data.toList b.data.toList c.data.toList n)[j]? = some (a[j] ^^^ b[j] ^^^ c[j])) := fun j ja jb jc hj => three_get a b c n j hj ja jb jc
    rw [show Cr.put (Cr.put (a.data.toList.take n) (b.data.toList.take n)) (c.data.toList.take n) = three a.data.toList b.data.toList c.data.toList n from rfl] at HS
    generalize three a.data.toList b.data.toList c.data.toList n = t at lt HS hg
    go_enter Try.func6, Try.ntmps6
    go_wp2_with (at_make; refine wpList_make_full _ rfl _ _ 30 rfl w.heap.size 5 i0 (.int .u8 0) 1 Try.underlying30 hi hz0 hz1 _ _ _ _ n rfl rfl rfl rfl ?b2 ?b3 ?b4 ?_)
    case b2 => rw [hz2]; omega
    case b3 => unfold maxLen; omega
    case b4 => omega
    intro w1 hown hgrow
    rw [made_zeros] at hown
    have hH : Hid (Holds w1 w.heap.size (partL t 0 n)) := holds_made hown
    have hbel : Hid (Below w.heap.size w w1) := (Below.refl _ _).grown hgrow (Nat.le_refl _) (by simp)
    clear hgrow hi hz0 hz1 hz2 hown hm
    go_wp2
    go_loopw [9] (fun x wr => ∃ j : Nat, j ≤ n ∧ x = .int .i64 j ∧ Hid (Holds wr w.heap.size (partL t j n)) ∧ Hid (Below w.heap.size w wr)) (fun x _ => n - (intOf x).toNat)
    case atStart => exact ⟨0, by omega, rfl, hH, hbel⟩
    case round =>
      clear hH hbel
      obtain ⟨j, hj, rfl, hh, hbel⟩ := hrel
      by_cases hlt : j < n
      · obtain ⟨x0, hc0⟩ := part_cell hh.out lt.out hlt
        have hf0 := hh.out.free j (by rw [partL_length lt.out hj]; omega)
        have x1 := u8_xor_nat a[j].toNat b[j].toNat (UInt8.toNat_lt _) (UInt8.toNat_lt _)
        rw [← UInt8.toNat_xor] at x1
        have x2 := u8_xor_nat (a[j] ^^^ b[j]).toNat c[j].toNat (UInt8.toNat_lt _) (UInt8.toNat_lt _)
        rw [← UInt8.toNat_xor] at x2
        have h1 : Hid (Holds _ _ _) := (part_store hh.out lt.out hlt (hg.out j (by omega) (by omega) (by omega) hlt)).drew
        have h2 : Hid (Below _ _ _) := (hbel.out.setCell (p := ⟨w.heap.size, j, none⟩) (Nat.le_refl _) (.int .u8 ((a[j] ^^^ b[j] ^^^ c[j]).toNat : Int))).drew
        generalize a[j] ^^^ b[j] ^^^ c[j] = z at x2 h1 h2
        generalize a[j] ^^^ b[j] = y at x1 x2
        have ja : j < a.size := by omega
        have jb : j < b.size := by omega
        have jc : j < c.size := by omega
        go_wp2
        go_region
        all_goals go_wp2
        go_roundw
        case rel => exact ⟨j + 1, by omega, by go_num, h1, h2⟩
        case measure => simp [intOf]; omega
      · obtain rfl : j = n := by omega
        rw [partL_full lt.out] at hh
        have hcv := fun x : Later wr => conv_held (hh.out.later x) j lt.out
        have he : Hid ((⟨t.toArray⟩ : ByteArray).data.toList = t) := rfl
        have hz : (⟨t.toArray⟩ : ByteArray).size = j := lt.out
        generalize (⟨t.toArray⟩ : ByteArray) = f at hcv he hz
        rw [← he.out] at HS
        rw [← extract_take a j, ← extract_take b j, ← extract_take c j] at HS
        have za := extract_size a j
        have zb := extract_size b j
        have zc := extract_size c j
        have HT := fun W => sum_any f W (by omega)
        have HA := fun W => sum_any (a.extract 0 j) W (by omega)
        have HB := fun W => sum_any (b.extract 0 j) W (by omega)
        have HC := fun W => sum_any (c.extract 0 j) W (by omega)
        have l1 := Cr.sum_lt (a.extract 0 j).data.toList
        have l2 := Cr.sum_lt (b.extract 0 j).data.toList
        have l3 := Cr.sum_lt (c.extract 0 j).data.toList
        generalize Cr.sum f.data.toList = s0 at HS HT
        generalize Cr.sum (a.extract 0 j).data.toList = s1 at HS HA l1
        generalize Cr.sum (b.extract 0 j).data.toList = s2 at HS HB l2
        generalize Cr.sum (c.extract 0 j).data.toList = s3 at HS HC l3
        have y1 := xor_nat s1 s2 l1 l2
        have l4 := Cr.xor_lt s1 s2 l1 l2
        have hq := HS.out
        generalize s1 ^^^ s2 = s4 at y1 l4 hq
        have y2 := xor_nat s4 s3 l4 l3
        rw [← hq] at y2
        clear hq HS hg lt he hh
        have hne := Later.some wr
        go_wp2_with fail
        refine wp_region_later (by kernel_rfl) (by kernel_rfl) ?_
        repeat (go_big_quiet_step ((first | (go_at_call 12; first | exact Later.same (HT _) | exact Later.same (HA _) | exact Later.same (HB _) | exact Later.same (HC _)) | (go_at_call 9; exact Later.same (check_any _)))))
        refine wpQuiet_nil ?_
        intro w3 hw3
        obtain ⟨⟨w4, hb4⟩, rfl⟩ := hw3
        have hb5 : Hid (Below _ _ _) := bnext hbel.out hb4
        clear hb4
        go_wp2
        go_ret
        exact ⟨rfl, hb5.out⟩

set_option maxRecDepth 100000 in
theorem sumsThree_lifted (os : Os) (started : os.Started) (H : Type) (enc : TypeId × Value → H) :
    ReturnsInHanded {} Try.checked os 6 .any (Rows.sumsThreeSpec.pre6 enc Try.prog Try.f6 Rows.sumsThreeRow.domain false) (Rows.sumsThreeSpec.post enc Try.prog Try.f6 false true false false) := by
  refine returnsInHanded_of_change (C := Try.checked) Try.own started (by kernel_rfl) Try.func6
    (ChangeSpec.witness6 (enc := enc) (C := Try.checked) false ⟨#[], #[.string ByteArray.empty, .string ByteArray.empty, .string ByteArray.empty], []⟩ 8 (by kernel_rfl) (by kernel_rfl) (by kernel_rfl) (by kernel_rfl)) ?_
  intro W base args ds gs before hval0 hW hcnd _
  have hval : ∀ (j : Nat) t v, Try.f6.params[j]? = some t → args[j]? = some v → Value.okWide Try.prog W .any base t v := hval0
  have hW' := hW
  obtain ⟨p, q, hA0, hV, rfl, hfz, hnd⟩ := hW
  have hA : DataW.TrodAll enc Try.prog W 0 (fun _ => true) true Try.f6.params.toList args.toList ds p := hA0
  rw [Try.params6] at hA hval
  obtain ⟨v0, vs0, d0, ds0, p0, q0, hargs, rfl, rfl, h0, r0⟩ := trodAll_cons hA
  obtain ⟨v1, vs1, d1, ds1, p1, q1, rfl, rfl, rfl, h1, r1⟩ := trodAll_cons r0
  obtain ⟨v2, vs2, d2, ds2, p2, q2, rfl, rfl, rfl, h2, r2⟩ := trodAll_cons r1
  obtain ⟨rfl, rfl, rfl⟩ := trodAll_nil r2
  obtain rfl : args = #[v0, v1, v2] := by cases args; simp_all
  obtain ⟨rfl, rfl⟩ := trodVars_none hV
  obtain ⟨a0, rfl, rfl, rfl, w0⟩ := open_string Try.underlying9 (hval 0 9 v0 rfl rfl) h0
  obtain ⟨a1, rfl, rfl, rfl, w1⟩ := open_string Try.underlying9 (hval 1 9 v1 rfl rfl) h1
  obtain ⟨a2, rfl, rfl, rfl, w2⟩ := open_string Try.underlying9 (hval 2 9 v2 rfl rfl) h2
  clear hA0 hval0
  simp only [List.append_nil] at hW'
  refine (sumsThree_walk a0 a1 a2 W w0 w1 w2).mono fun e W' ⟨he, bel⟩ => ?_
  subst he
  exact ⟨_, rfl, _, _, _, [], [], [], hW', trodAll_mk1 (shut_bool Try.underlying4 _), (trodAll_cons_mk (shut_string Try.underlying9 w0) (trodAll_cons_mk (shut_string Try.underlying9 w1) (trodAll_cons_mk (shut_string Try.underlying9 w2) trodAll_mk0))), rfl, bel.frame _, fun h => by cases h⟩

theorem sumsThree_holds : Rows.SumsThreeSaid :=
  OpenClaim.holds_of_wide 6 Try.f6 rfl rfl rfl rfl rfl rfl rfl ⟨rfl, rfl, rfl, rfl, rfl⟩ rfl rfl rfl rfl rfl (by kernel_rfl) Try.func6 (by kernel_rfl)
    (of_decide_eq_true (by kernel_rfl)) (by unfold Func.isWrapper; first | (rw [if_pos (by decide +kernel)]; kernel_rfl) | (rw [if_neg (by decide +kernel)]; exact ⟨rfl, rfl⟩))
    (fun os started H enc _ => sumsThree_lifted os started H enc)

end Go.Proofs.Ytlhmcebgfpcokaa
