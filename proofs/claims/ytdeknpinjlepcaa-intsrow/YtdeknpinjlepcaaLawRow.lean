/- IntsRow: for every list of ints the call returns true: numbers that are put one behind the other are got one behind the other, up to the end; unlike ones have unlike bytes (P1.3). No conditions. -/
import Derived.Test.YtdeknpinjlepcaaDoes
import Derived.Test.YtdeknpinjlepcaaFrame
import Derived.Test.YtdeknpinjlepcaaLater
namespace Go.Proofs.Ytdeknpinjlepcaa
open Go.ChangeShapes Go.WideShapes Go.ChangeAt Go.RowKit
open Go.ChangeMaps (open_string shut_string)

/-- A slice of integers that came in. -/
def IsRow (k : IntKind) (w : World) (a : Option Addr) (len cap : Nat) (zs : List Int) : Prop :=
  (a = none ∧ len = 0 ∧ cap = 0 ∧ zs = []) ∨
  ∃ x, a = some x ∧ len ≤ cap ∧ cap ≤ maxLen ∧ zs.length = cap ∧ (∀ i, i < zs.length → w.cell? (x.add i) = some (.int k (zs.getD i 0))) ∧ ∀ n ∈ zs, (Lit.int k n).wf = true

/-- The bytes of the first k numbers, one behind the other. -/
def cat (zs : List Int) (k : Nat) : List UInt8 := (zs.take k).flatMap Vi.putI

theorem cat_succ (zs : List Int) (k : Nat) (h : k < zs.length) : cat zs (k + 1) = cat zs k ++ Vi.putI (zs.getD k 0) := by
  unfold cat
  rw [List.take_add_one, List.getElem?_eq_getElem h, List.flatMap_append]
  simp [List.getD, List.getElem?_eq_getElem h]

theorem cat_len (zs : List Int) (k : Nat) : (cat zs k).length ≤ 10 * k := by
  induction k with
  | zero => simp [cat]
  | succ k ih =>
    by_cases h : k < zs.length
    · rw [cat_succ zs k h, List.length_append]
      have : (Vi.putI (zs.getD k 0)).length ≤ 10 := (Vi.enc_len _).2
      omega
    · have e : cat zs (k + 1) = cat zs k := by
        unfold cat
        rw [List.take_of_length_le (by omega), List.take_of_length_le (by omega)]
      rw [e]; omega

theorem cat_pre (zs : List Int) (k n : Nat) (hk : k ≤ n) : ∃ r, cat zs n = cat zs k ++ r := by
  refine ⟨((zs.take n).drop k).flatMap Vi.putI, ?_⟩
  unfold cat
  rw [← List.flatMap_append]
  have e : zs.take k = (zs.take n).take k := by rw [List.take_take, Nat.min_eq_left hk]
  rw [e, List.take_append_drop]

theorem get_cat (zs : List Int) (k n : Nat) (hk : k < n) (hn : n ≤ zs.length) (h0 : -9223372036854775808 ≤ zs.getD k 0) (h1 : zs.getD k 0 ≤ 9223372036854775807) :
    Vi.getI (cat zs n) (cat zs k).length = (zs.getD k 0, ((cat zs (k + 1)).length : Int), true) := by
  obtain ⟨r, hr⟩ := cat_pre zs (k + 1) n (by omega)
  have hs := cat_succ zs k (by omega)
  have hlt := Vi.fold_lt _ h0 h1
  have hl : 1 ≤ (Vi.putI (zs.getD k 0)).length := (Vi.enc_len _).1
  have hd : Vi.dec ((cat zs n).drop (cat zs k).length) = some (Vi.fold (zs.getD k 0), (Vi.putI (zs.getD k 0)).length) := by
    rw [hr, hs, List.append_assoc, List.drop_left]
    exact Vi.dec_enc _ hlt r
  have hlen : (cat zs k).length < (cat zs n).length := by
    rw [hr, hs]; simp only [List.length_append]; omega
  have := Vi.readS_some (cat zs n) (cat zs k).length _ _ hlen hd
  unfold Vi.getI
  rw [this, hs]
  simp only [if_true, Vi.unfold_fold, List.length_append, Int.natCast_add]

theorem get_end (zs : List Int) (n : Nat) : Vi.getI (cat zs n) (cat zs n).length = (0, 0, false) := by
  unfold Vi.getI
  rw [Vi.readS_out _ _ (by omega)]
  rfl

theorem putI_beq (a b : Int) (ha : -9223372036854775808 ≤ a ∧ a ≤ 9223372036854775807) (hb : -9223372036854775808 ≤ b ∧ b ≤ 9223372036854775807) : (Vi.putI a == Vi.putI b) = (a == b) := by
  rw [Bool.eq_iff_iff, beq_iff_eq, beq_iff_eq]
  constructor
  · intro h
    have := Vi.enc_inj _ _ (Vi.fold_lt a ha.1 ha.2) (Vi.fold_lt b hb.1 hb.2) h
    rw [← Vi.unfold_fold a, ← Vi.unfold_fold b, this]
  · intro h; rw [h]

theorem app_bytes (p q : List UInt8) : (⟨p.toArray⟩ : ByteArray) ++ ⟨q.toArray⟩ = ⟨(p ++ q).toArray⟩ := by
  apply ByteArray.ext
  simp

theorem three_to {p : Int × Int × Bool} {n x : Int} {b : Bool} {n' x' : Int} {b' : Bool} (h : p = (n, x, b)) (h' : p = (n', x', b')) : n' = n ∧ x' = x ∧ b' = b := by
  rw [h'] at h
  simpa using h

set_option maxHeartbeats 1000000 in
theorem row_none (a : Option Addr) (cap : Nat) (w : World) :
    Calls Try.prog 8 #[.slice a 0 cap] w fun e w' => e = .returned (.bool true) ∧ Below w.heap.size w w' := by
  go_enter Try.func8, Try.ntmps8
  go_wp2
  refine wp_loop_rounds 1 ?_
  rw [rounds_succ]
  go_wp2
  refine wp_loop_rounds 1 ?_
  rw [rounds_succ]
  go_wp2_with fail
  refine (getInt_any _ _ _ (by decide)).mono ?_
  rintro e w' ⟨m, x, b, rfl, hg, rfl⟩
  obtain ⟨rfl, rfl, rfl⟩ := three_eq hg.out (show Vi.getI [] 0 = (0, 0, false) by decide +kernel)
  clear hg
  go_wp2_with fail
  refine (does_any _).mono ?_
  rintro e w9 ⟨rfl, hb9⟩
  go_wp2
  go_ret
  exact ⟨rfl, hb9⟩

set_option maxHeartbeats 2000000 in
theorem row_some (b off len cap : Nat) (zs : List Int) (w : World) (hl : len ≤ cap) (hz : zs.length = cap) (_hcap : cap ≤ maxLen)
    (hc : ∀ j, j < zs.length → w.cell? ⟨b, off + j, none⟩ = some (.int .i64 (zs.getD j 0))) (hw : ∀ j, -9223372036854775808 ≤ zs.getD j 0 ∧ zs.getD j 0 ≤ 9223372036854775807) :
    Calls Try.prog 8 #[.slice (some ⟨b, off, none⟩) len cap] w fun e w' => e = .returned (.bool true) ∧ Below w.heap.size w w' := by
  unfold maxLen at _hcap
  by_cases h100 : 100 < len
  · go_enter Try.func8, Try.ntmps8
    go_wp2
    go_ret
    exact ⟨rfl, Below.refl _ _⟩
  · have HW : Hid _ := hw
    have HC : Hid _ := hc
    clear hw hc
    go_enter Try.func8, Try.ntmps8
    go_wp2
    go_loopw [3, 4] (fun s i wr => ∃ k : Nat, k ≤ len ∧ i = .int .i64 k ∧ s = .string ⟨(cat zs k).toArray⟩ ∧ Below w.heap.size w wr) (fun _ i _ => len - (intOf i).toNat)
    case atStart => exact ⟨0, Nat.zero_le _, rfl, by simp [cat], Below.refl _ _⟩
    case round =>
      obtain ⟨k, hk, rfl, rfl, hbel⟩ := hrel
      by_cases hlt : k < len
      · have hc1 := cell_later hbel (HC.out k (by omega))
        have hw1 := HW.out k
        have HS : Hid _ := cat_succ zs k (by omega)
        have hle := cat_len zs k
        have hle2 : (Vi.putI (zs.getD k 0)).length ≤ 10 := (Vi.enc_len _).2
        cases k with
        | zero =>
          rw [Nat.add_zero] at hc1
          generalize hz1 : zs.getD 0 0 = z at *
          clear hz1
          go_wp2_with fail
          refine (putInt_any _ _ (by omega) (by omega)).mono ?_
          rintro e w2 ⟨rfl, hb2⟩
          replace hb2 := bnext hbel hb2
          have hne := Later.some w2
          go_wp2_with fail
          refine wp_region_later (by kernel_rfl) (by kernel_rfl) ?_
          repeat (go_big_quiet_step (fail))
          refine wpQuiet_nil ?_
          intro w3 hw3
          obtain ⟨⟨w4, hb4⟩, rfl⟩ := hw3
          replace hb4 := bnext hb2 hb4
          clear hne hb2
          go_wp2
          go_roundw
          case rel => exact ⟨1, by omega, by go_num, congrArg Value.string ((app_bytes _ _).trans (by rw [HS.out])), hb4⟩
          case measure => simp [intOf]; omega
        | succ j =>
          have hc2 := cell_later hbel (HC.out j (by omega))
          have hw2 := HW.out j
          have ht := putI_beq (zs.getD (j + 1) 0) (zs.getD j 0) hw1 hw2
          generalize hz1 : zs.getD (j + 1) 0 = z at *
          generalize hz2 : zs.getD j 0 = z' at *
          clear hz1 hz2
          go_wp2_with fail
          refine (putInt_any _ _ (by omega) (by omega)).mono ?_
          rintro e w2 ⟨rfl, hb2⟩
          have hc3 := cell_later hb2 hc1
          have hc4 := cell_later hb2 hc2
          have hd1 := Later.cell hc3
          have hd2 := Later.cell hc4
          replace hb2 := bnext hbel hb2
          have hne := Later.some w2
          go_wp2_with fail
          refine wp_region_later (by kernel_rfl) (by kernel_rfl) ?_
          repeat (go_big_quiet_step ((go_at_call 11; exact Later.made (putInt_any _ _ (by omega) (by omega)))))
          refine wpQuiet_nil ?_
          intro w3 hw3
          obtain ⟨⟨w4, hb4⟩, rfl⟩ := hw3
          replace hb4 := bnext hb2 hb4
          clear hne hb2 hc3 hc4 hd1 hd2 hc1 hc2
          go_wp2
          go_roundw
          case rel => exact ⟨j + 1 + 1, by omega, by go_num, congrArg Value.string ((app_bytes _ _).trans (by rw [HS.out])), hb4⟩
          case measure => simp [intOf]; omega
      · obtain rfl : k = len := by omega
        have hle := cat_len zs k
        go_wp2
        go_loop [5, 6] (fun p i => ∃ j : Nat, j ≤ k ∧ i = .int .i64 j ∧ p = .int .i64 (cat zs j).length) (fun _ i => k - (intOf i).toNat)
        case atStart => exact ⟨0, Nat.zero_le _, rfl, by simp [cat]⟩
        case round =>
          obtain ⟨j, hj, rfl, rfl⟩ := hrel
          by_cases hlt2 : j < k
          · have hc1 := cell_later hbel (HC.out j (by omega))
            have hg := get_cat zs j k hlt2 (by omega) (HW.out j).1 (HW.out j).2
            generalize zs.getD j 0 = z at *
            have HG : Hid _ := hg
            clear hg
            go_wp2_with fail
            refine (getInt_any _ _ _ (by simp [ByteArray.size]; omega)).mono ?_
            rintro e w' ⟨m, x, ok, rfl, hgi, rfl⟩
            obtain ⟨rfl, rfl, rfl⟩ := three_to hgi.out HG.out
            clear hgi
            go_wp2
            go_round
            case rel => exact ⟨j + 1, by omega, by go_num, rfl⟩
            case measure => simp [intOf]; omega
          · obtain rfl : j = k := by omega
            have HG : Hid _ := get_end zs j
            go_wp2_with fail
            refine (getInt_any _ _ _ (by simp [ByteArray.size]; omega)).mono ?_
            rintro e w' ⟨m, x, ok, rfl, hgi, rfl⟩
            obtain ⟨rfl, rfl, rfl⟩ := three_to hgi.out HG.out
            clear hgi
            go_wp2_with fail
            refine (does_any _).mono ?_
            rintro e w9 ⟨rfl, hb9⟩
            go_wp2
            go_ret
            exact ⟨rfl, bnext hbel hb9⟩

theorem intsRow_walk (a : Option Addr) (len cap : Nat) (zs : List Int) (w : World) (hr : IsRow .i64 w a len cap zs) :
    Calls Try.prog 8 #[.slice a len cap] w fun e w' => e = .returned (.bool true) ∧ Below w.heap.size w w' := by
  rcases hr with ⟨rfl, rfl, rfl, rfl⟩ | ⟨x, rfl, h1, h2, h3, h4, h5⟩
  · exact row_none none 0 w
  · by_cases h0 : len = 0
    · subst h0
      exact row_none _ _ w
    · obtain ⟨b, off, rfl, hc⟩ := ints_at h4 (by omega)
      refine row_some b off len cap zs w h1 h3 h2 hc ?_
      intro j
      have := range_i64 h5 j
      simpa [List.getD] using this

set_option maxRecDepth 100000 in
theorem intsRow_lifted (os : Os) (started : os.Started) (H : Type) (enc : TypeId × Value → H) :
    ReturnsInHanded {} Try.checked os 8 .any (Rows.intsRowSpec.pre6 enc Try.prog Try.f8 Rows.intsRowRow.domain false) (Rows.intsRowSpec.post enc Try.prog Try.f8 false true false false) := by
  refine returnsInHanded_of_change (C := Try.checked) Try.own started (by kernel_rfl) Try.func8
    (ChangeSpec.witness6 (enc := enc) (C := Try.checked) false ⟨#[], #[.slice none 0 0], []⟩ 8 (by kernel_rfl) (by kernel_rfl) (by kernel_rfl) (by kernel_rfl)) ?_
  intro W base args ds gs before hval0 hW hcnd _
  have hval : ∀ (j : Nat) t v, Try.f8.params[j]? = some t → args[j]? = some v → Value.okWide Try.prog W .any base t v := hval0
  have hW' := hW
  obtain ⟨p, q, hA0, hV, rfl, hfz, hnd⟩ := hW
  have hA : DataW.TrodAll enc Try.prog W 0 (fun _ => true) true Try.f8.params.toList args.toList ds p := hA0
  rw [Try.params8] at hA hval
  obtain ⟨v0, vs0, d0, ds0, p0, q0, hargs, rfl, rfl, h0, r0⟩ := trodAll_cons hA
  obtain ⟨rfl, rfl, rfl⟩ := trodAll_nil r0
  obtain rfl : args = #[v0] := by cases args; simp_all
  obtain ⟨rfl, rfl⟩ := trodVars_none hV
  obtain ⟨a0, len0, cap0, rfl⟩ := okWide_slice Try.underlying31 (hval 0 31 v0 rfl rfl)
  have k0 := h0
  have lt0 : ∀ x ∈ p0, x.block < W.heap.size := by obtain ⟨m, hm⟩ := k0; exact DataW.trod_lt m _ _ _ hm
  obtain ⟨z0, w0⟩ : ∃ zs, IsRow .i64 W a0 len0 cap0 zs := by
    obtain ⟨fuel, hf⟩ := h0
    rcases open_ints Try.underlying31 Try.underlying3 (by kernel_rfl) hf with ⟨hcs, _⟩ | ⟨x, l, c, zs, hcs, _, hl, hm, hz, _, hcell, hwz⟩
    · simp [Value.cells] at hcs
      obtain ⟨rfl, rfl, rfl⟩ := hcs
      exact ⟨[], .inl ⟨rfl, rfl, rfl, rfl⟩⟩
    · simp [Value.cells] at hcs
      obtain ⟨rfl, rfl, rfl⟩ := hcs
      exact ⟨zs, .inr ⟨_, rfl, hl, hm, by simpa using hz, hcell, hwz⟩⟩
  clear hA0 hval0
  refine (intsRow_walk a0 len0 cap0 z0 W w0).mono fun e W' ⟨he, bel⟩ => ?_
  subst he
  exact ⟨_, rfl, _, _, _, [], _, [], hW', trodAll_mk1 (shut_bool Try.underlying4 _), (trodAll_cons_mk (Below.trod Try.laidOut (by kernel_rfl) (of_decide_eq_true (by kernel_rfl)) k0 bel lt0) trodAll_mk0), rfl, bel.frame _, fun h => by cases h⟩

theorem intsRow_holds : Rows.IntsRowSaid :=
  OpenClaim.holds_of_wide 8 Try.f8 rfl rfl rfl rfl rfl rfl rfl ⟨rfl, rfl, rfl, rfl, rfl⟩ rfl rfl rfl rfl rfl (by kernel_rfl) Try.func8 (by kernel_rfl)
    (of_decide_eq_true (by kernel_rfl)) (by unfold Func.isWrapper; first | (rw [if_pos (by decide +kernel)]; kernel_rfl) | (rw [if_neg (by decide +kernel)]; exact ⟨rfl, rfl⟩))
    (fun os started H enc _ => intsRow_lifted os started H enc)

end Go.Proofs.Ytdeknpinjlepcaa
