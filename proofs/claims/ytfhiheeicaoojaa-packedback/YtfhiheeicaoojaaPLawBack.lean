/- PackedBack: for every slice of uint32s and all uint8s the call returns true: what is packed, in its least width or a greater one, is unpacked, and each number is told by itself; in a lesser width it is refused (P4.4, P4.1). No conditions. -/
import Derived.Test.YtfhiheeicaoojaaPFrame
namespace Go.Proofs.Ytfhiheeicaoojaa
open Go.ChangeShapes Go.WideShapes Go.ChangeAt Go.RowKit
open Go.ChangeMaps (open_string shut_string)

namespace Pk
theorem two_pow_cast (n : Nat) : ((2 : Int) ^ n) = ((2 ^ n : Nat) : Int) := by rw [Int.natCast_pow]; rfl

theorem May.fit {l : List Int} {n : Nat} (h : May l n) (hn : n ≤ 32) : Fit l := by
  intro z hz
  have h1 := h z hz
  have hp := pow32 n hn
  rw [two_pow_cast] at h1
  omega

theorem May.wider {l : List Int} {n m : Nat} (h : May l n) (hm : n ≤ m) : May l m := by
  intro z hz
  have h1 := h z hz
  have hp : 2 ^ n ≤ 2 ^ m := Nat.pow_le_pow_right (by omega) hm
  rw [two_pow_cast] at h1 ⊢
  omega

/-- The first j numbers, shifted down by k bits. -/
def down (l : List Int) (k j : Nat) : List Int := (l.take j).map fun z => z / 2 ^ k

theorem down_length (l : List Int) (k j : Nat) (h : j ≤ l.length) : (down l k j).length = j := by
  simp [down]; omega
theorem down_succ (l : List Int) (k j : Nat) (h : j < l.length) : down l k (j + 1) = down l k j ++ [l.getD j 0 / 2 ^ k] := by
  unfold down
  rw [take_succ l j h, List.map_append]
  rfl

theorem down_may {l : List Int} (hr : ∀ j, 0 ≤ l.getD j 0 ∧ l.getD j 0 ≤ 4294967295) (k : Nat) (hk : k ≤ 32) : May (down l k l.length) (32 - k) := by
  intro z hz
  unfold down at hz
  rw [List.take_length] at hz
  obtain ⟨y, hy, rfl⟩ := List.mem_map.1 hz
  obtain ⟨i, hi, rfl⟩ := List.mem_iff_getElem.1 hy
  have h := hr i
  have e : l.getD i 0 = l[i] := by simp [List.getD, hi]
  rw [e] at h
  obtain ⟨x, hx⟩ := Int.eq_ofNat_of_zero_le h.1
  rw [hx] at h ⊢
  rw [two_pow_cast, two_pow_cast]
  have h2 : x / 2 ^ k < 2 ^ (32 - k) := by
    rw [Nat.div_lt_iff_lt_mul (Nat.two_pow_pos k), ← Nat.pow_add, show 32 - k + k = 32 by omega]
    omega
  have e2 : ((x : Int) / ((2 ^ k : Nat) : Int)) = ((x / 2 ^ k : Nat) : Int) := by simp
  rw [e2]
  exact ⟨Int.natCast_nonneg _, Int.ofNat_lt.2 h2⟩

theorem at_pk {l : List Int} {n : Nat} (hm : May l n) (hn : n ≤ 32) (i : Nat) (hi : i < l.length) : at_ (pk l n) i n = (l.getD i 0, 0) := by
  unfold at_
  rw [if_neg (by omega), if_neg ?_, Int.toNat_natCast, Int.toNat_natCast, un_at hm i hi]
  rintro ⟨h0, h⟩
  have hn0 : 0 < n := by omega
  rw [pk_length] at h
  have e : (8 * (size l.length n : Int) / n) = ((8 * size l.length n / n : Nat) : Int) := by simp
  rw [e] at h
  have h1 : (i + 1) * n ≤ l.length * n := Nat.mul_le_mul_right _ hi
  have h2 : i + 1 ≤ 8 * size l.length n / n := by
    rw [Nat.le_div_iff_mul_le hn0]
    unfold size
    omega
  omega

theorem unpack_pk {l : List Int} {n : Nat} (hm : May l n) (hn : n ≤ 32) (hl : l.length ≤ 65536) : unpack (pk l n) l.length n = (l, 0) := by
  rw [unpack_ok hn hl (ok_pk l n), un_pk hm]
theorem pack_may {l : List Int} {n : Nat} (hm : May l n) (hn : n ≤ 32) (hl : l.length ≤ 65536) : pack l n = (pk l n, 0) := by
  have := (wid_le (hm.fit hn) n hn).2 hm
  rw [pack_yes (by omega) (by omega), Int.toNat_natCast]
end Pk

set_option maxHeartbeats 4000000 in
set_option maxRecDepth 100000 in
theorem packedBack_walk (a : Option Addr) (cap : Nat) (l : List Int) (t0 o0 : Int) (w : World) (hlen : l.length ≤ maxLen) (hi : Words w (.slice a l.length cap) l) (hr : ∀ j, 0 ≤ l.getD j 0 ∧ l.getD j 0 ≤ 4294967295) (ht0 : (Lit.int .u8 t0).wf = true) (ho0 : (Lit.int .u8 o0).wf = true) :
    Calls Try.prog 5 #[.slice a l.length cap, .int .u8 t0, .int .u8 o0] w fun e w' => e = .returned (.bool true) ∧ Below w.heap.size w w' := by
  unfold maxLen at hlen
  obtain ⟨t, rfl, ht⟩ := wf_u8 ht0
  obtain ⟨o, rfl, ho⟩ := wf_u8 ho0
  clear ht0 ho0
  obtain ⟨i0, hi0, hz0, hz1, hz2⟩ := info_parts Try.intInfo
  by_cases h5 : 500 < l.length
  · go_enter Try.func5, Try.ntmps5
    go_wp2
    go_ret
    exact ⟨rfl, Below.refl _ _⟩
  · obtain ⟨k, hk, hk2⟩ : ∃ k : Nat, (t : Int) % 32 = k ∧ k < 32 := ⟨t % 32, by omega, by omega⟩
    obtain ⟨q, hq, hq2⟩ : ∃ q : Nat, (o : Int) % 8 = q ∧ q < 8 := ⟨o % 8, by omega, by omega⟩
    have HI : Hid _ := hi
    have HR : Hid (∀ j, 0 ≤ l.getD j 0 ∧ l.getD j 0 ≤ 4294967295) := hr
    clear hi hr
    go_enter Try.func5, Try.ntmps5
    go_wp2
    go_loopw [7, 8] (fun v i wr => ∃ j : Nat, j ≤ l.length ∧ i = .int .i64 j ∧ wr.ownsRow w.heap.size 3 1 v j ((Pk.down l k j).map (Value.int .i64)) ∧ Below w.heap.size w wr) (fun _ i _ => l.length - (intOf i).toNat)
    case atStart => exact ⟨0, Nat.zero_le _, rfl, World.ownsRow_nil _ _ _ _, Below.refl _ _⟩
    case round =>
      obtain ⟨j, hj, rfl, hown, hbel⟩ := hrel
      by_cases hlt : j < l.length
      · obtain ⟨a', cap', e, hc⟩ := HI.out
        simp only [Value.slice.injEq] at e
        obtain ⟨rfl, _, rfl⟩ := e
        obtain ⟨b, off, rfl, hb, hc⟩ := hc.resolve_left (by rintro rfl; simp at hlt)
        have hc1 := cell_after hbel (hc j hlt)
        have hr1 := HR.out j
        have HD : Hid _ := Pk.down_succ l k j hlt
        clear hc
        generalize l.getD j 0 = z at *
        obtain ⟨y, hy, hy1, hy2⟩ : ∃ y : Int, z / 2 ^ k = y ∧ 0 ≤ y ∧ y ≤ 4294967295 := by
          refine ⟨_, rfl, ?_, ?_⟩
          · rw [Pk.two_pow_cast]; exact Int.ediv_nonneg hr1.1 (Int.natCast_nonneg _)
          · rw [Pk.two_pow_cast]; exact Int.le_trans (Int.ediv_le_self _ hr1.1) hr1.2
        rw [hy] at HD
        go_wp2_with (at_builtin; refine wpList_append_own _ rfl _ _ 22 rfl w.heap.size 3 i0 (.int .i64 0) 1 8 Try.underlying22 hi0 hz0 hz1 hz2 rfl (by decide) _ _ _ rfl (hown.alloc _) ⟨wr.heap.size, 0, none⟩ 1 1 [.int .i64 y] rfl rfl (cell_one_new _ _ _) (by simp [Value.oneCell']) (by unfold maxLen; omega) (by omega) (by have := hbel.size; simp; omega) ?_; intro v' w1 hown1 hgrow1 _)
        refine ⟨⟨j + 1, by omega, by go_num, by rw [HD.out]; simpa using hown1, ?_⟩, by simp [intOf]; omega⟩
        exact (hbel.alloc hbel.size _).grown hgrow1 (by have := hbel.size; simp; omega) (fun q e => (hown.lt q e).1)
      · obtain rfl : j = l.length := by omega
        have iN := Ints.of_own hown
        have hmay := Pk.down_may HR.out k (by omega)
        have hdl := Pk.down_length l k l.length (Nat.le_refl _)
        generalize Pk.down l k l.length = ns at *
        have hbel : Hid (Below _ _ _) := hbel
        clear hown HI HR hi0 hz0 hz1 hz2
        have hfit := hmay.fit (by omega)
        have hwid := (Pk.wid_le hfit (32 - k) (by omega)).2 hmay
        have hmayw := (Pk.wid_le hfit (Pk.wid ns) (by omega)).1 (Nat.le_refl _)
        have HW := fun W v (h : Ints W v ns) => width_any v ns W h hfit (by omega)
        obtain ⟨x, hx⟩ : ∃ x, Pk.wid ns = x := ⟨_, rfl⟩
        have HLESS : Hid (0 < x → ∀ W v, Ints W v ns → Calls Try.prog 9 #[v, .int .i64 ((x : Int) - 1)] W fun e w' => e = .returned (.tuple #[.string ⟨([] : List UInt8).toArray⟩, .int .i64 2]) ∧ Below W.heap.size W w') := by
          intro hx0 W v h
          have := pack_any v ns ((x : Int) - 1) W h hfit (by omega)
          rw [Pk.pack_arg (.inr (by omega))] at this
          exact this
        rw [hx] at HW hwid hmayw
        obtain ⟨y, hy, hy1, hy2⟩ : ∃ y : Nat, min ((x : Int) + q) 32 = y ∧ y ≤ 32 ∧ x ≤ y := ⟨min (x + q) 32, by omega, by omega, by omega⟩
        have hmy := hmayw.wider hy2
        have HS : Hid (∀ (i : Nat), i < ns.length → Pk.at_ (Pk.pk ns y) i y = (ns.getD i 0, 0)) := fun i hi => Pk.at_pk hmy hy1 i hi
        have HU0 := Pk.unpack_pk hmy hy1 (by omega)
        have HP := fun W v (h : Ints W v ns) => pack_any v ns y W h hfit (by omega)
        rw [Pk.pack_may hmy hy1 (by omega)] at HP
        have hpl := Pk.pk_length ns y
        generalize Pk.pk ns y = pp at *
        obtain ⟨f, hf⟩ : ∃ f : ByteArray, f = ⟨pp.toArray⟩ := ⟨_, rfl⟩
        have hfl : f.data.toList = pp := by rw [hf]
        have hfs : f.size = Pk.size ns.length y := by rw [← hpl, ← hfl]; simp
        rw [← hf] at HP
        have hyl : ns.length * y ≤ 500 * 32 := Nat.mul_le_mul (by omega) hy1
        have hfs2 : f.size ≤ 2001 := by rw [hfs]; unfold Pk.size; omega
        have HUN := fun W => unpack_any f ns.length y W (by omega)
        have HAT := fun (i : Nat) W => at_any f i y W (by omega)
        rw [hfl] at HUN HAT
        rw [HU0] at HUN
        have HAT2 : Hid (∀ (i : Nat) W, i < ns.length → Calls Try.prog 17 #[.string f, .int .i64 i, .int .i64 y] W fun e w' => e = .returned (.tuple #[.int .i64 (ns.getD i 0), .int .i64 0]) ∧ Below W.heap.size W w') := by
          intro i W hi
          have := HAT i W
          rw [HS.out i hi] at this
          exact this
        have hsz : (((ns.length * y : Nat) : Int) + 7) / 8 = f.size := by rw [hfs]; unfold Pk.size; omega
        have hsy : (ns.length : Int) * y = ((ns.length * y : Nat) : Int) := by simp
        generalize ns.length * y = N at *
        clear HAT HS HU0 hfl hf hpl hfs hmy hmayw hmay hx
        have hfit : Hid _ := hfit
        have iN2 : Hid (Ints _ _ _) := iN
        obtain ⟨a', cap', e, hc⟩ := iN
        subst e
        clear hc
        have HSAME : Hid (∀ W v u, Ints W v ns → Ints W u ns → Calls Try.prog 19 #[v, u] W fun e w' => e = .returned (.bool true) ∧ Below W.heap.size W w') := by
          intro W v u h1 h2
          have := same_any v u ns ns W h1 h2 (by omega) (by omega)
          rw [show decide (ns = ns) = true by simp] at this
          exact this
        have HCELL : Hid (∀ W (a : Option Addr) (c j : Nat), Ints W (.slice a ns.length c) ns → j < ns.length → ∃ b off, a = some ⟨b, off, none⟩ ∧ W.cell? ⟨b, off + j, none⟩ = some (.int .i64 (ns.getD j 0))) := by
          rintro W a c j ⟨a1, c1, e, h⟩ hj
          simp only [Value.slice.injEq] at e
          obtain ⟨rfl, _, rfl⟩ := e
          obtain ⟨b, off, rfl, _, hc⟩ := h.resolve_left (by rintro rfl; simp at hj)
          exact ⟨b, off, rfl, hc j hj⟩
        rw [hdl] at *
        clear hdl
        go_wp2_with fail
        refine (HW _ _ iN2.out).mono ?_
        rintro e w1 ⟨rfl, rfl⟩
        clear HW
        go_wp2_with fail
        refine (HP _ _ iN2.out).mono ?_
        rintro e w2 ⟨rfl, hb2⟩
        have iN3 : Hid (Ints _ _ _) := iN2.out.later hb2
        have hB2 : Hid (Below _ _ _) := bnext hbel.out hb2
        clear HP hb2 iN2 hbel
        go_wp2_with fail
        refine (HUN _).mono ?_
        rintro e w3 ⟨v, rfl, iM, hb3⟩
        have iM : Hid (Ints _ _ _) := iM
        have iN4 : Hid (Ints _ _ _) := iN3.out.later hb3
        have hB3 : Hid (Below _ _ _) := bnext hB2.out hb3
        clear HUN hb3 iN3 hB2
        go_wp2_with fail
        refine (HSAME.out _ _ _ iM.out iN4.out).mono ?_
        rintro e w4 ⟨rfl, hb4⟩
        have iN5 : Hid (Ints _ _ _) := iN4.out.later hb4
        have hB4 : Hid (Below _ _ _) := bnext hB3.out hb4
        clear hb4 iN4 hB3 iM
        go_wp2
        clear hsz
        go_loopw [15] (fun c ws => ∃ j : Nat, j ≤ l.length ∧ c = .int .i64 j ∧ Hid (Ints ws (.slice a' l.length cap') ns) ∧ Hid (Below w.heap.size w ws)) (fun c _ => l.length - (intOf c).toNat)
        case atStart => exact ⟨0, Nat.zero_le _, rfl, iN5, hB4⟩
        case round =>
          clear iN5 hB4
          obtain ⟨j, hj, rfl, iN, hB⟩ := hrel
          by_cases hlt : j < l.length
          · have HA : Hid (∀ W, Calls _ _ _ W _) := fun W => HAT2.out j W hlt
            have HC2 : Hid (∀ W, Ints W (.slice a' l.length cap') ns → ∃ b off, a' = some ⟨b, off, none⟩ ∧ W.cell? ⟨b, off + j, none⟩ = some (.int .i64 (ns.getD j 0))) := fun W h => HCELL.out W a' cap' j h hlt
            generalize ns.getD j 0 = z at *
            go_wp2_with fail
            refine Calls.mono (HA.out _) ?_
            rintro e w5 ⟨rfl, hb5⟩
            obtain ⟨b, off, rfl, hcz⟩ := HC2.out w5 (iN.out.later hb5)
            have iN6 : Hid (Ints _ _ _) := iN.out.later hb5
            have hB5 : Hid (Below _ _ _) := bnext hB.out hb5
            clear hb5 HA HC2
            go_wp2
            go_roundw
            case rel => exact ⟨j + 1, by omega, by go_num, iN6, hB5⟩
            case measure => simp [intOf]; omega
          · obtain rfl : j = l.length := by omega
            by_cases hx0 : 0 < x
            · have HL : Hid _ := HLESS.out hx0
              go_wp2_with fail
              refine Calls.mono (HL.out _ _ iN.out) ?_
              rintro e w5 ⟨rfl, hb5⟩
              have hB5 : Hid (Below _ _ _) := bnext hB.out hb5
              clear hb5
              go_wp2_with fail
              refine (does_any _).mono ?_
              rintro e w6 ⟨rfl, hb6⟩
              have hB6 : Hid (Below _ _ _) := bnext hB5.out hb6
              clear hb6
              go_wp2
              go_ret
              exact ⟨rfl, hB6.out⟩
            · go_wp2_with fail
              refine (does_any _).mono ?_
              rintro e w6 ⟨rfl, hb6⟩
              have hB6 : Hid (Below _ _ _) := bnext hB.out hb6
              clear hb6
              go_wp2
              go_ret
              exact ⟨rfl, hB6.out⟩

set_option maxRecDepth 100000 in
theorem packedBack_lifted (os : Os) (started : os.Started) (H : Type) (enc : TypeId × Value → H) :
    ReturnsInHanded {} Try.checked os 5 .any (Rows.packedBackSpec.pre6 enc Try.prog Try.f5 Rows.packedBackRow.domain false) (Rows.packedBackSpec.post enc Try.prog Try.f5 false true false false) := by
  refine returnsInHanded_of_change (C := Try.checked) Try.own started (by kernel_rfl) Try.func5
    (ChangeSpec.witness6 (enc := enc) (C := Try.checked) false ⟨#[], #[.slice none 0 0, .int .u8 0, .int .u8 0], []⟩ 8 (by kernel_rfl) (by kernel_rfl) (by kernel_rfl) (by kernel_rfl)) ?_
  intro W base args ds gs before hval0 hW hcnd _
  have hval : ∀ (j : Nat) t v, Try.f5.params[j]? = some t → args[j]? = some v → Value.okWide Try.prog W .any base t v := hval0
  have hW' := hW
  obtain ⟨p, q, hA0, hV, rfl, hfz, hnd⟩ := hW
  have hA : DataW.TrodAll enc Try.prog W 0 (fun _ => true) true Try.f5.params.toList args.toList ds p := hA0
  rw [Try.params5] at hA hval
  obtain ⟨v0, vs0, d0, ds0, p0, q0, hargs, rfl, rfl, h0, r0⟩ := trodAll_cons hA
  obtain ⟨v1, vs1, d1, ds1, p1, q1, rfl, rfl, rfl, h1, r1⟩ := trodAll_cons r0
  obtain ⟨v2, vs2, d2, ds2, p2, q2, rfl, rfl, rfl, h2, r2⟩ := trodAll_cons r1
  obtain ⟨rfl, rfl, rfl⟩ := trodAll_nil r2
  obtain rfl : args = #[v0, v1, v2] := by cases args; simp_all
  obtain ⟨rfl, rfl⟩ := trodVars_none hV
  obtain ⟨a0, len0, cap0, rfl⟩ := okWide_slice Try.underlying36 (hval 0 36 v0 rfl rfl)
  have lt0 : ∀ x ∈ p0, x.block < W.heap.size := by obtain ⟨m, hm⟩ := h0; exact DataW.trod_lt m _ _ _ hm
  obtain ⟨z0, w0⟩ : ∃ zs, IsRow .u32 W a0 len0 cap0 zs := by
    obtain ⟨fuel, hf⟩ := h0
    rcases open_ints Try.underlying36 Try.underlying37 (by kernel_rfl) hf with ⟨hcs, _⟩ | ⟨x, l, c, zs, hcs, _, hl, hm, hz, _, hcell, hwz⟩
    · simp [Value.cells] at hcs
      obtain ⟨rfl, rfl, rfl⟩ := hcs
      exact ⟨[], .inl ⟨rfl, rfl, rfl, rfl⟩⟩
    · simp [Value.cells] at hcs
      obtain ⟨rfl, rfl, rfl⟩ := hcs
      exact ⟨zs, .inr ⟨_, rfl, hl, hm, by simpa using hz, hcell, hwz⟩⟩
  obtain ⟨l0, rfl, n0, k0, f0⟩ := words_of_row w0
  obtain ⟨a1, rfl, rfl, rfl, w1⟩ := open_int Try.underlying5 (hval 1 5 v1 rfl rfl) h1
  obtain ⟨a2, rfl, rfl, rfl, w2⟩ := open_int Try.underlying5 (hval 2 5 v2 rfl rfl) h2
  clear hA0 hval0
  refine (packedBack_walk a0 cap0 l0 a1 a2 W n0 k0 f0 w1 w2).mono fun e W' ⟨he, bel⟩ => ?_
  subst he
  exact ⟨_, rfl, _, _, _, [], _, [], hW', trodAll_mk1 (shut_bool Try.underlying4 _), (trodAll_cons_mk (Below.trod Try.laidOut (by kernel_rfl) (of_decide_eq_true (by kernel_rfl)) h0 bel lt0) (trodAll_cons_mk (shut_int Try.underlying5 w1) (trodAll_cons_mk (shut_int Try.underlying5 w2) trodAll_mk0))), rfl, bel.frame _, fun h => by cases h⟩

theorem packedBack_holds : Rows.PackedBackSaid :=
  OpenClaim.holds_of_wide 5 Try.f5 rfl rfl rfl rfl rfl rfl rfl ⟨rfl, rfl, rfl, rfl, rfl⟩ rfl rfl rfl rfl rfl (by kernel_rfl) Try.func5 (by kernel_rfl)
    (of_decide_eq_true (by kernel_rfl)) (by unfold Func.isWrapper; first | (rw [if_pos (by decide +kernel)]; kernel_rfl) | (rw [if_neg (by decide +kernel)]; exact ⟨rfl, rfl⟩))
    (fun os started H enc _ => packedBack_lifted os started H enc)

end Go.Proofs.Ytfhiheeicaoojaa
