/- IntsCut: for every int and every uint8 the call returns true: bytes of a number that are cut off are none (P1.3). No conditions. -/
import Derived.Test.YtdeknpinjlepcaaDoes
import Derived.Test.YtdeknpinjlepcaaFrame
namespace Go.Proofs.Ytdeknpinjlepcaa
open Go.ChangeShapes Go.WideShapes Go.ChangeAt Go.RowKit
open Go.ChangeMaps (open_string shut_string)

theorem cut_data (l : List UInt8) (j : Nat) : ((⟨l.toArray⟩ : ByteArray).extract 0 j).data.toList = l.take j := by
  simp [ByteArray.data_extract]

theorem cut_size (l : List UInt8) (j : Nat) : ((⟨l.toArray⟩ : ByteArray).extract 0 j).size ≤ l.length := by
  rw [ByteArray.size_extract]
  show min j (⟨l.toArray⟩ : ByteArray).size - 0 ≤ _
  have : (⟨l.toArray⟩ : ByteArray).size = l.length := by simp [ByteArray.size]
  omega

theorem readS_cut (u j : Nat) (h : u < 2 ^ 64) (hj : j < (Vi.enc u).length) : Vi.readS ((Vi.enc u).take j) 0 = (0, 0, false) := by
  by_cases h0 : ((Vi.enc u).take j).length = 0
  · exact Vi.readS_out _ _ (by omega)
  · exact Vi.readS_none _ 0 (by omega) (by rw [List.drop_zero]; exact Vi.dec_cut u j h hj)

theorem getI_cut (n : Int) (j : Nat) (h0 : -9223372036854775808 ≤ n) (h1 : n ≤ 9223372036854775807) (hj : j < (Vi.putI n).length) :
    Vi.getI ((⟨(Vi.putI n).toArray⟩ : ByteArray).extract 0 j).data.toList 0 = (0, 0, false) := by
  rw [cut_data, Vi.getI, Vi.putI, readS_cut _ _ (Vi.fold_lt n h0 h1) hj]
  rfl

theorem getS_cut (n : Int) (j : Nat) (h0 : 0 ≤ n) (h1 : n ≤ 9223372036854775807) (hj : j < (Vi.putL n).length) :
    Vi.getS ((⟨(Vi.putL n).toArray⟩ : ByteArray).extract 0 j).data.toList 0 = (0, 0, false) := by
  have e : Vi.putL n = Vi.enc n.toNat := by rw [Vi.putL, if_neg (by omega)]
  rw [e] at hj ⊢
  rw [cut_data, Vi.getS, readS_cut _ _ (by omega) hj]
  rfl

theorem ne_of_len {l : List UInt8} (h : 1 ≤ l.length) : l.isEmpty = false := by cases l <;> simp at h ⊢

theorem mod_facts (k L : Nat) (h : 1 ≤ L) : (0 ≤ (k : Int) % (L : Int) ∧ (k : Int) % (L : Int) ≤ (L : Int)) ∧ k % L < L := by
  have := Nat.mod_lt k (show 0 < L by omega)
  refine ⟨⟨?_, ?_⟩, this⟩ <;> omega

set_option maxHeartbeats 1000000 in
theorem intsCut_walk (n c : Int) (w0 : (Lit.int .i64 n).wf = true) (w1 : (Lit.int .u8 c).wf = true) (w : World) :
    Calls Try.prog 7 #[.int .i64 n, .int .u8 c] w fun e w' => e = .returned (.bool true) ∧ Below w.heap.size w w' := by
  have b0 := bounds_i64 w0
  have b1 := bounds_u8 w1
  clear w0 w1
  obtain ⟨k, rfl⟩ := Int.eq_ofNat_of_zero_le b1.1
  have l1 : 1 ≤ (Vi.putI n).length := (Vi.enc_len _).1
  have l2 : (Vi.putI n).length ≤ 10 := (Vi.enc_len _).2
  have m1 := mod_facts k _ l1
  have e1 := ne_of_len l1
  go_enter Try.func7, Try.ntmps7
  go_wp2_with fail
  refine (put_any _ _ (by omega) (by omega)).mono ?_
  rintro e w1 ⟨rfl, hb1⟩
  go_wp2_with fail
  refine (putInt_any _ _ (by omega) (by omega)).mono ?_
  rintro e w2 ⟨rfl, hb2⟩
  replace hb2 := bnext hb1 hb2
  clear hb1
  go_wp2_with fail
  refine (getInt_any _ _ _ (Nat.le_trans (cut_size _ _) (by omega))).mono ?_
  rintro e w' ⟨m, x, b, rfl, hg, rfl⟩
  obtain ⟨rfl, rfl, rfl⟩ := three_eq hg.out (getI_cut n _ b0.1 b0.2 m1.2)
  clear hg
  by_cases hn : n < 0
  · have hp : Vi.putL n = [] := by rw [Vi.putL, if_pos hn]
    rw [hp]
    go_wp2_with fail
    refine (does_any _).mono ?_
    rintro e w3 ⟨rfl, hb3⟩
    go_wp2
    go_ret
    exact ⟨rfl, bnext hb2 hb3⟩
  · have hp : Vi.putL n = Vi.enc n.toNat := by rw [Vi.putL, if_neg hn]
    have l3 : 1 ≤ (Vi.putL n).length := by rw [hp]; exact (Vi.enc_len _).1
    have l4 : (Vi.putL n).length ≤ 10 := by rw [hp]; exact (Vi.enc_len _).2
    have m2 := mod_facts k _ l3
    have e2 := ne_of_len l3
    clear hp
    go_wp2_with fail
    refine (get_any _ _ _ (Nat.le_trans (cut_size _ _) (by omega))).mono ?_
    rintro e w' ⟨m, x, b, rfl, hg, rfl⟩
    obtain ⟨rfl, rfl, rfl⟩ := three_eq hg.out (getS_cut n _ (by omega) b0.2 m2.2)
    clear hg
    go_wp2_with fail
    refine (does_any _).mono ?_
    rintro e w3 ⟨rfl, hb3⟩
    go_wp2
    go_ret
    exact ⟨rfl, bnext hb2 hb3⟩

set_option maxRecDepth 100000 in
theorem intsCut_lifted (os : Os) (started : os.Started) (H : Type) (enc : TypeId × Value → H) :
    ReturnsInHanded {} Try.checked os 7 .any (Rows.intsCutSpec.pre6 enc Try.prog Try.f7 Rows.intsCutRow.domain false) (Rows.intsCutSpec.post enc Try.prog Try.f7 false true false false) := by
  refine returnsInHanded_of_change (C := Try.checked) Try.own started (by kernel_rfl) Try.func7
    (ChangeSpec.witness6 (enc := enc) (C := Try.checked) false ⟨#[], #[.int .i64 0, .int .u8 0], []⟩ 8 (by kernel_rfl) (by kernel_rfl) (by kernel_rfl) (by kernel_rfl)) ?_
  intro W base args ds gs before hval0 hW hcnd _
  have hval : ∀ (j : Nat) t v, Try.f7.params[j]? = some t → args[j]? = some v → Value.okWide Try.prog W .any base t v := hval0
  have hW' := hW
  obtain ⟨p, q, hA0, hV, rfl, hfz, hnd⟩ := hW
  have hA : DataW.TrodAll enc Try.prog W 0 (fun _ => true) true Try.f7.params.toList args.toList ds p := hA0
  rw [Try.params7] at hA hval
  obtain ⟨v0, vs0, d0, ds0, p0, q0, hargs, rfl, rfl, h0, r0⟩ := trodAll_cons hA
  obtain ⟨v1, vs1, d1, ds1, p1, q1, rfl, rfl, rfl, h1, r1⟩ := trodAll_cons r0
  obtain ⟨rfl, rfl, rfl⟩ := trodAll_nil r1
  obtain rfl : args = #[v0, v1] := by cases args; simp_all
  obtain ⟨rfl, rfl⟩ := trodVars_none hV
  obtain ⟨a0, rfl, rfl, rfl, w0⟩ := open_int Try.underlying3 (hval 0 3 v0 rfl rfl) h0
  obtain ⟨a1, rfl, rfl, rfl, w1⟩ := open_int Try.underlying5 (hval 1 5 v1 rfl rfl) h1
  clear hA0 hval0
  simp only [List.append_nil] at hW'
  refine (intsCut_walk a0 a1 w0 w1 W).mono fun e W' ⟨he, bel⟩ => ?_
  subst he
  exact ⟨_, rfl, _, _, _, [], [], [], hW', trodAll_mk1 (shut_bool Try.underlying4 _), (trodAll_cons_mk (shut_int Try.underlying3 w0) (trodAll_cons_mk (shut_int Try.underlying5 w1) trodAll_mk0)), rfl, bel.frame _, fun h => by cases h⟩

theorem intsCut_holds : Rows.IntsCutSaid :=
  OpenClaim.holds_of_wide 7 Try.f7 rfl rfl rfl rfl rfl rfl rfl ⟨rfl, rfl, rfl, rfl, rfl⟩ rfl rfl rfl rfl rfl (by kernel_rfl) Try.func7 (by kernel_rfl)
    (of_decide_eq_true (by kernel_rfl)) (by unfold Func.isWrapper; first | (rw [if_pos (by decide +kernel)]; kernel_rfl) | (rw [if_neg (by decide +kernel)]; exact ⟨rfl, rfl⟩))
    (fun os started H enc _ => intsCut_lifted os started H enc)

end Go.Proofs.Ytdeknpinjlepcaa
