/- PagesBurst: for every string, uint8 and uint32 the call returns true: a page of which any bits within four bytes, side by side, are turned over is no page (P5.3). No conditions. -/
import Derived.Test.YtnlglmloineapaaQDoes
import Derived.Laws.IdiomStrings
namespace Go.Proofs.Ytnlglmloineapaa
open Go.ChangeShapes Go.WideShapes Go.ChangeAt Go.RowKit
open Go.ChangeMaps (open_string shut_string)

/-- The block B holds the bytes l, and they may be written. -/
structure Holds (W : World) (B : Nat) (l : List UInt8) : Prop where
  cell : ∀ k (h : k < l.length), W.cell? ⟨B, k, none⟩ = some (.int .u8 (l[k].toNat : Int))
  free : ∀ k, k < l.length → W.frozen? ⟨B, k, none⟩ = false

theorem Holds.store {W : World} {B : Nat} {l : List UInt8} (h : Holds W B l) (k : Nat) (b : UInt8) (hk : k < l.length) : Holds (W.setCell ⟨B, k, none⟩ (.int .u8 (b.toNat : Int))) B (l.set k b) := by
  constructor
  · intro i hi
    rw [List.length_set] at hi
    by_cases e : k = i
    · subst e
      rw [World.cell?_setCell_same _ _ _ (h.cell k hk)]
      simp
    · have hne : (⟨B, k, none⟩ : Addr) ≠ ⟨B, i, none⟩ := fun he => e (congrArg Addr.off he)
      rw [World.cell?_setCell_other _ _ _ _ hne, h.cell i hi]
      simp [e]
  · intro i hi
    rw [List.length_set] at hi
    rw [World.frozen?_setCell]
    exact h.free i hi

theorem holds_new (w : World) (s : ByteArray) (cap : Nat) : Holds (w.drew.alloc (.cells (bytesRow s cap) 5 ((bytesRow s cap).size, (bytesRow s cap).size + 1))) w.heap.size s.data.toList := by
  constructor
  · intro k hk
    have hk' : k < s.data.size := by simpa using hk
    have := World.cell?_alloc_mark w.drew (bytesRow s cap) 5 ((bytesRow s cap).size, (bytesRow s cap).size + 1) k
    rw [bytesRow_at s cap k hk'] at this
    exact this
  · intro k hk
    have hk' : k < s.data.size := by simpa using hk
    have := World.frozen?_alloc_mark w.drew (bytesRow s cap) 5 (bytesRow s cap).size ((bytesRow s cap).size + 1) k
    have hz : k < (bytesRow s cap).size := by
      unfold bytesRow
      rw [Array.size_append, Array.size_map]; omega
    rw [show decide ((bytesRow s cap).size ≤ k) = false by simp; omega] at this
    exact this

/-- []byte(s): a row of its own. -/
theorem bytes_new (w : World) (s : ByteArray) : ∃ cap W, (convert 9 34 (.string s)).run Try.prog w = .ok (.slice (some ⟨w.heap.size, 0, none⟩) s.size cap) W ∧ Holds W w.heap.size s.data.toList ∧ Below w.heap.size w W :=
  ⟨_, _, run_bytes_of_string w 9 34 5 s Try.underlying9 Try.underlying34 Try.underlying5, holds_new w s _, (Below.refl _ w).drew.alloc (Nat.le_refl _) _⟩

theorem Holds.drew {W : World} {B : Nat} {l : List UInt8} (h : Holds W B l) : Holds W.drew B l := ⟨h.cell, h.free⟩

/-- A round's store. -/
theorem near_store {w W : World} {l : List UInt8} {k n j : Nat} (h : Holds W w.heap.size (nearL l k n j)) (hb : Below w.heap.size w W) (hk : k + j < (nearL l k n j).length) :
    ∃ b : Int, bits .xor .u8 ((nearL l k n j)[k + j].toNat : Int) ((n : Int) / 2 ^ (8 * j) % 256) = b ∧
      Holds (W.setCell ⟨w.heap.size, k + j, none⟩ (.int .u8 b)).drew w.heap.size (nearL l k n (j + 1)) ∧ Below w.heap.size w (W.setCell ⟨w.heap.size, k + j, none⟩ (.int .u8 b)).drew := by
  refine ⟨(((nearL l k n j)[k + j] ^^^ UInt8.ofNat (n / 2 ^ (8 * j))).toNat : Int), ?_, ?_, (hb.setCell (Nat.le_refl _) _).drew⟩
  · have e : ((n : Int) / 2 ^ (8 * j) % 256) = ((UInt8.ofNat (n / 2 ^ (8 * j))).toNat : Int) := by
      rw [show (UInt8.ofNat (n / 2 ^ (8 * j))).toNat = n / 2 ^ (8 * j) % 256 from rfl]
      simp
    rw [e, UInt8.toNat_xor]
    exact u8_xor_nat _ _ (UInt8.toNat_lt _) (UInt8.toNat_lt _)
  · have e : nearL l k n (j + 1) = (nearL l k n j).set (k + j) ((nearL l k n j)[k + j] ^^^ UInt8.ofNat (n / 2 ^ (8 * j))) := by
      rw [nearL, List.getD_eq_getElem?_getD, List.getElem?_eq_getElem hk]; rfl
    rw [e]
    exact (h.store (k + j) _ hk).drew

theorem conv_held {W : World} {B : Nat} {l : List UInt8} (h : Holds W B l) (cap : Nat) {n : Nat} (hl : l.length = n) : (convert 34 9 (.slice (some ⟨B, 0, none⟩) n cap)).run Try.prog W = .ok (.string ⟨l.toArray⟩) W := by
  subst hl
  refine run_convert_bytes_back W 34 9 5 ⟨B, 0, none⟩ cap l Try.underlying34 Try.underlying5 Try.underlying9 fun j hj => ?_
  rw [Addr.add_lit, Nat.zero_add]
  exact h.cell j hj

theorem wf_u8 {n : Int} (h : (Lit.int .u8 n).wf = true) : ∃ k : Nat, n = k ∧ k < 256 := by
  have : 0 ≤ n ∧ n ≤ 255 := by simpa [Lit.wf, IntKind.min, IntKind.max, IntKind.signed, IntKind.bits] using h
  exact ⟨n.toNat, by omega, by omega⟩

set_option maxRecDepth 100000 in
set_option maxHeartbeats 2000000 in
theorem pagesBurst_walk (s : ByteArray) (t0 o0 : Int) (w : World) (hs : s.size ≤ maxLen) (ht0 : (Lit.int .u8 t0).wf = true) (ho0 : (Lit.int .u32 o0).wf = true) :
    Calls Try.prog 7 #[.string s, .int .u8 t0, .int .u32 o0] w fun e w' => e = .returned (.bool true) ∧ Below w.heap.size w w' := by
  obtain ⟨t, rfl, ht⟩ := wf_u8 ht0
  obtain ⟨o, rfl, ho⟩ := wf_u32 ho0
  clear ht0 ho0
  unfold maxLen at hs
  have hlen : s.data.toList.length = s.size := by simp
  have HE : Hid (Calls _ _ _ _ _) := encode_any s w (by omega)
  by_cases h1 : 122 < s.size
  · rw [Pg.enc_long (by omega)] at HE
    clear hlen
    go_enter Try.func7, Try.ntmps7
    go_wp2_with fail
    refine Calls.mono HE.out ?_
    rintro e w1 ⟨rfl, hb1⟩
    have HB1 : Hid (Below w.heap.size w w1) := hb1
    clear hb1 HE
    go_wp2_with fail
    refine (does_any _).mono ?_
    rintro e w2 ⟨rfl, hb2⟩
    have HB2 : Hid (Below w.heap.size w w2) := bnext HB1.out hb2
    clear hb2 HB1
    go_wp2
    go_ret
    exact ⟨rfl, HB2.out⟩
  · rw [Pg.enc_yes (by omega)] at HE
    have h1b : decide (122 < (s.size : Int)) = false := by simp; omega
    by_cases h2 : o = 0
    · subst h2
      clear hlen
      generalize Pg.page s.data.toList = p at HE
      go_enter Try.func7, Try.ntmps7
      go_wp2_with fail
      refine Calls.mono HE.out ?_
      rintro e w1 ⟨rfl, hb1⟩
      have HB1 : Hid (Below w.heap.size w w1) := hb1
      clear hb1 HE
      go_wp2_with fail
      refine (does_any _).mono ?_
      rintro e w2 ⟨rfl, hb2⟩
      have HB2 : Hid (Below w.heap.size w w2) := bnext HB1.out hb2
      clear hb2 HB1
      go_wp2
      go_ret
      exact ⟨rfl, HB2.out⟩
    · have h2b : ((o : Int) == 0) = false := by rw [beq_eq_false_iff_ne]; omega
      have hpl := Pg.page_length (d := s.data.toList) (by omega)
      have HN : Hid (∀ k, k < 125 → ¬ Pg.Ok (nearL (Pg.page s.data.toList) k o 4)) := fun k hk => burst _ k o (by omega) hk h2 ho
      obtain ⟨p, HP⟩ : ∃ p : ByteArray, Hid ((⟨(Pg.page s.data.toList).toArray⟩ : ByteArray) = p) := ⟨_, rfl⟩
      have hpp : Pg.page s.data.toList = p.data.toList := by rw [← HP.out]
      rw [HP.out] at HE
      rw [hpp] at hpl HN
      have hps : p.size = 128 := by have : p.data.toList.length = p.size := by simp
                                    omega
      clear hlen hpp HP hpl
      obtain ⟨k, hk, hk5⟩ : ∃ k : Nat, (t : Int) % 125 = (k : Int) ∧ k < 125 := ⟨t % 125, by omega, by omega⟩
      have HNK : Hid _ := HN.out k hk5
      clear HN
      go_enter Try.func7, Try.ntmps7
      go_wp2_with fail
      refine Calls.mono HE.out ?_
      rintro e w1 ⟨rfl, hb1⟩
      have HB1 : Hid (Below w.heap.size w w1) := hb1
      clear hb1 HE
      obtain ⟨cap, W, hc, hW, hB⟩ := bytes_new w1 p
      have hW : Hid (Holds W w1.heap.size p.data.toList) := hW
      have hB : Hid (Below w1.heap.size w1 W) := hB
      have hpl : Hid (∀ j, (nearL p.data.toList k o j).length = 128) := fun j => by rw [nearL_length]; simpa using hps
      have hcv := fun (W : World) (h : Holds W w1.heap.size (nearL p.data.toList k o 4)) => conv_held h cap (hpl.out 4)
      have hcv : Hid _ := hcv
      obtain ⟨f, HF⟩ : ∃ f : ByteArray, Hid ((⟨(nearL p.data.toList k o 4).toArray⟩ : ByteArray) = f) := ⟨_, rfl⟩
      rw [HF.out] at hcv
      have HD : Hid (∀ W, Calls Try.prog 16 #[.string f] W fun e w' => e = .returned (.tuple #[.string ⟨#[]⟩, .int .i64 50]) ∧ Below W.heap.size W w') := fun W => by
        have hfl : f.data.toList = nearL p.data.toList k o 4 := by rw [← HF.out]
        have := decode_any f W (by have h1 := hpl.out 4; rw [← hfl] at h1; simp at h1; have : f.size = 128 := h1; omega)
        rw [hfl, Pg.dec_no HNK.out] at this
        exact this
      clear HF HNK
      rw [hps] at hc
      go_wp2_with fail
      go_loopw [11] (fun c wr => ∃ j : Nat, j ≤ 4 ∧ c = .int .i64 j ∧ Hid (Holds wr w1.heap.size (nearL p.data.toList k o j)) ∧ Hid (Below w1.heap.size w1 wr)) (fun c _ => 4 - (intOf c).toNat)
      case atStart => exact ⟨0, by omega, rfl, hW, hB⟩
      case round =>
        clear hW hB hc
        obtain ⟨j, hj, rfl, hh, hb⟩ := hrel
        by_cases hlt : j < 4
        · have hlen := hpl.out j
          have hc1 := hh.out.cell (k + j) (by omega)
          have hf1 := hh.out.free (k + j) (by omega)
          obtain ⟨y, hy, h1, h2⟩ := near_store hh.out hb.out (by omega)
          have h1 : Hid _ := h1
          have h2 : Hid _ := h2
          generalize (nearL p.data.toList k o j)[k + j] = x at hc1 hy
          clear hcv HD hlen
          go_wp2
          go_region
          all_goals go_wp2
          go_roundw
          case rel => exact ⟨j + 1, by omega, by go_num, h1, h2⟩
          case measure => simp [intOf]; omega
        · obtain rfl : j = 4 := by omega
          have hc2 := hcv.out wr hh.out
          have HB2 : Hid (Below w.heap.size w wr) := bnext HB1.out hb.out
          clear hcv hh hb
          go_wp2_with fail
          refine (HD.out _).mono ?_
          rintro e w2 ⟨rfl, hb2⟩
          have HB3 : Hid (Below w.heap.size w w2) := bnext HB2.out hb2
          clear hb2 HB2
          go_wp2_with fail
          refine (does_any _).mono ?_
          rintro e w3 ⟨rfl, hb3⟩
          have HB4 : Hid (Below w.heap.size w w3) := bnext HB3.out hb3
          clear hb3 HB3
          go_wp2
          go_ret
          exact ⟨rfl, HB4.out⟩

set_option maxRecDepth 100000 in
theorem pagesBurst_lifted (os : Os) (started : os.Started) (H : Type) (enc : TypeId × Value → H) :
    ReturnsInHanded {} Try.checked os 7 .any (Rows.pagesBurstSpec.pre6 enc Try.prog Try.f7 Rows.pagesBurstRow.domain false) (Rows.pagesBurstSpec.post enc Try.prog Try.f7 false true false false) := by
  refine returnsInHanded_of_change (C := Try.checked) Try.own started (by kernel_rfl) Try.func7
    (ChangeSpec.witness6 (enc := enc) (C := Try.checked) false ⟨#[], #[.string ByteArray.empty, .int .u8 0, .int .u32 0], []⟩ 8 (by kernel_rfl) (by kernel_rfl) (by kernel_rfl) (by kernel_rfl)) ?_
  intro W base args ds gs before hval0 hW hcnd _
  have hval : ∀ (j : Nat) t v, Try.f7.params[j]? = some t → args[j]? = some v → Value.okWide Try.prog W .any base t v := hval0
  have hW' := hW
  obtain ⟨p, q, hA0, hV, rfl, hfz, hnd⟩ := hW
  have hA : DataW.TrodAll enc Try.prog W 0 (fun _ => true) true Try.f7.params.toList args.toList ds p := hA0
  rw [Try.params7] at hA hval
  obtain ⟨v0, vs0, d0, ds0, p0, q0, hargs, rfl, rfl, h0, r0⟩ := trodAll_cons hA
  obtain ⟨v1, vs1, d1, ds1, p1, q1, rfl, rfl, rfl, h1, r1⟩ := trodAll_cons r0
  obtain ⟨v2, vs2, d2, ds2, p2, q2, rfl, rfl, rfl, h2, r2⟩ := trodAll_cons r1
  obtain ⟨rfl, rfl, rfl⟩ := trodAll_nil r2
  obtain rfl : args = #[v0, v1, v2] := by cases args; simp_all
  obtain ⟨rfl, rfl⟩ := trodVars_none hV
  obtain ⟨a0, rfl, rfl, rfl, w0⟩ := open_string Try.underlying9 (hval 0 9 v0 rfl rfl) h0
  obtain ⟨a1, rfl, rfl, rfl, w1⟩ := open_int Try.underlying5 (hval 1 5 v1 rfl rfl) h1
  obtain ⟨a2, rfl, rfl, rfl, w2⟩ := open_int Try.underlying33 (hval 2 33 v2 rfl rfl) h2
  clear hA0 hval0
  simp only [List.append_nil] at hW'
  refine (pagesBurst_walk a0 a1 a2 W w0 w1 w2).mono fun e W' ⟨he, bel⟩ => ?_
  subst he
  exact ⟨_, rfl, _, _, _, [], [], [], hW', trodAll_mk1 (shut_bool Try.underlying4 _), (trodAll_cons_mk (shut_string Try.underlying9 w0) (trodAll_cons_mk (shut_int Try.underlying5 w1) (trodAll_cons_mk (shut_int Try.underlying33 w2) trodAll_mk0))), rfl, bel.frame _, fun h => by cases h⟩

theorem pagesBurst_holds : Rows.PagesBurstSaid :=
  OpenClaim.holds_of_wide 7 Try.f7 rfl rfl rfl rfl rfl rfl rfl ⟨rfl, rfl, rfl, rfl, rfl⟩ rfl rfl rfl rfl rfl (by kernel_rfl) Try.func7 (by kernel_rfl)
    (of_decide_eq_true (by kernel_rfl)) (by unfold Func.isWrapper; first | (rw [if_pos (by decide +kernel)]; kernel_rfl) | (rw [if_neg (by decide +kernel)]; exact ⟨rfl, rfl⟩))
    (fun os started H enc _ => pagesBurst_lifted os started H enc)

end Go.Proofs.Ytnlglmloineapaa
