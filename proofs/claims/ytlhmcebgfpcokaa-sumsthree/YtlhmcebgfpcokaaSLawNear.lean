/- SumsNear: for every string, uint16 and uint32 the call returns true: a text of which bits within four bytes, side by side, are turned over has another sum (P3.3). No conditions. -/
import Derived.Test.YtlhmcebgfpcokaaSByte
import Derived.Laws.IdiomStrings
namespace Go.Proofs.Ytlhmcebgfpcokaa
open Go.ChangeShapes Go.WideShapes Go.ChangeAt Go.RowKit
open Go.ChangeMaps (open_string shut_string)

/-- The block B holds the bytes l, and they may be written. -/
structure Holds (W : World) (B : Nat) (l : List UInt8) : Prop where
  cell : ∀ k (h : k < l.length), W.cell? ⟨B, k, none⟩ = some (.int .u8 (l[k].toNat : Int))
  free : ∀ k, k < l.length → W.frozen? ⟨B, k, none⟩ = false

theorem Holds.store {W : World} {B : Nat} {l : List UInt8} (h : Holds W B l) (k : Nat) (b : UInt8) (hk : k < l.length) : Holds (W.setCell ⟨B, k, none⟩ (.int .u8 (b.toNat : Int))) B (l.set k b) := by
  constructor
  · intro i hi
    rw [List.length_set] at hi
    by_cases e : k = i
    · subst e
      rw [World.cell?_setCell_same _ _ _ (h.cell k hk)]
      simp
    · have hne : (⟨B, k, none⟩ : Addr) ≠ ⟨B, i, none⟩ := fun he => e (congrArg Addr.off he)
      rw [World.cell?_setCell_other _ _ _ _ hne, h.cell i hi]
      simp [e]
  · intro i hi
    rw [List.length_set] at hi
    rw [World.frozen?_setCell]
    exact h.free i hi

theorem holds_new (w : World) (s : ByteArray) (cap : Nat) : Holds (w.drew.alloc (.cells (bytesRow s cap) 5 ((bytesRow s cap).size, (bytesRow s cap).size + 1))) w.heap.size s.data.toList := by
  constructor
  · intro k hk
    have hk' : k < s.data.size := by simpa using hk
    have := World.cell?_alloc_mark w.drew (bytesRow s cap) 5 ((bytesRow s cap).size, (bytesRow s cap).size + 1) k
    rw [bytesRow_at s cap k hk'] at this
    exact this
  · intro k hk
    have hk' : k < s.data.size := by simpa using hk
    have := World.frozen?_alloc_mark w.drew (bytesRow s cap) 5 (bytesRow s cap).size ((bytesRow s cap).size + 1) k
    have hz : k < (bytesRow s cap).size := by
      unfold bytesRow
      rw [Array.size_append, Array.size_map]; omega
    rw [show decide ((bytesRow s cap).size ≤ k) = false by simp; omega] at this
    exact this

/-- []byte(s): a row of its own. -/
theorem bytes_new (w : World) (s : ByteArray) : ∃ cap W, (convert 9 30 (.string s)).run Try.prog w = .ok (.slice (some ⟨w.heap.size, 0, none⟩) s.size cap) W ∧ Holds W w.heap.size s.data.toList ∧ Below w.heap.size w W :=
  ⟨_, _, run_bytes_of_string w 9 30 5 s Try.underlying9 Try.underlying30 Try.underlying5, holds_new w s _, (Below.refl _ w).drew.alloc (Nat.le_refl _) _⟩

theorem Holds.drew {W : World} {B : Nat} {l : List UInt8} (h : Holds W B l) : Holds W.drew B l := ⟨h.cell, h.free⟩

/-- The bytes l, of which j from k on have been put against those of n. -/
def nearL (l : List UInt8) (k n : Nat) : Nat → List UInt8
  | 0 => l
  | j + 1 => (nearL l k n j).set (k + j) ((nearL l k n j).getD (k + j) 0 ^^^ UInt8.ofNat (n / 2 ^ (8 * j)))

theorem nearL_length (l : List UInt8) (k n j : Nat) : (nearL l k n j).length = l.length := by
  induction j with
  | zero => rfl
  | succ j ih => rw [nearL, List.length_set, ih]

/-- A round's store. -/
theorem near_store {w W : World} {l : List UInt8} {k n j : Nat} (h : Holds W w.heap.size (nearL l k n j)) (hb : Below w.heap.size w W) (hk : k + j < (nearL l k n j).length) :
    ∃ b : Int, bits .xor .u8 ((nearL l k n j)[k + j].toNat : Int) ((n : Int) / 2 ^ (8 * j) % 256) = b ∧
      Holds (W.setCell ⟨w.heap.size, k + j, none⟩ (.int .u8 b)).drew w.heap.size (nearL l k n (j + 1)) ∧ Below w.heap.size w (W.setCell ⟨w.heap.size, k + j, none⟩ (.int .u8 b)).drew := by
  refine ⟨(((nearL l k n j)[k + j] ^^^ UInt8.ofNat (n / 2 ^ (8 * j))).toNat : Int), ?_, ?_, (hb.setCell (Nat.le_refl _) _).drew⟩
  · have e : ((n : Int) / 2 ^ (8 * j) % 256) = ((UInt8.ofNat (n / 2 ^ (8 * j))).toNat : Int) := by
      rw [show (UInt8.ofNat (n / 2 ^ (8 * j))).toNat = n / 2 ^ (8 * j) % 256 from rfl]
      simp
    rw [e, UInt8.toNat_xor]
    exact u8_xor_nat _ _ (UInt8.toNat_lt _) (UInt8.toNat_lt _)
  · have e : nearL l k n (j + 1) = (nearL l k n j).set (k + j) ((nearL l k n j)[k + j] ^^^ UInt8.ofNat (n / 2 ^ (8 * j))) := by
      rw [nearL, List.getD_eq_getElem?_getD, List.getElem?_eq_getElem hk]; rfl
    rw [e]
    exact (h.store (k + j) _ hk).drew

theorem nearL_all (p q : List UInt8) (a b c d : UInt8) (n : Nat) : nearL (p ++ [a, b, c, d] ++ q) p.length n 4 = p ++ Cr.put [a, b, c, d] (Cr.four n) ++ q := by
  simp [nearL, Cr.put, Cr.four, List.getD]

theorem near_sum (l : List UInt8) (k n : Nat) (hk : k + 3 < l.length) (h : n < 4294967296) : Cr.sum (nearL l k n 4) = Cr.sum l ↔ n = 0 := by
  obtain ⟨p, a, b, c, d, q, rfl, hp⟩ : ∃ (p : List UInt8) (a b c d : UInt8) (q : List UInt8), l = p ++ [a, b, c, d] ++ q ∧ p.length = k := by
    refine ⟨l.take k, l[k], l[k + 1], l[k + 2], l[k + 3], l.drop (k + 4), ?_, by rw [List.length_take]; omega⟩
    simp
  subst hp
  rw [nearL_all]
  exact Cr.sum_near p [a, b, c, d] q n rfl h

theorem near_beq (l : List UInt8) (k n : Nat) (hk : k + 3 < l.length) (h : n < 4294967296) : (((Cr.sum (nearL l k n 4) : Int) == (Cr.sum l : Int)) == ((n : Int) == 0)) = true := by
  have hs := near_sum l k n hk h
  by_cases hb : n = 0
  · rw [hs.2 hb, hb]; simp
  · have ha : Cr.sum (nearL l k n 4) ≠ Cr.sum l := fun e => hb (hs.1 e)
    have e1 : ((Cr.sum (nearL l k n 4) : Int) == (Cr.sum l : Int)) = false := by rw [beq_eq_false_iff_ne]; omega
    have e2 : ((n : Int) == 0) = false := by rw [beq_eq_false_iff_ne]; omega
    rw [e1, e2]; rfl

theorem conv_held {W : World} {B : Nat} {l : List UInt8} (h : Holds W B l) (cap : Nat) {n : Nat} (hl : l.length = n) : (convert 30 9 (.slice (some ⟨B, 0, none⟩) n cap)).run Try.prog W = .ok (.string ⟨l.toArray⟩) W := by
  subst hl
  refine run_convert_bytes_back W 30 9 5 ⟨B, 0, none⟩ cap l Try.underlying30 Try.underlying5 Try.underlying9 fun j hj => ?_
  rw [Addr.add_lit, Nat.zero_add]
  exact h.cell j hj

set_option maxHeartbeats 1000000 in
theorem sumsNear_walk (s : ByteArray) (t0 o0 : Int) (w : World) (hs : s.size ≤ maxLen) (ht0 : (Lit.int .u16 t0).wf = true) (ho0 : (Lit.int .u32 o0).wf = true) :
    Calls Try.prog 7 #[.string s, .int .u16 t0, .int .u32 o0] w fun e w' => e = .returned (.bool true) ∧ Below w.heap.size w w' := by
  obtain ⟨t, rfl, ht⟩ := wf_u16 ht0
  obtain ⟨o, rfl, ho⟩ := wf_u32 ho0
  clear ht0 ho0
  unfold maxLen at hs
  by_cases h5 : 12000 < s.size ∨ s.size < 4
  · have hd : (decide (12000 < (s.size : Int)) || decide ((s.size : Int) < 4)) = true := by
      rcases h5 with h | h <;> simp <;> omega
    go_enter Try.func7, Try.ntmps7
    rcases h5 with h5 | h5
    all_goals
      go_wp2_with fail
      refine (check_any _).mono ?_
      rintro e w' ⟨rfl, rfl⟩
      go_wp2
      go_ret
      exact ⟨rfl, Below.refl _ _⟩
  · have h6 : s.size ≤ 12000 := by omega
    have h7 : 4 ≤ s.size := by omega
    clear h5
    obtain ⟨cap, W, hc, hW, hB⟩ := bytes_new w s
    have hW : Hid (Holds W w.heap.size s.data.toList) := hW
    have hB : Hid (Below w.heap.size w W) := hB
    go_enter Try.func7, Try.ntmps7
    obtain ⟨k, hk, hk3⟩ : ∃ k : Nat, (t : Int) % ((s.size : Int) - 3) = (k : Int) ∧ k + 3 < s.size := by
      have h1 := Int.emod_nonneg (t : Int) (show (s.size : Int) - 3 ≠ 0 by omega)
      have h2 := Int.emod_lt_of_pos (t : Int) (show 0 < (s.size : Int) - 3 by omega)
      exact ⟨((t : Int) % ((s.size : Int) - 3)).toNat, by omega, by omega⟩
    go_wp2_with fail
    go_loopw [9] (fun c wr => ∃ j : Nat, j ≤ 4 ∧ c = .int .i64 j ∧ Hid (Holds wr w.heap.size (nearL s.data.toList k o j)) ∧ Hid (Below w.heap.size w wr)) (fun c _ => 4 - (intOf c).toNat)
    case atStart => exact ⟨0, by omega, rfl, hW, hB⟩
    case round =>
      obtain ⟨j, hj, rfl, hh, hb⟩ := hrel
      by_cases hlt : j < 4
      · have hlen : (nearL s.data.toList k o j).length = s.size := by rw [nearL_length]; simp
        have hc1 := hh.out.cell (k + j) (by omega)
        have hf1 := hh.out.free (k + j) (by omega)
        obtain ⟨y, hy, h1, h2⟩ := near_store hh.out hb.out (by omega)
        have h1 : Hid _ := h1
        have h2 : Hid _ := h2
        generalize (nearL s.data.toList k o j)[k + j] = x at hc1 hy
        go_wp2
        go_region
        all_goals go_wp2
        go_roundw
        case rel => exact ⟨j + 1, by omega, by go_num, h1, h2⟩
        case measure => simp [intOf]; omega
      · obtain rfl : j = 4 := by omega
        have hlen : (nearL s.data.toList k o 4).length = s.size := by rw [nearL_length]; simp
        have hc2 := conv_held hh.out cap hlen
        have he : Hid ((⟨(nearL s.data.toList k o 4).toArray⟩ : ByteArray).data.toList = nearL s.data.toList k o 4) := rfl
        have hz : (⟨(nearL s.data.toList k o 4).toArray⟩ : ByteArray).size = s.size := hlen
        generalize (⟨(nearL s.data.toList k o 4).toArray⟩ : ByteArray) = f at hc2 he hz
        have HA := fun W => sum_any f W (by omega)
        have HB := fun W => sum_any s W (by omega)
        rw [he.out] at HA
        have hq := near_beq s.data.toList k o (by simpa using hk3) ho
        generalize Cr.sum (nearL s.data.toList k o 4) = p at HA hq
        generalize Cr.sum s.data.toList = q at HB hq
        clear hlen he hh
        go_wp2_with fail
        refine (HA _).mono ?_
        rintro e w1 ⟨rfl, rfl⟩
        go_wp2_with fail
        refine (HB _).mono ?_
        rintro e w1 ⟨rfl, rfl⟩
        go_wp2_with fail
        refine (check_any _).mono ?_
        rintro e w1 ⟨rfl, rfl⟩
        go_wp2
        go_ret
        exact ⟨rfl, hb.out⟩

set_option maxRecDepth 100000 in
theorem sumsNear_lifted (os : Os) (started : os.Started) (H : Type) (enc : TypeId × Value → H) :
    ReturnsInHanded {} Try.checked os 7 .any (Rows.sumsNearSpec.pre6 enc Try.prog Try.f7 Rows.sumsNearRow.domain false) (Rows.sumsNearSpec.post enc Try.prog Try.f7 false true false false) := by
  refine returnsInHanded_of_change (C := Try.checked) Try.own started (by kernel_rfl) Try.func7
    (ChangeSpec.witness6 (enc := enc) (C := Try.checked) false ⟨#[], #[.string ByteArray.empty, .int .u16 0, .int .u32 0], []⟩ 8 (by kernel_rfl) (by kernel_rfl) (by kernel_rfl) (by kernel_rfl)) ?_
  intro W base args ds gs before hval0 hW hcnd _
  have hval : ∀ (j : Nat) t v, Try.f7.params[j]? = some t → args[j]? = some v → Value.okWide Try.prog W .any base t v := hval0
  have hW' := hW
  obtain ⟨p, q, hA0, hV, rfl, hfz, hnd⟩ := hW
  have hA : DataW.TrodAll enc Try.prog W 0 (fun _ => true) true Try.f7.params.toList args.toList ds p := hA0
  rw [Try.params7] at hA hval
  obtain ⟨v0, vs0, d0, ds0, p0, q0, hargs, rfl, rfl, h0, r0⟩ := trodAll_cons hA
  obtain ⟨v1, vs1, d1, ds1, p1, q1, rfl, rfl, rfl, h1, r1⟩ := trodAll_cons r0
  obtain ⟨v2, vs2, d2, ds2, p2, q2, rfl, rfl, rfl, h2, r2⟩ := trodAll_cons r1
  obtain ⟨rfl, rfl, rfl⟩ := trodAll_nil r2
  obtain rfl : args = #[v0, v1, v2] := by cases args; simp_all
  obtain ⟨rfl, rfl⟩ := trodVars_none hV
  obtain ⟨a0, rfl, rfl, rfl, w0⟩ := open_string Try.underlying9 (hval 0 9 v0 rfl rfl) h0
  obtain ⟨a1, rfl, rfl, rfl, w1⟩ := open_int Try.underlying32 (hval 1 32 v1 rfl rfl) h1
  obtain ⟨a2, rfl, rfl, rfl, w2⟩ := open_int Try.underlying22 (hval 2 22 v2 rfl rfl) h2
  clear hA0 hval0
  simp only [List.append_nil] at hW'
  refine (sumsNear_walk a0 a1 a2 W w0 w1 w2).mono fun e W' ⟨he, bel⟩ => ?_
  subst he
  exact ⟨_, rfl, _, _, _, [], [], [], hW', trodAll_mk1 (shut_bool Try.underlying4 _), (trodAll_cons_mk (shut_string Try.underlying9 w0) (trodAll_cons_mk (shut_int Try.underlying32 w1) (trodAll_cons_mk (shut_int Try.underlying22 w2) trodAll_mk0))), rfl, bel.frame _, fun h => by cases h⟩

theorem sumsNear_holds : Rows.SumsNearSaid :=
  OpenClaim.holds_of_wide 7 Try.f7 rfl rfl rfl rfl rfl rfl rfl ⟨rfl, rfl, rfl, rfl, rfl⟩ rfl rfl rfl rfl rfl (by kernel_rfl) Try.func7 (by kernel_rfl)
    (of_decide_eq_true (by kernel_rfl)) (by unfold Func.isWrapper; first | (rw [if_pos (by decide +kernel)]; kernel_rfl) | (rw [if_neg (by decide +kernel)]; exact ⟨rfl, rfl⟩))
    (fun os started H enc _ => sumsNear_lifted os started H enc)

end Go.Proofs.Ytlhmcebgfpcokaa
