/- The walks of shards.sumAsBytes, degreesAsBytes, listsAsBytes and Encode. -/
import Derived.Test.YtbhngncnhabbkaaGreatHWalk
import Derived.Laws.MakeOwn
namespace Go.Proofs.YtbhngncnhabbkaaGreat
open Go.RowKit Go.Shelf

namespace Sh
/-- The four bytes of a number, the first j of them laid. -/
def laying (n j : Nat) : List UInt8 := (Cr.four n).take j ++ List.replicate (4 - j) 0
theorem laying_length {n j : Nat} (hj : j ≤ 4) : (laying n j).length = 4 := by
  have h4 : (Cr.four n).length = 4 := rfl
  unfold laying
  rw [List.length_append, List.length_take, h4, List.length_replicate]; omega
theorem laying_set {n j : Nat} (hj : j < 4) : (laying n j).set j (UInt8.ofNat (n / 2 ^ (8 * j))) = laying n (j + 1) := by
  unfold laying
  match j, hj with
  | 0, _ => simp [Cr.four, List.replicate]
  | 1, _ => simp [Cr.four, List.replicate]
  | 2, _ => simp [Cr.four, List.replicate]
  | 3, _ => simp [Cr.four]
theorem laying_full (n : Nat) : laying n 4 = Cr.four n := by
  unfold laying
  rw [List.take_of_length_le (show (Cr.four n).length ≤ 4 from Nat.le_refl _), Nat.sub_self, List.replicate_zero, List.append_nil]

/-- How long the first k lists are, zeros behind them. -/
def degs (o : List (List Int)) (k : Nat) : List Int := deg (o.take k) ++ List.replicate (o.length - k) 0
theorem degs_len {o : List (List Int)} {k : Nat} (h : k ≤ o.length) : (degs o k).length = o.length := by
  unfold degs
  rw [List.length_append, deg_len, List.length_take, List.length_replicate]; omega
theorem degs_set {o : List (List Int)} {k : Nat} (h : k < o.length) : (degs o k).set k ((o.getD k []).length : Int) = degs o (k + 1) := by
  have hl : (deg (o.take k)).length = k := by rw [deg_len, List.length_take]; omega
  unfold degs
  rw [List.set_append_right _ _ (by omega), hl, Nat.sub_self, take_snoc_o o k h, show o.length - k = (o.length - (k + 1)) + 1 by omega, List.replicate_succ, List.set_cons_zero]
  simp [deg]
theorem degs_full (o : List (List Int)) : degs o o.length = deg o := by
  unfold degs
  rw [List.take_length, Nat.sub_self, List.replicate_zero, List.append_nil]
theorem degs_zero (o : List (List Int)) : degs o 0 = List.replicate o.length 0 := rfl
end Sh

theorem sbyte_of (n j : Nat) : ((UInt8.ofNat (n / 2 ^ (8 * j))).toNat : Int) = (n : Int) / 2 ^ (8 * j) % 256 := by
  rw [show (UInt8.ofNat (n / 2 ^ (8 * j))).toNat = n / 2 ^ (8 * j) % 256 from rfl]
  simp
theorem put8 {W w : World} {B n : Nat} {l : List UInt8} (h : W.ownsRow B 5 1 (.slice (some ⟨B, 0, none⟩) n n) n (bcells l)) (hbel : Below B w W) (k : Nat) (b : UInt8) (z : Int) (hz : (b.toNat : Int) = z) :
    (W.setCell ⟨B, k, none⟩ (.int .u8 z)).ownsRow B 5 1 (.slice (some ⟨B, 0, none⟩) n n) n (bcells (l.set k b)) ∧ Below B w (W.setCell ⟨B, k, none⟩ (.int .u8 z)) := by
  subst hz
  have hs := (h.stored k (.int .u8 (b.toNat : Int))).1
  rw [bcells_set] at hs
  exact ⟨hs, hbel.setCell (Nat.le_refl _) _⟩

set_option maxHeartbeats 1000000 in
theorem sumB_any (s : ByteArray) (w : World) (hs : s.size ≤ 140737488351232) :
    Calls Tryz.prog 28 #[.string s] w fun e w' => e = .returned (.string ⟨(Cr.four (Cr.sum s.data.toList)).toArray⟩) ∧ Below w.heap.size w w' := by
  obtain ⟨i0, hi, hz0, hz1, hz2⟩ := info_parts Tryz.info5
  have HS := sum_any s w hs
  have hlt := Cr.sum_lt s.data.toList
  generalize Cr.sum s.data.toList = n at *
  have HX : Hid (Sh.laying n 4 = Cr.four n) := Sh.laying_full n
  rw [← HX.out]
  replace HS : Hid _ := HS
  go_enter Tryz.func28, Tryz.ntmps28
  go_wp2_with fail
  refine Calls.mono HS.out ?_
  rintro e w1 ⟨rfl, rfl⟩
  clear HS
  go_wp2_with (at_make; refine wpList_make_full _ rfl _ _ 47 rfl w1.heap.size 5 i0 (.int .u8 0) 1 Tryz.underlying47 hi hz0 hz1 _ _ _ _ 4 rfl rfl rfl rfl ?b2 ?b3 ?b4 ?_)
  case b2 => rw [hz2]; omega
  case b3 => unfold maxLen; omega
  case b4 => omega
  intro w2 hown hgrow
  rw [made_zeros] at hown
  have R0 : Hid (w2.ownsRow w1.heap.size 5 1 (.slice (some ⟨w1.heap.size, 0, none⟩) 4 4) 4 (bcells (Sh.laying n 0)) ∧ Below w1.heap.size w1 w2) := ⟨hown, (Below.refl _ _).grown hgrow (Nat.le_refl _) (by simp)⟩
  clear hgrow hi hz0 hz1 hz2 hown
  go_wp2
  go_loopw [11] (fun c wr => ∃ j : Nat, j ≤ 4 ∧ c = .int .i64 j ∧ Hid (wr.ownsRow w1.heap.size 5 1 (.slice (some ⟨w1.heap.size, 0, none⟩) 4 4) 4 (bcells (Sh.laying n j)) ∧ Below w1.heap.size w1 wr)) (fun c _ => 4 - (intOf c).toNat)
  case atStart => exact ⟨0, by omega, rfl, R0⟩
  case round =>
    clear R0
    obtain ⟨j, hj, rfl, R⟩ := hrel
    by_cases hlt : j < 4
    · have c1 := row_cell (Sh.laying_length (by omega)) R.out.1 j (by omega)
      have f1 := R.out.1.frozenAt j
      have R2 := put8 R.out.1 R.out.2 j (UInt8.ofNat (n / 2 ^ (8 * j))) _ (sbyte_of n j)
      rw [Sh.laying_set hlt] at R2
      have R2 : Hid _ := R2
      go_wp2
      go_roundw
      case rel => exact ⟨j + 1, by omega, by go_num, R2⟩
      case measure => simp [intOf]; omega
    · obtain rfl : j = 4 := by omega
      have hcv := conv_own wr _ _ 4 _ (Sh.laying_length (by omega)) R.out.1
      go_wp2
      go_ret
      exact ⟨rfl, R.out.2⟩

theorem size_of (l : List UInt8) : (⟨l.toArray⟩ : ByteArray).size = l.length := by
  show l.toArray.size = _
  simp
/-- string([]byte{x}) of a block of one byte, wherever it lies. -/
theorem conv_byte (W : World) (g n : Nat) (h : n < 256) (hc : W.cell? ⟨g, 0, none⟩ = some (.int .u8 n)) :
    (convert 47 9 (.slice (some ⟨g, 0, none⟩) 1 1)).run Tryz.prog W = .ok (.string ⟨[UInt8.ofNat n].toArray⟩) W := by
  rw [run_convert_bytes_string W 47 9 5 _ _ _ Tryz.underlying47 Tryz.underlying5 Tryz.underlying9]
  have hn : (UInt8.ofNat n).toNat = n := by simp; omega
  have hload : (loadCells ⟨g, 0, none⟩ 1).run Tryz.prog W = .ok (([UInt8.ofNat n].map (fun b => (b.toNat : Int))).map (Value.int .u8)).toArray W := by
    have := run_loadCells_list (P := Tryz.prog) (w := W) ⟨g, 0, none⟩ [.int .u8 n] (by
      intro i v hv
      match i, hv with
      | 0, hv =>
        simp at hv
        subst hv
        exact hc)
    rw [show ([Value.int .u8 (n : Int)]).length = 1 from rfl] at this
    rw [this]
    simp [hn]
  rw [run_bytesToString W ⟨g, 0, none⟩ 1 1 _ hload, push_all]
  rfl

set_option maxHeartbeats 1000000 in
set_option maxRecDepth 100000 in
theorem degB_any (v : Value) (o : List (List Int)) (w : World) (h : Lists w v o) (hsm : o.length ≤ 65536) (hmany : Sh.many o ≤ 4096) :
    Calls Tryz.prog 25 #[v] w fun e w' => e = .returned (.string ⟨(UInt8.ofNat (Sh.wd o) :: Pk.pk (Sh.deg o) (Sh.wd o)).toArray⟩) ∧ Below w.heap.size w w' := by
  obtain ⟨i0, hi, hz0, hz1, hz2⟩ := info_parts Tryz.intInfo
  have HL : Hid (Lists w v o) := h
  obtain ⟨r, HR⟩ : ∃ r, Hid ((⟨(UInt8.ofNat (Sh.wd o) :: Pk.pk (Sh.deg o) (Sh.wd o)).toArray⟩ : ByteArray) = r) := ⟨_, rfl⟩
  rw [HR.out]
  have HW13 : Hid (Sh.wd o ≤ 13) := Sh.wd_le hmany
  have HDF : Hid (Pk.Fit (Sh.deg o)) := Sh.deg_fit hmany
  have HLEN : Hid (∀ l ∈ o, l.length ≤ 4096) := fun l hl => by have := Sh.many_ge l hl; omega
  obtain ⟨a, cap, rfl, _, _⟩ := id h
  clear h
  go_enter Tryz.func25, Tryz.ntmps25
  go_wp2_with (at_make; refine wpList_make_full _ rfl _ _ 58 rfl w.heap.size 3 i0 (.int .i64 0) 1 Tryz.underlying58 hi hz0 hz1 _ _ _ _ o.length rfl rfl rfl rfl ?b2 ?b3 ?b4 ?_)
  case b2 => rw [hz2]; omega
  case b3 => unfold maxLen; omega
  case b4 => omega
  intro w1 hown hgrow
  have e : (madeCells #[Value.int .i64 0] o.length).toList = (Sh.degs o 0).map (Value.int .i64) := by
    rw [Sh.degs_zero, List.map_replicate]; exact toList_madeCells_one _ _
  rw [e] at hown
  have R0 : Hid (w1.ownsRow w.heap.size 3 1 (.slice (some ⟨w.heap.size, 0, none⟩) o.length o.length) o.length ((Sh.degs o 0).map (Value.int .i64)) ∧ Below w.heap.size w w1) := ⟨hown, (Below.refl _ _).grown hgrow (Nat.le_refl _) (by simp)⟩
  clear hgrow hi hz0 hz1 hz2 hown e
  go_wp2
  go_loopw [14] (fun c wr => ∃ k : Nat, k ≤ o.length ∧ c = .int .i64 k ∧ Hid (wr.ownsRow w.heap.size 3 1 (.slice (some ⟨w.heap.size, 0, none⟩) o.length o.length) o.length ((Sh.degs o k).map (Value.int .i64)) ∧ Below w.heap.size w wr)) (fun c _ => o.length - (intOf c).toNat)
  case atStart => exact ⟨0, by omega, rfl, R0⟩
  case round =>
    clear R0
    obtain ⟨k, hk, rfl, R⟩ := hrel
    by_cases hlt : k < o.length
    · obtain ⟨b, off, rfl, x, hx, hi⟩ := HL.out.at_ hlt
      obtain ⟨ax, cx, rfl, _⟩ := id hi
      have hx2 := cell_after R.out.2 hx
      have c1 : wr.cell? ⟨w.heap.size, k, none⟩ = some (.int .i64 ((Sh.degs o k).getD k 0)) := by
        rw [R.out.1.cellAt k (by omega), List.getElem?_map, List.getElem?_eq_getElem (by rw [Sh.degs_len (by omega)]; exact hlt)]
        simp [List.getD, Sh.degs_len (show k ≤ o.length by omega), hlt]
      have f1 := R.out.1.frozenAt k
      have hs := (R.out.1.stored k (.int .i64 ((o.getD k []).length : Int))).1
      rw [← List.map_set, Sh.degs_set hlt] at hs
      have R2 : Hid (_ ∧ Below w.heap.size w (wr.setCell ⟨w.heap.size, k, none⟩ (.int .i64 ((o.getD k []).length : Int)))) := ⟨hs, R.out.2.setCell (Nat.le_refl _) _⟩
      clear hs hx hi R
      generalize (Sh.degs o k).getD k 0 = z at *
      have hl4 := HLEN.out _ (getD_mem_o hlt)
      generalize (o.getD k []).length = n at *
      go_wp2
      go_roundw
      case rel => exact ⟨k + 1, by omega, by go_num, R2⟩
      case measure => simp [intOf]; omega
    · obtain rfl : k = o.length := by omega
      rw [Sh.degs_full] at R
      have HI : Hid (Ints wr (.slice (some ⟨w.heap.size, 0, none⟩) o.length o.length) (Sh.deg o)) := Ints.of_own R.out.1
      have hdl : (Sh.deg o).length ≤ 65536 := by rw [Sh.deg_len]; exact hsm
      have HWD := width_any _ (Sh.deg o) wr HI.out HDF.out (by omega)
      have HPK := pack_any _ (Sh.deg o) (Sh.wd o : Nat) wr HI.out HDF.out (by omega)
      have hw13 := HW13.out
      have hpy : ¬ (¬ (0 ≤ ((Sh.wd o : Nat) : Int) ∧ ((Sh.wd o : Nat) : Int) ≤ 32) ∨ ((Sh.wd o : Nat) : Int) < Pk.wid (Sh.deg o)) := by
        have : Pk.wid (Sh.deg o) = Sh.wd o := rfl
        omega
      rw [Pk.pack_yes hpy (by omega)] at HPK
      dsimp only at HPK
      rw [Int.toNat_natCast] at HPK
      rw [show Pk.wid (Sh.deg o) = Sh.wd o from rfl] at HWD
      have HT : Hid ((⟨[UInt8.ofNat (Sh.wd o)].toArray⟩ : ByteArray) ++ ⟨(Pk.pk (Sh.deg o) (Sh.wd o)).toArray⟩ = r) := by
        rw [← HR.out]
        apply ByteArray.ext
        apply Array.ext'
        simp
      have hs1 : (⟨[UInt8.ofNat (Sh.wd o)].toArray⟩ : ByteArray).size = 1 := rfl
      have hs2 : (⟨(Pk.pk (Sh.deg o) (Sh.wd o)).toArray⟩ : ByteArray).size ≤ 1000000 := by
        rw [size_of, Pk.pk_length, Sh.deg_len]
        unfold Pk.size
        have : o.length * Sh.wd o ≤ 65536 * 13 := Nat.mul_le_mul hsm hw13
        omega
      have HCV : Hid (∀ (W : World) (g : Nat), W.cell? ⟨g, 0, none⟩ = some (.int .u8 (Sh.wd o : Nat)) → (convert 47 9 (.slice (some ⟨g, 0, none⟩) 1 1)).run Tryz.prog W = .ok (.string ⟨[UInt8.ofNat (Sh.wd o)].toArray⟩) W) := fun W g h => conv_byte W g _ (by omega) h
      clear HR HI HDF HW13 hpy hdl
      generalize (⟨[UInt8.ofNat (Sh.wd o)].toArray⟩ : ByteArray) = WB at *
      generalize (⟨(Pk.pk (Sh.deg o) (Sh.wd o)).toArray⟩ : ByteArray) = PK at *
      generalize Sh.wd o = wd at *
      replace HWD : Hid _ := HWD
      replace HPK : Hid _ := HPK
      go_wp2_with fail
      refine Calls.mono HWD.out ?_
      rintro e w2 ⟨rfl, rfl⟩
      go_wp2_with fail
      refine Calls.mono HPK.out ?_
      rintro e w3 ⟨rfl, hb3⟩
      have HB3 : Hid (Below w.heap.size w (w3.alloc (.cells #[.int .u8 (wd : Int)] 5))) := (bnext R.out.2 hb3).alloc (bnext R.out.2 hb3).size _
      have hcv := HCV.out (w3.alloc (.cells #[.int .u8 (wd : Int)] 5)) w3.heap.size (by simp)
      clear HCV hb3 HWD HPK
      go_wp2
      go_ret
      exact ⟨congrArg (fun x => Ending.returned (.string x)) HT.out, HB3.out⟩

end Go.Proofs.YtbhngncnhabbkaaGreat
