/- The walk of pages.pageOf. -/
import Derived.Test.YtnlhgcpmmcmknaaQRow
namespace Go.Proofs.Ytnlhgcpmmcmknaa
open Go.RowKit

namespace Pg
/-- A page's bytes behind j rounds of its last loop. -/
def sealing (b : List UInt8) (n j : Nat) : List UInt8 := b ++ ((Cr.four n).take j ++ List.replicate (4 - j) 0)
theorem sealing_length {b : List UInt8} {n j : Nat} (hb : b.length = 124) (hj : j ≤ 4) : (sealing b n j).length = 128 := by
  have h4 : (Cr.four n).length = 4 := rfl
  unfold sealing
  rw [List.length_append, List.length_append, List.length_take, h4, List.length_replicate]; omega
theorem sealing_set {b : List UInt8} {n j : Nat} (hb : b.length = 124) (hj : j < 4) : (sealing b n j).set (124 + j) (UInt8.ofNat (n / 2 ^ (8 * j))) = sealing b n (j + 1) := by
  unfold sealing
  rw [List.set_append_right _ _ (by omega), hb, Nat.add_sub_cancel_left]
  congr 1
  match j, hj with
  | 0, _ => simp [Cr.four, List.replicate]
  | 1, _ => simp [Cr.four, List.replicate]
  | 2, _ => simp [Cr.four, List.replicate]
  | 3, _ => simp [Cr.four]
theorem sealing_full (b : List UInt8) (n : Nat) : sealing b n 4 = b ++ Cr.four n := by
  unfold sealing
  rw [List.take_of_length_le (show (Cr.four n).length ≤ 4 from Nat.le_refl _), Nat.sub_self, List.replicate_zero, List.append_nil]
theorem sealing_body (b : List UInt8) (n : Nat) (hb : b.length = 124) : (sealing b n 0).take 124 = b := by
  unfold sealing
  rw [List.take_append_of_le_length (by omega), List.take_of_length_le (by omega)]
theorem laid (d : List UInt8) (n : Nat) (hd : d.length ≤ 122) : over (((List.replicate 128 (0 : UInt8)).set 0 (UInt8.ofNat (d.length / 256))).set 1 (UInt8.ofNat d.length)) 2 d = sealing (body d) n 0 := by
  have e : ((List.replicate 128 (0 : UInt8)).set 0 (UInt8.ofNat (d.length / 256))).set 1 (UInt8.ofNat d.length) = [UInt8.ofNat (d.length / 256), UInt8.ofNat d.length] ++ List.replicate 126 0 := rfl
  rw [e]
  unfold over sealing body
  have e2 : List.drop (2 + d.length) ([UInt8.ofNat (d.length / 256), UInt8.ofNat d.length] ++ List.replicate 126 (0 : UInt8)) = List.replicate (122 - d.length) 0 ++ List.replicate 4 0 := by
    rw [List.drop_append, List.drop_of_length_le (by simp), List.nil_append, List.drop_replicate, List.replicate_append_replicate]
    congr 1
    simp; omega
  rw [e2]
  simp
end Pg

theorem bcells_holds {W : World} {base B n : Nat} {l : List UInt8} (k : Nat) (hl : l.length = n) (hk : k ≤ n) (h : W.ownsRow base 5 1 (.slice (some ⟨B, 0, none⟩) n n) n (bcells l)) :
    (convert 68 9 (.slice (some ⟨B, 0, none⟩) k n)).run Try.prog W = .ok (.string ⟨(l.take k).toArray⟩) W := by
  have e : (l.take k).length = k := by rw [List.length_take]; omega
  have := run_convert_bytes_back W 68 9 5 ⟨B, 0, none⟩ n (l.take k) Try.underlying68 Try.underlying5 Try.underlying9 (fun j hj => by
    rw [Addr.add_lit, Nat.zero_add, h.cellAt j (by omega), bcells_get l j (by omega)]
    simp)
  rw [e] at this
  exact this

theorem byte_of (n j : Nat) : ((UInt8.ofNat (n / 2 ^ (8 * j))).toNat : Int) = (n : Int) / 2 ^ (8 * j) % 256 := by
  rw [show (UInt8.ofNat (n / 2 ^ (8 * j))).toNat = n / 2 ^ (8 * j) % 256 from rfl]
  simp
theorem own_store {W w : World} {B n : Nat} {l : List UInt8} (h : W.ownsRow B 5 1 (.slice (some ⟨B, 0, none⟩) n n) n (bcells l)) (hbel : Below B w W) (k : Nat) (b : UInt8) (z : Int) (hz : (b.toNat : Int) = z) :
    (W.setCell ⟨B, k, none⟩ (.int .u8 z)).ownsRow B 5 1 (.slice (some ⟨B, 0, none⟩) n n) n (bcells (l.set k b)) ∧ Below B w (W.setCell ⟨B, k, none⟩ (.int .u8 z)) := by
  subst hz
  have hs := (h.stored k (.int .u8 (b.toNat : Int))).1
  rw [bcells_set] at hs
  exact ⟨hs, hbel.setCell (Nat.le_refl _) _⟩

set_option maxHeartbeats 1000000 in
theorem pageOf_any (s : ByteArray) (w : World) (hs : s.size ≤ 122) :
    Calls Try.prog 54 #[.string s] w fun e w' => e = .returned (.string ⟨(Pg.page s.data.toList).toArray⟩) ∧ Below w.heap.size w w' := by
  obtain ⟨i0, hi, hz0, hz1, hz2⟩ := info_parts Try.info5
  have hlen : s.data.toList.length = s.size := by simp
  have hbl : (Pg.body s.data.toList).length = 124 := Pg.body_length (by omega)
  have hsl := Cr.sum_lt (Pg.body s.data.toList)
  have HLD : Hid _ := Pg.laid s.data.toList (Cr.sum (Pg.body s.data.toList)) (by omega)
  have HPG : Hid (Pg.page s.data.toList = Pg.sealing (Pg.body s.data.toList) (Cr.sum (Pg.body s.data.toList)) 4) := (Pg.sealing_full _ _).symm
  rw [HPG.out]
  rw [hlen] at HLD
  obtain ⟨b, HB⟩ : ∃ b, Hid (Pg.body s.data.toList = b) := ⟨_, rfl⟩
  rw [HB.out] at hbl hsl HLD ⊢
  obtain ⟨n, HN⟩ : ∃ n, Hid (Cr.sum b = n) := ⟨_, rfl⟩
  rw [HN.out] at hsl HLD ⊢
  clear HPG
  have hbl : Hid _ := hbl
  go_enter Try.func54, Try.ntmps54
  go_wp2_with (at_make; refine wpList_make_full _ rfl _ _ 68 rfl w.heap.size 5 i0 (.int .u8 0) 1 Try.underlying68 hi hz0 hz1 _ _ _ _ 128 rfl rfl rfl rfl ?b2 ?b3 ?b4 ?_)
  case b2 => rw [hz2]; omega
  case b3 => unfold maxLen; omega
  case b4 => omega
  intro w1 hown hgrow
  rw [made_zeros] at hown
  have hbel : Below w.heap.size w w1 := (Below.refl _ _).grown hgrow (Nat.le_refl _) (by simp)
  have c0 := row_cell (by simp) hown 0 (by omega)
  have f0 := hown.frozenAt 0
  have c1 := row_cell (by simp) hown 1 (by omega)
  have f1 := hown.frozenAt 1
  have o1 := own_store hown hbel 0 (UInt8.ofNat (s.size / 256)) ((s.size : Int) / 256) (by rw [show (UInt8.ofNat (s.size / 256)).toNat = s.size / 256 % 256 from rfl]; omega)
  have o2 : Hid _ := own_store o1.1 o1.2 1 (UInt8.ofNat s.size) (s.size : Int) (by rw [show (UInt8.ofNat s.size).toNat = s.size % 256 from rfl]; omega)
  clear hgrow hi hz0 hz1 hz2 hown hbel o1
  obtain ⟨w2, hcp, hown, hbel⟩ := row_copy 3 w.heap.size w.heap.size 2 126 126 128 _ s o2.out.1 (by simp) (by unfold maxLen; omega) (by omega) (by omega) o2.out.2 (Nat.le_refl _) (Nat.le_refl _)
  rw [HLD.out] at hown
  have hcv := bcells_holds 124 (Pg.sealing_length hbl.out (Nat.zero_le _)) (by omega) hown
  rw [Pg.sealing_body _ _ hbl.out] at hcv
  have R0 : Hid (_ ∧ _) := (And.intro hown hbel)
  have hfl : (⟨b.toArray⟩ : ByteArray).data.toList = b := rfl
  have hfs : (⟨b.toArray⟩ : ByteArray).size = 124 := hbl.out
  generalize (⟨b.toArray⟩ : ByteArray) = f at hcv hfl hfs
  have HS := fun W => sum_any f W (by omega)
  rw [hfl, HN.out] at HS
  clear hown hbel o2 hfl HLD HB
  go_wp2_with fail
  refine (HS _).mono ?_
  rintro e w3 ⟨rfl, rfl⟩
  clear HS hcv hcp c0 c1 f0 f1
  go_wp2
  go_loopw [26] (fun c wr => ∃ j : Nat, j ≤ 4 ∧ c = .int .i64 j ∧ Hid (wr.ownsRow w.heap.size 5 1 (.slice (some ⟨w.heap.size, 0, none⟩) 128 128) 128 (bcells (Pg.sealing b n j)) ∧ Below w.heap.size w wr)) (fun c _ => 4 - (intOf c).toNat)
  case atStart => exact ⟨0, by omega, rfl, R0⟩
  case round =>
    clear R0
    obtain ⟨j, hj, rfl, R⟩ := hrel
    by_cases hlt : j < 4
    · have c1 := row_cell (Pg.sealing_length hbl.out (by omega)) R.out.1 (124 + j) (by omega)
      have f1 := R.out.1.frozenAt (124 + j)
      have R2 := own_store R.out.1 R.out.2 (124 + j) (UInt8.ofNat (n / 2 ^ (8 * j))) _ (byte_of n j)
      rw [Pg.sealing_set hbl.out hlt] at R2
      have R2 : Hid _ := R2
      go_wp2
      go_roundw
      case rel => exact ⟨j + 1, by omega, by go_num, R2⟩
      case measure => simp [intOf]; omega
    · obtain rfl : j = 4 := by omega
      have hcv := conv_own wr _ _ 128 _ (Pg.sealing_length hbl.out (by omega)) R.out.1
      go_wp2
      go_ret
      exact ⟨rfl, R.out.2⟩

end Go.Proofs.Ytnlhgcpmmcmknaa
