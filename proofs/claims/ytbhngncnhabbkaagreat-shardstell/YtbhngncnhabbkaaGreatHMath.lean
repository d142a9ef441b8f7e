/- The walk of the document's own Pack. -/
import Derived.Test.YtbhngncnhabbkaaGreatPByte
import Derived.BigRegion
namespace Go.Proofs.YtbhngncnhabbkaaGreat
open Go.RowKit

theorem Tryz.byteInfo2 : (Tryz.prog.info? 5).map (fun i => (i.zero, i.size, i.bytes)) = some (some (.int .u8 0), 1, 1) := by kernel_rfl

namespace Pk
theorem pack_bad {l : List Int} {n : Nat} (hf : Fit l) (hn : n ≤ 32) (h : ¬ May l n) : pack l n = ([], 2) := by
  refine pack_arg (.inr ?_)
  have h2 : ¬ wid l ≤ n := fun h3 => h ((wid_le hf n hn).1 h3)
  omega
theorem pack_much {l : List Int} {n : Nat} (hf : Fit l) (hn : n ≤ 32) (h : May l n) (hl : 65536 < l.length) : pack l n = ([], 3) := by
  have := (wid_le hf n hn).2 h
  exact pack_long (by omega) hl
theorem pack_good {l : List Int} {n : Nat} (hf : Fit l) (hn : n ≤ 32) (h : May l n) (hl : ¬ 65536 < l.length) : pack l n = (pk l n, 0) := by
  have := (wid_le hf n hn).2 h
  rw [pack_yes (by omega) hl, Int.toNat_natCast]

/-- The bit of a number that the round looks at. -/
theorem bit_of {l : List Int} {n : Nat} (hm : May l n) (hn : n ≤ 32) (i k : Nat) (hi : i < l.length) (hk : k < n) :
    ∃ y : Nat, l.getD i 0 / 2 ^ k = y ∧ y ≤ 4294967295 ∧ y % 2 = tb l n (i * n + k) := by
  have h := hm.at i
  have hp := pow32 n hn
  rw [tb_at l n i k hi hk]
  obtain ⟨x, hx⟩ := Int.eq_ofNat_of_zero_le h.1
  rw [hx] at h ⊢
  have h2 : x < 2 ^ n := by simpa using h.2
  refine ⟨x / 2 ^ k, ?_, ?_, rfl⟩
  · rw [two_pow_cast']; simp
  · have := Nat.div_le_self x (2 ^ k)
    omega
end Pk

theorem rpack_width (v : Value) (n : Int) (w : World) (hn : ¬ (0 ≤ n ∧ n ≤ 32)) :
    Calls Tryz.prog 31 #[v, .int .i64 n] w fun e w' => e = .returned (.tuple #[.string ⟨([] : List UInt8).toArray⟩, .int .i64 2]) ∧ Below w.heap.size w w' := by
  have hd : (decide (n < 0) || decide (32 < n)) = true := by simp; omega
  go_enter Tryz.func31, Tryz.ntmps31
  go_wp2
  all_goals go_ret2
  all_goals exact ⟨rfl, Below.refl _ _⟩

/-- A round's store. -/
theorem fill_store {w W : World} {B N p d r e x : Nat} {f : Nat → Nat} (hf : ∀ k, f k ≤ 1) (h : Holds W B (Pk.fill f N p)) (hB : w.heap.size ≤ B) (hb : Below w.heap.size w W) (h1 : f p = 1) (hd : p / 8 = d) (hr : p % 8 = r) (he : 2 ^ r = e) (hdN : d < N) (hx : Pk.part8 f p d = x) :
    W.cell? ⟨B, d, none⟩ = some (.int .u8 (x : Int)) ∧ W.frozen? ⟨B, d, none⟩ = false ∧ x + e < 256 ∧
    Holds (W.setCell ⟨B, d, none⟩ (.int .u8 ((x : Int) + (e : Int)))).drew B (Pk.fill f N (p + 1)) ∧ Below w.heap.size w (W.setCell ⟨B, d, none⟩ (.int .u8 ((x : Int) + (e : Int)))).drew := by
  subst hd hr he hx
  have hl : p / 8 < (Pk.fill f N p).length := by rw [Pk.fill_length]; exact hdN
  have hroom := Pk.fill_room hf p h1
  have hc := h.cell (p / 8) hl
  rw [Pk.fill_get hf] at hc
  refine ⟨hc, h.free _ hl, hroom, ?_, (hb.setCell hB _).drew⟩
  have hs := h.store (p / 8) (UInt8.ofNat (Pk.part8 f p (p / 8) + 2 ^ (p % 8))) hl
  rw [← Pk.fill_some N p hdN h1] at hs
  have e2 : ((UInt8.ofNat (Pk.part8 f p (p / 8) + 2 ^ (p % 8))).toNat : Int) = (Pk.part8 f p (p / 8) : Int) + ((2 ^ (p % 8) : Nat) : Int) := by
    have : (UInt8.ofNat (Pk.part8 f p (p / 8) + 2 ^ (p % 8))).toNat = Pk.part8 f p (p / 8) + 2 ^ (p % 8) := by simp; omega
    rw [this, Int.natCast_add]
  rw [e2] at hs
  exact hs.drew

set_option maxHeartbeats 4000000 in
set_option maxRecDepth 100000 in
theorem rpack_in (a : Option Addr) (cap : Nat) (zs : List Int) (n : Nat) (w : World) (h : Ints w (.slice a zs.length cap) zs) (hf : Pk.Fit zs) (hl : zs.length ≤ 1000000000000) (hn : n ≤ 32) :
    Calls Tryz.prog 31 #[.slice a zs.length cap, .int .i64 n] w fun e w' => e = .returned (.tuple #[.string ⟨(Pk.pack zs n).1.toArray⟩, .int .i64 (Pk.pack zs n).2]) ∧ Below w.heap.size w w' := by
  obtain ⟨i0, hi0, hz0, hz1, hz2⟩ := info_parts Tryz.byteInfo2
  have HC : Hid (∀ j, j < zs.length → ∃ b off, a = some ⟨b, off, none⟩ ∧ b < w.heap.size ∧ w.cell? ⟨b, off + j, none⟩ = some (.int .i64 (zs.getD j 0))) := by
    intro j hj
    obtain ⟨a', cap', e, h⟩ := h
    cases e
    rcases h with rfl | ⟨b, off, rfl, hb, hc⟩
    · simp at hj
    · exact ⟨b, off, rfl, hb, hc j hj⟩
  have HF : Hid (Pk.Fit zs) := hf
  clear h hf
  obtain ⟨r, HR⟩ : ∃ r, Hid (Pk.pack zs n = r) := ⟨_, rfl⟩
  rw [HR.out]
  go_enter Tryz.func31, Tryz.ntmps31
  go_wp2
  go_loop [6] (fun x => ∃ i : Nat, i ≤ zs.length ∧ x = .int .i64 i ∧ Hid (Pk.May (zs.take i) n)) (fun x => zs.length - (intOf x).toNat)
  case atStart => exact ⟨0, Nat.zero_le _, rfl, by show Pk.May _ n; simp [Pk.May]⟩
  case round =>
    obtain ⟨i, hi, rfl, hm⟩ := hrel
    by_cases hlt : i < zs.length
    · obtain ⟨b, off, rfl, hb, hc⟩ := HC.out i hlt
      have HM := fun W => rmay_any (zs.getD i 0) n W hn
      have HT : Hid _ := Pk.may_take zs n i hlt
      generalize zs.getD i 0 = z at *
      by_cases hz : 0 ≤ z ∧ z < 2 ^ n
      · rw [decide_eq_true hz] at HM
        have R : Hid (Pk.May (zs.take (i + 1)) n) := HT.out.2 ⟨hm.out, hz⟩
        clear HT hz hm
        go_wp2_with fail
        refine (HM _).mono ?_
        rintro e w' ⟨rfl, rfl⟩
        go_wp2
        go_round
        case rel => exact ⟨i + 1, by omega, by go_num, R⟩
        case measure => simp [intOf]; omega
      · rw [decide_eq_false hz] at HM
        have R : Hid (r = ([], 2)) := by
          show r = ([], 2)
          rw [← HR.out]
          exact Pk.pack_bad HF.out hn (fun h => hz (HT.out.1 (Pk.may_of_take (i + 1) h)).2)
        clear HT hz hm
        go_wp2_with fail
        refine (HM _).mono ?_
        rintro e w' ⟨rfl, rfl⟩
        go_wp2
        go_ret2
        rw [R.out]
        exact ⟨rfl, Below.refl _ _⟩
    · obtain rfl : i = zs.length := by omega
      rw [List.take_length] at hm
      by_cases h6 : 65536 < zs.length
      · have R : Hid (r = ([], 3)) := by
          show r = ([], 3)
          rw [← HR.out]
          exact Pk.pack_much HF.out hn hm.out h6
        go_wp2
        go_ret2
        rw [R.out]
        exact ⟨rfl, Below.refl _ _⟩
      · have R : Hid (r = (Pk.pk zs n, 0)) := by
          show r = (Pk.pk zs n, 0)
          rw [← HR.out]
          exact Pk.pack_good HF.out hn hm.out h6
        have hN : zs.length * n ≤ 65536 * 32 := Nat.mul_le_mul (by omega) hn
        have hN2 : (zs.length : Int) * n = ((zs.length * n : Nat) : Int) := by simp
        have HFULL : Hid _ := Pk.fill_full zs n
        obtain ⟨N, hNs⟩ : ∃ N, N = Pk.size zs.length n := ⟨_, rfl⟩
        rw [← hNs] at HFULL
        have hq : (((zs.length * n : Nat) : Int) + 7) / 8 = (N : Int) := by rw [hNs]; unfold Pk.size; omega
        have HNN : Hid (∀ p, p < zs.length * n → p / 8 < N) := by intro p hp; rw [hNs]; unfold Pk.size; omega
        have hN3 : N ≤ 262144 := by rw [hNs]; unfold Pk.size; omega
        clear hNs
        obtain ⟨T, HTT⟩ : ∃ T, Hid (zs.length * n = T) := ⟨_, rfl⟩
        rw [HTT.out] at hN hN2 hq HFULL HNN
        go_wp2_with (at_make; refine wpList_make_full _ rfl _ _ 47 rfl w.heap.size 5 i0 (.int .u8 0) 1 Tryz.underlying47 hi0 hz0 hz1 _ _ _ _ N rfl rfl (by first | rfl | exact hq) (by first | rfl | exact hq) ?b2 ?b3 ?b4 ?_)
        case b2 => omega
        case b3 => unfold maxLen; omega
        intro w1 hown hgrow
        have hH : Hid (Holds w1 w.heap.size (Pk.fill (Pk.tb zs n) N 0)) := by
          show Holds _ _ _
          rw [Pk.fill_zero]
          exact holds_made hown
        have hB : Hid (Below w.heap.size w w1) := (Below.refl _ _).grown hgrow (Nat.le_refl _) (by simp)
        clear hown hgrow hi0 hz0 hz1 hz2 hq hN2
        go_wp2
        go_loopw [8] (fun x wr => ∃ i : Nat, i ≤ zs.length ∧ x = .int .i64 i ∧ Hid (Holds wr w.heap.size (Pk.fill (Pk.tb zs n) N (i * n))) ∧ Hid (Below w.heap.size w wr)) (fun x _ => zs.length - (intOf x).toNat)
        case atStart => exact ⟨0, Nat.zero_le _, rfl, by rw [Nat.zero_mul]; exact hH, hB⟩
        case round =>
          clear hH hB
          obtain ⟨i, hi, rfl, hH, hB⟩ := hrel
          by_cases hlt : i < zs.length
          · have hin : i * n + n ≤ T := by
              have h1 : (i + 1) * n ≤ zs.length * n := Nat.mul_le_mul_right _ hlt
              rw [Nat.add_mul, Nat.one_mul, HTT.out] at h1
              exact h1
            have hin2 : (i : Int) * n = ((i * n : Nat) : Int) := by simp
            obtain ⟨m, HMM⟩ : ∃ m, Hid (i * n = m) := ⟨_, rfl⟩
            rw [HMM.out] at hin hin2 hH
            go_wp2
            go_loopw [9] (fun x wr => ∃ k : Nat, k ≤ n ∧ x = .int .i64 k ∧ Hid (Holds wr w.heap.size (Pk.fill (Pk.tb zs n) N (m + k))) ∧ Hid (Below w.heap.size w wr)) (fun x _ => n - (intOf x).toNat)
            case atStart => exact ⟨0, Nat.zero_le _, rfl, hH, hB⟩
            case round =>
              clear hH hB
              obtain ⟨k, hk, rfl, hH, hB⟩ := hrel
              by_cases hkn : k < n
              · obtain ⟨b, off, rfl, hb, hc⟩ := HC.out i hlt
                have hc1 := (hB.out.cell (p := ⟨b, off + i, none⟩) hb).trans hc
                obtain ⟨y, hy, hy2, hy3⟩ := Pk.bit_of hm.out hn i k hlt hkn
                rw [HMM.out] at hy3
                have hz := Pk.Fit.at HF.out i
                generalize zs.getD i 0 = z at *
                have HTB : Hid _ := hy3
                clear hy3 hc
                by_cases hyo : y % 2 = 1
                · obtain ⟨p, hp⟩ : ∃ p, p = m + k := ⟨_, rfl⟩
                  have hpN := HNN.out p (by omega)
                  obtain ⟨d, hd⟩ : ∃ d, p / 8 = d := ⟨_, rfl⟩
                  obtain ⟨r8, hr8⟩ : ∃ r8, p % 8 = r8 := ⟨_, rfl⟩
                  obtain ⟨e, he⟩ : ∃ e, 2 ^ r8 = e := ⟨_, rfl⟩
                  obtain ⟨x, hx⟩ : ∃ x, Pk.part8 (Pk.tb zs n) p d = x := ⟨_, rfl⟩
                  have hd2 : ((m : Int) + (k : Int)) / 8 = d := by omega
                  have hr2 : ((m : Int) + (k : Int)) % 8 = r8 := by omega
                  have he2 : (2 : Int) ^ r8 = e := by rw [Pk.two_pow_cast', he]
                  have he3 : e ≤ 128 := by rw [← he]; exact Nat.pow_le_pow_right (n := 2) (by omega) (show r8 ≤ 7 by omega)
                  rw [hd] at hpN
                  obtain ⟨s1, s2, s3, s4, s5⟩ := fill_store (Pk.tb_le zs n) (by rw [hp]; exact hH.out) (Nat.le_refl _) hB.out (by rw [hp, ← HTB.out]; exact hyo) hd hr8 he hpN hx
                  have S4 : Hid _ := s4
                  have S5 : Hid _ := s5
                  have HP : Hid (p = m + k) := hp
                  clear s4 s5 hp hd hr8 he hx hH
                  have hr7 : r8 ≤ 7 := by omega
                  go_wp2
                  go_region
                  all_goals go_wp2
                  go_roundw
                  case rel => exact ⟨k + 1, by omega, by go_num, by rw [← Nat.add_assoc, ← HP.out]; exact S4, S5⟩
                  case measure => simp [intOf]; omega
                · have h0 : y % 2 = 0 := by omega
                  rw [← Pk.fill_none N (m + k) (HTB.out.symm.trans h0)] at hH
                  go_wp2
                  go_roundw
                  case rel => exact ⟨k + 1, by omega, by go_num, hH, hB⟩
                  case measure => simp [intOf]; omega
              · obtain rfl : k = n := by omega
                go_wp2
                go_roundw
                case rel => exact ⟨i + 1, by omega, by go_num, by rw [Nat.add_mul, Nat.one_mul, HMM.out]; exact hH, hB⟩
                case measure => simp [intOf]; omega
          · obtain rfl : i = zs.length := by omega
            rw [HTT.out, HFULL.out] at hH
            have hcv := conv_held hH.out N (show (Pk.pk zs n).length = N by rw [← HFULL.out, Pk.fill_length])
            generalize Pk.pk zs n = pp at *
            clear hH
            go_wp2
            go_ret2
            rw [R.out]
            exact ⟨rfl, hB.out⟩

theorem rpack_any (v : Value) (zs : List Int) (n : Int) (w : World) (h : Ints w v zs) (hf : Pk.Fit zs) (hl : zs.length ≤ 1000000000000) :
    Calls Tryz.prog 31 #[v, .int .i64 n] w fun e w' => e = .returned (.tuple #[.string ⟨(Pk.pack zs n).1.toArray⟩, .int .i64 (Pk.pack zs n).2]) ∧ Below w.heap.size w w' := by
  by_cases hn : 0 ≤ n ∧ n ≤ 32
  · obtain ⟨m, rfl⟩ := Int.eq_ofNat_of_zero_le hn.1
    obtain ⟨a, cap, rfl, h⟩ := h
    exact rpack_in a cap zs m w ⟨a, cap, rfl, h⟩ hf hl (by omega)
  · rw [Pk.pack_arg (.inl hn)]
    exact rpack_width v n w hn

end Go.Proofs.YtbhngncnhabbkaaGreat

/- Shards in plain words: which ones may be, their bytes; no two have the same, none begins another one's; bytes of one that are turned over, or cut off, are none. -/
namespace Go.Proofs.YtbhngncnhabbkaaGreat
namespace Sh

/-- A part, and a list for each of its vertices. -/
abbrev Shard := (Int × Int) × List (List Int)

/-- May it be a shard's part? -/
def mayP (p : Int × Int) : Bool := decide (0 ≤ p.1) && decide (p.1 < p.2) && decide (p.2 ≤ 256)
/-- May it be the list of v? -/
def okL (v : Int) (l : List Int) : Bool := Gp.up (-1) l && l.all fun x => decide (x < 256) && decide (x ≠ v)
def okF : Int → List (List Int) → Bool
  | _, [] => true
  | v, l :: r => okL v l && okF (v + 1) r
/-- How many numbers they have. -/
def many (o : List (List Int)) : Nat := (o.map List.length).sum
/-- May it be? -/
def may (s : Shard) : Bool := mayP s.1 && decide ((s.2.length : Int) = s.1.2 - s.1.1) && okF s.1.1 s.2 && decide (many s.2 ≤ 4096)
/-- What Check tells. -/
def chk (s : Shard) : Int := if may s = true then 0 else 2

def deg (o : List (List Int)) : List Int := o.map fun l => (l.length : Int)
def wd (o : List (List Int)) : Nat := Pk.wid (deg o)
def lists (o : List (List Int)) : List UInt8 := o.flatMap Gp.enc
/-- Its bytes ahead of the sum. -/
def raw (s : Shard) : List UInt8 := 115 :: 104 :: (Vi.putL s.1.1 ++ (Vi.putL s.1.2 ++ (UInt8.ofNat (wd s.2) :: (Pk.pk (deg s.2) (wd s.2) ++ (lists s.2 ++ Vi.putL (many s.2))))))
/-- Bytes and their sum. -/
def sealB (b : List UInt8) : List UInt8 := b ++ Cr.four (Cr.sum b)
def enc (s : Shard) : List UInt8 := sealB (raw s)

theorem mayP_iff {p : Int × Int} : mayP p = true ↔ 0 ≤ p.1 ∧ p.1 < p.2 ∧ p.2 ≤ 256 := by simp [mayP, and_assoc]
theorem may_iff {s : Shard} : may s = true ↔ mayP s.1 = true ∧ (s.2.length : Int) = s.1.2 - s.1.1 ∧ okF s.1.1 s.2 = true ∧ many s.2 ≤ 4096 := by simp [may, and_assoc]
theorem okF_mem : ∀ {v : Int} {o : List (List Int)}, okF v o = true → ∀ l ∈ o, Gp.up (-1) l = true ∧ ∀ x ∈ l, 0 ≤ x ∧ x < 256
  | _, [], _, l, hl => by simp at hl
  | v, l0 :: r, h, l, hl => by
    simp only [okF, Bool.and_eq_true] at h
    rcases List.mem_cons.1 hl with rfl | hl
    · have h1 := h.1
      simp only [okL, Bool.and_eq_true] at h1
      refine ⟨h1.1, fun x hx => ?_⟩
      have h2 := List.all_eq_true.1 h1.2 x hx
      simp only [Bool.and_eq_true, decide_eq_true_eq] at h2
      exact ⟨up_nonneg h1.1 x hx, h2.1⟩
    · exact okF_mem h.2 l hl
  where
  up_nonneg : ∀ {a : Int} {l : List Int}, Gp.up a l = true → ∀ x ∈ l, a + 1 ≤ x
    | _, [], _, x, hx => by simp at hx
    | a, n :: r, h, x, hx => by
      simp only [Gp.up, Bool.and_eq_true, decide_eq_true_eq] at h
      rcases List.mem_cons.1 hx with rfl | hx
      · omega
      · have := up_nonneg h.2 x hx; omega
theorem many_ge : ∀ {o : List (List Int)}, ∀ l ∈ o, l.length ≤ many o
  | [], l, hl => by simp at hl
  | l0 :: r, l, hl => by
    have e : many (l0 :: r) = l0.length + many r := by simp [many]
    rcases List.mem_cons.1 hl with rfl | hl
    · omega
    · have := many_ge l hl; omega
theorem take_snoc_o (o : List (List Int)) (k : Nat) (h : k < o.length) : o.take (k + 1) = o.take k ++ [o.getD k []] := by
  rw [List.take_add_one, List.getElem?_eq_getElem h]
  simp [List.getD, h]
theorem many_take (o : List (List Int)) (k : Nat) (h : k < o.length) : many (o.take (k + 1)) = many (o.take k) + (o.getD k []).length := by
  rw [take_snoc_o o k h]
  unfold many
  rw [List.map_append, List.sum_append]
  simp
theorem lists_take (o : List (List Int)) (k : Nat) (h : k < o.length) : lists (o.take (k + 1)) = lists (o.take k) ++ Gp.enc (o.getD k []) := by
  rw [take_snoc_o o k h]
  unfold lists
  rw [List.flatMap_append]
  simp
theorem deg_len (o : List (List Int)) : (deg o).length = o.length := by simp [deg]
theorem deg_fit {o : List (List Int)} (h : many o ≤ 4096) : Pk.Fit (deg o) := fun z hz => by
  obtain ⟨l, hl, rfl⟩ := List.mem_map.1 hz
  have := many_ge l hl
  omega
theorem wd_le {o : List (List Int)} (h : many o ≤ 4096) : wd o ≤ 13 := (Pk.wid_le (deg_fit h) 13 (by omega)).2 fun z hz => by
  obtain ⟨l, hl, rfl⟩ := List.mem_map.1 hz
  have := many_ge l hl
  omega
theorem deg_may {o : List (List Int)} (h : many o ≤ 4096) : Pk.May (deg o) (wd o) := (Pk.wid_le (deg_fit h) (wd o) (by have := wd_le h; omega)).1 (Nat.le_refl _)

/-! No bytes of one begin another one's. -/
theorem put_pre {a b : Int} {x y : List UInt8} (ha : 0 ≤ a ∧ a ≤ 9223372036854775807) (hb : 0 ≤ b ∧ b ≤ 9223372036854775807) (h : Vi.putL a ++ x = Vi.putL b ++ y) : a = b ∧ x = y := by
  have h1 := Gp.getS_put [] x a ha.1 ha.2
  have h2 := Gp.getS_put [] y b hb.1 hb.2
  rw [h] at h1
  rw [h1] at h2
  have e : a = b := congrArg (·.1) h2
  subst e
  exact ⟨rfl, List.append_cancel_left h⟩
theorem enc_pre {a b : List Int} {x y : List UInt8} (ha : Gp.up (-1) a = true) (hb : Gp.up (-1) b = true) (fa : Gp.Fit a) (fb : Gp.Fit b) (la : a.length ≤ 9223372036854775807) (lb : b.length ≤ 9223372036854775807) (h : Gp.enc a ++ x = Gp.enc b ++ y) : a = b ∧ x = y := by
  have h1 := Gp.dec_enc [] x a ha fa la
  have h2 := Gp.dec_enc [] y b hb fb lb
  rw [h] at h1
  rw [h1] at h2
  have e : a = b := by simpa using congrArg (·.map (·.1)) h2
  subst e
  exact ⟨rfl, List.append_cancel_left h⟩
def Good (o : List (List Int)) : Prop := ∀ l ∈ o, Gp.up (-1) l = true ∧ Gp.Fit l ∧ l.length ≤ 9223372036854775807
theorem lists_pre : ∀ {o q : List (List Int)} {x y : List UInt8}, Good o → Good q → o.length = q.length → lists o ++ x = lists q ++ y → o = q ∧ x = y
  | [], [], x, y, _, _, _, h => ⟨rfl, by simpa [lists] using h⟩
  | a :: o, b :: q, x, y, go, gq, hl, h => by
    have e1 : lists (a :: o) = Gp.enc a ++ lists o := by simp [lists]
    have e2 : lists (b :: q) = Gp.enc b ++ lists q := by simp [lists]
    rw [e1, e2, List.append_assoc, List.append_assoc] at h
    obtain ⟨a1, a2, a3⟩ := go a List.mem_cons_self
    obtain ⟨b1, b2, b3⟩ := gq b List.mem_cons_self
    obtain ⟨rfl, h2⟩ := enc_pre a1 b1 a2 b2 a3 b3 h
    obtain ⟨rfl, h3⟩ := lists_pre (fun l hl => go l (List.mem_cons_of_mem _ hl)) (fun l hl => gq l (List.mem_cons_of_mem _ hl)) (by simpa using hl) h2
    exact ⟨rfl, h3⟩
theorem may_good {s : Shard} (h : may s = true) : Good s.2 := fun l hl => by
  obtain ⟨_, _, h3, h4⟩ := may_iff.1 h
  obtain ⟨h5, h6⟩ := okF_mem h3 l hl
  refine ⟨h5, fun z hz => ?_, by have := many_ge l hl; omega⟩
  have := h6 z hz
  omega
theorem ofNat_small {a b : Nat} (ha : a < 256) (hb : b < 256) (h : UInt8.ofNat a = UInt8.ofNat b) : a = b := by
  have := congrArg UInt8.toNat h
  simpa [UInt8.toNat_ofNat, Nat.mod_eq_of_lt ha, Nat.mod_eq_of_lt hb] using this
theorem raw_pre {s t : Shard} {x y : List UInt8} (hs : may s = true) (ht : may t = true) (h : raw s ++ x = raw t ++ y) : s = t ∧ x = y := by
  obtain ⟨s1, s2, s3, s4⟩ := may_iff.1 hs
  obtain ⟨t1, t2, t3, t4⟩ := may_iff.1 ht
  have gs := may_good hs
  have gt := may_good ht
  obtain ⟨⟨p1, p2⟩, o⟩ := s
  obtain ⟨⟨q1, q2⟩, u⟩ := t
  rw [mayP_iff] at s1 t1
  unfold raw at h
  simp only [List.cons_append, List.append_assoc, List.cons.injEq, true_and] at h
  dsimp only at s1 s2 s3 s4 t1 t2 t3 t4 gs gt h
  obtain ⟨e1, h1⟩ := put_pre ⟨by omega, by omega⟩ ⟨by omega, by omega⟩ h
  obtain ⟨e2, h2⟩ := put_pre ⟨by omega, by omega⟩ ⟨by omega, by omega⟩ h1
  simp only [List.cons.injEq] at h2
  obtain ⟨hw, h3⟩ := h2
  have hw2 : wd o = wd u := ofNat_small (by have := wd_le s4; omega) (by have := wd_le t4; omega) hw
  have hlen : o.length = u.length := by omega
  have hpk : (Pk.pk (deg o) (wd o)).length = (Pk.pk (deg u) (wd u)).length := by rw [Pk.pk_length, Pk.pk_length, deg_len, deg_len, hlen, hw2]
  obtain ⟨_, h4⟩ := List.append_inj h3 hpk
  obtain ⟨e3, h5⟩ := lists_pre gs gt hlen h4
  rw [e3] at h5
  exact ⟨by rw [e1, e2, e3], List.append_cancel_left h5⟩
theorem sealed_pre {s t : Shard} {x y : List UInt8} (hs : may s = true) (ht : may t = true) (h : enc s ++ x = enc t ++ y) : s = t ∧ x = y := by
  unfold enc sealB at h
  rw [List.append_assoc, List.append_assoc] at h
  obtain ⟨rfl, h⟩ := raw_pre hs ht h
  exact ⟨rfl, List.append_cancel_left h⟩
theorem enc_inj {s t : Shard} (hs : may s = true) (ht : may t = true) (h : enc s = enc t) : s = t :=
  (sealed_pre (x := []) (y := []) hs ht (by rw [h])).1
theorem four_len (n : Nat) : (Cr.four n).length = 4 := rfl
theorem enc_len (s : Shard) : 7 ≤ (enc s).length + 2 ∧ (enc s).length = (raw s).length + 4 := by
  unfold enc sealB
  rw [List.length_append, four_len]
  unfold raw
  simp
theorem cut {s t : Shard} {k : Nat} (hs : may s = true) (ht : may t = true) (hk : k < (enc s).length) : enc t ≠ (enc s).take k := by
  intro h
  have e : enc s ++ [] = enc t ++ (enc s).drop k := by rw [h, List.append_nil, List.take_append_drop]
  obtain ⟨rfl, _⟩ := sealed_pre hs ht e
  have := congrArg List.length h
  rw [List.length_take] at this
  omega
theorem seal_sum (b : List UInt8) : Cr.sum (sealB b) = 558161692 := by
  have := (Cr.sum_sealed b 0 (by decide)).2 rfl
  rwa [Nat.xor_zero] at this
/-- Bits within four bytes, turned over. -/
theorem turned {s t : Shard} {p m q : List UInt8} {n : Nat} (h : enc s = p ++ m ++ q) (hm : m.length = 4) (hn : n < 4294967296) (h0 : n ≠ 0) : enc t ≠ p ++ Cr.put m (Cr.four n) ++ q := by
  intro ht
  have h1 := seal_sum (raw t)
  have h2 := seal_sum (raw s)
  rw [show sealB (raw t) = enc t from rfl, ht] at h1
  rw [show sealB (raw s) = enc s from rfl, h] at h2
  exact h0 ((Cr.sum_near p m q n hm hn).1 (h1.trans h2.symm))

/-- The empty shard. -/
def none_ : Shard := ((0, 0), [])
/-- What Encode tells. -/
def encS (s : Shard) : List UInt8 := if may s = true then enc s else []

end Sh

end Go.Proofs.YtbhngncnhabbkaaGreat
