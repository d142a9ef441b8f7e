/- The walk of ints.write: for every uint64 it returns its bytes as a string; nothing that was in memory has changed. -/
import Derived.Test.YtmekaofjcjmklaaRead
namespace Go.Proofs.Ytmekaofjcjmklaa
open Go.RowKit

theorem Try.info5 : (Try.prog.info? 5).map (fun i => (i.zero, i.size, i.bytes)) = some (some (.int .u8 0), 1, 1) := by kernel_rfl

/-- Bytes as cells. -/
def bcells (l : List UInt8) : List Value := l.map fun b => .int .u8 b.toNat

theorem push_all : ∀ (l : List UInt8) (acc : ByteArray), (l.map (fun b => (b.toNat : Int))).foldl (fun r n => r.push (UInt8.ofNat n.toNat)) acc = ⟨(acc.data.toList ++ l).toArray⟩ := by
  intro l
  induction l with
  | nil => intro acc; simp
  | cons b l ih =>
    intro acc
    rw [List.map_cons, List.foldl_cons, ih]
    simp [ByteArray.push]

/-- string(b) of a row of bytes that the call itself made. -/
theorem conv_own (W : World) (base g n : Nat) (l : List UInt8) (hl : l.length = n) (hown : W.ownsRow base 5 1 (.slice (some ⟨g, 0, none⟩) n n) n (bcells l)) :
    (convert 34 9 (.slice (some ⟨g, 0, none⟩) n n)).run Try.prog W = .ok (.string ⟨l.toArray⟩) W := by
  rw [run_convert_bytes_string W 34 9 5 _ _ _ Try.underlying34 Try.underlying5 Try.underlying9]
  have hload : (loadCells ⟨g, 0, none⟩ n).run Try.prog W = .ok ((l.map (fun b => (b.toNat : Int))).map (Value.int .u8)).toArray W := by
    have := run_loadCells_list (P := Try.prog) (w := W) ⟨g, 0, none⟩ (bcells l) (by
      intro j v hj
      have hlt : j < n := by
        have := (List.getElem?_eq_some_iff.1 hj).1
        simpa [bcells, hl] using this
      have := hown.cellAt j (by omega)
      rw [Addr.add_lit, Nat.zero_add, this, hj])
    have e : (bcells l).length = n := by simp [bcells, hl]
    rw [e] at this
    rw [this]
    simp [bcells, Function.comp_def]
  rw [run_bytesToString W ⟨g, 0, none⟩ n n _ hload, push_all]
  rfl

/-- What lies in the row behind k rounds. -/
def part (l : List UInt8) (k n : Nat) : List Value := bcells (l.take k) ++ List.replicate (n - k) (.int .u8 0)

theorem part_set (l : List UInt8) (k n : Nat) (b : UInt8) (hn : l.length = n) (hk : k < n) (hb : l[k]? = some b) : (part l k n).set k (.int .u8 b.toNat) = part l (k + 1) n := by
  have hl : (bcells (l.take k)).length = k := by simp [bcells]; omega
  unfold part
  rw [List.set_append_right _ _ (by omega), hl, Nat.sub_self, show n - k = (n - (k + 1)) + 1 by omega, List.replicate_succ, List.set_cons_zero]
  have e : l.take (k + 1) = l.take k ++ [b] := by
    rw [List.take_add_one, hb]; rfl
  rw [e]
  simp [bcells]

theorem part_full (l : List UInt8) (n : Nat) (hn : l.length = n) : part l n n = bcells l := by
  unfold part
  rw [Nat.sub_self, List.take_of_length_le (by omega)]
  simp

theorem part_zero (l : List UInt8) (n : Nat) : (madeCells #[Value.int .u8 0] n).toList = part l 0 n := by
  rw [toList_madeCells_one]
  simp [part, bcells]

theorem ofNat_toNat (n : Nat) (h : n < 256) : (UInt8.ofNat n).toNat = n := by simp; omega

/-- A round's store. -/
theorem step_store {w w1 : World} {B : Nat} (u m k : Nat) (hk : k < m) (hm : (Vi.enc u).length = m + 1) (hB : B = w.heap.size)
    (hown : w1.ownsRow B 5 1 (.slice (some ⟨B, 0, none⟩) (m + 1) (m + 1)) (m + 1) (part (Vi.enc u) k (m + 1))) (hbel : Below w.heap.size w w1) :
    (w1.setCell ⟨B, k, none⟩ (.int .u8 (((u / 128 ^ k : Nat) : Int) % 128 + 128))).ownsRow B 5 1 (.slice (some ⟨B, 0, none⟩) (m + 1) (m + 1)) (m + 1) (part (Vi.enc u) (k + 1) (m + 1)) ∧
    Below w.heap.size w (w1.setCell ⟨B, k, none⟩ (.int .u8 (((u / 128 ^ k : Nat) : Int) % 128 + 128))) := by
  have hg := Vi.vb_get 9 u k (by show k + 1 < (Vi.enc u).length; omega)
  have hs := hown.stored k (.int .u8 (((u / 128 ^ k : Nat) : Int) % 128 + 128))
  have e : (((u / 128 ^ k : Nat) : Int) % 128 + 128) = ((UInt8.ofNat (u / 128 ^ k % 128 + 128)).toNat : Int) := by
    rw [ofNat_toNat _ (by omega)]; omega
  refine ⟨?_, hbel.setCell (by subst hB; exact Nat.le_refl _) _⟩
  have := part_set (Vi.enc u) k (m + 1) _ hm (by omega) hg
  rw [← e] at this
  rw [← this]
  exact hs.1

/-- The last store, and the text. -/
theorem step_last {w w1 : World} {B : Nat} (u m : Nat) (h : u < 18446744073709551616) (hm : (Vi.enc u).length = m + 1) (hB : B = w.heap.size)
    (hown : w1.ownsRow B 5 1 (.slice (some ⟨B, 0, none⟩) (m + 1) (m + 1)) (m + 1) (part (Vi.enc u) m (m + 1))) (hbel : Below w.heap.size w w1) :
    (convert 34 9 (.slice (some ⟨B, 0, none⟩) (m + 1) (m + 1))).run Try.prog (w1.setCell ⟨B, m, none⟩ (.int .u8 ((u / 128 ^ m : Nat) : Int))) = .ok (.string ⟨(Vi.enc u).toArray⟩) (w1.setCell ⟨B, m, none⟩ (.int .u8 ((u / 128 ^ m : Nat) : Int))) ∧
    Below w.heap.size w (w1.setCell ⟨B, m, none⟩ (.int .u8 ((u / 128 ^ m : Nat) : Int))) := by
  have hg := Vi.vb_last 9 u m (by show m + 1 = (Vi.enc u).length; omega)
  have ht := Vi.vb_top 9 u m (by omega) (by show m + 1 = (Vi.enc u).length; omega)
  have hs := hown.stored m (.int .u8 ((u / 128 ^ m : Nat) : Int))
  have e : ((u / 128 ^ m : Nat) : Int) = ((UInt8.ofNat (u / 128 ^ m)).toNat : Int) := by
    rw [ofNat_toNat _ (by omega)]
  refine ⟨?_, hbel.setCell (by subst hB; exact Nat.le_refl _) _⟩
  have := part_set (Vi.enc u) m (m + 1) _ hm (by omega) hg
  rw [part_full _ _ hm, ← e] at this
  have h1 := hs.1
  rw [this] at h1
  exact conv_own _ _ _ _ _ hm h1

theorem cell_part {w1 : World} {B : Nat} (l : List UInt8) (k n : Nat) (hn : l.length = n) (hk : k < n)
    (hown : w1.ownsRow B 5 1 (.slice (some ⟨B, 0, none⟩) n n) n (part l k n)) : w1.cell? ⟨B, k, none⟩ = some (.int .u8 0) := by
  rw [hown.cellAt k (by omega)]
  have hl : (bcells (l.take k)).length = k := by simp [bcells]; omega
  unfold part
  rw [List.getElem?_append_right (by omega), hl, Nat.sub_self, List.getElem?_replicate, if_pos (by omega)]

set_option maxHeartbeats 400000 in
set_option maxRecDepth 20000 in
theorem write_any (u : Nat) (w : World) (h : u < 18446744073709551616) :
    Calls Try.prog 35 #[.int .u64 u] w fun e w' => e = .returned (.string ⟨(Vi.enc u).toArray⟩) ∧ Below w.heap.size w w' := by
  obtain ⟨i0, hi, hz0, hz1, hz2⟩ := info_parts Try.info5
  have hle := Vi.enc_len u
  obtain ⟨m, hm⟩ : ∃ m, (Vi.enc u).length = m + 1 := ⟨(Vi.enc u).length - 1, by omega⟩
  have HM : Hid ((Vi.enc u).length = m + 1) := hm
  have hm9 : m ≤ 9 := by omega
  clear hle hm
  go_enter Try.func35, Try.ntmps35
  go_wp2_with fail
  refine (size_any _ _ h).mono ?_
  rintro e w' ⟨rfl, rfl⟩
  rw [HM.out]
  go_wp2_with (at_make; refine wpList_make_full _ rfl _ _ 34 rfl w'.heap.size 5 i0 (.int .u8 0) 1 Try.underlying34 hi hz0 hz1 _ _ _ _ (m + 1) rfl rfl rfl rfl ?b2 ?b3 ?b4 ?_)
  case b2 => rw [hz2]; omega
  case b3 => unfold maxLen; omega
  case b4 => omega
  intro w1 hown hgrow
  rw [part_zero (Vi.enc u)] at hown
  have hbel : Below w'.heap.size w' w1 := (Below.refl _ _).grown hgrow (Nat.le_refl _) (by simp)
  clear hgrow hi hz0 hz1 hz2
  go_wp2
  go_loopw [0, 13] (fun x c wr => ∃ k : Nat, k ≤ m ∧ c = .int .i64 k ∧ x = .int .u64 (u / 128 ^ k : Nat) ∧ wr.ownsRow w'.heap.size 5 1 (.slice (some ⟨w'.heap.size, 0, none⟩) (m + 1) (m + 1)) (m + 1) (part (Vi.enc u) k (m + 1)) ∧ Below w'.heap.size w' wr) (fun _ c _ => m - (intOf c).toNat)
  case atStart => exact ⟨0, Nat.zero_le _, rfl, by simp, hown, hbel⟩
  case round =>
    clear hown hbel
    obtain ⟨k, hk, rfl, rfl, hown, hbel⟩ := hrel
    have hc := cell_part (Vi.enc u) k (m + 1) HM.out (by omega) hown
    have hf := hown.frozenAt k
    have hx : u / 128 ^ k < 18446744073709551616 := Nat.lt_of_le_of_lt (Nat.div_le_self _ _) h
    by_cases hlt : k < m
    · have R := step_store u m k hlt HM.out rfl hown hbel
      have e7 : Hid (u / 128 ^ k / 128 = u / 128 ^ (k + 1)) := by
        show u / 128 ^ k / 128 = u / 128 ^ (k + 1)
        rw [Nat.div_div_eq_div_mul, Nat.pow_succ]
      clear hown hbel
      generalize u / 128 ^ k = x at *
      have HR : Hid _ := R
      clear R
      go_wp2
      go_roundw
      case rel => exact ⟨k + 1, by omega, by go_num, by rw [← e7.out]; go_num, HR.out.1, HR.out.2⟩
      case measure => simp [intOf]; omega
    · obtain rfl : k = m := by omega
      have R := step_last u k h HM.out rfl hown hbel
      have ht := (Vi.vb_top 9 u k (by omega) (by show k + 1 = (Vi.enc u).length; rw [HM.out])).1
      clear hown hbel
      generalize u / 128 ^ k = x at *
      obtain ⟨R1, R2⟩ := R
      have HR : Hid _ := R2
      clear R2
      go_wp2
      go_ret
      exact ⟨rfl, HR.out⟩

end Go.Proofs.Ytmekaofjcjmklaa
