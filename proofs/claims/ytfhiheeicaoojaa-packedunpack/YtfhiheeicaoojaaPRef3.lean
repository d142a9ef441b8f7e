/- The walk of the document's own Unpack. -/
import Derived.Test.YtfhiheeicaoojaaPRef2
namespace Go.Proofs.Ytfhiheeicaoojaa
open Go.RowKit

theorem runpack_arg (s : ByteArray) (m n : Int) (w : World) (h : ¬ (0 ≤ n ∧ n ≤ 32) ∨ m < 0) :
    Calls Try.prog 16 #[.string s, .int .i64 m, .int .i64 n] w fun e w' => e = .returned (.tuple #[.slice none 0 0, .int .i64 2]) ∧ Below w.heap.size w w' := by
  have hd : (decide (n < 0) || decide (32 < n) || decide (m < 0)) = true := by simp; omega
  go_enter Try.func16, Try.ntmps16
  go_wp2
  all_goals go_ret2
  all_goals exact ⟨rfl, Below.refl _ _⟩

theorem runpack_long (s : ByteArray) (m : Int) (n : Nat) (w : World) (hn : n ≤ 32) (h : 65536 < m) :
    Calls Try.prog 16 #[.string s, .int .i64 m, .int .i64 n] w fun e w' => e = .returned (.tuple #[.slice none 0 0, .int .i64 3]) ∧ Below w.heap.size w w' := by
  go_enter Try.func16, Try.ntmps16
  go_wp2
  go_ret2
  exact ⟨rfl, Below.refl _ _⟩

namespace Pk
theorem pack_un' {s : List UInt8} {n m : Nat} (hn : n ≤ 32) (hm : m ≤ 65536) : pack (un s n m) n = (pk (un s n m) n, 0) :=
  pack_good (May.fits (may_un s n m) hn) hn (may_un s n m) (by rw [un_length]; omega)
theorem num32 (f : Nat → Nat) (hf : ∀ k, f k ≤ 1) (p n : Nat) (hn : n ≤ 32) : num f p n ≤ 4294967295 := by
  have := num_lt hf p n
  have := pow32 n hn
  omega
end Pk

set_option maxHeartbeats 2000000 in
set_option maxRecDepth 100000 in
theorem runpack_in (s : ByteArray) (m n : Nat) (w : World) (hs : s.size ≤ 1000000000000) (hn : n ≤ 32) (hm : m ≤ 65536) :
    Calls Try.prog 16 #[.string s, .int .i64 m, .int .i64 n] w fun e w' => ∃ v, e = .returned (.tuple #[v, .int .i64 (Pk.unpack s.data.toList m n).2]) ∧ Ints w' v (Pk.unpack s.data.toList m n).1 ∧ Below w.heap.size w w' := by
  obtain ⟨i0, hi0, hz0, hz1, hz2⟩ := info_parts Try.intInfo
  obtain ⟨r, HR⟩ : ∃ r, Hid (Pk.unpack s.data.toList m n = r) := ⟨_, rfl⟩
  rw [HR.out]
  have hmn : m * n ≤ 65536 * 32 := Nat.mul_le_mul hm hn
  go_enter Try.func16, Try.ntmps16
  go_wp2
  go_loopw [8, 9] (fun v x wr => ∃ i : Nat, i ≤ m ∧ x = .int .i64 i ∧ wr.ownsRow w.heap.size 3 1 v i ((Pk.un s.data.toList n i).map (Value.int .i64)) ∧ Below w.heap.size w wr) (fun _ x _ => m - (intOf x).toNat)
  case atStart => exact ⟨0, Nat.zero_le _, rfl, World.ownsRow_nil _ _ _ _, Below.refl _ _⟩
  case round =>
    obtain ⟨i, hi, rfl, hown, hbel⟩ := hrel
    by_cases hlt : i < m
    · have hin : i * n ≤ m * n := Nat.mul_le_mul_right _ hi
      have HN := fun W => rnumber_any s i n W hs hn (by omega)
      have HU : Hid _ := Pk.un_succ s.data.toList n i
      have hy := Pk.num32 _ (Pk.sb_le s.data.toList) (i * n) n hn
      generalize Pk.num (Pk.sb s.data.toList) (i * n) n = y at *
      clear hin hmn
      go_wp2_with fail
      refine (HN _).mono ?_
      rintro e w1 ⟨rfl, rfl⟩
      go_wp2_with (at_builtin; refine wpList_append_own _ rfl _ _ 22 rfl w.heap.size 3 i0 (.int .i64 0) 1 8 Try.underlying22 hi0 hz0 hz1 hz2 rfl (by decide) _ _ _ rfl (hown.alloc _) ⟨w1.heap.size, 0, none⟩ 1 1 [.int .i64 (y : Int)] rfl rfl (cell_one_new _ _ _) (by simp [Value.oneCell']) (by unfold maxLen; omega) (by omega) (by have := hbel.size; simp; omega) ?_; intro v' w2 hown1 hgrow1 _)
      refine ⟨⟨i + 1, by omega, by go_num, by rw [HU.out]; simpa using hown1, ?_⟩, by simp [intOf]; omega⟩
      exact (hbel.alloc hbel.size _).grown hgrow1 (by have := hbel.size; simp; omega) (fun q e => (hown.lt q e).1)
    · obtain rfl : i = m := by omega
      have iN := Ints.of_own hown
      have hul := Pk.un_length s.data.toList n i
      have HP := fun W v (h : Ints W v (Pk.un s.data.toList n i)) => rpack_any v _ n W h (Pk.May.fits (Pk.may_un s.data.toList n i) hn) (by omega)
      rw [Pk.pack_un' hn hm] at HP
      have hbel : Hid (Below _ _ _) := hbel
      clear hown hmn hi0 hz0 hz1 hz2
      obtain ⟨f, hf⟩ : ∃ f : ByteArray, f = ⟨(Pk.pk (Pk.un s.data.toList n i) n).toArray⟩ := ⟨_, rfl⟩
      have hfl : f.data.toList = Pk.pk (Pk.un s.data.toList n i) n := by rw [hf]
      rw [← hf] at HP
      have HIFF : Hid _ := Pk.pk_un_iff s.data.toList n i
      rw [← hfl] at HIFF
      clear hf hfl
      by_cases hok : Pk.Ok s.data.toList n i
      · have HE : Hid (r = (Pk.un s.data.toList n i, 0)) := by
          show r = _
          rw [← HR.out]; exact Pk.unpack_ok hn hm hok
        have hfs : f = s := by
          have := HIFF.out.2 hok
          exact ByteArray.ext (Array.toList_inj.1 this)
        rw [hfs] at HP
        have iN2 : Hid (Ints _ _ _) := iN
        obtain ⟨a', cap', e, hc⟩ := iN
        subst e
        rw [hul] at iN2 ⊢
        clear hfs
        generalize Pk.un s.data.toList n i = l at *
        clear hc HIFF hok hul
        go_wp2_with fail
        refine (HP _ _ iN2.out).mono ?_
        rintro e w2 ⟨rfl, hb2⟩
        have iN3 : Hid (Ints _ _ _) := iN2.out.later hb2
        have hB2 : Hid (Below _ _ _) := hbel.out.trans (hb2.mono hbel.out.size)
        clear HP hb2 iN2
        go_wp2
        go_ret2
        rw [HE.out]
        exact ⟨_, rfl, iN3.out, hB2.out⟩
      · have HE : Hid (r = ([], 10)) := by
          show r = _
          rw [← HR.out]; exact Pk.unpack_no hn hm hok
        have hfs : (f.toList == s.toList) = false := by
          rw [ByteArray.toList_eq, ByteArray.toList_eq, beq_eq_false_iff_ne]
          exact fun h => hok (HIFF.out.1 h)
        have iN2 : Hid (Ints _ _ _) := iN
        obtain ⟨a', cap', e, hc⟩ := iN
        subst e
        rw [hul] at iN2 ⊢
        generalize Pk.un s.data.toList n i = l at *
        clear hc HIFF hok hul
        go_wp2_with fail
        refine (HP _ _ iN2.out).mono ?_
        rintro e w2 ⟨rfl, hb2⟩
        have hB2 : Hid (Below _ _ _) := hbel.out.trans (hb2.mono hbel.out.size)
        clear HP hb2 iN2
        go_wp2
        go_ret2
        rw [HE.out]
        exact ⟨_, rfl, ints_none _, hB2.out⟩

theorem runpack_any (s : ByteArray) (m n : Int) (w : World) (hs : s.size ≤ 1000000000000) :
    Calls Try.prog 16 #[.string s, .int .i64 m, .int .i64 n] w fun e w' => ∃ v, e = .returned (.tuple #[v, .int .i64 (Pk.unpack s.data.toList m n).2]) ∧ Ints w' v (Pk.unpack s.data.toList m n).1 ∧ Below w.heap.size w w' := by
  by_cases h1 : ¬ (0 ≤ n ∧ n ≤ 32) ∨ m < 0
  · rw [Pk.unpack_arg h1]
    exact (runpack_arg s m n w h1).mono fun e w' ⟨he, hb⟩ => ⟨_, he, ints_none _, hb⟩
  · obtain ⟨N, rfl⟩ := Int.eq_ofNat_of_zero_le (show 0 ≤ n by omega)
    by_cases h2 : 65536 < m
    · rw [Pk.unpack_long h1 h2]
      exact (runpack_long s m N w (by omega) h2).mono fun e w' ⟨he, hb⟩ => ⟨_, he, ints_none _, hb⟩
    · obtain ⟨M, rfl⟩ := Int.eq_ofNat_of_zero_le (show 0 ≤ m by omega)
      exact runpack_in s M N w hs (by omega) (by omega)

end Go.Proofs.Ytfhiheeicaoojaa
