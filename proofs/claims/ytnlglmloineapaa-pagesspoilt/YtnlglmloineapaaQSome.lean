/- Bursts on pages; the walk of the statements' helper Some. -/
import Derived.Test.YtnlglmloineapaaQJoin
namespace Go.Proofs.Ytnlglmloineapaa
open Go.RowKit

/-- The bytes l, of which j from k on have been put against those of n. -/
def nearL (l : List UInt8) (k n : Nat) : Nat → List UInt8
  | 0 => l
  | j + 1 => (nearL l k n j).set (k + j) ((nearL l k n j).getD (k + j) 0 ^^^ UInt8.ofNat (n / 2 ^ (8 * j)))

theorem nearL_length (l : List UInt8) (k n j : Nat) : (nearL l k n j).length = l.length := by
  induction j with
  | zero => rfl
  | succ j ih => rw [nearL, List.length_set, ih]

theorem nearL_all (p q : List UInt8) (a b c d : UInt8) (n : Nat) : nearL (p ++ [a, b, c, d] ++ q) p.length n 4 = p ++ Cr.put [a, b, c, d] (Cr.four n) ++ q := by
  simp [nearL, Cr.put, Cr.four, List.getD]

theorem near_sum (l : List UInt8) (k n : Nat) (hk : k + 3 < l.length) (h : n < 4294967296) : Cr.sum (nearL l k n 4) = Cr.sum l ↔ n = 0 := by
  obtain ⟨p, a, b, c, d, q, rfl, hp⟩ : ∃ (p : List UInt8) (a b c d : UInt8) (q : List UInt8), l = p ++ [a, b, c, d] ++ q ∧ p.length = k := by
    refine ⟨l.take k, l[k], l[k + 1], l[k + 2], l[k + 3], l.drop (k + 4), ?_, by rw [List.length_take]; omega⟩
    simp
  subst hp
  rw [nearL_all]
  exact Cr.sum_near p [a, b, c, d] q n rfl h

/-- P5.3: a page of which bits within four bytes, side by side, are turned over is none. -/
theorem burst (d : List UInt8) (k n : Nat) (hd : d.length ≤ 122) (hk : k < 125) (h0 : n ≠ 0) (h : n < 4294967296) : ¬ Pg.Ok (nearL (Pg.page d) k n 4) := by
  intro hok
  have h1 := Pg.sum_page (Pg.tell (nearL (Pg.page d) k n 4))
  rw [Pg.page_tell hok] at h1
  have h2 := Pg.sum_page d
  exact h0 ((near_sum (Pg.page d) k n (by rw [Pg.page_length hd]; omega) h).1 (h1.trans h2.symm))

/-- Bytes by a text over and over. -/
def someL (s : List UInt8) (n : Nat) : List UInt8 := (List.range n).map fun i => s.getD (i % s.length) 0
theorem someL_length (s : List UInt8) (n : Nat) : (someL s n).length = n := by simp [someL]
/-- What lies in the row behind j rounds. -/
def someP (s : List UInt8) (n j : Nat) : List UInt8 := someL s j ++ List.replicate (n - j) 0
theorem someP_length (s : List UInt8) (n j : Nat) (h : j ≤ n) : (someP s n j).length = n := by simp [someP, someL_length]; omega
theorem someP_zero (s : List UInt8) (n : Nat) : someP s n 0 = List.replicate n 0 := by simp [someP, someL]
theorem someP_full (s : List UInt8) (n : Nat) : someP s n n = someL s n := by simp [someP]
theorem someP_set (s : List UInt8) (n j : Nat) (h : j < n) : (someP s n j).set j (s.getD (j % s.length) 0) = someP s n (j + 1) := by
  unfold someP
  rw [List.set_append_right _ _ (by rw [someL_length]; omega), someL_length, Nat.sub_self, show n - j = (n - (j + 1)) + 1 by omega, List.replicate_succ, List.set_cons_zero]
  have e : someL s (j + 1) = someL s j ++ [s.getD (j % s.length) 0] := by
    unfold someL
    rw [List.range_succ, List.map_append]; rfl
  rw [e, List.append_assoc]; rfl

theorem getD_byte (s : ByteArray) (k : Nat) (h : k < s.size) : s.data.toList.getD k 0 = s[k] := by
  rw [List.getD_eq_getElem?_getD, List.getElem?_eq_getElem (by simpa using h)]; rfl

set_option maxHeartbeats 1000000 in
theorem some_any (s : ByteArray) (n : Nat) (w : World) (hs : 0 < s.size) (hs2 : s.size ≤ 1000) (hn : n ≤ 1000) :
    Calls Try.prog 24 #[.string s, .int .i64 n] w fun e w' => e = .returned (.string ⟨(someL s.data.toList n).toArray⟩) ∧ Below w.heap.size w w' := by
  obtain ⟨i0, hi, hz0, hz1, hz2⟩ := info_parts Try.info5
  have hlen : s.data.toList.length = s.size := by simp
  have hne : (s.toList == []) = false := by
    rw [beq_eq_false_iff_ne, ByteArray.toList_eq]
    intro e
    rw [e] at hlen
    simp at hlen
    omega
  obtain ⟨L, HL⟩ : ∃ L, Hid (someL s.data.toList n = L) := ⟨_, rfl⟩
  rw [HL.out]
  have HG : Hid (∀ j, j < n → (someP s.data.toList n j).set j (s[j % s.size]'(Nat.mod_lt _ hs)) = someP s.data.toList n (j + 1)) := by
    intro j hj
    have := someP_set s.data.toList n j hj
    rw [hlen, getD_byte s _ (Nat.mod_lt _ hs)] at this
    exact this
  have HF : Hid (someP s.data.toList n n = L) := (someP_full _ _).trans HL.out
  have HZ : Hid _ := someP_zero s.data.toList n
  have HLn : Hid (∀ j, j ≤ n → (someP s.data.toList n j).length = n) := fun j hj => someP_length _ _ _ hj
  generalize someP s.data.toList n = P at *
  clear hlen HL
  go_enter Try.func24, Try.ntmps24
  go_wp2_with (at_make; refine wpList_make_full _ rfl _ _ 34 rfl w.heap.size 5 i0 (.int .u8 0) 1 Try.underlying34 hi hz0 hz1 _ _ _ _ n rfl rfl rfl rfl ?b2 ?b3 ?b4 ?_)
  case b2 => rw [hz2]; omega
  case b3 => unfold maxLen; omega
  case b4 => omega
  intro w1 hown hgrow
  rw [made_zeros, ← HZ.out] at hown
  have hbel : Below w.heap.size w w1 := (Below.refl _ _).grown hgrow (Nat.le_refl _) (by simp)
  have R0 : Hid (_ ∧ _) := And.intro hown hbel
  clear hown hgrow hbel HZ hi hz0 hz1 hz2
  go_wp2
  go_loopw [6] (fun c wr => ∃ j : Nat, j ≤ n ∧ c = .int .i64 j ∧ Hid (wr.ownsRow w.heap.size 5 1 (.slice (some ⟨w.heap.size, 0, none⟩) n n) n (bcells (P j)) ∧ Below w.heap.size w wr)) (fun c _ => n - (intOf c).toNat)
  case atStart => exact ⟨0, by omega, rfl, R0⟩
  case round =>
    clear R0
    obtain ⟨j, hj, rfl, R⟩ := hrel
    by_cases hlt : j < n
    · have c1 := row_cell (HLn.out j hj) R.out.1 j hlt
      have f1 := R.out.1.frozenAt j
      have hm : j % s.size < s.size := Nat.mod_lt _ hs
      have hm2 : (j : Int) % (s.size : Int) = ((j % s.size : Nat) : Int) := by simp
      have R2 := own_store R.out.1 R.out.2 j (s[j % s.size]'hm) _ rfl
      rw [HG.out j hlt] at R2
      have R2 : Hid _ := R2
      generalize j % s.size = k at hm hm2 R2
      go_wp2
      go_roundw
      case rel => exact ⟨j + 1, by omega, by go_num, R2⟩
      case measure => simp [intOf]; omega
    · obtain rfl : j = n := by omega
      have hcv := conv_own wr _ _ j _ (HLn.out j (Nat.le_refl _)) R.out.1
      rw [HF.out] at hcv
      go_wp2
      go_ret
      exact ⟨rfl, R.out.2⟩

end Go.Proofs.Ytnlglmloineapaa
