/- The walk of the statements' helper 'does' (the chapter's examples): it returns true; nothing that was in memory has changed. -/
import Derived.Test.YtdeknpinjlepcabCalls
namespace Go.Proofs.Ytdeknpinjlepcab
open Go.RowKit

theorem three_eq {p : Int × Int × Bool} {n x : Int} {b : Bool} {n' x' : Int} {b' : Bool} (h : p = (n, x, b)) (h' : p = (n', x', b')) : n = n' ∧ x = x' ∧ b = b' := by
  rw [h] at h'
  simpa using h'

theorem get1 : Vi.getS [172, 2] 0 = (300, 2, true) := by decide +kernel
theorem get2 : Vi.getS [172] 0 = (0, 0, false) := by decide +kernel
theorem get3 : Vi.getS [128, 0] 0 = (0, 0, false) := by decide +kernel
theorem put0 : Vi.putL 0 = [0] := by decide +kernel
theorem put127 : Vi.putL 127 = [127] := by decide +kernel
theorem put128 : Vi.putL 128 = [128, 1] := by decide +kernel
theorem put300 : Vi.putL 300 = [172, 2] := by decide +kernel
theorem putm1 : Vi.putL (-1) = [] := by decide +kernel
theorem puti_m1 : Vi.putI (-1) = [1] := by decide +kernel
theorem puti_1 : Vi.putI 1 = [2] := by decide +kernel
theorem puti_m64 : Vi.putI (-64) = [127] := by decide +kernel
theorem puti_64 : Vi.putI 64 = [128, 1] := by decide +kernel

theorem bnext {w a b : World} (h : Below w.heap.size w a) (k : Below a.heap.size a b) : Below w.heap.size w b := h.trans (k.mono h.size)

set_option maxHeartbeats 1000000 in
theorem does_any (w : World) : Calls Try.prog 5 #[] w fun e w' => e = .returned (.bool true) ∧ Below w.heap.size w w' := by
  go_enter Try.func5, Try.ntmps5
  go_wp2_with fail
  refine (get_any _ _ _ (by decide)).mono ?_
  rintro e w' ⟨n, x, b, rfl, hg, rfl⟩
  obtain ⟨rfl, rfl, rfl⟩ := three_eq hg.out get1
  clear hg
  go_wp2_with fail
  refine (get_any _ _ _ (by decide)).mono ?_
  rintro e w' ⟨n, x, b, rfl, hg, rfl⟩
  obtain ⟨rfl, rfl, rfl⟩ := three_eq hg.out get2
  clear hg
  go_wp2_with fail
  refine (get_any _ _ _ (by decide)).mono ?_
  rintro e w' ⟨n, x, b, rfl, hg, rfl⟩
  obtain ⟨rfl, rfl, rfl⟩ := three_eq hg.out get3
  clear hg
  go_wp2_with fail
  refine (put_any _ _ (by decide) (by decide)).mono ?_
  rintro e w1 ⟨rfl, hb1⟩
  rw [put0]
  go_wp2_with fail
  refine (put_any _ _ (by decide) (by decide)).mono ?_
  rintro e w2 ⟨rfl, hb2⟩
  rw [put127]
  replace hb2 := bnext hb1 hb2
  clear hb1
  go_wp2_with fail
  refine (put_any _ _ (by decide) (by decide)).mono ?_
  rintro e w3 ⟨rfl, hb3⟩
  rw [put128]
  replace hb3 := bnext hb2 hb3
  clear hb2
  go_wp2_with fail
  refine (put_any _ _ (by decide) (by decide)).mono ?_
  rintro e w4 ⟨rfl, hb4⟩
  rw [put300]
  replace hb4 := bnext hb3 hb4
  clear hb3
  go_wp2_with fail
  refine (put_any _ _ (by decide) (by decide)).mono ?_
  rintro e w5 ⟨rfl, hb5⟩
  rw [putm1]
  replace hb5 := bnext hb4 hb5
  clear hb4
  go_wp2_with fail
  refine (putInt_any _ _ (by decide) (by decide)).mono ?_
  rintro e w6 ⟨rfl, hb6⟩
  rw [puti_m1]
  replace hb6 := bnext hb5 hb6
  clear hb5
  go_wp2_with fail
  refine (putInt_any _ _ (by decide) (by decide)).mono ?_
  rintro e w7 ⟨rfl, hb7⟩
  rw [puti_1]
  replace hb7 := bnext hb6 hb7
  clear hb6
  go_wp2_with fail
  refine (putInt_any _ _ (by decide) (by decide)).mono ?_
  rintro e w8 ⟨rfl, hb8⟩
  rw [puti_m64]
  replace hb8 := bnext hb7 hb8
  clear hb7
  go_wp2_with fail
  refine (putInt_any _ _ (by decide) (by decide)).mono ?_
  rintro e w9 ⟨rfl, hb9⟩
  rw [puti_64]
  replace hb9 := bnext hb8 hb9
  clear hb8
  go_wp2
  go_ret
  exact ⟨rfl, hb9⟩

end Go.Proofs.Ytdeknpinjlepcab
