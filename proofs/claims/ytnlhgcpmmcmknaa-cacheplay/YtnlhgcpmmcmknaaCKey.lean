/- Places as keys of a map. -/
import Derived.Test.YtnlhgcpmmcmknaaCMath
import Derived.Test.YtnlhgcpmmcmknaaFFlip
import Derived.DeepKeys4
import Derived.Laws.LoneSync
namespace Go.Proofs.Ytnlhgcpmmcmknaa
open Go.RowKit Go.Maps

/-! ### Keys -/
def key (n : ByteArray) (i : Int) : Lit := .string (keyBytes [.string n.data.toList, .int .i64 i])
def spot (n : ByteArray) (i : Int) : Value := .agg #[.string n, .int .i64 i]
def at_ (b : Nat) : Value := .pointer (some ⟨b, 0, none⟩)

structure KeyOk (n : ByteArray) (i : Int) : Prop where
  n : n.size ≤ maxLen
  i1 : -9223372036854775808 ≤ i
  i2 : i ≤ 9223372036854775807

theorem Try.placeRow : (84 : TypeId) < Try.prog.types.size := of_decide_eq_true (by kernel_rfl)
theorem Try.placeKeyed : Keyed Try.prog 84 := Keyed.of_law (deep_law_laid Try.laidOut (m := 2) (by omega) Try.placeRow (by kernel_rfl) (by rw [Try.underlying84]))
theorem Try.zeroKept (w : World) : (zeroValue 85).run Try.prog w = .ok (.pointer none) w := by kernel_rfl
theorem Try.placeType : Try.prog.keyType 84 = true := by kernel_rfl
theorem Try.placeCells : Try.prog.cellsOf 84 = 2 := by kernel_rfl
theorem Try.stringCells : Try.prog.cellsOf 9 = 1 := by kernel_rfl
theorem Try.intCells : Try.prog.cellsOf 3 = 1 := by kernel_rfl

theorem place_lits (k : Nat) (x y : Value) : Try.prog.keyLits (k + 2) 84 [x, y] = ((Try.prog.keyLits (k + 1) 9 [x]).bind fun a => (Try.prog.keyLits (k + 1) 3 [y]).map fun b => a ++ b) := by
  generalize hA : Try.prog.keyLits (k + 1) 9 [x] = A
  generalize hB : Try.prog.keyLits (k + 1) 3 [y] = B
  unfold Program.keyLits
  rw [Try.underlying84]
  simp [Try.placeCells, Try.stringCells, Try.intCells, List.mapM_cons, hA, hB]
  cases A <;> cases B <;> simp
theorem string_lits (k : Nat) (x : Value) : Try.prog.keyLits (k + 1) 9 [x] = (match x with | .string s => if s.size ≤ maxLen then some [.string s.data.toList] else none | _ => none) := by
  unfold Program.keyLits
  rw [Try.underlying9]
  cases x <;> rfl
theorem int_lits (k : Nat) (x : Value) : Try.prog.keyLits (k + 1) 3 [x] = (match x with | .int q n => if q = .i64 ∧ (Lit.int .i64 n).wf = true then some [.int .i64 n] else none | _ => none) := by
  unfold Program.keyLits
  rw [Try.underlying3]
  cases x <;> rfl
theorem i64_wf {i : Int} (h1 : -9223372036854775808 ≤ i) (h2 : i ≤ 9223372036854775807) : (Lit.int .i64 i).wf = true := by
  simp [Lit.wf, IntKind.min, IntKind.max, IntKind.signed, IntKind.bits]; omega
theorem Try.many : ∃ k, Try.prog.types.size + 1 = k + 2 := by
  have h : 0 < Try.prog.types.size := Nat.lt_of_le_of_lt (Nat.zero_le _) Try.placeRow
  exact ⟨Try.prog.types.size - 1, by omega⟩

theorem keyOf_place (v : Value) : keyOf Try.prog 84 v = (if v.formed Try.prog 84 = true then (Try.prog.keyLits (Try.prog.types.size + 1) 84 v.cells.toList).map fun ls => .string (keyBytes ls) else none) := by
  generalize hA : Try.prog.keyLits (Try.prog.types.size + 1) 84 v.cells.toList = A
  unfold keyOf
  rw [Try.underlying84]
  simp only [Try.placeType, Bool.true_and, hA]
theorem place_key {n : ByteArray} {i : Int} (h : KeyOk n i) : keyOf Try.prog 84 (spot n i) = some (key n i) := by
  obtain ⟨k, hk⟩ := Try.many
  have hf : (spot n i).formed Try.prog 84 = true := by simp [spot, Value.formed, Try.underlying84, Try.placeCells]
  rw [keyOf_place, if_pos hf, hk, show (spot n i).cells.toList = [.string n, .int .i64 i] from rfl, place_lits, string_lits, int_lits]
  simp [h.n, i64_wf h.i1 h.i2, key]
theorem place_inv {v : Value} {kl : Lit} (h : keyOf Try.prog 84 v = some kl) : ∃ x : ByteArray × Int, v = spot x.1 x.2 ∧ KeyOk x.1 x.2 ∧ kl = key x.1 x.2 := by
  obtain ⟨k, hk⟩ := Try.many
  rw [keyOf_place, hk] at h
  split at h
  · rename_i hf
    cases v with
    | agg cs =>
      simp only [Value.formed, Try.underlying84, Try.placeCells, beq_iff_eq] at hf
      obtain ⟨x, y, rfl⟩ : ∃ x y, cs = #[x, y] := by
        obtain ⟨l⟩ := cs
        have hl : l.length = 2 := hf
        clear hf h hk
        cases l with
        | nil => cases hl
        | cons x l =>
          cases l with
          | nil => cases hl
          | cons y l =>
            cases l with
            | nil => exact ⟨x, y, rfl⟩
            | cons z l => simp at hl
      rw [show (Value.agg #[x, y]).cells.toList = [x, y] from rfl, place_lits, string_lits, int_lits] at h
      cases x with
      | string s =>
        cases y with
        | int q n =>
          simp only at h
          by_cases h1 : s.size ≤ maxLen
          · by_cases h2 : q = .i64 ∧ (Lit.int .i64 n).wf = true
            · obtain ⟨rfl, hw⟩ := h2
              have := wf_i64 hw
              simp [h1, hw] at h
              exact ⟨(s, n), rfl, ⟨h1, this.1, this.2⟩, h.symm⟩
            · simp [h1, h2] at h
          · simp [h1] at h
        | _ => simp at h
      | _ => simp at h
    | _ => simp [Value.formed, Try.underlying84] at hf
  · cases h
theorem key_inj {n m : ByteArray} {i j : Int} (h : KeyOk n i) (h' : KeyOk m j) (e : key n i = key m j) : n = m ∧ i = j := by
  have h1 := place_key h
  have h2 := place_key h'
  rw [← e] at h2
  have := Try.placeKeyed.inj h1 h2
  simp [spot] at this
  exact this

end Go.Proofs.Ytnlhgcpmmcmknaa
