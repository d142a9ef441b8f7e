/- The walks of strings.Builder's methods that gaps calls: WriteString appends, String tells what was written; nothing else that was in memory has changed. -/
import Derived.Test.YtmekaofjcjmklaaGRow
import Derived.Test.YtmekaofjcjmklaaRows
import Derived.Shelf.Strings.BuilderK
import Derived.WalkKit
import Derived.Below
import Derived.RangeFuncNested
import Derived.Maps.AppendAt
namespace Go.Proofs.Ytmekaofjcjmklaa
open Go.RowKit Go.Shelf

theorem Try.byteInfo : (Try.prog.info? 5).map (fun i => (i.zero, i.size, i.bytes)) = some (some (.int .u8 0), 1, 1) := by kernel_rfl
theorem Try.builderSize : (Try.prog.info? 62).map (fun i => i.size) = some 2 := by kernel_rfl
theorem Try.builderLies : liesAt Try.prog Try.prog.depth 62 (2 / Try.prog.cellsOf 62) 0 62 1 = true := by kernel_rfl
theorem Try.noEscape (x : Value) (w : World) : (callFunc 51 #[x]).run Try.prog w = .ok (.value x) w := by
  rw [run_callFunc_extern Try.func51 (by kernel_rfl) (by kernel_rfl) (by kernel_rfl) (e := Extern.AbiNoEscape.same) (by kernel_rfl)]
  rfl

/-- The builder in block b has had l written; its memory lies from B on. -/
abbrev Wrote (B b : Nat) (l : List UInt8) (w : World) : Prop := Lib.IsBuilderF 62 5 B b (Lib.byteCells l) w

/-- All blocks but b and rows of bytes stand as they stood. -/
abbrev Else (b : Nat) (w w' : World) : Prop := Lib.OthersKept 5 (some b) w w'

set_option maxHeartbeats 1000000 in
set_option maxRecDepth 100000 in
theorem copy_new (b : Nat) (w : World) (h0 : w.cell? ⟨b, 0, none⟩ = some (.pointer none)) (hs : w.shape? b = some (62, 2)) (hf : w.frozen? ⟨b, 0, none⟩ = false) :
    Calls Try.prog 44 #[.pointer (some ⟨b, 0, none⟩)] w fun e w' => e = .returned (.tuple #[]) ∧ w' = w.setCell ⟨b, 0, none⟩ (.pointer (some ⟨b, 0, none⟩)) := by
  obtain ⟨j, hj, hjs⟩ := Option.map_eq_some_iff.1 Try.builderSize
  have c1 := Lib.run_to_unsafe w ⟨b, 0, none⟩ Try.underlying60 Try.underlying87 hj (by rw [hjs]; decide) hs (Nat.zero_lt_succ 1)
  have c2 := Lib.run_from_unsafe w ⟨b, 0, none⟩ Try.underlying87 Try.underlying60 hj hs Try.builderLies
  have c3 := Try.noEscape
  clear hj hjs
  go_enter Try.func44, Try.ntmps44
  go_wp2
  go_end0
  exact ⟨rfl, rfl⟩

set_option maxHeartbeats 1000000 in
set_option maxRecDepth 100000 in
theorem copy_old (b : Nat) (w : World) (h0 : w.cell? ⟨b, 0, none⟩ = some (.pointer (some ⟨b, 0, none⟩))) :
    Calls Try.prog 44 #[.pointer (some ⟨b, 0, none⟩)] w fun e w' => e = .returned (.tuple #[]) ∧ w' = w := by
  obtain ⟨j, hj, _⟩ := Option.map_eq_some_iff.1 Try.builderSize
  have c1 := Lib.run_neq_ptr_same w ⟨b, 0, none⟩ Try.underlying60 hj
  clear hj
  go_enter Try.func44, Try.ntmps44
  go_wp2
  go_end0
  exact ⟨rfl, rfl⟩

/-- Behind copyCheck the builder knows its own address. -/
theorem copy_any (B b : Nat) (bs : List Value) (w : World) (h : Lib.IsBuilderF 62 5 B b bs w) :
    Calls Try.prog 44 #[.pointer (some ⟨b, 0, none⟩)] w fun e w' =>
      e = .returned (.tuple #[]) ∧ Lib.BuilderAtF 62 5 B b (.pointer (some ⟨b, 0, none⟩)) bs w' ∧ Below B w w' ∧ Else b w w' := by
  cases h with
  | inl h =>
    refine (copy_new b w h.cell0 h.shape h.frozen0).mono ?_
    rintro e w' ⟨rfl, rfl⟩
    have k1 := h.used (.pointer (some ⟨b, 0, none⟩))
    have k2 := (Below.refl B w).setCell (p := ⟨b, 0, none⟩) h.1 (.pointer (some ⟨b, 0, none⟩))
    exact ⟨rfl, k1, k2, (Lib.OthersKept.refl _ _ w).setCell ⟨b, 0, none⟩ rfl _⟩
  | inr h =>
    refine (copy_old b w h.cell0).mono ?_
    rintro e w' ⟨rfl, rfl⟩
    exact ⟨rfl, h, Below.refl _ _, Lib.OthersKept.refl _ _ _⟩

set_option maxHeartbeats 1000000 in
set_option maxRecDepth 100000 in
theorem write_str (B b : Nat) (l : List UInt8) (s : List UInt8) (w : World) (h : Wrote B b l w) (hl : l.length + s.length ≤ 140737488351232) (hB : B ≤ w.heap.size) :
    Calls Try.prog 30 #[.pointer (some ⟨b, 0, none⟩), .string ⟨s.toArray⟩] w fun e w' =>
      (∃ v, e = .returned v) ∧ Wrote B b (l ++ s) w' ∧ Below B w w' ∧ Else b w w' := by
  obtain ⟨i0, hi, hz0, hz1, hz2⟩ := info_parts Try.byteInfo
  go_enter Try.func30, Try.ntmps30
  go_wp2_with fail
  refine (copy_any B b _ _ h).mono ?_
  rintro e w1 ⟨rfl, hat, hb1, hk1⟩
  have hlt := hat.lt
  obtain ⟨hBb, v, hbk, hown, hne⟩ := hat
  have hsz := hb1.size
  have d0 : w1.cell? ⟨b, 1, none⟩ = some v := by simp [World.cell?, hbk]
  go_wp2_with (at_builtin; refine Lib.wpList_append_own_stringF _ rfl _ _ 34 9 rfl B 5 i0 Try.underlying34 Try.underlying9 hi hz0 hz1 hz2 _ _ _ rfl hown _ rfl ?b1 ?b2 ?b3 ?_)
  case b1 => rw [Lib.byteCells_length]; unfold maxLen; simp [ByteArray.size]; omega
  case b2 => rw [Lib.byteCells_length]; simp [ByteArray.size]; omega
  case b3 => omega
  intro v' w2 hown2 hgrow _
  have hbk2 : w2.heap[b]? = some (.cells #[.pointer (some ⟨b, 0, none⟩), v] 62 (0, 0)) := (hgrow.block b hlt (fun e => hne e.symm)).trans hbk
  have f0 : w2.frozen? ⟨b, 1, none⟩ = false := by simp [World.frozen?, hbk2]
  have d1 : w2.cell? ⟨b, 1, none⟩ = some v := by simp [World.cell?, hbk2]
  obtain ⟨x, y, z, rfl⟩ : ∃ x y z, v' = .slice x y z := by
    rcases hown2.2 with ⟨e, _⟩ | ⟨_, _, _, _, e, _⟩ <;> exact ⟨_, _, _, e⟩
  clear hi hz0 hz1 hz2
  have hx : Lib.byteCells l ++ Lib.strCells ⟨s.toArray⟩ = Lib.byteCells (l ++ s) := by rw [Lib.byteCells_append]; rfl
  rw [hx] at hown2
  have hn : (Lib.byteCells l).length + s.length = (Lib.byteCells (l ++ s)).length := by simp [Lib.byteCells_length]
  rw [hn] at hown2
  have R1 := Lib.BuilderAtF.put hBb hbk2 hown2 (show (62 : Nat) ≠ 5 by decide)
  have R2 := (hb1.grown hgrow (by omega) (fun k hk => (hown.lt k hk).1)).setCell (p := ⟨b, 1, none⟩) hBb (.slice x y z)
  have R3 : Else b w (w2.setCell ⟨b, 1, none⟩ (.slice x y z)) := (hk1.grown hgrow (Lib.ownsRowF_kind hown)).setCell ⟨b, 1, none⟩ rfl _
  have HR : Hid _ := (show _ ∧ _ ∧ _ from ⟨R1, R2, R3⟩)
  clear R1 R2 R3 hown hown2 hgrow hk1 hb1 hx hn
  go_wp2
  go_ret2
  exact ⟨⟨_, rfl⟩, .inr HR.out.1, HR.out.2.1, HR.out.2.2⟩

/-- The numbers of String's text, and of its types, in this program. -/
def stringRen : Ren := ⟨fun | 169 => 32 | n => n, fun | 70 => 60 | 9 => 9 | 0 => 0 | 72 => 62 | 37 => 34 | 127 => 81 | 3 => 3 | 5 => 5 | n => n, fun n => n⟩

theorem stringLays : Lays.n169 Try.prog stringRen := {
  mixed := by kernel_rfl
  f169 := Try.func32.trans (congrArg some (by kernel_rfl))
  t0 := Try.underlying0, a0 := Try.isAgg0, z0 := Try.sizeOf0, v0 := Try.zeroValue0
  t3 := Try.underlying3, a3 := Try.isAgg3, z3 := Try.sizeOf3, v3 := Try.zeroValue3
  t9 := Try.underlying9, a9 := Try.isAgg9, z9 := Try.sizeOf9, v9 := Try.zeroValue9
  t37 := Try.underlying34, a37 := Try.isAgg34, z37 := Try.sizeOf34, v37 := Try.zeroValue34
  t70 := Try.underlying60, a70 := Try.isAgg60, z70 := Try.sizeOf60, v70 := Try.zeroValue60
  t72 := Try.underlying62, a72 := Try.isAgg62, z72 := Try.sizeOf62, v72 := Try.zeroValue62
  t127 := Try.underlying81, a127 := Try.isAgg81, z127 := Try.sizeOf81, v127 := Try.zeroValue81 }

theorem stringMore : Builder.Extra Try.prog stringRen := {
  sizeBuilder := by kernel_rfl
  liesBuilder := by kernel_rfl
  t5 := Try.underlying5, a5 := Try.isAgg5, z5 := Try.sizeOf5, v5 := Try.zeroValue5
  infoByte := by kernel_rfl
  cellsByte := by kernel_rfl
  sizeByte := by kernel_rfl
  neB5 := by decide }

theorem string_any (B b : Nat) (l : List UInt8) (w : World) (h : Wrote B b l w) (hB : B ≤ w.heap.size) :
    Calls Try.prog 32 #[.pointer (some ⟨b, 0, none⟩)] w fun e w' => e = .returned (.string ⟨l.toArray⟩) ∧ Below B w w' ∧ Else b w w' :=
  (Any.Builder_String_any_k stringLays stringMore B b l w h hB).mono fun _ _ ⟨h1, _, h3, h4⟩ => ⟨h1, h3, h4⟩

/-- A builder stays one where nothing old has changed. -/
theorem Wrote.kept {B b : Nat} {l : List UInt8} {w w' : World} {row : Option Nat} (h : Wrote B b l w) (hg : w.grownBy w' row) (hr : ∀ r, row = some r → ∃ o : Obj, w.heap[r]? = some o ∧ o.isCells = false) : Wrote B b l w' := by
  have key : ∀ p, Lib.BuilderAtF 62 5 B b p (Lib.byteCells l) w → Lib.BuilderAtF 62 5 B b p (Lib.byteCells l) w' := by
    intro p hp
    have hlt := hp.lt
    obtain ⟨hBb, v, hbk, hown, hne⟩ := hp
    refine ⟨hBb, v, (hg.block b hlt ?_).trans hbk, hown.kept hg ?_, hne⟩
    · intro e
      obtain ⟨o, ho, hc⟩ := hr b e.symm
      rw [hbk] at ho
      cases ho
      cases hc
    · cases hv : v.ownBlock with
      | none => exact .inl rfl
      | some g =>
        refine .inr fun e => ?_
        obtain ⟨o, ho, hc⟩ := hr g e.symm
        obtain ⟨c, fz, hgk⟩ := Lib.ownsRowF_kind hown g hv
        rw [hgk] at ho
        cases ho
        cases hc
  exact h.elim (fun x => .inl (key _ x)) (fun x => .inr (key _ x))

theorem grown_of_below {w w' : World} (h : Below w.heap.size w w') : w.grownBy w' none := ⟨h.os, h.tape, h.output, h.size, fun k hk _ => h.block k hk⟩

theorem Wrote.later {B b : Nat} {l : List UInt8} {w w' : World} (h : Wrote B b l w) (hb : Below w.heap.size w w') : Wrote B b l w' := h.kept (grown_of_below hb) (fun r e => by cases e)

end Go.Proofs.Ytmekaofjcjmklaa
