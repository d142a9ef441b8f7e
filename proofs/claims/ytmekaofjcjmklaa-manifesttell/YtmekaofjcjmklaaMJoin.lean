/- strings.Join: a contract of the library, over this program's own numbers. -/
import Derived.Test.YtmekaofjcjmklaaMRow
import Derived.Shelf.Strings.OnBuilder
namespace Go.Proofs.Ytmekaofjcjmklaa
open Go.RowKit Go.Shelf

/-- The numbers of Join's text, and of its types, in this program. -/
def joinRen : Ren := ⟨fun | 156 => 33 | 165 => 46 | 166 => 30 | 169 => 32 | 240 => 44 | 241 => 52 | 276 => 51 | 277 => 57 | n => n,
  fun | 0 => 0 | 3 => 3 | 4 => 4 | 5 => 5 | 9 => 9 | 20 => 20 | 31 => 71 | 37 => 34 | 70 => 60 | 72 => 62 | 75 => 64 | 76 => 65 | 80 => 70 | 127 => 81 | 164 => 87 | n => n, fun n => n⟩

theorem joinLays : Lays.n156 Try.prog joinRen := {
  mixed := by kernel_rfl
  f156 := Try.func33.trans (congrArg some (by kernel_rfl))
  f165 := Try.func46.trans (congrArg some (by kernel_rfl))
  f166 := Try.func30.trans (congrArg some (by kernel_rfl))
  f169 := Try.func32.trans (congrArg some (by kernel_rfl))
  f240 := Try.func44.trans (congrArg some (by kernel_rfl))
  f241 := Try.func52.trans (congrArg some (by kernel_rfl))
  f276 := Try.func51.trans (congrArg some (by kernel_rfl))
  f277 := Try.func57.trans (congrArg some (by kernel_rfl))
  t0 := Try.underlying0, a0 := Try.isAgg0, z0 := Try.sizeOf0, v0 := Try.zeroValue0
  t3 := Try.underlying3, a3 := Try.isAgg3, z3 := Try.sizeOf3, v3 := Try.zeroValue3
  t4 := Try.underlying4, a4 := Try.isAgg4, z4 := Try.sizeOf4, v4 := Try.zeroValue4
  t9 := Try.underlying9, a9 := Try.isAgg9, z9 := Try.sizeOf9, v9 := Try.zeroValue9
  t20 := Try.underlying20, a20 := Try.isAgg20, z20 := Try.sizeOf20, v20 := Try.zeroValue20
  t31 := Try.underlying71, a31 := Try.isAgg71, z31 := Try.sizeOf71, v31 := Try.zeroValue71
  t37 := Try.underlying34, a37 := Try.isAgg34, z37 := Try.sizeOf34, v37 := Try.zeroValue34
  t70 := Try.underlying60, a70 := Try.isAgg60, z70 := Try.sizeOf60, v70 := Try.zeroValue60
  t72 := Try.underlying62, a72 := Try.isAgg62, z72 := Try.sizeOf62, v72 := Try.zeroValue62
  t75 := Try.underlying64, a75 := Try.isAgg64, z75 := Try.sizeOf64, v75 := Try.zeroValue64
  t76 := Try.underlying65, a76 := Try.isAgg65, z76 := Try.sizeOf65, v76 := Try.zeroValue65
  t127 := Try.underlying81, a127 := Try.isAgg81, z127 := Try.sizeOf81, v127 := Try.zeroValue81
  t164 := Try.underlying87, a164 := Try.isAgg87, z164 := Try.sizeOf87, v164 := Try.zeroValue87 }

theorem joinMore : Builder.Extra Try.prog joinRen := {
  sizeBuilder := by kernel_rfl
  liesBuilder := by kernel_rfl
  t5 := Try.underlying5, a5 := Try.isAgg5, z5 := Try.sizeOf5, v5 := Try.zeroValue5
  infoByte := by kernel_rfl
  cellsByte := by kernel_rfl
  sizeByte := by kernel_rfl
  neB5 := by decide }

theorem join_flat (l : List (List UInt8)) : Lib.join l [] = l.flatten := by
  show (l.intersperse []).flatten = l.flatten
  induction l with
  | nil => rfl
  | cons a l ih =>
    cases l with
    | nil => rfl
    | cons b l =>
      show a ++ ([] ++ ((b :: l).intersperse []).flatten) = _
      rw [ih]
      rfl

/-- strings.Join with nothing in between. -/
theorem join_any (bk o c : Nat) (xs : List ByteArray) (w : World) (hcells : ∀ (j : Nat) x, xs[j]? = some x → w.cell? ⟨bk, o + j, none⟩ = some (.string x)) (hbk : bk < w.heap.size) (hN : xs.length ≤ 140737488355328) (hcap : xs.length ≤ c) (l : List UInt8) (hl : (xs.map (·.data.toList)).flatten = l) (hlen : l.length ≤ 140737488355328) :
    Calls Try.prog 33 #[.slice (some ⟨bk, o, none⟩) xs.length c, .string ⟨#[]⟩] w fun e w' => e = .returned (.string ⟨l.toArray⟩) ∧ Below w.heap.size w w' := by
  subst hl
  have h := Any.strings_Join joinLays joinMore bk o c xs ⟨#[]⟩ w hcells hbk hN hcap
  rw [show (⟨#[]⟩ : ByteArray).data.toList = [] from rfl, join_flat] at h
  exact h hlen

end Go.Proofs.Ytmekaofjcjmklaa
