/- A region that draws its order and holds calls that make memory: one walk, in the order of the text, serves every order, if each operation yields its value in every later world (one in which nothing old has changed). -/
import Derived.Test.YtmekaofjcjmklaaGDec2
import Derived.Test.YtmekaofjcjmklaaRows
import Derived.WalkKit
import Derived.Below
import Derived.Deep.QuietTactic
import Derived.BigQuiet
namespace Go.Proofs.Ytmekaofjcjmklaa
open Go.RowKit

/-- A world in which all that was in w is as it was. -/
structure Later (w : World) where
  world : World
  below : Below w.heap.size w world

theorem Later.some (w : World) : Nonempty (Later w) := ⟨⟨w, Below.refl _ _⟩⟩

theorem wp_region_later {P : Program} {id : Nat} {Q : Exit → Act → World → Prop} {a : Act} {w : World} {l : List Oper} (hm : P.follows .mixedOrders = true) (hB : Region.lexB .any l.toArray = true)
    (h : wpQuiet P l.toArray (fun w' => ∃ x : Later w, w' = x.world) (fun a' => ∀ w', (∃ x : Later w, w' = x.world) → Q .normal a' w') l a) : (Code.region id l.toArray true).wp P Q a w :=
  wp_region_quiet (C := fun w' => ∃ x : Later w, w' = x.world) hm hB ⟨⟨w.drew, (Below.refl _ _).drew⟩, rfl⟩ (by simpa using h)

/-- A callee that makes memory and changes nothing old. -/
theorem Later.made {P : Program} {f : FuncId} {args : Array Value} {w : World} {x : Later w} {v : Value}
    (h : Calls P f args x.world fun e w' => e = .returned v ∧ Below x.world.heap.size x.world w') : Calls P f args x.world fun e w' => e = .returned v ∧ ∃ y : Later w, w' = y.world :=
  h.mono fun _ w' ⟨he, hb⟩ => ⟨he, ⟨w', x.below.trans (hb.mono x.below.size)⟩, rfl⟩

/-- A callee that leaves the world as it is. -/
theorem Later.same {P : Program} {f : FuncId} {args : Array Value} {w : World} {x : Later w} {v : Value}
    (h : Calls P f args x.world fun e w' => e = .returned v ∧ w' = x.world) : Calls P f args x.world fun e w' => e = .returned v ∧ ∃ y : Later w, w' = y.world :=
  h.mono fun _ _ ⟨he, hw⟩ => ⟨he, x, hw⟩

/-- What lay in w lies there later. -/
theorem Later.cell {w : World} {p : Addr} {v : Value} (h : w.cell? p = Option.some v) (x : Later w) : x.world.cell? p = Option.some v := by
  rw [x.below.cell (World.block_lt_of_cell? _ _ h)]; exact h

end Go.Proofs.Ytmekaofjcjmklaa
