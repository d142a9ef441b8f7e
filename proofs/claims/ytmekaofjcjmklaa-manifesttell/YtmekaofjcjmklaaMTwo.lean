/- Two graphs made in one assignment: whatever the order in which the two blocks are laid and the two calls come. -/
import Derived.Test.YtmekaofjcjmklaaMRef2
namespace Go.Proofs.Ytmekaofjcjmklaa
open Go.RowKit Go.Deep

/-- A block of a graph that is not yet stored. -/
abbrev Zero (W : World) (P : Nat) : Prop := GBlk W P 0 0 (.slice none 0 0)
abbrev zobj : Obj := .cells #[.int .i64 0, .int .i64 0, .slice none 0 0] 24
theorem zero_new (X : World) : Zero (X.alloc zobj) X.heap.size := heap_alloc_new _ _
theorem below_one (X : World) (o : Obj) : Below X.heap.size X (X.alloc o) := (Below.refl _ X).alloc (Nat.le_refl _) _
theorem below_two (X : World) (o o' : Obj) : Below X.heap.size X ((X.alloc o).alloc o') := bnext (below_one X o) (below_one _ o')
theorem Zero.later {W W' : World} {P : Nat} (h : Zero W P) (hb : Below W.heap.size W W') : Zero W' P := blk_later h hb
theorem Zero.lt {W : World} {P : Nat} (h : Zero W P) : P < W.heap.size := (Array.getElem?_eq_some_iff.1 h).1
/-- Parts lie in no block of a graph. -/
theorem PrtF.apart {B P i : Nat} {W : World} {u x : Value} {l : List (Int × Int)} {c : Array Value} {fr : Nat × Nat} (h : PrtF B W u l) (hz : W.heap[P]? = some (.cells c 24 fr)) : PrtF B (W.setCell ⟨P, i, none⟩ x) u l :=
  h.elim fun n h => ⟨n, h.kept (oth_set W P i x) (by
    cases hv : u.ownBlock with
    | none => exact .inl rfl
    | some q =>
      refine .inr fun e => ?_
      have e2 : q = P := by simpa using e
      subst e2
      rcases h.2 with ⟨rfl, _⟩ | ⟨g, cap, cur, rfl, _, hc, _⟩
      · cases hv
      · have e3 : g = q := by simpa [Value.ownBlock] using hv
        subst e3
        rw [hz] at hc
        simp only [Option.some.injEq, Obj.cells.injEq] at hc
        exact absurd hc.2.1 (by decide))⟩
abbrev store3 (W : World) (P : Nat) (x y z : Value) : World := ((W.setCell ⟨P, 0, none⟩ x).setCell ⟨P, 1, none⟩ y).setCell ⟨P, 2, none⟩ z
theorem store3_at {W : World} {P : Nat} {n m : Int} {u : Value} (h : Zero W P) : GBlk (store3 W P (.int .i64 n) (.int .i64 m) u) P n m u := blk_set (blk_set (blk_set h))
theorem store3_other {W : World} {P Q : Nat} {x y z : Value} (hne : Q ≠ P) : (store3 W P x y z).heap[Q]? = W.heap[Q]? := by
  unfold store3
  rw [blk_other hne, blk_other hne, blk_other hne]
theorem store3_prt {B P : Nat} {W : World} {u x y z : Value} {l : List (Int × Int)} (h : PrtF B W u l) (hz : Zero W P) : PrtF B (store3 W P x y z) u l :=
  ((h.apart hz).apart (blk_set hz)).apart (blk_set (blk_set hz))
theorem store3_below {B P : Nat} {w W : World} {x y z : Value} (h : Below B w W) (hP : B ≤ P) : Below B w (store3 W P x y z) := ((h.setCell hP _).setCell hP _).setCell hP _
theorem store3_cell {W : World} {P b i : Nat} {x y z v : Value} (hne : b ≠ P) (h : W.cell? ⟨b, i, none⟩ = some v) : (store3 W P x y z).cell? ⟨b, i, none⟩ = some v := by
  have : ∀ (V : World) (j : Nat) (t : Value), V.cell? ⟨b, i, none⟩ = some v → (V.setCell ⟨P, j, none⟩ t).cell? ⟨b, i, none⟩ = some v := fun V j t hv => by
    rw [World.cell?_setCell_other _ _ _ _ (fun e => hne (congrArg Addr.block e).symm), hv]
  exact this _ _ _ (this _ _ _ (this _ _ _ h))
/-- What stands when both graphs are stored. -/
structure Both (w W : World) (P Q : Nat) (g k : Mf.Graph) (u v : Value) : Prop where
  one : GBlk W P g.1.1 g.1.2 u
  two : GBlk W Q k.1.1 k.1.2 v
  pone : Prt W u g.2
  ptwo : Prt W v k.2
  below : Below w.heap.size w W
theorem both_stored {w W : World} {A B P Q : Nat} {g k : Mf.Graph} {u v : Value} (hb : Below w.heap.size w W) (zp : Zero W P) (zq : Zero W Q) (hne : P ≠ Q) (hp : w.heap.size ≤ P) (hq : w.heap.size ≤ Q) (hu : PrtF A W u g.2) (hv : PrtF B W v k.2) :
    Both w (store3 (store3 W P (.int .i64 g.1.1) (.int .i64 g.1.2) u) Q (.int .i64 k.1.1) (.int .i64 k.1.2) v) P Q g k u v := by
  have zq2 : Zero (store3 W P (.int .i64 g.1.1) (.int .i64 g.1.2) u) Q := (store3_other (Ne.symm hne)).trans zq
  exact ⟨(store3_other hne).trans (store3_at zp), store3_at zq2, (store3_prt (store3_prt hu zp) zq2).prt, (store3_prt (store3_prt hv zp) zq2).prt, store3_below (store3_below hb hp) hq⟩

theorem zd1 (X : World) : Zero (X.alloc zobj).drew X.heap.size := heap_alloc_new _ _
theorem zd2 (X : World) : Zero ((X.alloc zobj).alloc zobj).drew X.heap.size := (zero_new X).later ((below_one _ _).drew)
theorem zd3 (X : World) : Zero ((X.alloc zobj).alloc zobj).drew (X.heap.size + 1) := by
  have := heap_alloc_new (X.alloc zobj) zobj
  rwa [show (X.alloc zobj).heap.size = X.heap.size + 1 by simp] at this
theorem two_drew {w W : World} {b : Nat} {x y : Value} (h : Two w b x y W) : Two w b x y W.drew := ⟨h.1.drew, h.2.1, h.2.2⟩
theorem z2 (X : World) : Zero ((X.alloc zobj).alloc zobj) X.heap.size := (zero_new X).later (below_one _ _)
theorem z3 (X : World) : Zero ((X.alloc zobj).alloc zobj) (X.heap.size + 1) := by
  have := heap_alloc_new (X.alloc zobj) zobj
  rwa [show (X.alloc zobj).heap.size = X.heap.size + 1 by simp] at this
abbrev gobj (x y z : Value) : Obj := .cells #[x, y, z] 24
theorem two_store3 {w W : World} {b P : Nat} {x y p q r : Value} (h : Two w b x y W) (hne : b ≠ P) (hP : w.heap.size ≤ P) : Two w b x y (((W.setCell ⟨P, 0, none⟩ p).setCell ⟨P, 1, none⟩ q).setCell ⟨P, 2, none⟩ r) :=
  ⟨store3_below h.1 hP, store3_cell hne h.2.1, store3_cell hne h.2.2⟩
theorem three_stored {W : World} {P Q : Nat} {p q r : Value} (hne : Q ≠ P) (h : Zero W Q) : Zero (((W.setCell ⟨P, 0, none⟩ p).setCell ⟨P, 1, none⟩ q).setCell ⟨P, 2, none⟩ r) Q := (store3_other hne).trans h
/-- The first is laid as it is stored, the second is stored later. -/
theorem both_second {w W : World} {A B P Q : Nat} {g k : Mf.Graph} {u v : Value} (hb : Below w.heap.size w W) (zp : GBlk W P g.1.1 g.1.2 u) (zq : Zero W Q) (hne : P ≠ Q) (hq : w.heap.size ≤ Q) (hu : PrtF A W u g.2) (hv : PrtF B W v k.2) :
    Both w (store3 W Q (.int .i64 k.1.1) (.int .i64 k.1.2) v) P Q g k u v :=
  ⟨(store3_other hne).trans zp, store3_at zq, (store3_prt hu zq).prt, (store3_prt hv zq).prt, store3_below hb hq⟩
theorem both_laid {w W : World} {A B : Nat} {g k : Mf.Graph} {u v : Value} (hb : Below w.heap.size w W) (hu : PrtF A W u g.2) (hv : PrtF B W v k.2) :
    Both w ((W.alloc (gobj (.int .i64 g.1.1) (.int .i64 g.1.2) u)).alloc (gobj (.int .i64 k.1.1) (.int .i64 k.1.2) v)) W.heap.size (W.heap.size + 1) g k u v := by
  have b2 := below_two W (gobj (.int .i64 g.1.1) (.int .i64 g.1.2) u) (gobj (.int .i64 k.1.1) (.int .i64 k.1.2) v)
  refine ⟨blk_later (heap_alloc_new W _) (below_one _ _), ?_, (hu.later b2).prt, (hv.later b2).prt, bnext hb b2⟩
  have := heap_alloc_new (W.alloc (gobj (.int .i64 g.1.1) (.int .i64 g.1.2) u)) (gobj (.int .i64 k.1.1) (.int .i64 k.1.2) v)
  rwa [show (W.alloc (gobj (.int .i64 g.1.1) (.int .i64 g.1.2) u)).heap.size = W.heap.size + 1 by simp] at this
theorem both_laid2 {w W : World} {A B : Nat} {g k : Mf.Graph} {u v : Value} (hb : Below w.heap.size w W) (hu : PrtF A W u g.2) (hv : PrtF B W v k.2) :
    Both w ((W.alloc (gobj (.int .i64 k.1.1) (.int .i64 k.1.2) v)).alloc (gobj (.int .i64 g.1.1) (.int .i64 g.1.2) u)) (W.heap.size + 1) W.heap.size g k u v := by
  have h := both_laid (g := k) (k := g) hb hv hu
  exact ⟨h.two, h.one, h.ptwo, h.pone, h.below⟩

end Go.Proofs.Ytmekaofjcjmklaa
