/- Slices of slices of ints, and shards, in memory; the walks of the statements' helpers Great and Same. -/
import Derived.Test.YtbhngncnhabbkaaARow
namespace Go.Proofs.Ytbhngncnhabbkaa
open Go.RowKit

/-- The slice v holds the lists o. -/
def Lists (W : World) (v : Value) (o : List (List Int)) : Prop :=
  ∃ a cap, v = .slice a o.length cap ∧ o.length ≤ cap ∧ (o = [] ∨ ∃ b off, a = some ⟨b, off, none⟩ ∧ ∀ j, j < o.length → ∃ x, W.cell? ⟨b, off + j, none⟩ = some x ∧ Ints W x (o.getD j []))
/-- The cells of a shard whose lists the slice v holds. -/
def scells (s : Sh.Shard) (v : Value) : Array Value := #[.int .i64 s.1.1, .int .i64 s.1.2, v]
/-- The shard s. -/
def Shd (W : World) (u : Value) (s : Sh.Shard) : Prop := ∃ v, u = .agg (scells s v) ∧ Lists W v s.2
/-- Lists that are no greater than a million. -/
def FitS (o : List (List Int)) : Prop := o.length ≤ 1000000 ∧ ∀ l ∈ o, l.length ≤ 1000000 ∧ Gp.Fit l

theorem Lists.later {w w' : World} {v : Value} {o : List (List Int)} (h : Lists w v o) (hb : Below w.heap.size w w') : Lists w' v o := by
  obtain ⟨a, cap, rfl, hc, h⟩ := h
  refine ⟨a, cap, rfl, hc, ?_⟩
  rcases h with h | ⟨b, off, rfl, h⟩
  · exact .inl h
  · refine .inr ⟨b, off, rfl, fun j hj => ?_⟩
    obtain ⟨x, hx, hi⟩ := h j hj
    exact ⟨x, cell_after hb hx, hi.later hb⟩
theorem Shd.later {w w' : World} {u : Value} {s : Sh.Shard} (h : Shd w u s) (hb : Below w.heap.size w w') : Shd w' u s := by
  obtain ⟨v, rfl, h⟩ := h
  exact ⟨v, rfl, h.later hb⟩
theorem Lists.hid {w w' : World} {v : Value} {o : List (List Int)} (h : Hid (Lists w v o)) (hb : Below w.heap.size w w') : Hid (Lists w' v o) := h.out.later hb
theorem Shd.hid {w w' : World} {u : Value} {s : Sh.Shard} (h : Hid (Shd w u s)) (hb : Below w.heap.size w w') : Hid (Shd w' u s) := h.out.later hb
theorem lists_nil (W : World) : Lists W (.slice none 0 0) [] := ⟨none, 0, rfl, Nat.le_refl _, .inl rfl⟩
theorem getD_mem_o {o : List (List Int)} {k : Nat} (h : k < o.length) : o.getD k [] ∈ o := by
  rw [List.getD_eq_getElem?_getD, List.getElem?_eq_getElem h]; exact List.getElem_mem h
/-- What lies at place k: a slice of so many ints. -/
theorem Lists.at_ {W : World} {a : Option Addr} {n cap : Nat} {o : List (List Int)} (h : Lists W (.slice a n cap) o) {k : Nat} (hk : k < o.length) :
    ∃ b off, a = some ⟨b, off, none⟩ ∧ ∃ x, W.cell? ⟨b, off + k, none⟩ = some x ∧ Ints W x (o.getD k []) := by
  obtain ⟨a', cap', e, _, h⟩ := h
  simp only [Value.slice.injEq] at e
  obtain ⟨rfl, _, _⟩ := e
  rcases h with rfl | ⟨b, off, rfl, h⟩
  · simp at hk
  · exact ⟨b, off, rfl, h k hk⟩
theorem many_step {o : List (List Int)} {k : Nat} (h : k < o.length) : Sh.many (o.take (k + 1)) = Sh.many (o.take k) + (o.getD k []).length := Sh.many_take o k h

theorem own_later {w w' : World} {base e size n : Nat} {v : Value} {xs : List Value} (h : w.ownsRow base e size v n xs) (hb : Below w.heap.size w w') : w'.ownsRow base e size v n xs :=
  h.kept ⟨hb.os, hb.tape, hb.output, hb.size, fun k hk _ => hb.block k hk⟩ (row := none) (by cases v.ownBlock <;> simp)

/-- Is it no more than is gone through? -/
def Less (o : List (List Int)) : Prop := o.length ≤ 300 ∧ Sh.many o ≤ 5000 ∧ ∀ l ∈ o, l.length ≤ 300
/-- What Great tells. -/
def gr (o : List (List Int)) : Bool := !(decide (o.length ≤ 300) && decide (Sh.many o ≤ 5000) && o.all fun l => decide (l.length ≤ 300))
theorem gr_iff {o : List (List Int)} : gr o = false ↔ Less o := by
  unfold gr Less
  simp [and_assoc]
theorem many_mono {o : List (List Int)} (k : Nat) : Sh.many (o.take k) ≤ Sh.many o := by
  have e : Sh.many o = Sh.many (o.take k) + Sh.many (o.drop k) := by
    conv => lhs; rw [← List.take_append_drop k o]
    unfold Sh.many
    rw [List.map_append, List.sum_append]
  omega


end Go.Proofs.Ytbhngncnhabbkaa
