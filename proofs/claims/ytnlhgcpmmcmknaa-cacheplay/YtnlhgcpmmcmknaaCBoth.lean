/- A cache of the program and one of the document, side by side, each in its own blocks, in one state. -/
import Derived.Test.YtnlhgcpmmcmknaaCRefB
import Derived.Test.YtnlhgcpmmcmknaaCHeld
namespace Go.Proofs.Ytnlhgcpmmcmknaa
open Go.RowKit Go.Maps

theorem CIn.pinsLe {w W : World} {c p u : Nat} {o : Nat → Prop} {st : Ca.St} (h : CIn w W c p o st u) : ∀ f ∈ st.l, f.p ≤ u := by
  obtain ⟨mb, of, K, h1, h2, _⟩ := h.sys
  intro f hf
  rw [← h2] at hf
  obtain ⟨x, hx, rfl⟩ := List.mem_map.1 hf
  exact (h1.top x hx).2
theorem RC.turn {W W' : World} {o o' : Nat → Prop} {q r : Nat} {vL : Value} {st : Ca.St} (h : RC W (fun b => ¬ o b) q r vL st) (ht : Turn o W o' W') : RC W' (fun b => ¬ o' b) q r vL st := by
  have hn : ∀ g, g < W.heap.size → ¬ o g → ¬ o' g := fun g hg h1 h2 => by
    rcases ht.grows g h2 with h3 | h3
    · exact h1 h3
    · omega
  have t2 : Turn (fun b => o b ∨ b = q ∨ vL.ownBlock = some b) W (fun b => o' b ∨ b = q ∨ vL.ownBlock = some b) W' := ⟨ht.os, ht.tape, ht.output, ht.size, fun i hi ho => ht.block i hi fun e => ho (.inl e), fun i hi => by
    rcases hi with hi | hi
    · exact (ht.grows i hi).imp .inl id
    · exact .inl (.inr hi)⟩
  have f1 : Ref W (fun b => ¬ (o b ∨ b = q ∨ vL.ownBlock = some b)) r st.fs := h.files.mono fun b _ hk e => by
    rcases e with e | e | e
    · exact hk.1 e
    · exact hk.2.1 e
    · exact hk.2.2 e
  exact ⟨(ht.block q h.lt h.self).trans h.block, ownsRow_blocks h.row fun g hg => ht.block g (h.row.lt g hg).2 (h.rowOk g hg), hn q h.lt h.self, fun g hg => hn g (h.row.lt g hg).2 (h.rowOk g hg),
    (f1.turn t2).mono fun b _ hk => ⟨fun e => hk (.inl e), fun e => hk (.inr (.inl e)), fun e => hk (.inr (.inr e))⟩⟩

/-- Both caches, made since w. -/
structure PBoth (w W : World) (c p : Nat) (o : Nat → Prop) (st : Ca.St) (u q r : Nat) (vL : Value) : Prop where
  prog : CIn w W c p o st u
  doc : RC W (fun b => ¬ o b) q r vL st
  new : ∀ i, QOwn q r vL i → w.heap.size ≤ i

section
variable {w W W' : World} {c p u q r : Nat} {o : Nat → Prop} {st : Ca.St} {vL : Value}
theorem PBoth.apart (h : PBoth w W c p o st u q r vL) : ∀ i, o i → ¬ QOwn q r vL i := by
  rintro i ho (e | e | e)
  · subst e; exact h.doc.self ho
  · subst e; exact h.doc.files.okSelf.1 ho
  · exact h.doc.rowOk i e ho
theorem PBoth.rcok (h : PBoth w W c p o st u q r vL) (hu : u ≤ 1000000) : RcOk W (fun b => ¬ o b) q r vL st :=
  ⟨h.doc, h.prog.apartL, by have := h.prog.most; omega, fun f hf => Nat.le_trans (h.prog.pinsLe f hf) hu, fun i hi ho => by have := h.prog.sys.lt i ho; omega⟩
theorem PBoth.later (h : PBoth w W c p o st u q r vL) (hb : Below W.heap.size W W') : PBoth w W' c p o st u q r vL := ⟨h.prog.later hb, h.doc.later hb, h.new⟩
/-- The document's cache has turned behind the program's. -/
theorem PBoth.both {W5 W6 : World} {o' : Nat → Prop} {st' : Ca.St} {u' : Nat} {vL' : Value} (h : PBoth w W c p o st u q r vL) (h5 : CIn w W5 c p o' st' u') (ht5 : Turn o W o' W5) (h6 : RC W6 (fun b => ¬ o' b) q r vL' st') (ht6 : Turn (QOwn q r vL) W5 (QOwn q r vL') W6) : PBoth w W6 c p o' st' u' q r vL' := by
  have hd := h.doc.turn ht5
  have hap : ∀ i, o' i → ¬ QOwn q r vL i := by
    rintro i ho (e | e | e)
    · subst e; exact hd.self ho
    · subst e; exact hd.files.okSelf.1 ho
    · exact hd.rowOk i e ho
  refine ⟨⟨h5.sys.stays fun i hi => ht6.block i (h5.sys.lt i hi) (hap i hi), h5.below.trans (ht6.toBelow h5.below.size h.new), h5.new⟩, h6, ht6.behind h5.below.size h.new⟩
theorem PBoth.mid {W5 : World} {o' : Nat → Prop} {st' : Ca.St} {u' : Nat} (h : PBoth w W c p o st u q r vL) (h5 : CIn w W5 c p o' st' u') (ht5 : Turn o W o' W5) (hu : u ≤ 1000000) : RcOk W5 (fun b => ¬ o' b) q r vL st :=
  ⟨h.doc.turn ht5, h.prog.apartL, by have := h.prog.most; omega, fun f hf => Nat.le_trans (h.prog.pinsLe f hf) hu, fun i hi ho => by have := h5.sys.lt i ho; omega⟩
theorem CIn.used (h : CIn w W c p o st u) : Calls Try.prog 21 #[at_ p] W fun e w' => e = .returned (.int .i64 (Fi.used st.fs.fs)) ∧ Below W.heap.size W w' := by
  obtain ⟨of, hs, _⟩ := h.file
  exact used_any W hs
end

end Go.Proofs.Ytnlhgcpmmcmknaa
