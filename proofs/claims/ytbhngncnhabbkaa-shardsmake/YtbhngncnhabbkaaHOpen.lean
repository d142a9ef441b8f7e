/- What the arguments of the statements on shards are in memory: a shard, a part, arrays of two numbers. -/
import Derived.Test.YtbhngncnhabbkaaEOpen
import Derived.Deep.Slices
import Derived.ChangeArms
namespace Go.Proofs.Ytbhngncnhabbkaa
open Go.ChangeShapes Go.WideShapes Go.ChangeAt Go.RowKit Go.Deep

theorem wf_u32 {n : Int} (h : (Lit.int .u32 n).wf = true) : ∃ k : Nat, n = k ∧ k < 4294967296 := by
  have : 0 ≤ n ∧ n ≤ 4294967295 := by simpa [Lit.wf, IntKind.min, IntKind.max, IntKind.signed, IntKind.bits] using h
  exact ⟨n.toNat, by omega, by omega⟩

/-- All lists are lists of ints, of a length that may be. -/
def OkO (o : List (List Int)) : Prop := o.length ≤ 9223372036854775807 ∧ ∀ l ∈ o, l.length ≤ 9223372036854775807 ∧ Gp.Fit l

section
variable {H : Type} {enc : TypeId × Value → H} {W : World} {base : Nat} {held : Bool}

set_option maxRecDepth 100000 in
theorem ints_of_trod {n : Nat} {v : Value} {x : DataW H × List MemPlace} (h : DataW.trod enc Try.prog W base (fun _ => true) held n 41 [v] = some x) :
    ∃ l, Ints W v l ∧ l.length ≤ 9223372036854775807 ∧ Gp.Fit l := by
  rcases open_ints Try.underlying41 Try.underlying3 (by kernel_rfl) h with ⟨hcs, _⟩ | ⟨a, l, c, zs, hcs, _, hl, hm, hz, _, hcell, hwz⟩
  · simp at hcs
    subst hcs
    exact ⟨[], ⟨none, 0, rfl, .inl rfl⟩, by simp, fun z hz => by simp at hz⟩
  · simp at hcs
    subst hcs
    obtain ⟨l', rfl, n0, k0, f0⟩ := ints_of_row (.inr ⟨_, rfl, hl, hm, by simpa using hz, hcell, hwz⟩)
    unfold maxLen at n0
    exact ⟨l', k0, n0, f0⟩

set_option maxRecDepth 100000 in
theorem lists_of_trod {n : Nat} {v : Value} {x : DataW H × List MemPlace} (h : DataW.trod enc Try.prog W base (fun _ => true) held n 26 [v] = some x) :
    ∃ o, Lists W v o ∧ OkO o := by
  have hc : Try.prog.cellsOf 41 = 1 := by kernel_rfl
  rcases open_slice Try.underlying26 h with ⟨hcs, _⟩ | ⟨a, len, cap, m, k, D, Pl, hcs, _, hl, hm, hmm, _, hi⟩
  · simp at hcs
    subst hcs
    exact ⟨[], lists_nil W, by simp, fun l hl => by simp at hl⟩
  · simp at hcs hmm
    subst hcs hmm
    have each : ∀ i, i < len → ∃ d : Value × List Int, W.cell? (a.add i) = some d.1 ∧ Ints W d.1 d.2 ∧ d.2.length ≤ 9223372036854775807 ∧ Gp.Fit d.2 := by
      intro i hil
      obtain ⟨cs', h1, h2⟩ := hi i (by omega)
      rw [hc] at h1
      obtain ⟨hl1, _, hcell⟩ := World.cells?_some h1
      match cs', hl1 with
      | [u], _ =>
        obtain ⟨l, h3, h4, h5⟩ := ints_of_trod h2
        have := hcell 0 (by omega)
        rw [add_add] at this
        exact ⟨(u, l), by simpa using this, h3, h4, h5⟩
    by_cases h0 : len = 0
    · subst h0
      exact ⟨[], ⟨some a, m, rfl, by simp, .inl rfl⟩, by simp, fun l hl => by simp at hl⟩
    · obtain ⟨f, hfd⟩ := @choose_lt (Value × List Int) ⟨(.bool false, [])⟩ len _ each
      have hspot : ∃ b off, a = ⟨b, off, none⟩ := by
        obtain ⟨b, off, spot⟩ := a
        have hc0 := (hfd 0 (by omega)).1
        have hspot : spot = none := by
          obtain ⟨_, _, e, _⟩ := (hfd 0 (by omega)).2.1
          rw [e] at hc0
          simpa [Addr.add] using World.cell?_spot hc0
        subst hspot
        exact ⟨b, off, rfl⟩
      obtain ⟨b, off, rfl⟩ := hspot
      have hlen : ((List.range len).map fun i => (f i).2).length = len := by simp
      refine ⟨(List.range len).map fun i => (f i).2, ⟨_, m, by rw [hlen], by omega, .inr ⟨b, off, rfl, fun j hj => ?_⟩⟩, by rw [hlen]; unfold maxLen at hm; omega, fun l hl => ?_⟩
      · rw [hlen] at hj
        have hg : ((List.range len).map fun i => (f i).2).getD j [] = (f j).2 := by simp [List.getD, hj]
        rw [hg]
        have hcj := (hfd j hj).1
        rw [Go.WideShapes.add_plain] at hcj
        exact ⟨_, hcj, (hfd j hj).2.1⟩
      · obtain ⟨i, hi, rfl⟩ := List.mem_map.1 hl
        exact (hfd i (List.mem_range.1 hi)).2.2

set_option maxRecDepth 100000 in
theorem part_of_trod2 {n : Nat} {cs : List Value} {x : DataW H × List MemPlace} (h : DataW.trod enc Try.prog W base (fun _ => true) held n 24 cs = some x) :
    ∃ d : Int × Int, cs = [.int .i64 d.1, .int .i64 d.2] ∧ (-9223372036854775808 ≤ d.1 ∧ d.1 ≤ 9223372036854775807) ∧ (-9223372036854775808 ≤ d.2 ∧ d.2 ≤ 9223372036854775807) := by
  obtain ⟨xs, k, _, _, hl, hxl, hf⟩ := DataW.trod_struct Try.underlying24 h
  have hc : Try.prog.cellsOf 24 = 2 := by kernel_rfl
  have c3 : Try.prog.cellsOf 3 = 1 := by kernel_rfl
  rw [hc] at hl
  have g0 := hf 0 _ rfl
  have g1 := hf 1 _ rfl
  match cs, hl, xs, hxl with
  | [v0, v1], _, [y0, y1], _ =>
    simp [c3] at g0 g1
    obtain ⟨a0, e0, _, w0⟩ := DataW.trod_int Try.underlying3 g0
    obtain ⟨a1, e1, _, w1⟩ := DataW.trod_int Try.underlying3 g1
    simp at e0 e1
    exact ⟨(a0, a1), by rw [e0, e1], wf_i64 w0, wf_i64 w1⟩

set_option maxRecDepth 100000 in
theorem open_part {r : Reach} {b0 : Nat} {v : Value} {d : DataW H} {p : List MemPlace} (hv : Value.okWide Try.prog W r b0 24 v) (h : DataW.Trod enc Try.prog W base (fun _ => true) held 24 v d p) :
    ∃ q : Int × Int, v = .agg #[.int .i64 q.1, .int .i64 q.2] ∧ (-9223372036854775808 ≤ q.1 ∧ q.1 ≤ 9223372036854775807) ∧ (-9223372036854775808 ≤ q.2 ∧ q.2 ≤ 9223372036854775807) := by
  simp only [Value.okWide, Try.underlying24] at hv
  obtain ⟨cs, rfl, _⟩ := hv
  obtain ⟨fuel, hf⟩ := h
  obtain ⟨q, hq, h1, h2⟩ := part_of_trod2 hf
  refine ⟨q, ?_, h1, h2⟩
  have : cs = #[.int .i64 q.1, .int .i64 q.2] := Array.toList_inj.1 (by simpa [Value.cells] using hq)
  rw [this]

set_option maxRecDepth 100000 in
theorem open_shard {r : Reach} {b0 : Nat} {v : Value} {d : DataW H} {p : List MemPlace} (hv : Value.okWide Try.prog W r b0 28 v) (h : DataW.Trod enc Try.prog W base (fun _ => true) held 28 v d p) :
    ∃ (s : Sh.Shard) (u : Value), v = .agg (scells s u) ∧ Lists W u s.2 ∧ OkO s.2 ∧ (-9223372036854775808 ≤ s.1.1 ∧ s.1.1 ≤ 9223372036854775807) ∧ (-9223372036854775808 ≤ s.1.2 ∧ s.1.2 ≤ 9223372036854775807) := by
  simp only [Value.okWide, Try.underlying28] at hv
  obtain ⟨cs, rfl, _⟩ := hv
  obtain ⟨fuel, hf⟩ := h
  obtain ⟨xs, k, _, _, hl, hxl, hff⟩ := DataW.trod_struct Try.underlying28 hf
  have hc : Try.prog.cellsOf 28 = 3 := by kernel_rfl
  have c2 : Try.prog.cellsOf 24 = 2 := by kernel_rfl
  have c1 : Try.prog.cellsOf 26 = 1 := by kernel_rfl
  rw [hc] at hl
  have g0 := hff 0 _ rfl
  have g1 := hff 1 _ rfl
  obtain ⟨l⟩ := cs
  simp only [Value.cells] at hl g0 g1
  match l, hl, xs, hxl with
  | [v0, v1, v2], _, [y0, y1], _ =>
    simp [c1, c2] at g0 g1
    obtain ⟨q, hq, h1, h2⟩ := part_of_trod2 g0
    obtain ⟨o, h3, h4⟩ := lists_of_trod g1
    simp at hq
    obtain ⟨rfl, rfl⟩ := hq
    exact ⟨(q, o), v2, rfl, h3, h4, h1, h2⟩



end

end Go.Proofs.Ytbhngncnhabbkaa
