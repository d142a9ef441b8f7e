/- What the arguments of the statements on edges are in memory: a slice of edges, a slice of pairs of bytes. -/
import Derived.Test.YtbhngncnhabbkaaGreatGFrame
import Derived.Deep.Slices
import Derived.ChangeArms
namespace Go.Proofs.YtbhngncnhabbkaaGreat
open Go.ChangeShapes Go.WideShapes Go.ChangeAt Go.RowKit Go.Deep

theorem wf_u8 {n : Int} (h : (Lit.int .u8 n).wf = true) : ∃ k : Nat, n = k ∧ k < 256 := by
  have : 0 ≤ n ∧ n ≤ 255 := by simpa [Lit.wf, IntKind.min, IntKind.max, IntKind.signed, IntKind.bits] using h
  exact ⟨n.toNat, by omega, by omega⟩
theorem wf_u16XE {n : Int} (h : (Lit.int .u16 n).wf = true) : ∃ k : Nat, n = k ∧ k < 65536 := by
  have : 0 ≤ n ∧ n ≤ 65535 := by simpa [Lit.wf, IntKind.min, IntKind.max, IntKind.signed, IntKind.bits] using h
  exact ⟨n.toNat, by omega, by omega⟩
section
variable {H : Type} {enc : TypeId × Value → H} {W : World} {base : Nat} {held : Bool}

set_option maxRecDepth 100000 in
theorem edge_of_trod {n : Nat} {cs : List Value} {x : DataW H × List MemPlace} (h : DataW.trod enc Tryz.prog W base (fun _ => true) held n 56 cs = some x) :
    ∃ d : Int × Int, cs = encE d := by
  obtain ⟨xs, k, _, _, hl, hxl, hf⟩ := DataW.trod_struct Tryz.underlying56 h
  have hc : Tryz.prog.cellsOf 56 = 2 := by kernel_rfl
  have c3 : Tryz.prog.cellsOf 3 = 1 := by kernel_rfl
  rw [hc] at hl
  have g0 := hf 0 _ rfl
  have g1 := hf 1 _ rfl
  match cs, hl, xs, hxl with
  | [v0, v1], _, [y0, y1], _ =>
    simp [c3] at g0 g1
    obtain ⟨a0, e0, _, w0⟩ := DataW.trod_int Tryz.underlying3 g0
    obtain ⟨a1, e1, _, w1⟩ := DataW.trod_int Tryz.underlying3 g1
    simp at e0 e1
    exact ⟨(a0, a1), by rw [e0, e1]; rfl⟩

set_option maxRecDepth 100000 in
theorem open_edges {r : Reach} {b0 : Nat} {v : Value} {d : DataW H} {p : List MemPlace} (hv : Value.okWide Tryz.prog W r b0 36 v) (h : DataW.Trod enc Tryz.prog W base (fun _ => true) held 36 v d p) :
    ∃ l, Edg W v l ∧ l.length ≤ 9223372036854775807 := by
  obtain ⟨a0, len0, cap0, rfl⟩ := okWide_slice Tryz.underlying36 hv
  obtain ⟨fuel, hf⟩ := h
  have hc : Tryz.prog.cellsOf 56 = 2 := by kernel_rfl
  have h : DataW.trod enc Tryz.prog W base (fun _ => true) held fuel 36 [.slice a0 len0 cap0] = some (d, p) := by simpa [Value.cells] using hf
  rcases open_slice Tryz.underlying36 h with ⟨hcs, _⟩ | ⟨a, len, cap, m, k, D, Pl, hcs, _, hl, hm, hmm, _, hi⟩
  · simp at hcs
    obtain ⟨rfl, rfl, rfl⟩ := hcs
    exact ⟨[], edg_nil W, by simp⟩
  · simp at hcs hmm
    obtain ⟨rfl, rfl, rfl⟩ := hcs
    subst hmm
    have each : ∀ i, i < len0 → ∃ d : Int × Int, ∀ j, j < 2 → W.cell? (a.add (i * 2 + j)) = (encE d)[j]? := by
      intro i hil
      obtain ⟨cs', h1, h2⟩ := hi i (by omega)
      rw [hc] at h1
      obtain ⟨_, _, hcell⟩ := World.cells?_some h1
      obtain ⟨d, rfl⟩ := edge_of_trod h2
      refine ⟨d, fun j hj => ?_⟩
      have := hcell j hj
      rwa [add_add] at this
    by_cases h0 : len0 = 0
    · subst h0
      exact ⟨[], ⟨some a, m, rfl, by simp, .inl rfl⟩, by simp⟩
    · obtain ⟨f, hfd⟩ := @choose_lt (Int × Int) ⟨(0, 0)⟩ len0 _ each
      have hspot : ∃ b off, a = ⟨b, off, none⟩ := by
        obtain ⟨b, off, spot⟩ := a
        have hc0 := hfd 0 (by omega) 0 (by omega)
        have hc1 : W.cell? ((⟨b, off, spot⟩ : Addr).add (0 * 2 + 0)) = some (.int .i64 (f 0).1) := hc0
        have hspot : spot = none := by simpa [Addr.add] using World.cell?_spot hc1
        subst hspot
        exact ⟨b, off, rfl⟩
      obtain ⟨b, off, rfl⟩ := hspot
      have hlen : ((List.range len0).map f).length = len0 := by simp
      refine ⟨(List.range len0).map f, ⟨_, m, by rw [hlen], by omega, .inr ⟨b, off, rfl, fun j hj => ?_⟩⟩, by rw [hlen]; unfold maxLen at hm; omega⟩
      rw [hlen] at hj
      have hg : ((List.range len0).map f).getD j Go.Proofs.YtbhngncnhabbkaaGreat.e0 = f j := by simp [List.getD, hj]
      rw [hg]
      have hcells := hfd j hj
      have atq (q : Nat) (hq : q < 2) : W.cell? ⟨b, off + j * 2 + q, none⟩ = (encE (f j))[q]? := by
        have := hcells q hq
        rwa [Go.WideShapes.add_plain, ← Nat.add_assoc] at this
      exact ⟨atq 0 (by omega), atq 1 (by omega)⟩

set_option maxRecDepth 100000 in
theorem pair_of_trod {n : Nat} {cs : List Value} {x : DataW H × List MemPlace} (h : DataW.trod enc Tryz.prog W base (fun _ => true) held n 40 cs = some x) :
    ∃ d : Nat × Nat, cs = [.int .u8 d.1, .int .u8 d.2] ∧ d.1 < 256 ∧ d.2 < 256 := by
  obtain ⟨xs, m, _, _, hl, hlen, hi⟩ := DataW.trod_array Tryz.underlying40 h
  have hE : Tryz.prog.cellsOf 5 = 1 := by kernel_rfl
  have h0 := hi 0 (by omega)
  have h1 := hi 1 (by omega)
  rw [hE] at h0 h1
  have hC : Tryz.prog.cellsOf 40 = 2 := by kernel_rfl
  rw [hC] at hl
  match cs, hl, xs, hlen with
  | [v0, v1], _, [y0, y1], _ =>
    simp at h0 h1
    obtain ⟨a0, q0, _, w0⟩ := DataW.trod_int Tryz.underlying5 h0
    obtain ⟨a1, q1, _, w1⟩ := DataW.trod_int Tryz.underlying5 h1
    simp at q0 q1
    obtain ⟨k0, rfl, hk0⟩ := wf_u8 w0
    obtain ⟨k1, rfl, hk1⟩ := wf_u8 w1
    exact ⟨(k0, k1), by rw [q0, q1], hk0, hk1⟩

set_option maxRecDepth 100000 in
theorem open_pairs {r : Reach} {b0 : Nat} {v : Value} {d : DataW H} {p : List MemPlace} (hv : Value.okWide Tryz.prog W r b0 41 v) (h : DataW.Trod enc Tryz.prog W base (fun _ => true) held 41 v d p) :
    ∃ l, Prs W v l ∧ Small l ∧ l.length ≤ 9223372036854775807 := by
  obtain ⟨a0, len0, cap0, rfl⟩ := okWide_slice Tryz.underlying41 hv
  obtain ⟨fuel, hf⟩ := h
  have hc : Tryz.prog.cellsOf 40 = 2 := by kernel_rfl
  have h : DataW.trod enc Tryz.prog W base (fun _ => true) held fuel 41 [.slice a0 len0 cap0] = some (d, p) := by simpa [Value.cells] using hf
  rcases open_slice Tryz.underlying41 h with ⟨hcs, _⟩ | ⟨a, len, cap, m, k, D, Pl, hcs, _, hl, hm, hmm, _, hi⟩
  · simp at hcs
    obtain ⟨rfl, rfl, rfl⟩ := hcs
    exact ⟨[], ⟨none, 0, rfl, Nat.le_refl _, .inl rfl⟩, fun p hp => by simp at hp, by simp⟩
  · simp at hcs hmm
    obtain ⟨rfl, rfl, rfl⟩ := hcs
    subst hmm
    have each : ∀ i, i < len0 → ∃ d : Nat × Nat, (∀ j, j < 2 → W.cell? (a.add (i * 2 + j)) = [Value.int .u8 d.1, Value.int .u8 d.2][j]?) ∧ d.1 < 256 ∧ d.2 < 256 := by
      intro i hil
      obtain ⟨cs', h1, h2⟩ := hi i (by omega)
      rw [hc] at h1
      obtain ⟨_, _, hcell⟩ := World.cells?_some h1
      obtain ⟨d, rfl, hd⟩ := pair_of_trod h2
      refine ⟨d, fun j hj => ?_, hd⟩
      have := hcell j hj
      rwa [add_add] at this
    by_cases h0 : len0 = 0
    · subst h0
      exact ⟨[], ⟨some a, m, rfl, by simp, .inl rfl⟩, fun p hp => by simp at hp, by simp⟩
    · obtain ⟨f, hfd⟩ := @choose_lt (Nat × Nat) ⟨(0, 0)⟩ len0 _ each
      have hspot : ∃ b off, a = ⟨b, off, none⟩ := by
        obtain ⟨b, off, spot⟩ := a
        have hc0 := (hfd 0 (by omega)).1 0 (by omega)
        have hc1 : W.cell? ((⟨b, off, spot⟩ : Addr).add (0 * 2 + 0)) = some (.int .u8 (f 0).1) := hc0
        have hspot : spot = none := by simpa [Addr.add] using World.cell?_spot hc1
        subst hspot
        exact ⟨b, off, rfl⟩
      obtain ⟨b, off, rfl⟩ := hspot
      have hlen : ((List.range len0).map f).length = len0 := by simp
      refine ⟨(List.range len0).map f, ⟨_, m, by rw [hlen], by omega, .inr ⟨b, off, rfl, fun j hj => ?_⟩⟩, fun p hp => ?_, by rw [hlen]; unfold maxLen at hm; omega⟩
      · rw [hlen] at hj
        have hg : ((List.range len0).map f).getD j (0, 0) = f j := by simp [List.getD, hj]
        rw [hg]
        have hcells := (hfd j hj).1
        have atq (q : Nat) (hq : q < 2) : W.cell? ⟨b, off + j * 2 + q, none⟩ = [Value.int .u8 (f j).1, Value.int .u8 (f j).2][q]? := by
          have := hcells q hq
          rwa [Go.WideShapes.add_plain, ← Nat.add_assoc] at this
        exact ⟨atq 0 (by omega), atq 1 (by omega)⟩
      · obtain ⟨i, hi, rfl⟩ := List.mem_map.1 hp
        exact (hfd i (List.mem_range.1 hi)).2
end

end Go.Proofs.YtbhngncnhabbkaaGreat

/- What the arguments of the statements on shards are in memory: a shard, a part, arrays of two numbers. -/
namespace Go.Proofs.YtbhngncnhabbkaaGreat
open Go.ChangeShapes Go.WideShapes Go.ChangeAt Go.RowKit Go.Deep

theorem wf_u32 {n : Int} (h : (Lit.int .u32 n).wf = true) : ∃ k : Nat, n = k ∧ k < 4294967296 := by
  have : 0 ≤ n ∧ n ≤ 4294967295 := by simpa [Lit.wf, IntKind.min, IntKind.max, IntKind.signed, IntKind.bits] using h
  exact ⟨n.toNat, by omega, by omega⟩

/-- All lists are lists of ints, of a length that may be. -/
def OkO (o : List (List Int)) : Prop := o.length ≤ 9223372036854775807 ∧ ∀ l ∈ o, l.length ≤ 9223372036854775807 ∧ Gp.Fit l

section
variable {H : Type} {enc : TypeId × Value → H} {W : World} {base : Nat} {held : Bool}

set_option maxRecDepth 100000 in
theorem ints_of_trod {n : Nat} {v : Value} {x : DataW H × List MemPlace} (h : DataW.trod enc Tryz.prog W base (fun _ => true) held n 58 [v] = some x) :
    ∃ l, Ints W v l ∧ l.length ≤ 9223372036854775807 ∧ Gp.Fit l := by
  rcases open_ints Tryz.underlying58 Tryz.underlying3 (by kernel_rfl) h with ⟨hcs, _⟩ | ⟨a, l, c, zs, hcs, _, hl, hm, hz, _, hcell, hwz⟩
  · simp at hcs
    subst hcs
    exact ⟨[], ⟨none, 0, rfl, .inl rfl⟩, by simp, fun z hz => by simp at hz⟩
  · simp at hcs
    subst hcs
    obtain ⟨l', rfl, n0, k0, f0⟩ := ints_of_row (.inr ⟨_, rfl, hl, hm, by simpa using hz, hcell, hwz⟩)
    unfold maxLen at n0
    exact ⟨l', k0, n0, f0⟩

set_option maxRecDepth 100000 in
theorem lists_of_trod {n : Nat} {v : Value} {x : DataW H × List MemPlace} (h : DataW.trod enc Tryz.prog W base (fun _ => true) held n 24 [v] = some x) :
    ∃ o, Lists W v o ∧ OkO o := by
  have hc : Tryz.prog.cellsOf 58 = 1 := by kernel_rfl
  rcases open_slice Tryz.underlying24 h with ⟨hcs, _⟩ | ⟨a, len, cap, m, k, D, Pl, hcs, _, hl, hm, hmm, _, hi⟩
  · simp at hcs
    subst hcs
    exact ⟨[], lists_nil W, by simp, fun l hl => by simp at hl⟩
  · simp at hcs hmm
    subst hcs hmm
    have each : ∀ i, i < len → ∃ d : Value × List Int, W.cell? (a.add i) = some d.1 ∧ Ints W d.1 d.2 ∧ d.2.length ≤ 9223372036854775807 ∧ Gp.Fit d.2 := by
      intro i hil
      obtain ⟨cs', h1, h2⟩ := hi i (by omega)
      rw [hc] at h1
      obtain ⟨hl1, _, hcell⟩ := World.cells?_some h1
      match cs', hl1 with
      | [u], _ =>
        obtain ⟨l, h3, h4, h5⟩ := ints_of_trod h2
        have := hcell 0 (by omega)
        rw [add_add] at this
        exact ⟨(u, l), by simpa using this, h3, h4, h5⟩
    by_cases h0 : len = 0
    · subst h0
      exact ⟨[], ⟨some a, m, rfl, by simp, .inl rfl⟩, by simp, fun l hl => by simp at hl⟩
    · obtain ⟨f, hfd⟩ := @choose_lt (Value × List Int) ⟨(.bool false, [])⟩ len _ each
      have hspot : ∃ b off, a = ⟨b, off, none⟩ := by
        obtain ⟨b, off, spot⟩ := a
        have hc0 := (hfd 0 (by omega)).1
        have hspot : spot = none := by
          obtain ⟨_, _, e, _⟩ := (hfd 0 (by omega)).2.1
          rw [e] at hc0
          simpa [Addr.add] using World.cell?_spot hc0
        subst hspot
        exact ⟨b, off, rfl⟩
      obtain ⟨b, off, rfl⟩ := hspot
      have hlen : ((List.range len).map fun i => (f i).2).length = len := by simp
      refine ⟨(List.range len).map fun i => (f i).2, ⟨_, m, by rw [hlen], by omega, .inr ⟨b, off, rfl, fun j hj => ?_⟩⟩, by rw [hlen]; unfold maxLen at hm; omega, fun l hl => ?_⟩
      · rw [hlen] at hj
        have hg : ((List.range len).map fun i => (f i).2).getD j [] = (f j).2 := by simp [List.getD, hj]
        rw [hg]
        have hcj := (hfd j hj).1
        rw [Go.WideShapes.add_plain] at hcj
        exact ⟨_, hcj, (hfd j hj).2.1⟩
      · obtain ⟨i, hi, rfl⟩ := List.mem_map.1 hl
        exact (hfd i (List.mem_range.1 hi)).2.2

set_option maxRecDepth 100000 in
theorem part_of_trod2 {n : Nat} {cs : List Value} {x : DataW H × List MemPlace} (h : DataW.trod enc Tryz.prog W base (fun _ => true) held n 23 cs = some x) :
    ∃ d : Int × Int, cs = [.int .i64 d.1, .int .i64 d.2] ∧ (-9223372036854775808 ≤ d.1 ∧ d.1 ≤ 9223372036854775807) ∧ (-9223372036854775808 ≤ d.2 ∧ d.2 ≤ 9223372036854775807) := by
  obtain ⟨xs, k, _, _, hl, hxl, hf⟩ := DataW.trod_struct Tryz.underlying23 h
  have hc : Tryz.prog.cellsOf 23 = 2 := by kernel_rfl
  have c3 : Tryz.prog.cellsOf 3 = 1 := by kernel_rfl
  rw [hc] at hl
  have g0 := hf 0 _ rfl
  have g1 := hf 1 _ rfl
  match cs, hl, xs, hxl with
  | [v0, v1], _, [y0, y1], _ =>
    simp [c3] at g0 g1
    obtain ⟨a0, e0, _, w0⟩ := DataW.trod_int Tryz.underlying3 g0
    obtain ⟨a1, e1, _, w1⟩ := DataW.trod_int Tryz.underlying3 g1
    simp at e0 e1
    exact ⟨(a0, a1), by rw [e0, e1], wf_i64 w0, wf_i64 w1⟩

set_option maxRecDepth 100000 in
theorem open_part {r : Reach} {b0 : Nat} {v : Value} {d : DataW H} {p : List MemPlace} (hv : Value.okWide Tryz.prog W r b0 23 v) (h : DataW.Trod enc Tryz.prog W base (fun _ => true) held 23 v d p) :
    ∃ q : Int × Int, v = .agg #[.int .i64 q.1, .int .i64 q.2] ∧ (-9223372036854775808 ≤ q.1 ∧ q.1 ≤ 9223372036854775807) ∧ (-9223372036854775808 ≤ q.2 ∧ q.2 ≤ 9223372036854775807) := by
  simp only [Value.okWide, Tryz.underlying23] at hv
  obtain ⟨cs, rfl, _⟩ := hv
  obtain ⟨fuel, hf⟩ := h
  obtain ⟨q, hq, h1, h2⟩ := part_of_trod2 hf
  refine ⟨q, ?_, h1, h2⟩
  have : cs = #[.int .i64 q.1, .int .i64 q.2] := Array.toList_inj.1 (by simpa [Value.cells] using hq)
  rw [this]

set_option maxRecDepth 100000 in
theorem open_shard {r : Reach} {b0 : Nat} {v : Value} {d : DataW H} {p : List MemPlace} (hv : Value.okWide Tryz.prog W r b0 26 v) (h : DataW.Trod enc Tryz.prog W base (fun _ => true) held 26 v d p) :
    ∃ (s : Sh.Shard) (u : Value), v = .agg (scells s u) ∧ Lists W u s.2 ∧ OkO s.2 ∧ (-9223372036854775808 ≤ s.1.1 ∧ s.1.1 ≤ 9223372036854775807) ∧ (-9223372036854775808 ≤ s.1.2 ∧ s.1.2 ≤ 9223372036854775807) := by
  simp only [Value.okWide, Tryz.underlying26] at hv
  obtain ⟨cs, rfl, _⟩ := hv
  obtain ⟨fuel, hf⟩ := h
  obtain ⟨xs, k, _, _, hl, hxl, hff⟩ := DataW.trod_struct Tryz.underlying26 hf
  have hc : Tryz.prog.cellsOf 26 = 3 := by kernel_rfl
  have c2 : Tryz.prog.cellsOf 23 = 2 := by kernel_rfl
  have c1 : Tryz.prog.cellsOf 24 = 1 := by kernel_rfl
  rw [hc] at hl
  have g0 := hff 0 _ rfl
  have g1 := hff 1 _ rfl
  obtain ⟨l⟩ := cs
  simp only [Value.cells] at hl g0 g1
  match l, hl, xs, hxl with
  | [v0, v1, v2], _, [y0, y1], _ =>
    simp [c1, c2] at g0 g1
    obtain ⟨q, hq, h1, h2⟩ := part_of_trod2 g0
    obtain ⟨o, h3, h4⟩ := lists_of_trod g1
    simp at hq
    obtain ⟨rfl, rfl⟩ := hq
    exact ⟨(q, o), v2, rfl, h3, h4, h1, h2⟩

set_option maxRecDepth 100000 in
theorem open_two_u8 {r : Reach} {b0 : Nat} {v : Value} {d : DataW H} {p : List MemPlace} (hv : Value.okWide Tryz.prog W r b0 40 v) (h : DataW.Trod enc Tryz.prog W base (fun _ => true) held 40 v d p) :
    ∃ n0 n1 : Nat, v = .agg #[.int .u8 n0, .int .u8 n1] ∧ n0 < 256 ∧ n1 < 256 := by
  simp only [Value.okWide, Tryz.underlying40] at hv
  obtain ⟨cs, rfl, h2, _⟩ := hv
  obtain ⟨fuel, hf⟩ := h
  obtain ⟨xs, m, _, _, hl, hlen, hi⟩ := DataW.trod_array Tryz.underlying40 hf
  have hE : Tryz.prog.cellsOf 5 = 1 := by kernel_rfl
  have hC : Tryz.prog.cellsOf 40 = 2 := by kernel_rfl
  have h0 := hi 0 (by omega)
  have h1 := hi 1 (by omega)
  rw [hE] at h0 h1
  obtain ⟨l⟩ := cs
  match xs, hlen with
  | [y0, y1], _ =>
    match l, h2.trans hC with
    | [v0, v1], _ =>
      simp [Value.cells] at h0 h1
      obtain ⟨a, ea, _, wa⟩ := DataW.trod_int Tryz.underlying5 h0
      obtain ⟨b, eb, _, wb⟩ := DataW.trod_int Tryz.underlying5 h1
      simp at ea eb
      subst ea eb
      obtain ⟨n0, rfl, hn0⟩ := wf_u8 wa
      obtain ⟨n1, rfl, hn1⟩ := wf_u8 wb
      exact ⟨n0, n1, rfl, hn0, hn1⟩

set_option maxRecDepth 100000 in
theorem open_two_u32 {r : Reach} {b0 : Nat} {v : Value} {d : DataW H} {p : List MemPlace} (hv : Value.okWide Tryz.prog W r b0 46 v) (h : DataW.Trod enc Tryz.prog W base (fun _ => true) held 46 v d p) :
    ∃ n0 n1 : Nat, v = .agg #[.int .u32 n0, .int .u32 n1] ∧ n0 < 4294967296 ∧ n1 < 4294967296 := by
  simp only [Value.okWide, Tryz.underlying46] at hv
  obtain ⟨cs, rfl, h2, _⟩ := hv
  obtain ⟨fuel, hf⟩ := h
  obtain ⟨xs, m, _, _, hl, hlen, hi⟩ := DataW.trod_array Tryz.underlying46 hf
  have hE : Tryz.prog.cellsOf 45 = 1 := by kernel_rfl
  have hC : Tryz.prog.cellsOf 46 = 2 := by kernel_rfl
  have h0 := hi 0 (by omega)
  have h1 := hi 1 (by omega)
  rw [hE] at h0 h1
  obtain ⟨l⟩ := cs
  match xs, hlen with
  | [y0, y1], _ =>
    match l, h2.trans hC with
    | [v0, v1], _ =>
      simp [Value.cells] at h0 h1
      obtain ⟨a, ea, _, wa⟩ := DataW.trod_int Tryz.underlying45 h0
      obtain ⟨b, eb, _, wb⟩ := DataW.trod_int Tryz.underlying45 h1
      simp at ea eb
      subst ea eb
      obtain ⟨n0, rfl, hn0⟩ := wf_u32 wa
      obtain ⟨n1, rfl, hn1⟩ := wf_u32 wb
      exact ⟨n0, n1, rfl, hn0, hn1⟩

end

end Go.Proofs.YtbhngncnhabbkaaGreat
