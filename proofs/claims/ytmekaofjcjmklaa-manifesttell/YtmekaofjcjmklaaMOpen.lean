/- What the arguments of the statements on graphs are in memory: a graph, arrays of numbers. -/
import Derived.Test.YtmekaofjcjmklaaMMade
import Derived.Deep.Slices
import Derived.ChangeArms
namespace Go.Proofs.Ytmekaofjcjmklaa
open Go.ChangeShapes Go.WideShapes Go.ChangeAt Go.RowKit Go.Deep

theorem wf_u16 {n : Int} (h : (Lit.int .u16 n).wf = true) : ∃ k : Nat, n = k ∧ k < 65536 := by
  have : 0 ≤ n ∧ n ≤ 65535 := by simpa [Lit.wf, IntKind.min, IntKind.max, IntKind.signed, IntKind.bits] using h
  exact ⟨n.toNat, by omega, by omega⟩
theorem wf_u32 {n : Int} (h : (Lit.int .u32 n).wf = true) : ∃ k : Nat, n = k ∧ k < 4294967296 := by
  have : 0 ≤ n ∧ n ≤ 4294967295 := by simpa [Lit.wf, IntKind.min, IntKind.max, IntKind.signed, IntKind.bits] using h
  exact ⟨n.toNat, by omega, by omega⟩

section
variable {H : Type} {enc : TypeId × Value → H} {W : World} {base : Nat} {held : Bool}

set_option maxRecDepth 100000 in
theorem parts_of_trod {n : Nat} {v : Value} {x : DataW H × List MemPlace} (h : DataW.trod enc Try.prog W base (fun _ => true) held n 22 [v] = some x) :
    ∃ l, Prt W v l ∧ l.length ≤ 9223372036854775807 := by
  have hc : Try.prog.cellsOf 49 = 2 := by kernel_rfl
  rcases open_slice Try.underlying22 h with ⟨hcs, _⟩ | ⟨a, len0, cap, m, k, D, Pl, hcs, _, hl, hm, hmm, _, hi⟩
  · simp at hcs
    subst hcs
    exact ⟨[], prt_nil W, by simp⟩
  · simp at hcs hmm
    subst hcs hmm
    have each : ∀ i, i < len0 → ∃ d : Int × Int, ∀ j, j < 2 → W.cell? (a.add (i * 2 + j)) = (encP d)[j]? := by
      intro i hil
      obtain ⟨cs', h1, h2⟩ := hi i (by omega)
      rw [hc] at h1
      obtain ⟨_, _, hcell⟩ := World.cells?_some h1
      obtain ⟨d, rfl⟩ := part_of_trod h2
      refine ⟨d, fun j hj => ?_⟩
      have := hcell j hj
      rwa [add_add] at this
    by_cases h0 : len0 = 0
    · subst h0
      exact ⟨[], ⟨some a, m, rfl, by simp, .inl rfl⟩, by simp⟩
    · obtain ⟨f, hfd⟩ := @choose_lt (Int × Int) ⟨(0, 0)⟩ len0 _ each
      have hspot : ∃ b off, a = ⟨b, off, none⟩ := by
        obtain ⟨b, off, spot⟩ := a
        have hc0 := hfd 0 (by omega) 0 (by omega)
        have hc1 : W.cell? ((⟨b, off, spot⟩ : Addr).add (0 * 2 + 0)) = some (.int .i64 (f 0).1) := hc0
        have hspot : spot = none := by simpa [Addr.add] using World.cell?_spot hc1
        subst hspot
        exact ⟨b, off, rfl⟩
      obtain ⟨b, off, rfl⟩ := hspot
      have hlen : ((List.range len0).map f).length = len0 := by simp
      refine ⟨(List.range len0).map f, ⟨_, m, by rw [hlen], by omega, .inr ⟨b, off, rfl, fun j hj => ?_⟩⟩, by rw [hlen]; unfold maxLen at hm; omega⟩
      rw [hlen] at hj
      have hg : ((List.range len0).map f).getD j Go.Proofs.Ytmekaofjcjmklaa.p0 = f j := by simp [List.getD, hj]
      rw [hg]
      have hcells := hfd j hj
      have atq (q : Nat) (hq : q < 2) : W.cell? ⟨b, off + j * 2 + q, none⟩ = (encP (f j))[q]? := by
        have := hcells q hq
        rwa [Go.WideShapes.add_plain, ← Nat.add_assoc] at this
      exact ⟨atq 0 (by omega), atq 1 (by omega)⟩

set_option maxRecDepth 100000 in
theorem open_graph {r : Reach} {b0 : Nat} {v : Value} {d : DataW H} {p : List MemPlace} (hv : Value.okWide Try.prog W r b0 24 v) (h : DataW.Trod enc Try.prog W base (fun _ => true) held 24 v d p) :
    ∃ (g : Mf.Graph) (u : Value), v = .agg (gcells g u) ∧ Prt W u g.2 ∧ g.2.length ≤ 9223372036854775807 ∧ (-9223372036854775808 ≤ g.1.1 ∧ g.1.1 ≤ 9223372036854775807) ∧ (-9223372036854775808 ≤ g.1.2 ∧ g.1.2 ≤ 9223372036854775807) := by
  simp only [Value.okWide, Try.underlying24] at hv
  obtain ⟨cs, rfl, _⟩ := hv
  obtain ⟨fuel, hf⟩ := h
  obtain ⟨xs, k, _, _, hl, hxl, hff⟩ := DataW.trod_struct Try.underlying24 hf
  have hc : Try.prog.cellsOf 24 = 3 := by kernel_rfl
  have c2 : Try.prog.cellsOf 3 = 1 := by kernel_rfl
  have c1 : Try.prog.cellsOf 22 = 1 := by kernel_rfl
  rw [hc] at hl
  have g0 := hff 0 _ rfl
  have g1 := hff 1 _ rfl
  have g2 := hff 2 _ rfl
  obtain ⟨l⟩ := cs
  simp only [Value.cells] at hl g0 g1 g2
  match l, hl, xs, hxl with
  | [v0, v1, v2], _, [y0, y1, y2], _ =>
    simp [c1, c2] at g0 g1 g2
    obtain ⟨a, ea, _, wa⟩ := DataW.trod_int Try.underlying3 g0
    obtain ⟨b, eb, _, wb⟩ := DataW.trod_int Try.underlying3 g1
    simp at ea eb
    subst ea eb
    obtain ⟨o, h3, h4⟩ := parts_of_trod g2
    exact ⟨((a, b), o), v2, rfl, h3, h4, wf_i64 wa, wf_i64 wb⟩

set_option maxRecDepth 100000 in
theorem open_two_u16 {r : Reach} {b0 : Nat} {v : Value} {d : DataW H} {p : List MemPlace} (hv : Value.okWide Try.prog W r b0 36 v) (h : DataW.Trod enc Try.prog W base (fun _ => true) held 36 v d p) :
    ∃ n0 n1 : Nat, v = .agg #[.int .u16 n0, .int .u16 n1] ∧ n0 < 65536 ∧ n1 < 65536 := by
  simp only [Value.okWide, Try.underlying36] at hv
  obtain ⟨cs, rfl, h2, _⟩ := hv
  obtain ⟨fuel, hf⟩ := h
  obtain ⟨xs, m, _, _, hl, hlen, hi⟩ := DataW.trod_array Try.underlying36 hf
  have hE : Try.prog.cellsOf 35 = 1 := by kernel_rfl
  have hC : Try.prog.cellsOf 36 = 2 := by kernel_rfl
  have h0 := hi 0 (by omega)
  have h1 := hi 1 (by omega)
  rw [hE] at h0 h1
  obtain ⟨l⟩ := cs
  match xs, hlen with
  | [y0, y1], _ =>
    match l, h2.trans hC with
    | [v0, v1], _ =>
      simp [Value.cells] at h0 h1
      obtain ⟨a, ea, _, wa⟩ := DataW.trod_int Try.underlying35 h0
      obtain ⟨b, eb, _, wb⟩ := DataW.trod_int Try.underlying35 h1
      simp at ea eb
      subst ea eb
      obtain ⟨n0, rfl, hn0⟩ := wf_u16 wa
      obtain ⟨n1, rfl, hn1⟩ := wf_u16 wb
      exact ⟨n0, n1, rfl, hn0, hn1⟩

set_option maxRecDepth 100000 in
theorem open_three_u32 {r : Reach} {b0 : Nat} {v : Value} {d : DataW H} {p : List MemPlace} (hv : Value.okWide Try.prog W r b0 41 v) (h : DataW.Trod enc Try.prog W base (fun _ => true) held 41 v d p) :
    ∃ n0 n1 n2 : Nat, v = .agg #[.int .u32 n0, .int .u32 n1, .int .u32 n2] ∧ n0 < 4294967296 ∧ n1 < 4294967296 ∧ n2 < 4294967296 := by
  simp only [Value.okWide, Try.underlying41] at hv
  obtain ⟨cs, rfl, h2, _⟩ := hv
  obtain ⟨fuel, hf⟩ := h
  obtain ⟨xs, m, _, _, hl, hlen, hi⟩ := DataW.trod_array Try.underlying41 hf
  have hE : Try.prog.cellsOf 40 = 1 := by kernel_rfl
  have hC : Try.prog.cellsOf 41 = 3 := by kernel_rfl
  have h0 := hi 0 (by omega)
  have h1 := hi 1 (by omega)
  have h3 := hi 2 (by omega)
  rw [hE] at h0 h1 h3
  obtain ⟨l⟩ := cs
  match xs, hlen with
  | [y0, y1, y2], _ =>
    match l, h2.trans hC with
    | [v0, v1, v2], _ =>
      simp [Value.cells] at h0 h1 h3
      obtain ⟨a, ea, _, wa⟩ := DataW.trod_int Try.underlying40 h0
      obtain ⟨b, eb, _, wb⟩ := DataW.trod_int Try.underlying40 h1
      obtain ⟨c, ec, _, wc⟩ := DataW.trod_int Try.underlying40 h3
      simp at ea eb ec
      subst ea eb ec
      obtain ⟨n0, rfl, hn0⟩ := wf_u32 wa
      obtain ⟨n1, rfl, hn1⟩ := wf_u32 wb
      obtain ⟨n2, rfl, hn2⟩ := wf_u32 wc
      exact ⟨n0, n1, n2, rfl, hn0, hn1, hn2⟩
end

end Go.Proofs.Ytmekaofjcjmklaa
