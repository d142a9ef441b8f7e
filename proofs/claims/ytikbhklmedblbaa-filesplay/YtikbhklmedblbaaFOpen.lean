/- What the arguments of the statements on files are in memory: acts, a slice of acts, arrays of two. -/
import Derived.Test.YtikbhklmedblbaaFActs
import Derived.Deep.Slices
import Derived.ChangeArms
namespace Go.Proofs.Ytikbhklmedblbaa
open Go.ChangeShapes Go.WideShapes Go.ChangeAt Go.RowKit Go.Deep

section
variable {H : Type} {enc : TypeId × Value → H} {W : World} {base : Nat} {held : Bool}

set_option maxRecDepth 100000 in
theorem strs_of_trod {n : Nat} {v : Value} {x : DataW H × List MemPlace} (h : DataW.trod enc Try.prog W base (fun _ => true) held n 32 [v] = some x) :
    ∃ l, Strs W v l ∧ l.length ≤ 9223372036854775807 ∧ ∀ s ∈ l, s.size ≤ 9223372036854775807 := by
  rcases open_strings Try.underlying32 Try.underlying9 (by kernel_rfl) h with ⟨hcs, _⟩ | ⟨a, l, c, zs, hcs, _, hl, hm, hz, _, hcell, hwz⟩
  · simp at hcs
    subst hcs
    exact ⟨[], strs_none W, by simp, fun s hs => by simp at hs⟩
  · simp at hcs
    subst hcs
    obtain ⟨l', rfl, n0, k0, f0⟩ := strs_of_row (.inr ⟨_, rfl, hl, hm, by simpa using hz, hcell, hwz⟩)
    unfold maxLen at n0 f0
    exact ⟨l', k0, n0, f0⟩

set_option maxRecDepth 100000 in
theorem deed_of_trod {n : Nat} {cs : List Value} {x : DataW H × List MemPlace} (h : DataW.trod enc Try.prog W base (fun _ => true) held n 34 cs = some x) :
    ∃ d : Deed, cs = d.cells.toList ∧ DeedOk W d := by
  obtain ⟨xs, k, _, _, hl, hxl, hf⟩ := DataW.trod_struct Try.underlying34 h
  have hc : Try.prog.cellsOf 34 = 6 := by kernel_rfl
  have c5 : Try.prog.cellsOf 5 = 1 := by kernel_rfl
  have c9 : Try.prog.cellsOf 9 = 1 := by kernel_rfl
  have c32 : Try.prog.cellsOf 32 = 1 := by kernel_rfl
  have c3 : Try.prog.cellsOf 3 = 1 := by kernel_rfl
  rw [hc] at hl
  have g0 := hf 0 _ rfl
  have g1 := hf 1 _ rfl
  have g2 := hf 2 _ rfl
  have g3 := hf 3 _ rfl
  have g4 := hf 4 _ rfl
  have g5 := hf 5 _ rfl
  match cs, hl, xs, hxl with
  | [v0, v1, v2, v3, v4, v5], _, [y0, y1, y2, y3, y4, y5], _ =>
    simp [c5, c9, c32, c3] at g0 g1 g2 g3 g4 g5
    obtain ⟨a0, e0, _, w0⟩ := DataW.trod_int Try.underlying5 g0
    obtain ⟨s1, e1, _, w1⟩ := DataW.trod_string Try.underlying9 g1
    obtain ⟨l, hs, hn, he⟩ := strs_of_trod g2
    obtain ⟨a3, e3, _, w3⟩ := DataW.trod_int Try.underlying3 g3
    obtain ⟨a4, e4, _, w4⟩ := DataW.trod_int Try.underlying3 g4
    obtain ⟨a5, e5, _, w5⟩ := DataW.trod_int Try.underlying5 g5
    simp at e0 e1 e3 e4 e5
    obtain ⟨k0, rfl, hk0⟩ := wf_u8 w0
    obtain ⟨k5, rfl, hk5⟩ := wf_u8 w5
    have b3 := wf_i64 w3
    unfold maxLen at w1
    refine ⟨⟨k0, s1, v2, l, a3, a4, UInt8.ofNat k5⟩, ?_, ⟨hk0, w1, hs, hn, he, b3.1, b3.2⟩⟩
    have ex : (UInt8.ofNat k5).toNat = k5 := by simp; omega
    rw [e0, e1, e3, e4, e5]
    simp [Deed.cells]
    omega

set_option maxRecDepth 100000 in
theorem acts_of_trod {n : Nat} {v : Value} {x : DataW H × List MemPlace} (h : DataW.trod enc Try.prog W base (fun _ => true) held n 22 [v] = some x) :
    ∃ l, Acts W v l ∧ l.length ≤ 9223372036854775807 := by
  have hc : Try.prog.cellsOf 34 = 6 := by kernel_rfl
  rcases open_slice Try.underlying22 h with ⟨hcs, _⟩ | ⟨a, len, cap, m, k, D, Pl, hcs, _, hl, hm, hmm, _, hi⟩
  · simp at hcs
    subst hcs
    exact ⟨[], ⟨none, 0, rfl, Nat.le_refl _, .inl rfl⟩, by simp⟩
  · simp at hcs hmm
    subst hcs hmm
    have each : ∀ i, i < len → ∃ d : Deed, (∀ j, j < 6 → W.cell? (a.add (i * 6 + j)) = d.cells.toList[j]?) ∧ DeedOk W d := by
      intro i hil
      obtain ⟨cs', h1, h2⟩ := hi i (by omega)
      rw [hc] at h1
      obtain ⟨_, _, hcell⟩ := World.cells?_some h1
      obtain ⟨d, rfl, hok⟩ := deed_of_trod h2
      refine ⟨d, fun j hj => ?_, hok⟩
      have := hcell j hj
      rwa [add_add] at this
    by_cases h0 : len = 0
    · subst h0
      exact ⟨[], ⟨some a, m, rfl, by simp, .inl rfl⟩, by simp⟩
    · obtain ⟨f, hfd⟩ := @choose_lt Deed ⟨Deed.none⟩ len _ each
      have hspot : ∃ b off, a = ⟨b, off, none⟩ := by
        obtain ⟨b, off, spot⟩ := a
        have hc0 := (hfd 0 (by omega)).1 0 (by omega)
        have hc1 : W.cell? ((⟨b, off, spot⟩ : Addr).add (0 * 6 + 0)) = some (.int .u8 (f 0).kind) := hc0
        have hspot : spot = none := by simpa [Addr.add] using World.cell?_spot hc1
        subst hspot
        exact ⟨b, off, rfl⟩
      obtain ⟨b, off, rfl⟩ := hspot
      have hlen : ((List.range len).map f).length = len := by simp
      refine ⟨(List.range len).map f, ⟨_, m, by rw [hlen], by omega, .inr ⟨b, off, rfl, fun j hj => ?_⟩⟩, ?_⟩
      · rw [hlen] at hj
        have hg : ((List.range len).map f).getD j Deed.none = f j := by simp [List.getD, hj]
        rw [hg]
        obtain ⟨hcells, hok⟩ := hfd j hj
        have at_ (q : Nat) (hq : q < 6) : W.cell? ⟨b, off + j * 6 + q, none⟩ = (f j).cells.toList[q]? := by
          have := hcells q hq
          rwa [Go.WideShapes.add_plain, ← Nat.add_assoc] at this
        exact ⟨⟨at_ 0 (by omega), at_ 1 (by omega), at_ 2 (by omega), at_ 3 (by omega), at_ 4 (by omega), at_ 5 (by omega)⟩, hok⟩
      · rw [hlen]; unfold maxLen at hm; omega

set_option maxRecDepth 100000 in
theorem open_deed {r : Reach} {b0 : Nat} {v : Value} {d : DataW H} {p : List MemPlace} (hv : Value.okWide Try.prog W r b0 34 v) (h : DataW.Trod enc Try.prog W base (fun _ => true) held 34 v d p) :
    ∃ a : Deed, v = .agg a.cells ∧ DeedOk W a := by
  simp only [Value.okWide, Try.underlying34] at hv
  obtain ⟨cs, rfl, _⟩ := hv
  obtain ⟨fuel, hf⟩ := h
  obtain ⟨a, ha, hok⟩ := deed_of_trod hf
  refine ⟨a, ?_, hok⟩
  have : cs = a.cells := Array.toList_inj.1 (by simpa [Value.cells] using ha)
  rw [this]

set_option maxRecDepth 100000 in
theorem open_acts {r : Reach} {b0 : Nat} {v : Value} {d : DataW H} {p : List MemPlace} (hv : Value.okWide Try.prog W r b0 22 v) (h : DataW.Trod enc Try.prog W base (fun _ => true) held 22 v d p) :
    ∃ l, Acts W v l ∧ l.length ≤ 9223372036854775807 := by
  obtain ⟨a0, len0, cap0, rfl⟩ := okWide_slice Try.underlying22 hv
  obtain ⟨fuel, hf⟩ := h
  exact acts_of_trod (by simpa [Value.cells] using hf)

set_option maxRecDepth 100000 in
theorem open_two_strs {r : Reach} {b0 : Nat} {v : Value} {d : DataW H} {p : List MemPlace} (hv : Value.okWide Try.prog W r b0 53 v) (h : DataW.Trod enc Try.prog W base (fun _ => true) held 53 v d p) :
    ∃ u0 u1 l0 l1, v = .agg #[u0, u1] ∧ Strs W u0 l0 ∧ l0.length ≤ 9223372036854775807 ∧ (∀ s ∈ l0, s.size ≤ 9223372036854775807) ∧ Strs W u1 l1 ∧ l1.length ≤ 9223372036854775807 ∧ ∀ s ∈ l1, s.size ≤ 9223372036854775807 := by
  simp only [Value.okWide, Try.underlying53] at hv
  obtain ⟨cs, rfl, h2, _⟩ := hv
  obtain ⟨fuel, hf⟩ := h
  obtain ⟨xs, m, _, _, hl, hlen, hi⟩ := DataW.trod_array Try.underlying53 hf
  have hE : Try.prog.cellsOf 32 = 1 := by kernel_rfl
  have hC : Try.prog.cellsOf 53 = 2 := by kernel_rfl
  have h0 := hi 0 (by omega)
  have h1 := hi 1 (by omega)
  rw [hE] at h0 h1
  obtain ⟨l⟩ := cs
  match xs, hlen with
  | [y0, y1], _ =>
    match l, h2.trans hC with
    | [v0, v1], _ =>
      simp [Value.cells] at h0 h1
      obtain ⟨a, ea, na, sa⟩ := strs_of_trod h0
      obtain ⟨b, eb, nb, sb⟩ := strs_of_trod h1
      exact ⟨v0, v1, a, b, rfl, ea, na, sa, eb, nb, sb⟩

set_option maxRecDepth 100000 in
theorem open_two_u16 {r : Reach} {b0 : Nat} {v : Value} {d : DataW H} {p : List MemPlace} (hv : Value.okWide Try.prog W r b0 64 v) (h : DataW.Trod enc Try.prog W base (fun _ => true) held 64 v d p) :
    ∃ n0 n1 : Nat, v = .agg #[.int .u16 n0, .int .u16 n1] ∧ n0 < 65536 ∧ n1 < 65536 := by
  simp only [Value.okWide, Try.underlying64] at hv
  obtain ⟨cs, rfl, h2, _⟩ := hv
  obtain ⟨fuel, hf⟩ := h
  obtain ⟨xs, m, _, _, hl, hlen, hi⟩ := DataW.trod_array Try.underlying64 hf
  have hE : Try.prog.cellsOf 63 = 1 := by kernel_rfl
  have hC : Try.prog.cellsOf 64 = 2 := by kernel_rfl
  have h0 := hi 0 (by omega)
  have h1 := hi 1 (by omega)
  rw [hE] at h0 h1
  obtain ⟨l⟩ := cs
  match xs, hlen with
  | [y0, y1], _ =>
    match l, h2.trans hC with
    | [v0, v1], _ =>
      simp [Value.cells] at h0 h1
      obtain ⟨a, ea, _, wa⟩ := DataW.trod_int Try.underlying63 h0
      obtain ⟨b, eb, _, wb⟩ := DataW.trod_int Try.underlying63 h1
      simp at ea eb
      subst ea eb
      obtain ⟨n0, rfl, hn0⟩ := wf_u16 wa
      obtain ⟨n1, rfl, hn1⟩ := wf_u16 wb
      exact ⟨n0, n1, rfl, hn0, hn1⟩
end

end Go.Proofs.Ytikbhklmedblbaa
