/- What the arguments of the statements on caches are in memory: acts, a slice of acts, two of them, a slice of bytes. -/
import Derived.Test.YtnlhgcpmmcmknabCDoes
import Derived.Deep.Slices
import Derived.ChangeArms
namespace Go.Proofs.Ytnlhgcpmmcmknab
open Go.ChangeShapes Go.WideShapes Go.ChangeAt Go.RowKit Go.Deep

section
variable {H : Type} {enc : TypeId × Value → H} {W : World} {base : Nat} {held : Bool}

set_option maxRecDepth 100000 in
theorem cd_of_trod {n : Nat} {cs : List Value} {x : DataW H × List MemPlace} (h : DataW.trod enc Try.prog W base (fun _ => true) held n 31 cs = some x) :
    ∃ d : Cd, cs = d.cells.toList ∧ CdOk d := by
  obtain ⟨xs, k, _, _, hl, hxl, hf⟩ := DataW.trod_struct Try.underlying31 h
  have hc : Try.prog.cellsOf 31 = 5 := by kernel_rfl
  have c5 : Try.prog.cellsOf 5 = 1 := by kernel_rfl
  have c9 : Try.prog.cellsOf 9 = 1 := by kernel_rfl
  have c3 : Try.prog.cellsOf 3 = 1 := by kernel_rfl
  rw [hc] at hl
  have g0 := hf 0 _ rfl
  have g1 := hf 1 _ rfl
  have g2 := hf 2 _ rfl
  have g3 := hf 3 _ rfl
  have g4 := hf 4 _ rfl
  match cs, hl, xs, hxl with
  | [v0, v1, v2, v3, v4], _, [y0, y1, y2, y3, y4], _ =>
    simp [c5, c9, c3] at g0 g1 g2 g3 g4
    obtain ⟨a0, e0, _, w0⟩ := DataW.trod_int Try.underlying5 g0
    obtain ⟨s1, e1, _, w1⟩ := DataW.trod_string Try.underlying9 g1
    obtain ⟨a2, e2, _, w2⟩ := DataW.trod_int Try.underlying3 g2
    obtain ⟨s3, e3, _, w3⟩ := DataW.trod_string Try.underlying9 g3
    obtain ⟨a4, e4, _, w4⟩ := DataW.trod_int Try.underlying5 g4
    simp at e0 e1 e2 e3 e4
    obtain ⟨k0, rfl, hk0⟩ := wf_u8 w0
    obtain ⟨k4, rfl, hk4⟩ := wf_u8 w4
    have b2 := wf_i64 w2
    unfold maxLen at w1 w3
    refine ⟨⟨k0, s1, a2, s3, UInt8.ofNat k4⟩, ?_, ⟨hk0, w1, w3, b2.1, b2.2⟩⟩
    have ex : (UInt8.ofNat k4).toNat = k4 := by simp; omega
    rw [e0, e1, e2, e3, e4]
    simp [Cd.cells]
    omega

set_option maxRecDepth 100000 in
theorem cacts_of_trod {n : Nat} {v : Value} {x : DataW H × List MemPlace} (h : DataW.trod enc Try.prog W base (fun _ => true) held n 22 [v] = some x) :
    ∃ l, CActs W v l ∧ l.length ≤ 9223372036854775807 := by
  have hc : Try.prog.cellsOf 31 = 5 := by kernel_rfl
  rcases open_slice Try.underlying22 h with ⟨hcs, _⟩ | ⟨a, len, cap, m, k, D, Pl, hcs, _, hl, hm, hmm, _, hi⟩
  · simp at hcs
    subst hcs
    exact ⟨[], ⟨none, 0, rfl, Nat.le_refl _, .inl rfl⟩, by simp⟩
  · simp at hcs hmm
    subst hcs hmm
    have each : ∀ i, i < len → ∃ d : Cd, (∀ j, j < 5 → W.cell? (a.add (i * 5 + j)) = d.cells.toList[j]?) ∧ CdOk d := by
      intro i hil
      obtain ⟨cs', h1, h2⟩ := hi i (by omega)
      rw [hc] at h1
      obtain ⟨_, _, hcell⟩ := World.cells?_some h1
      obtain ⟨d, rfl, hok⟩ := cd_of_trod h2
      refine ⟨d, fun j hj => ?_, hok⟩
      have := hcell j hj
      rwa [add_add] at this
    by_cases h0 : len = 0
    · subst h0
      exact ⟨[], ⟨some a, m, rfl, by simp, .inl rfl⟩, by simp⟩
    · obtain ⟨f, hfd⟩ := @choose_lt Cd ⟨Cd.none⟩ len _ each
      have hspot : ∃ b off, a = ⟨b, off, none⟩ := by
        obtain ⟨b, off, spot⟩ := a
        have hc0 := (hfd 0 (by omega)).1 0 (by omega)
        have hc1 : W.cell? ((⟨b, off, spot⟩ : Addr).add (0 * 5 + 0)) = some (.int .u8 (f 0).kind) := hc0
        have hspot : spot = none := by simpa [Addr.add] using World.cell?_spot hc1
        subst hspot
        exact ⟨b, off, rfl⟩
      obtain ⟨b, off, rfl⟩ := hspot
      have hlen : ((List.range len).map f).length = len := by simp
      refine ⟨(List.range len).map f, ⟨_, m, by rw [hlen], by omega, .inr ⟨b, off, rfl, fun j hj => ?_⟩⟩, ?_⟩
      · rw [hlen] at hj
        have hg : ((List.range len).map f).getD j Cd.none = f j := by simp [List.getD, hj]
        rw [hg]
        obtain ⟨hcells, hok⟩ := hfd j hj
        have atq (q : Nat) (hq : q < 5) : W.cell? ⟨b, off + j * 5 + q, none⟩ = (f j).cells.toList[q]? := by
          have := hcells q hq
          rwa [Go.WideShapes.add_plain, ← Nat.add_assoc] at this
        exact ⟨⟨atq 0 (by omega), atq 1 (by omega), atq 2 (by omega), atq 3 (by omega), atq 4 (by omega)⟩, hok⟩
      · rw [hlen]; unfold maxLen at hm; omega

set_option maxRecDepth 100000 in
theorem open_cd {r : Reach} {b0 : Nat} {v : Value} {d : DataW H} {p : List MemPlace} (hv : Value.okWide Try.prog W r b0 31 v) (h : DataW.Trod enc Try.prog W base (fun _ => true) held 31 v d p) :
    ∃ a : Cd, v = .agg a.cells ∧ CdOk a := by
  simp only [Value.okWide, Try.underlying31] at hv
  obtain ⟨cs, rfl, _⟩ := hv
  obtain ⟨fuel, hf⟩ := h
  obtain ⟨a, ha, hok⟩ := cd_of_trod hf
  refine ⟨a, ?_, hok⟩
  have : cs = a.cells := Array.toList_inj.1 (by simpa [Value.cells] using ha)
  rw [this]

set_option maxRecDepth 100000 in
theorem open_cacts {r : Reach} {b0 : Nat} {v : Value} {d : DataW H} {p : List MemPlace} (hv : Value.okWide Try.prog W r b0 22 v) (h : DataW.Trod enc Try.prog W base (fun _ => true) held 22 v d p) :
    ∃ l, CActs W v l ∧ l.length ≤ 9223372036854775807 := by
  obtain ⟨a0, len0, cap0, rfl⟩ := okWide_slice Try.underlying22 hv
  obtain ⟨fuel, hf⟩ := h
  exact cacts_of_trod (by simpa [Value.cells] using hf)


/-- The slice v holds the bytes l. -/
def Bts (W : World) (v : Value) (l : List UInt8) : Prop :=
  ∃ a cap, v = .slice a l.length cap ∧ l.length ≤ cap ∧ (l = [] ∨ ∃ b off, a = some ⟨b, off, none⟩ ∧ ∀ j, j < l.length → W.cell? ⟨b, off + j, none⟩ = some (.int .u8 (l.getD j 0).toNat))

end

end Go.Proofs.Ytnlhgcpmmcmknab
