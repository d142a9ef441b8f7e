/- What the arguments of the statements on caches are in memory: acts, a slice of acts, two of them, a slice of bytes. -/
import Derived.Test.YtnlhgcpmmcmknaaCDoes
import Derived.Deep.Slices
import Derived.ChangeArms
namespace Go.Proofs.Ytnlhgcpmmcmknaa
open Go.ChangeShapes Go.WideShapes Go.ChangeAt Go.RowKit Go.Deep

section
variable {H : Type} {enc : TypeId × Value → H} {W : World} {base : Nat} {held : Bool}

set_option maxRecDepth 100000 in
theorem cd_of_trod {n : Nat} {cs : List Value} {x : DataW H × List MemPlace} (h : DataW.trod enc Try.prog W base (fun _ => true) held n 42 cs = some x) :
    ∃ d : Cd, cs = d.cells.toList ∧ CdOk d := by
  obtain ⟨xs, k, _, _, hl, hxl, hf⟩ := DataW.trod_struct Try.underlying42 h
  have hc : Try.prog.cellsOf 42 = 5 := by kernel_rfl
  have c5 : Try.prog.cellsOf 5 = 1 := by kernel_rfl
  have c9 : Try.prog.cellsOf 9 = 1 := by kernel_rfl
  have c3 : Try.prog.cellsOf 3 = 1 := by kernel_rfl
  rw [hc] at hl
  have g0 := hf 0 _ rfl
  have g1 := hf 1 _ rfl
  have g2 := hf 2 _ rfl
  have g3 := hf 3 _ rfl
  have g4 := hf 4 _ rfl
  match cs, hl, xs, hxl with
  | [v0, v1, v2, v3, v4], _, [y0, y1, y2, y3, y4], _ =>
    simp [c5, c9, c3] at g0 g1 g2 g3 g4
    obtain ⟨a0, e0, _, w0⟩ := DataW.trod_int Try.underlying5 g0
    obtain ⟨s1, e1, _, w1⟩ := DataW.trod_string Try.underlying9 g1
    obtain ⟨a2, e2, _, w2⟩ := DataW.trod_int Try.underlying3 g2
    obtain ⟨s3, e3, _, w3⟩ := DataW.trod_string Try.underlying9 g3
    obtain ⟨a4, e4, _, w4⟩ := DataW.trod_int Try.underlying5 g4
    simp at e0 e1 e2 e3 e4
    obtain ⟨k0, rfl, hk0⟩ := wf_u8 w0
    obtain ⟨k4, rfl, hk4⟩ := wf_u8 w4
    have b2 := wf_i64 w2
    unfold maxLen at w1 w3
    refine ⟨⟨k0, s1, a2, s3, UInt8.ofNat k4⟩, ?_, ⟨hk0, w1, w3, b2.1, b2.2⟩⟩
    have ex : (UInt8.ofNat k4).toNat = k4 := by simp; omega
    rw [e0, e1, e2, e3, e4]
    simp [Cd.cells]
    omega

set_option maxRecDepth 100000 in
theorem cacts_of_trod {n : Nat} {v : Value} {x : DataW H × List MemPlace} (h : DataW.trod enc Try.prog W base (fun _ => true) held n 22 [v] = some x) :
    ∃ l, CActs W v l ∧ l.length ≤ 9223372036854775807 := by
  have hc : Try.prog.cellsOf 42 = 5 := by kernel_rfl
  rcases open_slice Try.underlying22 h with ⟨hcs, _⟩ | ⟨a, len, cap, m, k, D, Pl, hcs, _, hl, hm, hmm, _, hi⟩
  · simp at hcs
    subst hcs
    exact ⟨[], ⟨none, 0, rfl, Nat.le_refl _, .inl rfl⟩, by simp⟩
  · simp at hcs hmm
    subst hcs hmm
    have each : ∀ i, i < len → ∃ d : Cd, (∀ j, j < 5 → W.cell? (a.add (i * 5 + j)) = d.cells.toList[j]?) ∧ CdOk d := by
      intro i hil
      obtain ⟨cs', h1, h2⟩ := hi i (by omega)
      rw [hc] at h1
      obtain ⟨_, _, hcell⟩ := World.cells?_some h1
      obtain ⟨d, rfl, hok⟩ := cd_of_trod h2
      refine ⟨d, fun j hj => ?_, hok⟩
      have := hcell j hj
      rwa [add_add] at this
    by_cases h0 : len = 0
    · subst h0
      exact ⟨[], ⟨some a, m, rfl, by simp, .inl rfl⟩, by simp⟩
    · obtain ⟨f, hfd⟩ := @choose_lt Cd ⟨Cd.none⟩ len _ each
      have hspot : ∃ b off, a = ⟨b, off, none⟩ := by
        obtain ⟨b, off, spot⟩ := a
        have hc0 := (hfd 0 (by omega)).1 0 (by omega)
        have hc1 : W.cell? ((⟨b, off, spot⟩ : Addr).add (0 * 5 + 0)) = some (.int .u8 (f 0).kind) := hc0
        have hspot : spot = none := by simpa [Addr.add] using World.cell?_spot hc1
        subst hspot
        exact ⟨b, off, rfl⟩
      obtain ⟨b, off, rfl⟩ := hspot
      have hlen : ((List.range len).map f).length = len := by simp
      refine ⟨(List.range len).map f, ⟨_, m, by rw [hlen], by omega, .inr ⟨b, off, rfl, fun j hj => ?_⟩⟩, ?_⟩
      · rw [hlen] at hj
        have hg : ((List.range len).map f).getD j Cd.none = f j := by simp [List.getD, hj]
        rw [hg]
        obtain ⟨hcells, hok⟩ := hfd j hj
        have atq (q : Nat) (hq : q < 5) : W.cell? ⟨b, off + j * 5 + q, none⟩ = (f j).cells.toList[q]? := by
          have := hcells q hq
          rwa [Go.WideShapes.add_plain, ← Nat.add_assoc] at this
        exact ⟨⟨atq 0 (by omega), atq 1 (by omega), atq 2 (by omega), atq 3 (by omega), atq 4 (by omega)⟩, hok⟩
      · rw [hlen]; unfold maxLen at hm; omega

set_option maxRecDepth 100000 in
theorem open_cd {r : Reach} {b0 : Nat} {v : Value} {d : DataW H} {p : List MemPlace} (hv : Value.okWide Try.prog W r b0 42 v) (h : DataW.Trod enc Try.prog W base (fun _ => true) held 42 v d p) :
    ∃ a : Cd, v = .agg a.cells ∧ CdOk a := by
  simp only [Value.okWide, Try.underlying42] at hv
  obtain ⟨cs, rfl, _⟩ := hv
  obtain ⟨fuel, hf⟩ := h
  obtain ⟨a, ha, hok⟩ := cd_of_trod hf
  refine ⟨a, ?_, hok⟩
  have : cs = a.cells := Array.toList_inj.1 (by simpa [Value.cells] using ha)
  rw [this]

set_option maxRecDepth 100000 in
theorem open_cacts {r : Reach} {b0 : Nat} {v : Value} {d : DataW H} {p : List MemPlace} (hv : Value.okWide Try.prog W r b0 22 v) (h : DataW.Trod enc Try.prog W base (fun _ => true) held 22 v d p) :
    ∃ l, CActs W v l ∧ l.length ≤ 9223372036854775807 := by
  obtain ⟨a0, len0, cap0, rfl⟩ := okWide_slice Try.underlying22 hv
  obtain ⟨fuel, hf⟩ := h
  exact cacts_of_trod (by simpa [Value.cells] using hf)

set_option maxRecDepth 100000 in
theorem open_two_cacts {r : Reach} {b0 : Nat} {v : Value} {d : DataW H} {p : List MemPlace} (hv : Value.okWide Try.prog W r b0 65 v) (h : DataW.Trod enc Try.prog W base (fun _ => true) held 65 v d p) :
    ∃ u0 u1 l0 l1, v = .agg #[u0, u1] ∧ CActs W u0 l0 ∧ l0.length ≤ 9223372036854775807 ∧ CActs W u1 l1 ∧ l1.length ≤ 9223372036854775807 := by
  simp only [Value.okWide, Try.underlying65] at hv
  obtain ⟨cs, rfl, h2, _⟩ := hv
  obtain ⟨fuel, hf⟩ := h
  obtain ⟨xs, m, _, _, hl, hlen, hi⟩ := DataW.trod_array Try.underlying65 hf
  have hE : Try.prog.cellsOf 22 = 1 := by kernel_rfl
  have hC : Try.prog.cellsOf 65 = 2 := by kernel_rfl
  have h0 := hi 0 (by omega)
  have h1 := hi 1 (by omega)
  rw [hE] at h0 h1
  obtain ⟨l⟩ := cs
  match xs, hlen with
  | [y0, y1], _ =>
    match l, h2.trans hC with
    | [v0, v1], _ =>
      simp [Value.cells] at h0 h1
      obtain ⟨a, ea, na⟩ := cacts_of_trod h0
      obtain ⟨b, eb, nb⟩ := cacts_of_trod h1
      exact ⟨v0, v1, a, b, rfl, ea, na, eb, nb⟩

/-- The slice v holds the bytes l. -/
def Bts (W : World) (v : Value) (l : List UInt8) : Prop :=
  ∃ a cap, v = .slice a l.length cap ∧ l.length ≤ cap ∧ (l = [] ∨ ∃ b off, a = some ⟨b, off, none⟩ ∧ ∀ j, j < l.length → W.cell? ⟨b, off + j, none⟩ = some (.int .u8 (l.getD j 0).toNat))

set_option maxRecDepth 100000 in
theorem open_bts {r : Reach} {b0 : Nat} {v : Value} {d : DataW H} {p : List MemPlace} (hv : Value.okWide Try.prog W r b0 68 v) (h : DataW.Trod enc Try.prog W base (fun _ => true) held 68 v d p) :
    ∃ l, Bts W v l ∧ l.length ≤ 9223372036854775807 := by
  obtain ⟨a0, len0, cap0, rfl⟩ := okWide_slice Try.underlying68 hv
  obtain ⟨fuel, hf⟩ := h
  rcases open_ints Try.underlying68 Try.underlying5 (by kernel_rfl) hf with ⟨hcs, _⟩ | ⟨x, l, c, zs, hcs, _, hl, hm, hz, _, hcell, hwz⟩
  · simp [Value.cells] at hcs
    obtain ⟨rfl, rfl, rfl⟩ := hcs
    exact ⟨[], ⟨none, 0, rfl, Nat.le_refl _, .inl rfl⟩, by simp⟩
  · simp [Value.cells] at hcs
    obtain ⟨rfl, rfl, rfl⟩ := hcs
    have hzl : zs.length = cap0 := by simpa using hz
    have hlen : ((zs.take len0).map fun z => UInt8.ofNat z.toNat).length = len0 := by simp; omega
    refine ⟨(zs.take len0).map fun z => UInt8.ofNat z.toNat, ⟨_, cap0, by rw [hlen], by omega, ?_⟩, by unfold maxLen at hm; omega⟩
    by_cases h0 : len0 = 0
    · left; subst h0; simp
    · obtain ⟨b, off, spot⟩ := x
      have hc0 := hcell 0 (by omega)
      have hspot : spot = none := by simpa [Addr.add] using World.cell?_spot hc0
      subst hspot
      refine .inr ⟨b, off, rfl, fun j hj => ?_⟩
      rw [hlen] at hj
      have hcj := hcell j (by omega)
      rw [Go.WideShapes.add_plain] at hcj
      rw [hcj]
      have hwj := hwz (zs.getD j 0) (by rw [List.getD_eq_getElem?_getD, List.getElem?_eq_getElem (by omega)]; exact List.getElem_mem _)
      obtain ⟨k, hk, hk2⟩ := wf_u8 hwj
      have e : (((zs.take len0).map fun z => UInt8.ofNat z.toNat).getD j 0) = UInt8.ofNat (zs.getD j 0).toNat := by
        simp [List.getD, hj, List.getElem?_eq_getElem (show j < zs.length by omega)]
      rw [e, hk]
      simp
      omega
end

end Go.Proofs.Ytnlhgcpmmcmknaa
