/- Slices of slices of ints, and shards, in memory; the walks of the statements' helpers Great and Same. -/
import Derived.Test.YtbhngncnhabbkabARow
namespace Go.Proofs.Ytbhngncnhabbkab
open Go.RowKit

/-- The slice v holds the lists o. -/
def Lists (W : World) (v : Value) (o : List (List Int)) : Prop :=
  ∃ a cap, v = .slice a o.length cap ∧ o.length ≤ cap ∧ (o = [] ∨ ∃ b off, a = some ⟨b, off, none⟩ ∧ ∀ j, j < o.length → ∃ x, W.cell? ⟨b, off + j, none⟩ = some x ∧ Ints W x (o.getD j []))
/-- The cells of a shard whose lists the slice v holds. -/
def scells (s : Sh.Shard) (v : Value) : Array Value := #[.int .i64 s.1.1, .int .i64 s.1.2, v]
/-- The shard s. -/
def Shd (W : World) (u : Value) (s : Sh.Shard) : Prop := ∃ v, u = .agg (scells s v) ∧ Lists W v s.2
/-- Lists that are no greater than a million. -/
def FitS (o : List (List Int)) : Prop := o.length ≤ 1000000 ∧ ∀ l ∈ o, l.length ≤ 1000000 ∧ Gp.Fit l

theorem Lists.later {w w' : World} {v : Value} {o : List (List Int)} (h : Lists w v o) (hb : Below w.heap.size w w') : Lists w' v o := by
  obtain ⟨a, cap, rfl, hc, h⟩ := h
  refine ⟨a, cap, rfl, hc, ?_⟩
  rcases h with h | ⟨b, off, rfl, h⟩
  · exact .inl h
  · refine .inr ⟨b, off, rfl, fun j hj => ?_⟩
    obtain ⟨x, hx, hi⟩ := h j hj
    exact ⟨x, cell_after hb hx, hi.later hb⟩
theorem Shd.later {w w' : World} {u : Value} {s : Sh.Shard} (h : Shd w u s) (hb : Below w.heap.size w w') : Shd w' u s := by
  obtain ⟨v, rfl, h⟩ := h
  exact ⟨v, rfl, h.later hb⟩
theorem Lists.hid {w w' : World} {v : Value} {o : List (List Int)} (h : Hid (Lists w v o)) (hb : Below w.heap.size w w') : Hid (Lists w' v o) := h.out.later hb
theorem Shd.hid {w w' : World} {u : Value} {s : Sh.Shard} (h : Hid (Shd w u s)) (hb : Below w.heap.size w w') : Hid (Shd w' u s) := h.out.later hb
theorem lists_nil (W : World) : Lists W (.slice none 0 0) [] := ⟨none, 0, rfl, Nat.le_refl _, .inl rfl⟩
theorem getD_mem_o {o : List (List Int)} {k : Nat} (h : k < o.length) : o.getD k [] ∈ o := by
  rw [List.getD_eq_getElem?_getD, List.getElem?_eq_getElem h]; exact List.getElem_mem h
/-- What lies at place k: a slice of so many ints. -/
theorem Lists.at_ {W : World} {a : Option Addr} {n cap : Nat} {o : List (List Int)} (h : Lists W (.slice a n cap) o) {k : Nat} (hk : k < o.length) :
    ∃ b off, a = some ⟨b, off, none⟩ ∧ ∃ x, W.cell? ⟨b, off + k, none⟩ = some x ∧ Ints W x (o.getD k []) := by
  obtain ⟨a', cap', e, _, h⟩ := h
  simp only [Value.slice.injEq] at e
  obtain ⟨rfl, _, _⟩ := e
  rcases h with rfl | ⟨b, off, rfl, h⟩
  · simp at hk
  · exact ⟨b, off, rfl, h k hk⟩
theorem many_step {o : List (List Int)} {k : Nat} (h : k < o.length) : Sh.many (o.take (k + 1)) = Sh.many (o.take k) + (o.getD k []).length := Sh.many_take o k h

theorem own_later {w w' : World} {base e size n : Nat} {v : Value} {xs : List Value} (h : w.ownsRow base e size v n xs) (hb : Below w.heap.size w w') : w'.ownsRow base e size v n xs :=
  h.kept ⟨hb.os, hb.tape, hb.output, hb.size, fun k hk _ => hb.block k hk⟩ (row := none) (by cases v.ownBlock <;> simp)

/-- Is it no more than is gone through? -/
def Less (o : List (List Int)) : Prop := o.length ≤ 300 ∧ Sh.many o ≤ 5000 ∧ ∀ l ∈ o, l.length ≤ 300
/-- What Great tells. -/
def gr (o : List (List Int)) : Bool := !(decide (o.length ≤ 300) && decide (Sh.many o ≤ 5000) && o.all fun l => decide (l.length ≤ 300))
theorem gr_iff {o : List (List Int)} : gr o = false ↔ Less o := by
  unfold gr Less
  simp [and_assoc]
theorem many_mono {o : List (List Int)} (k : Nat) : Sh.many (o.take k) ≤ Sh.many o := by
  have e : Sh.many o = Sh.many (o.take k) + Sh.many (o.drop k) := by
    conv => lhs; rw [← List.take_append_drop k o]
    unfold Sh.many
    rw [List.map_append, List.sum_append]
  omega

set_option maxHeartbeats 400000 in
set_option maxRecDepth 100000 in
theorem great_any (s : Sh.Shard) (v : Value) (w : World) (h : Lists w v s.2) (hl : s.2.length ≤ 9223372036854775807) (hll : ∀ l ∈ s.2, l.length ≤ 9223372036854775807) :
    Calls Try.prog 4 #[.agg (scells s v)] w fun e w' => e = .returned (.bool (gr s.2)) ∧ Below w.heap.size w w' := by
  obtain ⟨⟨p1, p2⟩, o⟩ := s
  unfold scells
  dsimp only at h hl hll ⊢
  obtain ⟨a, cap, rfl, hcap, _⟩ := id h
  obtain ⟨wa, hwa⟩ : ∃ wa, w.alloc (.cells #[.int .i64 p1, .int .i64 p2, .slice a o.length cap] 26) = wa := ⟨_, rfl⟩
  have c3 : wa.cell? ⟨w.heap.size, 2, none⟩ = some (.slice a o.length cap) := by rw [← hwa]; simp
  have hba : Hid (Below w.heap.size w wa) := by rw [← hwa]; exact (Below.refl _ w).alloc (Nat.le_refl _) _
  have HL : Hid (Lists wa (.slice a o.length cap) o) := h.later hba.out
  have HLL : Hid (∀ l ∈ o, l.length ≤ 9223372036854775807) := hll
  have HGT : Hid (¬ Less o → gr o = true) := fun h => by
    cases hg : gr o with
    | true => rfl
    | false => exact absurd (gr_iff.1 hg) h
  have HGF : Hid (Less o → gr o = false) := fun h => gr_iff.2 h
  generalize gr o = r at *
  clear h hll
  go_enter Try.func4, Try.ntmps4
  go_wp2
  go_loopw [3, 4] (fun m i wr => ∃ k : Nat, k ≤ o.length ∧ i = .int .i64 k ∧ m = .int .i64 (Sh.many (o.take k)) ∧ Sh.many (o.take k) ≤ 5000 ∧ Hid (∀ j, j < k → (o.getD j []).length ≤ 300) ∧ wr = wa) (fun _ i _ => o.length - (intOf i).toNat)
  case atStart => exact ⟨0, Nat.zero_le _, rfl, rfl, by simp [Sh.many], fun j hj => by omega, rfl⟩
  case round =>
    obtain ⟨k, hk, rfl, rfl, hm, HJ, rfl⟩ := hrel
    by_cases hlt : k < o.length
    · obtain ⟨b, off, rfl, x, hx, hi⟩ := HL.out.at_ hlt
      obtain ⟨ax, cx, rfl, _⟩ := hi
      have hxl := HLL.out _ (getD_mem_o hlt)
      have HM : Hid (Sh.many (o.take (k + 1)) = Sh.many (o.take k) + (o.getD k []).length) := many_step hlt
      have HJ2 : Hid ((o.getD k []).length ≤ 300 → ∀ j, j < k + 1 → (o.getD j []).length ≤ 300) := fun h j hj => by
        by_cases e : j = k
        · rw [e]; exact h
        · exact HJ.out j (by omega)
      have HMM : Hid (Sh.many (o.take (k + 1)) ≤ Sh.many o) := many_mono _
      have HNN : Hid (Less o → (o.getD k []).length ≤ 300) := fun hh => hh.2.2 _ (getD_mem_o hlt)
      generalize (o.getD k []).length = n at *
      generalize Sh.many (o.take k) = m at *
      by_cases h3 : n ≤ 300
      · by_cases h5 : m + n ≤ 5000
        · go_wp2
          go_roundw
          case rel => exact ⟨k + 1, by omega, by go_num, by rw [HM.out]; go_num, by rw [HM.out]; exact h5, HJ2.out h3, trivial⟩
          case measure => simp [intOf]; omega
        · have HR : Hid (r = true) := HGT.out fun hh => by have := HMM.out; have := HM.out; have := hh.2.1; omega
          go_wp2
          go_ret
          exact ⟨ret_bool HR.out.symm, hba.out⟩
      · have HR : Hid (r = true) := HGT.out fun hh => h3 (HNN.out hh)
        go_wp2
        go_ret
        exact ⟨ret_bool HR.out.symm, hba.out⟩
    · obtain rfl : k = o.length := by omega
      rw [List.take_length] at hm
      have HS : Hid (o.length ≤ 300 → r = false) := fun h => HGF.out ⟨h, hm, fun l hl => by
        obtain ⟨j, hj, rfl⟩ := List.mem_iff_getElem.1 hl
        have := HJ.out j hj
        simpa [List.getD, hj] using this⟩
      clear hm
      generalize Sh.many (o.take o.length) = m at *
      by_cases h3 : o.length ≤ 300
      · have HR : Hid (r = false) := HS.out h3
        have hd : decide ((300 : Int) < o.length) = false := by simp; omega
        go_wp2
        go_ret
        exact ⟨ret_bool HR.out.symm, hba.out⟩
      · have HR : Hid (r = true) := HGT.out fun hh => h3 hh.1
        have hd : decide ((300 : Int) < o.length) = true := by simp; omega
        go_wp2
        go_ret
        exact ⟨ret_bool HR.out.symm, hba.out⟩

end Go.Proofs.Ytbhngncnhabbkab
