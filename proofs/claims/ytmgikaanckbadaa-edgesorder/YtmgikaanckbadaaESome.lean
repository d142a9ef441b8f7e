/- The walk of the statements' helper Some: edges among n vertices, by pairs of numbers. -/
import Derived.Test.YtmgikaanckbadaaEDoes
namespace Go.Proofs.Ytmgikaanckbadaa
open Go.RowKit Go.Shelf Go.Sort Go.Lib

/-- The slice v holds the pairs of bytes l. -/
def Prs (W : World) (v : Value) (l : List (Nat × Nat)) : Prop :=
  ∃ a cap, v = .slice a l.length cap ∧ l.length ≤ cap ∧ (l = [] ∨ ∃ b off, a = some ⟨b, off, none⟩ ∧ ∀ j, j < l.length → W.cell? ⟨b, off + j * 2, none⟩ = some (.int .u8 (l.getD j (0, 0)).1) ∧ W.cell? ⟨b, off + j * 2 + 1, none⟩ = some (.int .u8 (l.getD j (0, 0)).2))
def Small (l : List (Nat × Nat)) : Prop := ∀ p ∈ l, p.1 < 256 ∧ p.2 < 256

theorem Prs.later {w w' : World} {v : Value} {l : List (Nat × Nat)} (h : Prs w v l) (hb : Below w.heap.size w w') : Prs w' v l := by
  obtain ⟨a, cap, rfl, hc, h⟩ := h
  refine ⟨a, cap, rfl, hc, ?_⟩
  rcases h with h | ⟨b, off, rfl, h⟩
  · exact .inl h
  · exact .inr ⟨b, off, rfl, fun j hj => ⟨cell_after hb (h j hj).1, cell_after hb (h j hj).2⟩⟩

/-- An edge by a pair of numbers. -/
def edgeOf (n : Nat) (p : Nat × Nat) : Int × Int := ((p.1 % n : Nat), if p.1 % n ≤ p.2 % (n - 1) then (p.2 % (n - 1) + 1 : Nat) else (p.2 % (n - 1) : Nat))
def someE (n : Nat) (l : List (Nat × Nat)) : List (Int × Int) := l.map (edgeOf n)
theorem someE_len (n : Nat) (l : List (Nat × Nat)) : (someE n l).length = l.length := by simp [someE]

theorem edgeOf_ok {n : Nat} (h : 2 ≤ n) (p : Nat × Nat) : ∃ a b : Nat, edgeOf n p = ((a : Int), (b : Int)) ∧ a < n ∧ b < n ∧ a ≠ b := by
  have h1 : p.1 % n < n := Nat.mod_lt _ (by omega)
  have h2 : p.2 % (n - 1) < n - 1 := Nat.mod_lt _ (by omega)
  unfold edgeOf
  by_cases c : p.1 % n ≤ p.2 % (n - 1)
  · rw [if_pos c]; exact ⟨_, _, rfl, h1, by omega, by omega⟩
  · rw [if_neg c]; exact ⟨_, _, rfl, h1, by omega, by omega⟩
theorem some_ok {n : Nat} (h : 2 ≤ n) {l : List (Nat × Nat)} : ∀ x ∈ someE n l, ∃ a b : Nat, x = ((a : Int), (b : Int)) ∧ a < n ∧ b < n ∧ a ≠ b := by
  intro x hx
  obtain ⟨p, _, rfl⟩ := List.mem_map.1 hx
  exact edgeOf_ok h p
theorem some_good {n : Nat} (h : 2 ≤ n) (l : List (Nat × Nat)) : (someE n l).any (Ed.bad n) = false := by
  rw [List.any_eq_false]
  intro x hx
  obtain ⟨a, b, rfl, h1, h2, h3⟩ := some_ok h x hx
  simp [Ed.bad, Ed.vert]
  omega

theorem take_succ_p (l : List (Nat × Nat)) (k : Nat) (h : k < l.length) : l.take (k + 1) = l.take k ++ [l.getD k (0, 0)] := by
  rw [List.take_add_one, List.getElem?_eq_getElem h]
  simp [List.getD, h]

theorem cell_two_new (w : World) (x y : Value) (t : TypeId) : ∀ j u, [x, y][j]? = some u → (w.alloc (.cells #[x, y] t)).cell? ((⟨w.heap.size, 0, none⟩ : Addr).add j) = some u := by
  intro j u hj
  rw [Addr.add_lit]
  match j, hj with
  | 0, hj => simp at hj; subst hj; simp
  | 1, hj => simp at hj; subst hj; simp

/-- An edge more behind a row of the call's own. -/
theorem ecells_snoc (l : List (Int × Int)) (x : Int × Int) : ecells l ++ [.int .i64 x.1, .int .i64 x.2] = ecells (l ++ [x]) := by
  rw [ecells_app]; rfl

set_option maxHeartbeats 2000000 in
set_option maxRecDepth 100000 in
theorem some_any (n : Nat) (v : Value) (l : List (Nat × Nat)) (w : World) (h2 : 2 ≤ n) (hn : n ≤ 256) (h : Prs w v l) (hs : Small l) (hl : l.length ≤ 1000000) :
    Calls Try.prog 19 #[.int .i64 n, v] w fun e w' => ∃ u, e = .returned u ∧ w'.ownsRow w.heap.size 24 2 u l.length (ecells (someE n l)) ∧ Below w.heap.size w w' := by
  obtain ⟨i0, hi0, hz0, hz1, hz2⟩ := info_parts Try.edgeInfo
  obtain ⟨a, cap, rfl, _, h⟩ := h
  have HE : Hid _ := h
  have HS : Hid (Small l) := hs
  clear h hs
  go_enter Try.func19, Try.ntmps19
  go_wp2
  go_loopw [5, 6] (fun u i wr => ∃ k : Nat, k ≤ l.length ∧ i = .int .i64 k ∧ Hid (wr.ownsRow w.heap.size 24 2 u k (ecells (someE n (l.take k)))) ∧ Hid (Below w.heap.size w wr)) (fun _ i _ => l.length - (intOf i).toNat)
  case atStart => exact ⟨0, Nat.zero_le _, rfl, World.ownsRow_nil _ _ _ _, Below.refl _ _⟩
  case round =>
    obtain ⟨k, hk, rfl, HO, HB⟩ := hrel
    by_cases hlt : k < l.length
    · obtain ⟨b, off, rfl, hc⟩ := HE.out.resolve_left (by rintro rfl; simp at hlt)
      have c1 := cell_after HB.out (hc k hlt).1
      have c2 := cell_after HB.out (hc k hlt).2
      clear hc
      have HT : Hid (someE n (l.take (k + 1)) = someE n (l.take k) ++ [edgeOf n (l.getD k (0, 0))]) := by rw [Hid, take_succ_p l k hlt]; simp [someE]
      have hsm : (l.getD k (0, 0)).1 < 256 ∧ (l.getD k (0, 0)).2 < 256 := HS.out _ (by rw [List.getD_eq_getElem?_getD, List.getElem?_eq_getElem hlt]; exact List.getElem_mem hlt)
      generalize l.getD k (0, 0) = p at *
      obtain ⟨x, y⟩ := p
      dsimp only at c1 c2 hsm HT
      have hf : (x : Int) % n = ((x % n : Nat) : Int) := by omega
      have ht : (y : Int) % ((n : Int) - 1) = ((y % (n - 1) : Nat) : Int) := by
        rw [show ((n : Int) - 1) = ((n - 1 : Nat) : Int) by omega]; omega
      have HE2 : Hid (edgeOf n (x, y) = (((x % n : Nat) : Int), if x % n ≤ y % (n - 1) then ((y % (n - 1) + 1 : Nat) : Int) else ((y % (n - 1) : Nat) : Int))) := rfl
      have hfl : x % n < n := Nat.mod_lt _ (by omega)
      have htl : y % (n - 1) < n - 1 := Nat.mod_lt _ (by omega)
      generalize x % n = f at *
      generalize y % (n - 1) = t at *
      by_cases hft : f ≤ t
      · have HX : Hid (edgeOf n (x, y) = ((f : Int), (t : Int) + 1)) := by rw [Hid, HE2.out, if_pos hft]; simp
        clear HE2
        go_wp2_with (at_builtin; refine wpList_append_own _ rfl _ _ 22 rfl w.heap.size 24 i0 (.agg #[.int .i64 0, .int .i64 0]) 2 16 Try.underlying22 hi0 hz0 hz1 hz2 rfl (by decide) _ _ _ rfl (HO.out.alloc _) ⟨wr.heap.size, 0, none⟩ 1 1 [.int .i64 f, .int .i64 ((t : Int) + 1)] rfl rfl (cell_two_new _ _ _ _) (by simp [Value.oneCell']) (by unfold maxLen; omega) (by omega) (by have := HB.out.size; simp; omega) ?_; intro v' w1 hown1 hgrow1 _)
        have HO1 : Hid (w1.ownsRow w.heap.size 24 2 v' (k + 1) (ecells (someE n (l.take (k + 1))))) := by rw [Hid, HT.out, HX.out, ← ecells_snoc]; exact hown1
        have HB1 : Hid (Below w.heap.size w w1) := (HB.out.alloc HB.out.size _).grown hgrow1 (by have := HB.out.size; simp; omega) (fun q e => (HO.out.lt q e).1)
        clear hown1 hgrow1
        go_roundw
        case rel => exact ⟨k + 1, by omega, by go_num, HO1, HB1⟩
        case measure => simp [intOf]; omega
      · have HX : Hid (edgeOf n (x, y) = ((f : Int), (t : Int))) := by rw [Hid, HE2.out, if_neg hft]
        clear HE2
        go_wp2_with (at_builtin; refine wpList_append_own _ rfl _ _ 22 rfl w.heap.size 24 i0 (.agg #[.int .i64 0, .int .i64 0]) 2 16 Try.underlying22 hi0 hz0 hz1 hz2 rfl (by decide) _ _ _ rfl (HO.out.alloc _) ⟨wr.heap.size, 0, none⟩ 1 1 [.int .i64 f, .int .i64 (t : Int)] rfl rfl (cell_two_new _ _ _ _) (by simp [Value.oneCell']) (by unfold maxLen; omega) (by omega) (by have := HB.out.size; simp; omega) ?_; intro v' w1 hown1 hgrow1 _)
        have HO1 : Hid (w1.ownsRow w.heap.size 24 2 v' (k + 1) (ecells (someE n (l.take (k + 1))))) := by rw [Hid, HT.out, HX.out, ← ecells_snoc]; exact hown1
        have HB1 : Hid (Below w.heap.size w w1) := (HB.out.alloc HB.out.size _).grown hgrow1 (by have := HB.out.size; simp; omega) (fun q e => (HO.out.lt q e).1)
        clear hown1 hgrow1
        go_roundw
        case rel => exact ⟨k + 1, by omega, by go_num, HO1, HB1⟩
        case measure => simp [intOf]; omega
    · obtain rfl : k = l.length := by omega
      have HO1 : Hid (wr.ownsRow w.heap.size 24 2 u5 l.length (ecells (someE n l))) := by
        have h := HO.out
        rwa [List.take_length] at h
      go_wp2
      go_ret
      exact ⟨_, rfl, HO1.out, HB.out⟩

end Go.Proofs.Ytmgikaanckbadaa
