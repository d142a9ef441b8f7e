/- The walk of gaps.Decode: for every string and place it tells the list whose bytes stand there and the place behind them, or ErrForm; nothing that was in memory has changed. -/
import Derived.Test.YtmekaofjcjmklaaGDec
import Derived.Maps.AppendAt
namespace Go.Proofs.Ytmekaofjcjmklaa
open Go.RowKit Go.Shelf
attribute [local go_sem] Oper.semAt_some

/-- What Decode tells, as values. -/
def Told (W : World) (o : Option (List Int × Int)) (v : Value) (n er : Int) : Prop :=
  match o with
  | none => v = .slice none 0 0 ∧ n = 0 ∧ er = 10
  | some (l, x) => Ints W v l ∧ n = x ∧ er = 0

/-- The same, the list in a row that begins at block B or later. -/
def ToldO (B : Nat) (W : World) (o : Option (List Int × Int)) (v : Value) (n er : Int) : Prop :=
  match o with
  | none => v = .slice none 0 0 ∧ n = 0 ∧ er = 10
  | some (l, x) => (∃ m, W.ownsRow B 3 1 v m (l.map (Value.int .i64))) ∧ n = x ∧ er = 0
theorem ToldO.told {B : Nat} {W : World} {o : Option (List Int × Int)} {v : Value} {n er : Int} (h : ToldO B W o v n er) : Told W o v n er := by
  match o, h with
  | none, h => exact h
  | some (l, x), ⟨⟨_, h⟩, h2, h3⟩ => exact ⟨Ints.of_own h, h2, h3⟩
theorem own_from {w : World} {B B' e size n : Nat} {v : Value} {xs : List Value} (h : w.ownsRow B e size v n xs) (hb : B' ≤ B) : w.ownsRow B' e size v n xs := by
  refine ⟨h.1, ?_⟩
  rcases h.2 with h | ⟨g, cap, cur, hv, hg, h⟩
  · exact .inl h
  · exact .inr ⟨g, cap, cur, hv, Nat.le_trans hb hg, h⟩

theorem Try.intInfo : (Try.prog.info? 3).map (fun i => (i.zero, i.size, i.bytes)) = some (some (.int .i64 0), 1, 8) := by kernel_rfl

theorem boxed_kept {W W' : World} {row : Option Nat} {B : Nat} {t : TypeId} {v : Value} (h : Boxed W B t v) (hg : W.grownBy W' row) (hr : ∀ r, row = some r → ∃ o : Obj, W.heap[r]? = some o ∧ o.isCells = false) : Boxed W' B t v :=
  h.kept hg (fun e => by
    obtain ⟨o, ho, hc⟩ := hr B e.symm
    rw [show W.heap[B]? = _ from h] at ho
    cases ho
    cases hc)

theorem row_kept {W W' : World} {row : Option Nat} {base n : Nat} {v : Value} {xs : List Value} (h : W.ownsRow base 3 1 v n xs) (hg : W.grownBy W' row) (hr : ∀ r, row = some r → ∃ o : Obj, W.heap[r]? = some o ∧ o.isCells = false) : W'.ownsRow base 3 1 v n xs := by
  refine h.kept hg ?_
  rcases h.2 with ⟨rfl, _⟩ | ⟨g, cap, cur, rfl, _, hgb, _⟩
  · exact .inl rfl
  · refine .inr fun e => ?_
    obtain ⟨o, ho, hc⟩ := hr g (by simpa [Value.ownBlock] using e.symm)
    rw [hgb] at ho
    cases ho
    cases hc

theorem row_drew {W : World} {base n : Nat} {v : Value} {xs : List Value} (h : W.ownsRow base 3 1 v n xs) : W.drew.ownsRow base 3 1 v n xs := h
theorem boxed_drew {W : World} {B : Nat} {t : TypeId} {v : Value} (h : Boxed W B t v) : Boxed W.drew B t v := h

theorem dec_none (s : List UInt8) (i g x : Int) (h : Vi.getS s i = (g, x, false)) : Gp.dec s i = none := by
  unfold Gp.dec
  rw [if_neg]
  rw [h]
  rintro ⟨h1, _⟩
  cases h1

theorem dec_of (s : List UInt8) (i : Int) (c : Nat) (x : Int) (h : Vi.getS s i = ((c : Int), x, true)) :
    Gp.dec s i = if (Gp.run s c x).length = c ∧ Gp.top (-1) (Gp.run s c x) ≤ 9223372036854775807 then some (Gp.nums (-1) (Gp.run s c x), Gp.place x (Gp.run s c x)) else none := by
  unfold Gp.dec
  rw [h]
  simp only [true_and, Int.toNat_natCast]

set_option maxHeartbeats 1000000 in
set_option maxRecDepth 100000 in
theorem decode_early (s : ByteArray) (i : Int) (w : World) (hs : s.size ≤ 1000000000000) (h : (Vi.getS s.data.toList i).2.2 = false ∨ ((Vi.getS s.data.toList i).2.2 = true ∧ (s.size : Int) - (Vi.getS s.data.toList i).2.1 < (Vi.getS s.data.toList i).1)) :
    Calls Try.prog 40 #[.string s, .int .i64 i] w fun e w' => e = .returned (.tuple #[.slice none 0 0, .int .i64 0, .int .i64 10]) ∧ Below w.heap.size w w' := by
  go_enter Try.func40, Try.ntmps40
  go_wp2_with fail
  refine (get_any s i _ (by omega)).mono ?_
  rintro e w' ⟨g, x, ok, rfl, hg, rfl⟩
  have hsm := Gp.getS_some s.data.toList i
  rw [hg.out] at h hsm
  simp only [Array.length_toList, ByteArray.size_data] at h hsm
  have hB : ∀ a b c, Below w.heap.size w (((w.alloc a).alloc b).alloc c) := fun a b c => (((Below.refl _ w).alloc (Nat.le_refl _) _).alloc (by simp) _).alloc (by simp; omega) _
  rcases h with rfl | ⟨rfl, h⟩
  · go_wp2
    refine bodyPost_ret (by simp [results, Try.f40, go_sem]; rfl) rfl ?_
    exact ⟨rfl, hB _ _ _⟩
  · have h1 := hsm rfl
    have h2 : 0 ≤ x ∧ x ≤ s.size ∧ 0 ≤ g ∧ g ≤ 9223372036854775807 := by omega
    clear hsm h1
    go_wp2
    refine bodyPost_ret (by simp [results, Try.f40, go_sem]; rfl) rfl ?_
    exact ⟨rfl, hB _ _ _⟩

/-- A round that goes on: what lies in the boxes behind the append, behind each store, and at the end. -/
theorem step_ok {w : World} (W w1 : World) (B A k c : Nat) (t p n z : Int) (tmp : Obj) (hBA : B + 1 + 1 + 1 < A) (b0 : Boxed W B 44 (.slice (some ⟨B + 1 + 1 + 1, 0, none⟩) k c)) (b1 : Boxed W (B + 1) 3 (.int .i64 p)) (b2 : Boxed W (B + 1 + 1) 25 (.int .i64 0)) (b3 : Boxed W A 3 (.int .i64 t)) (hB : Below B w W)
    (hg : (W.alloc tmp).grownBy w1 (some (B + 1 + 1 + 1))) :
    (w1.cell? ⟨B, 0, none⟩ = some (.slice (some ⟨B + 1 + 1 + 1, 0, none⟩) k c) ∧ w1.frozen? ⟨B, 0, none⟩ = false) ∧
    ((w1.setCell ⟨B, 0, none⟩ (.slice (some ⟨B + 1 + 1 + 1, 0, none⟩) (k + 1) c)).cell? ⟨A, 0, none⟩ = some (.int .i64 t) ∧ (w1.setCell ⟨B, 0, none⟩ (.slice (some ⟨B + 1 + 1 + 1, 0, none⟩) (k + 1) c)).frozen? ⟨A, 0, none⟩ = false) ∧
    (((w1.setCell ⟨B, 0, none⟩ (.slice (some ⟨B + 1 + 1 + 1, 0, none⟩) (k + 1) c)).setCell ⟨A, 0, none⟩ (.int .i64 n)).cell? ⟨B + 1, 0, none⟩ = some (.int .i64 p) ∧ ((w1.setCell ⟨B, 0, none⟩ (.slice (some ⟨B + 1 + 1 + 1, 0, none⟩) (k + 1) c)).setCell ⟨A, 0, none⟩ (.int .i64 n)).frozen? ⟨B + 1, 0, none⟩ = false) ∧
    ∀ Wf, Wf = (((w1.setCell ⟨B, 0, none⟩ (.slice (some ⟨B + 1 + 1 + 1, 0, none⟩) (k + 1) c)).setCell ⟨A, 0, none⟩ (.int .i64 n)).setCell ⟨B + 1, 0, none⟩ (.int .i64 z)) →
      Boxed Wf B 44 (.slice (some ⟨B + 1 + 1 + 1, 0, none⟩) (k + 1) c) ∧ Boxed Wf (B + 1) 3 (.int .i64 z) ∧ Boxed Wf (B + 1 + 1) 25 (.int .i64 0) ∧ Boxed Wf A 3 (.int .i64 n) ∧ Below B w Wf ∧
      (∀ xs, w1.ownsRow B 3 1 (.slice (some ⟨B + 1 + 1 + 1, 0, none⟩) (k + 1) c) (k + 1) xs → Wf.ownsRow B 3 1 (.slice (some ⟨B + 1 + 1 + 1, 0, none⟩) (k + 1) c) (k + 1) xs) ∧
      (∀ q, q < W.heap.size → q ≠ B → q ≠ B + 1 → q ≠ B + 1 + 1 + 1 → q ≠ A → Wf.heap[q]? = W.heap[q]?) ∧ W.heap.size ≤ Wf.heap.size := by
  have e0 := (b0.alloc tmp).kept hg (by simp; omega)
  have e1 := (b1.alloc tmp).kept hg (by simp)
  have e2 := (b2.alloc tmp).kept hg (by simp)
  have e3 := (b3.alloc tmp).kept hg (by simp; omega)
  have hA := e3.other (B' := B) (by omega) (.slice (some ⟨B + 1 + 1 + 1, 0, none⟩) (k + 1) c)
  have h1 := (e1.other (B' := B) (by omega) (.slice (some ⟨B + 1 + 1 + 1, 0, none⟩) (k + 1) c)).other (B' := A) (by omega) (.int .i64 n)
  refine ⟨⟨e0.cell, e0.frozen⟩, ⟨hA.cell, hA.frozen⟩, ⟨h1.cell, h1.frozen⟩, ?_⟩
  rintro Wf rfl
  have hsz : W.heap.size ≤ w1.heap.size := by have := hg.size; simp at this; omega
  refine ⟨((e0.set _).other (by omega) _).other (by omega) _, h1.set _, ((e2.other (by omega) _).other (by omega) _).other (by omega) _, (hA.set _).other (by omega) _, ?_, ?_, ?_, by simpa using hsz⟩
  · exact ((((hB.alloc (Nat.le_of_lt b0.lt) tmp).grown hg (by have := b0.lt; simp; omega) (fun q e => by cases e; omega)).setCell (p := ⟨B, 0, none⟩) (Nat.le_refl _) _).setCell (p := ⟨A, 0, none⟩) (by show B ≤ A; omega) _).setCell (p := ⟨B + 1, 0, none⟩) (by show B ≤ B + 1; omega) _
  · intro xs hx
    have g0 := hx.kept (grownBy_setCell' w1 B (.slice (some ⟨B + 1 + 1 + 1, 0, none⟩) (k + 1) c)) (.inr (by simp [Value.ownBlock]; omega))
    have g1 := g0.kept (grownBy_setCell' _ A (.int .i64 n)) (.inr (by simp [Value.ownBlock]; omega))
    exact g1.kept (grownBy_setCell' _ (B + 1) (.int .i64 z)) (.inr (by simp [Value.ownBlock]; omega))
  · intro q h0 h1 h2 h3 h4
    rw [Below.heap_setCell _ _ _ q h2, Below.heap_setCell _ _ _ q h4, Below.heap_setCell _ _ _ q h1, hg.block q (by simp; omega) (by simp; exact h3)]
    exact Below.heap_alloc W tmp q h0

/-- A round that ends it: the stores of nil, 0 and ErrForm. -/
theorem step_no {w : World} (W : World) (B : Nat) {v : Value} {p e : Int} (b0 : Boxed W B 44 v) (b1 : Boxed W (B + 1) 3 (.int .i64 p)) (b2 : Boxed W (B + 1 + 1) 25 (.int .i64 e)) (hB : Below B w W) :
    ((W.setCell ⟨B, 0, none⟩ (.slice none 0 0)).cell? ⟨B + 1, 0, none⟩ = some (.int .i64 p) ∧ (W.setCell ⟨B, 0, none⟩ (.slice none 0 0)).frozen? ⟨B + 1, 0, none⟩ = false) ∧
    (((W.setCell ⟨B, 0, none⟩ (.slice none 0 0)).setCell ⟨B + 1, 0, none⟩ (.int .i64 0)).cell? ⟨B + 1 + 1, 0, none⟩ = some (.int .i64 e) ∧ ((W.setCell ⟨B, 0, none⟩ (.slice none 0 0)).setCell ⟨B + 1, 0, none⟩ (.int .i64 0)).frozen? ⟨B + 1 + 1, 0, none⟩ = false) ∧
    ∀ Wf, Wf = (((W.setCell ⟨B, 0, none⟩ (.slice none 0 0)).setCell ⟨B + 1, 0, none⟩ (.int .i64 0)).setCell ⟨B + 1 + 1, 0, none⟩ (.int .i64 10)) →
      Boxed Wf B 44 (.slice none 0 0) ∧ Boxed Wf (B + 1) 3 (.int .i64 0) ∧ Boxed Wf (B + 1 + 1) 25 (.int .i64 10) ∧ Below B w Wf ∧ KeepsOthers W Wf := by
  have h1 := b1.other (B' := B) (by omega) (.slice none 0 0)
  have h2 := (b2.other (B' := B) (by omega) (.slice none 0 0)).other (B' := B + 1) (by omega) (.int .i64 0)
  refine ⟨⟨h1.cell, h1.frozen⟩, ⟨h2.cell, h2.frozen⟩, ?_⟩
  rintro Wf rfl
  refine ⟨((b0.set _).other (by omega) _).other (by omega) _, (h1.set _).other (by omega) _, h2.set _, ?_, ?_⟩
  · exact ((hB.setCell (p := ⟨B, 0, none⟩) (Nat.le_refl _) _).setCell (p := ⟨B + 1, 0, none⟩) (by show B ≤ B + 1; omega) _).setCell (p := ⟨B + 1 + 1, 0, none⟩) (by show B ≤ B + 1 + 1; omega) _
  · exact ((KeepsOthers.setCell _ _ _).trans (KeepsOthers.setCell _ _ _)).trans (KeepsOthers.setCell _ _ _)

/-- The last stores: the boxes hold what they held. -/
theorem step_yes {w : World} (W : World) (B : Nat) {a : Option Addr} {k c : Nat} {p e : Int} (b0 : Boxed W B 44 (.slice a k c)) (b1 : Boxed W (B + 1) 3 (.int .i64 p)) (b2 : Boxed W (B + 1 + 1) 25 (.int .i64 e)) (hB : Below B w W) :
    ((W.setCell ⟨B, 0, none⟩ (.slice a k c)).cell? ⟨B + 1, 0, none⟩ = some (.int .i64 p) ∧ (W.setCell ⟨B, 0, none⟩ (.slice a k c)).frozen? ⟨B + 1, 0, none⟩ = false) ∧
    (((W.setCell ⟨B, 0, none⟩ (.slice a k c)).setCell ⟨B + 1, 0, none⟩ (.int .i64 p)).cell? ⟨B + 1 + 1, 0, none⟩ = some (.int .i64 e) ∧ ((W.setCell ⟨B, 0, none⟩ (.slice a k c)).setCell ⟨B + 1, 0, none⟩ (.int .i64 p)).frozen? ⟨B + 1 + 1, 0, none⟩ = false) ∧
    ∀ Wf, Wf = (((W.setCell ⟨B, 0, none⟩ (.slice a k c)).setCell ⟨B + 1, 0, none⟩ (.int .i64 p)).setCell ⟨B + 1 + 1, 0, none⟩ (.int .i64 0)) →
      Boxed Wf B 44 (.slice a k c) ∧ Boxed Wf (B + 1) 3 (.int .i64 p) ∧ Boxed Wf (B + 1 + 1) 25 (.int .i64 0) ∧ Below B w Wf ∧ KeepsOthers W Wf ∧
      ∀ v n xs, v.ownBlock = some (B + 1 + 1 + 1) → W.ownsRow B 3 1 v n xs → Wf.ownsRow B 3 1 v n xs := by
  have h1 := b1.other (B' := B) (by omega) (.slice a k c)
  have h2 := (b2.other (B' := B) (by omega) (.slice a k c)).other (B' := B + 1) (by omega) (.int .i64 p)
  refine ⟨⟨h1.cell, h1.frozen⟩, ⟨h2.cell, h2.frozen⟩, ?_⟩
  rintro Wf rfl
  refine ⟨((b0.set _).other (by omega) _).other (by omega) _, (h1.set _).other (by omega) _, h2.set _, ?_, ?_, ?_⟩
  · exact ((hB.setCell (p := ⟨B, 0, none⟩) (Nat.le_refl _) _).setCell (p := ⟨B + 1, 0, none⟩) (by show B ≤ B + 1; omega) _).setCell (p := ⟨B + 1 + 1, 0, none⟩) (by show B ≤ B + 1 + 1; omega) _
  · exact ((KeepsOthers.setCell _ _ _).trans (KeepsOthers.setCell _ _ _)).trans (KeepsOthers.setCell _ _ _)
  · intro v n xs hv hr
    have g0 := hr.kept (grownBy_setCell' W B (.slice a k c)) (.inr (by rw [hv]; simp; omega))
    have g1 := g0.kept (grownBy_setCell' _ (B + 1) (.int .i64 p)) (.inr (by rw [hv]; simp; omega))
    exact g1.kept (grownBy_setCell' _ (B + 1 + 1) (.int .i64 0)) (.inr (by rw [hv]; simp))

set_option maxHeartbeats 4000000 in
set_option maxRecDepth 100000 in
theorem decode_late (s : ByteArray) (i : Int) (w : World) (hs : s.size ≤ 1000000000000) (c : Nat) (x : Int) (hg : Vi.getS s.data.toList i = ((c : Int), x, true)) (hx : 0 ≤ x ∧ x ≤ s.size) (hc : (c : Int) ≤ s.size - x) :
    Calls Try.prog 40 #[.string s, .int .i64 i] w fun e w' => ∃ v n er, e = .returned (.tuple #[v, .int .i64 n, .int .i64 er]) ∧ ToldO w.heap.size w' (Gp.dec s.data.toList i) v n er ∧ Below w.heap.size w w' := by
  have HG : Hid _ := hg
  clear hg
  obtain ⟨i0, hi, hz0, hz1, hz2⟩ := info_parts Try.intInfo
  refine (callsIn_wide (n := 5)).1 ?_
  refine callsIn_of_wp_marks Try.func40 rfl trivial ?_ rfl
  simp only [Try.ntmps40, List.size_toArray, List.length_cons, List.length_nil, Nat.reduceAdd, Nat.reduceSub, Array.replicate_succ, Array.replicate_zero, List.push_toArray, List.append_toArray, List.nil_append, List.cons_append]
  gi_wp2_with fail
  refine ⟨trivial, (callsIn_wide.2 (get_any s i _ (by omega))).mono ?_⟩
  rintro e w' ⟨g', x', ok, rfl, hg, rfl⟩
  obtain ⟨rfl, rfl, rfl⟩ := three_eq HG.out hg.out
  clear hg
  gi_wp2_with (gi_at_make; refine wpListIn_make_own _ rfl _ _ 44 rfl w.heap.size 3 i0 (.int .i64 0) 1 Try.underlying44 hi hz0 hz1 _ _ _ c rfl rfl rfl ?b2 ?b3 ?b4 ?_)
  case b2 => rw [hz2]; omega
  case b3 => unfold maxLen; omega
  case b4 => simp; omega
  intro W1 hrow hgrow
  have k0 : Boxed W1 w.heap.size 44 (.slice none 0 0) := (((Boxed.new w 44 (.slice none 0 0)).alloc _).alloc _).kept hgrow (by simp)
  have k1 : Boxed W1 (w.heap.size + 1) 3 (.int .i64 x) := by
    have := Boxed.new (w.alloc (.cells #[.slice none 0 0] 44)) 3 (.int .i64 x)
    rw [World.size_alloc] at this
    exact (this.alloc _).kept hgrow (by simp)
  have k2 : Boxed W1 (w.heap.size + 1 + 1) 25 (.int .i64 0) := by
    have := Boxed.new ((w.alloc (.cells #[.slice none 0 0] 44)).alloc (.cells #[.int .i64 x] 3)) 25 (.int .i64 0)
    rw [World.size_alloc, World.size_alloc] at this
    exact this.kept hgrow (by simp)
  have hbel : Below w.heap.size w W1 := ((((Below.refl _ w).alloc (Nat.le_refl _) _).alloc (by simp) _).alloc (by simp; omega) _).grown hgrow (by simp; omega) (by simp)
  have hlt : w.heap.size + 1 + 1 + 1 < W1.heap.size := (hrow.lt _ rfl).2
  clear hgrow
  have q0 := k0.set (.slice (some ⟨w.heap.size + 1 + 1 + 1, 0, none⟩) 0 c)
  have q1 := k1.other (B' := w.heap.size) (by omega) (.slice (some ⟨w.heap.size + 1 + 1 + 1, 0, none⟩) 0 c)
  have q2 := k2.other (B' := w.heap.size) (by omega) (.slice (some ⟨w.heap.size + 1 + 1 + 1, 0, none⟩) 0 c)
  have hrow2 := hrow.kept (grownBy_setCell' W1 w.heap.size (.slice (some ⟨w.heap.size + 1 + 1 + 1, 0, none⟩) 0 c)) (.inr (by simp [Value.ownBlock]; omega))
  have hbel2 := hbel.setCell (p := ⟨w.heap.size, 0, none⟩) (Nat.le_refl _) (.slice (some ⟨w.heap.size + 1 + 1 + 1, 0, none⟩) 0 c)
  have c0 := k0.cell
  have f0 := k0.frozen
  have c1 := (q1.alloc (.cells #[.int .i64 (-1)] 3)).cell
  clear k0 k1 k2 hbel hrow
  gi_wp2_with fail
  refine ⟨trivial, (written_in _ _ _ _ _).mono ?_⟩
  rintro e w3 ⟨rfl, rfl⟩
  gi_wp2_with fail
  obtain ⟨A, hA⟩ : ∃ A, A = W1.heap.size := ⟨_, rfl⟩
  obtain ⟨V, hV⟩ : ∃ V, V = W1.setCell ⟨w.heap.size, 0, none⟩ (.slice (some ⟨w.heap.size + 1 + 1 + 1, 0, none⟩) 0 c) := ⟨_, rfl⟩
  have hVs : V.heap.size = A := by rw [hV, hA]; simp
  have r0 := (((q0.alloc (.cells #[.int .i64 (-1)] 3)).alloc (.cells #[.string s] 9)).alloc (.cells #[.int .i64 x] 3)).alloc (.cells #[.int .i64 c] 3)
  have r1 := (((q1.alloc (.cells #[.int .i64 (-1)] 3)).alloc (.cells #[.string s] 9)).alloc (.cells #[.int .i64 x] 3)).alloc (.cells #[.int .i64 c] 3)
  have r2 := (((q2.alloc (.cells #[.int .i64 (-1)] 3)).alloc (.cells #[.string s] 9)).alloc (.cells #[.int .i64 x] 3)).alloc (.cells #[.int .i64 c] 3)
  have hrow3 := (((hrow2.alloc (.cells #[.int .i64 (-1)] 3)).alloc (.cells #[.string s] 9)).alloc (.cells #[.int .i64 x] 3)).alloc (.cells #[.int .i64 c] 3)
  rw [← hV] at r0 r1 r2 hrow3 hbel2 ⊢
  have r3 := (((Boxed.new V 3 (.int .i64 (-1))).alloc (.cells #[.string s] 9)).alloc (.cells #[.int .i64 x] 3)).alloc (.cells #[.int .i64 c] 3)
  have r4 := ((Boxed.new (V.alloc (.cells #[.int .i64 (-1)] 3)) 9 (.string s)).alloc (.cells #[.int .i64 x] 3)).alloc (.cells #[.int .i64 c] 3)
  have r5 := (Boxed.new ((V.alloc (.cells #[.int .i64 (-1)] 3)).alloc (.cells #[.string s] 9)) 3 (.int .i64 x)).alloc (.cells #[.int .i64 c] 3)
  have r6 := Boxed.new (((V.alloc (.cells #[.int .i64 (-1)] 3)).alloc (.cells #[.string s] 9)).alloc (.cells #[.int .i64 x] 3)) 3 (.int .i64 c)
  have hB0 : Below w.heap.size w ((((V.alloc (.cells #[.int .i64 (-1)] 3)).alloc (.cells #[.string s] 9)).alloc (.cells #[.int .i64 x] 3)).alloc (.cells #[.int .i64 c] 3)) :=
    (((hbel2.alloc (by omega) _).alloc (by simp; omega) _).alloc (by simp; omega) _).alloc (by simp; omega) _
  have hsz : ((((V.alloc (.cells #[.int .i64 (-1)] 3)).alloc (.cells #[.string s] 9)).alloc (.cells #[.int .i64 x] 3)).alloc (.cells #[.int .i64 c] 3)).heap.size = A + 4 := by simp [hVs]
  simp only [World.size_alloc, hVs] at r3 r4 r5 r6
  rw [← hA]
  clear q0 q1 q2 hrow2 hbel2 c0 f0 c1 hV
  revert r0 r1 r2 r3 r4 r5 r6 hrow3 hB0 hsz
  generalize ((((V.alloc (.cells #[.int .i64 (-1)] 3)).alloc (.cells #[.string s] 9)).alloc (.cells #[.int .i64 x] 3)).alloc (.cells #[.int .i64 c] 3)) = W0
  intro r0 r1 r2 hrow3 hB0 hsz r3 r4 r5 r6
  rw [← hA] at hlt
  clear hA
  have hBA : w.heap.size + 1 + 1 + 1 < A := hlt
  clear hlt hVs
  refine wpIn_rangeFunc_ownG rfl (by omega) (gf := 56) (lb := #[.pointer (some ⟨A + 1 + 1, 0, none⟩), .pointer (some ⟨A + 1 + 2, 0, none⟩), .pointer (some ⟨A + 1, 0, none⟩)]) rfl trivial (enters_of Try.func56 (by kernel_rfl) rfl)
    (written_stops (5 - 1) (by omega) (A + 1 + 1) (A + 1 + 2) (A + 1) c s x hs (by omega) W0 r5 r6 r4)
    (fun h k => k.trans h) (fun W l o o' h1 _ _ _ => World.putObj_heap_other (by omega)) (Below.refl _ _) (fun _ => rfl)
    (fun pre W => (Boxed W w.heap.size 44 (.slice (some ⟨w.heap.size + 1 + 1 + 1, 0, none⟩) pre.length c) ∧ Boxed W (w.heap.size + 1) 3 (.int .i64 (Gp.place x pre)) ∧ Boxed W (w.heap.size + 1 + 1) 25 (.int .i64 0) ∧
      W.ownsRow w.heap.size 3 1 (.slice (some ⟨w.heap.size + 1 + 1 + 1, 0, none⟩) pre.length c) pre.length ((Gp.nums (-1) pre).map (Value.int .i64)) ∧ Boxed W A 3 (.int .i64 (Gp.top (-1) pre)) ∧ Gp.top (-1) pre ≤ 9223372036854775807 ∧ A + 4 ≤ W.heap.size) ∧ Below w.heap.size w W)
    (fun j pre W => (j = .ret ∧ 9223372036854775807 < Gp.top (-1) pre ∧ Boxed W w.heap.size 44 (.slice none 0 0) ∧ Boxed W (w.heap.size + 1) 3 (.int .i64 0) ∧ Boxed W (w.heap.size + 1 + 1) 25 (.int .i64 10)) ∧ Below w.heap.size w W)
    (OwnFrom.and (Own.from (fun s A B row hs hg hr => by
      obtain ⟨h0, h1, h2, h3, h4, h5, h6⟩ := hs
      exact ⟨boxed_kept h0 hg hr, boxed_kept h1 hg hr, boxed_kept h2 hg hr, row_kept h3 hg hr, boxed_kept h4 hg hr, h5, Nat.le_trans h6 hg.size⟩) _) (ownFrom_below (Nat.le_refl _) (by omega)))
    (fun j => OwnFrom.and (Own.from (fun s A B row hs hg hr => by
      obtain ⟨h0, h1, h2, h3, h4⟩ := hs
      exact ⟨h0, h1, boxed_kept h2 hg hr, boxed_kept h3 hg hr, boxed_kept h4 hg hr⟩) _) (ownFrom_below (Nat.le_refl _) (by omega)))
    ⟨⟨r0, r1, r2, hrow3, r3, by show (-1 : Int) ≤ _; decide, by omega⟩, hB0⟩
    (fun y => { tmps := #[.string s, .int .i64 i, undef, undef, .pointer (some ⟨w.heap.size, 0, none⟩), .pointer (some ⟨w.heap.size + 1, 0, none⟩), .pointer (some ⟨w.heap.size + 1 + 1, 0, none⟩), .int .i64 c, .bool true, .pointer (some ⟨A, 0, none⟩), .int .i64 y.1.1, .int .i64 y.1.2, undef, .tuple #[.int .i64 c, .int .i64 x, .bool true], .string s, .int .i64 i, .tuple #[.int .i64 c, .int .i64 x, .bool true], .int .i64 c, .int .i64 x, .bool true, .bool true, .bool false, .bool false, .int .i64 c, .string s, .int .i64 s.size, .int .i64 x, .int .i64 (s.size - x), .bool (decide ((s.size : Int) - x < c)), .bool (decide ((s.size : Int) - x < c)), .int .i64 c, .slice (some ⟨w.heap.size + 1 + 1 + 1, 0, none⟩) 0 c, .string s, .int .i64 x, .int .i64 c, .func (.func 56) #[] #[.pointer (some ⟨A + 1 + 1, 0, none⟩), .pointer (some ⟨A + 1 + 2, 0, none⟩), .pointer (some ⟨A + 1, 0, none⟩)], .int .i64 y.1.1, .int .i64 y.1.2, undef, undef, undef, undef, undef, undef, undef, undef, undef, undef, undef, undef, undef, undef, undef, undef, undef, undef, undef], defers := [] }) ?assign ?body ?done ?stop
  case assign =>
    intro l x W K hK
    gi_wp2
    exact hK
  case body =>
    rintro l pre y W ⟨⟨b0, b1, b2, hrow, b3, ht, hsW⟩, hB⟩ hlt
    have ht1 := Gp.top_ge (-1) pre
    have hy := y.2
    obtain ⟨⟨g, z⟩, hy'⟩ := y
    simp only at hy hlt ⊢
    have HT : Hid _ := Gp.top_snoc (-1) pre ⟨(g, z), hy'⟩
    have HN : Hid _ := Gp.nums_snoc (-1) pre ⟨(g, z), hy'⟩
    have HP : Hid _ := Gp.place_snoc x pre ⟨(g, z), hy'⟩
    have c3 := b3.cell
    by_cases hov : Gp.top (-1) pre + 1 + g ≤ 9223372036854775807
    · have hgw := fun tmp w1 (hg : (W.alloc tmp).grownBy w1 (some (w.heap.size + 1 + 1 + 1))) => step_ok W w1 w.heap.size A pre.length c (Gp.top (-1) pre) (Gp.place x pre) (Gp.top (-1) pre + 1 + g) z tmp hBA b0 b1 b2 b3 hB hg
      generalize Gp.top (-1) pre = t at *
      generalize Gp.place x pre = p at *
      have c0 := b0.cell
      have HG : Hid _ := hgw
      clear hgw
      gi_wp2_with (gi_at_builtin; refine wpListIn_append_fits _ rfl _ _ 44 rfl w.heap.size 3 i0 1 Try.underlying44 hi hz1 (w.heap.size + 1 + 1 + 1) pre.length c _ rfl (hrow.alloc _) ⟨W.heap.size, 0, none⟩ 1 1 [.int .i64 (t + 1 + g)] rfl rfl (cell_one_new _ _ _) (by simp [Value.oneCell']) (by omega) ?_)
      intro w1 hown1 hgrow1
      obtain ⟨⟨d0, g0⟩, ⟨d3, g3⟩, ⟨d1, g1⟩, hend⟩ := HG.out _ w1 hgrow1
      have HE : Hid _ := hend
      clear hend
      gi_wp2
      obtain ⟨k0, k1, k2, k3, k4, k5, k6, k7⟩ := HE.out _ rfl
      refine ⟨⟨k7, fun q o hq ho _ => (k6 q (Array.getElem?_eq_some_iff.1 ho).1 (by omega) (by omega) (by omega) (by omega)).trans ho⟩, k6 _ (by omega) (by omega) (by omega) (by omega) (by omega), ⟨?_, ?_, k2, ?_, ?_, ?_, Nat.le_trans hsW k7⟩, k4⟩
      · simpa using k0
      · rw [HP.out]; exact k1
      · rw [HN.out]; simpa using k5 _ hown1
      · rw [HT.out]; exact k3
      · rw [HT.out]; exact hov
    · have hle : wrap64 (wrap64 (Gp.top (-1) pre + 1) + g) ≤ Gp.top (-1) pre := by unfold wrap64; omega
      have hov2 := step_no W w.heap.size b0 b1 b2 hB
      generalize Gp.top (-1) pre = t at *
      have c0 := b0.cell
      have f0 := b0.frozen
      obtain ⟨⟨d1, g1⟩, ⟨d2, g2⟩, hend⟩ := hov2
      have HE : Hid _ := hend
      clear hend
      gi_wp2
      obtain ⟨k0, k1, k2, k3, k4⟩ := HE.out _ rfl
      exact ⟨k4.from _, ⟨rfl, by rw [HT.out]; omega, k0, k1, k2⟩, k3⟩
  case done =>
    rintro D ys W hD rfl ⟨⟨b0, b1, b2, hrow, b3, ht, hsW⟩, hB⟩ hK
    have hle := Gp.run_length s.data.toList c x
    have hdec := dec_of _ _ _ _ HG.out
    have HD : Hid _ := hdec
    clear hdec
    have c0 := b0.cell
    by_cases hfew : (Gp.run s.data.toList c x).length < c
    · have hno := step_no W w.heap.size b0 b1 b2 hB
      have f0 := b0.frozen
      obtain ⟨⟨d1, g1⟩, ⟨d2, g2⟩, hend⟩ := hno
      have HE : Hid _ := hend
      clear hend
      gi_wp2
      obtain ⟨k0, k1, k2, k3, k4⟩ := HE.out _ rfl
      have hK2 := k4.same D _ hK rfl
      have e0 := cell_kept k0.cell (grownBy_putObj' _ D (.deferred none)) (fun r e => by cases e; exact ⟨_, hK2, rfl⟩)
      have e1 := cell_kept k1.cell (grownBy_putObj' _ D (.deferred none)) (fun r e => by cases e; exact ⟨_, hK2, rfl⟩)
      have e2 := cell_kept k2.cell (grownBy_putObj' _ D (.deferred none)) (fun r e => by cases e; exact ⟨_, hK2, rfl⟩)
      have hsw := hB0.size
      refine ⟨by simp, .inl ⟨_, _, rfl, run_takeDeferred hK2, ?_⟩⟩
      refine ⟨.tuple #[.slice none 0 0, .int .i64 0, .int .i64 10], ?_, _, _, _, rfl, by rw [HD.out, if_neg (by omega)]; exact ⟨rfl, rfl, rfl⟩, k3.trans (belowK_b (w := w) (Nat.le_refl _) _ D _ _ (by omega) hK2 rfl rfl)⟩
      simp [results, Try.f40, go_sem, e0, e1, e2]
    · have hall : (Gp.run s.data.toList c x).length = c := by omega
      have hmx : Try.prog.follows .mixedOrders = true := by kernel_rfl
      have hyes := step_yes W w.heap.size b0 b1 b2 hB
      rw [if_pos ⟨hall, ht⟩] at HD
      rw [hall] at b0 hrow c0 hyes
      have f0 := b0.frozen
      have c1 := b1.cell
      obtain ⟨⟨d1, g1⟩, ⟨d2, g2⟩, hend⟩ := hyes
      have HE : Hid _ := hend
      clear hend
      generalize Gp.place x (Gp.run s.data.toList c x) = p at *
      gi_wp2
      gi_region
      all_goals gi_wp2
      obtain ⟨k0, k1, k2, k3, k4, k5⟩ := HE.out _ rfl
      have hr2 := row_drew (k5 _ _ _ rfl hrow)
      have hK2 := (k4.trans (KeepsOthers.drew _)).same D _ hK rfl
      have hr3 := ownsRow_putObj hr2 (.deferred none) hK2 rfl
      have e0 := cell_kept (boxed_drew k0).cell (grownBy_putObj' _ D (.deferred none)) (fun r e => by cases e; exact ⟨_, hK2, rfl⟩)
      have e1 := cell_kept (boxed_drew k1).cell (grownBy_putObj' _ D (.deferred none)) (fun r e => by cases e; exact ⟨_, hK2, rfl⟩)
      have e2 := cell_kept (boxed_drew k2).cell (grownBy_putObj' _ D (.deferred none)) (fun r e => by cases e; exact ⟨_, hK2, rfl⟩)
      have hsw := hB0.size
      refine ⟨by simp, .inl ⟨_, _, rfl, run_takeDeferred hK2, ?_⟩⟩
      refine ⟨.tuple #[.slice (some ⟨w.heap.size + 1 + 1 + 1, 0, none⟩) c c, .int .i64 p, .int .i64 0], ?_, _, _, _, rfl, by rw [HD.out]; exact ⟨⟨_, own_from hr3 (by omega)⟩, rfl, rfl⟩, k3.drew.trans (belowK_b (w := w) (Nat.le_refl _) _ D _ _ (by omega) hK2 rfl rfl)⟩
      simp [results, Try.f40, go_sem, e0, e1, e2]
  case stop =>
    rintro D j pre W hD hpre ⟨⟨rfl, ht, b0, b1, b2⟩, hB⟩ hK
    have hdec := dec_of _ _ _ _ HG.out
    have htp := Gp.top_prefix (-1) hpre
    rw [if_neg (by omega)] at hdec
    have c0 := cell_kept b0.cell (grownBy_putObj' _ D (.deferred none)) (fun r e => by cases e; exact ⟨_, hK, rfl⟩)
    have c1 := cell_kept b1.cell (grownBy_putObj' _ D (.deferred none)) (fun r e => by cases e; exact ⟨_, hK, rfl⟩)
    have c2 := cell_kept b2.cell (grownBy_putObj' _ D (.deferred none)) (fun r e => by cases e; exact ⟨_, hK, rfl⟩)
    have hsw := hB0.size
    gi_wp2
    refine ⟨by simp, .inl ⟨_, _, rfl, run_takeDeferred hK, ?_⟩⟩
    refine ⟨.tuple #[.slice none 0 0, .int .i64 0, .int .i64 10], ?_, _, _, _, rfl, by rw [hdec]; exact ⟨rfl, rfl, rfl⟩, hB.trans (belowK_b (w := w) (Nat.le_refl _) W D _ _ (by omega) hK rfl rfl)⟩
    simp [results, Try.f40, go_sem, c0, c1, c2]

/-- Decode, of every string and place. -/
theorem decode_own (s : ByteArray) (i : Int) (w : World) (hs : s.size ≤ 1000000000000) :
    Calls Try.prog 40 #[.string s, .int .i64 i] w fun e w' => ∃ v n er, e = .returned (.tuple #[v, .int .i64 n, .int .i64 er]) ∧ ToldO w.heap.size w' (Gp.dec s.data.toList i) v n er ∧ Below w.heap.size w w' := by
  have early : ((Vi.getS s.data.toList i).2.2 = false ∨ ((Vi.getS s.data.toList i).2.2 = true ∧ (s.size : Int) - (Vi.getS s.data.toList i).2.1 < (Vi.getS s.data.toList i).1)) → Gp.dec s.data.toList i = none →
      Calls Try.prog 40 #[.string s, .int .i64 i] w fun e w' => ∃ v n er, e = .returned (.tuple #[v, .int .i64 n, .int .i64 er]) ∧ ToldO w.heap.size w' (Gp.dec s.data.toList i) v n er ∧ Below w.heap.size w w' := fun h hd =>
    (decode_early s i w hs h).mono fun e w' ⟨he, hb⟩ => ⟨_, _, _, he, by rw [hd]; exact ⟨rfl, rfl, rfl⟩, hb⟩
  have hl : s.data.toList.length = s.size := by simp
  cases hb : (Vi.getS s.data.toList i).2.2 with
  | false => exact early (.inl hb) (dec_none _ _ (Vi.getS s.data.toList i).1 (Vi.getS s.data.toList i).2.1 (by rw [← hb]))
  | true =>
    obtain ⟨h1, h2, h3, h4, h5, _, h7⟩ := Gp.getS_some _ _ hb
    by_cases hc : (s.size : Int) - (Vi.getS s.data.toList i).2.1 < (Vi.getS s.data.toList i).1
    · exact early (.inr ⟨hb, hc⟩) (Gp.dec_few _ _ hb (by rw [hl]; exact hc))
    · exact decode_late s i w hs (Vi.getS s.data.toList i).1.toNat (Vi.getS s.data.toList i).2.1 (by rw [Int.toNat_of_nonneg h2, ← hb]) (by omega) (by omega)

theorem decode_any (s : ByteArray) (i : Int) (w : World) (hs : s.size ≤ 1000000000000) :
    Calls Try.prog 40 #[.string s, .int .i64 i] w fun e w' => ∃ v n er, e = .returned (.tuple #[v, .int .i64 n, .int .i64 er]) ∧ Told w' (Gp.dec s.data.toList i) v n er ∧ Below w.heap.size w w' :=
  (decode_own s i w hs).mono fun _ _ ⟨v, n, er, he, ht, hb⟩ => ⟨v, n, er, he, ht.told, hb⟩

end Go.Proofs.Ytmekaofjcjmklaa
