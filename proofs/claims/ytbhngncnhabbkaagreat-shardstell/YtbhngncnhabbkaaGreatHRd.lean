/- The walks of what reads a shard: want, text, octet, number, list, table. -/
import Derived.Test.YtbhngncnhabbkaaGreatHEnc2
import Derived.Deep.OwnRows
import Derived.Deep.RegionLaw
namespace Go.Proofs.YtbhngncnhabbkaaGreat
open Go.RowKit

theorem grown_refl (a : World) (r : Option Nat) : a.grownBy a r := ⟨rfl, rfl, rfl, Nat.le_refl _, fun _ _ _ => rfl⟩
theorem grown_drew {a b : World} {r : Option Nat} (h : a.grownBy b r) : a.grownBy b.drew r := ⟨h.os, h.tape, h.output, h.size, h.block⟩

/-- What reads, in block B. -/
abbrev RBlk (W : World) (B : Nat) (r : Sh.Rd) : Prop := W.heap[B]? = some (.cells #[.string ⟨r.1.toArray⟩, .bool r.2] 69 (0, 0))
structure RBx (W : World) (B : Nat) (s : ByteArray) (f : Bool) : Prop where
  c0 : W.cell? ⟨B, 0, none⟩ = some (.string s)
  c1 : W.cell? ⟨B, 1, none⟩ = some (.bool f)
  f0 : W.frozen? ⟨B, 0, none⟩ = false
  f1 : W.frozen? ⟨B, 1, none⟩ = false
theorem RBx.of {W : World} {B : Nat} {r : Sh.Rd} (h : RBlk W B r) : RBx W B ⟨r.1.toArray⟩ r.2 := by
  constructor <;> simp [World.cell?, World.frozen?, h]
theorem RBlk.lt {W : World} {B : Nat} {r : Sh.Rd} (h : RBlk W B r) : B < W.heap.size := (Array.getElem?_eq_some_iff.1 h).1
theorem RBlk.later {W W' : World} {B : Nat} {r : Sh.Rd} (h : RBlk W B r) (hb : Below W.heap.size W W') : RBlk W' B r := by
  show W'.heap[B]? = _
  rw [hb.block B h.lt]; exact h

/-- All blocks but B are as they were. -/
abbrev Oth (B : Nat) (w w' : World) : Prop := w.grownBy w' (some B)
theorem Oth.of_below {B : Nat} {w w' : World} (h : Below w.heap.size w w') : Oth B w w' := ⟨h.os, h.tape, h.output, h.size, fun k hk _ => h.block k hk⟩
theorem oth_set (w : World) (B i : Nat) (u : Value) : Oth B w (w.setCell ⟨B, i, none⟩ u) :=
  ⟨rfl, rfl, rfl, by simp [World.setCell], fun k hk hne => Below.heap_setCell _ _ _ _ (fun e => hne (by rw [e]))⟩
theorem Oth.below {B B0 : Nat} {w w' : World} (h : Oth B w w') (h0 : B0 ≤ B) (hs : B0 ≤ w.heap.size) : Below B0 w w' :=
  ⟨h.os, h.tape, h.output, h.size, fun k hk => h.block k (by omega) (fun e => by simp at e; omega)⟩
theorem blk_set {W : World} {B i : Nat} {c : Array Value} {t : TypeId} {fr : Nat × Nat} {u : Value} (h : W.heap[B]? = some (.cells c t fr)) : (W.setCell ⟨B, i, none⟩ u).heap[B]? = some (.cells (c.setIfInBounds i u) t fr) := by
  unfold World.setCell
  dsimp only
  rw [Array.getElem?_modify, if_pos rfl, h]
  rfl
theorem blk_other {W : World} {B C i : Nat} {u : Value} (h : B ≠ C) : (W.setCell ⟨C, i, none⟩ u).heap[B]? = W.heap[B]? := by
  unfold World.setCell
  dsimp only
  rw [Array.getElem?_modify, if_neg (Ne.symm h)]
theorem blk_later {W W' : World} {B : Nat} {o : Obj} (h : W.heap[B]? = some o) (hb : Below W.heap.size W W') : W'.heap[B]? = some o := by
  rw [hb.block B (Array.getElem?_eq_some_iff.1 h).1]; exact h
theorem blk_oth {W W' : World} {B C : Nat} {o : Obj} (h : W.heap[B]? = some o) (ho : Oth C W W') (hne : B ≠ C) : W'.heap[B]? = some o := by
  rw [ho.block B (Array.getElem?_eq_some_iff.1 h).1 (fun e => hne (by simpa using e))]; exact h
/-- A list that lies somewhere lies there still: where what reads lies no int lies. -/
theorem Ints.oth {W W' : World} {B : Nat} {r : Sh.Rd} {v : Value} {l : List Int} (h : Ints W v l) (hB : RBlk W B r) (ho : Oth B W W') : Ints W' v l := by
  obtain ⟨a, cap, rfl, h⟩ := h
  refine ⟨a, cap, rfl, ?_⟩
  rcases h with h | ⟨b, off, rfl, hlt, hc⟩
  · exact .inl h
  · refine .inr ⟨b, off, rfl, Nat.lt_of_lt_of_le hlt ho.size, fun j hj => ?_⟩
    have h1 := hc j hj
    refine ho.cell h1 fun e => ?_
    have e2 : b = B := by simpa using e
    subst e2
    simp only [World.cell?, hB] at h1
    match hoj : off + j, h1 with
    | 0, h1 => simp at h1
    | 1, h1 => simp at h1
    | n + 2, h1 => simp at h1
theorem Lists.oth {W W' : World} {B : Nat} {r : Sh.Rd} {v : Value} {o : List (List Int)} (h : Lists W v o) (hB : RBlk W B r) (ho : Oth B W W') : Lists W' v o := by
  obtain ⟨a, cap, rfl, hcap, h⟩ := h
  refine ⟨a, cap, rfl, hcap, ?_⟩
  rcases h with h | ⟨b, off, rfl, hc⟩
  · exact .inl h
  · refine .inr ⟨b, off, rfl, fun j hj => ?_⟩
    obtain ⟨x, h1, h2⟩ := hc j hj
    refine ⟨x, ho.cell h1 fun e => ?_, h2.oth hB ho⟩
    have e2 : b = B := by simpa using e
    subst e2
    obtain ⟨a, cap, rfl, _⟩ := h2
    simp only [World.cell?, hB] at h1
    match hoj : off + j, h1 with
    | 0, h1 => simp at h1
    | 1, h1 => simp at h1
    | n + 2, h1 => simp at h1

namespace Sh
theorem getS_false {l : List UInt8} {i n x : Int} (h : Vi.getS l i = (n, x, false)) : n = 0 ∧ x = 0 := by
  unfold Vi.getS at h
  split at h
  · simp at h
  · simp only [Prod.mk.injEq, and_true] at h
    exact ⟨h.1.symm, h.2.symm⟩
theorem numR_yes {l : List UInt8} {f : Bool} {n : Int} {x : Nat} (h : Vi.getS l 0 = (n, (x : Int), true)) : numR (l, f) = ((l.drop x, f), n) := by
  unfold numR
  dsimp only
  rw [h]
  rfl
theorem numR_no {l : List UInt8} {f : Bool} {n x : Int} (h : Vi.getS l 0 = (n, x, false)) : numR (l, f) = (([], true), n) := by
  unfold numR
  dsimp only
  rw [h]
  rfl
theorem listR_yes {l : List UInt8} {f : Bool} {q : List Int} {x : Nat} (h : Gp.dec l 0 = some (q, (x : Int))) : listR (l, f) = ((l.drop x, f), q) := by
  unfold listR
  dsimp only
  rw [h]
  rfl
theorem listR_no {l : List UInt8} {f : Bool} (h : Gp.dec l 0 = none) : listR (l, f) = (([], true), []) := by
  unfold listR
  dsimp only
  rw [h]
end Sh

theorem extract_take (s : ByteArray) (k : Nat) : (s.extract 0 k).data.toList = s.data.toList.take k := by
  rw [ByteArray.data_extract]; simp
theorem extract_drop (s : ByteArray) (k : Nat) : (s.extract k s.size).data.toList = s.data.toList.drop k := by
  rw [ByteArray.data_extract]
  simp only [Array.toList_extract, List.extract_eq_take_drop]
  exact List.take_of_length_le (by simp)
theorem text_eq {s : ByteArray} {l : List UInt8} (h : s.data.toList = l) : s = ⟨l.toArray⟩ := by
  apply ByteArray.ext
  apply Array.ext'
  rw [h]

theorem want_any (B : Nat) (r : Sh.Rd) (ok : Bool) (w : World) (h : RBlk w B r) :
    Calls Tryz.prog 63 #[.pointer (some ⟨B, 0, none⟩), .bool ok] w fun e w' => e = .returned (.tuple #[]) ∧ RBlk w' B (Sh.wantR r ok) ∧ Oth B w w' := by
  have hx := RBx.of h
  have HB : Hid (RBlk w B r) := h
  clear h
  cases ok with
  | true =>
    clear hx
    go_enter Tryz.func63, Tryz.ntmps63
    go_wp2
    go_end0
    exact ⟨rfl, HB.out, grown_refl _ _⟩
  | false =>
    have c0 := hx.c0
    have c1 := hx.c1
    have f0 := hx.f0
    have f1 := hx.f1
    clear hx
    go_enter Tryz.func63, Tryz.ntmps63
    go_wp2
    go_end0
    exact ⟨rfl, blk_set (blk_set HB.out), grown_trans (oth_set _ _ _ _) (oth_set _ _ _ _)⟩

set_option maxHeartbeats 400000 in
theorem text_any (B : Nat) (r : Sh.Rd) (n : Nat) (w : World) (h : RBlk w B r) (hl : r.1.length ≤ 1000000000000) (hn : n ≤ 1000000000000) :
    Calls Tryz.prog 64 #[.pointer (some ⟨B, 0, none⟩), .int .i64 n] w fun e w' => e = .returned (.string ⟨(Sh.textR r n).2.toArray⟩) ∧ RBlk w' B (Sh.textR r n).1 ∧ Oth B w w' := by
  have hx := RBx.of h
  obtain ⟨l, f⟩ := r
  dsimp only at hl hx
  have hsz : (⟨l.toArray⟩ : ByteArray).size = l.length := size_of l
  by_cases hlt : l.length < n
  · have HR : Sh.textR (l, f) n = (([], true), []) := by unfold Sh.textR; rw [if_pos hlt]
    rw [HR]
    have HW := want_any B (l, f) false w h
    have c0 := hx.c0
    generalize (⟨l.toArray⟩ : ByteArray) = s at c0 hsz
    replace HW : Hid _ := HW
    clear h hx HR
    go_enter Tryz.func64, Tryz.ntmps64
    go_wp2_with fail
    refine Calls.mono HW.out ?_
    rintro e w1 ⟨rfl, h1, h2⟩
    replace h1 : Hid _ := h1
    replace h2 : Hid _ := h2
    go_wp2
    go_ret
    exact ⟨rfl, h1.out, h2.out⟩
  · have HR : Sh.textR (l, f) n = ((l.drop n, f), l.take n) := by unfold Sh.textR; rw [if_neg hlt]
    rw [HR]
    have c0 := hx.c0
    have f0 := hx.f0
    have HT : Hid ((⟨l.toArray⟩ : ByteArray).extract 0 n = ⟨(l.take n).toArray⟩) := text_eq (by rw [extract_take])
    have HD : Hid ((⟨l.toArray⟩ : ByteArray).extract n l.length = ⟨(l.drop n).toArray⟩) := text_eq (by rw [← hsz, extract_drop])
    have HB : Hid (RBlk w B (l, f)) := h
    rw [Hid] at HT
    rw [← HT]
    have HP : Hid (∀ s : ByteArray, s = ⟨(l.drop n).toArray⟩ → RBlk (w.setCell ⟨B, 0, none⟩ (.string s)) B (l.drop n, f)) := fun s hs => by rw [hs]; exact blk_set HB.out
    generalize (⟨l.toArray⟩ : ByteArray) = s at c0 hsz HD HT ⊢
    clear h hx HR HT
    go_enter Tryz.func64, Tryz.ntmps64
    go_wp2
    go_ret
    exact ⟨rfl, HP.out _ HD.out, oth_set _ _ _ _⟩

set_option maxHeartbeats 400000 in
theorem number_any' (B : Nat) (r : Sh.Rd) (w : World) (h : RBlk w B r) (hl : r.1.length ≤ 1000000000000) :
    Calls Tryz.prog 68 #[.pointer (some ⟨B, 0, none⟩)] w fun e w' => e = .returned (.int .i64 (Sh.numR r).2) ∧ RBlk w' B (Sh.numR r).1 ∧ Oth B w w' := by
  have hx := RBx.of h
  obtain ⟨l, f⟩ := r
  dsimp only at hl hx
  have hsz : (⟨l.toArray⟩ : ByteArray).size = l.length := size_of l
  obtain ⟨n, x, b, hg⟩ : ∃ n x b, Vi.getS l 0 = (n, x, b) := ⟨_, _, _, rfl⟩
  have HG : Calls Tryz.prog 94 #[.string ⟨l.toArray⟩, .int .i64 0] w fun e w' => e = .returned (.tuple #[.int .i64 n, .int .i64 x, .bool b]) ∧ w' = w :=
    (get_any ⟨l.toArray⟩ 0 w (by rw [hsz]; omega)).mono fun e w' ⟨n', x', b', he, h1, h2⟩ => by
      have h3 : Vi.getS l 0 = (n', x', b') := h1
      rw [hg] at h3
      simp only [Prod.mk.injEq] at h3
      obtain ⟨rfl, rfl, rfl⟩ := h3
      exact ⟨he, h2⟩
  cases b with
  | false =>
    obtain ⟨rfl, rfl⟩ := Sh.getS_false hg
    rw [Sh.numR_no hg]
    have HW := want_any B (l, f) false w h
    have c0 := hx.c0
    generalize (⟨l.toArray⟩ : ByteArray) = s at c0 hsz HG
    replace HW : Hid _ := HW
    replace HG : Hid _ := HG
    clear h hx hg
    go_enter Tryz.func68, Tryz.ntmps68
    go_wp2_with fail
    refine Calls.mono HG.out ?_
    rintro e w1 ⟨rfl, rfl⟩
    go_wp2_with fail
    refine Calls.mono HW.out ?_
    rintro e w2 ⟨rfl, h1, h2⟩
    have h3 := RBx.of h1
    have d0 := h3.c0
    have d1 := h3.f0
    have HP : Hid (∀ s : ByteArray, s = ⟨#[]⟩ → RBlk (w2.setCell ⟨B, 0, none⟩ (.string s)) B ([], true)) := fun s hs => by rw [hs]; exact blk_set h1
    replace h2 : Hid _ := h2
    clear h3 h1
    go_wp2
    go_ret
    exact ⟨rfl, HP.out _ rfl, grown_trans h2.out (oth_set _ _ _ _)⟩
  | true =>
    obtain ⟨_, g2, g3, g4, g5, _, _⟩ := Gp.getS_some l 0 (by rw [hg])
    rw [hg] at g2 g3 g4 g5
    dsimp only at g2 g3 g4 g5
    obtain ⟨q, rfl⟩ : ∃ q : Nat, x = q := ⟨x.toNat, by omega⟩
    rw [Sh.numR_yes hg]
    have hq : q ≤ l.length := by omega
    have HW := want_any B (l, f) true w h
    rw [Sh.wantR_of rfl] at HW
    have HD : Hid ((⟨l.toArray⟩ : ByteArray).extract q l.length = ⟨(l.drop q).toArray⟩) := text_eq (by rw [← hsz, extract_drop])
    have HE : Hid (∀ w2, RBlk w2 B (l, f) → RBx w2 B ⟨l.toArray⟩ f ∧ RBlk (w2.setCell ⟨B, 0, none⟩ (.string ((⟨l.toArray⟩ : ByteArray).extract q l.length))) B (l.drop q, f)) := fun w2 h2 => ⟨RBx.of h2, by rw [HD.out]; exact blk_set h2⟩
    have c0 := hx.c0
    generalize (⟨l.toArray⟩ : ByteArray) = s at c0 hsz HG HD HE
    replace HW : Hid _ := HW
    replace HG : Hid _ := HG
    clear h hx hg g2 g3 g4 g5 HD
    go_enter Tryz.func68, Tryz.ntmps68
    go_wp2_with fail
    refine Calls.mono HG.out ?_
    rintro e w1 ⟨rfl, rfl⟩
    go_wp2_with fail
    refine Calls.mono HW.out ?_
    rintro e w2 ⟨rfl, h1, h2⟩
    obtain ⟨h3, h4⟩ := HE.out _ h1
    have d0 := h3.c0
    have d1 := h3.f0
    replace h2 : Hid _ := h2
    replace h4 : Hid _ := h4
    clear h3 h1 c0 HE
    go_wp2
    go_ret
    exact ⟨rfl, h4.out, grown_trans h2.out (oth_set _ _ _ _)⟩

set_option maxHeartbeats 400000 in
theorem octet_any (B : Nat) (r : Sh.Rd) (w : World) (h : RBlk w B r) (hl : r.1.length ≤ 1000000000000) :
    Calls Tryz.prog 92 #[.pointer (some ⟨B, 0, none⟩)] w fun e w' => e = .returned (.int .i64 (Sh.octR r).2) ∧ RBlk w' B (Sh.octR r).1 ∧ Oth B w w' := by
  have HT := text_any B r 1 w h hl (by omega)
  unfold Sh.octR
  dsimp only
  have H1 : Hid (∀ w', RBlk w' B (Sh.textR r 1).1 → RBlk w' B (Sh.textR r 1).1) := fun _ h => h
  have hc : (Sh.textR r 1).2 = [] ∨ ∃ x, (Sh.textR r 1).2 = [x] := by
    unfold Sh.textR
    by_cases h1 : r.1.length < 1
    · rw [if_pos h1]; exact .inl rfl
    · rw [if_neg h1]
      match hr : r.1, h1 with
      | [], h1 => simp at h1
      | x :: t, _ => exact .inr ⟨x, by simp⟩
  generalize Sh.textR r 1 = t at *
  obtain ⟨t1, t2⟩ := t
  dsimp only at *
  rcases hc with rfl | ⟨x, rfl⟩
  · replace HT : Hid _ := HT
    clear h H1
    go_enter Tryz.func92, Tryz.ntmps92
    go_wp2_with fail
    refine Calls.mono HT.out ?_
    rintro e w1 ⟨rfl, h1, h2⟩
    replace h1 : Hid _ := h1
    replace h2 : Hid _ := h2
    go_wp2
    go_ret
    exact ⟨rfl, h1.out, h2.out⟩
  · replace HT : Hid _ := HT
    clear h H1
    have hx := UInt8.toNat_lt x
    have he : (⟨[x].toArray⟩ : ByteArray).toList.isEmpty = false := by rw [ByteArray.toList_eq]; rfl
    have hs : (⟨[x].toArray⟩ : ByteArray).size = 1 := rfl
    obtain ⟨z, hz⟩ : ∃ z, x.toNat = z := ⟨_, rfl⟩
    have hg : ∀ h, ((⟨[x].toArray⟩ : ByteArray)[0]'h).toNat = z := fun _ => hz
    have hd : List.headD [x] 0 = x := rfl
    rw [hd, hz]
    rw [hz] at hx
    clear hz hd
    generalize (⟨[x].toArray⟩ : ByteArray) = s at *
    go_enter Tryz.func92, Tryz.ntmps92
    go_wp2_with fail
    refine Calls.mono HT.out ?_
    rintro e w1 ⟨rfl, h1, h2⟩
    replace h1 : Hid _ := h1
    replace h2 : Hid _ := h2
    go_wp2
    go_ret
    exact ⟨rfl, h1.out, h2.out⟩

set_option maxHeartbeats 400000 in
theorem list_any' (B : Nat) (r : Sh.Rd) (w : World) (h : RBlk w B r) (hl : r.1.length ≤ 1000000000000) :
    Calls Tryz.prog 91 #[.pointer (some ⟨B, 0, none⟩)] w fun e w' => ∃ v, e = .returned v ∧ (∃ m, w'.ownsRow w.heap.size 3 1 v m ((Sh.listR r).2.map (Value.int .i64))) ∧ RBlk w' B (Sh.listR r).1 ∧ Oth B w w' := by
  have hx := RBx.of h
  obtain ⟨l, f⟩ := r
  dsimp only at hl hx
  have hsz : (⟨l.toArray⟩ : ByteArray).size = l.length := size_of l
  have HG := decode_own ⟨l.toArray⟩ 0 w (by rw [hsz]; omega)
  cases hd : Gp.dec l 0 with
  | none =>
    rw [show (⟨l.toArray⟩ : ByteArray).data.toList = l from rfl, hd] at HG
    rw [Sh.listR_no hd]
    have HW : Hid (∀ w1, RBlk w1 B (l, f) → Calls Tryz.prog 63 #[.pointer (some ⟨B, 0, none⟩), .bool false] w1 fun e w' => e = .returned (.tuple #[]) ∧ RBlk w' B ([], true) ∧ Oth B w1 w') := fun w1 h1 => want_any B (l, f) false w1 h1
    have c0 := hx.c0
    have HB : Hid (RBlk w B (l, f)) := h
    generalize (⟨l.toArray⟩ : ByteArray) = s at c0 hsz HG
    replace HG : Hid _ := HG
    clear h hx hd
    go_enter Tryz.func91, Tryz.ntmps91
    go_wp2_with fail
    refine Calls.mono HG.out ?_
    rintro e w1 ⟨v, n, er, rfl, ⟨rfl, rfl, rfl⟩, hb1⟩
    have HW1 : Hid _ := HW.out w1 (HB.out.later hb1)
    replace hb1 : Hid (Oth B w w1) := Oth.of_below hb1
    clear HG HW c0
    go_wp2_with fail
    refine Calls.mono HW1.out ?_
    rintro e w2 ⟨rfl, h1, h2⟩
    have h3 := RBx.of h1
    have d0 := h3.c0
    have d1 := h3.f0
    have HP : Hid (∀ s : ByteArray, s = ⟨#[]⟩ → RBlk (w2.setCell ⟨B, 0, none⟩ (.string s)) B ([], true)) := fun s hs => by rw [hs]; exact blk_set h1
    replace h2 : Hid (Oth B w w2) := grown_trans hb1.out h2
    clear h3 h1 HW1
    go_wp2
    go_ret
    exact ⟨_, rfl, ⟨0, World.ownsRow_nil _ _ _ _⟩, HP.out _ rfl, grown_trans h2.out (oth_set _ _ _ _)⟩
  | some y =>
    obtain ⟨q, x⟩ := y
    rw [show (⟨l.toArray⟩ : ByteArray).data.toList = l from rfl, hd] at HG
    obtain ⟨_, _, _, g4, g5, _, _, _⟩ := Gp.enc_dec l 0 q x hd
    obtain ⟨n, rfl⟩ : ∃ n : Nat, x = n := ⟨x.toNat, by omega⟩
    rw [Sh.listR_yes hd]
    have hq : n ≤ l.length := by omega
    have HW : Hid (∀ w1, RBlk w1 B (l, f) → Calls Tryz.prog 63 #[.pointer (some ⟨B, 0, none⟩), .bool true] w1 fun e w' => e = .returned (.tuple #[]) ∧ RBlk w' B (l, f) ∧ Oth B w1 w') := fun w1 h1 => want_any B (l, f) true w1 h1
    have HD : Hid ((⟨l.toArray⟩ : ByteArray).extract n l.length = ⟨(l.drop n).toArray⟩) := text_eq (by rw [← hsz, extract_drop])
    have HE : Hid (∀ w2, RBlk w2 B (l, f) → RBx w2 B ⟨l.toArray⟩ f ∧ RBlk (w2.setCell ⟨B, 0, none⟩ (.string ((⟨l.toArray⟩ : ByteArray).extract n l.length))) B (l.drop n, f)) := fun w2 h2 => ⟨RBx.of h2, by rw [HD.out]; exact blk_set h2⟩
    have c0 := hx.c0
    have HB : Hid (RBlk w B (l, f)) := h
    generalize (⟨l.toArray⟩ : ByteArray) = s at c0 hsz HG HD HE
    replace HG : Hid _ := HG
    clear h hx hd g4 g5 HD
    go_enter Tryz.func91, Tryz.ntmps91
    go_wp2_with fail
    refine Calls.mono HG.out ?_
    rintro e w1 ⟨v, n', er, rfl, ⟨⟨m, hm⟩, rfl, rfl⟩, hb1⟩
    have HW1 : Hid _ := HW.out w1 (HB.out.later hb1)
    have hlt := HB.out.lt
    have HM : Hid (∀ w2, Oth B w1 w2 → w2.ownsRow w.heap.size 3 1 v m (q.map (Value.int .i64))) := fun w2 h2 => hm.kept h2 (by
      cases hv : v.ownBlock with
      | none => exact .inl rfl
      | some g => exact .inr fun e => by have := (hm.lt g hv).1; simp at e; omega)
    replace hb1 : Hid (Oth B w w1) := Oth.of_below hb1
    clear HG HW c0 hm hlt
    go_wp2_with fail
    refine Calls.mono HW1.out ?_
    rintro e w2 ⟨rfl, h1, h2⟩
    obtain ⟨h3, h4⟩ := HE.out _ h1
    have d0 := h3.c0
    have d1 := h3.f0
    have HM2 : Hid _ := HM.out _ (grown_trans h2 (oth_set _ _ 0 (.string (s.extract n l.length))))
    replace h2 : Hid (Oth B w w2) := grown_trans hb1.out h2
    replace h4 : Hid _ := h4
    clear h3 h1 HE HW1 HM
    go_wp2
    go_ret
    exact ⟨v, rfl, ⟨m, HM2.out⟩, h4.out, grown_trans h2.out (oth_set _ _ _ _)⟩

theorem textR_short (r : Sh.Rd) (n : Nat) : (Sh.textR r n).2.length ≤ n ∧ (Sh.textR r n).1.1.length ≤ r.1.length := by
  unfold Sh.textR
  by_cases h : r.1.length < n
  · rw [if_pos h]; exact ⟨Nat.zero_le _, Nat.zero_le _⟩
  · rw [if_neg h]
    refine ⟨?_, ?_⟩
    · show (r.1.take n).length ≤ n
      rw [List.length_take]; omega
    · show (r.1.drop n).length ≤ r.1.length
      rw [List.length_drop]; omega

set_option maxHeartbeats 400000 in
theorem table_any (B : Nat) (r : Sh.Rd) (m wd : Nat) (w : World) (h : RBlk w B r) (hl : r.1.length ≤ 1000000000000) (hm : m ≤ 256) (hw : wd ≤ 255) :
    Calls Tryz.prog 93 #[.pointer (some ⟨B, 0, none⟩), .int .i64 m, .int .i64 wd] w fun e w' => ∃ v, e = .returned v ∧ Ints w' v (Sh.tabR r m wd).2 ∧ RBlk w' B (Sh.tabR r m wd).1 ∧ Oth B w w' := by
  have hp : m * wd ≤ 256 * 255 := Nat.mul_le_mul hm hw
  have hp2 : (m : Int) * wd = ((m * wd : Nat) : Int) := by simp
  have HT := text_any B r ((m * wd + 7) / 8) w h hl (by omega)
  have hsh := (textR_short r ((m * wd + 7) / 8)).1
  unfold Sh.tabR
  dsimp only
  generalize m * wd = p at *
  have hq1 : (p + 7) / 8 ≤ 100000 := by omega
  have hq2 : ((p : Int) + 7) / 8 = (((p + 7) / 8 : Nat) : Int) := by omega
  generalize (p + 7) / 8 = q at *
  generalize Sh.textR r q = t at *
  obtain ⟨t1, t2⟩ := t
  dsimp only at *
  have HU : Hid (∀ W, Calls Tryz.prog 114 #[.string ⟨t2.toArray⟩, .int .i64 (m : Int), .int .i64 (wd : Int)] W fun e w' => ∃ v, e = .returned (.tuple #[v, .int .i64 (Pk.unpack t2 m wd).2]) ∧ Ints w' v (Pk.unpack t2 m wd).1 ∧ Below W.heap.size W w') := fun W => unpack_any ⟨t2.toArray⟩ m wd W (by rw [size_of]; omega)
  generalize Pk.unpack t2 m wd = u at *
  obtain ⟨u1, u2⟩ := u
  dsimp only at *
  obtain ⟨b, hb, hb2⟩ : ∃ b, (u2 == 0) = b ∧ decide (u2 = 0) = b := ⟨_, rfl, by rw [Bool.eq_iff_iff]; simp⟩
  rw [hb2]
  have HW : Hid (∀ w1, RBlk w1 B t1 → Calls Tryz.prog 63 #[.pointer (some ⟨B, 0, none⟩), .bool b] w1 fun e w' => e = .returned (.tuple #[]) ∧ RBlk w' B (Sh.wantR t1 b) ∧ Oth B w1 w') := fun w1 h1 => want_any B t1 b w1 h1
  replace HT : Hid _ := HT
  clear hb2 h
  go_enter Tryz.func93, Tryz.ntmps93
  go_wp2_with fail
  refine Calls.mono HT.out ?_
  rintro e w1 ⟨rfl, h1, h2⟩
  replace h1 : Hid (RBlk w1 B t1) := h1
  replace h2 : Hid (Oth B w w1) := h2
  clear HT
  go_wp2_with fail
  refine Calls.mono (HU.out _) ?_
  rintro e w2 ⟨v, rfl, h3, h4⟩
  replace h1 : Hid (RBlk w2 B t1) := h1.out.later h4
  replace h2 : Hid (Oth B w w2) := grown_trans h2.out (Oth.of_below h4)
  replace h3 : Hid (Ints w2 v u1) := h3
  clear HU h4
  go_wp2_with fail
  refine Calls.mono (HW.out _ h1.out) ?_
  rintro e w3 ⟨rfl, h5, h6⟩
  replace h5 : Hid _ := h5
  replace h3 : Hid (Ints w3 v u1) := h3.out.oth h1.out h6
  replace h2 : Hid (Oth B w w3) := grown_trans h2.out h6
  clear h6 HW
  go_wp2
  go_ret
  exact ⟨v, rfl, h3.out, h5.out, h2.out⟩

end Go.Proofs.YtbhngncnhabbkaaGreat
