/- The walk of shards.Make. -/
import Derived.Test.YtbhngncnhabbkaaGreatHSort
import Derived.Deep.AppendLies
import Derived.Deep.OwnRows
import Derived.Deep.RegionLaw
namespace Go.Proofs.YtbhngncnhabbkaaGreat
open Go.RowKit

/-- A function with another value at i. -/
def upd {α : Type} (f : Nat → α) (i : Nat) (v : α) : Nat → α := fun j => if j = i then v else f j
theorem upd_same {α : Type} (f : Nat → α) (i : Nat) (v : α) : upd f i v i = v := if_pos rfl
theorem upd_other {α : Type} (f : Nat → α) {i j : Nat} (v : α) (h : j ≠ i) : upd f i v j = f j := if_neg h

/-- Out in block g: n slices, each with a row of the call's own. -/
structure Mk (W : World) (g n base : Nat) (f : Nat → Value) (ls : Nat → List Int) : Prop where
  row : W.rowIs g 58 n f
  own : ∀ i, i < n → W.ownsRow base 3 1 (f i) (ls i).length (icells (ls i))
  apart : ∀ i j, i < n → j < n → i ≠ j → ∀ q, (f i).ownBlock = some q → (f j).ownBlock ≠ some q
  lt : g < base

section
variable {W W2 : World} {g n base : Nat} {f : Nat → Value} {ls : Nat → List Int}
theorem Mk.ne (h : Mk W g n base f ls) {i : Nat} (hi : i < n) : (f i).ownBlock ≠ some g := fun e => by
  have := ((h.own i hi).lt g e).1
  have := h.lt
  omega
theorem Mk.oth (h : Mk W g n base f ls) {P : Nat} (ho : Oth P W W2) (hP : P < g) : Mk W2 g n base f ls :=
  ⟨h.row.of_block (ho.block g h.row.lt (fun e => by simp at e; omega)), fun i hi => (h.own i hi).kept ho (by
    cases hv : (f i).ownBlock with
    | none => exact .inl rfl
    | some q => exact .inr fun e => by have := ((h.own i hi).lt q hv).1; have := h.lt; simp at e; omega), h.apart, h.lt⟩
theorem Mk.later (h : Mk W g n base f ls) (hb : Below W.heap.size W W2) : Mk W2 g n base f ls :=
  ⟨h.row.of_block (hb.block g h.row.lt), fun i hi => own_later (h.own i hi) hb, h.apart, h.lt⟩
/-- One of the rows turns; its slice stays. -/
theorem Mk.turn (h : Mk W g n base f ls) {i : Nat} (hi : i < n) {l : List Int} (hown : W2.ownsRow base 3 1 (f i) l.length (icells l)) (hg : W.grownBy W2 (f i).ownBlock) : Mk W2 g n base f (upd ls i l) where
  row := h.row.of_block (hg.block g h.row.lt (fun e => h.ne hi e.symm))
  own := fun j hj => by
    by_cases e : j = i
    · subst e; rw [upd_same]; exact hown
    · rw [upd_other _ _ e]
      refine (h.own j hj).kept hg ?_
      cases hv : (f j).ownBlock with
      | none => exact .inl rfl
      | some q => exact .inr fun e2 => h.apart j i hj hi e q hv e2.symm
  apart := h.apart
  lt := h.lt
/-- One of them is another slice: its row, or a new one. -/
theorem Mk.put (h : Mk W g n base f ls) {i : Nat} (hi : i < n) {v : Value} {l : List Int} (hown : W2.ownsRow base 3 1 v l.length (icells l)) (hg : W.grownBy W2 (f i).ownBlock) (hat : ∀ q, v.ownBlock = some q → (f i).ownBlock = some q ∨ W.heap.size ≤ q) :
    Mk (W2.setCell ⟨g, i, none⟩ v) g n base (upd f i v) (upd ls i l) := by
  have hr : W2.rowIs g 58 n f := h.row.of_block (hg.block g h.row.lt (fun e => h.ne hi e.symm))
  have hset := hr.set i v
  have ho : Oth g W2 (W2.setCell ⟨g, i, none⟩ v) := oth_set _ _ _ _
  have hne : ∀ q, v.ownBlock = some q → base ≤ q := fun q e => (hown.lt q e).1
  refine ⟨hset, fun j hj => ?_, fun j k hj hk hjk q hq => ?_, h.lt⟩
  · by_cases e : j = i
    · subst e
      rw [upd_same, upd_same]
      refine hown.kept ho ?_
      cases hv : v.ownBlock with
      | none => exact .inl rfl
      | some q => exact .inr fun e2 => by have := hne q hv; have := h.lt; simp at e2; omega
    · rw [upd_other _ _ e, upd_other _ _ e]
      have h1 : W2.ownsRow base 3 1 (f j) (ls j).length (icells (ls j)) := by
        refine (h.own j hj).kept hg ?_
        cases hv : (f j).ownBlock with
        | none => exact .inl rfl
        | some q => exact .inr fun e2 => h.apart j i hj hi e q hv e2.symm
      refine h1.kept ho ?_
      cases hv : (f j).ownBlock with
      | none => exact .inl rfl
      | some q => exact .inr fun e2 => h.ne hj (by rw [hv, ← e2])
  · by_cases e1 : j = i
    · subst e1
      rw [upd_same] at hq
      rw [upd_other _ _ (Ne.symm hjk)]
      intro hk2
      rcases hat q hq with h1 | h1
      · exact h.apart j k hj hk hjk q h1 hk2
      · have := ((h.own k hk).lt q hk2).2; omega
    · rw [upd_other _ _ e1] at hq
      by_cases e2 : k = i
      · subst e2
        rw [upd_same]
        intro hk2
        rcases hat q hk2 with h1 | h1
        · exact h.apart j k hj hk hjk q hq h1
        · have := ((h.own j hj).lt q hq).2; omega
      · rw [upd_other _ _ e2]
        exact h.apart j k hj hk hjk q hq
theorem Mk.lists (h : Mk W g n base f ls) : Lists W (.slice (some ⟨g, 0, none⟩) n n) ((List.range n).map ls) := by
  refine ⟨_, n, by simp, by simp, .inr ⟨g, 0, rfl, fun j hj => ⟨f j, ?_, ?_⟩⟩⟩
  · rw [Nat.zero_add]; exact h.row.cell (by simpa using hj)
  · have hj2 : j < n := by simpa using hj
    have e : ((List.range n).map ls).getD j [] = ls j := by simp [List.getD, hj2]
    rw [e]
    exact Ints.of_own (h.own j hj2)
theorem Mk.listsF (h : Mk W g n base f ls) : ListsF g W (.slice (some ⟨g, 0, none⟩) n n) ((List.range n).map ls) := by
  refine ⟨h.lists, fun q e => ?_, fun g' off m c e j hj x hx q hq => ?_⟩
  · have e2 : g = q := by simpa [Value.ownBlock] using e
    omega
  · simp only [Value.slice.injEq, Option.some.injEq, Addr.mk.injEq, and_true] at e
    obtain ⟨⟨rfl, rfl⟩, _, _⟩ := e
    have hj2 : j < n := by simpa using hj
    rw [Nat.zero_add, h.row.cell hj2] at hx
    cases hx
    have := ((h.own j hj2).lt q hq).1
    have := h.lt
    omega
theorem Mk.congr (h : Mk W g n base f ls) {ls' : Nat → List Int} (e : ∀ i, i < n → ls i = ls' i) : Mk W g n base f ls' :=
  ⟨h.row, fun i hi => by rw [← e i hi]; exact h.own i hi, h.apart, h.lt⟩
end

namespace Sh
theorem raws_snoc (l : List (Int × Int)) (e : Int × Int) (v : Int) : raws (l ++ [e]) v = raws l v ++ (if e.1 = v then [e.2] else []) := by
  unfold raws
  rw [List.filter_append, List.map_append]
  by_cases h : e.1 = v
  · simp [h]
  · simp [h]
theorem raws_len (l : List (Int × Int)) (v : Int) : (raws l v).length ≤ l.length := by
  unfold raws
  rw [List.length_map]
  exact List.length_filter_le _ _
theorem raws_take (l : List (Int × Int)) (k : Nat) (h : k < l.length) (v : Int) : raws (l.take (k + 1)) v = raws (l.take k) v ++ (if (l.getD k e0).1 = v then [(l.getD k e0).2] else []) := by
  rw [← raws_snoc, List.take_add_one, List.getElem?_eq_getElem h]
  simp [List.getD, h]
end Sh

theorem Edg.at_ {W : World} {a : Option Addr} {n cap k : Nat} {l : List (Int × Int)} (h : Edg W (.slice a n cap) l) (hk : k < l.length) :
    ∃ b off, a = some ⟨b, off, none⟩ ∧ W.cell? ⟨b, off + k * 2, none⟩ = some (.int .i64 (l.getD k e0).1) ∧ W.cell? ⟨b, off + k * 2 + 1, none⟩ = some (.int .i64 (l.getD k e0).2) := by
  obtain ⟨a', cap', e, _, h⟩ := h
  simp only [Value.slice.injEq] at e
  obtain ⟨rfl, _, _⟩ := e
  rcases h with rfl | ⟨b, off, rfl, h⟩
  · simp at hk
  · exact ⟨b, off, rfl, h k hk⟩
theorem blk_below {W W' : World} {B k : Nat} {o : Obj} (h : W.heap[k]? = some o) (hb : Below B W W') (hk : k < B) : W'.heap[k]? = some o := by
  rw [hb.block k hk]; exact h
theorem Tryz.intInfo2 : (Tryz.prog.info? 3).map (fun i => (i.zero, i.size, i.bytes)) = some (some (.int .i64 0), 1, 8) := by kernel_rfl

set_option maxHeartbeats 2000000 in
set_option maxRecDepth 100000 in
theorem smakeF_any (v : Value) (l : List (Int × Int)) (p : Int × Int) (w : World) (h : Edg w v l) (hl : l.length ≤ 1000000) (hp : (-9223372036854775808 ≤ p.1 ∧ p.1 ≤ 9223372036854775807) ∧ (-9223372036854775808 ≤ p.2 ∧ p.2 ≤ 9223372036854775807)) :
    Calls Tryz.prog 23 #[v, .agg #[.int .i64 p.1, .int .i64 p.2]] w fun e w' => ∃ u, e = .returned (.agg (scells (Sh.mk l p) u)) ∧ ListsF w.heap.size w' u (Sh.mk l p).2 ∧ Below w.heap.size w w' := by
  obtain ⟨i0, hi0, hz0, hz1, hz2⟩ := info_parts Tryz.intInfo2
  obtain ⟨p1, p2⟩ := p
  dsimp only at hp ⊢
  obtain ⟨wa, hwa⟩ : ∃ wa, w.alloc (.cells #[.int .i64 p1, .int .i64 p2] 23) = wa := ⟨_, rfl⟩
  obtain ⟨wb, hwb⟩ : ∃ wb, wa.alloc (.cells #[.int .i64 0, .int .i64 0, .slice none 0 0] 26) = wb := ⟨_, rfl⟩
  have HSA : Hid (wa.heap.size = w.heap.size + 1) := by rw [Hid, ← hwa]; simp
  have HSB : Hid (wb.heap.size = w.heap.size + 2) := by rw [Hid, ← hwb]; simp [HSA.out]
  have HP0 : Hid (wb.heap[w.heap.size]? = some (.cells #[.int .i64 p1, .int .i64 p2] 23 (0, 0))) := by rw [Hid, ← hwb, heap_alloc_old _ _ (by rw [HSA.out]; omega), ← hwa]; exact heap_alloc_new _ _
  have HP1 : Hid (wb.heap[wa.heap.size]? = some (.cells #[.int .i64 0, .int .i64 0, .slice none 0 0] 26 (0, 0))) := by rw [Hid, ← hwb]; exact heap_alloc_new _ _
  have HBB : Hid (Below w.heap.size w wb) := by rw [Hid, ← hwb, ← hwa]; exact ((Below.refl _ w).alloc (Nat.le_refl _) _).alloc (by simp) _
  have HM := smayP_any (p1, p2) wb
  dsimp only at HM
  obtain ⟨a, cap, rfl, hcap, _⟩ := id h
  have HEW : Hid (Edg w (.slice a l.length cap) l) := h
  clear h
  cases hm : Sh.mayP (p1, p2) with
  | false =>
    rw [hm] at HM
    have HR : Hid (Sh.mk l (p1, p2) = Sh.none_) := by unfold Sh.mk; rw [Hid, if_neg (by rw [hm]; simp)]
    rw [HR.out]
    replace HM : Hid _ := HM
    clear hm HR
    go_enter Tryz.func23, Tryz.ntmps23
    obtain ⟨a0, a1, _, _⟩ := two_cells HP0.out
    go_wp2_with fail
    refine Calls.mono HM.out ?_
    rintro e w1 ⟨rfl, hb1⟩
    obtain ⟨q0, q1, q2, f0, f1, f2⟩ := three_cells (blk_later HP1.out hb1)
    have HB1 : Hid (Below w.heap.size w w1) := bnext HBB.out hb1
    clear hb1 HM
    go_wp2
    refine bodyPost_ret (v := .agg #[.int .i64 0, .int .i64 0, .slice none 0 0]) ?r rfl ⟨.slice none 0 0, rfl, ⟨lists_nil _, fun q e => by simp [Value.ownBlock] at e, fun g off n c e => by simp at e⟩, ?b⟩
    case r =>
      rw [results_cell rfl]
      go_simp
    case b =>
      have hge : w.heap.size ≤ wa.heap.size := by rw [HSA.out]; omega
      exact ((HB1.out.setCell hge _).setCell hge _).setCell hge _
  | true =>
    rw [hm] at HM
    have hmp := Sh.mayP_iff.1 hm
    dsimp only at hmp
    obtain ⟨n, hn, hn1, hn2⟩ : ∃ n : Nat, p2 - p1 = (n : Int) ∧ 1 ≤ n ∧ n ≤ 256 := ⟨(p2 - p1).toNat, by omega, by omega, by omega⟩
    have HR : Hid (Sh.mk l (p1, p2) = ((p1, p2), (List.range n).map fun i => Sh.ends l (p1 + (i : Nat)))) := by
      unfold Sh.mk Sh.ofP
      rw [Hid, if_pos hm]
      dsimp only
      rw [show (p2 - p1).toNat = n by omega]
    rw [HR.out]
    unfold scells
    dsimp only
    have hmk : ∀ w : World, (Instr.makeSlice 24 (.int .i64 (n : Int)) (.int .i64 (n : Int))).run Tryz.prog w = .ok (.slice (some ⟨w.heap.size, 0, none⟩) n n) (w.alloc (.cells (madeCells #[.slice none 0 0] n) 58)) :=
      fun w => run_make_row' (P := Tryz.prog) 24 58 (.slice none 0 0) 24 Tryz.underlying24 (by kernel_rfl) rfl .i64 .i64 n (by omega) (by omega) w
    replace HM : Hid _ := HM
    clear hm HR
    go_enter Tryz.func23, Tryz.ntmps23
    obtain ⟨a0, a1, _, _⟩ := two_cells HP0.out
    go_wp2_with fail
    refine Calls.mono HM.out ?_
    rintro e w1 ⟨rfl, hb1⟩
    obtain ⟨wm, hwm⟩ : ∃ wm, w1.alloc (.cells (madeCells #[.slice none 0 0] n) 58) = wm := ⟨_, rfl⟩
    have hbm : Below w1.heap.size w1 wm := by rw [← hwm]; exact (Below.refl _ w1).alloc (Nat.le_refl _) _
    have HG : Hid (w.heap.size + 2 ≤ w1.heap.size) := by have := hb1.size; have := HSB.out; rw [Hid]; omega
    have HK0 : Hid (Mk wm w1.heap.size n (w1.heap.size + 1) (fun _ => .slice none 0 0) (fun i => Sh.raws (l.take 0) (p1 + (i : Nat)))) := by
      refine ⟨by rw [← hwm]; exact World.rowIs_made _ _ _ _, fun i hi => ?_, fun i j _ _ _ q hq => by simp [Value.ownBlock] at hq, Nat.lt_succ_self _⟩
      rw [show Sh.raws (l.take 0) (p1 + (i : Nat)) = [] by simp [Sh.raws]]
      exact World.ownsRow_nil _ _ _ _
    obtain ⟨r0, r1, _, _⟩ := two_cells (blk_later HP0.out hb1)
    replace HP0 : Hid _ := blk_later (blk_later HP0.out hb1) hbm
    replace HP1 : Hid _ := blk_later (blk_later HP1.out hb1) hbm
    have HB1 : Hid (Below w.heap.size w wm) := bnext (bnext HBB.out hb1) hbm
    obtain ⟨q0, q1, _, _⟩ := two_cells HP0.out
    have HGM : Hid (w1.heap.size ≤ wm.heap.size) := hbm.size
    clear hb1 hbm HM HBB a0 a1
    go_wp2_with fail
    go_loopw [22] (fun c wr => ∃ k : Nat, k ≤ l.length ∧ c = .int .i64 k ∧ Hid (∃ f, Mk wr w1.heap.size n (w1.heap.size + 1) f (fun i => Sh.raws (l.take k) (p1 + (i : Nat)))) ∧ Hid (Below w1.heap.size wm wr)) (fun c _ => l.length - (intOf c).toNat)
    case atStart => exact ⟨0, Nat.zero_le _, rfl, ⟨_, HK0⟩, Below.refl _ _⟩
    case round =>
      obtain ⟨k, hk, rfl, HF, HB⟩ := hrel
      have hbw : Below w.heap.size w wr := HB1.out.trans (HB.out.mono (by have := HG.out; omega))
      have hpw := blk_below HP0.out HB.out (by have := HG.out; omega)
      by_cases hlt : k < l.length
      · obtain ⟨b, off, rfl, c1, c2⟩ := (HEW.out.later hbw).at_ hlt
        have HRT : Hid (∀ v, Sh.raws (l.take (k + 1)) v = Sh.raws (l.take k) v ++ (if (l.getD k e0).1 = v then [(l.getD k e0).2] else [])) := fun v => Sh.raws_take l k hlt v
        have HRL : Hid (∀ v, (Sh.raws (l.take k) v).length ≤ 1000000) := fun v => by
          have := Sh.raws_len (l.take k) v
          rw [List.length_take] at this
          rw [Hid] at *
          omega
        obtain ⟨f, hf⟩ := HF.out
        generalize l.getD k e0 = ed at *
        obtain ⟨x, y⟩ := ed
        dsimp only at c1 c2 HRT
        obtain ⟨wc, hwc⟩ : ∃ wc, wr.alloc (.cells #[.int .i64 x, .int .i64 y] 56) = wc := ⟨_, rfl⟩
        have hbc : Below wr.heap.size wr wc := by rw [← hwc]; exact (Below.refl _ wr).alloc (Nat.le_refl _) _
        have hec : wc.heap[wr.heap.size]? = some (.cells #[.int .i64 x, .int .i64 y] 56 (0, 0)) := by rw [← hwc]; exact heap_alloc_new _ _
        obtain ⟨e1, e2, _, _⟩ := two_cells hec
        obtain ⟨s1, s2, _, _⟩ := two_cells (blk_later hpw hbc)
        have hgr : w1.heap.size ≤ wr.heap.size := Nat.le_trans HGM.out HB.out.size
        have HBC : Hid (Below w1.heap.size wm wc) := HB.out.trans (hbc.mono hgr)
        have HGC : Hid (w1.heap.size ≤ wc.heap.size) := Nat.le_trans hgr hbc.size
        clear hgr
        have HMC : Hid (Mk wc w1.heap.size n (w1.heap.size + 1) f (fun i => Sh.raws (l.take k) (p1 + (i : Nat)))) := hf.later hbc
        have HEC : Hid (wc.heap[wr.heap.size]? = _) := hec
        clear hf hbc hec hpw hbw
        by_cases hx1 : p1 ≤ x
        · by_cases hx2 : x < p2
          · obtain ⟨j, hj, hjn⟩ : ∃ j : Nat, x - p1 = (j : Int) ∧ j < n := ⟨(x - p1).toNat, by omega, by omega⟩
            obtain ⟨wd, hwd⟩ : ∃ wd, wc.alloc (.cells #[.int .i64 y] 3) = wd := ⟨_, rfl⟩
            have hbd : Below wc.heap.size wc wd := by rw [← hwd]; exact (Below.refl _ wc).alloc (Nat.le_refl _) _
            have HBD : Hid (Below w1.heap.size wm wd) := HBC.out.trans (hbd.mono HGC.out)
            have HMD : Hid (Mk wd w1.heap.size n (w1.heap.size + 1) f (fun i => Sh.raws (l.take k) (p1 + (i : Nat)))) := HMC.out.later hbd
            have HGD : Hid (w1.heap.size + 1 ≤ wd.heap.size) := by have := HGC.out; rw [Hid, ← hwd]; simp; omega
            have HED : Hid (wd.heap[wr.heap.size]? = _) := blk_later HEC.out hbd
            have hec := HEC.out
            have hed := HED.out
            obtain ⟨_, e4, _, _⟩ := two_cells (W := wc.drew) hec
            obtain ⟨_, e5, _, _⟩ := two_cells (W := wd.drew) hed
            have g1 : wc.drew.cell? ⟨w1.heap.size, j, none⟩ = some (f j) := HMC.out.row.cell hjn
            have g2 : wd.drew.cell? ⟨w1.heap.size, j, none⟩ = some (f j) := HMD.out.row.cell hjn
            have g3 : wc.drew.frozen? ⟨w1.heap.size, j, none⟩ = false := HMC.out.row.frozen j
            have g4 : wd.drew.frozen? ⟨w1.heap.size, j, none⟩ = false := HMD.out.row.frozen j
            have HOW : Hid (wd.drew.ownsRow (w1.heap.size + 1) 3 1 (f j) (Sh.raws (l.take k) (p1 + (j : Nat))).length (icells (Sh.raws (l.take k) (p1 + (j : Nat))))) := HMD.out.own j hjn
            have HRJ := HRL.out (p1 + (j : Nat))
            have hnb : wd.heap[wc.heap.size]? = some (.cells #[.int .i64 y] 3 (0, 0)) := by rw [← hwd]; exact heap_alloc_new _ _
            have HNB : Hid (wd.drew.heap[wc.heap.size]? = some (.cells #[.int .i64 y] 3 (0, 0))) := hnb
            have HUPD : Hid (∀ i, i < n → upd (fun i => Sh.raws (l.take k) (p1 + (i : Nat))) j (Sh.raws (l.take k) (p1 + (j : Nat)) ++ [y]) i = Sh.raws (l.take (k + 1)) (p1 + (i : Nat))) := fun i hi => by
              rw [HRT.out]
              by_cases e : i = j
              · subst e
                rw [upd_same, if_pos (by omega)]
              · rw [upd_other _ _ e, if_neg (by omega), List.append_nil]
            have hd1 : decide (p1 ≤ x) = true := by simpa using hx1
            have hd2 : decide (x < p2) = true := by simpa using hx2
            have hwds : wd.drew.heap.size = wd.heap.size := rfl
            generalize Sh.raws (l.take k) (p1 + (j : Nat)) = rj at *
            clear hbd hec hed hnb HMC HEC HED HBC HRT HRL hx1 hx2
            go_wp2_with fail
            go_region_law (first
              | (refine step_append_lies _ (by rfl) _ _ _ (by rfl) (w1.heap.size + 1) 3 i0 (.int .i64 0) 1 8 Tryz.underlying58 hi0 hz0 hz1 hz2 rfl (by decide) (f j) rj.length (icells rj) (by rfl) HOW.out
                  ⟨wc.heap.size, 0, none⟩ 1 1 [.int .i64 y] (by rfl) (by rfl) (World.news_of_block (cs := #[.int .i64 y]) (t := 3) (fr := (0, 0)) HNB.out) (by simp [Value.oneCell'])
                  (by omega) (by unfold maxLen; omega) (by omega) HGD.out wd.heap.size (by rfl) ?_; intro g cap2 w2 hown hgrow hat hlt2
                 have hgrow2 : wd.grownBy w2 (f j).ownBlock := ⟨hgrow.os, hgrow.tape, hgrow.output, hgrow.size, hgrow.block⟩
                 have hrow2 : w2.rowIs w1.heap.size 58 n f := HMD.out.row.of_block (hgrow2.block _ HMD.out.row.lt (fun e => HMD.out.ne hjn e.symm))
                 have g5 : w2.cell? ⟨w1.heap.size, j, none⟩ = some (f j) := hrow2.cell hjn
                 have g6 : w2.frozen? ⟨w1.heap.size, j, none⟩ = false := hrow2.frozen j
                 have HM3 : Hid (Mk (w2.setCell ⟨w1.heap.size, j, none⟩ (.slice (some ⟨g, 0, none⟩) (rj.length + 1) cap2)) w1.heap.size n (w1.heap.size + 1) (upd f j (.slice (some ⟨g, 0, none⟩) (rj.length + 1) cap2)) (upd (fun i => Sh.raws (l.take k) (p1 + (i : Nat))) j (rj ++ [y]))) :=
                   HMD.out.put hjn (by rw [List.length_append, icells, List.map_append]; exact hown) hgrow2 (fun q e => by
                     have e2 : g = q := by simpa [Value.ownBlock] using e
                     subst e2
                     exact hat.imp id fun h => by rw [h]; exact Nat.le_refl _)
                 have HB3 : Hid (Below w1.heap.size wm (w2.setCell ⟨w1.heap.size, j, none⟩ (.slice (some ⟨g, 0, none⟩) (rj.length + 1) cap2))) :=
                   (HBD.out.grown hgrow2 (Nat.le_of_succ_le HGD.out) (fun q e => Nat.le_of_succ_le ((HMD.out.own j hjn).lt q e).1)).setCell (Nat.le_refl _) _
                 clear hgrow hgrow2 hrow2 hown hat hlt2))
            all_goals go_wp2
            all_goals go_roundw
            all_goals first
              | exact ⟨k + 1, by omega, by go_num, ⟨_, HM3.out.congr HUPD.out⟩, HB3.out⟩
              | (simp [intOf]; omega)
          · have HM2 : Hid (Mk wc w1.heap.size n (w1.heap.size + 1) f (fun i => Sh.raws (l.take (k + 1)) (p1 + (i : Nat)))) := HMC.out.congr fun i hi => by
              rw [HRT.out, if_neg (by omega), List.append_nil]
            have hd1 : decide (p1 ≤ x) = true := by simpa using hx1
            have hd2 : decide (x < p2) = false := by simpa using hx2
            clear HMC HEC hx1 hx2
            go_wp2
            go_roundw
            case rel => exact ⟨k + 1, by omega, by go_num, ⟨f, HM2.out⟩, HBC.out⟩
            case measure => simp [intOf]; omega
        · have HM2 : Hid (Mk wc w1.heap.size n (w1.heap.size + 1) f (fun i => Sh.raws (l.take (k + 1)) (p1 + (i : Nat)))) := HMC.out.congr fun i hi => by
            rw [HRT.out, if_neg (by omega), List.append_nil]
          have hd1 : decide (p1 ≤ x) = false := by simpa using hx1
          clear HMC HEC hx1
          go_wp2
          go_roundw
          case rel => exact ⟨k + 1, by omega, by go_num, ⟨f, HM2.out⟩, HBC.out⟩
          case measure => simp [intOf]; omega
      · obtain rfl : k = l.length := by omega
        obtain ⟨f, hf⟩ := HF.out
        rw [List.take_length] at hf
        have HM0 : Hid (Mk wr w1.heap.size n (w1.heap.size + 1) f (fun i => if i < 0 then Sh.ends l (p1 + (i : Nat)) else Sh.raws l (p1 + (i : Nat)))) := hf.congr fun i hi => by rw [if_neg (by omega)]
        clear hf HF hpw hbw
        go_wp2_with fail
        go_loopw [57] (fun c wr => ∃ i : Nat, i ≤ n ∧ c = .int .i64 i ∧ Hid (∃ f, Mk wr w1.heap.size n (w1.heap.size + 1) f (fun j => if j < i then Sh.ends l (p1 + (j : Nat)) else Sh.raws l (p1 + (j : Nat)))) ∧ Hid (Below w1.heap.size wm wr)) (fun c _ => n - (intOf c).toNat)
        case atStart => exact ⟨0, Nat.zero_le _, rfl, ⟨_, HM0⟩, HB.out⟩
        case round =>
          clear HM0 HB
          obtain ⟨i, hi, rfl, HF, HB⟩ := hrel
          obtain ⟨f, hf⟩ := HF.out
          by_cases hlt2 : i < n
          · have g1 := hf.row.cell hlt2
            have hown : wr.ownsRow (w1.heap.size + 1) 3 1 (f i) (Sh.raws l (p1 + (i : Nat))).length (icells (Sh.raws l (p1 + (i : Nat)))) := by
              have := hf.own i hlt2
              rwa [if_neg (by omega)] at this
            have hrl := Sh.raws_len l (p1 + (i : Nat))
            have HSO := isort_own (f i) _ _ _ wr hown (by omega)
            have HRE : Hid (Lib.compact (isort (Sh.raws l (p1 + (i : Nat)))) = Sh.ends l (p1 + (i : Nat))) := Sh.raws_ends _ _
            have hsl := Sh.isort_len (Sh.raws l (p1 + (i : Nat)))
            have HMR : Hid (Mk wr w1.heap.size n (w1.heap.size + 1) f (fun j => if j < i then Sh.ends l (p1 + (j : Nat)) else Sh.raws l (p1 + (j : Nat)))) := hf
            have HBR : Hid (∀ q, (f i).ownBlock = some q → w1.heap.size ≤ q) := fun q e => Nat.le_of_succ_le (hown.lt q e).1
            generalize isort (Sh.raws l (p1 + (i : Nat))) = sj at *
            generalize (Sh.raws l (p1 + (i : Nat))).length = rl at *
            replace HSO : Hid _ := HSO
            clear hf HF hown
            go_wp2_with fail
            refine Calls.mono HSO.out ?_
            rintro e w2 ⟨rfl, ho2, hg2⟩
            have hm2 : Mk w2 w1.heap.size n (w1.heap.size + 1) f _ := HMR.out.turn hlt2 (l := sj) (by rw [hsl]; exact ho2) hg2
            have g2 := hm2.row.cell hlt2
            have HCO := icomp_own (f i) (w1.heap.size + 1) rl sj w2 ho2 (by omega)
            rw [HRE.out] at HCO
            have HM2 : Hid (Mk w2 w1.heap.size n (w1.heap.size + 1) f _) := hm2
            have HB2 : Hid (Below w1.heap.size wm w2) := HB.out.grown hg2 (Nat.le_trans HGM.out HB.out.size) (fun q e => HBR.out q e)
            replace HCO : Hid _ := HCO
            clear HSO ho2 hg2 hm2 HMR HB g1
            go_wp2_with fail
            refine Calls.mono HCO.out ?_
            rintro e w3 ⟨v', rfl, hv', ho3, hg3⟩
            obtain ⟨va, vc, rfl, _⟩ := Ints.of_own ho3
            generalize hlen : (Sh.ends l (p1 + (i : Nat))).length = le at *
            have hrow3 : w3.rowIs w1.heap.size 58 n f := HM2.out.row.of_block (hg3.block _ HM2.out.row.lt (fun e => HM2.out.ne hlt2 e.symm))
            have g3 := hrow3.cell hlt2
            have g4 := hrow3.frozen i
            have HM3 : Hid (Mk (w3.setCell ⟨w1.heap.size, i, none⟩ (.slice va le vc)) w1.heap.size n (w1.heap.size + 1) (upd f i (.slice va le vc)) (fun j => if j < i + 1 then Sh.ends l (p1 + (j : Nat)) else Sh.raws l (p1 + (j : Nat)))) :=
              (HM2.out.put hlt2 (by rw [hlen]; exact ho3) hg3 (fun q e => .inl (by rw [← hv', e]))).congr fun j hj => by
                by_cases e : j = i
                · subst e; rw [upd_same, if_pos (by omega)]
                · rw [upd_other _ _ e, upd_other _ _ e]
                  by_cases e2 : j < i
                  · rw [if_pos e2, if_pos (by omega)]
                  · rw [if_neg e2, if_neg (by omega)]
            have HB3 : Hid (Below w1.heap.size wm (w3.setCell ⟨w1.heap.size, i, none⟩ (.slice va le vc))) :=
              (HB2.out.grown hg3 (Nat.le_trans HGM.out HB2.out.size) (fun q e => HBR.out q e)).setCell (Nat.le_refl _) _
            clear HCO hv' ho3 hg3 hrow3 HM2 HB2 hlen HRE
            go_wp2
            go_roundw
            case rel => exact ⟨i + 1, by omega, by go_num, ⟨_, HM3.out⟩, HB3.out⟩
            case measure => simp [intOf]; omega
          · obtain rfl : i = n := by omega
            have hpw := blk_below HP0.out HB.out (by have := HG.out; omega)
            have hqw := blk_below HP1.out HB.out (by have := HG.out; have := HSA.out; omega)
            obtain ⟨s0, s1, _, _⟩ := two_cells hpw
            obtain ⟨t0, t1, t2, u0, u1, u2⟩ := three_cells hqw
            have HMF : Hid (Mk wr w1.heap.size i (w1.heap.size + 1) f (fun j => Sh.ends l (p1 + (j : Nat)))) := hf.congr fun j hj => by rw [if_pos hj]
            have HPG : Hid (wa.heap.size < w1.heap.size) := by have := HG.out; have := HSA.out; rw [Hid]; omega
            have HBW : Hid (Below w.heap.size w wr) := HB1.out.trans (HB.out.mono (by have := HG.out; omega))
            have HPW : Hid (w.heap.size ≤ wa.heap.size) := by have := HSA.out; rw [Hid]; omega
            clear hf HF hpw hqw HP0 HP1 HB HB1
            go_wp2
            refine bodyPost_ret (v := .agg #[.int .i64 p1, .int .i64 p2, .slice (some ⟨w1.heap.size, 0, none⟩) i i]) ?r rfl ⟨_, rfl, (((HMF.out.oth (oth_set _ _ _ _) HPG.out).oth (oth_set _ _ _ _) HPG.out).oth (oth_set _ _ _ _) HPG.out).listsF.mono (Nat.le_trans HPW.out (Nat.le_of_lt HPG.out)), ?b⟩
            case r =>
              rw [results_cell rfl]
              go_simp
            case b => exact ((HBW.out.setCell HPW.out _).setCell HPW.out _).setCell HPW.out _

theorem smake_any (v : Value) (l : List (Int × Int)) (p : Int × Int) (w : World) (h : Edg w v l) (hl : l.length ≤ 1000000) (hp : (-9223372036854775808 ≤ p.1 ∧ p.1 ≤ 9223372036854775807) ∧ (-9223372036854775808 ≤ p.2 ∧ p.2 ≤ 9223372036854775807)) :
    Calls Tryz.prog 23 #[v, .agg #[.int .i64 p.1, .int .i64 p.2]] w fun e w' => ∃ u, e = .returned (.agg (scells (Sh.mk l p) u)) ∧ Lists w' u (Sh.mk l p).2 ∧ Below w.heap.size w w' :=
  (smakeF_any v l p w h hl hp).mono fun _ _ ⟨u, he, hl, hb⟩ => ⟨u, he, hl.lists, hb⟩

end Go.Proofs.YtbhngncnhabbkaaGreat
