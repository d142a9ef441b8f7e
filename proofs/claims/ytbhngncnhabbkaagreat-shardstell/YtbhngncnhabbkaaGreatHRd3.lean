/- The walks of what reads a shard: lists, shard. -/
import Derived.Test.YtbhngncnhabbkaaGreatHRd2
import Derived.Deep.OwnRows
namespace Go.Proofs.YtbhngncnhabbkaaGreat
open Go.RowKit

/-- A list that lies somewhere lies there still: where slices lie no int lies. -/
theorem Ints.row {W W' : World} {g n : Nat} {t : TypeId} {f : Nat → Value} {v : Value} {l : List Int} (h : Ints W v l) (hr : W.rowIs g t n f) (hs : ∀ i, i < n → ∃ a m c, f i = .slice a m c) (ho : Oth g W W') : Ints W' v l := by
  obtain ⟨a, cap, rfl, h⟩ := h
  refine ⟨a, cap, rfl, ?_⟩
  rcases h with h | ⟨b, off, rfl, hlt, hc⟩
  · exact .inl h
  · refine .inr ⟨b, off, rfl, Nat.lt_of_lt_of_le hlt ho.size, fun j hj => ?_⟩
    have h1 := hc j hj
    refine ho.cell h1 fun e => ?_
    have e2 : b = g := by simpa using e
    subst e2
    by_cases hi : off + j < n
    · obtain ⟨a, m, c, hf⟩ := hs _ hi
      rw [hr.cell hi, hf] at h1
      simp at h1
    · obtain ⟨c, hb, hn, _⟩ := hr
      simp only [World.cell?, hb] at h1
      rw [Array.getElem?_eq_none (by omega)] at h1
      simp at h1

namespace Sh
theorem lstsR_app : ∀ (a b : List Int) (r : Rd), lstsR r (a ++ b) = ((lstsR (lstsR r a).1 b).1, (lstsR r a).2 ++ (lstsR (lstsR r a).1 b).2)
  | [], b, r => rfl
  | d :: a, b, r => by
    rw [List.cons_append, lstsR, lstsR_app a b (oneR r d).1]
    rfl
theorem lstsR_one (r : Rd) (d : Int) : lstsR r [d] = ((oneR r d).1, [(oneR r d).2]) := rfl
theorem lstsR_take (r : Rd) (ds : List Int) (k : Nat) (h : k < ds.length) : lstsR r (ds.take (k + 1)) = ((oneR (lstsR r (ds.take k)).1 (ds.getD k 0)).1, (lstsR r (ds.take k)).2 ++ [(oneR (lstsR r (ds.take k)).1 (ds.getD k 0)).2]) := by
  rw [Gp.take_succ ds k h, lstsR_app, lstsR_one]
theorem lstsR_len : ∀ (ds : List Int) (r : Rd), (lstsR r ds).2.length = ds.length
  | [], r => rfl
  | d :: ds, r => by rw [lstsR]; simp [lstsR_len ds]
theorem listR_short (r : Rd) : (listR r).1.1.length ≤ r.1.length ∧ Gp.Fit (listR r).2 ∧ (listR r).2.length ≤ r.1.length := by
  cases hd : Gp.dec r.1 0 with
  | none =>
    have e : listR r = (([], true), []) := by unfold listR; rw [hd]
    rw [e]
    exact ⟨Nat.zero_le _, fun z hz => by simp at hz, Nat.zero_le _⟩
  | some y =>
    obtain ⟨q, x⟩ := y
    have e : listR r = ((r.1.drop x.toNat, r.2), q) := by unfold listR; rw [hd]
    obtain ⟨_, _, h3, _, _, _, _, h8⟩ := Gp.enc_dec _ _ _ _ hd
    rw [e]
    refine ⟨?_, h3, h8⟩
    show (r.1.drop _).length ≤ _
    rw [List.length_drop]; omega
theorem oneR_short (r : Rd) (d : Int) : (oneR r d).1.1.length ≤ r.1.length ∧ Gp.Fit (oneR r d).2 ∧ (oneR r d).2.length ≤ r.1.length := by
  obtain ⟨h1, h2, h3⟩ := listR_short r
  exact ⟨Nat.le_trans (wantR_short _ _) h1, h2, h3⟩
theorem lstsR_short : ∀ (ds : List Int) (r : Rd), (lstsR r ds).1.1.length ≤ r.1.length ∧ ∀ l ∈ (lstsR r ds).2, Gp.Fit l ∧ l.length ≤ r.1.length
  | [], r => ⟨Nat.le_refl _, fun l hl => by simp [lstsR] at hl⟩
  | d :: ds, r => by
    obtain ⟨h1, h2, h3⟩ := oneR_short r d
    obtain ⟨h4, h5⟩ := lstsR_short ds (oneR r d).1
    refine ⟨Nat.le_trans h4 h1, fun l hl => ?_⟩
    rcases List.mem_cons.1 (show l ∈ (oneR r d).2 :: (lstsR (oneR r d).1 ds).2 from hl) with rfl | hl
    · exact ⟨h2, h3⟩
    · obtain ⟨h6, h7⟩ := h5 l hl
      exact ⟨h6, Nat.le_trans h7 h1⟩
end Sh

/-- What it is a slice of begins at block b or later. -/
def From (b : Nat) (v : Value) : Prop := ∀ q, v.ownBlock = some q → b ≤ q
/-- The lists that the slice v holds, all of which lie from block b on. -/
structure ListsF (b : Nat) (W : World) (v : Value) (o : List (List Int)) : Prop where
  lists : Lists W v o
  top : From b v
  all : ∀ g off n c, v = .slice (some ⟨g, off, none⟩) n c → ∀ j, j < o.length → ∀ x, W.cell? ⟨g, off + j, none⟩ = some x → From b x
theorem Ints.past {W W' : World} {b P : Nat} {v : Value} {l : List Int} (h : Ints W v l) (hf : From b v) (hP : P < b) (ho : Oth P W W') : Ints W' v l := by
  obtain ⟨a, cap, rfl, h⟩ := h
  refine ⟨a, cap, rfl, ?_⟩
  rcases h with h | ⟨g, off, rfl, hlt, hc⟩
  · exact .inl h
  · have hg := hf g rfl
    refine .inr ⟨g, off, rfl, Nat.lt_of_lt_of_le hlt ho.size, fun j hj => ho.cell (hc j hj) fun e => ?_⟩
    have e2 : g = P := by simpa using e
    omega
theorem ListsF.past {W W' : World} {b P : Nat} {v : Value} {o : List (List Int)} (h : ListsF b W v o) (hP : P < b) (ho : Oth P W W') : ListsF b W' v o := by
  obtain ⟨h1, h2, h3⟩ := h
  obtain ⟨a, cap, rfl, hcap, h1⟩ := h1
  rcases h1 with h1 | ⟨g, off, rfl, hc⟩
  · refine ⟨⟨a, cap, rfl, hcap, .inl h1⟩, h2, fun g off n c _ j hj => by subst h1; simp at hj⟩
  · have hg := h2 g rfl
    have hne : ∀ j, some (⟨g, off + j, none⟩ : Addr).block ≠ some P := fun j e => by
      have e2 : g = P := by simpa using e
      omega
    refine ⟨⟨_, cap, rfl, hcap, .inr ⟨g, off, rfl, fun j hj => ?_⟩⟩, h2, fun g' off' n c e j hj x hx => ?_⟩
    · obtain ⟨x, hx, hi⟩ := hc j hj
      exact ⟨x, ho.cell hx (hne j), hi.past (h3 g off _ _ rfl j hj x hx) hP ho⟩
    · simp only [Value.slice.injEq, Option.some.injEq, Addr.mk.injEq, and_true] at e
      obtain ⟨⟨rfl, rfl⟩, _, _⟩ := e
      obtain ⟨y, hy, _⟩ := hc j hj
      have hy2 := ho.cell hy (hne j)
      rw [hy2] at hx
      cases hx
      exact h3 g off _ _ rfl j hj _ hy
theorem ListsF.oth {W W' : World} {B b : Nat} {r : Sh.Rd} {v : Value} {o : List (List Int)} (h : ListsF b W v o) (hB : RBlk W B r) (ho : Oth B W W') : ListsF b W' v o := by
  refine ⟨h.lists.oth hB ho, h.top, fun g off n c e j hj x hx => ?_⟩
  subst e
  obtain ⟨b', off', e2, y, hy, hi⟩ := h.lists.at_ (k := j) (by
    obtain ⟨_, _, e, _⟩ := h.lists
    exact hj)
  simp only [Option.some.injEq, Addr.mk.injEq, and_true] at e2
  obtain ⟨rfl, rfl⟩ := e2
  have hy2 : W'.cell? ⟨g, off + j, none⟩ = some y := ho.cell hy fun e => by
    have e2 : g = B := by simpa using e
    subst e2
    obtain ⟨a, cap, rfl, _⟩ := hi
    simp only [World.cell?, hB] at hy
    match hoj : off + j, hy with
    | 0, hy => simp at hy
    | 1, hy => simp at hy
    | n + 2, hy => simp at hy
  rw [hy2] at hx
  cases hx
  exact h.all g off n c rfl j hj _ hy

/-- Out, the first k of it laid. -/
structure Outs (W : World) (g n k : Nat) (o : List (List Int)) (f : Nat → Value) : Prop where
  row : W.rowIs g 58 n f
  rest : ∀ i, k ≤ i → f i = .slice none 0 0
  slices : ∀ i, ∃ a m c, f i = .slice a m c
  lists : ∀ j, j < k → Ints W (f j) (o.getD j [])
  from_ : ∀ j, j < k → From g (f j)

theorem Outs.oth {W W' : World} {B g n k : Nat} {o : List (List Int)} {f : Nat → Value} {r : Sh.Rd} (h : Outs W g n k o f) (hB : RBlk W B r) (ho : Oth B W W') (hne : g ≠ B) : Outs W' g n k o f :=
  ⟨h.row.of_block (ho.block g h.row.lt (fun e => hne (by simpa using e))), h.rest, h.slices, fun j hj => (h.lists j hj).oth hB ho, h.from_⟩
/-- One more list is laid. -/
theorem Outs.put {W W2 : World} {g n k : Nat} {o : List (List Int)} {f : Nat → Value} {a : Option Addr} {c : Nat} {q : List Int} (h : Outs W g n k o f) (hk : k < n) (hlen : o.length = k) (hq : Ints W (.slice a q.length c) q) (hqf : From g (.slice a q.length c)) (hw : W.setCell ⟨g, k, none⟩ (.slice a q.length c) = W2) :
    Outs W2 g n (k + 1) (o ++ [q]) (fun j => if j = k then .slice a q.length c else f j) := by
  subst hw
  have ho : Oth g W (W.setCell ⟨g, k, none⟩ (.slice a q.length c)) := oth_set _ _ _ _
  refine ⟨h.row.set k _, fun i hi => by rw [if_neg (by omega)]; exact h.rest i (by omega), fun i => ?_, fun j hj => ?_, fun j hj => ?_⟩
  · by_cases e : i = k
    · rw [if_pos e]; exact ⟨_, _, _, rfl⟩
    · rw [if_neg e]; exact h.slices i
  · by_cases e : j = k
    · subst e
      rw [if_pos rfl, List.getD_eq_getElem?_getD, List.getElem?_append_right (by omega), hlen, Nat.sub_self]
      exact hq.row h.row (fun i _ => h.slices i) ho
    · rw [if_neg e, List.getD_eq_getElem?_getD, List.getElem?_append_left (by omega), ← List.getD_eq_getElem?_getD]
      exact (h.lists j (by omega)).row h.row (fun i _ => h.slices i) ho
  · by_cases e : j = k
    · rw [if_pos e]; exact hqf
    · rw [if_neg e]; exact h.from_ j (by omega)

set_option maxHeartbeats 1000000 in
set_option maxRecDepth 100000 in
theorem rlists_any (B : Nat) (r : Sh.Rd) (v : Value) (ds : List Int) (w : World) (h : RBlk w B r) (hv : Ints w v ds) (hl : r.1.length ≤ 1000000000000) (hd : ds.length ≤ 65536) :
    Calls Tryz.prog 66 #[.pointer (some ⟨B, 0, none⟩), v] w fun e w' => ∃ u, e = .returned u ∧ ListsF w.heap.size w' u (Sh.lstsR r ds).2 ∧ RBlk w' B (Sh.lstsR r ds).1 ∧ Oth B w w' := by
  have hmk : ∀ w : World, (Instr.makeSlice 24 (.int .i64 (ds.length : Int)) (.int .i64 (ds.length : Int))).run Tryz.prog w = .ok (.slice (some ⟨w.heap.size, 0, none⟩) ds.length ds.length) (w.alloc (.cells (madeCells #[.slice none 0 0] ds.length) 58)) :=
    fun w => run_make_row' (P := Tryz.prog) 24 58 (.slice none 0 0) 24 Tryz.underlying24 (by kernel_rfl) rfl .i64 .i64 ds.length (by omega) (by omega) w
  obtain ⟨wm, hwm⟩ : ∃ wm, w.alloc (.cells (madeCells #[.slice none 0 0] ds.length) 58) = wm := ⟨_, rfl⟩
  have hbm : Below w.heap.size w wm := by rw [← hwm]; exact (Below.refl _ w).alloc (Nat.le_refl _) _
  have HB0 : Hid (RBlk wm B r) := h.later hbm
  have HNE : Hid (w.heap.size ≠ B) := by have := h.lt; rw [Hid]; omega
  have HO0 : Hid (Oth B w wm) := Oth.of_below hbm
  have HOU : Hid (Outs wm w.heap.size ds.length 0 (Sh.lstsR r (ds.take 0)).2 (fun _ => .slice none 0 0)) := ⟨by rw [← hwm]; exact World.rowIs_made _ _ _ _, fun _ _ => rfl, fun _ => ⟨_, _, _, rfl⟩, fun j hj => by omega, fun j hj => by omega⟩
  have HV0 : Hid (Ints wm v ds) := hv.later hbm
  have HPL : Hid (w.heap.size ≤ w.heap.size) := Nat.le_refl _
  obtain ⟨a, cap, rfl, _⟩ := id hv
  obtain ⟨R, HR⟩ : ∃ R, Hid (Sh.lstsR r ds = R) := ⟨_, rfl⟩
  rw [HR.out]
  clear h hv hbm
  generalize hpg : w.heap.size = g at *
  go_enter Tryz.func66, Tryz.ntmps66
  go_wp2_with fail
  go_loopw [13] (fun c wr => ∃ k : Nat, k ≤ ds.length ∧ c = .int .i64 k ∧ Hid (RBlk wr B (Sh.lstsR r (ds.take k)).1) ∧ Hid (∃ f, Outs wr g ds.length k (Sh.lstsR r (ds.take k)).2 f) ∧ Hid (Ints wr (.slice a ds.length cap) ds) ∧ Hid (Oth B w wr)) (fun c _ => ds.length - (intOf c).toNat)
  case atStart => exact ⟨0, Nat.zero_le _, rfl, HB0, ⟨_, HOU⟩, HV0, HO0⟩
  case round =>
    obtain ⟨k, hk, rfl, HB, HF, HV, HO⟩ := hrel
    by_cases hlt : k < ds.length
    · obtain ⟨b, off, rfl, hcl⟩ := HV.out.at_.resolve_left (by rintro rfl; simp at hlt)
      have c1 := hcl k hlt
      have HTK : Hid (Sh.lstsR r (ds.take (k + 1)) = _) := Sh.lstsR_take r ds k hlt
      have hxl := (Sh.lstsR_short (ds.take k) r).1
      have hox : (Sh.lstsR r (ds.take k)).2.length = k := by rw [Sh.lstsR_len, List.length_take]; omega
      obtain ⟨f, hf⟩ := HF.out
      clear hcl HF
      generalize ds.getD k 0 = d at *
      generalize Sh.lstsR r (ds.take k) = x at *
      obtain ⟨rx, ox⟩ := x
      dsimp only at HB hf HTK hxl hox
      have HLI := list_any' B rx wr HB.out (by omega)
      unfold Sh.oneR at HTK
      (try dsimp only at HTK)
      generalize Sh.listR rx = y at *
      obtain ⟨ry, q⟩ := y
      (try dsimp only at HLI)
      (try dsimp only at HTK)
      obtain ⟨bb, hbb, hbb2⟩ : ∃ bb, ((q.length : Int) == d) = bb ∧ decide ((q.length : Int) = d) = bb := ⟨_, rfl, by rw [Bool.eq_iff_iff]; simp⟩
      rw [hbb2] at HTK
      have HWT : Hid (∀ w1, RBlk w1 B ry → Calls Tryz.prog 63 #[.pointer (some ⟨B, 0, none⟩), .bool bb] w1 fun e w' => e = .returned (.tuple #[]) ∧ RBlk w' B (Sh.wantR ry bb) ∧ Oth B w1 w') := fun w1 h1 => want_any B ry bb w1 h1
      have HU : Hid (Outs wr g ds.length k ox f) := hf
      replace HLI : Hid _ := HLI
      clear hf hbb2
      go_wp2_with fail
      refine Calls.mono HLI.out ?_
      rintro e w1 ⟨v', rfl, ⟨m, hm⟩, h1, h2⟩
      have hi := Ints.of_own hm
      obtain ⟨va, vc, rfl, _⟩ := id hi
      have hu1 : Outs w1 g ds.length k ox f := HU.out.oth HB.out h2 HNE.out
      have e1 := hu1.row.cell hlt
      rw [hu1.rest k (Nat.le_refl _)] at e1
      have e2 := hu1.row.frozen k
      obtain ⟨w2, hw2⟩ : ∃ w2, w1.setCell ⟨g, k, none⟩ (.slice va q.length vc) = w2 := ⟨_, rfl⟩
      have hgr : g ≤ wr.heap.size := Nat.le_of_lt HU.out.row.lt
      have hqf : From g (.slice va q.length vc) := fun g' e => Nat.le_trans hgr (hm.lt g' e).1
      have hu2 := hu1.put hlt hox hi hqf hw2
      clear hgr hqf
      have c3 := hu2.row.cell hlt
      (try dsimp only at c3)
      rw [if_pos rfl] at c3
      have c3d : w2.drew.cell? ⟨g, k, none⟩ = some (.slice va q.length vc) := c3
      have h2b : RBlk w2 B ry := by rw [← hw2]; exact RBlk.set_other h1 HNE.out
      have HV2 : Hid (Ints w2 (.slice (some ⟨b, off, none⟩) ds.length cap) ds) := by rw [Hid, ← hw2]; exact (HV.out.oth HB.out h2).row hu1.row (fun i _ => hu1.slices i) (oth_set _ _ _ _)
      have HO2 : Hid (Oth B w w2) := by rw [Hid, ← hw2]; exact oth_new (grown_trans HO.out h2) (Nat.le_of_eq hpg)
      have HWT2 : Hid _ := HWT.out w2.drew h2b
      have HB2 : Hid (RBlk w2 B ry) := h2b
      have HU2 : Hid (Outs w2 g ds.length (k + 1) (ox ++ [q]) _) := hu2
      have hql : q.length ≤ 1000000000000 ∨ True := .inr trivial
      clear hu1 hu2 h2b HV HO HWT HU h1 h2 hm hi HLI HB c3 hql
      go_wp2_with fail
      go_region_law (go_simp; go_at_call 63; refine Calls.mono HWT2.out ?_; rintro e w3 ⟨rfl, h5, h6⟩; replace h5 : Hid (RBlk w3 B (Sh.wantR ry bb)) := h5; replace h6 : Hid (Oth B w2 w3) := h6.undrew)
      all_goals go_wp2
      all_goals go_roundw
      case rel => exact ⟨k + 1, by omega, by go_num, by rw [Hid, HTK.out]; exact h5.out, ⟨_, by rw [HTK.out]; exact HU2.out.oth HB2.out h6.out HNE.out⟩, HV2.out.oth HB2.out h6.out, grown_trans HO2.out h6.out⟩
      case measure => simp [intOf]; omega
    · obtain rfl : k = ds.length := by omega
      rw [List.take_length, HR.out] at HB HF
      obtain ⟨f, hf⟩ := HF.out
      have HL : Hid (ListsF g wr (.slice (some ⟨g, 0, none⟩) ds.length ds.length) R.2) := by
        have hlen : R.2.length = ds.length := by rw [← HR.out]; exact Sh.lstsR_len _ _
        have hcell : ∀ j, j < R.2.length → wr.cell? ⟨g, 0 + j, none⟩ = some (f j) := fun j hj => by
          rw [Nat.zero_add]
          exact hf.row.cell (by omega)
        refine ⟨⟨_, ds.length, by rw [hlen], by omega, .inr ⟨g, 0, rfl, fun j hj => ⟨f j, hcell j hj, hf.lists j (by omega)⟩⟩⟩, fun q e => ?_, fun g' off n c e j hj x hx => ?_⟩
        · have e2 : g = q := by simpa [Value.ownBlock] using e
          omega
        · simp only [Value.slice.injEq, Option.some.injEq, Addr.mk.injEq, and_true] at e
          obtain ⟨⟨rfl, rfl⟩, _, _⟩ := e
          rw [hcell j hj] at hx
          cases hx
          exact hf.from_ j (by omega)
      go_wp2
      go_ret
      exact ⟨_, rfl, HL.out, HB.out, HO.out⟩

end Go.Proofs.YtbhngncnhabbkaaGreat
