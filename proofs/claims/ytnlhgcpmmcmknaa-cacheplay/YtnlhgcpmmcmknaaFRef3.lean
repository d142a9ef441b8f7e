/- The walks of the document's own Fail, Read, Remove, Write, Put and Flip. -/
import Derived.Test.YtnlhgcpmmcmknaaFRef2
namespace Go.Proofs.Ytnlhgcpmmcmknaa
open Go.RowKit Go.Maps

theorem rset_ref {ok : Nat → Prop} {r : Nat} {st : Fi.St} (n : ByteArray) (v : Value) (l : List ByteArray) (w : World) (hs : Ref w ok r st) (hv : StrsIn w ok v l) (hl : l.length ≤ 1000000) (hok : ∀ i, w.heap.size ≤ i → ok i) (hg' : Fi.Good { st with fs := Fi.set st.fs n l }) :
    Calls Try.prog 73 #[.pointer (some ⟨r, 0, none⟩), .string n, v] w fun e w' => e = .returned (.tuple #[]) ∧ Ref w' ok r { st with fs := Fi.set st.fs n l } ∧ Turn (fun i => i = r) w (fun i => i = r) w' := by
  obtain ⟨vL, T, h, hf, hg⟩ := hs
  have hcnt : T.length ≤ 4096 := by
    have := hg.count
    have h2 := hg.room2
    rw [← hf] at this
    unfold filesOf at this
    rw [Fi.mapv_length] at this
    omega
  refine (rset_any n v l w h (sorted_tab hf hg) hcnt hv hl hok).mono ?_
  rintro e w' ⟨rfl, vL', h', ht⟩
  exact ⟨rfl, ⟨vL', _, h', by rw [setT_files, hf], hg'⟩, ht⟩

theorem RefAt.aheadTo {W : World} {ok : Nat → Prop} {r room : Nat} {ahead : Int} {vL : Value} {T : Tab} (h : RefAt W ok r room ahead vL T) (k : Int) : RefAt (W.setCell ⟨r, 1, none⟩ (.int .i64 k)) ok r room k vL T ∧ Turn (fun i => i = r) W (fun i => i = r) (W.setCell ⟨r, 1, none⟩ (.int .i64 k)) := by
  obtain ⟨a, cap, e, hcs⟩ := h.slice
  refine ⟨⟨heap_setCell_same W r 1 _ _ _ h.block, ownsRow_blocks h.row fun g hg => Below.heap_setCell _ _ _ _ ?_, h.rowOk, fun t ht => (h.pageOff (h.pages t ht)).off, h.self⟩, turn_set (o := fun i => i = r) (a := ⟨r, 1, none⟩) rfl _⟩
  rcases h.row.2 with ⟨e', _⟩ | ⟨g', cap', cur, e', _, hg', _⟩
  · rw [e'] at hg; cases hg
  · rw [e'] at hg
    simp [Value.ownBlock] at hg
    subst hg
    show g' ≠ r
    rintro rfl
    rw [h.block] at hg'
    simp at hg'

theorem rfail_any {ok : Nat → Prop} {r : Nat} {st : Fi.St} (k : Int) (w : World) (hs : Ref w ok r st) (hk : k ≤ 9223372036854775807) :
    Calls Try.prog 45 #[.pointer (some ⟨r, 0, none⟩), .int .i64 k] w fun e w' => e = .returned (.int .i64 (Fi.fail st k).1) ∧ Ref w' ok r (Fi.fail st k).2 ∧ Turn (fun i => i = r) w (fun i => i = r) w' := by
  have HS : Hid (Ref _ _ _ _) := hs
  obtain ⟨vL, T, h, hf, hg⟩ := hs
  have hc : w.cell? ⟨r, 1, none⟩ = some (.int .i64 st.ahead) := h.cell 1
  have hz := h.frozen 1
  unfold Fi.fail
  by_cases h0 : k < 0
  · rw [if_pos h0]
    clear h hf
    go_enter Try.func45, Try.ntmps45
    go_wp2
    go_ret
    exact ⟨rfl, HS.out, Turn.below (Below.refl _ _)⟩
  · rw [if_neg h0]
    have HA : Hid (_ ∧ _) := h.aheadTo k
    clear h
    go_enter Try.func45, Try.ntmps45
    go_wp2
    go_ret
    exact ⟨rfl, ⟨vL, T, HA.out.1, hf, Fi.good_ahead hg (by omega) hk⟩, HA.out.2⟩

theorem has_no {st : Fi.St} {n : ByteArray} {i : Int} (h : i < 0 ∨ (Fi.rows st.fs n).length ≤ i) : Fi.has st n i = false := by
  cases hh : Fi.has st n i with
  | false => rfl
  | true => have := Fi.has_iff.1 hh; omega

set_option maxRecDepth 100000 in
set_option maxHeartbeats 1000000 in
theorem rread_any {ok : Nat → Prop} {r : Nat} {st : Fi.St} (n : ByteArray) (i : Int) (w : World) (hs : Ref w ok r st) :
    Calls Try.prog 75 #[.pointer (some ⟨r, 0, none⟩), .string n, .int .i64 i] w fun e w' => e = .returned (.tuple #[.string (Fi.read st n i).1, .int .i64 (Fi.read st n i).2.1]) ∧ Ref w' ok r (Fi.read st n i).2.2 ∧ Turn (fun i => i = r) w (fun i => i = r) w' := by
  have HR : Hid (Calls _ _ _ _ _) := rrows_any n w hs
  have HS : Hid (Ref _ _ _ _) := hs
  obtain ⟨vL, T, h, hf, hg⟩ := hs
  have hc : w.cell? ⟨r, 1, none⟩ = some (.int .i64 st.ahead) := h.cell 1
  have hz := h.frozen 1
  have HH : Hid (RefAt _ _ _ _ _ _ _) := h
  have hlen := hg.rows_le n
  have hroom := hg.room2
  have hst2 := hg.ahead2
  clear h
  by_cases hno : i < 0 ∨ (Fi.rows st.fs n).length ≤ i
  · rw [read_no (has_no hno)]
    clear hf hg
    rcases hno with h0 | h0
    all_goals
      generalize Fi.rows st.fs n = R at *
      go_enter Try.func75, Try.ntmps75
      go_wp2_with fail
      refine Calls.mono HR.out ?_
      rintro e w1 ⟨v, rfl, hv, rfl⟩
      obtain ⟨a, cap, rfl, _, _⟩ := hv
      go_wp2
      go_ret2
      exact ⟨rfl, HS.out, Turn.below (Below.refl _ _)⟩
  · obtain ⟨k, rfl⟩ : ∃ k : Nat, i = k := ⟨i.toNat, by omega⟩
    have hkl : k < (Fi.rows st.fs n).length := by omega
    have hh : Fi.has st n k = true := Fi.has_iff.2 ⟨by omega, by omega⟩
    have HPG : Hid (Fi.page st n k = (Fi.rows st.fs n).getD k ByteArray.empty) := by show (Fi.rows st.fs n).getD (k : Int).toNat _ = _; rw [Int.toNat_natCast]
    rcases Int.lt_trichotomy st.ahead 0 with ha | ha | ha
    · rw [read_still hh ha, HPG.out]
      have hbq : (st.ahead == 0) = false := by rw [beq_eq_false_iff_ne]; omega
      clear hno hh HPG
      generalize Fi.rows st.fs n = R at *
      obtain ⟨s, HSs⟩ : ∃ s, Hid (R.getD k ByteArray.empty = s) := ⟨_, rfl⟩
      try rw [HSs.out]
      go_enter Try.func75, Try.ntmps75
      go_wp2_with fail
      refine Calls.mono HR.out ?_
      rintro e w1 ⟨v, rfl, hv, rfl⟩
      obtain ⟨a, cap, rfl, _, hv⟩ := hv
      obtain ⟨b, off, rfl, hcv⟩ : ∃ b off, a = some ⟨b, off, none⟩ ∧ w1.cell? ⟨b, off + k, none⟩ = some (.string s) := by
        rcases hv with h | ⟨b, off, h, _, h2⟩
        · rw [h] at hkl; simp at hkl
        · exact ⟨b, off, h, by rw [← HSs.out]; exact h2 k hkl⟩
      clear hv
      go_wp2
      go_ret2
      exact ⟨rfl, HS.out, Turn.below (Below.refl _ _)⟩
    · rw [read_fails hh ha]
      have HA : Hid (_ ∧ _) := HH.out.aheadTo (-1)
      rw [ha] at hc
      clear hno hh HPG
      generalize Fi.rows st.fs n = R at *
      obtain ⟨s, HSs⟩ : ∃ s, Hid (R.getD k ByteArray.empty = s) := ⟨_, rfl⟩
      try rw [HSs.out]
      go_enter Try.func75, Try.ntmps75
      go_wp2_with fail
      refine Calls.mono HR.out ?_
      rintro e w1 ⟨v, rfl, hv, rfl⟩
      obtain ⟨a, cap, rfl, _, hv⟩ := hv
      clear hv
      go_wp2
      go_ret2
      exact ⟨rfl, ⟨vL, T, HA.out.1, hf, Fi.good_ahead hg (by decide) (by decide)⟩, HA.out.2⟩
    · rw [read_next hh ha, HPG.out]
      have HA : Hid (_ ∧ _) := HH.out.aheadTo (st.ahead - 1)
      have hbq : (st.ahead == 0) = false := by rw [beq_eq_false_iff_ne]; omega
      clear hno hh HPG
      generalize Fi.rows st.fs n = R at *
      obtain ⟨s, HSs⟩ : ∃ s, Hid (R.getD k ByteArray.empty = s) := ⟨_, rfl⟩
      try rw [HSs.out]
      go_enter Try.func75, Try.ntmps75
      go_wp2_with fail
      refine Calls.mono HR.out ?_
      rintro e w1 ⟨v, rfl, hv, rfl⟩
      have hoff := (HH.out.pageOff hv).off (r := r) (q := 1) (u := .int .i64 (st.ahead - 1))
      obtain ⟨a, cap, rfl, _, _⟩ := hv
      obtain ⟨b, off, rfl, hcv⟩ : ∃ b off, a = some ⟨b, off, none⟩ ∧ (w1.setCell ⟨r, 1, none⟩ (.int .i64 (st.ahead - 1))).cell? ⟨b, off + k, none⟩ = some (.string s) := by
        obtain ⟨a', cap', e', _, hv⟩ := hoff
        simp only [Value.slice.injEq] at e'
        obtain ⟨rfl, _, rfl⟩ := e'
        rcases hv with h | ⟨b, off, h, _, h2⟩
        · rw [h] at hkl; simp at hkl
        · exact ⟨b, off, h, by rw [← HSs.out]; exact h2 k hkl⟩
      clear hoff
      go_wp2
      go_ret2
      exact ⟨rfl, ⟨vL, T, HA.out.1, hf, Fi.good_ahead hg (by omega) (by omega)⟩, HA.out.2⟩

set_option maxRecDepth 100000 in
theorem rremove_any {ok : Nat → Prop} {r : Nat} {st : Fi.St} (n : ByteArray) (w : World) (hs : Ref w ok r st) (hok : ∀ i, w.heap.size ≤ i → ok i) :
    Calls Try.prog 47 #[.pointer (some ⟨r, 0, none⟩), .string n] w fun e w' => e = .returned (.int .i64 (Fi.remove st n).1) ∧ Ref w' ok r (Fi.remove st n).2 ∧ Turn (fun i => i = r) w (fun i => i = r) w' := by
  have HP : Hid (Calls _ _ _ _ _) := rpages_any n w hs
  have HS : Hid (Ref _ _ _ _) := hs
  have hset : Fi.set st.fs n [] = Fi.del st.fs n := by rw [Fi.set, if_pos rfl]
  have HST : Hid (Calls _ _ _ _ _) := rset_ref n (.slice none 0 0) [] w hs ⟨none, 0, rfl, Nat.le_refl _, .inl rfl⟩ (by simp) hok (by rw [hset]; exact Fi.good_del hs.good n)
  rw [hset] at HST
  clear hs hset
  unfold Fi.remove
  by_cases h0 : Fi.rows st.fs n = []
  · rw [if_pos h0]
    rw [h0] at HP
    go_enter Try.func47, Try.ntmps47
    go_wp2_with fail
    refine Calls.mono HP.out ?_
    rintro e w1 ⟨rfl, rfl⟩
    go_wp2
    go_ret
    exact ⟨rfl, HS.out, Turn.below (Below.refl _ _)⟩
  · rw [if_neg h0]
    have hb : (((Fi.rows st.fs n).length : Int) == 0) = false := by rw [beq_eq_false_iff_ne]; have := List.length_pos_iff.2 h0; omega
    clear h0
    generalize (Fi.rows st.fs n).length = k at *
    go_enter Try.func47, Try.ntmps47
    go_wp2_with fail
    refine Calls.mono HP.out ?_
    rintro e w1 ⟨rfl, rfl⟩
    go_wp2_with fail
    refine Calls.mono HST.out ?_
    rintro e w2 ⟨rfl, hr2, ht2⟩
    have H2 : Hid (_ ∧ _) := And.intro hr2 ht2
    clear hr2 ht2
    go_wp2
    go_ret
    exact ⟨rfl, H2.out⟩

end Go.Proofs.Ytnlhgcpmmcmknaa
