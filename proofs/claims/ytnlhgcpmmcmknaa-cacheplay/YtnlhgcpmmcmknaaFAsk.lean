/- The walks of files' methods that ask, read or set how many reads are done: Pages, hasPage, failsNow, Fail, Read, Used. -/
import Derived.Test.YtnlhgcpmmcmknaaFWalk
namespace Go.Proofs.Ytnlhgcpmmcmknaa
open Go.RowKit Go.Maps

/-- The slice at a name, as a value: how long it is; its pages. -/
theorem Sits.slice {W : World} {p mb room : Nat} {ahead : Int} {T : Tab} (h : Sits W p mb room ahead T) (n : ByteArray) :
    ∃ a cap, hdrAt T n = .slice a (Fi.rows (filesOf T) n).length cap ∧ (Fi.rows (filesOf T) n = [] ∨ ∃ g, a = some ⟨g, 0, none⟩ ∧ W.ownsRow 0 9 1 (.slice (some ⟨g, 0, none⟩) (Fi.rows (filesOf T) n).length cap) (Fi.rows (filesOf T) n).length (scells (Fi.rows (filesOf T) n)) ∧
      Fi.find T n = some (.slice (some ⟨g, 0, none⟩) (Fi.rows (filesOf T) n).length cap, Fi.rows (filesOf T) n)) := by
  rcases h.at n with ⟨_, h1, h2⟩ | ⟨g, cap, l, h0, h1, h2, h3⟩
  · rw [h1, h2]; exact ⟨none, 0, rfl, .inl rfl⟩
  · rw [h1, h2]; exact ⟨_, cap, rfl, .inr ⟨g, rfl, h3, h0⟩⟩

set_option maxRecDepth 100000 in
theorem pages_any {p : Nat} {o : Nat → Prop} {st : Fi.St} (n : ByteArray) (w : World) (hs : Sys w p o st) (hn : n.size ≤ maxLen) :
    Calls Try.prog 65 #[.pointer (some ⟨p, 0, none⟩), .string n] w fun e w' => e = .returned (.int .i64 (Fi.rows st.fs n).length) ∧ w' = w := by
  obtain ⟨mb, T, h, hf, rfl, _⟩ := hs
  have HI : Hid (Calls _ _ _ _ _) := isNone_sits w h
  have hc := h.cell1
  have hl := h.look hn
  obtain ⟨a, cap, hh, _⟩ := h.slice n
  rw [hh, hf] at hl
  clear h hh hf
  generalize (Fi.rows st.fs n).length = k at *
  go_enter Try.func65, Try.ntmps65
  go_wp2_with fail
  refine Calls.mono HI.out ?_
  rintro e w1 ⟨rfl, rfl⟩
  go_wp2
  go_ret
  exact ⟨rfl, rfl⟩

set_option maxRecDepth 100000 in
theorem has_any {p : Nat} {o : Nat → Prop} {st : Fi.St} (n : ByteArray) (i : Int) (w : World) (hs : Sys w p o st) (hn : n.size ≤ maxLen) :
    Calls Try.prog 52 #[.pointer (some ⟨p, 0, none⟩), .string n, .int .i64 i] w fun e w' => e = .returned (.bool (Fi.has st n i)) ∧ w' = w := by
  obtain ⟨mb, T, h, hf, rfl, _⟩ := hs
  have hc := h.cell1
  have hl := h.look hn
  obtain ⟨a, cap, hh, _⟩ := h.slice n
  rw [hh, hf] at hl
  clear h hh hf
  unfold Fi.has
  generalize (Fi.rows st.fs n).length = k at *
  by_cases h0 : 0 ≤ i
  · by_cases h1 : i < k
    · rw [decide_eq_true h0, decide_eq_true h1]
      go_enter Try.func52, Try.ntmps52
      go_wp2
      go_ret
      exact ⟨rfl, rfl⟩
    · rw [decide_eq_false h1, Bool.and_false]
      go_enter Try.func52, Try.ntmps52
      go_wp2
      go_ret
      exact ⟨rfl, rfl⟩
  · rw [decide_eq_false h0, Bool.false_and]
    go_enter Try.func52, Try.ntmps52
    go_wp2
    go_ret
    exact ⟨rfl, rfl⟩

theorem fails_none {p mb room : Nat} {ahead : Int} {T : Tab} (w : World) (h : Sits w p mb room ahead T) (ha : ahead < 0) :
    Calls Try.prog 53 #[.pointer (some ⟨p, 0, none⟩)] w fun e w' => e = .returned (.bool false) ∧ w' = w := by
  have hc := h.cell2
  clear h
  go_enter Try.func53, Try.ntmps53
  go_wp2
  go_ret
  exact ⟨rfl, rfl⟩

theorem fails_now {p mb room : Nat} {ahead : Int} {T : Tab} (w : World) (h : Sits w p mb room ahead T) (ha : ahead = 0) :
    Calls Try.prog 53 #[.pointer (some ⟨p, 0, none⟩)] w fun e w' => e = .returned (.bool true) ∧ w' = w.setCell ⟨p, 2, none⟩ (.int .i64 (-1)) := by
  have hc := h.cell2
  have hf := h.free2
  clear h
  subst ha
  go_enter Try.func53, Try.ntmps53
  go_wp2
  go_ret
  exact ⟨rfl, rfl⟩

theorem fails_later {p mb room : Nat} {ahead : Int} {T : Tab} (w : World) (h : Sits w p mb room ahead T) (ha : 0 < ahead) (hm : ahead ≤ 9223372036854775807) :
    Calls Try.prog 53 #[.pointer (some ⟨p, 0, none⟩)] w fun e w' => e = .returned (.bool false) ∧ w' = w.setCell ⟨p, 2, none⟩ (.int .i64 (ahead - 1)) := by
  have hc := h.cell2
  have hf := h.free2
  clear h
  go_enter Try.func53, Try.ntmps53
  go_wp2
  go_ret
  exact ⟨(show Ending.returned (.bool (decide (ahead - 1 < 0))) = .returned (.bool false) by rw [decide_eq_false (by omega)]), rfl⟩

theorem turn_ahead {p mb : Nat} {T : Tab} (W : World) (u : Value) : Turn (Own p mb T) W (Own p mb T) (W.setCell ⟨p, 2, none⟩ u) := turn_set (a := ⟨p, 2, none⟩) (.inl rfl) u

set_option maxRecDepth 100000 in
theorem fail_any {p : Nat} {o : Nat → Prop} {st : Fi.St} (k : Int) (w : World) (hs : Sys w p o st) (hk : k ≤ 9223372036854775807) :
    Calls Try.prog 26 #[.pointer (some ⟨p, 0, none⟩), .int .i64 k] w fun e w' => e = .returned (.int .i64 (Fi.fail st k).1) ∧ Sys w' p o (Fi.fail st k).2 ∧ Turn o w o w' := by
  obtain ⟨mb, T, h, hf, rfl, hg⟩ := hs
  have HI : Hid (Calls _ _ _ _ _) := isNone_sits w h
  have hc := h.cell2
  have hz := h.free2
  unfold Fi.fail
  by_cases h0 : k < 0
  · rw [if_pos h0]
    have HS : Hid (Sits _ _ _ _ _ _) := h
    clear h
    go_enter Try.func26, Try.ntmps26
    go_wp2_with fail
    refine Calls.mono HI.out ?_
    rintro e w1 ⟨rfl, rfl⟩
    go_wp2
    go_ret
    exact ⟨rfl, ⟨mb, T, HS.out, hf, rfl, hg⟩, Turn.below (Below.refl _ _)⟩
  · rw [if_neg h0]
    have HS : Hid (Sits _ _ _ _ _ _) := h.aheadTo k
    clear h
    go_enter Try.func26, Try.ntmps26
    go_wp2_with fail
    refine Calls.mono HI.out ?_
    rintro e w1 ⟨rfl, rfl⟩
    go_wp2
    go_ret
    exact ⟨rfl, ⟨mb, T, HS.out, hf, rfl, Fi.good_ahead hg (by omega) hk⟩, turn_ahead _ _⟩

theorem read_no {st : Fi.St} {n : ByteArray} {i : Int} (h : Fi.has st n i = false) : Fi.read st n i = (ByteArray.empty, 4, st) := by rw [Fi.read, if_pos h]
theorem read_fails {st : Fi.St} {n : ByteArray} {i : Int} (h : Fi.has st n i = true) (ha : st.ahead = 0) : Fi.read st n i = (ByteArray.empty, 60, { st with ahead := -1 }) := by rw [Fi.read, if_neg (by rw [h]; simp), if_pos ha]
theorem read_still {st : Fi.St} {n : ByteArray} {i : Int} (h : Fi.has st n i = true) (ha : st.ahead < 0) : Fi.read st n i = (Fi.page st n i, 0, st) := by rw [Fi.read, if_neg (by rw [h]; simp), if_neg (by omega), if_neg (by omega)]
theorem read_next {st : Fi.St} {n : ByteArray} {i : Int} (h : Fi.has st n i = true) (ha : 0 < st.ahead) : Fi.read st n i = (Fi.page st n i, 0, { st with ahead := st.ahead - 1 }) := by rw [Fi.read, if_neg (by rw [h]; simp), if_neg (by omega), if_pos ha]

set_option maxRecDepth 100000 in
set_option maxHeartbeats 1000000 in
theorem read_any {p : Nat} {o : Nat → Prop} {st : Fi.St} (n : ByteArray) (i : Int) (w : World) (hs : Sys w p o st) (hn : n.size ≤ maxLen) :
    Calls Try.prog 27 #[.pointer (some ⟨p, 0, none⟩), .string n, .int .i64 i] w fun e w' => e = .returned (.tuple #[.string (Fi.read st n i).1, .int .i64 (Fi.read st n i).2.1]) ∧ Sys w' p o (Fi.read st n i).2.2 ∧ Turn o w o w' := by
  have HH : Hid (Calls _ _ _ _ _) := has_any n i w hs hn
  have hs0 := hs
  obtain ⟨mb, T, h, hf, rfl, hg⟩ := hs
  have HI : Hid (Calls _ _ _ _ _) := isNone_sits w h
  cases hb : Fi.has st n i with
  | false =>
    rw [read_no hb]
    rw [hb] at HH
    have HS : Hid (Sys _ _ _ _) := hs0
    clear h hs0 hf
    go_enter Try.func27, Try.ntmps27
    go_wp2_with fail
    refine Calls.mono HI.out ?_
    rintro e w1 ⟨rfl, rfl⟩
    go_wp2_with fail
    refine Calls.mono HH.out ?_
    rintro e w1 ⟨rfl, rfl⟩
    go_wp2
    go_ret2
    exact ⟨rfl, HS.out, Turn.below (Below.refl _ _)⟩
  | true =>
    rw [hb] at HH
    obtain ⟨i0, i1⟩ := Fi.has_iff.1 hb
    obtain ⟨k, rfl⟩ : ∃ k : Nat, i = k := ⟨i.toNat, by omega⟩
    obtain ⟨a, cap, hh, hr⟩ := h.slice n
    rw [hf] at hh hr
    have hk : k < (Fi.rows st.fs n).length := by omega
    obtain ⟨g, rfl, hrow, hfd⟩ : ∃ g, a = some ⟨g, 0, none⟩ ∧ w.ownsRow 0 9 1 (.slice (some ⟨g, 0, none⟩) (Fi.rows st.fs n).length cap) (Fi.rows st.fs n).length (scells (Fi.rows st.fs n)) ∧ Fi.find T n = some (.slice (some ⟨g, 0, none⟩) (Fi.rows st.fs n).length cap, Fi.rows st.fs n) := by
      rcases hr with hr | hr
      · rw [hr] at hk; simp at hk
      · exact hr
    have hcell : w.cell? ⟨g, k, none⟩ = some (.string (Fi.page st n k)) := by
      have := hrow.cellAt k (by omega)
      rw [scells_get _ k hk] at this
      simpa [Fi.page] using this
    have hgp : g ≠ p := by
      obtain ⟨g', _, _, hv, _, h1, _⟩ := h.rowAt (Fi.find_mem hfd)
      simp at hv
      omega
    have hl := h.look hn
    rw [hh] at hl
    have hc := h.cell1
    have HS : Hid (Sys _ _ _ _) := hs0
    rcases Int.lt_trichotomy st.ahead 0 with ha | ha | ha
    · rw [read_still hb ha]
      have HF : Hid (Calls _ _ _ _ _) := fails_none w h ha
      clear h hs0 hr hrow hfd hf hh hb
      generalize (Fi.rows st.fs n).length = m at *
      generalize Fi.page st n k = s at *
      go_enter Try.func27, Try.ntmps27
      go_wp2_with fail
      refine Calls.mono HI.out ?_
      rintro e w1 ⟨rfl, rfl⟩
      go_wp2_with fail
      refine Calls.mono HH.out ?_
      rintro e w1 ⟨rfl, rfl⟩
      go_wp2_with fail
      refine Calls.mono HF.out ?_
      rintro e w1 ⟨rfl, rfl⟩
      go_wp2
      go_ret2
      exact ⟨rfl, HS.out, Turn.below (Below.refl _ _)⟩
    · rw [read_fails hb ha]
      have HF : Hid (Calls _ _ _ _ _) := fails_now w h ha
      have HS2 : Hid (Sits _ _ _ _ _ _) := h.aheadTo (-1)
      clear h hs0 hr hrow hfd hh hb hl hc
      generalize (Fi.rows st.fs n).length = m at *
      generalize Fi.page st n k = s at *
      go_enter Try.func27, Try.ntmps27
      go_wp2_with fail
      refine Calls.mono HI.out ?_
      rintro e w1 ⟨rfl, rfl⟩
      go_wp2_with fail
      refine Calls.mono HH.out ?_
      rintro e w1 ⟨rfl, rfl⟩
      go_wp2_with fail
      refine Calls.mono HF.out ?_
      rintro e w2 ⟨rfl, rfl⟩
      go_wp2
      go_ret2
      exact ⟨rfl, ⟨mb, T, HS2.out, hf, rfl, Fi.good_ahead hg (by decide) (by decide)⟩, turn_ahead _ _⟩
    · rw [read_next hb ha]
      have HF : Hid (Calls _ _ _ _ _) := fails_later w h ha hg.ahead2
      have hS2 := h.aheadTo (st.ahead - 1)
      have hl2 := hS2.look hn
      rw [hh] at hl2
      have hc2 := hS2.cell1
      have hcell2 : (w.setCell ⟨p, 2, none⟩ (.int .i64 (st.ahead - 1))).cell? ⟨g, k, none⟩ = some (.string (Fi.page st n k)) := by
        rw [World.cell?_of_block (a := ⟨g, k, none⟩) (Below.heap_setCell _ _ _ _ hgp)]; exact hcell
      have HS2 : Hid (Sits _ _ _ _ _ _) := hS2
      obtain ⟨W2, HW⟩ : ∃ W2, Hid (w.setCell ⟨p, 2, none⟩ (.int .i64 (st.ahead - 1)) = W2) := ⟨_, rfl⟩
      rw [HW.out] at HF HS2 hl2 hc2 hcell2
      clear h hs0 hr hrow hfd hh hb hl hc hS2 hcell
      generalize (Fi.rows st.fs n).length = m at *
      generalize Fi.page st n k = s at *
      go_enter Try.func27, Try.ntmps27
      go_wp2_with fail
      refine Calls.mono HI.out ?_
      rintro e w1 ⟨rfl, rfl⟩
      go_wp2_with fail
      refine Calls.mono HH.out ?_
      rintro e w1 ⟨rfl, rfl⟩
      go_wp2_with fail
      refine Calls.mono HF.out ?_
      rintro e w2 ⟨rfl, rfl⟩
      go_wp2
      go_ret2
      refine ⟨rfl, ⟨mb, T, HS2.out, hf, rfl, Fi.good_ahead hg (by omega) (by have := hg.ahead2; omega)⟩, ?_⟩
      rw [← HW.out]
      exact turn_ahead _ _

/-! ### How many pages all files have -/

/-- The pages of those files that a range has still ahead of it. -/
def sumLeft (left : Lit → Bool) (T : Tab) : Nat := (T.map fun t => if left (.string t.1.data.toList) = true then t.2.2.length else 0).sum

theorem sumLeft_cons (left : Lit → Bool) (t : ByteArray × (Value × List ByteArray)) (T : Tab) : sumLeft left (t :: T) = (if left (.string t.1.data.toList) = true then t.2.2.length else 0) + sumLeft left T := by simp [sumLeft]
theorem sumLeft_none {left : Lit → Bool} (h : ∀ kl, left kl = false) (T : Tab) : sumLeft left T = 0 := by
  induction T with
  | nil => rfl
  | cons t T ih => rw [sumLeft_cons, h, ih]; rfl
theorem sumLeft_all {left : Lit → Bool} {T : Tab} (h : ∀ t ∈ T, left (.string t.1.data.toList) = true) : sumLeft left T = Fi.used (filesOf T) := by
  induction T with
  | nil => rfl
  | cons t T ih =>
    rw [sumLeft_cons, h t (by simp), ih (fun u hu => h u (by simp [hu])), if_pos rfl]
    exact (Fi.used_cons (t.1, t.2.2) (filesOf T)).symm
theorem sumLeft_gone {left : Lit → Bool} {T : Tab} {n : ByteArray} (h : ∀ t ∈ T, t.1 ≠ n) : sumLeft (fun z => left z && !z.sameKey (.string n.data.toList)) T = sumLeft left T := by
  induction T with
  | nil => rfl
  | cons t T ih =>
    rw [sumLeft_cons, sumLeft_cons, ih (fun u hu => h u (by simp [hu])), Fi.same_iff, decide_eq_false (h t (by simp))]
    simp
theorem sumLeft_step {left : Lit → Bool} {T : Tab} (hs : Fi.Sorted T) {n : ByteArray} {a : Value × List ByteArray} (hm : (n, a) ∈ T) (hl : left (.string n.data.toList) = true) :
    a.2.length + sumLeft (fun z => left z && !z.sameKey (.string n.data.toList)) T = sumLeft left T := by
  induction T with
  | nil => simp at hm
  | cons t T ih =>
    obtain ⟨h1, h2⟩ := List.pairwise_cons.1 hs
    rw [sumLeft_cons, sumLeft_cons, Fi.same_iff]
    rcases List.mem_cons.1 hm with rfl | hm
    · rw [sumLeft_gone (fun u hu => (Fi.lt_ne (h1 u hu)).symm), hl]
      simp
    · have := ih h2 hm
      rw [decide_eq_false (Fi.lt_ne (h1 _ hm))]
      simp only [Bool.not_false, Bool.and_true]
      omega
theorem sumLeft_le {left : Lit → Bool} (T : Tab) : sumLeft left T ≤ Fi.used (filesOf T) := by
  induction T with
  | nil => exact Nat.le_refl _
  | cons t T ih =>
    rw [sumLeft_cons, show filesOf (t :: T) = (t.1, t.2.2) :: filesOf T from rfl, Fi.used_cons]
    split <;> simp only [] <;> omega

/-- What a range over the map hands out is one of the files' slices. -/
theorem held_mem {T : Tab} {x : List UInt8} {v : Value} (h : ∀ zd, (DataW.map (Fi.ents (hdrs T))).atKey (.string x) zd = .held v) : ∃ l, ((⟨x.toArray⟩ : ByteArray), (v, l)) ∈ T := by
  have h1 := Fi.ents_at (hdrs T) ⟨x.toArray⟩ .nil
  have h2 := h .nil
  rw [show (⟨x.toArray⟩ : ByteArray).data.toList = x from rfl, h2, find_hdrs] at h1
  cases hf : Fi.find T ⟨x.toArray⟩ with
  | none => rw [hf] at h1; cases h1
  | some a =>
    rw [hf] at h1
    simp at h1
    subst h1
    exact ⟨a.2, Fi.find_mem hf⟩

set_option maxRecDepth 100000 in
set_option maxHeartbeats 1000000 in
theorem used_any {p : Nat} {o : Nat → Prop} {st : Fi.St} (w : World) (hs : Sys w p o st) :
    Calls Try.prog 21 #[.pointer (some ⟨p, 0, none⟩)] w fun e w' => e = .returned (.int .i64 (Fi.used st.fs)) ∧ Below w.heap.size w w' := by
  obtain ⟨mb, T, h, hf, rfl, hg⟩ := hs
  have HI : Hid (Calls _ _ _ _ _) := isNone_sits w h
  have hc := h.cell1
  have hown := h.map
  have hle := hg.used
  have hle2 := hg.room2
  have HT : Hid (Fi.Sorted T) := (Fi.mapv_sorted (·.2)).1 (by have := hg.sorted; rw [← hf] at this; exact this)
  have HR : Hid (∀ t ∈ T, ∃ g cap, t.2.1 = .slice (some ⟨g, 0, none⟩) t.2.2.length cap) := fun t ht => by obtain ⟨g, cap, hv, _⟩ := h.row t ht; exact ⟨g, cap, hv⟩
  have HU : Hid (∀ left, sumLeft left T ≤ Fi.used st.fs) := fun left => by rw [← hf]; exact sumLeft_le T
  have HA : Hid (sumLeft (Maps.has (DataW.map (Fi.ents (hdrs T)))) T = Fi.used st.fs) := by
    show _ = _
    rw [← hf]
    refine sumLeft_all fun t ht => ?_
    refine List.any_eq_true.2 ⟨(.string t.1.data.toList, .held t.2.1), ?_, WideAt.sameKey_self trivial⟩
    exact List.mem_map.2 ⟨(t.1, t.2.1), List.mem_map.2 ⟨t, ht, rfl⟩, rfl⟩
  have hu : Fi.used st.fs ≤ 4096 := by omega
  clear h hf hg hle hle2
  generalize Fi.used st.fs = U at *
  go_enter Try.func21, Try.ntmps21
  go_wp2_with fail
  refine Calls.mono HI.out ?_
  rintro e w1 ⟨rfl, rfl⟩
  go_wp2_with (first | (at_range; refine wpList_range_own _ rfl _ 71 rfl 9 78 Try.keyed Try.underlying71 _ mb T.length _ rfl hown ?_; intro w0 hrg0 hg0 hs0))
  go_frame
  have HB0 : Hid (Below w1.heap.size w1 w0) := (Below.refl _ _).grown hg0 (Nat.le_refl _) (by simp)
  have HR0 : Hid (World.ranges _ _ _ _ _ _ _ _ _ _) := hrg0
  clear hrg0 hg0 hs0 hown hc HI
  go_loopw [3] (fun x wr => ∃ (left : Lit → Bool) (cnt k : Nat), x = .int .i64 k ∧ k ≤ U ∧ Hid (k + sumLeft left T = U) ∧ Hid (wr.ranges Try.prog 9 heldR mb w1.heap.size T.length (.map (Fi.ents (hdrs T))) left cnt) ∧ Hid (Below w1.heap.size w1 wr)) (fun _ wr => wr.rangeLeft mb w1.heap.size)
  case atStart => exact ⟨_, _, 0, rfl, Nat.zero_le _, (by show 0 + _ = _; rw [Nat.zero_add]; exact HA.out), HR0, HB0⟩
  case round =>
    clear HR0 HB0 HA
    obtain ⟨left, cnt, k, rfl, hk, HK, HRG, HB⟩ := hrel
    have hrg := HRG.out
    go_wp2_with (first | (at_next; refine wpList_next_ranges _ rfl _ rfl 9 Try.keyed heldR encStr id (fun key kl hk => by obtain ⟨x, hx, _⟩ := Maps.keyOf_str Try.underlying9 hk; exact ⟨x, hx⟩) (fun v y _ => ⟨v, rfl⟩) mb w1.heap.size T.length _ _ _ rfl hrg ?_ ?_))
    · intro _ hl0
      obtain rfl : k = U := by have := HK.out; rw [sumLeft_none hl0] at this; omega
      clear hl0 HRG hrg HU HK
      go_wp2
      go_ret
      exact ⟨rfl, HB.out⟩
    · intro x c kl yd yp w2 cnt2 hkey hlk hv hat hrg2 hlt hg2 hs2 hen
      obtain ⟨x', ex, rfl, _⟩ := Maps.keyOf_str Try.underlying9 hkey
      obtain rfl : x = x' := encStr_inj ex
      have hy : yd = .held c := by simp [heldR] at hv; exact hv.1.symm
      subst hy
      obtain ⟨l, hm⟩ := held_mem hat
      obtain ⟨g, cap, hc⟩ := HR.out _ hm
      have hst := sumLeft_step HT.out hm (by exact hlk)
      have hk2 : k + l.length ≤ U := by have := HK.out; simp only at hst; omega
      have HK2 : Hid ((k + l.length) + sumLeft (fun z => left z && !z.sameKey (.string x)) T = U) := by
        show _ = _
        have := HK.out
        simp only at hst
        omega
      have HRG2 : Hid (World.ranges _ _ _ _ _ _ _ _ _ _) := hrg2
      have HB2 : Hid (Below w1.heap.size w1 w2) := HB.out.grown hg2 HB.out.size (fun j hj => by cases hj; exact Nat.le_refl _)
      have HM : Hid (w2.rangeLeft mb w1.heap.size < wr.rangeLeft mb w1.heap.size) := by
        show _ < _
        rw [hrg2.left_eq, hrg.left_eq]; exact hlt
      simp only at hc
      subst hc
      generalize l.length = m at *
      clear hst hs2 hg2 hrg2 hrg HRG hat hlk hkey hm hv HK HB hlt ex HU HR
      go_wp2
      go_roundw
      case rel => exact ⟨_, cnt2, k + m, by go_num, hk2, HK2, HRG2, HB2⟩
      case measure => exact HM.out

end Go.Proofs.Ytnlhgcpmmcmknaa
