/- The document's own cache in memory, and the walks of its at, Has, Pinned, room, without, use and add. -/
import Derived.Test.YtnlhgcpmmcmknaaQRef2
import Derived.Test.YtnlhgcpmmcmknaaFRef5
namespace Go.Proofs.Ytnlhgcpmmcmknaa
open Go.RowKit Go.Maps

/-- A page as cells. -/
def frow (f : Ca.Fr) : List Value := [.string f.n, .string f.d, .int .i64 f.i, .int .i64 f.p]
def frc (l : List Ca.Fr) : List Value := l.flatMap frow
theorem frc_cons (f : Ca.Fr) (l : List Ca.Fr) : frc (f :: l) = frow f ++ frc l := by simp [frc]
theorem frc_append (a b : List Ca.Fr) : frc (a ++ b) = frc a ++ frc b := by simp [frc]
theorem frc_length (l : List Ca.Fr) : (frc l).length = l.length * 4 := by
  induction l with
  | nil => rfl
  | cons f l ih => rw [frc_cons, List.length_append, ih]; simp [frow]; omega
theorem frc_at (l : List Ca.Fr) (k t : Nat) (hk : k < l.length) (ht : t < 4) : (frc l)[k * 4 + t]? = (frow (l.getD k Ca.Fr.none))[t]? := by
  induction l generalizing k with
  | nil => simp at hk
  | cons f l ih =>
    rw [frc_cons]
    cases k with
    | zero => rw [List.getElem?_append_left (by simp [frow]; omega)]; simp
    | succ k =>
      rw [List.getElem?_append_right (by simp [frow]; omega)]
      have := ih k (by simpa using hk)
      rw [show (k + 1) * 4 + t - (frow f).length = k * 4 + t by simp [frow]; omega, this]
      simp
theorem frc_one (l : List Ca.Fr) : ∀ u ∈ frc l, u.oneCell' = true := by
  intro u hu
  obtain ⟨f, _, hf⟩ := List.mem_flatMap.1 hu
  simp [frow] at hf
  rcases hf with rfl | rfl | rfl | rfl <;> rfl
theorem frc_set (l : List Ca.Fr) (k t : Nat) (hk : k < l.length) (ht : t < 4) (u : Value) (g : Ca.Fr) (hg : frow g = (frow (l.getD k Ca.Fr.none)).set t u) : (frc l).set (k * 4 + t) u = frc (l.set k g) := by
  induction l generalizing k with
  | nil => simp at hk
  | cons f l ih =>
    rw [frc_cons]
    cases k with
    | zero =>
      rw [List.set_append_left _ _ (by simp [frow]; omega), List.set_cons_zero, frc_cons, hg]
      simp
    | succ k =>
      rw [List.set_append_right _ _ (by simp [frow]; omega), List.set_cons_succ, frc_cons, ← ih k (by simpa using hk) (by simpa using hg)]
      rw [show (k + 1) * 4 + t - (frow f).length = k * 4 + t by simp [frow]; omega]

/-- The four cells of a page. -/
structure FrAt (W : World) (b off : Nat) (f : Ca.Fr) : Prop where
  c0 : W.cell? ⟨b, off, none⟩ = some (.string f.n)
  c1 : W.cell? ⟨b, off + 1, none⟩ = some (.string f.d)
  c2 : W.cell? ⟨b, off + 2, none⟩ = some (.int .i64 f.i)
  c3 : W.cell? ⟨b, off + 3, none⟩ = some (.int .i64 f.p)

/-- The document's cache at x, over its file system at r; all its blocks are of a kind. -/
structure RC (W : World) (ok : Nat → Prop) (x r : Nat) (vL : Value) (st : Ca.St) : Prop where
  block : W.heap[x]? = some (.cells #[at_ r, .int .i64 st.most, vL] 38 (0, 0))
  row : W.ownsRow 0 47 4 vL st.l.length (frc st.l)
  self : ok x
  rowOk : ∀ g, vL.ownBlock = some g → ok g
  files : Ref W (fun b => ok b ∧ b ≠ x ∧ vL.ownBlock ≠ some b) r st.fs

/-- What is the document's cache's own, and turns. -/
def QOwn (x r : Nat) (vL : Value) (i : Nat) : Prop := i = x ∨ i = r ∨ vL.ownBlock = some i

section
variable {W W' w : World} {ok : Nat → Prop} {x r : Nat} {vL : Value} {st : Ca.St}
theorem RC.cell0 (h : RC W ok x r vL st) : W.cell? ⟨x, 0, none⟩ = some (at_ r) := by simp [World.cell?, h.block]
theorem RC.cell1 (h : RC W ok x r vL st) : W.cell? ⟨x, 1, none⟩ = some (.int .i64 st.most) := by simp [World.cell?, h.block]
theorem RC.cell2 (h : RC W ok x r vL st) : W.cell? ⟨x, 2, none⟩ = some vL := by simp [World.cell?, h.block]
theorem RC.free2 (h : RC W ok x r vL st) : W.frozen? ⟨x, 2, none⟩ = false := by simp [World.frozen?, h.block]
theorem RC.lt (h : RC W ok x r vL st) : x < W.heap.size := (Array.getElem?_eq_some_iff.1 h.block).1
theorem RC.slice (h : RC W ok x r vL st) : ∃ a cap, vL = .slice a st.l.length cap ∧ (st.l = [] ∨ ∃ g, a = some ⟨g, 0, none⟩ ∧ g ≠ x ∧ ∀ k, k < st.l.length → FrAt W g (k * 4) (st.l.getD k Ca.Fr.none)) := by
  have hrow := h.row
  rcases h.row.2 with ⟨e, h0⟩ | ⟨g, cap, cur, e, _, hg, _⟩
  · exact ⟨none, 0, by rw [e, h0], .inl (List.length_eq_zero_iff.1 h0)⟩
  · refine ⟨_, cap, e, .inr ⟨g, rfl, ?_, fun k hk => ?_⟩⟩
    · rintro rfl
      rw [h.block] at hg
      simp at hg
    · rw [e] at hrow
      have hc : ∀ t, t < 4 → W.cell? ⟨g, k * 4 + t, none⟩ = (frow (st.l.getD k Ca.Fr.none))[t]? := fun t ht => by
        rw [hrow.cellAt (k * 4 + t) (by omega), frc_at _ _ _ hk ht]
      exact ⟨hc 0 (by omega), hc 1 (by omega), hc 2 (by omega), hc 3 (by omega)⟩
end

section
variable {W W' : World} {ok : Nat → Prop} {x r : Nat} {vL : Value} {st : Ca.St}
theorem RC.later (h : RC W ok x r vL st) (hb : Below W.heap.size W W') : RC W' ok x r vL st :=
  ⟨(hb.block x h.lt).trans h.block, row_after h.row hb, h.self, h.rowOk, h.files.later hb⟩
end

/-! ### Where a page is in the list -/
namespace Ca
variable {l : List Fr} {n : ByteArray} {i : Int}
theorem look_first : ∀ {l : List Fr} {k : Nat}, k < l.length → (l.getD k Fr.none).is n i = true → (∀ j, j < k → (l.getD j Fr.none).is n i = false) → look l n i = some (l.getD k Fr.none)
  | [], _, h, _, _ => by simp at h
  | a :: l, 0, _, hm, _ => by
    unfold look
    rw [List.find?_cons]
    have : a.is n i = true := by simpa using hm
    rw [this]; rfl
  | a :: l, k + 1, h, hm, hb => by
    have h0 : a.is n i = false := by simpa using hb 0 (by omega)
    have ih := look_first (l := l) (k := k) (by simpa using h) (by simpa using hm) fun j hj => by simpa using hb (j + 1) (by omega)
    unfold look at ih ⊢
    rw [List.find?_cons, h0, ih]; rfl
theorem look_no (h : ∀ j, j < l.length → (l.getD j Fr.none).is n i = false) : look l n i = none := look_none' fun x hx e => by
  obtain ⟨j, hj, rfl⟩ := List.getElem_of_mem hx
  have := h j hj
  rw [List.getD_eq_getElem?_getD, List.getElem?_eq_getElem hj, Option.getD_some, is_iff.2 e] at this
  cases this
def AtP (l : List Fr) (n : ByteArray) (i : Int) (z : Int) : Prop := (z = -1 ∧ look l n i = none) ∨ ∃ k : Nat, z = k ∧ k < l.length ∧ look l n i = some (l.getD k Fr.none)
theorem getD_mem {k : Nat} (h : k < l.length) : l.getD k Fr.none ∈ l := by
  rw [List.getD_eq_getElem?_getD, List.getElem?_eq_getElem h]; exact List.getElem_mem h
theorem gone_at : ∀ {l : List Fr} {k : Nat}, Apart l → k < l.length → (l.getD k Fr.none).n = n → (l.getD k Fr.none).i = i → gone l n i = l.take k ++ l.drop (k + 1)
  | [], _, _, h, _, _ => by simp at h
  | a :: l, 0, ha, _, h1, h2 => by
    obtain ⟨hx, _⟩ := List.pairwise_cons.1 ha
    have e1 : a.n = n := by simpa using h1
    have e2 : a.i = i := by simpa using h2
    unfold gone
    rw [List.filter_cons, is_iff.2 ⟨e1, e2⟩]
    show l.filter _ = _
    rw [List.filter_eq_self.2 fun y hy => by
      rw [Bool.not_eq_true', ← Bool.not_eq_true, is_iff]
      exact fun e => hx y hy ⟨e1.trans e.1.symm, e2.trans e.2.symm⟩]
    rfl
  | a :: l, k + 1, ha, h, h1, h2 => by
    obtain ⟨hx, hl⟩ := List.pairwise_cons.1 ha
    have hk : k < l.length := by simpa using h
    have e1 : (l.getD k Fr.none).n = n := by simpa using h1
    have e2 : (l.getD k Fr.none).i = i := by simpa using h2
    have ih := gone_at hl hk e1 e2
    have h0 : a.is n i = false := by
      rw [← Bool.not_eq_true, is_iff]
      exact fun e => hx _ (getD_mem hk) ⟨e.1.trans e1.symm, e.2.trans e2.symm⟩
    unfold gone at ih ⊢
    rw [List.filter_cons, h0]
    show a :: l.filter _ = _
    rw [ih]; rfl
theorem map_at {t : Fr → Fr} : ∀ {l : List Fr} {k : Nat}, Apart l → k < l.length → (l.getD k Fr.none).n = n → (l.getD k Fr.none).i = i → l.map (fun x => if x.is n i = true then t x else x) = l.set k (t (l.getD k Fr.none))
  | [], _, _, h, _, _ => by simp at h
  | a :: l, 0, ha, _, h1, h2 => by
    obtain ⟨hx, _⟩ := List.pairwise_cons.1 ha
    have e1 : a.n = n := by simpa using h1
    have e2 : a.i = i := by simpa using h2
    rw [List.map_cons, if_pos (is_iff.2 ⟨e1, e2⟩)]
    have : l.map (fun x => if x.is n i = true then t x else x) = l := by
      conv => rhs; rw [← List.map_id l]
      refine List.map_congr_left fun y hy => ?_
      rw [if_neg]; rfl
      rw [is_iff]
      exact fun e => hx y hy ⟨e1.trans e.1.symm, e2.trans e.2.symm⟩
    rw [this]; rfl
  | a :: l, k + 1, ha, h, h1, h2 => by
    obtain ⟨hx, hl⟩ := List.pairwise_cons.1 ha
    have hk : k < l.length := by simpa using h
    have e1 : (l.getD k Fr.none).n = n := by simpa using h1
    have e2 : (l.getD k Fr.none).i = i := by simpa using h2
    have ih := map_at (t := t) hl hk e1 e2
    rw [List.map_cons, if_neg, ih]
    · rfl
    · rw [is_iff]
      exact fun e => hx _ (getD_mem hk) ⟨e.1.trans e1.symm, e.2.trans e2.symm⟩
theorem evict_at : ∀ {l : List Fr} {k : Nat}, k < l.length → (l.getD k Fr.none).p = 0 → (∀ j, j < k → (l.getD j Fr.none).p ≠ 0) → evict l = l.take k ++ l.drop (k + 1)
  | [], _, h, _, _ => by simp at h
  | a :: l, 0, _, hm, _ => by
    have : a.p = 0 := by simpa using hm
    unfold evict
    rw [List.eraseP_cons, this]; rfl
  | a :: l, k + 1, h, hm, hb => by
    have h0 : a.p ≠ 0 := by simpa using hb 0 (by omega)
    have ih := evict_at (l := l) (k := k) (by simpa using h) (by simpa using hm) fun j hj => by simpa using hb (j + 1) (by omega)
    unfold evict at ih ⊢
    rw [List.eraseP_cons, decide_eq_false h0]
    show a :: l.eraseP _ = _
    rw [ih]; rfl
theorem evict_no (h : ∀ j, j < l.length → (l.getD j Fr.none).p ≠ 0) : evict l = l := List.eraseP_of_forall_not fun x hx => by
  obtain ⟨j, hj, rfl⟩ := List.getElem_of_mem hx
  have := h j hj
  rw [List.getD_eq_getElem?_getD, List.getElem?_eq_getElem hj, Option.getD_some] at this
  simpa using this
theorem pinned_take (l : List Fr) (k : Nat) (h : k < l.length) : pinned (l.take (k + 1)) = pinned (l.take k) + if 0 < (l.getD k Fr.none).p then 1 else 0 := by
  unfold pinned
  rw [List.take_add_one, List.countP_append, List.getElem?_eq_getElem h, List.getD_eq_getElem?_getD, List.getElem?_eq_getElem h]
  simp [List.countP_cons]
end Ca

section
variable {W W' w : World} {ok : Nat → Prop} {x r : Nat} {vL : Value} {st : Ca.St}

set_option maxRecDepth 100000 in
set_option maxHeartbeats 1000000 in
theorem rat_any (n : ByteArray) (i : Int) (w : World) (h : RC w ok x r vL st) (hl : st.l.length ≤ 1000) :
    Calls Try.prog 50 #[at_ x, .string n, .int .i64 i] w fun e w' => ∃ z, e = .returned (.int .i64 z) ∧ Ca.AtP st.l n i z ∧ w' = w := by
  have hc := h.cell2
  obtain ⟨a, cap, rfl, hcs⟩ := h.slice
  have HCS : Hid (∀ k, k < st.l.length → ∃ g, a = some ⟨g, 0, none⟩ ∧ FrAt w g (k * 4) (st.l.getD k Ca.Fr.none)) := fun k hk => by
    rcases hcs with h | ⟨g, h1, _, h2⟩
    · rw [h] at hk; simp at hk
    · exact ⟨g, h1, h2 k hk⟩
  have HF : Hid (∀ k, k < st.l.length → (st.l.getD k Ca.Fr.none).is n i = true → (∀ j, j < k → (st.l.getD j Ca.Fr.none).is n i = false) → Ca.AtP st.l n i k) := fun k hk hm hb => .inr ⟨k, rfl, hk, Ca.look_first hk hm hb⟩
  have HN : Hid ((∀ j, j < st.l.length → (st.l.getD j Ca.Fr.none).is n i = false) → Ca.AtP st.l n i (-1)) := fun hb => .inl ⟨rfl, Ca.look_no hb⟩
  clear hcs h
  unfold at_
  generalize st.l = l at *
  go_enter Try.func50, Try.ntmps50
  go_wp2
  go_loop [7] (fun y => ∃ k : Nat, k ≤ l.length ∧ y = .int .i64 k ∧ Hid (∀ j, j < k → (l.getD j Ca.Fr.none).is n i = false)) (fun y => l.length - (intOf y).toNat)
  case atStart => exact ⟨0, Nat.zero_le _, rfl, fun j hj => by omega⟩
  case round =>
    obtain ⟨k, hk, rfl, HB⟩ := hrel
    by_cases hlt : k < l.length
    · obtain ⟨g, rfl, hf⟩ := HCS.out k hlt
      have HF1 : Hid _ := HF.out k hlt
      have HB2 : Hid ((l.getD k Ca.Fr.none).is n i = false → ∀ j, j < k + 1 → (l.getD j Ca.Fr.none).is n i = false) := fun h j hj => by
        by_cases e : j = k
        · subst e; exact h
        · exact HB.out j (by omega)
      generalize l.getD k Ca.Fr.none = f at hf HF1 HB2
      have c0 := hf.c0
      have c2 := hf.c2
      clear hf
      by_cases hn : f.n = n
      · by_cases hi : f.i = i
        · have HR : Hid (Ca.AtP l n i k) := HF1.out (Ca.is_iff.2 ⟨hn, hi⟩) HB.out
          rw [hn] at c0
          rw [hi] at c2
          clear hn hi HF1 HB2
          go_wp2
          go_ret
          exact ⟨_, rfl, HR.out, rfl⟩
        · have HB3 : Hid (∀ j, j < k + 1 → (l.getD j Ca.Fr.none).is n i = false) := HB2.out (by rw [← Bool.not_eq_true, Ca.is_iff]; exact fun e => hi e.2)
          have hib : (f.i == i) = false := by simpa using hi
          rw [hn] at c0
          clear hn HF1 HB2
          go_wp2
          go_round
          case rel => exact ⟨k + 1, by omega, by go_num, HB3⟩
          case measure => simp [intOf]; omega
      · have HB3 : Hid (∀ j, j < k + 1 → (l.getD j Ca.Fr.none).is n i = false) := HB2.out (by rw [← Bool.not_eq_true, Ca.is_iff]; exact fun e => hn e.1)
        have hne := text_ne hn
        clear hn HF1 HB2
        go_wp2
        go_round
        case rel => exact ⟨k + 1, by omega, by go_num, HB3⟩
        case measure => simp [intOf]; omega
    · obtain rfl : k = l.length := by omega
      have HR : Hid (Ca.AtP l n i (-1)) := HN.out HB.out
      go_wp2
      go_ret
      exact ⟨_, rfl, HR.out, rfl⟩

theorem rhas_any (n : ByteArray) (i : Int) (w : World) (h : RC w ok x r vL st) (hl : st.l.length ≤ 1000) :
    Calls Try.prog 20 #[at_ x, .string n, .int .i64 i] w fun e w' => e = .returned (.bool (Ca.has st.l n i)) ∧ w' = w := by
  have HA : Hid (Calls _ _ _ _ _) := rat_any n i w h hl
  clear h hl
  rw [Ca.has_look]
  unfold at_ at HA
  unfold at_
  go_enter Try.func20, Try.ntmps20
  go_wp2_with fail
  refine Calls.mono HA.out ?_
  rintro e w1 ⟨z, rfl, hz, rfl⟩
  rcases hz with ⟨rfl, hz⟩ | ⟨k, rfl, hk, hz⟩
  · have HZ : Hid (Ca.look st.l n i = none) := hz
    clear hz HA
    go_wp2
    go_ret
    exact ⟨by rw [HZ.out]; rfl, rfl⟩
  · have HZ : Hid (Ca.look st.l n i = some _) := hz
    clear hz HA hk
    go_wp2
    go_ret
    exact ⟨by rw [HZ.out]; rfl, rfl⟩

set_option maxRecDepth 100000 in
set_option maxHeartbeats 1000000 in
theorem rpinned_any (w : World) (h : RC w ok x r vL st) (hl : st.l.length ≤ 1000) :
    Calls Try.prog 18 #[at_ x] w fun e w' => e = .returned (.int .i64 (Ca.pinned st.l)) ∧ w' = w := by
  have hc := h.cell2
  obtain ⟨a, cap, rfl, hcs⟩ := h.slice
  have HCS : Hid (∀ k, k < st.l.length → ∃ g, a = some ⟨g, 0, none⟩ ∧ w.cell? ⟨g, k * 4 + 3, none⟩ = some (.int .i64 (st.l.getD k Ca.Fr.none).p)) := fun k hk => by
    rcases hcs with h | ⟨g, h1, _, h2⟩
    · rw [h] at hk; simp at hk
    · exact ⟨g, h1, (h2 k hk).c3⟩
  have HP1 : Hid (∀ k, k < st.l.length → Ca.pinned (st.l.take (k + 1)) = Ca.pinned (st.l.take k) + if 0 < (st.l.getD k Ca.Fr.none).p then 1 else 0) := fun k hk => Ca.pinned_take _ _ hk
  have HP0 : Hid (Ca.pinned (st.l.take 0) = 0) := rfl
  have HP2 : Hid (∀ k, Ca.pinned (st.l.take k) ≤ k) := fun k => by
    have := Ca.pinned_le (st.l.take k)
    have h2 := List.length_take_le k st.l
    omega
  have HP3 : Hid (Ca.pinned (st.l.take st.l.length) = Ca.pinned st.l) := by show _ = _; rw [List.take_length]
  obtain ⟨US, HUS⟩ : ∃ US : Nat → Nat, Hid (∀ k, Ca.pinned (st.l.take k) = US k) := ⟨_, fun _ => rfl⟩
  obtain ⟨PP, HPP⟩ : ∃ PP : Nat → Nat, Hid (∀ k, (st.l.getD k Ca.Fr.none).p = PP k) := ⟨_, fun _ => rfl⟩
  simp only [HUS.out] at HP0 HP1 HP2 HP3
  simp only [HPP.out] at HCS HP1
  clear h hcs HUS HPP
  unfold at_
  generalize Ca.pinned st.l = U at *
  generalize st.l.length = m at *
  go_enter Try.func18, Try.ntmps18
  go_wp2
  go_loop [3, 4] (fun y z => ∃ k : Nat, k ≤ m ∧ z = .int .i64 k ∧ y = .int .i64 (US k)) (fun _ z => m - (intOf z).toNat)
  case atStart => exact ⟨0, Nat.zero_le _, rfl, by rw [HP0.out]; rfl⟩
  case round =>
    obtain ⟨k, hk, rfl, rfl⟩ := hrel
    have hu1 := HP2.out k
    by_cases hlt : k < m
    · obtain ⟨g, rfl, c3⟩ := HCS.out k hlt
      have hp1 := HP1.out k hlt
      generalize PP k = p at *
      by_cases hp : 0 < p
      · rw [if_pos hp] at hp1
        have HS : Hid (US (k + 1) = US k + 1) := hp1
        clear hp1
        go_wp2
        go_round
        case rel => exact ⟨k + 1, by omega, by go_num, by rw [HS.out]; go_num⟩
        case measure => simp [intOf]; omega
      · rw [if_neg hp] at hp1
        have HS : Hid (US (k + 1) = US k) := hp1
        obtain rfl : p = 0 := by omega
        clear hp1
        go_wp2
        go_round
        case rel => exact ⟨k + 1, by omega, by go_num, by rw [HS.out]⟩
        case measure => simp [intOf]; omega
    · obtain rfl : k = m := by omega
      go_wp2
      go_ret
      exact ⟨by rw [HP3.out]; rfl, rfl⟩

theorem rroom_any (w : World) (h : RC w ok x r vL st) (hl : st.l.length ≤ 1000) :
    Calls Try.prog 67 #[at_ x] w fun e w' => e = .returned (.bool (!Ca.stuck st.most st.l)) ∧ Below w.heap.size w w' := by
  have HP : Hid (∀ y : Later w, Calls Try.prog 18 #[at_ x] y.world fun e w' => e = .returned (.int .i64 (Ca.pinned st.l)) ∧ Below y.world.heap.size y.world w') := fun y => (rpinned_any y.world (h.later y.below) hl).mono fun e w' hh => ⟨hh.1, by rw [hh.2]; exact Below.refl _ _⟩
  have hc1 := Later.cell h.cell1
  have hc2 := Later.cell h.cell2
  have hne := Later.some w
  obtain ⟨a, cap, rfl, _⟩ := h.slice
  have hle := Ca.pinned_le st.l
  unfold Ca.stuck
  clear h
  unfold at_ at HP
  unfold at_
  generalize Ca.pinned st.l = P at *
  generalize st.l.length = m at *
  generalize st.most = M at *
  by_cases h1 : m < M
  · rw [decide_eq_false (p := M ≤ m) (by omega)]
    go_enter Try.func67, Try.ntmps67
    go_wp2_with fail
    refine wp_region_later (by kernel_rfl) (by kernel_rfl) ?_
    repeat (go_big_quiet_step (fail))
    refine wpQuiet_nil ?_
    intro w1 hw1
    obtain ⟨⟨w2, hb2⟩, rfl⟩ := hw1
    go_wp2
    go_ret
    exact ⟨rfl, hb2⟩
  · rw [decide_eq_true (p := M ≤ m) (by omega), Bool.true_and]
    have h1b : decide ((m : Int) < (M : Int)) = false := decide_eq_false (by omega)
    by_cases h2 : P < m
    · rw [decide_eq_false (p := P = m) (by omega)]
      go_enter Try.func67, Try.ntmps67
      go_wp2_with fail
      refine wp_region_later (by kernel_rfl) (by kernel_rfl) ?_
      repeat (go_big_quiet_step ((go_at_call 18; exact Later.made (HP.out _))))
      refine wpQuiet_nil ?_
      intro w1 hw1
      obtain ⟨⟨w2, hb2⟩, rfl⟩ := hw1
      go_wp2
      go_ret
      exact ⟨rfl, hb2⟩
    · obtain rfl : P = m := by omega
      rw [decide_eq_true (p := P = P) rfl]
      clear h2
      go_enter Try.func67, Try.ntmps67
      go_wp2_with fail
      refine wp_region_later (by kernel_rfl) (by kernel_rfl) ?_
      repeat (go_big_quiet_step ((go_at_call 18; exact Later.made (HP.out _))))
      refine wpQuiet_nil ?_
      intro w1 hw1
      obtain ⟨⟨w2, hb2⟩, rfl⟩ := hw1
      go_wp2
      go_ret
      exact ⟨rfl, hb2⟩
end

theorem Try.frInfo : (Try.prog.info? 47).map (fun i => (i.zero, i.size, i.bytes)) = some (some (.agg #[.string ⟨#[]⟩, .string ⟨#[]⟩, .int .i64 0, .int .i64 0]), 4, 48) := by kernel_rfl

theorem step_append_own {P : Program} {w : World} {ops : Array Oper} {o : Oper} {a : Act} {K : Act → World → Prop} {Q : Exit → Act → World → Prop} {E : Prop} (hgd : o.guard = none) (s x : Operand) (t : TypeId)
    (ho : o.op = .call { callee := .builtin .append, args := #[s, x], argTypes := #[t, t] })
    (base : Nat) (e : TypeId) (i : TypeInfo) (z : Value) (size bytes : Nat) (ht : P.underlying t = some (.slice e)) (hi : P.info? e = some i) (hz : i.zero = some z)
    (hsize : i.size = size) (hby : i.bytes = bytes) (hzs : z.cells.size = size) (hsz : 0 < size)
    (v : Value) (n : Nat) (xs : List Value) (hs : a.eval s = v) (hown : w.ownsRow base e size v n xs)
    (ad : Addr) (m c : Nat) (news : List Value) (hx : a.eval x = .slice (some ad) m c) (hl : news.length = m * size) (hnews : ∀ j u, news[j]? = some u → w.cell? (ad.add j) = some u) (h1 : ∀ u ∈ news, u.oneCell' = true)
    (h63 : n + m ≤ maxLen) (hbytes : (n + m) * bytes ≤ 140737488355328) (hbase : base ≤ w.heap.size)
    (h : ∀ v' w', w'.ownsRow base e size v' (n + m) (xs ++ news) → w.grownBy w' v.ownBlock → K (a.put o.dst v') w') :
    if Region.wanted o (yielded ops a.tmps) = true then Oper.wp P o a w K Q else E := by
  have hw : Region.wanted o (yielded ops a.tmps) = true := by simp [Region.wanted, hgd]
  rw [if_pos hw]
  exact wp_append_own w s x t ho base e i z size bytes ht hi hz hsize hby hzs hsz v n xs hs hown ad m c news hx hl hnews h1 h63 hbytes hbase fun v' w' h2 h3 _ => h v' w' h2 h3

theorem StrsIn.kept {W W' : World} {ok : Nat → Prop} {v : Value} {l : List ByteArray} (h : StrsIn W ok v l) (hb : ∀ b, b < W.heap.size → ok b → W'.heap[b]? = W.heap[b]?) : StrsIn W' ok v l := by
  obtain ⟨a, cap, rfl, hc, h⟩ := h
  refine ⟨a, cap, rfl, hc, ?_⟩
  by_cases h0 : l = []
  · exact .inl h0
  · rcases h with h | ⟨b, off, rfl, ho, h⟩
    · exact absurd h h0
    · have hlt := World.block_lt_of_cell? _ _ (h 0 (List.length_pos_iff.2 h0))
      refine .inr ⟨b, off, rfl, ho, fun j hj => ?_⟩
      rw [World.cell?_of_block (a := ⟨b, off + j, none⟩) (hb b hlt ho)]
      exact h j hj
theorem Ref.mono {W : World} {ok ok' : Nat → Prop} {r : Nat} {st : Fi.St} (h : Ref W ok r st) (hk : ∀ b, b < W.heap.size → ok b → ok' b) : Ref W ok' r st := by
  obtain ⟨vL, T, h1, h2⟩ := h
  exact ⟨vL, T, h1.imp hk, h2⟩
theorem Ref.kept {W W' : World} {ok : Nat → Prop} {r : Nat} {st : Fi.St} (h : Ref W ok r st) (hb : ∀ b, b < W.heap.size → ok b → W'.heap[b]? = W.heap[b]?) : Ref W' ok r st := by
  obtain ⟨vL, T, h1, h2⟩ := h
  exact ⟨vL, T, ⟨(hb r h1.lt h1.self).trans h1.block, ownsRow_blocks h1.row fun g hg => hb g (h1.row.lt g hg).2 (h1.rowOk g hg), h1.rowOk, fun t ht => (h1.pages t ht).kept hb, h1.self⟩, h2⟩
theorem Ref.okSelf {W : World} {ok : Nat → Prop} {r : Nat} {st : Fi.St} (h : Ref W ok r st) : ok r := by
  obtain ⟨vL, T, h1, h2⟩ := h
  exact h1.self
theorem Turn.to {o o' o'' : Nat → Prop} {W W' : World} (h : Turn o W o' W') (hg : ∀ i, o'' i → o i ∨ W.heap.size ≤ i) : Turn o W o'' W' := ⟨h.os, h.tape, h.output, h.size, h.block, hg⟩

section
variable {W W' w wA : World} {ok : Nat → Prop} {x r : Nat} {vL va : Value} {st : Ca.St} {l' : List Ca.Fr}

theorem RC.rowNe (h : RC W ok x r vL st) : ∀ g, vL.ownBlock = some g → g ≠ x ∧ g < W.heap.size := fun g hg => by
  refine ⟨?_, (h.row.lt g hg).2⟩
  rintro rfl
  rcases h.row.2 with ⟨e, _⟩ | ⟨g', cap, cur, e, _, hb, _⟩
  · rw [e] at hg; cases hg
  · rw [e] at hg
    obtain rfl : g' = g := by simpa [Value.ownBlock] using hg
    rw [h.block] at hb
    simp at hb

/-- The list is another one, in a new row. -/
theorem RC.relist (h : RC w ok x r vL st) (hb : Below w.heap.size w W) (hrow : W.ownsRow w.heap.size 47 4 va l'.length (frc l')) (hok : ∀ i, w.heap.size ≤ i → ok i) :
    RC (W.setCell ⟨x, 2, none⟩ va) ok x r va { st with l := l' } ∧ Turn (QOwn x r vL) w (QOwn x r va) (W.setCell ⟨x, 2, none⟩ va) := by
  have hW := h.later hb
  have hlt := h.lt
  refine ⟨⟨heap_setCell_same W x 2 _ _ va hW.block, ?_, h.self, fun g hg => hok g (hrow.lt g hg).1, ?_⟩, ?_⟩
  · have := ownsRow_blocks (W' := W.setCell ⟨x, 2, none⟩ va) hrow fun g hg => Below.heap_setCell _ _ _ _ (by have := (hrow.lt g hg).1; show g ≠ x; omega)
    exact row_zero this
  · have h1 : Ref w (fun b => ok b ∧ b ≠ x ∧ va.ownBlock ≠ some b) r st.fs := h.files.mono fun b hb' hk => ⟨hk.1, hk.2.1, fun e => by have := (hrow.lt b e).1; omega⟩
    exact (h1.later hb).kept fun b _ hk => Below.heap_setCell _ _ _ _ hk.2.1
  · refine ((Turn.below hb).trans (turn_set (o := QOwn x r vL) (a := ⟨x, 2, none⟩) (.inl rfl) _)).to ?_
    rintro i (e | e | e)
    · exact .inl (.inl e)
    · exact .inl (.inr (.inl e))
    · exact .inr (hrow.lt i e).1

/-- A page more, in the row or in a new one. -/
theorem RC.snoc (h : RC w ok x r vL st) (hb : Below w.heap.size w wA) {g cap n' : Nat} (hrow : W.ownsRow 0 47 4 (.slice (some ⟨g, 0, none⟩) n' cap) n' (frc l')) (hn : n' = l'.length) (hg : wA.grownBy W vL.ownBlock) (hl : vL.ownBlock = some g ∨ g = wA.heap.size) (hok : ∀ i, w.heap.size ≤ i → ok i) :
    RC (W.setCell ⟨x, 2, none⟩ (.slice (some ⟨g, 0, none⟩) n' cap)) ok x r (.slice (some ⟨g, 0, none⟩) n' cap) { st with l := l' } ∧ Turn (QOwn x r vL) w (QOwn x r (.slice (some ⟨g, 0, none⟩) n' cap)) (W.setCell ⟨x, 2, none⟩ (.slice (some ⟨g, 0, none⟩) n' cap)) := by
  have hA := h.later hb
  have hlt := h.lt
  have hsz := hb.size
  have hgx : g ≠ x := by
    rcases hl with e | e
    · exact (h.rowNe g e).1
    · omega
  have hnew : vL.ownBlock = some g ∨ w.heap.size ≤ g := hl.imp id fun e => by omega
  have hblk : ∀ b, b < w.heap.size → b ≠ x → vL.ownBlock ≠ some b → (W.setCell ⟨x, 2, none⟩ (.slice (some ⟨g, 0, none⟩) n' cap)).heap[b]? = w.heap[b]? := fun b hb' h1 h2 =>
    (Below.heap_setCell _ _ _ _ h1).trans ((hg.block b (by omega) fun e => h2 e.symm).trans (hb.block b hb'))
  have hbx : W.heap[x]? = some (.cells #[at_ r, .int .i64 st.most, vL] 38 (0, 0)) := (hg.block x (by omega) fun e => (h.rowNe x e.symm).1 rfl).trans hA.block
  subst hn
  refine ⟨⟨heap_setCell_same W x 2 _ _ _ hbx, ?_, h.self, fun q hq => ?_, ?_⟩, ?_⟩
  · refine ownsRow_blocks hrow fun q hq => Below.heap_setCell _ _ _ _ ?_
    have e : g = q := by simpa [Value.ownBlock] using hq
    show q ≠ x
    omega
  · have e : g = q := by simpa [Value.ownBlock] using hq
    subst e
    rcases hnew with e | e
    · exact h.rowOk g e
    · exact hok g e
  · have h1 : Ref w (fun b => ok b ∧ b ≠ x ∧ vL.ownBlock ≠ some b ∧ g ≠ b) r st.fs := h.files.mono fun b hb' hk => ⟨hk.1, hk.2.1, hk.2.2, fun e => by
      subst e
      rcases hnew with e | e
      · exact hk.2.2 e
      · omega⟩
    refine (h1.kept fun b hb' hk => hblk b hb' hk.2.1 hk.2.2.1).mono fun b _ hk => ⟨hk.1, hk.2.1, fun e => hk.2.2.2 (by simpa [Value.ownBlock] using e)⟩
  · refine ⟨hg.os.trans hb.os, hg.tape.trans hb.tape, hg.output.trans hb.output, by rw [show (W.setCell ⟨x, 2, none⟩ (.slice (some ⟨g, 0, none⟩) l'.length cap)).heap.size = W.heap.size by simp]; have := hg.size; omega, fun i hi ho => hblk i hi (fun e => ho (.inl e)) (fun e => ho (.inr (.inr e))), ?_⟩
    rintro i (e | e | e)
    · exact .inl (.inl e)
    · exact .inl (.inr (.inl e))
    · have e2 : g = i := by simpa [Value.ownBlock] using e
      subst e2
      exact hnew.imp (fun e => .inr (.inr e)) id

/-- A cell of a page is written. -/
theorem RC.store {g n cap : Nat} (h : RC w ok x r (.slice (some ⟨g, 0, none⟩) n cap) st) (j : Nat) (u : Value) (hl : l'.length = st.l.length) (hf : (frc st.l).set j u = frc l') :
    RC (w.setCell ⟨g, j, none⟩ u) ok x r (.slice (some ⟨g, 0, none⟩) n cap) { st with l := l' } ∧ Turn (QOwn x r (.slice (some ⟨g, 0, none⟩) n cap)) w (QOwn x r (.slice (some ⟨g, 0, none⟩) n cap)) (w.setCell ⟨g, j, none⟩ u) := by
  have hgx := h.rowNe g rfl
  have hn : n = st.l.length := by
    rcases h.row.2 with ⟨e, _⟩ | ⟨g', cap', cur, e, _⟩
    · cases e
    · simp only [Value.slice.injEq] at e; exact e.2.1
  subst hn
  refine ⟨⟨(Below.heap_setCell _ _ _ _ (fun e => hgx.1 e.symm)).trans h.block, ?_, h.self, h.rowOk, ?_⟩, turn_set (o := QOwn x r _) (a := ⟨g, j, none⟩) (.inr (.inr rfl)) _⟩
  · have := (h.row.stored j u).1
    rw [hf] at this
    show World.ownsRow _ _ _ _ _ l'.length _
    rw [hl]
    exact this
  · exact h.files.kept fun b _ hk => Below.heap_setCell _ _ _ _ (fun e => hk.2.2 (by rw [e]; rfl))

theorem frow_news {g : Nat} (hc : ∀ k, k < st.l.length → FrAt W g (k * 4) (st.l.getD k Ca.Fr.none)) (j : Nat) (u : Value) (hu : (frc st.l)[j]? = some u) : W.cell? ⟨g, j, none⟩ = some u := by
  have hj : j < st.l.length * 4 := by have := (List.getElem?_eq_some_iff.1 hu).1; rwa [frc_length] at this
  have e : j = (j / 4) * 4 + j % 4 := by omega
  have hk : j / 4 < st.l.length := by omega
  have ht : j % 4 < 4 := by omega
  have h4 := frc_at st.l (j / 4) (j % 4) hk ht
  rw [← e, hu] at h4
  have hf := hc (j / 4) hk
  have ht4 : j % 4 = 0 ∨ j % 4 = 1 ∨ j % 4 = 2 ∨ j % 4 = 3 := by omega
  rw [e]
  rcases ht4 with h | h | h | h
  · rw [h] at h4 ⊢; rw [show j / 4 * 4 + 0 = j / 4 * 4 by omega, hf.c0]; exact h4.symm
  · rw [h] at h4 ⊢; rw [hf.c1]; exact h4.symm
  · rw [h] at h4 ⊢; rw [hf.c2]; exact h4.symm
  · rw [h] at h4 ⊢; rw [hf.c3]; exact h4.symm
theorem frc_take (l : List Ca.Fr) (k : Nat) : frc (l.take k) = (frc l).take (k * 4) := by
  induction l generalizing k with
  | nil => simp [frc]
  | cons f l ih =>
    cases k with
    | zero => simp [frc]
    | succ k =>
      rw [List.take_succ_cons, frc_cons, frc_cons, ih, List.take_append]
      rw [show (frow f).take ((k + 1) * 4) = frow f from List.take_of_length_le (by simp [frow]; omega), show (k + 1) * 4 - (frow f).length = k * 4 by simp [frow]; omega]
theorem frc_drop (l : List Ca.Fr) (k : Nat) : frc (l.drop k) = (frc l).drop (k * 4) := by
  induction l generalizing k with
  | nil => simp [frc]
  | cons f l ih =>
    cases k with
    | zero => simp [frc]
    | succ k =>
      rw [List.drop_succ_cons, frc_cons, ih, List.drop_append]
      rw [show (frow f).drop ((k + 1) * 4) = [] from List.drop_of_length_le (by simp [frow]; omega), show (k + 1) * 4 - (frow f).length = k * 4 by simp [frow]; omega]
      rfl

set_option maxRecDepth 100000 in
set_option maxHeartbeats 2000000 in
theorem rwithout_any (k : Nat) (w : World) (h : RC w ok x r vL st) (hl : st.l.length ≤ 1000) (hk : k < st.l.length) (hok : ∀ i, w.heap.size ≤ i → ok i) :
    Calls Try.prog 85 #[at_ x, .int .i64 k] w fun e w' => e = .returned (.tuple #[]) ∧ ∃ vL', RC w' ok x r vL' { st with l := st.l.take k ++ st.l.drop (k + 1) } ∧ Turn (QOwn x r vL) w (QOwn x r vL') w' := by
  have HAF : Hid (∀ W va, Below w.heap.size w W → W.ownsRow w.heap.size 47 4 va (st.l.take k ++ st.l.drop (k + 1)).length (frc (st.l.take k ++ st.l.drop (k + 1))) → RC (W.setCell ⟨x, 2, none⟩ va) ok x r va { st with l := st.l.take k ++ st.l.drop (k + 1) } ∧ Turn (QOwn x r vL) w (QOwn x r va) (W.setCell ⟨x, 2, none⟩ va)) := fun W va hb hr => h.relist hb hr hok
  have HC : Hid (∀ W, Below w.heap.size w W → W.cell? ⟨x, 2, none⟩ = some vL) := fun W hb => (h.later hb).cell2
  have HFZ : Hid (∀ W, Below w.heap.size w W → W.frozen? ⟨x, 2, none⟩ = false) := fun W hb => (h.later hb).free2
  have HNW : Hid (∀ W g, Below w.heap.size w W → (∃ a cap, vL = .slice a st.l.length cap ∧ a = some ⟨g, 0, none⟩) → ∀ j u, (frc st.l)[j]? = some u → W.cell? ⟨g, j, none⟩ = some u) := by
    rintro W g hb ⟨a, cap, e1, rfl⟩
    obtain ⟨a', cap', e2, h2⟩ := (h.later hb).slice
    rw [e1] at e2
    simp only [Value.slice.injEq] at e2
    obtain ⟨rfl, _, rfl⟩ := e2
    rcases h2 with h2 | ⟨g', e3, _, h2⟩
    · rw [h2] at hk; simp at hk
    · simp only [Option.some.injEq, Addr.mk.injEq, and_true] at e3
      obtain rfl := e3
      exact frow_news h2
  obtain ⟨a, cap, rfl, hcs⟩ := h.slice
  obtain ⟨g, rfl, _, _⟩ := hcs.resolve_left (by intro e; rw [e] at hk; simp at hk)
  have hcapl : st.l.length ≤ cap := by
    rcases h.row.2 with ⟨e, _⟩ | ⟨_, _, _, e, _, _, hc, _⟩
    · cases e
    · simp only [Value.slice.injEq] at e; omega
  have HN1 : Hid (∀ W, Below w.heap.size w W → ∀ j u, (frc (st.l.take k))[j]? = some u → W.cell? ((⟨g, 0, none⟩ : Addr).add j) = some u) := fun W hb j u hu => by
    rw [Go.WideShapes.add_plain, Nat.zero_add]
    rw [frc_take, List.getElem?_take] at hu
    split at hu
    · exact HNW.out W g hb ⟨_, _, rfl, rfl⟩ j u hu
    · cases hu
  have HN2 : Hid (∀ W, Below w.heap.size w W → ∀ j u, (frc (st.l.drop (k + 1)))[j]? = some u → W.cell? ((⟨g, (k + 1) * 4, none⟩ : Addr).add j) = some u) := fun W hb j u hu => by
    rw [Go.WideShapes.add_plain]
    rw [frc_drop, List.getElem?_drop] at hu
    exact HNW.out W g hb ⟨_, _, rfl, rfl⟩ _ u hu
  have HL1 : Hid ((frc (st.l.take k)).length = k * 4) := by show _ = _; rw [frc_length, List.length_take]; congr 1; omega
  obtain ⟨m, hm⟩ : ∃ m, st.l.length = k + 1 + m := ⟨st.l.length - (k + 1), by omega⟩
  have HL2 : Hid ((frc (st.l.drop (k + 1))).length = m * 4) := by show _ = _; rw [frc_length, List.length_drop, hm]; congr 1; omega
  have HLL : Hid (k + m = (st.l.take k ++ st.l.drop (k + 1)).length) := by show _ = _; rw [List.length_append, List.length_take, List.length_drop]; omega
  have HAP : Hid (frc (st.l.take k) ++ frc (st.l.drop (k + 1)) = frc (st.l.take k ++ st.l.drop (k + 1))) := (frc_append _ _).symm
  have c1 := HC.out w (Below.refl _ _)
  have c2 := HC.out w.drew (Below.refl _ _).drew
  obtain ⟨i0, hti, hz0, hz1, hz2⟩ := info_parts Try.frInfo
  have o1 := frc_one (st.l.take k)
  have o2 := frc_one (st.l.drop (k + 1))
  obtain ⟨c, rfl⟩ : ∃ c, cap = k + 1 + c := ⟨cap - (k + 1), by omega⟩
  have hmc : m ≤ c := by omega
  rw [hm] at c1 c2 HC hl
  clear h hcs hcapl hok HNW hk
  have q1 : (k : Int) ≤ (k : Int) + 1 + (c : Int) := by omega
  have q2 : (k : Int) + 1 ≤ (k : Int) + 1 + (m : Int) := by omega
  have q3 : IntKind.i64.wrap ((k : Int) + 1) = (k : Int) + 1 := by simp [IntKind.wrap, IntKind.bits, IntKind.signed]; omega
  have q4 : (0 : Int) ≤ (k : Int) + 1 := by omega
  obtain ⟨AD, hAD, HN3⟩ : ∃ AD : Addr, (if c = 0 then some (⟨g, 0, none⟩ : Addr) else some ⟨g, (k + 1) * 4, none⟩) = some AD ∧ Hid (∀ W, Below w.heap.size w W → ∀ j u, (frc (st.l.drop (k + 1)))[j]? = some u → W.cell? (AD.add j) = some u) := by
    by_cases hc0 : c = 0
    · refine ⟨_, if_pos hc0, fun W hb j u hu => ?_⟩
      have := (List.getElem?_eq_some_iff.1 hu).1
      rw [HL2.out] at this
      omega
    · exact ⟨_, if_neg hc0, HN2.out⟩
  clear HN2
  generalize frc (st.l.take k) = F1 at *
  generalize frc (st.l.drop (k + 1)) = F2 at *
  unfold at_
  go_enter Try.func85, Try.ntmps85
  go_wp2
  go_region_law
    (first
    | (refine step_append_own (w := w.drew) (by rfl) _ _ _ (by rfl) w.heap.size 47 i0 (.agg #[.string ⟨#[]⟩, .string ⟨#[]⟩, .int .i64 0, .int .i64 0]) 4 48 Try.underlying36 hti hz0 hz1 hz2 rfl (by omega) (.slice none 0 0) 0 [] (by rfl) (World.ownsRow_nil _ _ _ _) ⟨g, 0, none⟩ k (k + 1 + c) F1 (by rfl) HL1.out (HN1.out _ (Below.refl _ _).drew) o1 (by unfold maxLen; omega) (by omega) (by simp) ?_; intro v1 w1 hown1 hgrow1; have B1 : Hid (Below w.heap.size w w1) := (Below.refl _ _).drew.grown hgrow1 (by simp) (fun q e => by cases e); have c3 := HC.out w1 B1.out)
    | (refine step_append_own (w := w1) (by rfl) _ _ _ (by rfl) w.heap.size 47 i0 (.agg #[.string ⟨#[]⟩, .string ⟨#[]⟩, .int .i64 0, .int .i64 0]) 4 48 Try.underlying36 hti hz0 hz1 hz2 rfl (by omega) v1 (0 + k) ([] ++ F1) (by rfl) hown1 AD m c F2 (by rfl) HL2.out (HN3.out _ B1.out) o2 (by unfold maxLen; omega) (by omega) B1.out.size ?_; intro v2 w2 hown2 hgrow2; have B2 : Hid (Below w.heap.size w w2) := B1.out.grown hgrow2 B1.out.size (fun q e => (hown1.lt q e).1); have c4 := HC.out w2 B2.out; have f4 := HFZ.out w2 B2.out; obtain ⟨va, vm, vc, rfl⟩ := row_shape hown2)
    | fail)
  all_goals
    have HR : Hid (_ ∧ _) := HAF.out w2 _ B2.out (by rw [← HLL.out, ← HAP.out]; rw [Nat.zero_add] at hown2; exact hown2)
    go_end0
    exact ⟨rfl, _, HR.out.1, HR.out.2⟩
end

def frarr (f : Ca.Fr) : Array Value := #[.string f.n, .string f.d, .int .i64 f.i, .int .i64 f.p]
theorem frarr_list (f : Ca.Fr) : (frarr f).toList = frow f := rfl
theorem frow_one (f : Ca.Fr) : ∀ u ∈ (frarr f).toList, u.oneCell' = true := by
  intro u hu
  simp [frarr] at hu
  rcases hu with rfl | rfl | rfl | rfl <;> rfl
/-- A page in a box of its own. -/
structure FrBox (W : World) (B : Nat) (f : Ca.Fr) : Prop where
  b0 : W.cell? ⟨B, 0, none⟩ = some (.string f.n)
  b1 : W.cell? ⟨B, 1, none⟩ = some (.string f.d)
  b2 : W.cell? ⟨B, 2, none⟩ = some (.int .i64 f.i)
  b3 : W.cell? ⟨B, 3, none⟩ = some (.int .i64 f.p)
theorem FrBox.of {W : World} {B : Nat} {f : Ca.Fr} (h : W.heap[B]? = some (.cells (frarr f) 47 (0, 0))) : FrBox W B f := by
  constructor <;> simp [World.cell?, h, frarr]

section
variable {W W' w wA : World} {ok : Nat → Prop} {x r : Nat} {vL va : Value} {st : Ca.St} {l' : List Ca.Fr}

theorem RC.own_lt (h : RC W ok x r vL st) : ∀ i, QOwn x r vL i → i < W.heap.size := by
  rintro i (e | e | e)
  · rw [e]; exact h.lt
  · rw [e]; exact h.files.lt
  · exact (h.row.lt i e).2

set_option maxRecDepth 100000 in
set_option maxHeartbeats 2000000 in
theorem ruse_any (k : Nat) (w : World) (h : RC w ok x r vL st) (hl : st.l.length ≤ 1000) (hk : k < st.l.length) (hok : ∀ i, w.heap.size ≤ i → ok i) :
    Calls Try.prog 70 #[at_ x, .int .i64 k] w fun e w' => e = .returned (.tuple #[]) ∧ ∃ vL', RC w' ok x r vL' { st with l := st.l.take k ++ st.l.drop (k + 1) ++ [st.l.getD k Ca.Fr.none] } ∧ Turn (QOwn x r vL) w (QOwn x r vL') w' := by
  have cL := h.cell2
  obtain ⟨f, hfd⟩ : ∃ f, st.l.getD k Ca.Fr.none = f := ⟨_, rfl⟩
  obtain ⟨wB, hwB⟩ : ∃ wB, w.alloc (.cells #[.string f.n, .string f.d, .int .i64 f.i, .int .i64 f.p] 47) = wB := ⟨_, rfl⟩
  have BB : Hid (Below w.heap.size w wB) := by rw [← hwB]; exact (Below.refl _ w).alloc (Nat.le_refl _) _
  have hbox : wB.heap[w.heap.size]? = some (.cells (frarr f) 47 (0, 0)) := by rw [← hwB]; exact heap_alloc_new w _
  have HW : Hid (Calls _ _ _ _ _) := rwithout_any k wB (h.later BB.out) hl hk fun i hi => hok i (Nat.le_trans BB.out.size hi)
  have HBX : Hid (∀ q W, Turn (QOwn x r vL) wB q W → W.heap[w.heap.size]? = some (.cells (frarr f) 47 (0, 0))) := fun q W ht => (ht.block _ (Array.getElem?_eq_some_iff.1 hbox).1 fun ho => by have := h.own_lt _ ho; omega).trans hbox
  have HOK : Hid (∀ W : World, w.heap.size ≤ W.heap.size → ∀ i, W.heap.size ≤ i → ok i) := fun W h1 i hi => hok i (by omega)
  obtain ⟨a, cap, rfl, hcs⟩ := h.slice
  obtain ⟨g, rfl, _, hfr⟩ := hcs.resolve_left (by intro e; rw [e] at hk; simp at hk)
  have hf := hfr k hk
  have hll : (st.l.take k ++ st.l.drop (k + 1)).length ≤ 1000 := by rw [List.length_append, List.length_take, List.length_drop]; omega
  rw [hfd] at hf ⊢
  clear hcs hfr h hfd hbox hok
  have c0 := hf.c0
  have c1 := hf.c1
  have c2 := hf.c2
  have c3 := hf.c3
  clear hf
  generalize st.l.take k ++ st.l.drop (k + 1) = l1 at *
  unfold at_ at HW
  unfold at_
  go_enter Try.func70, Try.ntmps70
  go_wp2_with fail
  refine Calls.mono HW.out ?_
  rintro e w1 ⟨rfl, v1, h1, ht1⟩
  have H1 : Hid (RC w1 ok x r v1 { st with l := l1 }) := h1
  have hX := HBX.out _ _ ht1
  have hsz : w.heap.size ≤ w1.heap.size := Nat.le_trans BB.out.size ht1.size
  have T1 : Hid (Turn _ w _ w1) := (Turn.below BB.out).trans ht1
  clear HW cL c0 c1 c2 c3 hl hk HBX hwB ht1
  have hD : Below w1.heap.size w1 w1.drew := (Below.refl _ _).drew
  have cL := h1.cell2
  have cL2 := (h1.later hD).cell2
  have hB := FrBox.of hX
  have b0 := hB.b0
  have b1 := hB.b1
  have b2 := hB.b2
  have b3 := hB.b3
  have hX2 : w1.drew.heap[w.heap.size]? = some (.cells (frarr f) 47 (0, 0)) := hX
  have hB2 := FrBox.of hX2
  have d0 := hB2.b0
  have d1 := hB2.b1
  have d2 := hB2.b2
  have d3 := hB2.b3
  obtain ⟨wC, hwC⟩ : ∃ wC, w1.alloc (.cells #[.string f.n, .string f.d, .int .i64 f.i, .int .i64 f.p] 47) = wC := ⟨_, rfl⟩
  have BA : Hid (Below w1.heap.size w1 wC.drew) := by rw [← hwC]; exact ((Below.refl _ w1).alloc (Nat.le_refl _) _).drew
  have hbC : wC.drew.heap[w1.heap.size]? = some (.cells (frarr f) 47 (0, 0)) := by rw [← hwC]; exact heap_alloc_new w1 _
  have hsC : wC.drew.heap.size = w1.heap.size + 1 := by rw [← hwC]; simp
  have RA : Hid (World.ownsRow _ _ _ _ _ _ _) := (h1.later BA.out).row
  have cLA : wC.cell? ⟨x, 2, none⟩ = some v1 := (h1.later BA.out).cell2
  have nws := World.news_of_block (cs := frarr f) (t := 47) (fr := (0, 0)) hbC
  have HFZ : Hid (∀ (W : World), wC.drew.grownBy W v1.ownBlock → W.cell? ⟨x, 2, none⟩ = some v1 ∧ W.frozen? ⟨x, 2, none⟩ = false) := fun W hg => by
    have hlt := (h1.later BA.out).lt
    have hne : some x ≠ v1.ownBlock := fun e => (h1.rowNe x e.symm).1 rfl
    have e := hg.block x hlt hne
    exact ⟨(World.cell?_of_block (a := ⟨x, 2, none⟩) e).trans (h1.later BA.out).cell2, (World.frozen?_of_block (a := ⟨x, 2, none⟩) e).trans (h1.later BA.out).free2⟩
  have HSN : Hid (∀ (W : World) g' cap' n', W.ownsRow 0 47 4 (.slice (some ⟨g', 0, none⟩) n' cap') n' (frc (l1 ++ [f])) → n' = (l1 ++ [f]).length → wC.drew.grownBy W v1.ownBlock → (v1.ownBlock = some g' ∨ g' = wC.drew.heap.size) → _ ∧ _) := fun W g' cap' n' hr hn hg hlc => h1.snoc BA.out hr hn hg hlc (HOK.out w1 hsz)
  have HAP : Hid (frc l1 ++ (frarr f).toList = frc (l1 ++ [f])) := by show _ = _; rw [frc_append _ [f], frc_cons]; simp [frc, frarr_list]
  obtain ⟨a1, cap1, rfl, _⟩ := h1.slice
  clear h1 hX hB hX2 hB2 hD HOK
  obtain ⟨i0, hti, hz0, hz1, hz2⟩ := info_parts Try.frInfo
  have e1 : ({ st with l := l1 } : Ca.St).l = l1 := rfl
  rw [e1] at cL cL2 cLA RA
  go_wp2
  go_region_law
    (first
    | (refine step_append_lies _ (by rfl) _ _ _ (by rfl) 0 47 i0 (.agg #[.string ⟨#[]⟩, .string ⟨#[]⟩, .int .i64 0, .int .i64 0]) 4 48 Try.underlying36 hti hz0 hz1 hz2 rfl (by omega) (.slice a1 l1.length cap1) l1.length (frc l1) (by rfl) RA.out ⟨w1.heap.size, 0, none⟩ 1 1 (frarr f).toList (by rfl) (by rfl) nws (frow_one f) (by omega) (by unfold maxLen; omega) (by omega) (Nat.zero_le _) _ rfl ?_; intro g5 cap5 w5 hown5 hgrow5 hat5 hlt5; have cf := HFZ.out w5 hgrow5; have cc5 := cf.1; have ff5 := cf.2)
    | fail)
  all_goals
    have HR : Hid (_ ∧ _) := HSN.out w5 g5 cap5 (l1.length + 1) (by rw [← HAP.out]; exact hown5) (by simp) hgrow5 hat5
    go_end0
    exact ⟨rfl, _, HR.out.1, T1.out.trans HR.out.2⟩
end

section
variable {W W' w wA : World} {ok : Nat → Prop} {x r : Nat} {vL va : Value} {st : Ca.St} {l' : List Ca.Fr}

/-- What an append of one page to the list needs, and leaves. -/
theorem RC.snocs {w1 : World} {v1 : Value} (h1 : RC w1 ok x r v1 st) (f : Ca.Fr) (hok : ∀ i, w1.heap.size ≤ i → ok i) :
    ∃ wC, w1.alloc (.cells #[.string f.n, .string f.d, .int .i64 f.i, .int .i64 f.p] 47) = wC ∧ wC.cell? ⟨x, 2, none⟩ = some v1 ∧
      Hid (wC.drew.ownsRow 0 47 4 v1 st.l.length (frc st.l)) ∧
      Hid (∀ j u, (frarr f).toList[j]? = some u → wC.drew.cell? ((⟨w1.heap.size, 0, none⟩ : Addr).add j) = some u) ∧
      Hid (∀ (W : World), wC.drew.grownBy W v1.ownBlock → W.cell? ⟨x, 2, none⟩ = some v1 ∧ W.frozen? ⟨x, 2, none⟩ = false) ∧
      Hid (∀ (W : World) g' cap', W.ownsRow 0 47 4 (.slice (some ⟨g', 0, none⟩) (st.l.length + 1) cap') (st.l.length + 1) (frc st.l ++ (frarr f).toList) → wC.drew.grownBy W v1.ownBlock → (v1.ownBlock = some g' ∨ g' = wC.drew.heap.size) →
        RC (W.setCell ⟨x, 2, none⟩ (.slice (some ⟨g', 0, none⟩) (st.l.length + 1) cap')) ok x r (.slice (some ⟨g', 0, none⟩) (st.l.length + 1) cap') { st with l := st.l ++ [f] } ∧ Turn (QOwn x r v1) w1 (QOwn x r (.slice (some ⟨g', 0, none⟩) (st.l.length + 1) cap')) (W.setCell ⟨x, 2, none⟩ (.slice (some ⟨g', 0, none⟩) (st.l.length + 1) cap'))) := by
  obtain ⟨wC, hwC⟩ : ∃ wC, w1.alloc (.cells #[.string f.n, .string f.d, .int .i64 f.i, .int .i64 f.p] 47) = wC := ⟨_, rfl⟩
  have BA : Below w1.heap.size w1 wC.drew := by rw [← hwC]; exact ((Below.refl _ w1).alloc (Nat.le_refl _) _).drew
  have hbC : wC.drew.heap[w1.heap.size]? = some (.cells (frarr f) 47 (0, 0)) := by rw [← hwC]; exact heap_alloc_new w1 _
  have hA := h1.later BA
  refine ⟨wC, hwC, hA.cell2, hA.row, World.news_of_block (cs := frarr f) (t := 47) (fr := (0, 0)) hbC, fun W hg => ?_, fun W g' cap' hr hg hlc => ?_⟩
  · have hne : some x ≠ v1.ownBlock := fun e => (h1.rowNe x e.symm).1 rfl
    have e := hg.block x hA.lt hne
    exact ⟨(World.cell?_of_block (a := ⟨x, 2, none⟩) e).trans hA.cell2, (World.frozen?_of_block (a := ⟨x, 2, none⟩) e).trans hA.free2⟩
  · refine h1.snoc BA (l' := st.l ++ [f]) ?_ (by simp) hg hlc hok
    have e : frc (st.l ++ [f]) = frc st.l ++ (frarr f).toList := by rw [frc_append _ [f], frc_cons]; simp [frc, frarr_list]
    rw [e]
    exact hr

set_option maxRecDepth 100000 in
set_option maxHeartbeats 4000000 in
theorem radd_any (f : Ca.Fr) (w : World) (h : RC w ok x r vL st) (hl : st.l.length ≤ 1000) (hok : ∀ i, w.heap.size ≤ i → ok i) :
    Calls Try.prog 69 #[at_ x, .agg #[.string f.n, .string f.d, .int .i64 f.i, .int .i64 f.p]] w fun e w' => e = .returned (.tuple #[]) ∧ ∃ vL', RC w' ok x r vL' { st with l := Ca.room st.most st.l ++ [f] } ∧ Turn (QOwn x r vL) w (QOwn x r vL') w' := by
  obtain ⟨wB, hwB⟩ : ∃ wB, w.alloc (.cells #[.string f.n, .string f.d, .int .i64 f.i, .int .i64 f.p] 47) = wB := ⟨_, rfl⟩
  have BB : Hid (Below w.heap.size w wB) := by rw [← hwB]; exact (Below.refl _ w).alloc (Nat.le_refl _) _
  have hbox : wB.heap[w.heap.size]? = some (.cells (frarr f) 47 (0, 0)) := by rw [← hwB]; exact heap_alloc_new w _
  have hlt0 := (Array.getElem?_eq_some_iff.1 hbox).1
  have hokB : ∀ i, wB.heap.size ≤ i → ok i := fun i hi => hok i (Nat.le_trans BB.out.size hi)
  have HRC : Hid (RC wB ok x r vL st) := h.later BB.out
  have HOK : Hid (∀ W : World, wB.heap.size ≤ W.heap.size → ∀ i, W.heap.size ≤ i → ok i) := fun W h1 i hi => hokB i (by omega)
  have HWO : Hid (∀ W, Below wB.heap.size wB W → ∀ k, k < st.l.length → Calls _ _ _ _ _) := fun W hb k hk => rwithout_any k W (HRC.out.later hb) hl hk (HOK.out W hb.size)
  have HBX : Hid (∀ (W : World), Below wB.heap.size wB W → W.heap[w.heap.size]? = some (.cells (frarr f) 47 (0, 0))) := fun W hb => (hb.block _ hlt0).trans hbox
  have HBY : Hid (∀ (W : World) q W', Below wB.heap.size wB W → Turn (QOwn x r vL) W q W' → W'.heap[w.heap.size]? = some (.cells (frarr f) 47 (0, 0))) := fun W q W' hb ht => (ht.block _ (Nat.lt_of_lt_of_le hlt0 hb.size) fun ho => by have := h.own_lt _ ho; omega).trans ((hb.block _ hlt0).trans hbox)
  have HT0 : Hid (Turn (QOwn x r vL) w (QOwn x r vL) wB) := Turn.below BB.out
  have HE1 : Hid (st.l.length < st.most → Ca.room st.most st.l = st.l) := fun h => if_neg (by omega)
  have HE2 : Hid ((∀ j, j < st.l.length → (st.l.getD j Ca.Fr.none).p ≠ 0) → Ca.room st.most st.l = st.l) := fun h => by
    unfold Ca.room
    split
    · exact Ca.evict_no h
    · rfl
  have HE3 : Hid (∀ k, k < st.l.length → st.most ≤ st.l.length → (st.l.getD k Ca.Fr.none).p = 0 → (∀ j, j < k → (st.l.getD j Ca.Fr.none).p ≠ 0) → Ca.room st.most st.l = st.l.take k ++ st.l.drop (k + 1)) := fun k hk hm hp hb => by
    unfold Ca.room
    rw [if_pos hm]
    exact Ca.evict_at hk hp hb
  have HLL : Hid (∀ k, (st.l.take k ++ st.l.drop (k + 1)).length ≤ 1000) := fun k => by rw [List.length_append, List.length_take, List.length_drop]; omega
  obtain ⟨a, cap, rfl, _⟩ := HRC.out.slice
  have HCS : Hid (∀ W, Below wB.heap.size wB W → ∀ k, k < st.l.length → ∃ g, a = some ⟨g, 0, none⟩ ∧ W.cell? ⟨g, k * 4 + 3, none⟩ = some (.int .i64 (st.l.getD k Ca.Fr.none).p)) := fun W hb k hk => by
    obtain ⟨a', cap', e, hcs⟩ := (HRC.out.later hb).slice
    simp only [Value.slice.injEq] at e
    obtain ⟨rfl, _, rfl⟩ := e
    rcases hcs with h | ⟨g, h1, _, h2⟩
    · rw [h] at hk; simp at hk
    · exact ⟨g, h1, (h2 k hk).c3⟩
  clear h hbox hok hokB hlt0
  unfold at_ at HWO
  unfold at_
  go_enter Try.func69, Try.ntmps69
  go_wp2
  clear hwB
  go_loopw [4] (fun y wr => ∃ k : Nat, k ≤ st.l.length ∧ y = .int .i64 k ∧ Hid (∀ j, j < k → (st.l.getD j Ca.Fr.none).p ≠ 0) ∧ Hid (Below wB.heap.size wB wr)) (fun y _ => st.l.length - (intOf y).toNat)
  case atStart => exact ⟨0, Nat.zero_le _, rfl, fun j hj => by omega, Below.refl _ _⟩
  case round =>
    obtain ⟨k, hk, rfl, HB, BW⟩ := hrel
    have cL := Later.cell (HRC.out.later BW.out).cell2
    have cM := Later.cell (HRC.out.later BW.out).cell1
    have hne := Later.some wr
    by_cases hlt : k < st.l.length
    · have g1 : decide ((k : Int) < (st.l.length : Int)) = true := decide_eq_true (by omega)
      by_cases hm : st.most ≤ st.l.length
      · have g2 : decide ((st.most : Int) ≤ (st.l.length : Int)) = true := decide_eq_true (by omega)
        go_wp2_with fail
        refine wp_region_later (by kernel_rfl) (by kernel_rfl) ?_
        repeat (go_big_quiet_step (fail))
        refine wpQuiet_nil ?_
        intro w2 hw2
        obtain ⟨⟨w2, hb2⟩, rfl⟩ := hw2
        have B2 : Hid (Below wB.heap.size wB w2) := bnext BW.out hb2
        have HRC2 : Hid (RC w2 ok x r (.slice a st.l.length cap) st) := HRC.out.later B2.out
        have HX2 : Hid (w2.heap[w.heap.size]? = some (.cells (frarr f) 47 (0, 0))) := HBX.out _ B2.out
        have HT2 : Hid (Turn (QOwn x r (.slice a st.l.length cap)) w (QOwn x r (.slice a st.l.length cap)) w2) := HT0.out.trans (Turn.below B2.out)
        have HO2 : Hid (∀ i, w2.heap.size ≤ i → ok i) := HOK.out w2 B2.out.size
        clear hb2 cL cM hne BW
        obtain ⟨g, rfl, c3⟩ := HCS.out w2 B2.out k hlt
        obtain ⟨pp, hpp⟩ : ∃ pp, (st.l.getD k Ca.Fr.none).p = pp := ⟨_, rfl⟩
        rw [hpp] at c3
        have HPP : Hid ((st.l.getD k Ca.Fr.none).p = pp) := hpp
        clear hpp
        have cL := HRC2.out.cell2
        by_cases hp : pp = 0
        · have HEQ : Hid (Ca.room st.most st.l = st.l.take k ++ st.l.drop (k + 1)) := HE3.out k hlt hm (HPP.out.trans hp) HB.out
          have HW1 : Hid (Calls _ _ _ _ _) := HWO.out w2 B2.out k hlt
          have hll := HLL.out k
          subst hp
          go_wp2_with fail
          refine Calls.mono HW1.out ?_
          rintro e w1 ⟨rfl, v1, h1, ht1⟩
          have HC1 : Hid (RC w1 ok x r v1 { st with l := st.l.take k ++ st.l.drop (k + 1) }) := h1
          have HT1 : Hid (Turn _ w _ w1) := HT2.out.trans ht1
          have HX1 : Hid (w1.heap[w.heap.size]? = some (.cells (frarr f) 47 (0, 0))) := HBY.out _ _ _ B2.out ht1
          have HO1 : Hid (∀ i, w1.heap.size ≤ i → ok i) := HOK.out w1 (Nat.le_trans B2.out.size ht1.size)
          clear h1 ht1 HW1 cL c3 HRC HRC2 HBX HBY HWO HE1 HE2 HE3 HLL HCS HB HPP HT0 HT2 HX2 HO2 hlt hk hm hl HOK g1 g2
          generalize st.l.take k ++ st.l.drop (k + 1) = l1 at *
          have H1 : Hid (RC w1 ok x r _ _) := HC1.out
          have hX := HX1.out
          have hB := FrBox.of hX
          have b0 := hB.b0
          have b1 := hB.b1
          have b2 := hB.b2
          have b3 := hB.b3
          obtain ⟨wC, hwC, cC, RA, NW, HFZ, HSN⟩ := H1.out.snocs f HO1.out
          have cL := H1.out.cell2
          have cL2 := (H1.out.later (Below.refl _ _).drew).cell2
          obtain ⟨a1, cap1, rfl, _⟩ := H1.out.slice
          have hbC : wC.drew.heap.size = w1.heap.size + 1 := by rw [← hwC]; simp
          have d0 := (FrBox.of (W := w1.drew) hX).b0
          have d1 := (FrBox.of (W := w1.drew) hX).b1
          have d2 := (FrBox.of (W := w1.drew) hX).b2
          have d3 := (FrBox.of (W := w1.drew) hX).b3
          clear hX hB
          obtain ⟨i0, hti, hz0, hz1, hz2⟩ := info_parts Try.frInfo
          go_wp2
          go_region_law
            (first
            | (refine step_append_lies _ (by rfl) _ _ _ (by rfl) 0 47 i0 (.agg #[.string ⟨#[]⟩, .string ⟨#[]⟩, .int .i64 0, .int .i64 0]) 4 48 Try.underlying36 hti hz0 hz1 hz2 rfl (by omega) (.slice a1 l1.length cap1) l1.length (frc l1) (by rfl) RA.out ⟨w1.heap.size, 0, none⟩ 1 1 (frarr f).toList (by rfl) (by rfl) NW.out (frow_one f) (by omega) (by unfold maxLen; omega) (by omega) (Nat.zero_le _) _ rfl ?_; intro g5 cap5 w5 hown5 hgrow5 hat5 hlt5; have cf := HFZ.out w5 hgrow5; have cc5 := cf.1; have ff5 := cf.2)
            | fail)
          all_goals
            have HR : Hid (_ ∧ _) := HSN.out w5 g5 cap5 hown5 hgrow5 hat5
            go_end0
            exact ⟨rfl, _, by rw [HEQ.out]; exact HR.out.1, HT1.out.trans HR.out.2⟩
        · have HB2 : Hid (∀ j, j < k + 1 → (st.l.getD j Ca.Fr.none).p ≠ 0) := fun j hj => by
            by_cases e : j = k
            · subst e; rw [HPP.out]; exact hp
            · exact HB.out j (by omega)
          have hpb : ((pp : Int) == 0) = false := by simp; omega
          go_wp2
          go_roundw
          case rel => exact ⟨k + 1, by omega, by go_num, HB2, B2⟩
          case measure => simp [intOf]; omega
      · have g2 : decide ((st.most : Int) ≤ (st.l.length : Int)) = false := decide_eq_false (by omega)
        have HEQ : Hid (Ca.room st.most st.l = st.l) := HE1.out (by omega)
        go_wp2_with fail
        refine wp_region_later (by kernel_rfl) (by kernel_rfl) ?_
        repeat (go_big_quiet_step (fail))
        refine wpQuiet_nil ?_
        intro w2 hw2
        obtain ⟨⟨w2, hb2⟩, rfl⟩ := hw2
        have B2 : Hid (Below wB.heap.size wB w2) := bnext BW.out hb2
        have HRC2 : Hid (RC w2 ok x r (.slice a st.l.length cap) st) := HRC.out.later B2.out
        have HX2 : Hid (w2.heap[w.heap.size]? = some (.cells (frarr f) 47 (0, 0))) := HBX.out _ B2.out
        have HT2 : Hid (Turn (QOwn x r (.slice a st.l.length cap)) w (QOwn x r (.slice a st.l.length cap)) w2) := HT0.out.trans (Turn.below B2.out)
        have HO2 : Hid (∀ i, w2.heap.size ≤ i → ok i) := HOK.out w2 B2.out.size
        clear hb2 cL cM hne BW
        clear HWO HBX HBY HE1 HE2 HE3 HLL HCS HB HRC
        have H1 : Hid (RC w2 ok x r _ _) := HRC2.out
        have hX := HX2.out
        have hB := FrBox.of hX
        have b0 := hB.b0
        have b1 := hB.b1
        have b2 := hB.b2
        have b3 := hB.b3
        obtain ⟨wC, hwC, cC, RA, NW, HFZ, HSN⟩ := H1.out.snocs f HO2.out
        have cL := H1.out.cell2
        have cL2 := (H1.out.later (Below.refl _ _).drew).cell2
        have hbC : wC.drew.heap.size = w2.heap.size + 1 := by rw [← hwC]; simp
        have d0 := (FrBox.of (W := w2.drew) hX).b0
        have d1 := (FrBox.of (W := w2.drew) hX).b1
        have d2 := (FrBox.of (W := w2.drew) hX).b2
        have d3 := (FrBox.of (W := w2.drew) hX).b3
        clear hX hB
        obtain ⟨i0, hti, hz0, hz1, hz2⟩ := info_parts Try.frInfo
        go_wp2
        go_region_law
          (first
          | (refine step_append_lies _ (by rfl) _ _ _ (by rfl) 0 47 i0 (.agg #[.string ⟨#[]⟩, .string ⟨#[]⟩, .int .i64 0, .int .i64 0]) 4 48 Try.underlying36 hti hz0 hz1 hz2 rfl (by omega) (.slice a st.l.length cap) st.l.length (frc st.l) (by rfl) RA.out ⟨w2.heap.size, 0, none⟩ 1 1 (frarr f).toList (by rfl) (by rfl) NW.out (frow_one f) (by omega) (by unfold maxLen; omega) (by omega) (Nat.zero_le _) _ rfl ?_; intro g5 cap5 w5 hown5 hgrow5 hat5 hlt5; have cf := HFZ.out w5 hgrow5; have cc5 := cf.1; have ff5 := cf.2)
          | fail)
        all_goals
          have HR : Hid (_ ∧ _) := HSN.out w5 g5 cap5 hown5 hgrow5 hat5
          go_end0
          exact ⟨rfl, _, by rw [HEQ.out]; exact HR.out.1, HT2.out.trans HR.out.2⟩
    · obtain rfl : k = st.l.length := by omega
      have g1 : decide ((st.l.length : Int) < (st.l.length : Int)) = false := decide_eq_false (by omega)
      have HEQ : Hid (Ca.room st.most st.l = st.l) := HE2.out HB.out
      go_wp2_with fail
      refine wp_region_later (by kernel_rfl) (by kernel_rfl) ?_
      repeat (go_big_quiet_step (fail))
      refine wpQuiet_nil ?_
      intro w2 hw2
      obtain ⟨⟨w2, hb2⟩, rfl⟩ := hw2
      have B2 : Hid (Below wB.heap.size wB w2) := bnext BW.out hb2
      have HRC2 : Hid (RC w2 ok x r (.slice a st.l.length cap) st) := HRC.out.later B2.out
      have HX2 : Hid (w2.heap[w.heap.size]? = some (.cells (frarr f) 47 (0, 0))) := HBX.out _ B2.out
      have HT2 : Hid (Turn (QOwn x r (.slice a st.l.length cap)) w (QOwn x r (.slice a st.l.length cap)) w2) := HT0.out.trans (Turn.below B2.out)
      have HO2 : Hid (∀ i, w2.heap.size ≤ i → ok i) := HOK.out w2 B2.out.size
      clear hb2 cL cM hne BW
      clear HWO HBX HBY HE1 HE2 HE3 HLL HCS HB HRC
      have H1 : Hid (RC w2 ok x r _ _) := HRC2.out
      have hX := HX2.out
      have hB := FrBox.of hX
      have b0 := hB.b0
      have b1 := hB.b1
      have b2 := hB.b2
      have b3 := hB.b3
      obtain ⟨wC, hwC, cC, RA, NW, HFZ, HSN⟩ := H1.out.snocs f HO2.out
      have cL := H1.out.cell2
      have cL2 := (H1.out.later (Below.refl _ _).drew).cell2
      have hbC : wC.drew.heap.size = w2.heap.size + 1 := by rw [← hwC]; simp
      have d0 := (FrBox.of (W := w2.drew) hX).b0
      have d1 := (FrBox.of (W := w2.drew) hX).b1
      have d2 := (FrBox.of (W := w2.drew) hX).b2
      have d3 := (FrBox.of (W := w2.drew) hX).b3
      clear hX hB
      obtain ⟨i0, hti, hz0, hz1, hz2⟩ := info_parts Try.frInfo
      go_wp2
      go_region_law
        (first
        | (refine step_append_lies _ (by rfl) _ _ _ (by rfl) 0 47 i0 (.agg #[.string ⟨#[]⟩, .string ⟨#[]⟩, .int .i64 0, .int .i64 0]) 4 48 Try.underlying36 hti hz0 hz1 hz2 rfl (by omega) (.slice a st.l.length cap) st.l.length (frc st.l) (by rfl) RA.out ⟨w2.heap.size, 0, none⟩ 1 1 (frarr f).toList (by rfl) (by rfl) NW.out (frow_one f) (by omega) (by unfold maxLen; omega) (by omega) (Nat.zero_le _) _ rfl ?_; intro g5 cap5 w5 hown5 hgrow5 hat5 hlt5; have cf := HFZ.out w5 hgrow5; have cc5 := cf.1; have ff5 := cf.2)
        | fail)
      all_goals
        have HR : Hid (_ ∧ _) := HSN.out w5 g5 cap5 hown5 hgrow5 hat5
        go_end0
        exact ⟨rfl, _, by rw [HEQ.out]; exact HR.out.1, HT2.out.trans HR.out.2⟩
end

end Go.Proofs.Ytnlhgcpmmcmknaa
