/- Pins, how many pages have them, and what a Drop leaves of them, in plain words. -/
import Derived.Test.YtnlhgcpmmcmknabCHeld
namespace Go.Proofs.Ytnlhgcpmmcmknab
open Go.RowKit Go.Maps
namespace Ca
variable {l : List Fr} {n m : ByteArray} {i j : Int}

def pinsOf (l : List Fr) (n : ByteArray) (i : Int) : Nat := match look l n i with | some f => f.p | none => 0
theorem pinsOf_some {f : Fr} (h : look l n i = some f) : pinsOf l n i = f.p := by unfold pinsOf; rw [h]
theorem pinsOf_none (h : look l n i = none) : pinsOf l n i = 0 := by unfold pinsOf; rw [h]
theorem pinsOf_room (h : Apart l) (k : Nat) (n : ByteArray) (i : Int) : pinsOf (room k l) n i = pinsOf l n i := by
  cases hl : look l n i with
  | none => rw [pinsOf_none hl, pinsOf_none (look_sub (room_sub k l) hl)]
  | some f =>
    rw [pinsOf_some hl]
    rcases Nat.eq_zero_or_pos f.p with h0 | h0
    · cases hr : look (room k l) n i with
      | none => rw [pinsOf_none hr, h0]
      | some g =>
        rw [pinsOf_some hr]
        obtain ⟨hg, e1, e2⟩ := look_some hr
        obtain ⟨hf, e3, e4⟩ := look_some hl
        rw [apart_eq h ((room_sub k l).subset hg) hf ⟨e1.trans e3.symm, e2.trans e4.symm⟩]
    · rw [pinsOf_some (look_room hl h0 k)]
theorem pinsOf_add {l' : List Fr} {g : Fr} (h1 : g.n = n) (h2 : g.i = i) (hno : look l' n i = none) (m : ByteArray) (j : Int) : pinsOf (l' ++ [g]) m j = if m = n ∧ j = i then g.p else pinsOf l' m j := by
  by_cases hk : m = n ∧ j = i
  · obtain ⟨rfl, rfl⟩ := hk
    rw [if_pos ⟨rfl, rfl⟩]
    refine pinsOf_some ?_
    rw [look_append, hno, look_one_same h1 h2]; rfl
  · rw [if_neg hk]
    unfold pinsOf
    rw [look_append, look_one_other (f := g) (n := m) (i := j) (by rw [h1, h2]; exact fun e => hk ⟨e.1.symm, e.2.symm⟩)]
    cases look l' m j <;> rfl
theorem pinsOf_gone (hk : ¬ (m = n ∧ j = i)) : pinsOf (gone l n i) m j = pinsOf l m j := by unfold pinsOf; rw [look_gone_other hk]

/-- What is fetched, and the pins that there are besides. -/
theorem fetch_pins {st : St} (ha : Apart st.l) (he : (fetch st n i).e = 0) : (fetch st n i).f.n = n ∧ (fetch st n i).f.i = i ∧ (fetch st n i).f.p = pinsOf st.l n i ∧ look (fetch st n i).l n i = none ∧ (∀ m j, ¬ (m = n ∧ j = i) → pinsOf (fetch st n i).l m j = pinsOf st.l m j) ∧ (∀ f ∈ (fetch st n i).l, f ∈ st.l) ∧ ((∃ f ∈ st.l, f.i = i) ∨ Fi.has st.fs n i = true) := by
  cases hl : look st.l n i with
  | some f =>
    rw [fetch_hit hl]
    obtain ⟨h0, h1, h2⟩ := look_some hl
    exact ⟨h1, h2, (pinsOf_some hl).symm, look_gone_same, fun m j hk => pinsOf_gone hk, fun g hg => (mem_gone.1 hg).1, .inl ⟨f, h0, h2⟩⟩
  | none =>
    cases hs : stuck st.most st.l with
    | true => rw [fetch_full hl hs] at he; cases he
    | false =>
      by_cases h1 : (Fi.read st.fs n i).2.1 = 0
      · by_cases h2 : (dec (Fi.read st.fs n i).1).2 = 0
        · rw [fetch_new hl hs (s := (Fi.read st.fs n i).1) (fs := (Fi.read st.fs n i).2.2) (by rw [← h1]) (d := (dec (Fi.read st.fs n i).1).1) (by rw [← h2])]
          exact ⟨rfl, rfl, (pinsOf_none hl).symm, look_sub (room_sub _ _) hl, fun m j _ => pinsOf_room ha _ _ _, fun g hg => (room_sub _ _).subset hg, .inr (read_zero h1).1⟩
        · rw [fetch_spoilt hl hs h1 h2] at he; exact absurd he h2
      · rw [fetch_fails hl hs h1] at he; exact absurd he h1
theorem get_pins {st : St} (ha : Apart st.l) (n : ByteArray) (i : Int) : ∀ m j, pinsOf (get st n i).2.2.l m j = pinsOf st.l m j := by
  intro m j
  unfold get
  split
  · rename_i he
    obtain ⟨h1, h2, h3, h4, h5, _⟩ := fetch_pins ha he
    show pinsOf ((fetch st n i).l ++ [(fetch st n i).f]) m j = _
    rw [pinsOf_add h1 h2 h4]
    split
    · rename_i hk; obtain ⟨rfl, rfl⟩ := hk; exact h3
    · rename_i hk; exact h5 m j hk
  · rename_i he; show pinsOf (fetch st n i).l m j = _; rw [fetch_l st n i he]
theorem pin_pins {st : St} (ha : Apart st.l) (n : ByteArray) (i : Int) : ∀ m j, pinsOf (pin st n i).2.2.l m j = pinsOf st.l m j + (if (pin st n i).2.1 = 0 ∧ m = n ∧ j = i then 1 else 0) := by
  intro m j
  unfold pin
  split
  · rename_i he
    obtain ⟨h1, h2, h3, h4, h5, _⟩ := fetch_pins ha he
    show pinsOf ((fetch st n i).l ++ [more (fetch st n i).f]) m j = _
    rw [pinsOf_add (g := more (fetch st n i).f) h1 h2 h4]
    split
    · rename_i hk; obtain ⟨rfl, rfl⟩ := hk; rw [if_pos ⟨rfl, rfl, rfl⟩]; show (fetch st m j).f.p + 1 = _; rw [h3]
    · rename_i hk; rw [if_neg (fun h => hk h.2)]; exact h5 m j hk
  · rename_i he
    rw [if_neg (fun h => he h.1)]
    show pinsOf (fetch st n i).l m j = _
    rw [fetch_l st n i he]; rfl
theorem put_pins {st : St} (ha : Apart st.l) (n : ByteArray) (i : Int) (d : ByteArray) : ∀ m j, pinsOf (put st n i d).2.l m j = pinsOf st.l m j := by
  intro m j
  unfold put
  split
  · rfl
  split
  · rfl
  split
  · rfl
  · cases hl : look st.l n i with
    | none =>
      show pinsOf (room st.most st.l ++ [_]) m j = _
      rw [pinsOf_add (g := ⟨n, i, d, 0⟩) rfl rfl (look_sub (room_sub _ _) hl), pinsOf_room ha]
      split
      · rename_i hk; obtain ⟨rfl, rfl⟩ := hk; rw [pinsOf_none hl]
      · rfl
    | some f =>
      obtain ⟨_, h1, h2⟩ := look_some hl
      show pinsOf (gone st.l n i ++ [_]) m j = _
      rw [pinsOf_add (g := { f with d := d }) h1 h2 look_gone_same]
      split
      · rename_i hk; obtain ⟨rfl, rfl⟩ := hk; rw [pinsOf_some hl]
      · rename_i hk; exact pinsOf_gone hk

/-! ### Numbers of pages -/
def In60 (l : List Fr) : Prop := ∀ f ∈ l, 0 ≤ f.i ∧ f.i < 60
theorem has_in60 {fs : Fi.St} (hg : Fi.Good fs) (hr : fs.room = 60) (h : Fi.has fs n i = true) : 0 ≤ i ∧ i < 60 := by
  have h1 := Fi.has_iff.1 h
  have h2 := hg.rows_le n
  omega
theorem in60_fetch {st : St} (ha : Apart st.l) (h : In60 st.l) (hg : Fi.Good st.fs) (hr : st.fs.room = 60) (n : ByteArray) (i : Int) (g : Fr) (hgi : g.i = (fetch st n i).f.i) (he : (fetch st n i).e = 0) : In60 ((fetch st n i).l ++ [g]) := by
  obtain ⟨h1, h2, h3, h4, h5, h6, h7⟩ := fetch_pins ha he
  intro f hf
  rcases List.mem_append.1 hf with hf | hf
  · exact h f (h6 f hf)
  · obtain rfl : f = g := by simpa using hf
    rw [hgi, h2]
    rcases h7 with ⟨x, hx, e⟩ | h7
    · rw [← e]; exact h x hx
    · exact has_in60 hg hr h7
theorem in60_get {st : St} (ha : Apart st.l) (h : In60 st.l) (hg : Fi.Good st.fs) (hr : st.fs.room = 60) (n : ByteArray) (i : Int) : In60 (get st n i).2.2.l := by
  unfold get
  split
  · rename_i he; exact in60_fetch ha h hg hr n i _ rfl he
  · rename_i he; show In60 (fetch st n i).l; rw [fetch_l st n i he]; exact h
theorem in60_pin {st : St} (ha : Apart st.l) (h : In60 st.l) (hg : Fi.Good st.fs) (hr : st.fs.room = 60) (n : ByteArray) (i : Int) : In60 (pin st n i).2.2.l := by
  unfold pin
  split
  · rename_i he; exact in60_fetch ha h hg hr n i _ rfl he
  · rename_i he; show In60 (fetch st n i).l; rw [fetch_l st n i he]; exact h
theorem putp_fs_room (fs : Fi.St) (n : ByteArray) (i : Int) (s : ByteArray) : (Fi.putp fs n i s).2.room = fs.room := by
  unfold Fi.putp
  split
  · rfl
  split
  · rfl
  split <;> rfl
theorem in60_put {st : St} (h : In60 st.l) (d : ByteArray) (hr : st.fs.room = 60) (n : ByteArray) (i : Int) (hg : Fi.Good (put st n i d).2.fs) : In60 (put st n i d).2.l := by
  revert hg
  unfold put
  split
  · intro _; exact h
  split
  · intro _; exact h
  split
  · intro _; exact h
  · rename_i he
    intro hg
    have he' : (Fi.putp st.fs n i (enc d).1).1 = 0 := by simpa using he
    have hi := has_in60 (n := n) (i := i) hg (by rw [putp_fs_room]; exact hr) ((putp_rows he' n i).1 rfl rfl).1
    cases hl : look st.l n i with
    | none =>
      intro f hf
      rcases List.mem_append.1 hf with hf | hf
      · exact h f ((room_sub _ _).subset hf)
      · obtain rfl : f = ⟨n, i, d, 0⟩ := by simpa using hf
        exact hi
    | some g =>
      intro f hf
      rcases List.mem_append.1 hf with hf | hf
      · exact h f (mem_gone.1 hf).1
      · obtain rfl : f = { g with d := d } := by simpa using hf
        exact h g (look_some hl).1

/-! ### How many pages of a file are there -/
theorem countP_disj {α : Type} {p q : α → Bool} (h : ∀ x, ¬ (p x = true ∧ q x = true)) : ∀ l : List α, l.countP (fun x => p x || q x) = l.countP p + l.countP q
  | [] => rfl
  | a :: r => by
    rw [List.countP_cons, List.countP_cons, List.countP_cons, countP_disj h r]
    have e : (if (p a || q a) = true then 1 else 0) = (if p a = true then 1 else 0) + (if q a = true then 1 else 0) := by
      have := h a
      revert this
      cases p a <;> cases q a <;> simp
    omega
theorem count_one (a : Int) (h0 : 0 ≤ a) : ∀ k : Nat, (List.range k).countP (fun i : Nat => decide (a = (i : Int))) = if a < k then 1 else 0
  | 0 => by rw [if_neg (by omega)]; rfl
  | k + 1 => by
    rw [List.range_succ, List.countP_append, count_one a h0 k]
    by_cases h : a = k
    · rw [if_neg (by omega), if_pos (by omega)]; simp [h]
    · have : [k].countP (fun i : Nat => decide (a = (i : Int))) = 0 := by simp [h]
      rw [this]
      by_cases h2 : a < k
      · rw [if_pos h2, if_pos (by omega)]
      · rw [if_neg h2, if_neg (by omega)]
theorem count_has : ∀ {l : List Fr}, Apart l → In60 l → (List.range 100).countP (fun i : Nat => has l n i) = l.countP fun f => decide (f.n = n)
  | [], _, _ => by
    rw [List.countP_eq_zero.2]
    · rfl
    · intro x _; simp [has]
  | a :: r, ha, hi => by
    obtain ⟨h1, h2⟩ := List.pairwise_cons.1 ha
    have ih := count_has h2 fun f hf => hi f (List.mem_cons_of_mem _ hf)
    have e : (fun i : Nat => has (a :: r) n i) = fun i : Nat => (a.is n i || has r n i) := by
      funext i; unfold has; rw [List.any_cons]
    rw [e, countP_disj, ih, List.countP_cons]
    · by_cases hn : a.n = n
      · have e2 : (fun i : Nat => a.is n i) = fun i : Nat => decide (a.i = (i : Int)) := by funext i; simp [Fr.is, hn]
        have h60 := hi a (List.mem_cons_self ..)
        rw [e2, count_one a.i h60.1, if_pos (by omega), hn]
        simp; omega
      · have e2 : (fun i : Nat => a.is n i) = fun _ : Nat => false := by funext i; simp [Fr.is, hn]
        rw [e2]
        simp [hn]
    · rintro x ⟨hx, hy⟩
      unfold has at hy
      rw [List.any_eq_true] at hy
      obtain ⟨g, hg, hgx⟩ := hy
      have e1 := is_iff.1 hx
      have e2 := is_iff.1 hgx
      exact h1 g hg ⟨e1.1.trans e2.1.symm, e1.2.trans e2.2.symm⟩
theorem drop_length (st : St) (n : ByteArray) : (drop st n).l.length + st.l.countP (fun f => decide (f.n = n)) = st.l.length := by
  show (st.l.filter fun x => !decide (x.n = n)).length + _ = _
  generalize st.l = l
  induction l with
  | nil => rfl
  | cons a r ih =>
    rw [List.filter_cons, List.countP_cons]
    by_cases h : a.n = n
    · simp [h]; omega
    · simp [h]; omega
theorem drop_none (st : St) (n : ByteArray) (i : Int) : look (drop st n).l n i = none := look_none' fun x hx e => by
  have := (List.mem_filter.1 hx).2
  simp [e.1] at this
theorem drop_pins (st : St) (n m : ByteArray) (j : Int) (h : m ≠ n) : pinsOf (drop st n).l m j = pinsOf st.l m j := by
  unfold pinsOf
  have : look (drop st n).l m j = look st.l m j := find_filter fun x hx => by
    obtain ⟨rfl, rfl⟩ := is_iff.1 hx
    simp [h]
  rw [this]
end Ca

/-- How often a page stands in a list of acts. -/
def cntOf (P : List Cd) (n : ByteArray) (i : Int) : Nat := P.countP fun d => decide (d.name = n ∧ d.i = i)
theorem cntOf_append (P : List Cd) (d : Cd) (n : ByteArray) (i : Int) : cntOf (P ++ [d]) n i = cntOf P n i + if n = d.name ∧ i = d.i then 1 else 0 := by
  unfold cntOf
  rw [List.countP_append]
  by_cases h : n = d.name ∧ i = d.i
  · rw [if_pos h]; simp [h.1, h.2]
  · rw [if_neg h]
    have : ¬ (d.name = n ∧ d.i = i) := fun e => h ⟨e.1.symm, e.2.symm⟩
    simp only [List.countP_cons, List.countP_nil, decide_eq_false this]; rfl
theorem cntOf_drop {P : List Cd} {k : Nat} (hk : k < P.length) (n : ByteArray) (i : Int) : cntOf (P.drop k) n i = cntOf (P.drop (k + 1)) n i + if n = (P.getD k Cd.none).name ∧ i = (P.getD k Cd.none).i then 1 else 0 := by
  rw [List.drop_eq_getElem_cons hk, List.getD_eq_getElem?_getD, List.getElem?_eq_getElem hk, Option.getD_some]
  unfold cntOf
  rw [List.countP_cons]
  congr 1
  by_cases h : n = (P[k]).name ∧ i = (P[k]).i
  · rw [if_pos h, if_pos (by simp [h.1, h.2])]
  · rw [if_neg h, if_neg (by rw [decide_eq_true_eq]; exact fun e => h ⟨e.1.symm, e.2.symm⟩)]

/-- The pins that were taken are those that the pages have; all numbers are below 60. -/
structure Pinned (st : Ca.St) (P : List Cd) : Prop where
  pins : ∀ n i, Ca.pinsOf st.l n i = cntOf P n i
  in60 : Ca.In60 st.l
  room : st.fs.room = 60
theorem Pinned.new (m : Nat) : Pinned ⟨m, ⟨60, -1, []⟩, []⟩ [] := ⟨fun _ _ => rfl, (fun f hf => by cases hf), rfl⟩
theorem read_room (fs : Fi.St) (n : ByteArray) (i : Int) : (Fi.read fs n i).2.2.room = fs.room := by
  unfold Fi.read
  split
  · rfl
  split <;> rfl
theorem fetch_room (st : Ca.St) (n : ByteArray) (i : Int) : (Ca.fetch st n i).fs.room = st.fs.room := by
  cases hl : Ca.look st.l n i with
  | some f => rw [fetch_hit hl]
  | none =>
    cases hs : Ca.stuck st.most st.l with
    | true => rw [fetch_full hl hs]
    | false =>
      by_cases h1 : (Fi.read st.fs n i).2.1 = 0
      · by_cases h2 : (Ca.dec (Fi.read st.fs n i).1).2 = 0
        · rw [fetch_new hl hs (s := (Fi.read st.fs n i).1) (fs := (Fi.read st.fs n i).2.2) (by rw [← h1]) (d := (Ca.dec (Fi.read st.fs n i).1).1) (by rw [← h2])]
          exact read_room _ _ _
        · rw [fetch_spoilt hl hs h1 h2]; exact read_room _ _ _
      · rw [fetch_fails hl hs h1]; exact read_room _ _ _
theorem Pinned.files {st : Ca.St} {P : List Cd} (h : Pinned st P) (fs : Fi.St) (hr : fs.room = st.fs.room) : Pinned { st with fs := fs } P := ⟨h.pins, h.in60, hr.trans h.room⟩
theorem Pinned.act {st : Ca.St} {P : List Cd} (h : Pinned st P) (ha : Ca.Apart st.l) (hg : Fi.Good st.fs) (d : Cd) (hg2 : Fi.Good (actC st d).2.2.fs) (h3 : d.kind % 10 ≠ 3) (h5 : d.kind % 10 ≠ 5) :
    Pinned (actC st d).2.2 (if d.kind % 10 = 2 ∧ (actC st d).2.1 = 0 then P ++ [d] else P) := by
  revert hg2
  unfold actC
  by_cases h2 : d.kind % 10 = 2
  · rw [if_pos h2]
    intro _
    have e := Ca.pin_pins ha d.name d.i
    have hrm : (Ca.pin st d.name d.i).2.2.fs.room = 60 := by
      unfold Ca.pin
      split <;> exact (fetch_room _ _ _).trans h.room
    by_cases he : (Ca.pin st d.name d.i).2.1 = 0
    · rw [if_pos ⟨h2, he⟩]
      refine ⟨fun n i => ?_, Ca.in60_pin ha h.in60 hg h.room _ _, hrm⟩
      rw [e n i, h.pins, cntOf_append]
      congr 1
      by_cases hk : n = d.name ∧ i = d.i
      · rw [if_pos ⟨he, hk⟩, if_pos hk]
      · rw [if_neg (fun h => hk h.2), if_neg hk]
    · rw [if_neg (fun h => he h.2)]
      refine ⟨fun n i => ?_, Ca.in60_pin ha h.in60 hg h.room _ _, hrm⟩
      rw [e n i, h.pins, if_neg (fun h => he h.1)]; rfl
  rw [if_neg h2, if_neg h3]
  simp only [h2, false_and, if_false]
  split
  · intro hg2
    refine ⟨fun n i => (Ca.put_pins ha _ _ _ n i).trans (h.pins n i), Ca.in60_put h.in60 _ h.room _ _ hg2, ?_⟩
    show (Ca.put st d.name d.i d.data).2.fs.room = 60
    unfold Ca.put
    split
    · exact h.room
    split
    · exact h.room
    split
    · exact (Ca.putp_fs_room _ _ _ _).trans h.room
    · exact (Ca.putp_fs_room _ _ _ _).trans h.room
  split
  · intro _
    refine h.files _ ?_
    unfold Fi.write
    split
    · rfl
    split <;> rfl
  split
  · intro _
    refine h.files _ ?_
    unfold Fi.fail
    split <;> rfl
  split
  · intro _
    refine h.files _ ?_
    unfold Fi.flip
    split
    · rfl
    split <;> rfl
  split
  · intro _
    refine h.files _ ?_
    unfold Fi.remove
    split <;> rfl
  · intro _
    refine ⟨fun n i => (Ca.get_pins ha _ _ n i).trans (h.pins n i), Ca.in60_get ha h.in60 hg h.room _ _, ?_⟩
    unfold Ca.get
    split <;> exact (fetch_room _ _ _).trans h.room

/-- Behind the Drop: the pins that are to be taken yet. -/
structure Left (st : Ca.St) (nm : ByteArray) (Q : List Cd) : Prop where
  off : ∀ i, Ca.look st.l nm i = none
  pins : ∀ n i, n ≠ nm → Ca.pinsOf st.l n i = cntOf Q n i
theorem Left.start {st : Ca.St} {P : List Cd} (h : Pinned st P) (nm : ByteArray) : Left (Ca.drop st nm) nm P :=
  ⟨fun i => Ca.drop_none st nm i, fun n i hn => (Ca.drop_pins st nm n i hn).trans (h.pins n i)⟩
theorem Left.hasNo {st : Ca.St} {nm : ByteArray} {Q : List Cd} (h : Left st nm Q) (i : Int) : Ca.has st.l nm i = false := by rw [Ca.has_look, h.off i]; rfl
theorem Left.same {st : Ca.St} {nm : ByteArray} {P : List Cd} {k : Nat} (h : Left st nm (P.drop k)) (hk : k < P.length) (hn : (P.getD k Cd.none).name = nm) : Ca.unpin st (P.getD k Cd.none).name (P.getD k Cd.none).i = (4, st) ∧ Left st nm (P.drop (k + 1)) := by
  refine ⟨?_, h.off, fun n i hne => ?_⟩
  · unfold Ca.unpin
    rw [hn, h.off]
  · rw [h.pins n i hne, cntOf_drop hk, if_neg (fun e => hne (e.1.trans hn))]; rfl
theorem Left.other {st : Ca.St} {nm : ByteArray} {P : List Cd} {k : Nat} (h : Left st nm (P.drop k)) (hk : k < P.length) (hn : (P.getD k Cd.none).name ≠ nm) : (Ca.unpin st (P.getD k Cd.none).name (P.getD k Cd.none).i).1 = 0 ∧ Left (Ca.unpin st (P.getD k Cd.none).name (P.getD k Cd.none).i).2 nm (P.drop (k + 1)) := by
  have hc := cntOf_drop hk (P.getD k Cd.none).name (P.getD k Cd.none).i
  rw [if_pos ⟨rfl, rfl⟩, ← h.pins _ _ hn] at hc
  have hd := fun n i => cntOf_drop hk n i
  generalize P.getD k Cd.none = d at *
  cases hl : Ca.look st.l d.name d.i with
  | none => rw [Ca.pinsOf_none hl] at hc; omega
  | some f =>
    rw [Ca.pinsOf_some hl] at hc
    have e : Ca.unpin st d.name d.i = (0, { st with l := st.l.map fun x => if x.is d.name d.i = true then Ca.less x else x }) := by
      unfold Ca.unpin
      rw [hl]
      exact if_neg (by omega)
    rw [e]
    have lm : ∀ n i, Ca.look (st.l.map fun x => if x.is d.name d.i = true then Ca.less x else x) n i = (Ca.look st.l n i).map fun x => if x.is d.name d.i = true then Ca.less x else x := fun n i => Ca.look_map (fun x => by split <;> rfl) (fun x => by split <;> rfl) st.l
    refine ⟨rfl, ⟨fun i => ?_, fun n i hne => ?_⟩⟩
    · show Ca.look (st.l.map _) nm i = none
      rw [lm, h.off]; rfl
    · show Ca.pinsOf (st.l.map _) n i = _
      have h1 := h.pins n i hne
      rw [hd n i] at h1
      by_cases hk2 : n = d.name ∧ i = d.i
      · obtain ⟨rfl, rfl⟩ := hk2
        rw [if_pos ⟨rfl, rfl⟩, Ca.pinsOf_some hl] at h1
        have : Ca.look (st.l.map fun x => if x.is d.name d.i = true then Ca.less x else x) d.name d.i = some (Ca.less f) := by
          rw [lm, hl]
          have := Ca.is_iff.2 (Ca.look_some hl).2
          simp [this]
        rw [Ca.pinsOf_some this]
        show f.p - 1 = _
        omega
      · rw [if_neg hk2] at h1
        rw [← Nat.add_zero (cntOf _ _ _), ← h1]
        cases hl2 : Ca.look st.l n i with
        | none => rw [Ca.pinsOf_none hl2, Ca.pinsOf_none (by rw [lm, hl2]; rfl)]
        | some g =>
          have hg := (Ca.look_some hl2).2
          have : g.is d.name d.i = false := by
            cases hb : g.is d.name d.i with
            | false => rfl
            | true => exact absurd ⟨hg.1.symm.trans (Ca.is_iff.1 hb).1, hg.2.symm.trans (Ca.is_iff.1 hb).2⟩ hk2
          rw [Ca.pinsOf_some hl2, Ca.pinsOf_some (f := g) (by rw [lm, hl2]; simp [this])]
theorem Left.done {st : Ca.St} {nm : ByteArray} (h : Left st nm []) (ha : Ca.Apart st.l) : Ca.pinned st.l = 0 := by
  unfold Ca.pinned
  rw [List.countP_eq_zero]
  intro f hf
  have hl := Ca.look_mem ha hf
  have hne : f.n ≠ nm := by
    intro e
    have := h.off f.i
    rw [← e, hl] at this
    cases this
  have := h.pins f.n f.i hne
  rw [Ca.pinsOf_some hl] at this
  simp [cntOf] at this
  simp [this]

end Go.Proofs.Ytnlhgcpmmcmknab
