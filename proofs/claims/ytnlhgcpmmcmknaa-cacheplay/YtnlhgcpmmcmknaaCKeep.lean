/- What acts leave as it is: a page with pins, with its data; pages that are what their files have. -/
import Derived.Test.YtnlhgcpmmcmknaaCRun
namespace Go.Proofs.Ytnlhgcpmmcmknaa
open Go.RowKit Go.Maps
namespace Ca

theorem find_eraseP {α : Type} {p q : α → Bool} {f : α} : ∀ {l : List α}, l.find? q = some f → p f = false → (l.eraseP p).find? q = some f
  | [], h, _ => by simp at h
  | a :: r, h, hp => by
    cases hpa : p a with
    | true =>
      rw [List.eraseP_cons, hpa]
      show r.find? q = some f
      rw [List.find?_cons] at h
      cases hq : q a with
      | true => rw [hq] at h; simp only [Option.some.injEq] at h; rw [h] at hpa; rw [hpa] at hp; cases hp
      | false => rw [hq] at h; exact h
    | false =>
      rw [List.eraseP_cons, hpa]
      show (a :: r.eraseP p).find? q = some f
      rw [List.find?_cons] at h ⊢
      cases hq : q a with
      | true => rw [hq] at h; exact h
      | false => rw [hq] at h; exact find_eraseP h hp
theorem find_filter {α : Type} {p q : α → Bool} : ∀ {l : List α}, (∀ x, q x = true → p x = true) → (l.filter p).find? q = l.find? q
  | [], _ => rfl
  | a :: r, h => by
    rw [List.filter_cons]
    cases hq : q a with
    | true => rw [h a hq]; simp only [if_true]; rw [List.find?_cons, List.find?_cons, hq]
    | false =>
      have ih := find_filter (l := r) h
      cases hp : p a with
      | true => simp only [if_true]; rw [List.find?_cons, List.find?_cons, hq]; exact ih
      | false => simp only [Bool.false_eq_true, if_false]; rw [List.find?_cons, hq]; exact ih

variable {l : List Fr} {n m : ByteArray} {i j : Int} {f g : Fr}
theorem look_gone_other (h : ¬ (m = n ∧ j = i)) : look (gone l n i) m j = look l m j :=
  find_filter fun x hx => by
    obtain ⟨rfl, rfl⟩ := is_iff.1 hx
    cases hb : x.is n i with
    | true => exact absurd (is_iff.1 hb) h
    | false => rfl
theorem look_gone_same : look (gone l n i) n i = none := look_none' fun _ hx => (mem_gone.1 hx).2
theorem look_append (l1 l2 : List Fr) : look (l1 ++ l2) n i = (look l1 n i).or (look l2 n i) := by unfold look; rw [List.find?_append]
theorem look_room (h : look l n i = some f) (hp : 0 < f.p) (k : Nat) : look (room k l) n i = some f := by
  unfold room
  split
  · exact find_eraseP h (by simp; omega)
  · exact h
theorem look_one_same (h1 : f.n = n) (h2 : f.i = i) : look [f] n i = some f := by
  unfold look
  rw [List.find?_cons, is_iff.2 ⟨h1, h2⟩]
theorem look_one_other (h : ¬ (f.n = n ∧ f.i = i)) : look [f] n i = none := by
  unfold look
  have : f.is n i = false := by
    cases hb : f.is n i with
    | true => exact absurd (is_iff.1 hb) h
    | false => rfl
  rw [List.find?_cons, this]; rfl
theorem look_map {t : Fr → Fr} (hn : ∀ x, (t x).n = x.n) (hi : ∀ x, (t x).i = x.i) : ∀ l : List Fr, look (l.map t) n i = (look l n i).map t
  | [] => rfl
  | a :: r => by
    have e : (t a).is n i = a.is n i := by unfold Fr.is; rw [hn, hi]
    unfold look
    rw [List.map_cons, List.find?_cons, List.find?_cons, e]
    cases a.is n i with
    | true => rfl
    | false => exact look_map hn hi r

/-- The page is there, with this data and some pins. -/
def Stays (n : ByteArray) (i : Int) (d : ByteArray) (st : St) : Prop := ∃ f, look st.l n i = some f ∧ f.d = d ∧ 0 < f.p

theorem stays_fetch {st : St} {d : ByteArray} (h : Stays n i d st) (m : ByteArray) (j : Int) :
    (m = n ∧ j = i ∧ ∃ f, fetch st m j = ⟨0, gone st.l n i, f, st.fs⟩ ∧ f.n = n ∧ f.i = i ∧ f.d = d ∧ 0 < f.p) ∨
    (¬ (m = n ∧ j = i) ∧ (∃ f, look (fetch st m j).l n i = some f ∧ f.d = d ∧ 0 < f.p) ∧ ((fetch st m j).e = 0 → (fetch st m j).f.n = m ∧ (fetch st m j).f.i = j)) := by
  obtain ⟨f, hf, hd, hp⟩ := h
  by_cases hk : m = n ∧ j = i
  · obtain ⟨rfl, rfl⟩ := hk
    obtain ⟨_, h1, h2⟩ := look_some hf
    exact .inl ⟨rfl, rfl, f, fetch_hit hf, h1, h2, hd, hp⟩
  · refine .inr ⟨hk, ?_, ?_⟩
    · cases hl : look st.l m j with
      | some g => rw [fetch_hit hl]; exact ⟨f, by rw [look_gone_other (fun e => hk ⟨e.1.symm, e.2.symm⟩)]; exact hf, hd, hp⟩
      | none =>
        by_cases he : (fetch st m j).e = 0
        · cases hs : stuck st.most st.l with
          | true => rw [fetch_full hl hs] at he; cases he
          | false =>
            by_cases h1 : (Fi.read st.fs m j).2.1 = 0
            · by_cases h2 : (dec (Fi.read st.fs m j).1).2 = 0
              · rw [fetch_new hl hs (s := (Fi.read st.fs m j).1) (fs := (Fi.read st.fs m j).2.2) (by rw [← h1]) (d := (dec (Fi.read st.fs m j).1).1) (by rw [← h2])]
                exact ⟨f, look_room hf hp _, hd, hp⟩
              · rw [fetch_spoilt hl hs h1 h2]; exact ⟨f, hf, hd, hp⟩
            · rw [fetch_fails hl hs h1]; exact ⟨f, hf, hd, hp⟩
        · rw [fetch_l st m j he]; exact ⟨f, hf, hd, hp⟩
    · intro he
      cases hl : look st.l m j with
      | some g => rw [fetch_hit hl]; exact (look_some hl).2
      | none =>
        cases hs : stuck st.most st.l with
        | true => rw [fetch_full hl hs] at he; cases he
        | false =>
          by_cases h1 : (Fi.read st.fs m j).2.1 = 0
          · by_cases h2 : (dec (Fi.read st.fs m j).1).2 = 0
            · rw [fetch_new hl hs (s := (Fi.read st.fs m j).1) (fs := (Fi.read st.fs m j).2.2) (by rw [← h1]) (d := (dec (Fi.read st.fs m j).1).1) (by rw [← h2])]
              exact ⟨rfl, rfl⟩
            · rw [fetch_spoilt hl hs h1 h2] at he; exact absurd he h2
          · rw [fetch_fails hl hs h1] at he; exact absurd he h1

theorem stays_get {st : St} {d : ByteArray} (h : Stays n i d st) (m : ByteArray) (j : Int) : Stays n i d (get st m j).2.2 ∧ (m = n → j = i → (get st m j).1 = d ∧ (get st m j).2.1 = 0) := by
  rcases stays_fetch h m j with ⟨rfl, rfl, f, hf, h1, h2, hd, hp⟩ | ⟨hk, ⟨f, hf, hd, hp⟩, hnm⟩
  · rw [get_ok hf]
    refine ⟨⟨f, ?_, hd, hp⟩, fun _ _ => ⟨hd, rfl⟩⟩
    rw [look_append, look_gone_same, look_one_same h1 h2]; rfl
  · refine ⟨?_, fun e1 e2 => absurd ⟨e1, e2⟩ hk⟩
    unfold get
    split
    · exact ⟨f, by rw [look_append, hf]; rfl, hd, hp⟩
    · exact ⟨f, hf, hd, hp⟩
theorem stays_pin {st : St} {d : ByteArray} (h : Stays n i d st) (m : ByteArray) (j : Int) : Stays n i d (pin st m j).2.2 := by
  rcases stays_fetch h m j with ⟨rfl, rfl, f, hf, h1, h2, hd, hp⟩ | ⟨hk, ⟨f, hf, hd, hp⟩, hnm⟩
  · rw [pin_ok hf]
    exact ⟨more f, by rw [look_append, look_gone_same, look_one_same (f := more f) h1 h2]; rfl, hd, Nat.succ_pos _⟩
  · unfold pin
    split
    · exact ⟨f, by rw [look_append, hf]; rfl, hd, hp⟩
    · exact ⟨f, hf, hd, hp⟩
theorem stays_unpin {st : St} {d : ByteArray} (h : Stays n i d st) (m : ByteArray) (j : Int) (hm : m ≠ n) : Stays n i d (unpin st m j).2 := by
  obtain ⟨f, hf, hd, hp⟩ := h
  unfold unpin
  cases look st.l m j with
  | none => exact ⟨f, hf, hd, hp⟩
  | some g =>
    simp only
    split
    · exact ⟨f, hf, hd, hp⟩
    · refine ⟨f, ?_, hd, hp⟩
      show look (st.l.map fun x => if x.is m j = true then less x else x) n i = some f
      rw [look_map (fun x => by split <;> rfl) (fun x => by split <;> rfl), hf]
      have h1 := (look_some hf).2.1
      have : f.is m j = false := by
        cases hb : f.is m j with
        | true => exact absurd ((is_iff.1 hb).1.symm.trans h1) hm
        | false => rfl
      simp [this]
theorem stays_put {st : St} {d : ByteArray} (h : Stays n i d st) (m : ByteArray) (j : Int) (t : ByteArray) (hm : m ≠ n) : Stays n i d (put st m j t).2 := by
  obtain ⟨f, hf, hd, hp⟩ := h
  unfold put
  split
  · exact ⟨f, hf, hd, hp⟩
  split
  · exact ⟨f, hf, hd, hp⟩
  split
  · exact ⟨f, hf, hd, hp⟩
  · cases look st.l m j with
    | none => exact ⟨f, by show look (room st.most st.l ++ [_]) n i = _; rw [look_append, look_room hf hp]; rfl, hd, hp⟩
    | some g => exact ⟨f, by show look (gone st.l m j ++ [_]) n i = _; rw [look_append, look_gone_other (fun e => hm e.1.symm), hf]; rfl, hd, hp⟩
theorem stays_drop {st : St} {d : ByteArray} (h : Stays n i d st) (m : ByteArray) (hm : m ≠ n) : Stays n i d (drop st m) := by
  obtain ⟨f, hf, hd, hp⟩ := h
  refine ⟨f, ?_, hd, hp⟩
  show look (st.l.filter fun x => !decide (x.n = m)) n i = some f
  rw [← hf]
  refine find_filter fun x hx => ?_
  obtain ⟨rfl, rfl⟩ := is_iff.1 hx
  simp [Ne.symm hm]
theorem stays_has {st : St} {d : ByteArray} (h : Stays n i d st) : has st.l n i = true ∧ 1 ≤ pinned st.l := by
  obtain ⟨f, hf, hd, hp⟩ := h
  refine ⟨by rw [has_look, hf]; rfl, ?_⟩
  exact List.countP_pos_iff.2 ⟨f, (look_some hf).1, by simp; omega⟩
end Ca

theorem stays_act {st : Ca.St} {n t : ByteArray} {i : Int} (h : Ca.Stays n i t st) (d : Cd) (hd : ¬ (d.name = n ∧ (d.kind % 10 = 3 ∨ d.kind % 10 = 4 ∨ d.kind % 10 = 5))) : Ca.Stays n i t (actC st d).2.2 := by
  unfold actC
  split
  · exact Ca.stays_pin h _ _
  split
  · rename_i h3; exact Ca.stays_unpin h _ _ fun e => hd ⟨e, .inl h3⟩
  split
  · rename_i h4; exact Ca.stays_put h _ _ _ fun e => hd ⟨e, .inr (.inl h4)⟩
  split
  · rename_i h5; exact Ca.stays_drop h _ fun e => hd ⟨e, .inr (.inr h5)⟩
  split
  · exact h
  split
  · exact h
  split
  · exact h
  split
  · exact h
  · exact (Ca.stays_get h _ _).1

/-! ### The first page of a file, put and pinned -/
theorem look_sub {l l' : List Ca.Fr} {n : ByteArray} {i : Int} (h : l'.Sublist l) (hl : Ca.look l n i = none) : Ca.look l' n i = none := Ca.look_none' fun x hx => Ca.look_none hl x (h.subset hx)
theorem put_then {st : Ca.St} {n t : ByteArray} {i : Int} (h : (Ca.put st n i t).1 = 0) : ∃ f, Ca.look (Ca.put st n i t).2.l n i = some f ∧ f.d = t ∧ f.n = n ∧ f.i = i := by
  by_cases h0 : (Ca.enc t).2 = 0
  · by_cases hs : Ca.look st.l n i = none ∧ Ca.stuck st.most st.l = true
    · rw [put_stuck h0 hs.1 hs.2] at h; cases h
    · by_cases he : (Fi.putp st.fs n i (Ca.enc t).1).1 = 0
      · unfold Ca.put
        rw [if_neg (by simp [h0]), if_neg hs, if_neg (by simp [he])]
        cases hl : Ca.look st.l n i with
        | none => exact ⟨⟨n, i, t, 0⟩, by show Ca.look (Ca.room st.most st.l ++ [_]) n i = _; rw [Ca.look_append, look_sub (Ca.room_sub _ _) hl, Ca.look_one_same rfl rfl]; rfl, rfl, rfl, rfl⟩
        | some f => exact ⟨{ f with d := t }, by show Ca.look (Ca.gone st.l n i ++ [_]) n i = _; rw [Ca.look_append, Ca.look_gone_same, Ca.look_one_same (f := { f with d := t }) (Ca.look_some hl).2.1 (Ca.look_some hl).2.2]; rfl, rfl, (Ca.look_some hl).2⟩
      · unfold Ca.put at h
        rw [if_neg (by simp [h0]), if_neg hs, if_pos he] at h
        exact absurd h he
  · rw [put_long h0] at h; exact absurd h h0
theorem put_err {st : Ca.St} {n t : ByteArray} (hn : Fi.isName n = true) (ht : t.size ≤ 122) : (Ca.put st n 0 t).1 = 0 ∨ (Ca.put st n 0 t).1 = 70 ∨ (Ca.put st n 0 t).1 = 61 := by
  have ht' : ¬ 122 < t.data.toList.length := by have : t.data.toList.length = t.size := by simp
                                                omega
  have h0 : Ca.enc t = (⟨(Pg.page t.data.toList).toArray⟩, 0) := by unfold Ca.enc; rw [Pg.enc_yes ht']
  have hpg : Fi.isPage (Ca.enc t).1 = true := Fi.isPage_iff.2 (by rw [h0]; exact Pg.page_length (by omega))
  unfold Ca.put
  rw [if_neg (by simp [h0])]
  split
  · exact .inr (.inl rfl)
  split
  · right; right
    rename_i he
    show (Fi.putp st.fs n 0 (Ca.enc t).1).1 = 61
    unfold Fi.putp at he ⊢
    rw [if_neg (by simp [hn, hpg])] at he ⊢
    split at he
    · exact absurd rfl he
    · rename_i h1
      rw [if_neg h1]
      split at he
      · rename_i h2; rw [if_pos h2]
      · exact absurd rfl he
  · exact .inl rfl
theorem pin_there {st : Ca.St} {n t : ByteArray} {i : Int} {f : Ca.Fr} (hf : Ca.look st.l n i = some f) (hd : f.d = t) : (Ca.pin st n i).1 = t ∧ (Ca.pin st n i).2.1 = 0 ∧ Ca.Stays n i t (Ca.pin st n i).2.2 := by
  rw [pin_ok (fetch_hit hf)]
  refine ⟨hd, rfl, Ca.more f, ?_, hd, Nat.succ_pos _⟩
  show Ca.look (Ca.gone st.l n i ++ [_]) n i = _
  rw [Ca.look_append, Ca.look_gone_same, Ca.look_one_same (f := Ca.more f) (Ca.look_some hf).2.1 (Ca.look_some hf).2.2]; rfl

/-! ### Pages that are what their files have -/
def Same (st : Ca.St) : Prop := ∀ f ∈ st.l, Fi.has st.fs f.n f.i = true ∧ Ca.dec (Fi.page st.fs f.n f.i) = (f.d, 0)
theorem has_fs {a b : Fi.St} (h : a.fs = b.fs) (n : ByteArray) (i : Int) : Fi.has a n i = Fi.has b n i ∧ Fi.page a n i = Fi.page b n i := by unfold Fi.has Fi.page; rw [h]; exact ⟨rfl, rfl⟩
theorem same_of {st st' : Ca.St} (h : Same st) (hf : st'.fs.fs = st.fs.fs) (hl : ∀ f ∈ st'.l, ∃ g ∈ st.l, g.n = f.n ∧ g.i = f.i ∧ g.d = f.d) : Same st' := by
  intro f hm
  obtain ⟨g, hg, h1, h2, h3⟩ := hl f hm
  have := h g hg
  rw [(has_fs hf f.n f.i).1, (has_fs hf f.n f.i).2, ← h1, ← h2, ← h3]
  exact this
theorem read_fs (st : Fi.St) (n : ByteArray) (i : Int) : (Fi.read st n i).2.2.fs = st.fs := by
  unfold Fi.read
  split
  · rfl
  split <;> rfl
theorem read_zero {st : Fi.St} {n : ByteArray} {i : Int} (h : (Fi.read st n i).2.1 = 0) : Fi.has st n i = true ∧ (Fi.read st n i).1 = Fi.page st n i := by
  unfold Fi.read at h ⊢
  split at h
  · cases h
  · rename_i hh
    rw [if_neg hh]
    split at h
    · cases h
    · rename_i ha
      rw [if_neg ha]
      exact ⟨by simpa using hh, rfl⟩
theorem same_fetch {st : Ca.St} (h : Same st) (n : ByteArray) (i : Int) : (Ca.fetch st n i).fs.fs = st.fs.fs ∧ (∀ f ∈ (Ca.fetch st n i).l, f ∈ st.l) ∧ ((Ca.fetch st n i).e = 0 → (Ca.fetch st n i).f.n = n ∧ (Ca.fetch st n i).f.i = i ∧ Fi.has st.fs n i = true ∧ Ca.dec (Fi.page st.fs n i) = ((Ca.fetch st n i).f.d, 0)) := by
  cases hl : Ca.look st.l n i with
  | some f =>
    rw [fetch_hit hl]
    obtain ⟨hm, h1, h2⟩ := Ca.look_some hl
    refine ⟨rfl, fun g hg => (Ca.mem_gone.1 hg).1, fun _ => ⟨h1, h2, ?_⟩⟩
    have := h f hm
    rw [h1, h2] at this
    exact this
  | none =>
    cases hs : Ca.stuck st.most st.l with
    | true => rw [fetch_full hl hs]; exact ⟨rfl, fun g hg => hg, fun e => by cases e⟩
    | false =>
      by_cases h1 : (Fi.read st.fs n i).2.1 = 0
      · by_cases h2 : (Ca.dec (Fi.read st.fs n i).1).2 = 0
        · rw [fetch_new hl hs (s := (Fi.read st.fs n i).1) (fs := (Fi.read st.fs n i).2.2) (by rw [← h1]) (d := (Ca.dec (Fi.read st.fs n i).1).1) (by rw [← h2])]
          refine ⟨read_fs _ _ _, fun g hg => (Ca.room_sub _ _).subset hg, fun _ => ⟨rfl, rfl, (read_zero h1).1, ?_⟩⟩
          rw [← (read_zero h1).2, ← h2]
        · rw [fetch_spoilt hl hs h1 h2]; exact ⟨read_fs _ _ _, fun g hg => hg, fun e => absurd e h2⟩
      · rw [fetch_fails hl hs h1]; exact ⟨read_fs _ _ _, fun g hg => hg, fun e => absurd e h1⟩
theorem same_add {st st' : Ca.St} (h : Same st) (hf : st'.fs.fs = st.fs.fs) {l : List Ca.Fr} {f : Ca.Fr} (he : st'.l = l ++ [f]) (hl : ∀ g ∈ l, g ∈ st.l) (h1 : Fi.has st.fs f.n f.i = true) (h2 : Ca.dec (Fi.page st.fs f.n f.i) = (f.d, 0)) : Same st' := by
  intro g hg
  rw [(has_fs hf g.n g.i).1, (has_fs hf g.n g.i).2]
  rw [he] at hg
  rcases List.mem_append.1 hg with hg | hg
  · exact h g (hl g hg)
  · obtain rfl : g = f := by simpa using hg
    exact ⟨h1, h2⟩
/-- What was got is what its file has. -/
def GotSame (st : Ca.St) (n : ByteArray) (i : Int) (d : ByteArray) : Prop := Fi.has st.fs n i = true ∧ Ca.dec (Fi.page st.fs n i) = (d, 0) ∧ Ca.has st.l n i = true
theorem has_last {l : List Ca.Fr} {f : Ca.Fr} {n : ByteArray} {i : Int} (h1 : f.n = n) (h2 : f.i = i) : Ca.has (l ++ [f]) n i = true := by
  unfold Ca.has
  rw [List.any_append]
  simp [Ca.is_iff.2 ⟨h1, h2⟩]
theorem same_get {st : Ca.St} (h : Same st) (n : ByteArray) (i : Int) : Same (Ca.get st n i).2.2 ∧ ((Ca.get st n i).2.1 = 0 → GotSame (Ca.get st n i).2.2 n i (Ca.get st n i).1) := by
  obtain ⟨hf, hl, hz⟩ := same_fetch h n i
  unfold Ca.get
  split
  · rename_i he
    obtain ⟨h1, h2, h3, h4⟩ := hz he
    refine ⟨same_add h hf rfl hl (by rw [h1, h2]; exact h3) (by rw [h1, h2]; exact h4), fun _ => ⟨?_, ?_, has_last h1 h2⟩⟩
    · exact (has_fs hf n i).1.trans h3
    · exact (congrArg Ca.dec (has_fs hf n i).2).trans h4
  · rename_i he
    exact ⟨same_of h hf fun g hg => ⟨g, hl g hg, rfl, rfl, rfl⟩, fun e => absurd e he⟩
theorem same_pin {st : Ca.St} (h : Same st) (n : ByteArray) (i : Int) : Same (Ca.pin st n i).2.2 ∧ ((Ca.pin st n i).2.1 = 0 → GotSame (Ca.pin st n i).2.2 n i (Ca.pin st n i).1) := by
  obtain ⟨hf, hl, hz⟩ := same_fetch h n i
  unfold Ca.pin
  split
  · rename_i he
    obtain ⟨h1, h2, h3, h4⟩ := hz he
    refine ⟨same_add (f := Ca.more (Ca.fetch st n i).f) h hf rfl hl (by show Fi.has st.fs (Ca.fetch st n i).f.n (Ca.fetch st n i).f.i = true; rw [h1, h2]; exact h3) (by show Ca.dec (Fi.page st.fs (Ca.fetch st n i).f.n (Ca.fetch st n i).f.i) = ((Ca.fetch st n i).f.d, 0); rw [h1, h2]; exact h4), fun _ => ⟨?_, ?_, has_last (f := Ca.more (Ca.fetch st n i).f) h1 h2⟩⟩
    · exact (has_fs hf n i).1.trans h3
    · exact (congrArg Ca.dec (has_fs hf n i).2).trans h4
  · rename_i he
    exact ⟨same_of h hf fun g hg => ⟨g, hl g hg, rfl, rfl, rfl⟩, fun e => absurd e he⟩
theorem same_unpin {st : Ca.St} (h : Same st) (n : ByteArray) (i : Int) : Same (Ca.unpin st n i).2 := by
  unfold Ca.unpin
  cases Ca.look st.l n i with
  | none => exact h
  | some g =>
    simp only
    split
    · exact h
    · refine same_of h rfl fun f hf => ?_
      obtain ⟨g, hg, rfl⟩ := List.mem_map.1 hf
      refine ⟨g, hg, ?_⟩
      split <;> exact ⟨rfl, rfl, rfl⟩
theorem putp_rows {st : Fi.St} {n : ByteArray} {i : Int} {s : ByteArray} (h : (Fi.putp st n i s).1 = 0) (m : ByteArray) (j : Int) : (m = n → j = i → Fi.has (Fi.putp st n i s).2 m j = true ∧ Fi.page (Fi.putp st n i s).2 m j = s) ∧ (¬ (m = n ∧ j = i) → Fi.has st m j = true → Fi.has (Fi.putp st n i s).2 m j = true ∧ Fi.page (Fi.putp st n i s).2 m j = Fi.page st m j) := by
  unfold Fi.putp at h ⊢
  split at h
  · cases h
  rename_i ha
  rw [if_neg ha]
  simp only [not_or, Bool.not_eq_false] at ha
  obtain ⟨hn, h0, hle, hp⟩ := ha
  split at h
  · rename_i hlt
    rw [if_pos hlt]
    have hrs : Fi.rows (Fi.put st.fs n ((Fi.rows st.fs n).set i.toNat s)) n = (Fi.rows st.fs n).set i.toNat s := by unfold Fi.rows; rw [Fi.find_put_same]; rfl
    refine ⟨?_, fun hk hh => ?_⟩
    · rintro rfl rfl
      refine ⟨Fi.has_iff.2 ⟨by omega, ?_⟩, ?_⟩
      · show _ < (((Fi.rows (Fi.put st.fs m _) m).length : Nat) : Int); rw [hrs, List.length_set]; exact hlt
      · show (Fi.rows (Fi.put st.fs m _) m).getD _ _ = s
        rw [hrs, List.getD_eq_getElem?_getD, List.getElem?_set_self (by omega)]; rfl
    · by_cases hm : m = n
      · subst hm
        have hj := Fi.has_iff.1 hh
        refine ⟨Fi.has_iff.2 ⟨hj.1, ?_⟩, ?_⟩
        · show _ < (((Fi.rows (Fi.put st.fs m _) m).length : Nat) : Int); rw [hrs, List.length_set]; exact hj.2
        · show (Fi.rows (Fi.put st.fs m _) m).getD _ _ = (Fi.rows st.fs m).getD _ _
          rw [hrs, List.getD_eq_getElem?_getD, List.getElem?_set_ne (by intro e; exact hk ⟨rfl, by omega⟩), ← List.getD_eq_getElem?_getD]
      · have hro : Fi.rows (Fi.put st.fs n ((Fi.rows st.fs n).set i.toNat s)) m = Fi.rows st.fs m := by unfold Fi.rows; rw [Fi.find_put_other _ _ hm]
        unfold Fi.has at hh ⊢
        unfold Fi.page
        simp only [hro]
        exact ⟨hh, trivial⟩
  · rename_i hge
    rw [if_neg hge]
    split at h
    · cases h
    rename_i hrm
    rw [if_neg hrm]
    have hrs : Fi.rows (Fi.put st.fs n (Fi.rows st.fs n ++ [s])) n = Fi.rows st.fs n ++ [s] := by unfold Fi.rows; rw [Fi.find_put_same]; rfl
    refine ⟨?_, fun hk hh => ?_⟩
    · rintro rfl rfl
      refine ⟨Fi.has_iff.2 ⟨by omega, ?_⟩, ?_⟩
      · show _ < (((Fi.rows (Fi.put st.fs m _) m).length : Nat) : Int); rw [hrs, List.length_append]; simp; omega
      · show (Fi.rows (Fi.put st.fs m _) m).getD _ _ = s
        rw [hrs, List.getD_eq_getElem?_getD, List.getElem?_append_right (by omega), show j.toNat - (Fi.rows st.fs m).length = 0 by omega]; rfl
    · by_cases hm : m = n
      · subst hm
        have hj := Fi.has_iff.1 hh
        refine ⟨Fi.has_iff.2 ⟨hj.1, ?_⟩, ?_⟩
        · show _ < (((Fi.rows (Fi.put st.fs m _) m).length : Nat) : Int); rw [hrs, List.length_append]; simp; omega
        · show (Fi.rows (Fi.put st.fs m _) m).getD _ _ = (Fi.rows st.fs m).getD _ _
          rw [hrs, List.getD_eq_getElem?_getD, List.getElem?_append_left (by omega), ← List.getD_eq_getElem?_getD]
      · have hro : Fi.rows (Fi.put st.fs n (Fi.rows st.fs n ++ [s])) m = Fi.rows st.fs m := by unfold Fi.rows; rw [Fi.find_put_other _ _ hm]
        unfold Fi.has at hh ⊢
        unfold Fi.page
        simp only [hro]
        exact ⟨hh, trivial⟩
theorem putp_err {st : Fi.St} {n : ByteArray} {i : Int} {s : ByteArray} (h : (Fi.putp st n i s).1 ≠ 0) : (Fi.putp st n i s).2 = st := by
  unfold Fi.putp at h ⊢
  split at h
  · rename_i ha; rw [if_pos ha]
  rename_i ha
  rw [if_neg ha]
  split at h
  · exact absurd rfl h
  rename_i hb
  rw [if_neg hb]
  split at h
  · rename_i hc; rw [if_pos hc]
  · exact absurd rfl h
theorem dec_enc {t : ByteArray} (h : (Ca.enc t).2 = 0) : Ca.dec (Ca.enc t).1 = (t, 0) := by
  have hlen : ¬ 122 < t.data.toList.length := by
    intro hl
    have h' : (Pg.enc t.data.toList).2 = 0 := h
    unfold Pg.enc at h'
    rw [if_pos hl] at h'
    cases h'
  unfold Ca.enc Ca.dec
  rw [Pg.enc_yes hlen]
  show (_, _) = _
  simp only
  rw [Pg.dec_page (by omega)]
theorem same_put {st : Ca.St} (h : Same st) (n : ByteArray) (i : Int) (t : ByteArray) : Same (Ca.put st n i t).2 := by
  unfold Ca.put
  split
  · exact h
  rename_i h0
  split
  · exact h
  split
  · rename_i he
    rw [putp_err he]; exact h
  · rename_i he
    have he' : (Fi.putp st.fs n i (Ca.enc t).1).1 = 0 := by simpa using he
    have h0' : (Ca.enc t).2 = 0 := by simpa using h0
    have new : ∀ f : Ca.Fr, f.n = n → f.i = i → f.d = t → Fi.has (Fi.putp st.fs n i (Ca.enc t).1).2 f.n f.i = true ∧ Ca.dec (Fi.page (Fi.putp st.fs n i (Ca.enc t).1).2 f.n f.i) = (f.d, 0) := by
      intro f h1 h2 h3
      obtain ⟨a, b⟩ := (putp_rows he' f.n f.i).1 h1 h2
      rw [b, h3, dec_enc h0']
      exact ⟨a, rfl⟩
    have old : ∀ f ∈ st.l, ¬ (f.n = n ∧ f.i = i) → Fi.has (Fi.putp st.fs n i (Ca.enc t).1).2 f.n f.i = true ∧ Ca.dec (Fi.page (Fi.putp st.fs n i (Ca.enc t).1).2 f.n f.i) = (f.d, 0) := by
      intro f hf hk
      obtain ⟨a, b⟩ := (putp_rows he' f.n f.i).2 hk (h f hf).1
      rw [b]
      exact ⟨a, (h f hf).2⟩
    cases hl : Ca.look st.l n i with
    | none =>
      intro f hf
      rcases List.mem_append.1 hf with hf | hf
      · have hm := (Ca.room_sub _ _).subset hf
        exact old f hm (Ca.look_none hl f hm)
      · obtain rfl : f = ⟨n, i, t, 0⟩ := by simpa using hf
        exact new _ rfl rfl rfl
    | some g =>
      intro f hf
      rcases List.mem_append.1 hf with hf | hf
      · exact old f (Ca.mem_gone.1 hf).1 (Ca.mem_gone.1 hf).2
      · obtain rfl : f = { g with d := t } := by simpa using hf
        exact new _ (Ca.look_some hl).2.1 (Ca.look_some hl).2.2 rfl
theorem same_act {st : Ca.St} (h : Same st) (d : Cd) (h6 : d.kind % 10 ≠ 6) (h8 : d.kind % 10 ≤ 7) : Same (actC st d).2.2 ∧ (d.kind % 10 ≤ 2 → (actC st d).2.1 = 0 → GotSame (actC st d).2.2 d.name d.i (actC st d).1) := by
  revert h6 h8
  unfold actC
  split
  · intro _ _; have := same_pin h d.name d.i; exact ⟨this.1, fun _ => this.2⟩
  split
  · intro _ _; exact ⟨same_unpin h _ _, fun hk => by omega⟩
  split
  · intro _ _; exact ⟨same_put h _ _ _, fun hk => by omega⟩
  split
  · intro _ _; exact ⟨same_of h rfl fun f hf => ⟨f, (List.mem_filter.1 hf).1, rfl, rfl, rfl⟩, fun hk => by omega⟩
  split
  · intro _ _; omega
  split
  · intro _ _
    refine ⟨same_of h ?_ fun f hf => ⟨f, hf, rfl, rfl, rfl⟩, fun hk => by omega⟩
    show (Fi.fail st.fs d.i).2.fs = st.fs.fs
    unfold Fi.fail
    split <;> rfl
  split
  · intro _ _; omega
  split
  · intro _ _; omega
  · intro _ _; have := same_get h d.name d.i; exact ⟨this.1, fun _ => this.2⟩

/-! ### Contracts on the files of a cache that the call has made -/
section
variable {w W : World} {c p u : Nat} {o : Nat → Prop} {st : Ca.St}
theorem CIn.fail (h : CIn w W c p o st u) (k : Int) (hk : k ≤ 9223372036854775807) {r : Int × Fi.St} (hr : Fi.fail st.fs k = r) :
    Calls Try.prog 26 #[at_ p, .int .i64 k] W fun e w' => ∃ o', e = .returned (.int .i64 r.1) ∧ CIn w w' c p o' { st with fs := r.2 } u := by
  subst hr
  obtain ⟨of, hs, hgo⟩ := h.file
  refine (fail_any k W hs hk).mono ?_
  rintro e w' ⟨rfl, hs2, ht2⟩
  obtain ⟨o2, h2⟩ := hgo _ _ _ hs2 ht2
  exact ⟨o2, rfl, h2⟩
theorem CIn.fread (h : CIn w W c p o st u) (n : ByteArray) (i : Int) (hn : n.size ≤ maxLen) {r : ByteArray × Int × Fi.St} (hr : Fi.read st.fs n i = r) :
    Calls Try.prog 27 #[at_ p, .string n, .int .i64 i] W fun e w' => ∃ o', e = .returned (.tuple #[.string r.1, .int .i64 r.2.1]) ∧ CIn w w' c p o' { st with fs := r.2.2 } u := by
  subst hr
  obtain ⟨of, hs, hgo⟩ := h.file
  refine (read_any n i W hs hn).mono ?_
  rintro e w' ⟨rfl, hs2, ht2⟩
  obtain ⟨o2, h2⟩ := hgo _ _ _ hs2 ht2
  exact ⟨o2, rfl, h2⟩
theorem CIn.fput (h : CIn w W c p o st u) (n : ByteArray) (i : Int) (s : ByteArray) (hn : n.size ≤ maxLen) {r : Int × Fi.St} (hr : Fi.putp st.fs n i s = r) :
    Calls Try.prog 33 #[at_ p, .string n, .int .i64 i, .string s] W fun e w' => ∃ o', e = .returned (.int .i64 r.1) ∧ CIn w w' c p o' { st with fs := r.2 } u := by
  subst hr
  obtain ⟨of, hs, hgo⟩ := h.file
  refine (put_any n i s W hs hn).mono ?_
  rintro e w' ⟨of2, rfl, hs2, ht2⟩
  obtain ⟨o2, h2⟩ := hgo _ _ _ hs2 ht2
  exact ⟨o2, rfl, h2⟩
theorem CIn.put (h : CIn w W c p o st u) (n : ByteArray) (i : Int) (d : ByteArray) (hu : u < 9223372036854775800) (hk : KeyOk n i) (hn : n.size ≤ 1000) (hd : d.size ≤ 1000000) {r : Int × Ca.St} (hr : Ca.put st n i d = r) :
    Calls Try.prog 29 #[at_ c, .string n, .int .i64 i, .string d] W fun e w' => ∃ o' u', u' ≤ u + 1 ∧ e = .returned (.int .i64 r.1) ∧ CIn w w' c p o' r.2 u' := by
  subst hr
  refine (cput_any n i d h.sys hu hk hn hd).mono ?_
  rintro e w' ⟨o', u', hu', rfl, hs, ht⟩
  exact ⟨o', u', hu', rfl, h.turn hs ht⟩
theorem CIn.drop (h : CIn w W c p o st u) (n : ByteArray) :
    Calls Try.prog 23 #[at_ c, .string n] W fun e w' => ∃ o', e = .returned (.tuple #[]) ∧ CIn w w' c p o' (Ca.drop st n) u := by
  refine (cdrop_any n h.sys).mono ?_
  rintro e w' ⟨o', rfl, hs, ht⟩
  exact ⟨o', rfl, h.turn hs ht⟩
end

end Go.Proofs.Ytnlhgcpmmcmknaa
