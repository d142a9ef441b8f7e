/- A cache in plain words: pages by when they were used; what each call answers, and what it makes of them. -/
import Derived.Test.YtnlhgcpmmcmknaaFMath
import Derived.Test.YtnlhgcpmmcmknaaQMath
namespace Go.Proofs.Ytnlhgcpmmcmknaa
namespace Ca

/-- A page that is there. -/
structure Fr where
  n : ByteArray
  i : Int
  d : ByteArray
  p : Nat

def Fr.none : Fr := ⟨ByteArray.empty, 0, ByteArray.empty, 0⟩
def Fr.is (x : Fr) (n : ByteArray) (i : Int) : Bool := decide (x.n = n) && decide (x.i = i)
theorem is_iff {x : Fr} {n : ByteArray} {i : Int} : x.is n i = true ↔ x.n = n ∧ x.i = i := by simp [Fr.is]
theorem is_self (x : Fr) : x.is x.n x.i = true := is_iff.2 ⟨rfl, rfl⟩

structure St where
  most : Nat
  fs : Fi.St
  l : List Fr

def look (l : List Fr) (n : ByteArray) (i : Int) : Option Fr := l.find? fun x => x.is n i
def has (l : List Fr) (n : ByteArray) (i : Int) : Bool := l.any fun x => x.is n i
def gone (l : List Fr) (n : ByteArray) (i : Int) : List Fr := l.filter fun x => !x.is n i
def pinned (l : List Fr) : Nat := l.countP fun x => decide (0 < x.p)
def stuck (most : Nat) (l : List Fr) : Bool := decide (most ≤ l.length) && decide (pinned l = l.length)
def evict (l : List Fr) : List Fr := l.eraseP fun x => decide (x.p = 0)
def room (most : Nat) (l : List Fr) : List Fr := if most ≤ l.length then evict l else l

def dec (s : ByteArray) : ByteArray × Int := (⟨(Pg.dec s.data.toList).1.toArray⟩, (Pg.dec s.data.toList).2)
def enc (d : ByteArray) : ByteArray × Int := (⟨(Pg.enc d.data.toList).1.toArray⟩, (Pg.enc d.data.toList).2)

/-- What is fetched: the error; the pages that are there besides; the page; the file system. -/
structure Got where
  e : Int
  l : List Fr
  f : Fr
  fs : Fi.St

def fetch (st : St) (n : ByteArray) (i : Int) : Got :=
  match look st.l n i with
  | some f => ⟨0, gone st.l n i, f, st.fs⟩
  | Option.none =>
    if stuck st.most st.l = true then ⟨70, st.l, Fr.none, st.fs⟩
    else if (Fi.read st.fs n i).2.1 ≠ 0 then ⟨(Fi.read st.fs n i).2.1, st.l, Fr.none, (Fi.read st.fs n i).2.2⟩
    else if (dec (Fi.read st.fs n i).1).2 ≠ 0 then ⟨(dec (Fi.read st.fs n i).1).2, st.l, Fr.none, (Fi.read st.fs n i).2.2⟩
    else ⟨0, room st.most st.l, ⟨n, i, (dec (Fi.read st.fs n i).1).1, 0⟩, (Fi.read st.fs n i).2.2⟩

def get (st : St) (n : ByteArray) (i : Int) : ByteArray × Int × St :=
  if (fetch st n i).e = 0 then ((fetch st n i).f.d, 0, ⟨st.most, (fetch st n i).fs, (fetch st n i).l ++ [(fetch st n i).f]⟩)
  else (ByteArray.empty, (fetch st n i).e, ⟨st.most, (fetch st n i).fs, (fetch st n i).l⟩)
def more (f : Fr) : Fr := { f with p := f.p + 1 }
def less (f : Fr) : Fr := { f with p := f.p - 1 }
def pin (st : St) (n : ByteArray) (i : Int) : ByteArray × Int × St :=
  if (fetch st n i).e = 0 then ((fetch st n i).f.d, 0, ⟨st.most, (fetch st n i).fs, (fetch st n i).l ++ [more (fetch st n i).f]⟩)
  else (ByteArray.empty, (fetch st n i).e, ⟨st.most, (fetch st n i).fs, (fetch st n i).l⟩)
def unpin (st : St) (n : ByteArray) (i : Int) : Int × St :=
  match look st.l n i with
  | Option.none => (4, st)
  | some f => if f.p = 0 then (4, st) else (0, { st with l := st.l.map fun x => if x.is n i = true then less x else x })
def put (st : St) (n : ByteArray) (i : Int) (d : ByteArray) : Int × St :=
  if (enc d).2 ≠ 0 then ((enc d).2, st)
  else if look st.l n i = Option.none ∧ stuck st.most st.l = true then (70, st)
  else if (Fi.putp st.fs n i (enc d).1).1 ≠ 0 then ((Fi.putp st.fs n i (enc d).1).1, { st with fs := (Fi.putp st.fs n i (enc d).1).2 })
  else (0, ⟨st.most, (Fi.putp st.fs n i (enc d).1).2, match look st.l n i with
    | Option.none => room st.most st.l ++ [⟨n, i, d, 0⟩]
    | some f => gone st.l n i ++ [{ f with d := d }]⟩)
def drop (st : St) (n : ByteArray) : St := { st with l := st.l.filter fun x => !decide (x.n = n) }

/-! ### Lists of pages, no two of one name and number -/
def Apart (l : List Fr) : Prop := l.Pairwise fun x y => ¬ (x.n = y.n ∧ x.i = y.i)

theorem look_some {l : List Fr} {n : ByteArray} {i : Int} {f : Fr} (h : look l n i = some f) : f ∈ l ∧ f.n = n ∧ f.i = i := by
  have h1 := List.mem_of_find?_eq_some h
  have h2 := List.find?_some h
  exact ⟨h1, is_iff.1 h2⟩
theorem look_none {l : List Fr} {n : ByteArray} {i : Int} (h : look l n i = Option.none) : ∀ x ∈ l, ¬ (x.n = n ∧ x.i = i) := by
  intro x hx hk
  have := List.find?_eq_none.1 h x hx
  exact this (is_iff.2 hk)
theorem look_none' {l : List Fr} {n : ByteArray} {i : Int} (h : ∀ x ∈ l, ¬ (x.n = n ∧ x.i = i)) : look l n i = Option.none :=
  List.find?_eq_none.2 fun x hx hk => h x hx (is_iff.1 hk)
theorem apart_eq {l : List Fr} (h : Apart l) {x y : Fr} (hx : x ∈ l) (hy : y ∈ l) (hk : x.n = y.n ∧ x.i = y.i) : x = y := by
  induction l with
  | nil => simp at hx
  | cons a r ih =>
    obtain ⟨h1, h2⟩ := List.pairwise_cons.1 h
    rcases List.mem_cons.1 hx with rfl | hx'
    · rcases List.mem_cons.1 hy with rfl | hy'
      · rfl
      · exact absurd hk (h1 y hy')
    · rcases List.mem_cons.1 hy with rfl | hy'
      · exact absurd ⟨hk.1.symm, hk.2.symm⟩ (h1 x hx')
      · exact ih h2 hx' hy'
theorem look_mem {l : List Fr} (h : Apart l) {x : Fr} (hx : x ∈ l) : look l x.n x.i = some x := by
  cases hl : look l x.n x.i with
  | none => exact absurd ⟨rfl, rfl⟩ (look_none hl x hx)
  | some f =>
    obtain ⟨h1, h2⟩ := look_some hl
    rw [apart_eq h h1 hx h2]
theorem has_look {l : List Fr} {n : ByteArray} {i : Int} : has l n i = (look l n i).isSome := by
  unfold has look
  induction l with
  | nil => rfl
  | cons a r ih =>
    rw [List.any_cons, List.find?_cons]
    cases h : a.is n i with
    | true => rfl
    | false => simpa using ih
theorem mem_gone {l : List Fr} {n : ByteArray} {i : Int} {x : Fr} : x ∈ gone l n i ↔ x ∈ l ∧ ¬ (x.n = n ∧ x.i = i) := by
  unfold gone
  rw [List.mem_filter, Bool.not_eq_true', ← Bool.not_eq_true, is_iff]

theorem pinned_le (l : List Fr) : pinned l ≤ l.length := List.countP_le_length
theorem pinned_all {l : List Fr} : pinned l = l.length ↔ ∀ x ∈ l, 0 < x.p := by
  unfold pinned
  rw [List.countP_eq_length]
  simp
theorem evict_sub (l : List Fr) : (evict l).Sublist l := List.eraseP_sublist
theorem room_sub (m : Nat) (l : List Fr) : (room m l).Sublist l := by
  unfold room
  split
  · exact evict_sub l
  · exact List.Sublist.refl l
theorem evict_length {l : List Fr} (h : pinned l ≠ l.length) : (evict l).length + 1 = l.length := by
  have : ∃ x ∈ l, decide (x.p = 0) = true := by
    rcases Classical.em (∃ x ∈ l, decide (x.p = 0) = true) with h' | h'
    · exact h'
    · refine absurd (pinned_all.2 fun x hx => ?_) h
      rcases Nat.eq_zero_or_pos x.p with h0 | h0
      · exact absurd ⟨x, hx, by simp [h0]⟩ h'
      · exact h0
  obtain ⟨x, hx, hp⟩ := this
  have h1 := List.length_eraseP_of_mem (p := fun x : Fr => decide (x.p = 0)) hx hp
  have h2 := List.length_pos_of_mem hx
  unfold evict
  omega
theorem room_length {m : Nat} {l : List Fr} (h2 : l.length ≤ m) (h : stuck m l = false) : (room m l).length + 1 ≤ m := by
  unfold room
  by_cases hf : m ≤ l.length
  · rw [if_pos hf]
    have : pinned l ≠ l.length := by
      intro e
      unfold stuck at h
      rw [decide_eq_true hf, decide_eq_true e] at h
      cases h
    have := evict_length this
    omega
  · rw [if_neg hf]; omega

end Ca
end Go.Proofs.Ytnlhgcpmmcmknaa
