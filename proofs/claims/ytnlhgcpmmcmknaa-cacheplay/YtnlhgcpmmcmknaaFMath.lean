/- Files by names: what is put among them, taken away and told; what each act answers. -/
import Derived.Test.YtnlhgcpmmcmknaaRows
import Derived.Maps.RangeWalk
import Derived.Sort.KeysCollected
namespace Go.Proofs.Ytnlhgcpmmcmknaa
namespace Fi
open Go.WideShapes

section
variable {α β : Type}

theorem text_ext {a b : ByteArray} (h : a.data.toList = b.data.toList) : a = b := ByteArray.ext (Array.toList_inj.1 h)

/-- One name stands ahead of another one. -/
def lt (a b : ByteArray) : Bool := bytesBefore a.data.toList b.data.toList
theorem lt_irrefl (a : ByteArray) : lt a a = false := WideAt.bytes_irrefl _
theorem lt_total {a b : ByteArray} (h : a ≠ b) : lt a b = true ∨ lt b a = true := WideAt.bytes_total _ _ (fun e => h (text_ext e))
theorem lt_trans {a b c : ByteArray} (h : lt a b = true) (k : lt b c = true) : lt a c = true := bytes_trans _ _ _ h k
theorem lt_ne {a b : ByteArray} (h : lt a b = true) : a ≠ b := by rintro rfl; rw [lt_irrefl] at h; cases h
theorem lt_asymm {a b : ByteArray} (h : lt a b = true) : lt b a = false := by
  cases k : lt b a
  · rfl
  · exact absurd (lt_irrefl a) (by rw [lt_trans h k]; simp)

/-- Laid in ahead of the first one that is greater. -/
def ins (x : ByteArray × α) : List (ByteArray × α) → List (ByteArray × α)
  | [] => [x]
  | y :: r => if lt x.1 y.1 = true then x :: y :: r else y :: ins x r
/-- Without a name. -/
def del (l : List (ByteArray × α)) (n : ByteArray) : List (ByteArray × α) := l.filter fun p => !decide (p.1 = n)
def put (l : List (ByteArray × α)) (n : ByteArray) (a : α) : List (ByteArray × α) := ins (n, a) (del l n)
/-- What a name has. -/
def find : List (ByteArray × α) → ByteArray → Option α
  | [], _ => none
  | p :: r, n => if p.1 = n then some p.2 else find r n
def Sorted (l : List (ByteArray × α)) : Prop := l.Pairwise fun p q => lt p.1 q.1 = true
def mapv (f : α → β) (l : List (ByteArray × α)) : List (ByteArray × β) := l.map fun p => (p.1, f p.2)

theorem del_nil (n : ByteArray) : del ([] : List (ByteArray × α)) n = [] := rfl
theorem del_cons_same (p : ByteArray × α) (r : List (ByteArray × α)) : del (p :: r) p.1 = del r p.1 := by simp [del]
theorem del_cons_other {p : ByteArray × α} {n : ByteArray} (h : p.1 ≠ n) (r : List (ByteArray × α)) : del (p :: r) n = p :: del r n := by simp [del, h]
theorem mem_del {l : List (ByteArray × α)} {n : ByteArray} {p : ByteArray × α} : p ∈ del l n ↔ p ∈ l ∧ p.1 ≠ n := by simp [del]
theorem mem_ins {x p : ByteArray × α} {l : List (ByteArray × α)} : p ∈ ins x l ↔ p = x ∨ p ∈ l := by
  induction l with
  | nil => simp [ins]
  | cons y r ih =>
    unfold ins
    split
    · simp
    · simp only [List.mem_cons, ih]
      constructor
      · rintro (h | h | h) <;> simp [h]
      · rintro (h | h | h) <;> simp [h]
theorem mem_put {l : List (ByteArray × α)} {n : ByteArray} {a : α} {p : ByteArray × α} : p ∈ put l n a ↔ p = (n, a) ∨ (p ∈ l ∧ p.1 ≠ n) := by rw [put, mem_ins, mem_del]

theorem sorted_del {l : List (ByteArray × α)} (h : Sorted l) (n : ByteArray) : Sorted (del l n) := h.filter _
theorem sorted_ins {l : List (ByteArray × α)} (h : Sorted l) (x : ByteArray × α) (hx : ∀ p ∈ l, p.1 ≠ x.1) : Sorted (ins x l) := by
  induction l with
  | nil => exact List.pairwise_singleton _ _
  | cons y r ih =>
    obtain ⟨h1, h2⟩ := List.pairwise_cons.1 h
    unfold ins
    split
    · rename_i hb
      refine List.pairwise_cons.2 ⟨fun q hq => ?_, h⟩
      rcases List.mem_cons.1 hq with rfl | hq
      · exact hb
      · exact lt_trans hb (h1 q hq)
    · rename_i hb
      have hyx : lt y.1 x.1 = true := by
        rcases lt_total (hx y (by simp)) with h' | h'
        · exact h'
        · exact absurd h' hb
      refine List.pairwise_cons.2 ⟨fun q hq => ?_, ih h2 (fun p hp => hx p (by simp [hp]))⟩
      rcases mem_ins.1 hq with rfl | hq
      · exact hyx
      · exact h1 q hq
theorem sorted_put {l : List (ByteArray × α)} (h : Sorted l) (n : ByteArray) (a : α) : Sorted (put l n a) :=
  sorted_ins (sorted_del h n) _ (fun _ hp => (mem_del.1 hp).2)

theorem find_mem {l : List (ByteArray × α)} {n : ByteArray} {a : α} (h : find l n = some a) : (n, a) ∈ l := by
  induction l with
  | nil => cases h
  | cons p r ih =>
    unfold find at h
    split at h
    · rename_i hp
      cases h
      rw [← hp]; simp
    · exact List.mem_cons_of_mem _ (ih h)
theorem find_none {l : List (ByteArray × α)} {n : ByteArray} (h : find l n = none) : ∀ p ∈ l, p.1 ≠ n := by
  induction l with
  | nil => intro p hp; simp at hp
  | cons q r ih =>
    unfold find at h
    split at h
    · cases h
    · rename_i hq
      intro p hp
      rcases List.mem_cons.1 hp with rfl | hp
      · exact hq
      · exact ih h p hp
theorem find_of_none {l : List (ByteArray × α)} {n : ByteArray} (h : ∀ p ∈ l, p.1 ≠ n) : find l n = none := by
  cases hf : find l n with
  | none => rfl
  | some a => exact absurd rfl (h _ (find_mem hf))
theorem find_of_mem {l : List (ByteArray × α)} (hs : Sorted l) {n : ByteArray} {a : α} (h : (n, a) ∈ l) : find l n = some a := by
  induction l with
  | nil => simp at h
  | cons p r ih =>
    obtain ⟨h1, h2⟩ := List.pairwise_cons.1 hs
    unfold find
    rcases List.mem_cons.1 h with rfl | h
    · simp
    · rw [if_neg (lt_ne (h1 _ h))]
      exact ih h2 h
theorem del_none {l : List (ByteArray × α)} {n : ByteArray} (h : find l n = none) : del l n = l := by
  refine List.filter_eq_self.2 fun p hp => ?_
  simp [find_none h p hp]
theorem find_del_same (l : List (ByteArray × α)) (n : ByteArray) : find (del l n) n = none := find_of_none fun _ hp => (mem_del.1 hp).2
theorem find_del_other (l : List (ByteArray × α)) {n m : ByteArray} (h : m ≠ n) : find (del l n) m = find l m := by
  induction l with
  | nil => rfl
  | cons p r ih =>
    by_cases hp : p.1 = n
    · subst hp
      rw [del_cons_same, ih]
      rw [find, if_neg (fun e => h e.symm)]
    · rw [del_cons_other hp, find, find, ih]
theorem find_ins_same (l : List (ByteArray × α)) (n : ByteArray) (a : α) (h : ∀ p ∈ l, p.1 ≠ n) : find (ins (n, a) l) n = some a := by
  induction l with
  | nil => simp [ins, find]
  | cons p r ih =>
    unfold ins
    split
    · simp [find]
    · rw [find, if_neg (h p (by simp))]
      exact ih (fun q hq => h q (by simp [hq]))
theorem find_ins_other (l : List (ByteArray × α)) {n m : ByteArray} (a : α) (h : m ≠ n) : find (ins (n, a) l) m = find l m := by
  induction l with
  | nil => simp [ins, find, Ne.symm h]
  | cons p r ih =>
    unfold ins
    split
    · rw [find, if_neg (Ne.symm h)]
    · rw [find, ih]; rfl
theorem find_put_same (l : List (ByteArray × α)) (n : ByteArray) (a : α) : find (put l n a) n = some a := find_ins_same _ _ _ fun _ hp => (mem_del.1 hp).2
theorem find_put_other (l : List (ByteArray × α)) {n m : ByteArray} (a : α) (h : m ≠ n) : find (put l n a) m = find l m := by
  rw [put, find_ins_other _ _ h, find_del_other _ h]

theorem ins_head {x : ByteArray × α} {l : List (ByteArray × α)} (h : ∀ p ∈ l, lt x.1 p.1 = true) : ins x l = x :: l := by
  cases l with
  | nil => rfl
  | cons y r => unfold ins; rw [if_pos (h y (by simp))]
/-- Put where it stands it leaves all as it was. -/
theorem put_same {l : List (ByteArray × α)} (hs : Sorted l) {n : ByteArray} {a : α} (h : find l n = some a) : put l n a = l := by
  induction l with
  | nil => cases h
  | cons p r ih =>
    obtain ⟨h1, h2⟩ := List.pairwise_cons.1 hs
    by_cases hp : p.1 = n
    · subst hp
      rw [find, if_pos rfl] at h
      cases h
      have hn : find r p.1 = none := find_of_none fun q hq => (lt_ne (h1 q hq)).symm
      rw [put, del_cons_same, del_none hn, ins_head h1]
    · rw [find, if_neg hp] at h
      have hm := h1 _ (find_mem h)
      rw [put, del_cons_other hp, ins, if_neg (by rw [lt_asymm hm]; simp)]
      exact congrArg (p :: ·) (ih h2 h)

theorem mapv_sorted (f : α → β) {l : List (ByteArray × α)} : Sorted (mapv f l) ↔ Sorted l := by
  unfold Sorted mapv
  rw [List.pairwise_map]
theorem mapv_del (f : α → β) (l : List (ByteArray × α)) (n : ByteArray) : mapv f (del l n) = del (mapv f l) n := by
  unfold mapv del
  rw [List.filter_map]; rfl
theorem mapv_ins (f : α → β) (x : ByteArray × α) (l : List (ByteArray × α)) : mapv f (ins x l) = ins (x.1, f x.2) (mapv f l) := by
  induction l with
  | nil => rfl
  | cons y r ih =>
    rw [ins]
    rw [show mapv f (y :: r) = (y.1, f y.2) :: mapv f r from rfl, ins]
    split
    · rfl
    · rw [← ih]; rfl
theorem mapv_put (f : α → β) (l : List (ByteArray × α)) (n : ByteArray) (a : α) : mapv f (put l n a) = put (mapv f l) n (f a) := by
  rw [put, mapv_ins, mapv_del]; rfl
theorem mapv_find (f : α → β) (l : List (ByteArray × α)) (n : ByteArray) : find (mapv f l) n = (find l n).map f := by
  induction l with
  | nil => rfl
  | cons p r ih =>
    rw [show mapv f (p :: r) = (p.1, f p.2) :: mapv f r from rfl, find, find, ih]
    split <;> rfl
theorem mapv_length (f : α → β) (l : List (ByteArray × α)) : (mapv f l).length = l.length := by simp [mapv]
end

/-! ### Entries as a map's datum -/

/-- What the map reads as: a name, and the very value that lies there. -/
def ents (h : List (ByteArray × Value)) : List (Lit × DataW Value) := h.map fun p => (.string p.1.data.toList, .held p.2)
theorem ents_length (h : List (ByteArray × Value)) : (ents h).length = h.length := by simp [ents]
theorem same_iff (a b : ByteArray) : (Lit.string a.data.toList).sameKey (.string b.data.toList) = decide (a = b) := by
  simp only [Lit.sameKey]
  by_cases h : a = b
  · subst h; simp
  · rw [decide_eq_false h, beq_eq_false_iff_ne]
    exact fun e => h (text_ext e)
theorem ents_ins (p : ByteArray × Value) (h : List (ByteArray × Value)) : DataW.insert (.string p.1.data.toList, .held p.2) (ents h) = ents (ins p h) := by
  induction h with
  | nil => rfl
  | cons y r ih =>
    rw [show ents (y :: r) = (Lit.string y.1.data.toList, DataW.held y.2) :: ents r from rfl, DataW.insert, ins]
    rw [show Lit.before (.string p.1.data.toList) (.string y.1.data.toList) = lt p.1 y.1 from rfl]
    split
    · rfl
    · rw [ih]; rfl
theorem ents_del (h : List (ByteArray × Value)) (n : ByteArray) : (ents h).filter (fun p => !p.1.sameKey (.string n.data.toList)) = ents (del h n) := by
  unfold ents del
  rw [List.filter_map]
  congr 1
  refine List.filter_congr fun p _ => ?_
  simp only [Function.comp]
  rw [same_iff]
theorem ents_put (h : List (ByteArray × Value)) (n : ByteArray) (v : Value) : (DataW.map (ents h)).put (.string n.data.toList) (.held v) = .map (ents (put h n v)) := by
  rw [DataW.put, ents_del, put]
  exact congrArg _ (ents_ins (n, v) _)
theorem ents_delete (h : List (ByteArray × Value)) (n : ByteArray) : (DataW.map (ents h)).del (.string n.data.toList) = .map (ents (del h n)) := by
  rw [DataW.del, ents_del]
theorem ents_at (h : List (ByteArray × Value)) (n : ByteArray) (z : DataW Value) : (DataW.map (ents h)).atKey (.string n.data.toList) z = (match find h n with | some v => .held v | none => z) := by
  induction h with
  | nil => rfl
  | cons y r ih =>
    rw [DataW.atKey] at ih ⊢
    rw [show ents (y :: r) = (Lit.string y.1.data.toList, DataW.held y.2) :: ents r from rfl, List.find?_cons, find]
    simp only [same_iff]
    by_cases hy : y.1 = n
    · simp [hy]
    · simp only [hy, decide_false, if_false]
      exact ih
theorem ents_keys (h : List (ByteArray × Value)) : strKeys (DataW.map (ents h)) = h.map fun p => p.1.data.toList := by
  simp [strKeys, ents, strOf]
theorem ents_size (h : List (ByteArray × Value)) : Maps.size (DataW.map (ents h)) = h.length := by
  simp [Maps.size, ents]

/-- Bytes, lexically: the document's order is Go's. -/
theorem before_lt : ∀ a b : List UInt8, bytesBefore a b = true ↔ a < b
  | [], [] => by simp [bytesBefore]
  | [], b :: s => by simp [bytesBefore]
  | a :: r, [] => by simp [bytesBefore]
  | a :: r, b :: s => by
    rw [List.cons_lt_cons_iff, bytesBefore, Bool.or_eq_true, Bool.and_eq_true, decide_eq_true_eq, beq_iff_eq, before_lt r s]

/-- What is sorted already is what a sort makes of it, in whatever order it came. -/
theorem sort_names {α : Type} {h : List (ByteArray × α)} (hs : Sorted h) {ss : List (List UInt8)} (hp : ss.Perm (h.map fun p => p.1.data.toList)) : ss.mergeSort (fun x y => decide (x ≤ y)) = h.map fun p => p.1.data.toList := by
  rw [show (fun x y : List UInt8 => decide (x ≤ y)) = leB from rfl, mergeSort_of_perm hp]
  refine List.mergeSort_of_pairwise ?_
  rw [List.pairwise_map]
  refine hs.imp fun {p q} hpq => ?_
  simp only [leB, decide_eq_true_eq]
  exact List.le_of_lt ((before_lt _ _).1 hpq)

/-! ### The file system -/
abbrev Files := List (ByteArray × List ByteArray)
def rows (l : Files) (n : ByteArray) : List ByteArray := (find l n).getD []
def used (l : Files) : Nat := (l.map fun p => p.2.length).sum
def names (l : Files) : List ByteArray := l.map (·.1)

theorem used_nil : used [] = 0 := rfl
theorem used_cons (p : ByteArray × List ByteArray) (l : Files) : used (p :: l) = p.2.length + used l := by simp [used]
theorem used_ins (p : ByteArray × List ByteArray) (l : Files) : used (ins p l) = used l + p.2.length := by
  induction l with
  | nil => simp [ins, used]
  | cons y r ih =>
    unfold ins
    split
    · simp only [used_cons]; omega
    · simp only [used_cons, ih]; omega
theorem used_del {l : Files} (hs : Sorted l) (n : ByteArray) : used (del l n) + (rows l n).length = used l := by
  induction l with
  | nil => rfl
  | cons p r ih =>
    obtain ⟨h1, h2⟩ := List.pairwise_cons.1 hs
    by_cases hp : p.1 = n
    · subst hp
      have hn : find r p.1 = none := find_of_none fun q hq => (lt_ne (h1 q hq)).symm
      rw [del_cons_same, del_none hn, used_cons, rows, find, if_pos rfl]
      simp only [Option.getD_some]
      omega
    · have e : rows (p :: r) n = rows r n := by rw [rows, find, if_neg hp]; rfl
      rw [del_cons_other hp, used_cons, used_cons, e]
      have := ih h2
      omega
theorem used_put {l : Files} (hs : Sorted l) (n : ByteArray) (r : List ByteArray) : used (put l n r) + (rows l n).length = used l + r.length := by
  rw [put, used_ins]
  have := used_del hs n
  simp only
  omega
theorem rows_le {l : Files} (hs : Sorted l) (n : ByteArray) : (rows l n).length ≤ used l := by
  have := used_del hs n; omega

theorem length_le_used {l : Files} (h : ∀ p ∈ l, p.2 ≠ []) : l.length ≤ used l := by
  induction l with
  | nil => simp [used]
  | cons p r ih =>
    rw [used_cons, List.length_cons]
    have h1 := h p (by simp)
    have h2 := ih (fun q hq => h q (by simp [hq]))
    have : 0 < p.2.length := List.length_pos_iff.2 h1
    omega

/-- A name is one that a file may have. -/
def isName (n : ByteArray) : Bool := decide (1 ≤ n.size) && decide (n.size ≤ 8) && n.data.toList.all fun b => decide (33 ≤ b.toNat) && decide (b.toNat ≤ 126)
def isPage (s : ByteArray) : Bool := decide (s.size = 128)
theorem isPage_iff {s : ByteArray} : isPage s = true ↔ s.size = 128 := by simp [isPage]

structure St where
  room : Nat
  ahead : Int
  fs : Files

structure Good (st : St) : Prop where
  room1 : 1 ≤ st.room
  room2 : st.room ≤ 4096
  ahead1 : -1 ≤ st.ahead
  ahead2 : st.ahead ≤ 9223372036854775807
  sorted : Sorted st.fs
  each : ∀ p ∈ st.fs, isName p.1 = true ∧ p.2 ≠ [] ∧ ∀ s ∈ p.2, s.size = 128
  used : used st.fs ≤ st.room

def set (l : Files) (n : ByteArray) (r : List ByteArray) : Files := if r = [] then del l n else put l n r

def write (st : St) (n : ByteArray) (l : List ByteArray) : Int × St :=
  if isName n = false ∨ l.all isPage = false then (2, st) else if st.room < used st.fs - (rows st.fs n).length + l.length then (61, st) else (0, { st with fs := set st.fs n l })
def putp (st : St) (n : ByteArray) (i : Int) (s : ByteArray) : Int × St :=
  if isName n = false ∨ i < 0 ∨ (rows st.fs n).length < i ∨ isPage s = false then (2, st)
  else if i < (rows st.fs n).length then (0, { st with fs := put st.fs n ((rows st.fs n).set i.toNat s) })
  else if st.room ≤ used st.fs then (61, st) else (0, { st with fs := put st.fs n (rows st.fs n ++ [s]) })
def has (st : St) (n : ByteArray) (i : Int) : Bool := decide (0 ≤ i) && decide (i < (rows st.fs n).length)
def page (st : St) (n : ByteArray) (i : Int) : ByteArray := (rows st.fs n).getD i.toNat ByteArray.empty
def read (st : St) (n : ByteArray) (i : Int) : ByteArray × Int × St :=
  if has st n i = false then (ByteArray.empty, 4, st) else if st.ahead = 0 then (ByteArray.empty, 60, { st with ahead := -1 }) else (page st n i, 0, { st with ahead := if 0 < st.ahead then st.ahead - 1 else st.ahead })
def remove (st : St) (n : ByteArray) : Int × St := if rows st.fs n = [] then (4, st) else (0, { st with fs := del st.fs n })
def fail (st : St) (k : Int) : Int × St := if k < 0 then (2, st) else (0, { st with ahead := k })
/-- A text of which one byte is put against x. -/
def turn (s : ByteArray) (at_ : Nat) (x : UInt8) : ByteArray := ⟨(s.data.toList.set at_ (s.data.toList.getD at_ 0 ^^^ x)).toArray⟩
theorem turn_size (s : ByteArray) (k : Nat) (x : UInt8) : (turn s k x).size = s.size := by
  show (s.data.toList.set k _).toArray.size = s.data.size
  simp
def flip (st : St) (n : ByteArray) (i k : Int) (x : UInt8) : Int × St :=
  if has st n i = false then (4, st) else if k < 0 ∨ 128 ≤ k then (2, st) else (0, { st with fs := put st.fs n ((rows st.fs n).set i.toNat (turn (page st n i) k.toNat x)) })

theorem has_iff {st : St} {n : ByteArray} {i : Int} : has st n i = true ↔ 0 ≤ i ∧ i < (rows st.fs n).length := by simp [has]

/-! ### What stays so -/
theorem find_rows {l : Files} (h : ∀ p ∈ l, p.2 ≠ []) (n : ByteArray) : (find l n = none ∧ rows l n = []) ∨ (find l n = some (rows l n) ∧ rows l n ≠ [] ∧ (n, rows l n) ∈ l) := by
  cases hf : find l n with
  | none => exact .inl ⟨rfl, by rw [rows, hf]; rfl⟩
  | some r =>
    have hr : rows l n = r := by rw [rows, hf]; rfl
    rw [hr]
    exact .inr ⟨rfl, h _ (find_mem hf), find_mem hf⟩

theorem Good.rows_each {st : St} (g : Good st) (n : ByteArray) : rows st.fs n = [] ∨ (isName n = true ∧ find st.fs n = some (rows st.fs n) ∧ ∀ s ∈ rows st.fs n, s.size = 128) := by
  rcases find_rows (fun p hp => (g.each p hp).2.1) n with ⟨_, h⟩ | ⟨h1, _, h2⟩
  · exact .inl h
  · exact .inr ⟨(g.each _ h2).1, h1, (g.each _ h2).2.2⟩
theorem Good.rows_le {st : St} (g : Good st) (n : ByteArray) : (rows st.fs n).length ≤ st.room := Nat.le_trans (Fi.rows_le g.sorted n) g.used
theorem Good.count {st : St} (g : Good st) : st.fs.length ≤ st.room := Nat.le_trans (length_le_used fun p hp => (g.each p hp).2.1) g.used

theorem good_put {st : St} (g : Good st) {n : ByteArray} {r : List ByteArray} (hn : isName n = true) (hr : r ≠ []) (hp : ∀ s ∈ r, s.size = 128) (hu : used st.fs + r.length ≤ st.room + (rows st.fs n).length) : Good { st with fs := put st.fs n r } where
  room1 := g.room1
  room2 := g.room2
  ahead1 := g.ahead1
  ahead2 := g.ahead2
  sorted := sorted_put g.sorted _ _
  each := fun p hp' => by
    rcases mem_put.1 hp' with rfl | ⟨h, _⟩
    · exact ⟨hn, hr, hp⟩
    · exact g.each p h
  used := by
    have := used_put g.sorted n r
    simp only
    omega
theorem good_del {st : St} (g : Good st) (n : ByteArray) : Good { st with fs := del st.fs n } where
  room1 := g.room1
  room2 := g.room2
  ahead1 := g.ahead1
  ahead2 := g.ahead2
  sorted := sorted_del g.sorted _
  each := fun p hp' => g.each p (mem_del.1 hp').1
  used := by
    have := used_del g.sorted n
    have := g.used
    simp only
    omega
theorem good_ahead {st : St} (g : Good st) {k : Int} (h1 : -1 ≤ k) (h2 : k ≤ 9223372036854775807) : Good { st with ahead := k } :=
  ⟨g.room1, g.room2, h1, h2, g.sorted, g.each, g.used⟩
theorem good_new {room : Nat} (h1 : 1 ≤ room) (h2 : room ≤ 4096) : Good ⟨room, -1, []⟩ :=
  ⟨h1, h2, Int.le_refl _, (by decide : (-1 : Int) ≤ 9223372036854775807), List.Pairwise.nil, fun p hp => by simp at hp, Nat.zero_le _⟩

end Fi
end Go.Proofs.Ytnlhgcpmmcmknaa
