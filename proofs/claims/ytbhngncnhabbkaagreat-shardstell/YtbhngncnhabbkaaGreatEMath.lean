/- Edges as pairs of ints, in plain words: which comes first, a list put in order, each once, turned about; how many begin and end at each vertex. -/
import Derived.Test.YtbhngncnhabbkaaGreatHRead
import Derived.Test.YtbhngncnhabbkaaGreatRows
import Derived.WalkKit
import Derived.Below
import Derived.Sort.LotA
import Derived.Lib.SlicesCompact
namespace Go.Proofs.YtbhngncnhabbkaaGreat
open Go.Sort Go.Lib

namespace Ed
/-- Does x come ahead of y? -/
def lt (x y : Int × Int) : Bool := decide (x.1 < y.1) || (decide (x.1 = y.1) && decide (x.2 < y.2))
theorem lt_iff (x y : Int × Int) : lt x y = true ↔ (x.1 < y.1 ∨ x.1 = y.1 ∧ x.2 < y.2) := by simp [lt]
theorem lt_no (x y : Int × Int) : lt x y = false ↔ ¬ (x.1 < y.1 ∨ x.1 = y.1 ∧ x.2 < y.2) := by
  rw [← lt_iff]; simp
theorem lt_irr (x : Int × Int) : lt x x = false := by rw [lt_no]; omega
theorem lt_trans {x y z : Int × Int} (h : lt x y = true) (k : lt y z = true) : lt x z = true := by
  rw [lt_iff] at *; omega
theorem lt_ntrans {x y z : Int × Int} (h : lt x y = false) (k : lt y z = false) : lt x z = false := by
  rw [lt_no] at *; omega
theorem lt_tri {x y : Int × Int} (h : lt x y = false) (k : lt y x = false) : x = y := by
  rw [lt_no] at *
  apply Prod.ext <;> omega
theorem lt_asym {x y : Int × Int} (h : lt x y = true) : lt y x = false := by
  rw [lt_no]; rw [lt_iff] at h; omega

/-- x where it is to stand. -/
def ins (x : Int × Int) : List (Int × Int) → List (Int × Int)
  | [] => [x]
  | y :: l => if lt x y then x :: y :: l else y :: ins x l

/-- In order, edges twice or not. -/
def Up (l : List (Int × Int)) : Prop := l.Pairwise fun a b => lt b a = false
/-- In order, each once. -/
def Rising (l : List (Int × Int)) : Prop := l.Pairwise fun a b => lt a b = true

theorem Rising.up {l : List (Int × Int)} (h : Rising l) : Up l := h.imp fun h => lt_asym h

theorem ins_perm (x : Int × Int) : ∀ l, (ins x l).Perm (x :: l)
  | [] => List.Perm.refl _
  | y :: l => by
    unfold ins
    by_cases h : lt x y = true
    · rw [if_pos h]
    · rw [if_neg h]
      exact ((ins_perm x l).cons y).trans (List.Perm.swap x y l)
theorem mem_ins {x y : Int × Int} {l : List (Int × Int)} : y ∈ ins x l ↔ y = x ∨ y ∈ l := by
  rw [(ins_perm x l).mem_iff, List.mem_cons]
theorem ins_len (x : Int × Int) (l : List (Int × Int)) : (ins x l).length = l.length + 1 := by
  rw [(ins_perm x l).length_eq, List.length_cons]

theorem ins_up {x : Int × Int} : ∀ {l}, Up l → Up (ins x l)
  | [], _ => List.pairwise_singleton _ _
  | y :: l, h => by
    unfold ins
    obtain ⟨h1, h2⟩ := List.pairwise_cons.1 h
    by_cases hx : lt x y = true
    · rw [if_pos hx]
      refine List.pairwise_cons.2 ⟨fun z hz => ?_, h⟩
      rcases List.mem_cons.1 hz with rfl | hz
      · exact lt_asym hx
      · have := h1 z hz
        exact lt_ntrans this (lt_asym hx)
    · rw [if_neg hx]
      refine List.pairwise_cons.2 ⟨fun z hz => ?_, ins_up h2⟩
      rcases mem_ins.1 hz with rfl | hz
      · simpa using hx
      · exact h1 z hz

theorem ins_rising {x : Int × Int} {l : List (Int × Int)} (h : Rising l) (hx : x ∉ l) : Rising (ins x l) := by
  induction l with
  | nil => exact List.pairwise_singleton _ _
  | cons y l ih =>
    unfold ins
    obtain ⟨h1, h2⟩ := List.pairwise_cons.1 h
    by_cases hy : lt x y = true
    · rw [if_pos hy]
      refine List.pairwise_cons.2 ⟨fun z hz => ?_, h⟩
      rcases List.mem_cons.1 hz with rfl | hz
      · exact hy
      · exact lt_trans hy (h1 z hz)
    · rw [if_neg hy]
      refine List.pairwise_cons.2 ⟨fun z hz => ?_, ih h2 fun h => hx (List.mem_cons_of_mem _ h)⟩
      rcases mem_ins.1 hz with rfl | hz
      · cases hyz : lt y z with
        | true => rfl
        | false => exact absurd (lt_tri hyz (by simpa using hy)).symm (fun e => hx (by rw [e]; exact List.mem_cons_self))
      · exact h1 z hz

/-- Put in order. -/
def srt (l : List (Int × Int)) : List (Int × Int) := l.foldl (fun a x => ins x a) []
/-- Put in order, each once. -/
def nrm (l : List (Int × Int)) : List (Int × Int) := l.foldl (fun a x => if a.contains x then a else ins x a) []

theorem srt_snoc (l : List (Int × Int)) (x : Int × Int) : srt (l ++ [x]) = ins x (srt l) := by simp [srt]
theorem nrm_snoc (l : List (Int × Int)) (x : Int × Int) : nrm (l ++ [x]) = if (nrm l).contains x then nrm l else ins x (nrm l) := by simp [nrm]

theorem fold_srt : ∀ (l a : List (Int × Int)), Up a → Up (l.foldl (fun a x => ins x a) a) ∧ (l.foldl (fun a x => ins x a) a).Perm (a ++ l)
  | [], a, h => ⟨h, by simp⟩
  | x :: l, a, h => by
    obtain ⟨h1, h2⟩ := fold_srt l (ins x a) (ins_up h)
    refine ⟨h1, h2.trans ?_⟩
    exact ((ins_perm x a).append_right l).trans List.perm_middle.symm
theorem srt_up (l : List (Int × Int)) : Up (srt l) := (fold_srt l [] List.Pairwise.nil).1
theorem srt_perm (l : List (Int × Int)) : (srt l).Perm l := (fold_srt l [] List.Pairwise.nil).2
theorem srt_len (l : List (Int × Int)) : (srt l).length = l.length := (srt_perm l).length_eq

theorem fold_nrm : ∀ (l a : List (Int × Int)), Rising a → Rising (l.foldl (fun a x => if a.contains x then a else ins x a) a) ∧ ∀ y, y ∈ l.foldl (fun a x => if a.contains x then a else ins x a) a ↔ y ∈ a ∨ y ∈ l
  | [], a, h => by simpa using h
  | x :: l, a, h => by
    rw [List.foldl_cons]
    by_cases hx : a.contains x = true
    · rw [if_pos hx]
      obtain ⟨h1, h2⟩ := fold_nrm l a h
      refine ⟨h1, fun y => ?_⟩
      rw [h2, List.mem_cons]
      have hm : x ∈ a := by simpa using hx
      constructor
      · rintro (h | h)
        · exact .inl h
        · exact .inr (.inr h)
      · rintro (h | rfl | h)
        · exact .inl h
        · exact .inl hm
        · exact .inr h
    · rw [if_neg hx]
      obtain ⟨h1, h2⟩ := fold_nrm l (ins x a) (ins_rising h (by simpa using hx))
      refine ⟨h1, fun y => ?_⟩
      rw [h2, mem_ins, List.mem_cons]
      constructor
      · rintro ((h | h) | h)
        · exact .inr (.inl h)
        · exact .inl h
        · exact .inr (.inr h)
      · rintro (h | h | h)
        · exact .inl (.inr h)
        · exact .inl (.inl h)
        · exact .inr h
theorem nrm_rising (l : List (Int × Int)) : Rising (nrm l) := (fold_nrm l [] List.Pairwise.nil).1
theorem mem_nrm (l : List (Int × Int)) (y : Int × Int) : y ∈ nrm l ↔ y ∈ l := by
  rw [nrm, (fold_nrm l [] List.Pairwise.nil).2]; simp

/-- One list in order, each once, has given edges. -/
theorem rising_unique : ∀ {a b : List (Int × Int)}, Rising a → Rising b → (∀ x, x ∈ a ↔ x ∈ b) → a = b
  | [], [], _, _, _ => rfl
  | [], y :: b, _, _, h => by have := (h y).2 List.mem_cons_self; simp at this
  | x :: a, [], _, _, h => by have := (h x).1 List.mem_cons_self; simp at this
  | x :: a, y :: b, ha, hb, h => by
    obtain ⟨a1, a2⟩ := List.pairwise_cons.1 ha
    obtain ⟨b1, b2⟩ := List.pairwise_cons.1 hb
    have e : x = y := by
      rcases List.mem_cons.1 ((h x).1 List.mem_cons_self) with e | hx
      · exact e
      · rcases List.mem_cons.1 ((h y).2 List.mem_cons_self) with e | hy
        · exact e.symm
        · have p := b1 x hx
          have q := a1 y hy
          have := lt_asym p
          rw [q] at this; cases this
    subst e
    have hin : ∀ l : List (Int × Int), (∀ z ∈ l, lt x z = true) → x ∉ l := fun l hl hx => by have := hl x hx; rw [lt_irr] at this; cases this
    have na := hin a a1
    have nb := hin b b1
    rw [rising_unique a2 b2 fun z => ?_]
    have hz := h z
    rw [List.mem_cons, List.mem_cons] at hz
    constructor
    · intro hza
      rcases hz.1 (.inr hza) with rfl | h
      · exact absurd hza na
      · exact h
    · intro hzb
      rcases hz.2 (.inr hzb) with rfl | h
      · exact absurd hzb nb
      · exact h

/-- One list in order has given edges, each as often. -/
theorem up_unique {a b : List (Int × Int)} (ha : Up a) (hb : Up b) (h : a.Perm b) : a = b :=
  h.eq_of_pairwise (le := fun a b => lt b a = false) (fun _ _ _ _ h1 h2 => lt_tri h2 h1) ha hb

theorem srt_of {a l : List (Int × Int)} (ha : Up a) (h : a.Perm l) : a = srt l := up_unique ha (srt_up l) (h.trans (srt_perm l).symm)
theorem nrm_of {a l : List (Int × Int)} (ha : Rising a) (h : ∀ x, x ∈ a ↔ x ∈ l) : a = nrm l := rising_unique ha (nrm_rising l) fun x => (h x).trans (mem_nrm l x).symm
theorem nrm_same {l m : List (Int × Int)} (h : ∀ x, x ∈ l ↔ x ∈ m) : nrm l = nrm m := nrm_of (nrm_rising l) fun x => (mem_nrm l x).trans (h x)
theorem nrm_self {l : List (Int × Int)} (h : Rising l) : nrm l = l := (nrm_of h fun _ => Iff.rfl).symm
theorem srt_self {l : List (Int × Int)} (h : Up l) : srt l = l := (srt_of h (List.Perm.refl _)).symm

/-- What the library's sort leaves. -/
theorem sorted_srt {d d' : Array (Int × Int)} (hp : PermIn 0 d.size d d') (hs : SortedIn lt 0 d.size d') : d'.toList = srt d.toList := by
  obtain ⟨h1, _, h3⟩ := hp
  refine srt_of ?_ ?_
  · unfold Up
    rw [List.pairwise_iff_getElem]
    intro i j hi hj hij
    have := hs i j (Nat.zero_le _) hij (by simpa [h1] using hj)
    have hj' : j < d'.size := by simpa using hj
    have hi' : i < d'.size := by simpa using hi
    rw [getElem!_pos d' j hj', getElem!_pos d' i hi'] at this
    simpa using this
  · have e1 : d'.extract 0 d.size = d' := by rw [← h1]; simp
    have e2 : d.extract 0 d.size = d := by simp
    rwa [e1, e2] at h3

/-- What is left of a list in order when neighbours that are alike are one. -/
theorem compact_nrm (d : Array (Int × Int)) (hu : Up d.toList) : compactUpTo d d.size = nrm d.toList := by
  have hle : ∀ i j, i ≤ j → j < d.size → lt d[j]! d[i]! = false := by
    intro i j hij hj
    rcases Nat.lt_or_eq_of_le hij with h | rfl
    · unfold Up at hu
      rw [List.pairwise_iff_getElem] at hu
      have := hu i j (by simp; omega) (by simpa using hj) h
      rw [getElem!_pos d j hj, getElem!_pos d i (by omega)]
      simpa using this
    · exact lt_irr _
  refine nrm_of ?_ ?_
  · unfold compactUpTo Rising
    rw [List.pairwise_map]
    refine List.Pairwise.imp_of_mem ?_ ((List.pairwise_lt_range (n := d.size)).filter (keeps d))
    intro i j hi hj hij
    have hjm := List.mem_filter.1 hj
    have hjd := List.mem_range.1 hjm.1
    have hk : d[j]! ≠ d[j - 1]! := by
      have := hjm.2
      simp only [keeps, decide_eq_true_eq] at this
      rcases this with rfl | h
      · omega
      · exact h
    cases hc : lt d[i]! d[j]! with
    | true => rfl
    | false =>
      exfalso
      have p := hle i (j - 1) (by omega) (by omega)
      have q := hle (j - 1) j (by omega) hjd
      have hij' := hle i j (by omega) hjd
      have e1 : d[i]! = d[j]! := lt_tri hc hij'
      rw [e1] at p
      exact hk (lt_tri q p)
  · intro x
    unfold compactUpTo
    rw [List.mem_map]
    constructor
    · rintro ⟨j, hj, rfl⟩
      have hjd := List.mem_range.1 (List.mem_filter.1 hj).1
      rw [getElem!_pos d j hjd]
      simp
    · intro hx
      obtain ⟨j, hj, rfl⟩ := List.getElem_of_mem hx
      have hjd : j < d.size := by simpa using hj
      have ex : ∀ m, m < d.size → ∃ i, i ∈ (List.range d.size).filter (keeps d) ∧ d[i]! = d[m]! := by
        intro m
        induction m with
        | zero => intro h; exact ⟨0, List.mem_filter.2 ⟨List.mem_range.2 h, by simp [keeps]⟩, rfl⟩
        | succ m ih =>
          intro h
          by_cases e : d[m + 1]! = d[m]!
          · obtain ⟨i, hi, he⟩ := ih (by omega)
            exact ⟨i, hi, he.trans e.symm⟩
          · exact ⟨m + 1, List.mem_filter.2 ⟨List.mem_range.2 h, by simp only [keeps, decide_eq_true_eq]; right; simpa using e⟩, rfl⟩
      obtain ⟨i, hi, he⟩ := ex j hjd
      refine ⟨i, hi, he.trans ?_⟩
      rw [getElem!_pos d j hjd]
      simp

theorem nrm_srt (l : List (Int × Int)) : nrm (srt l) = nrm l := nrm_same fun _ => (srt_perm l).mem_iff
theorem nrm_len (l : List (Int × Int)) : (nrm l).length ≤ l.length := by
  have H : ∀ (l a : List (Int × Int)), (l.foldl (fun a x => if a.contains x then a else ins x a) a).length ≤ a.length + l.length := by
    intro l
    induction l with
    | nil => intro a; simp
    | cons x l ih =>
      intro a
      rw [List.foldl_cons, List.length_cons]
      by_cases h : a.contains x = true
      · rw [if_pos h]
        exact Nat.le_trans (ih a) (by omega)
      · rw [if_neg h]
        have := ih (ins x a)
        rw [ins_len] at this
        exact Nat.le_trans this (by omega)
  simpa [nrm] using H l []

/-- May there be so many vertices? -/
def many (n : Int) : Bool := decide (1 ≤ n) && decide (n ≤ 256)
/-- Is v one of n vertices? -/
def vert (n v : Int) : Bool := decide (0 ≤ v) && decide (v < n)
/-- May an edge not be? -/
def bad (n : Int) (x : Int × Int) : Bool := !vert n x.1 || (!vert n x.2 || decide (x.1 = x.2))
/-- The normal list, and the error. -/
def nor (n : Int) (l : List (Int × Int)) : List (Int × Int) × Int :=
  if many n = false then ([], 2) else if l.any (bad n) then ([], 2) else if 4096 < (nrm l).length then ([], 3) else (nrm l, 0)
/-- Where the edges lead that begin at v. -/
def outs (l : List (Int × Int)) (v : Int) : List Int := (l.filter fun x => decide (x.1 = v)).map (·.2)
def swap (x : Int × Int) : Int × Int := (x.2, x.1)
/-- The edges the other way about. -/
def rev (l : List (Int × Int)) : List (Int × Int) := srt (l.map swap)
/-- How many begin, and how many end, at v. -/
def cnt (l : List Int) (v : Int) : Int := ((l.filter fun x => decide (x = v)).length : Nat)
def degs (n : Int) (l : List Int) : List Int := if many n then (List.range n.toNat).map fun v : Nat => cnt l (v : Int) else []

end Ed
end Go.Proofs.YtbhngncnhabbkaaGreat
