/- Graphs in plain words: which ones may be, their bytes; what stands in bytes, read; no two have the same, none begins another one's; bytes of one that are turned over, cut off, or longer, are none. -/
import Derived.Test.YtmekaofjcjmklaaARef2
namespace Go.Proofs.Ytmekaofjcjmklaa
namespace Mf

/-- How many vertices and edges, and the parts. -/
abbrev Graph := (Int × Int) × List (Int × Int)
/-- The graph of nothing. -/
def none_ : Graph := ((0, 0), [])
/-- May a graph have n edges? -/
def okE (n : Int) : Bool := decide (0 ≤ n) && decide (n ≤ 4096)
/-- What Check tells. -/
def chk (g : Graph) : Int := if okE g.1.2 = true then Pt.chk g.1.1 g.2 else 2
/-- Where parts end. -/
def ends (l : List (Int × Int)) : List Int := l.map (·.2)
/-- Its bytes ahead of the sum. -/
def raw (g : Graph) : List UInt8 := [99, 97, 114] ++ (Vi.putL g.1.1 ++ (Vi.putL g.1.2 ++ Gp.enc (ends g.2)))
/-- Bytes and their sum. -/
def sealB (b : List UInt8) : List UInt8 := b ++ Cr.four (Cr.sum b)
def enc (g : Graph) : List UInt8 := sealB (raw g)
/-- What Encode tells. -/
def encS (g : Graph) : List UInt8 := if chk g = 0 then enc g else []
/-- The parts that end so, from a on. -/
def fro : Int → List Int → List (Int × Int)
  | _, [] => []
  | a, n :: r => (a, n) :: fro n r
/-- The graph whose numbers stand behind the letters. -/
def read (s : List UInt8) : Option Graph :=
  if (Vi.getS s 3).2.2 = true then
    if (Vi.getS s (Vi.getS s 3).2.1).2.2 = true then
      (Gp.dec s (Vi.getS s (Vi.getS s 3).2.1).2.1).map fun d => (((Vi.getS s 3).1, (Vi.getS s (Vi.getS s 3).2.1).1), fro 0 d.1)
    else none
  else none
/-- The graph that has these bytes. -/
def dec (s : List UInt8) : Option Graph := (read s).bind fun g => if chk g = 0 ∧ enc g = s then some g else none
def decE (s : List UInt8) : Int := if (dec s).isSome = true then 0 else 10
def decS (s : List UInt8) : Graph := (dec s).getD none_

theorem pchk_cases (n : Int) (l : List (Int × Int)) : Pt.chk n l = 0 ∨ Pt.chk n l = 2 := by
  unfold Pt.chk; split
  · exact .inl rfl
  · exact .inr rfl
theorem chk_cases (g : Graph) : chk g = 0 ∨ chk g = 2 := by
  unfold chk; split
  · exact pchk_cases _ _
  · exact .inr rfl
theorem chk_iff {g : Graph} : chk g = 0 ↔ (0 ≤ g.1.2 ∧ g.1.2 ≤ 4096) ∧ (1 ≤ g.1.1 ∧ g.1.1 ≤ 256) ∧ g.2.length ≤ 16 ∧ Pt.run 0 g.2 = some g.1.1 := by
  have h1 : okE g.1.2 = true ↔ 0 ≤ g.1.2 ∧ g.1.2 ≤ 4096 := by simp [okE]
  have h2 : Pt.many g.1.1 = true ↔ 1 ≤ g.1.1 ∧ g.1.1 ≤ 256 := by simp [Pt.many]
  unfold chk Pt.chk
  rw [← h1, ← h2]
  by_cases a : okE g.1.2 = true
  · rw [if_pos a]
    by_cases b : Pt.many g.1.1 = true ∧ g.2.length ≤ 16 ∧ Pt.run 0 g.2 = some g.1.1
    · rw [if_pos b]; exact ⟨fun _ => ⟨a, b⟩, fun _ => rfl⟩
    · rw [if_neg b]; exact ⟨(fun h => by cases h), fun h => absurd h.2 b⟩
  · rw [if_neg a]; exact ⟨(fun h => by cases h), fun h => absurd h.1 a⟩

theorem run_up : ∀ {l : List (Int × Int)} {e n a : Int}, Pt.run e l = some n → a ≤ e → Gp.up a (ends l) = true ∧ (∀ z ∈ ends l, e < z ∧ z ≤ n) ∧ e ≤ n
  | [], e, n, a, h, _ => by
    simp only [Pt.run, Option.some.injEq] at h
    exact ⟨rfl, fun z hz => by simp [ends] at hz, by omega⟩
  | x :: l, e, n, a, h, ha => by
    unfold Pt.run at h
    by_cases c : x.1 = e ∧ x.1 < x.2
    · rw [if_pos c] at h
      obtain ⟨h1, h2, h3⟩ := run_up (a := x.2) h (Int.le_refl _)
      refine ⟨?_, ?_, by omega⟩
      · show (decide (a < x.2) && Gp.up x.2 (ends l)) = true
        rw [h1]; simp; omega
      · intro z hz
        rcases List.mem_cons.1 (show z ∈ x.2 :: ends l from hz) with rfl | hz
        · omega
        · have := h2 z hz; omega
    · rw [if_neg c] at h; cases h
theorem run_fro : ∀ {l : List (Int × Int)} {e n : Int}, Pt.run e l = some n → fro e (ends l) = l
  | [], _, _, _ => rfl
  | x :: l, e, n, h => by
    unfold Pt.run at h
    by_cases c : x.1 = e ∧ x.1 < x.2
    · rw [if_pos c] at h
      show (e, x.2) :: fro x.2 (ends l) = x :: l
      rw [run_fro h, ← c.1]
    · rw [if_neg c] at h; cases h
theorem ends_fro : ∀ (a : Int) (l : List Int), ends (fro a l) = l
  | _, [] => rfl
  | a, n :: r => by
    show n :: ends (fro n r) = n :: r
    rw [ends_fro]
theorem fro_len : ∀ (a : Int) (l : List Int), (fro a l).length = l.length
  | _, [] => rfl
  | a, n :: r => by simp [fro, fro_len]
theorem ends_len (l : List (Int × Int)) : (ends l).length = l.length := by simp [ends]
/-- All that is wanted of the ends of a graph that may be. -/
theorem chk_ends {g : Graph} (h : chk g = 0) : Gp.up (-1) (ends g.2) = true ∧ Gp.Fit (ends g.2) ∧ (ends g.2).length ≤ 16 ∧ fro 0 (ends g.2) = g.2 ∧ ∀ z ∈ ends g.2, 0 < z ∧ z ≤ 256 := by
  obtain ⟨_, h2, h3, h4⟩ := chk_iff.1 h
  obtain ⟨h5, h6, _⟩ := run_up (a := -1) h4 (by omega)
  refine ⟨h5, fun z hz => ?_, by rw [ends_len]; exact h3, run_fro h4, fun z hz => ?_⟩
  · have := h6 z hz; omega
  · have := h6 z hz; omega

theorem read_raw {g : Graph} (h : chk g = 0) (q : List UInt8) : read (raw g ++ q) = some g := by
  obtain ⟨⟨e1, e2⟩, ⟨v1, v2⟩, _, _⟩ := chk_iff.1 h
  obtain ⟨u1, u2, u3, u4, _⟩ := chk_ends h
  have g1 := Gp.getS_put [99, 97, 114] (Vi.putL g.1.2 ++ (Gp.enc (ends g.2) ++ q)) g.1.1 (by omega) (by omega)
  have g2 := Gp.getS_put ([99, 97, 114] ++ Vi.putL g.1.1) (Gp.enc (ends g.2) ++ q) g.1.2 (by omega) (by omega)
  have g3 := Gp.dec_enc ([99, 97, 114] ++ (Vi.putL g.1.1 ++ Vi.putL g.1.2)) q (ends g.2) u1 u2 (by omega)
  have s1 : raw g ++ q = [99, 97, 114] ++ (Vi.putL g.1.1 ++ (Vi.putL g.1.2 ++ (Gp.enc (ends g.2) ++ q))) := by simp [raw]
  have s2 : raw g ++ q = [99, 97, 114] ++ Vi.putL g.1.1 ++ (Vi.putL g.1.2 ++ (Gp.enc (ends g.2) ++ q)) := by simp [raw]
  have s3 : raw g ++ q = [99, 97, 114] ++ (Vi.putL g.1.1 ++ Vi.putL g.1.2) ++ (Gp.enc (ends g.2) ++ q) := by simp [raw]
  rw [← s1] at g1
  rw [← s2] at g2
  rw [← s3] at g3
  have l1 : ((([99, 97, 114] : List UInt8).length : Nat) : Int) = 3 := rfl
  have l2 : ((([99, 97, 114] ++ Vi.putL g.1.1 : List UInt8).length : Nat) : Int) = 3 + ((Vi.putL g.1.1).length : Int) := by simp; omega
  have l3 : ((([99, 97, 114] ++ (Vi.putL g.1.1 ++ Vi.putL g.1.2) : List UInt8).length : Nat) : Int) = 3 + ((Vi.putL g.1.1).length : Int) + ((Vi.putL g.1.2).length : Int) := by simp; omega
  rw [l1] at g1
  rw [l2] at g2
  rw [l3] at g3
  unfold read
  rw [g1]
  dsimp only
  rw [g2]
  dsimp only
  rw [if_pos rfl, if_pos rfl, g3]
  simp [u4]
theorem read_enc {g : Graph} (h : chk g = 0) (q : List UInt8) : read (enc g ++ q) = some g := by
  unfold enc sealB
  rw [List.append_assoc]
  exact read_raw h _
theorem sealed_pre {s t : Graph} {x y : List UInt8} (hs : chk s = 0) (ht : chk t = 0) (h : enc s ++ x = enc t ++ y) : s = t ∧ x = y := by
  have h1 := read_enc hs x
  rw [h, read_enc ht y] at h1
  have e : s = t := (Option.some.inj h1).symm
  subst e
  exact ⟨rfl, List.append_cancel_left h⟩
theorem enc_inj {s t : Graph} (hs : chk s = 0) (ht : chk t = 0) (h : enc s = enc t) : s = t := (sealed_pre (x := []) (y := []) hs ht (by rw [h])).1
theorem dec_some {s : List UInt8} {g : Graph} (h : dec s = some g) : chk g = 0 ∧ enc g = s := by
  unfold dec at h
  obtain ⟨g', _, h2⟩ := Option.bind_eq_some_iff.1 h
  by_cases c : chk g' = 0 ∧ enc g' = s
  · rw [if_pos c] at h2
    obtain rfl := Option.some.inj h2
    exact c
  · rw [if_neg c] at h2; cases h2
theorem dec_enc {g : Graph} (h : chk g = 0) : dec (enc g) = some g := by
  have := read_enc h []
  rw [List.append_nil] at this
  unfold dec
  rw [this]
  show (if chk g = 0 ∧ enc g = enc g then some g else none) = some g
  rw [if_pos ⟨h, rfl⟩]
theorem dec_no {s : List UInt8} (h : ∀ g, chk g = 0 → enc g ≠ s) : dec s = none := by
  cases hd : dec s with
  | none => rfl
  | some g => obtain ⟨h1, h2⟩ := dec_some hd; exact absurd h2 (h g h1)
theorem dec_read {s : List UInt8} {g : Graph} (h : read s = some g) : dec s = if chk g = 0 ∧ enc g = s then some g else none := by
  unfold dec; rw [h]; rfl
theorem dec_unread {s : List UInt8} (h : read s = none) : dec s = none := by
  unfold dec; rw [h]; rfl
theorem told_no {s : List UInt8} (h : dec s = none) : decE s = 10 ∧ decS s = none_ := by
  unfold decE decS; rw [h]; exact ⟨rfl, rfl⟩
theorem told_yes {s : List UInt8} {g : Graph} (h : dec s = some g) : decE s = 0 ∧ decS s = g := by
  unfold decE decS; rw [h]; exact ⟨rfl, rfl⟩
theorem encS_no {g : Graph} (h : chk g = 2) : encS g = [] := by unfold encS; rw [if_neg (by omega)]
theorem encS_yes {g : Graph} (h : chk g = 0) : encS g = enc g := by unfold encS; rw [if_pos h]

theorem four_len (n : Nat) : (Cr.four n).length = 4 := rfl
theorem putL_len (n : Int) : (Vi.putL n).length ≤ 10 := by
  unfold Vi.putL
  split
  · simp
  · exact (Vi.enc_len _).2
theorem flat_len (l : List Int) : (l.flatMap Vi.putL).length ≤ l.length * 10 := by
  induction l with
  | nil => simp
  | cons n r ih =>
    rw [List.flatMap_cons, List.length_append, List.length_cons]
    have := putL_len n
    omega
theorem gs_len : ∀ (a : Int) (l : List Int), (Gp.gs a l).length = l.length
  | _, [] => rfl
  | a, n :: r => by simp [Gp.gs, gs_len]
theorem encl_len (l : List Int) : (Gp.enc l).length ≤ 10 + l.length * 10 := by
  unfold Gp.enc Gp.body
  rw [List.length_append]
  have h1 := putL_len l.length
  have h2 := flat_len (Gp.gs (-1) l)
  rw [gs_len] at h2
  omega
theorem enc_len (g : Graph) : 7 ≤ (enc g).length ∧ (enc g).length = (raw g).length + 4 := by
  unfold enc sealB
  rw [List.length_append, four_len]
  unfold raw
  simp
theorem raw_size (g : Graph) : (raw g).length ≤ 33 + g.2.length * 10 := by
  have h1 := putL_len g.1.1
  have h2 := putL_len g.1.2
  have h3 := encl_len (ends g.2)
  rw [ends_len] at h3
  unfold raw
  simp only [List.length_cons, List.length_append, List.length_nil]
  omega
theorem enc_size {g : Graph} (h : chk g = 0) : (enc g).length ≤ 200 := by
  obtain ⟨_, _, h3, _⟩ := chk_iff.1 h
  have := raw_size g
  have := (enc_len g).2
  omega
theorem cut {s t : Graph} {k : Nat} (hs : chk s = 0) (ht : chk t = 0) (hk : k < (enc s).length) : enc t ≠ (enc s).take k := by
  intro h
  have e : enc s ++ [] = enc t ++ (enc s).drop k := by rw [h, List.append_nil, List.take_append_drop]
  obtain ⟨rfl, _⟩ := sealed_pre hs ht e
  have := congrArg List.length h
  rw [List.length_take] at this
  omega
theorem more {s t : Graph} {b : UInt8} {r : List UInt8} (hs : chk s = 0) (ht : chk t = 0) : enc t ≠ enc s ++ b :: r := by
  intro h
  have e : enc t ++ [] = enc s ++ b :: r := by rw [List.append_nil, h]
  cases (sealed_pre ht hs e).2
theorem seal_sum (b : List UInt8) : Cr.sum (sealB b) = 558161692 := by
  have := (Cr.sum_sealed b 0 (by decide)).2 rfl
  rwa [Nat.xor_zero] at this
/-- Bits within four bytes, turned over. -/
theorem turned {s t : Graph} {p m q : List UInt8} {n : Nat} (h : enc s = p ++ m ++ q) (hm : m.length = 4) (hn : n < 4294967296) (h0 : n ≠ 0) : enc t ≠ p ++ Cr.put m (Cr.four n) ++ q := by
  intro ht
  have h1 := seal_sum (raw t)
  have h2 := seal_sum (raw s)
  rw [show sealB (raw t) = enc t from rfl, ht] at h1
  rw [show sealB (raw s) = enc s from rfl, h] at h2
  exact h0 ((Cr.sum_near p m q n hm hn).1 (h1.trans h2.symm))

/-! What a reader finds, step by step. -/
theorem read_first {s : List UInt8} {n x : Int} (h : Vi.getS s 3 = (n, x, false)) : read s = none := by
  unfold read; rw [h]; rfl
theorem read_second {s : List UInt8} {n x m y : Int} (h : Vi.getS s 3 = (n, x, true)) (h2 : Vi.getS s x = (m, y, false)) : read s = none := by
  unfold read; rw [h]; dsimp only; rw [h2]; rfl
theorem read_ends {s : List UInt8} {n x m y : Int} (h : Vi.getS s 3 = (n, x, true)) (h2 : Vi.getS s x = (m, y, true)) (h3 : Gp.dec s y = none) : read s = none := by
  unfold read; rw [h]; dsimp only; rw [h2]; dsimp only; rw [h3]; rfl
theorem read_all {s : List UInt8} {n x m y z : Int} {l : List Int} (h : Vi.getS s 3 = (n, x, true)) (h2 : Vi.getS s x = (m, y, true)) (h3 : Gp.dec s y = some (l, z)) : read s = some ((n, m), fro 0 l) := by
  unfold read; rw [h]; dsimp only; rw [h2]; dsimp only; rw [h3]; rfl
/-- The last one, or a. -/
def lst : Int → List Int → Int
  | a, [] => a
  | _, n :: r => lst n r
theorem lst_snoc : ∀ (a : Int) (l : List Int) (n : Int), lst a (l ++ [n]) = n
  | _, [], _ => rfl
  | _, m :: l, n => lst_snoc m l n
theorem fro_snoc : ∀ (a : Int) (l : List Int) (n : Int), fro a (l ++ [n]) = fro a l ++ [(lst a l, n)]
  | _, [], _ => rfl
  | a, m :: l, n => by
    show (a, m) :: fro m (l ++ [n]) = (a, m) :: (fro m l ++ [(lst m l, n)])
    rw [fro_snoc m l n]
theorem lst_take {l : List Int} {k : Nat} (h : k < l.length) : lst 0 (l.take (k + 1)) = l.getD k 0 ∧ fro 0 (l.take (k + 1)) = fro 0 (l.take k) ++ [(lst 0 (l.take k), l.getD k 0)] := by
  have e : l.take (k + 1) = l.take k ++ [l.getD k 0] := by
    rw [List.take_add_one, List.getElem?_eq_getElem h]
    simp [List.getD, h]
  rw [e, lst_snoc, fro_snoc]
  exact ⟨rfl, rfl⟩
theorem fro_getD_from : ∀ {l : List Int} {a : Int} {k : Nat}, k < l.length → (fro a l).getD k (0, 0) = (lst a (l.take k), l.getD k 0)
  | [], _, k, h => by simp at h
  | n :: l, a, 0, _ => rfl
  | n :: l, a, k + 1, h => by
    have := fro_getD_from (l := l) (a := n) (k := k) (by simpa using h)
    simpa [fro, lst, List.getD] using this
theorem fro_getD {l : List Int} {k : Nat} (h : k < l.length) : (fro 0 l).getD k (0, 0) = (lst 0 (l.take k), l.getD k 0) := fro_getD_from h
theorem ends_take (l : List (Int × Int)) (k : Nat) : ends (l.take k) = (ends l).take k := by simp [ends]
theorem ends_getD {l : List (Int × Int)} {k : Nat} (h : k < l.length) : (ends l).getD k 0 = (l.getD k (0, 0)).2 := by simp [ends, List.getD, h]

end Mf

end Go.Proofs.Ytmekaofjcjmklaa
