/- Shards in plain words: which ones may be, their bytes; no two have the same, none begins another one's; bytes of one that are turned over, or cut off, are none. -/
import Derived.Test.YtbhngncnhabbkaaPUnpack
namespace Go.Proofs.Ytbhngncnhabbkaa
namespace Sh

/-- A part, and a list for each of its vertices. -/
abbrev Shard := (Int × Int) × List (List Int)

/-- May it be a shard's part? -/
def mayP (p : Int × Int) : Bool := decide (0 ≤ p.1) && decide (p.1 < p.2) && decide (p.2 ≤ 256)
/-- May it be the list of v? -/
def okL (v : Int) (l : List Int) : Bool := Gp.up (-1) l && l.all fun x => decide (x < 256) && decide (x ≠ v)
def okF : Int → List (List Int) → Bool
  | _, [] => true
  | v, l :: r => okL v l && okF (v + 1) r
/-- How many numbers they have. -/
def many (o : List (List Int)) : Nat := (o.map List.length).sum
/-- May it be? -/
def may (s : Shard) : Bool := mayP s.1 && decide ((s.2.length : Int) = s.1.2 - s.1.1) && okF s.1.1 s.2 && decide (many s.2 ≤ 4096)
/-- What Check tells. -/
def chk (s : Shard) : Int := if may s = true then 0 else 2

def deg (o : List (List Int)) : List Int := o.map fun l => (l.length : Int)
def wd (o : List (List Int)) : Nat := Pk.wid (deg o)
def lists (o : List (List Int)) : List UInt8 := o.flatMap Gp.enc
/-- Its bytes ahead of the sum. -/
def raw (s : Shard) : List UInt8 := 115 :: 104 :: (Vi.putL s.1.1 ++ (Vi.putL s.1.2 ++ (UInt8.ofNat (wd s.2) :: (Pk.pk (deg s.2) (wd s.2) ++ (lists s.2 ++ Vi.putL (many s.2))))))
/-- Bytes and their sum. -/
def sealB (b : List UInt8) : List UInt8 := b ++ Cr.four (Cr.sum b)
def enc (s : Shard) : List UInt8 := sealB (raw s)

theorem mayP_iff {p : Int × Int} : mayP p = true ↔ 0 ≤ p.1 ∧ p.1 < p.2 ∧ p.2 ≤ 256 := by simp [mayP, and_assoc]
theorem may_iff {s : Shard} : may s = true ↔ mayP s.1 = true ∧ (s.2.length : Int) = s.1.2 - s.1.1 ∧ okF s.1.1 s.2 = true ∧ many s.2 ≤ 4096 := by simp [may, and_assoc]
theorem okF_mem : ∀ {v : Int} {o : List (List Int)}, okF v o = true → ∀ l ∈ o, Gp.up (-1) l = true ∧ ∀ x ∈ l, 0 ≤ x ∧ x < 256
  | _, [], _, l, hl => by simp at hl
  | v, l0 :: r, h, l, hl => by
    simp only [okF, Bool.and_eq_true] at h
    rcases List.mem_cons.1 hl with rfl | hl
    · have h1 := h.1
      simp only [okL, Bool.and_eq_true] at h1
      refine ⟨h1.1, fun x hx => ?_⟩
      have h2 := List.all_eq_true.1 h1.2 x hx
      simp only [Bool.and_eq_true, decide_eq_true_eq] at h2
      exact ⟨up_nonneg h1.1 x hx, h2.1⟩
    · exact okF_mem h.2 l hl
  where
  up_nonneg : ∀ {a : Int} {l : List Int}, Gp.up a l = true → ∀ x ∈ l, a + 1 ≤ x
    | _, [], _, x, hx => by simp at hx
    | a, n :: r, h, x, hx => by
      simp only [Gp.up, Bool.and_eq_true, decide_eq_true_eq] at h
      rcases List.mem_cons.1 hx with rfl | hx
      · omega
      · have := up_nonneg h.2 x hx; omega
theorem many_ge : ∀ {o : List (List Int)}, ∀ l ∈ o, l.length ≤ many o
  | [], l, hl => by simp at hl
  | l0 :: r, l, hl => by
    have e : many (l0 :: r) = l0.length + many r := by simp [many]
    rcases List.mem_cons.1 hl with rfl | hl
    · omega
    · have := many_ge l hl; omega
theorem take_snoc_o (o : List (List Int)) (k : Nat) (h : k < o.length) : o.take (k + 1) = o.take k ++ [o.getD k []] := by
  rw [List.take_add_one, List.getElem?_eq_getElem h]
  simp [List.getD, h]
theorem many_take (o : List (List Int)) (k : Nat) (h : k < o.length) : many (o.take (k + 1)) = many (o.take k) + (o.getD k []).length := by
  rw [take_snoc_o o k h]
  unfold many
  rw [List.map_append, List.sum_append]
  simp
theorem lists_take (o : List (List Int)) (k : Nat) (h : k < o.length) : lists (o.take (k + 1)) = lists (o.take k) ++ Gp.enc (o.getD k []) := by
  rw [take_snoc_o o k h]
  unfold lists
  rw [List.flatMap_append]
  simp
theorem deg_len (o : List (List Int)) : (deg o).length = o.length := by simp [deg]
theorem deg_fit {o : List (List Int)} (h : many o ≤ 4096) : Pk.Fit (deg o) := fun z hz => by
  obtain ⟨l, hl, rfl⟩ := List.mem_map.1 hz
  have := many_ge l hl
  omega
theorem wd_le {o : List (List Int)} (h : many o ≤ 4096) : wd o ≤ 13 := (Pk.wid_le (deg_fit h) 13 (by omega)).2 fun z hz => by
  obtain ⟨l, hl, rfl⟩ := List.mem_map.1 hz
  have := many_ge l hl
  omega
theorem deg_may {o : List (List Int)} (h : many o ≤ 4096) : Pk.May (deg o) (wd o) := (Pk.wid_le (deg_fit h) (wd o) (by have := wd_le h; omega)).1 (Nat.le_refl _)

/-! No bytes of one begin another one's. -/
theorem put_pre {a b : Int} {x y : List UInt8} (ha : 0 ≤ a ∧ a ≤ 9223372036854775807) (hb : 0 ≤ b ∧ b ≤ 9223372036854775807) (h : Vi.putL a ++ x = Vi.putL b ++ y) : a = b ∧ x = y := by
  have h1 := Gp.getS_put [] x a ha.1 ha.2
  have h2 := Gp.getS_put [] y b hb.1 hb.2
  rw [h] at h1
  rw [h1] at h2
  have e : a = b := congrArg (·.1) h2
  subst e
  exact ⟨rfl, List.append_cancel_left h⟩
theorem enc_pre {a b : List Int} {x y : List UInt8} (ha : Gp.up (-1) a = true) (hb : Gp.up (-1) b = true) (fa : Gp.Fit a) (fb : Gp.Fit b) (la : a.length ≤ 9223372036854775807) (lb : b.length ≤ 9223372036854775807) (h : Gp.enc a ++ x = Gp.enc b ++ y) : a = b ∧ x = y := by
  have h1 := Gp.dec_enc [] x a ha fa la
  have h2 := Gp.dec_enc [] y b hb fb lb
  rw [h] at h1
  rw [h1] at h2
  have e : a = b := by simpa using congrArg (·.map (·.1)) h2
  subst e
  exact ⟨rfl, List.append_cancel_left h⟩
def Good (o : List (List Int)) : Prop := ∀ l ∈ o, Gp.up (-1) l = true ∧ Gp.Fit l ∧ l.length ≤ 9223372036854775807
theorem lists_pre : ∀ {o q : List (List Int)} {x y : List UInt8}, Good o → Good q → o.length = q.length → lists o ++ x = lists q ++ y → o = q ∧ x = y
  | [], [], x, y, _, _, _, h => ⟨rfl, by simpa [lists] using h⟩
  | a :: o, b :: q, x, y, go, gq, hl, h => by
    have e1 : lists (a :: o) = Gp.enc a ++ lists o := by simp [lists]
    have e2 : lists (b :: q) = Gp.enc b ++ lists q := by simp [lists]
    rw [e1, e2, List.append_assoc, List.append_assoc] at h
    obtain ⟨a1, a2, a3⟩ := go a List.mem_cons_self
    obtain ⟨b1, b2, b3⟩ := gq b List.mem_cons_self
    obtain ⟨rfl, h2⟩ := enc_pre a1 b1 a2 b2 a3 b3 h
    obtain ⟨rfl, h3⟩ := lists_pre (fun l hl => go l (List.mem_cons_of_mem _ hl)) (fun l hl => gq l (List.mem_cons_of_mem _ hl)) (by simpa using hl) h2
    exact ⟨rfl, h3⟩
theorem may_good {s : Shard} (h : may s = true) : Good s.2 := fun l hl => by
  obtain ⟨_, _, h3, h4⟩ := may_iff.1 h
  obtain ⟨h5, h6⟩ := okF_mem h3 l hl
  refine ⟨h5, fun z hz => ?_, by have := many_ge l hl; omega⟩
  have := h6 z hz
  omega
theorem ofNat_small {a b : Nat} (ha : a < 256) (hb : b < 256) (h : UInt8.ofNat a = UInt8.ofNat b) : a = b := by
  have := congrArg UInt8.toNat h
  simpa [UInt8.toNat_ofNat, Nat.mod_eq_of_lt ha, Nat.mod_eq_of_lt hb] using this
theorem raw_pre {s t : Shard} {x y : List UInt8} (hs : may s = true) (ht : may t = true) (h : raw s ++ x = raw t ++ y) : s = t ∧ x = y := by
  obtain ⟨s1, s2, s3, s4⟩ := may_iff.1 hs
  obtain ⟨t1, t2, t3, t4⟩ := may_iff.1 ht
  have gs := may_good hs
  have gt := may_good ht
  obtain ⟨⟨p1, p2⟩, o⟩ := s
  obtain ⟨⟨q1, q2⟩, u⟩ := t
  rw [mayP_iff] at s1 t1
  unfold raw at h
  simp only [List.cons_append, List.append_assoc, List.cons.injEq, true_and] at h
  dsimp only at s1 s2 s3 s4 t1 t2 t3 t4 gs gt h
  obtain ⟨e1, h1⟩ := put_pre ⟨by omega, by omega⟩ ⟨by omega, by omega⟩ h
  obtain ⟨e2, h2⟩ := put_pre ⟨by omega, by omega⟩ ⟨by omega, by omega⟩ h1
  simp only [List.cons.injEq] at h2
  obtain ⟨hw, h3⟩ := h2
  have hw2 : wd o = wd u := ofNat_small (by have := wd_le s4; omega) (by have := wd_le t4; omega) hw
  have hlen : o.length = u.length := by omega
  have hpk : (Pk.pk (deg o) (wd o)).length = (Pk.pk (deg u) (wd u)).length := by rw [Pk.pk_length, Pk.pk_length, deg_len, deg_len, hlen, hw2]
  obtain ⟨_, h4⟩ := List.append_inj h3 hpk
  obtain ⟨e3, h5⟩ := lists_pre gs gt hlen h4
  rw [e3] at h5
  exact ⟨by rw [e1, e2, e3], List.append_cancel_left h5⟩
theorem sealed_pre {s t : Shard} {x y : List UInt8} (hs : may s = true) (ht : may t = true) (h : enc s ++ x = enc t ++ y) : s = t ∧ x = y := by
  unfold enc sealB at h
  rw [List.append_assoc, List.append_assoc] at h
  obtain ⟨rfl, h⟩ := raw_pre hs ht h
  exact ⟨rfl, List.append_cancel_left h⟩
theorem enc_inj {s t : Shard} (hs : may s = true) (ht : may t = true) (h : enc s = enc t) : s = t :=
  (sealed_pre (x := []) (y := []) hs ht (by rw [h])).1
theorem four_len (n : Nat) : (Cr.four n).length = 4 := rfl
theorem enc_len (s : Shard) : 7 ≤ (enc s).length + 2 ∧ (enc s).length = (raw s).length + 4 := by
  unfold enc sealB
  rw [List.length_append, four_len]
  unfold raw
  simp
theorem cut {s t : Shard} {k : Nat} (hs : may s = true) (ht : may t = true) (hk : k < (enc s).length) : enc t ≠ (enc s).take k := by
  intro h
  have e : enc s ++ [] = enc t ++ (enc s).drop k := by rw [h, List.append_nil, List.take_append_drop]
  obtain ⟨rfl, _⟩ := sealed_pre hs ht e
  have := congrArg List.length h
  rw [List.length_take] at this
  omega
theorem seal_sum (b : List UInt8) : Cr.sum (sealB b) = 558161692 := by
  have := (Cr.sum_sealed b 0 (by decide)).2 rfl
  rwa [Nat.xor_zero] at this
/-- Bits within four bytes, turned over. -/
theorem turned {s t : Shard} {p m q : List UInt8} {n : Nat} (h : enc s = p ++ m ++ q) (hm : m.length = 4) (hn : n < 4294967296) (h0 : n ≠ 0) : enc t ≠ p ++ Cr.put m (Cr.four n) ++ q := by
  intro ht
  have h1 := seal_sum (raw t)
  have h2 := seal_sum (raw s)
  rw [show sealB (raw t) = enc t from rfl, ht] at h1
  rw [show sealB (raw s) = enc s from rfl, h] at h2
  exact h0 ((Cr.sum_near p m q n hm hn).1 (h1.trans h2.symm))

/-- The empty shard. -/
def none_ : Shard := ((0, 0), [])
/-- What Encode tells. -/
def encS (s : Shard) : List UInt8 := if may s = true then enc s else []

end Sh

end Go.Proofs.Ytbhngncnhabbkaa
