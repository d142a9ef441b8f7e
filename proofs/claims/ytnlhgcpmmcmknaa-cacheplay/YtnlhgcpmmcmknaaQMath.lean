/- The document's answer for pages, as plain functions over lists of bytes: a page, what it tells, how data is parted, what pages come to; what follows of them. -/
import Derived.Test.YtnlhgcpmmcmknaaSMath
namespace Go.Proofs.Ytnlhgcpmmcmknaa
namespace Pg

/-- All of a page ahead of its sum. -/
def body (d : List UInt8) : List UInt8 := [UInt8.ofNat (d.length / 256), UInt8.ofNat d.length] ++ d ++ List.replicate (122 - d.length) 0
/-- The page of data. -/
def page (d : List UInt8) : List UInt8 := body d ++ Cr.four (Cr.sum (body d))
/-- How many bytes of data a page tells of. -/
def size (p : List UInt8) : Nat := 256 * (p.getD 0 0).toNat + (p.getD 1 0).toNat
/-- The data that a page tells of. -/
def tell (p : List UInt8) : List UInt8 := (p.drop 2).take (size p)
/-- These bytes are a page. -/
def Ok (p : List UInt8) : Prop := p.length = 128 ∧ size p ≤ 122 ∧ p = page (tell p)
/-- What Encode tells. -/
def enc (d : List UInt8) : List UInt8 × Int := if 122 < d.length then ([], 3) else (page d, 0)
/-- What Decode tells. -/
def dec (p : List UInt8) : List UInt8 × Int := if p.length = 128 ∧ size p ≤ 122 ∧ p = page (tell p) then (tell p, 0) else ([], 50)

theorem enc_long {d : List UInt8} (h : 122 < d.length) : enc d = ([], 3) := by unfold enc; rw [if_pos h]
theorem enc_yes {d : List UInt8} (h : ¬ 122 < d.length) : enc d = (page d, 0) := by unfold enc; rw [if_neg h]
theorem dec_yes {p : List UInt8} (h : Ok p) : dec p = (tell p, 0) := if_pos h
theorem dec_no {p : List UInt8} (h : ¬ Ok p) : dec p = ([], 50) := if_neg h

theorem four_length (n : Nat) : (Cr.four n).length = 4 := rfl
theorem body_length {d : List UInt8} (h : d.length ≤ 122) : (body d).length = 124 := by
  unfold body; simp; omega
theorem page_length {d : List UInt8} (h : d.length ≤ 122) : (page d).length = 128 := by
  unfold page; rw [List.length_append, body_length h, four_length]
theorem page_head (d : List UInt8) : page d = UInt8.ofNat (d.length / 256) :: UInt8.ofNat d.length :: (d ++ (List.replicate (122 - d.length) 0 ++ Cr.four (Cr.sum (body d)))) := by
  have h : body d = UInt8.ofNat (d.length / 256) :: UInt8.ofNat d.length :: (d ++ List.replicate (122 - d.length) 0) := by
    unfold body; simp
  have h2 : page d = body d ++ Cr.four (Cr.sum (body d)) := rfl
  generalize Cr.four (Cr.sum (body d)) = f at h2 ⊢
  rw [h2, h]
  simp
theorem size_page {d : List UInt8} (h : d.length ≤ 122) : size (page d) = d.length := by
  rw [page_head]
  generalize d ++ (List.replicate (122 - d.length) 0 ++ Cr.four (Cr.sum (body d))) = q
  unfold size
  have e1 : (UInt8.ofNat (d.length / 256)).toNat = d.length / 256 % 256 := rfl
  have e2 : (UInt8.ofNat d.length).toNat = d.length % 256 := rfl
  simp only [List.getD_cons_zero, List.getD_cons_succ, e1, e2]
  omega
theorem tell_page {d : List UInt8} (h : d.length ≤ 122) : tell (page d) = d := by
  unfold tell
  rw [size_page h, page_head]
  generalize List.replicate (122 - d.length) 0 ++ Cr.four (Cr.sum (body d)) = q
  simp
theorem ok_page {d : List UInt8} (h : d.length ≤ 122) : Ok (page d) := by
  refine ⟨page_length h, ?_, ?_⟩
  · rw [size_page h]; exact h
  · rw [tell_page h]
theorem tell_le {p : List UInt8} (h : Ok p) : (tell p).length ≤ 122 := by
  unfold tell; rw [List.length_take]; have := h.2.1; omega
theorem tell_length {p : List UInt8} (h : Ok p) : (tell p).length = size p := by
  unfold tell; rw [List.length_take, List.length_drop]; have := h.1; have := h.2.1; omega
theorem page_inj {d e : List UInt8} (hd : d.length ≤ 122) (he : e.length ≤ 122) (h : page d = page e) : d = e := by
  rw [← tell_page hd, h, tell_page he]
theorem dec_page {d : List UInt8} (h : d.length ≤ 122) : dec (page d) = (d, 0) := by
  rw [dec_yes (ok_page h), tell_page h]
theorem page_tell {p : List UInt8} (h : Ok p) : page (tell p) = p := h.2.2.symm
theorem not_ok_length {p : List UInt8} (h : p.length ≠ 128) : ¬ Ok p := fun k => h k.1

/-- The sum of a whole page is always the same. -/
theorem sum_page (d : List UInt8) : Cr.sum (page d) = 558161692 := by
  have := (Cr.sum_sealed (body d) 0 (by decide)).2 rfl
  rw [Nat.xor_zero] at this
  exact this

/-- Data is parted, in at most so many steps. -/
def partsIn : Nat → List UInt8 → List (List UInt8)
  | 0, d => [d]
  | k + 1, d => if 122 < d.length then d.take 122 :: partsIn k (d.drop 122) else [d]
/-- Data is parted. -/
def parts (d : List UInt8) : List (List UInt8) := partsIn d.length d

theorem partsIn_same : ∀ (k m : Nat) (d : List UInt8), d.length ≤ k → d.length ≤ m → partsIn k d = partsIn m d
  | 0, 0, _, _, _ => rfl
  | 0, m + 1, d, h, _ => by rw [partsIn, partsIn, if_neg (by omega)]
  | k + 1, 0, d, _, h => by rw [partsIn, partsIn, if_neg (by omega)]
  | k + 1, m + 1, d, h1, h2 => by
    rw [partsIn, partsIn]
    by_cases h : 122 < d.length
    · rw [if_pos h, if_pos h, partsIn_same k m (d.drop 122) (by rw [List.length_drop]; omega) (by rw [List.length_drop]; omega)]
    · rw [if_neg h, if_neg h]
theorem parts_long {d : List UInt8} (h : 122 < d.length) : parts d = d.take 122 :: parts (d.drop 122) := by
  unfold parts
  obtain ⟨k, hk⟩ : ∃ k, d.length = k + 1 := ⟨d.length - 1, by omega⟩
  rw [hk, partsIn, if_pos h, partsIn_same k _ (d.drop 122) (by rw [List.length_drop]; omega) (Nat.le_refl _)]
theorem parts_short {d : List UInt8} (h : ¬ 122 < d.length) : parts d = [d] := by
  unfold parts
  cases hk : d.length with
  | zero => rw [partsIn]
  | succ k => rw [partsIn, if_neg h]

/-- What Split tells. -/
def split (d : List UInt8) : List (List UInt8) := (parts d).map page

/-- The i-th part of so many may have so many bytes. -/
abbrev May (n i m : Nat) : Prop := if i + 1 < m then n = 122 else 0 < n ∨ m = 1

/-- Induction over how data is parted. -/
theorem parts_ind {P : List UInt8 → Prop} (h1 : ∀ d, ¬ 122 < d.length → P d) (h2 : ∀ d, 122 < d.length → P (d.drop 122) → P d) (d : List UInt8) : P d := by
  generalize hn : d.length = n
  induction n using Nat.strongRecOn generalizing d with
  | ind n ih =>
    by_cases h : 122 < d.length
    · exact h2 d h (ih (d.drop 122).length (by rw [List.length_drop]; omega) _ rfl)
    · exact h1 d h

theorem parts_ne (d : List UInt8) : parts d ≠ [] := by
  by_cases h : 122 < d.length
  · rw [parts_long h]; simp
  · rw [parts_short h]; simp
theorem parts_pos (d : List UInt8) : 0 < (parts d).length := List.length_pos_iff.2 (parts_ne d)
theorem parts_flat (d : List UInt8) : (parts d).flatten = d := by
  induction d using parts_ind with
  | h1 d h => rw [parts_short h]; simp
  | h2 d h ih => rw [parts_long h, List.flatten_cons, ih, List.take_append_drop]
theorem parts_count (d : List UInt8) : (parts d).length = max ((d.length + 121) / 122) 1 := by
  induction d using parts_ind with
  | h1 d h => rw [parts_short h, List.length_singleton]; omega
  | h2 d h ih => rw [parts_long h, List.length_cons, ih, List.length_drop]; omega
theorem parts_le (d : List UInt8) : ∀ p ∈ parts d, p.length ≤ 122 := by
  induction d using parts_ind with
  | h1 d h => rw [parts_short h]; intro p hp; rw [List.mem_singleton.1 hp]; omega
  | h2 d h ih =>
    rw [parts_long h]; intro p hp
    rcases List.mem_cons.1 hp with rfl | hp
    · rw [List.length_take]; omega
    · exact ih p hp

/-- Parts of some data, that is none: all but the last are full, the last is not empty. -/
def Tail : List (List UInt8) → Prop
  | [] => False
  | [d] => 0 < d.length ∧ d.length ≤ 122
  | d :: e :: r => d.length = 122 ∧ Tail (e :: r)
theorem tail_parts (d : List UInt8) : 0 < d.length → Tail (parts d) := by
  induction d using parts_ind with
  | h1 d h => intro h0; rw [parts_short h]; exact ⟨h0, by omega⟩
  | h2 d h ih =>
    intro _
    rw [parts_long h]
    have h3 := ih (by rw [List.length_drop]; omega)
    cases hp : parts (d.drop 122) with
    | nil => exact absurd hp (parts_ne _)
    | cons e r =>
      rw [hp] at h3
      exact ⟨by rw [List.length_take]; omega, h3⟩
theorem tail_flat : ∀ l : List (List UInt8), Tail l → 0 < l.flatten.length
  | [], h => h.elim
  | [d], h => by
    have e : [d].flatten = d := by simp
    rw [e]; exact h.1
  | d :: e :: r, h => by
    rw [List.flatten_cons, List.length_append, h.1]; omega
theorem tail_back : ∀ l : List (List UInt8), Tail l → parts l.flatten = l
  | [], h => h.elim
  | [d], h => by
    have e : [d].flatten = d := by simp
    rw [e, parts_short (by have := h.2; omega)]
  | d :: e :: r, h => by
    have h1 := tail_flat (e :: r) h.2
    have h2 := tail_back (e :: r) h.2
    have h3 : d.length = 122 := h.1
    generalize hq : e :: r = q at *
    rw [List.flatten_cons, parts_long (by rw [List.length_append]; omega), List.take_append_of_le_length (by omega), List.take_of_length_le (by omega)]
    congr 1
    rw [List.drop_append_of_le_length (by omega), List.drop_of_length_le (by omega), List.nil_append, h2]
theorem tail_may : ∀ (l : List (List UInt8)) (_ : ∀ d ∈ l, d.length ≤ 122), Tail l ↔ l ≠ [] ∧ ∀ i (h : i < l.length), if i + 1 < l.length then l[i].length = 122 else 0 < l[i].length
  | [], _ => ⟨fun h => h.elim, fun h => absurd rfl h.1⟩
  | [d], hl => by
    have := hl d (by simp)
    constructor
    · intro h
      refine ⟨by simp, fun i hi => ?_⟩
      obtain rfl : i = 0 := by simpa using hi
      simpa using h.1
    · intro h
      have := h.2 0 (by simp)
      exact ⟨by simpa using this, by omega⟩
  | d :: e :: r, hl => by
    have ih := tail_may (e :: r) (fun x hx => hl x (List.mem_cons_of_mem _ hx))
    constructor
    · intro h
      have h2 := (ih.1 h.2).2
      refine ⟨by simp, fun i hi => ?_⟩
      cases i with
      | zero => rw [if_pos (by simp)]; exact h.1
      | succ i =>
        have := h2 i (by simpa using hi)
        simpa using this
    · intro h
      have h0 := h.2 0 (by simp)
      rw [if_pos (by simp)] at h0
      refine ⟨h0, ih.2 ⟨by simp, fun i hi => ?_⟩⟩
      have := h.2 (i + 1) (by simpa using hi)
      simpa using this

/-- Which lists are parts: told by their places. -/
theorem parts_may (l : List (List UInt8)) (hl : ∀ d ∈ l, d.length ≤ 122) : parts l.flatten = l ↔ l ≠ [] ∧ ∀ i (h : i < l.length), May l[i].length i l.length := by
  by_cases h1 : l.length = 1
  · obtain ⟨d, rfl⟩ := List.length_eq_one_iff.1 h1
    have hd := hl d (by simp)
    have e : [d].flatten = d := by simp
    rw [e, parts_short (by omega)]
    refine ⟨fun _ => ⟨by simp, fun i hi => ?_⟩, fun _ => rfl⟩
    obtain rfl : i = 0 := by simpa using hi
    unfold May; simp
  · have key : (∀ i (h : i < l.length), May l[i].length i l.length) ↔ ∀ i (h : i < l.length), if i + 1 < l.length then l[i].length = 122 else 0 < l[i].length := by
      refine forall_congr' fun i => forall_congr' fun hi => ?_
      unfold May
      split
      · rfl
      · simp [h1]
    rw [key, ← tail_may l hl]
    constructor
    · intro h
      have h0 : 0 < l.flatten.length := by
        rcases Nat.eq_zero_or_pos l.flatten.length with h0 | h0
        · have e := List.eq_nil_of_length_eq_zero h0
          rw [e, parts_short (by simp)] at h
          exact absurd (by rw [← h]; rfl) h1
        · exact h0
      rw [← h]
      exact tail_parts _ h0
    · exact tail_back l

/-- These are the pages into which some data is parted. -/
def Fits (l : List (List UInt8)) : Prop := l ≠ [] ∧ ∀ i (h : i < l.length), Ok l[i] ∧ May (tell l[i]).length i l.length
theorem map_page_tell (l : List (List UInt8)) (h : ∀ p ∈ l, Ok p) : (l.map tell).map page = l := by
  rw [List.map_map]
  conv => rhs; rw [← List.map_id l]
  exact List.map_congr_left fun p hp => page_tell (h p hp)
theorem map_tell_page (l : List (List UInt8)) (h : ∀ d ∈ l, d.length ≤ 122) : (l.map page).map tell = l := by
  rw [List.map_map]
  conv => rhs; rw [← List.map_id l]
  exact List.map_congr_left fun p hp => tell_page (h p hp)
theorem split_tell (d : List UInt8) : (split d).map tell = parts d := map_tell_page _ (parts_le d)
theorem split_ok (d : List UInt8) : ∀ p ∈ split d, Ok p := by
  intro p hp
  obtain ⟨q, hq, rfl⟩ := List.mem_map.1 hp
  exact ok_page (parts_le d q hq)
theorem split_length (d : List UInt8) : (split d).length = (parts d).length := List.length_map ..
theorem split_ne (d : List UInt8) : split d ≠ [] := fun h => parts_ne d (List.map_eq_nil_iff.1 h)

/-- P5.2: Join tells of pages just if they are what Split tells of the data. -/
theorem fits_iff (l : List (List UInt8)) : Fits l ↔ (∀ p ∈ l, Ok p) ∧ split (l.map tell).flatten = l := by
  have key : (∀ p ∈ l, Ok p) → (split (l.map tell).flatten = l ↔ l ≠ [] ∧ ∀ i (h : i < l.length), May (tell l[i]).length i l.length) := by
    intro hok
    have hle : ∀ d ∈ l.map tell, d.length ≤ 122 := by
      intro d hd
      obtain ⟨p, hp, rfl⟩ := List.mem_map.1 hd
      exact tell_le (hok p hp)
    have h1 : split (l.map tell).flatten = l ↔ parts (l.map tell).flatten = l.map tell := by
      constructor
      · intro h
        rw [← split_tell, h]
      · intro h
        unfold split
        rw [h, map_page_tell l hok]
    rw [h1, parts_may _ hle]
    simp
  constructor
  · intro h
    have hok : ∀ p ∈ l, Ok p := by
      intro p hp
      obtain ⟨i, hi, rfl⟩ := List.getElem_of_mem hp
      exact (h.2 i hi).1
    exact ⟨hok, (key hok).2 ⟨h.1, fun i hi => (h.2 i hi).2⟩⟩
  · rintro ⟨hok, h⟩
    obtain ⟨h1, h2⟩ := (key hok).1 h
    exact ⟨h1, fun i hi => ⟨hok _ (List.getElem_mem hi), h2 i hi⟩⟩
/-- What Join tells. -/
def join (l : List (List UInt8)) : List UInt8 × Int :=
  if (∀ p ∈ l, p.length = 128 ∧ size p ≤ 122 ∧ p = page (tell p)) ∧ split (l.map tell).flatten = l then ((l.map tell).flatten, 0) else ([], 50)
theorem join_yes {l : List (List UInt8)} (h : Fits l) : join l = ((l.map tell).flatten, 0) := if_pos ((fits_iff l).1 h)
theorem join_no {l : List (List UInt8)} (h : ¬ Fits l) : join l = ([], 50) := if_neg fun k => h ((fits_iff l).2 k)
theorem fits_split (d : List UInt8) : Fits (split d) := by
  rw [fits_iff, split_tell, parts_flat]
  exact ⟨split_ok d, rfl⟩
theorem join_split (d : List UInt8) : join (split d) = (d, 0) := by
  rw [join_yes (fits_split d), split_tell, parts_flat]

end Pg
end Go.Proofs.Ytnlhgcpmmcmknaa
