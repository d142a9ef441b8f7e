/- The document's answer for gaps, as plain functions: which lists rise, their bytes, the list whose bytes stand somewhere; that the one undoes the other. -/
import Derived.Test.YtmekaofjcjmklaaRefNum
namespace Go.Proofs.Ytmekaofjcjmklaa
namespace Gp

/-- Each number is above the one ahead of it; a stands ahead of the first. -/
def up : Int → List Int → Bool
  | _, [] => true
  | a, n :: r => decide (a < n) && up n r

/-- The gaps ahead of the numbers. -/
def gs : Int → List Int → List Int
  | _, [] => []
  | a, n :: r => (n - (a + 1)) :: gs n r

/-- The bytes of the gaps. -/
def body (a : Int) (l : List Int) : List UInt8 := (gs a l).flatMap Vi.putL
/-- The bytes of a list that rises. -/
def enc (l : List Int) : List UInt8 := Vi.putL l.length ++ body (-1) l
/-- What Encode tells. -/
def encS (l : List Int) : List UInt8 := if up (-1) l = true then enc l else []
/-- What Check tells. -/
def err (l : List Int) : Int := if up (-1) l = true then 0 else 2

/-- All are ints. -/
def Fit (l : List Int) : Prop := ∀ z ∈ l, -9223372036854775808 ≤ z ∧ z ≤ 9223372036854775807

/-- A gap that was read, and the place behind it. -/
abbrev Gap := { x : Int × Int // 0 ≤ x.1 ∧ x.1 ≤ 9223372036854775807 }
def mk (g x : Int) : Gap := if h : 0 ≤ g ∧ g ≤ 9223372036854775807 then ⟨(g, x), h⟩ else ⟨(0, x), Int.le_refl 0, by show (0 : Int) ≤ 9223372036854775807; decide⟩

theorem mk_val (g x : Int) (h : 0 ≤ g ∧ g ≤ 9223372036854775807) : (mk g x).1 = (g, x) := by simp [mk, h]
theorem mk_place (g x : Int) : (mk g x).1.2 = x := by unfold mk; split <;> rfl

/-- The gaps that stand in s from i on, at most k. -/
def run (s : List UInt8) : Nat → Int → List Gap
  | 0, _ => []
  | k + 1, i => if (Vi.getS s i).2.2 = true then mk (Vi.getS s i).1 (Vi.getS s i).2.1 :: run s k (Vi.getS s i).2.1 else []

/-- The last number. -/
def top : Int → List Gap → Int
  | a, [] => a
  | a, x :: r => top (a + 1 + x.1.1) r
def nums : Int → List Gap → List Int
  | _, [] => []
  | a, x :: r => (a + 1 + x.1.1) :: nums (a + 1 + x.1.1) r
/-- The place behind the last one. -/
def place : Int → List Gap → Int
  | i, [] => i
  | _, x :: r => place x.1.2 r

/-- The list whose bytes stand in s from i on, and the place behind it. -/
def dec (s : List UInt8) (i : Int) : Option (List Int × Int) :=
  if (Vi.getS s i).2.2 = true ∧ (run s (Vi.getS s i).1.toNat (Vi.getS s i).2.1).length = (Vi.getS s i).1.toNat ∧ top (-1) (run s (Vi.getS s i).1.toNat (Vi.getS s i).2.1) ≤ 9223372036854775807 then
    some (nums (-1) (run s (Vi.getS s i).1.toNat (Vi.getS s i).2.1), place (Vi.getS s i).2.1 (run s (Vi.getS s i).1.toNat (Vi.getS s i).2.1))
  else none

theorem top_snoc (a : Int) (p : List Gap) (x : Gap) : top a (p ++ [x]) = top a p + 1 + x.1.1 := by
  induction p generalizing a with
  | nil => rfl
  | cons y p ih => exact ih _
theorem nums_snoc (a : Int) (p : List Gap) (x : Gap) : nums a (p ++ [x]) = nums a p ++ [top a p + 1 + x.1.1] := by
  induction p generalizing a with
  | nil => rfl
  | cons y p ih => simp only [List.cons_append, nums, top, ih]
theorem place_snoc (i : Int) (p : List Gap) (x : Gap) : place i (p ++ [x]) = x.1.2 := by
  induction p generalizing i with
  | nil => rfl
  | cons y p ih => exact ih _
theorem nums_length (a : Int) (p : List Gap) : (nums a p).length = p.length := by
  induction p generalizing a with
  | nil => rfl
  | cons y p ih => simp [nums, ih]
theorem top_ge (a : Int) (p : List Gap) : a ≤ top a p := by
  induction p generalizing a with
  | nil => exact Int.le_refl _
  | cons y p ih =>
    have := ih (a + 1 + y.1.1)
    have h := y.2.1
    show a ≤ top (a + 1 + y.1.1) p
    omega
theorem top_append (a : Int) (p q : List Gap) : top a (p ++ q) = top (top a p) q := by
  induction p generalizing a with
  | nil => rfl
  | cons y p ih => exact ih _
theorem top_prefix (a : Int) {p q : List Gap} (h : p <+: q) : top a p ≤ top a q := by
  obtain ⟨r, rfl⟩ := h
  rw [top_append]
  exact top_ge _ _
theorem nums_range (a : Int) (p : List Gap) : ∀ n ∈ nums a p, a < n ∧ n ≤ top a p := by
  induction p generalizing a with
  | nil => intro n h; simp [nums] at h
  | cons y p ih =>
    intro n h
    have hy := y.2.1
    rcases List.mem_cons.1 h with rfl | h
    · exact ⟨by omega, top_ge _ p⟩
    · have := ih _ n h
      exact ⟨by omega, this.2⟩
theorem nums_up (a : Int) (p : List Gap) : up a (nums a p) = true := by
  induction p generalizing a with
  | nil => rfl
  | cons y p ih =>
    have hy := y.2.1
    simp only [nums, up, ih, Bool.and_true, decide_eq_true_eq]
    omega
theorem nums_fit (p : List Gap) (h : top (-1) p ≤ 9223372036854775807) : Fit (nums (-1) p) := fun n hn => by
  have := nums_range (-1) p n hn
  omega

/-! What Get tells. -/
theorem getS_some (s : List UInt8) (i : Int) (h : (Vi.getS s i).2.2 = true) :
    0 ≤ i ∧ 0 ≤ (Vi.getS s i).1 ∧ (Vi.getS s i).1 ≤ 9223372036854775807 ∧ (Vi.getS s i).2.1 = i + (Vi.putL (Vi.getS s i).1).length ∧ (Vi.getS s i).2.1 ≤ s.length ∧
      (s.drop i.toNat).take (Vi.putL (Vi.getS s i).1).length = Vi.putL (Vi.getS s i).1 ∧ 1 ≤ (Vi.putL (Vi.getS s i).1).length := by
  unfold Vi.getS at h ⊢
  by_cases hc : (Vi.readS s i).2.2 = true ∧ (Vi.readS s i).1 ≤ 9223372036854775807
  · rw [if_pos hc]
    obtain ⟨h1, h2⟩ := hc
    clear h
    simp only
    have e : Vi.putL ((Vi.readS s i).1 : Int) = Vi.enc (Vi.readS s i).1 := by
      rw [Vi.putL, if_neg (by omega), Int.toNat_natCast]
    rw [e]
    unfold Vi.readS at h1 h2 ⊢
    by_cases ho : i < 0 ∨ (s.length : Int) ≤ i
    · rw [if_pos ho] at h1; simp at h1
    · rw [if_neg ho] at h1 h2 ⊢
      cases hd : Vi.dec (s.drop i.toNat) with
      | none => rw [hd] at h1; simp at h1
      | some p =>
        obtain ⟨n, m⟩ := p
        rw [hd] at h2
        simp only at h2 ⊢
        obtain ⟨_, hm, ht, hl, hm1⟩ := Vi.enc_dec _ _ _ hd
        rw [List.length_drop] at hl
        rw [hm]
        refine ⟨by omega, by omega, by omega, rfl, by omega, ht, hm1⟩
  · rw [if_neg hc] at h; simp at h

theorem getS_put (p q : List UInt8) (g : Int) (h0 : 0 ≤ g) (h1 : g ≤ 9223372036854775807) : Vi.getS (p ++ (Vi.putL g ++ q)) p.length = (g, (p.length : Int) + (Vi.putL g).length, true) := by
  have e : Vi.putL g = Vi.enc g.toNat := by rw [Vi.putL, if_neg (by omega)]
  have hl := Vi.enc_len g.toNat
  rw [e]
  have hd : Vi.dec ((p ++ (Vi.enc g.toNat ++ q)).drop p.length) = some (g.toNat, (Vi.enc g.toNat).length) := by
    rw [List.drop_left]
    exact Vi.dec_enc _ (by omega) q
  have := Vi.readS_some (p ++ (Vi.enc g.toNat ++ q)) p.length _ _ (by simp only [List.length_append]; omega) hd
  unfold Vi.getS
  rw [this]
  simp only [true_and]
  rw [if_pos (by omega), Int.toNat_of_nonneg h0]

theorem run_length (s : List UInt8) (k : Nat) (i : Int) : (run s k i).length ≤ k := by
  induction k generalizing i with
  | zero => simp [run]
  | succ k ih =>
    unfold run
    split
    · have := ih (Vi.getS s i).2.1
      simp only [List.length_cons]
      omega
    · simp

/-- Each gap takes a byte at least. -/
theorem run_room (s : List UInt8) (k : Nat) (i : Int) (hi : i ≤ s.length) : ((run s k i).length : Int) ≤ s.length - i := by
  induction k generalizing i with
  | zero => simp [run]; omega
  | succ k ih =>
    unfold run
    split
    · rename_i h
      obtain ⟨_, _, _, h4, h5, _, h7⟩ := getS_some s i h
      have := ih (Vi.getS s i).2.1 h5
      simp only [List.length_cons]
      omega
    · simp; omega

theorem dec_few (s : List UInt8) (i : Int) (h : (Vi.getS s i).2.2 = true) (hc : (s.length : Int) - (Vi.getS s i).2.1 < (Vi.getS s i).1) : dec s i = none := by
  obtain ⟨_, h2, _, h4, h5, _, h7⟩ := getS_some s i h
  have := run_room s (Vi.getS s i).1.toNat (Vi.getS s i).2.1 h5
  unfold dec
  rw [if_neg]
  rintro ⟨_, hl, _⟩
  omega

/-! What was encoded is decoded. -/
theorem body_cons (a n : Int) (r : List Int) : body a (n :: r) = Vi.putL (n - (a + 1)) ++ body n r := by simp [body, gs]

theorem run_enc (q : List UInt8) (l : List Int) : ∀ (a : Int) (p : List UInt8), -1 ≤ a → a ≤ 9223372036854775807 → up a l = true → Fit l →
    nums a (run (p ++ (body a l ++ q)) l.length p.length) = l ∧ (run (p ++ (body a l ++ q)) l.length p.length).length = l.length ∧
    place p.length (run (p ++ (body a l ++ q)) l.length p.length) = (p.length : Int) + (body a l).length ∧ top a (run (p ++ (body a l ++ q)) l.length p.length) ≤ 9223372036854775807 := by
  induction l with
  | nil => intro a p h0 h1 _ _; simp [run, nums, place, body, gs, top, h1]
  | cons n r ih =>
    intro a p h0 h1 hu hf
    simp only [up, Bool.and_eq_true, decide_eq_true_eq] at hu
    have hn := hf n (by simp)
    have hfr : Fit r := fun z hz => hf z (by simp [hz])
    have hg := getS_put p (body n r ++ q) (n - (a + 1)) (by omega) (by omega)
    have e1 : p ++ (body a (n :: r) ++ q) = p ++ (Vi.putL (n - (a + 1)) ++ (body n r ++ q)) := by rw [body_cons, List.append_assoc]
    have hr : run (p ++ (body a (n :: r) ++ q)) (n :: r).length p.length = mk (n - (a + 1)) ((p.length : Int) + (Vi.putL (n - (a + 1))).length) :: run ((p ++ Vi.putL (n - (a + 1))) ++ (body n r ++ q)) r.length (p ++ Vi.putL (n - (a + 1))).length := by
      rw [e1, List.length_cons, run, hg, if_pos rfl]
      simp only [List.append_assoc, List.length_append, Int.natCast_add]
    have hm := mk_val (n - (a + 1)) ((p.length : Int) + (Vi.putL (n - (a + 1))).length) ⟨by omega, by omega⟩
    obtain ⟨i1, i2, i3, i4⟩ := ih n (p ++ Vi.putL (n - (a + 1))) (by omega) hn.2 hu.2 hfr
    rw [hr]
    simp only [nums, top, place, hm, show a + 1 + (n - (a + 1)) = n by omega, List.length_cons]
    refine ⟨by rw [i1], by rw [i2], ?_, i4⟩
    have e2 : (p.length : Int) + (Vi.putL (n - (a + 1))).length = ((p ++ Vi.putL (n - (a + 1))).length : Nat) := by simp
    rw [e2, i3, body_cons]
    simp only [List.length_append, Int.natCast_add]
    omega

theorem dec_enc (p q : List UInt8) (l : List Int) (hu : up (-1) l = true) (hf : Fit l) (hl : l.length ≤ 9223372036854775807) : dec (p ++ (enc l ++ q)) p.length = some (l, (p.length : Int) + (enc l).length) := by
  have hg := getS_put p (body (-1) l ++ q) l.length (by omega) (by omega)
  have e1 : p ++ (enc l ++ q) = p ++ (Vi.putL l.length ++ (body (-1) l ++ q)) := by rw [enc, List.append_assoc]
  have hr := run_enc q l (-1) (p ++ Vi.putL l.length) (by omega) (by omega) hu hf
  have e2 : (p ++ Vi.putL l.length) ++ (body (-1) l ++ q) = p ++ (Vi.putL l.length ++ (body (-1) l ++ q)) := by rw [List.append_assoc]
  rw [e2] at hr
  have e3 : (p.length : Int) + (Vi.putL l.length).length = ((p ++ Vi.putL l.length).length : Nat) := by simp
  obtain ⟨i1, i2, i3, i4⟩ := hr
  unfold dec
  rw [e1, hg]
  simp only [Int.toNat_natCast]
  rw [e3]
  rw [if_pos ⟨trivial, i2, i4⟩, i1, i3, enc]
  simp only [List.length_append, Int.natCast_add]
  congr 2
  omega

/-! What is decoded was encoded so. -/
theorem run_way (s : List UInt8) (k : Nat) : ∀ (a i : Int), 0 ≤ i → i ≤ s.length →
    place i (run s k i) = i + (body a (nums a (run s k i))).length ∧ place i (run s k i) ≤ s.length ∧ (s.drop i.toNat).take (body a (nums a (run s k i))).length = body a (nums a (run s k i)) := by
  induction k with
  | zero => intro a i h0 h1; simp [run, place, nums, body, gs, h1]
  | succ k ih =>
    intro a i h0 h1
    unfold run
    by_cases h : (Vi.getS s i).2.2 = true
    · rw [if_pos h]
      obtain ⟨_, h2, h3, h4, h5, h6, h7⟩ := getS_some s i h
      have hm := mk_val (Vi.getS s i).1 (Vi.getS s i).2.1 ⟨h2, h3⟩
      obtain ⟨i1, i2, i3⟩ := ih (a + 1 + (Vi.getS s i).1) (Vi.getS s i).2.1 (by omega) h5
      simp only [nums, place, hm, body_cons, show a + 1 + (Vi.getS s i).1 - (a + 1) = (Vi.getS s i).1 by omega, List.length_append]
      refine ⟨by rw [i1, h4]; omega, i2, ?_⟩
      rw [List.take_add, h6, List.drop_drop]
      congr 1
      have e : i.toNat + (Vi.putL (Vi.getS s i).1).length = (Vi.getS s i).2.1.toNat := by omega
      rw [e]
      exact i3
    · rw [if_neg h]
      simp [place, nums, body, gs, h1]

theorem enc_dec (s : List UInt8) (i : Int) (l : List Int) (x : Int) (h : dec s i = some (l, x)) :
    0 ≤ i ∧ up (-1) l = true ∧ Fit l ∧ x = i + (enc l).length ∧ x ≤ s.length ∧ (s.drop i.toNat).take (enc l).length = enc l ∧ 1 ≤ (enc l).length ∧ l.length ≤ s.length := by
  unfold dec at h
  by_cases hc : (Vi.getS s i).2.2 = true ∧ (run s (Vi.getS s i).1.toNat (Vi.getS s i).2.1).length = (Vi.getS s i).1.toNat ∧ top (-1) (run s (Vi.getS s i).1.toNat (Vi.getS s i).2.1) ≤ 9223372036854775807
  · rw [if_pos hc] at h
    obtain ⟨c1, c2, c3⟩ := hc
    simp only [Option.some.injEq, Prod.mk.injEq] at h
    obtain ⟨rfl, rfl⟩ := h
    obtain ⟨h1, h2, h3, h4, h5, h6, h7⟩ := getS_some s i c1
    obtain ⟨i1, i2, i3⟩ := run_way s (Vi.getS s i).1.toNat (-1) (Vi.getS s i).2.1 (by omega) h5
    have hlen : ((nums (-1) (run s (Vi.getS s i).1.toNat (Vi.getS s i).2.1)).length : Int) = (Vi.getS s i).1 := by
      rw [nums_length, c2]; omega
    have hroom := run_room s (Vi.getS s i).1.toNat (Vi.getS s i).2.1 h5
    refine ⟨h1, nums_up _ _, nums_fit _ c3, ?_, i2, ?_, ?_, ?_⟩
    · unfold enc
      rw [hlen, i1, List.length_append]; omega
    · unfold enc
      rw [hlen, List.length_append, List.take_add, h6, List.drop_drop]
      congr 1
      have e : i.toNat + (Vi.putL (Vi.getS s i).1).length = (Vi.getS s i).2.1.toNat := by omega
      rw [e]
      exact i3
    · unfold enc
      rw [hlen, List.length_append]; omega
    · rw [nums_length]; omega
  · rw [if_neg hc] at h; simp at h

theorem enc_inj (a b : List Int) (ha : up (-1) a = true) (hb : up (-1) b = true) (fa : Fit a) (fb : Fit b) (la : a.length ≤ 9223372036854775807) (lb : b.length ≤ 9223372036854775807) (h : enc a = enc b) : a = b := by
  have h1 := dec_enc [] [] a ha fa la
  have h2 := dec_enc [] [] b hb fb lb
  rw [h, h2] at h1
  simp at h1
  exact h1.symm

/-- Bytes of a list that are cut off are none's. -/
theorem dec_cut (l : List Int) (k : Nat) (hu : up (-1) l = true) (hf : Fit l) (hl : l.length ≤ 9223372036854775807) (hb : (enc l).length ≤ 9223372036854775807) (hk : k < (enc l).length) : dec ((enc l).take k) 0 = none := by
  cases hd : dec ((enc l).take k) 0 with
  | none => rfl
  | some p =>
    obtain ⟨m, x⟩ := p
    obtain ⟨_, mu, mf, hx, hxl, ht, h1, hml⟩ := enc_dec _ _ _ _ hd
    rw [List.length_take] at hxl hml
    have hmk : (enc m).length ≤ k := by omega
    simp only [Int.toNat_zero, List.drop_zero] at ht
    rw [List.take_take, Nat.min_eq_left hmk] at ht
    have e : enc l = enc m ++ (enc l).drop (enc m).length := by
      conv => lhs; rw [← List.take_append_drop (enc m).length (enc l)]
      rw [ht]
    have h2 := dec_enc [] ((enc l).drop (enc m).length) m mu mf (by omega)
    rw [← e] at h2
    have h3 := dec_enc [] [] l hu hf hl
    rw [List.append_nil, h2] at h3
    simp at h3
    omega

theorem enc_pos (l : List Int) : 1 ≤ (enc l).length := by
  have : Vi.putL (l.length : Int) = Vi.enc l.length := by rw [Vi.putL, if_neg (by omega), Int.toNat_natCast]
  have h := (Vi.enc_len l.length).1
  unfold enc
  rw [this, List.length_append]
  omega

/-! One number more. -/
/-- What stands ahead of number k. -/
def prev (l : List Int) (k : Nat) : Int := if k = 0 then -1 else l.getD (k - 1) 0

theorem prev_zero (l : List Int) : prev l 0 = -1 := rfl
theorem prev_succ (l : List Int) (k : Nat) : prev l (k + 1) = l.getD k 0 := by simp [prev]

theorem up_snoc (a n : Int) (l : List Int) : up a (l ++ [n]) = (up a l && decide ((l.getLast?).getD a < n)) := by
  induction l generalizing a with
  | nil => exact Bool.and_comm (decide (a < n)) true
  | cons m l ih =>
    rw [List.cons_append, up, up, ih, Bool.and_assoc, List.getLast?_cons]
    rfl
theorem gs_snoc (a n : Int) (l : List Int) : gs a (l ++ [n]) = gs a l ++ [n - ((l.getLast?).getD a + 1)] := by
  induction l generalizing a with
  | nil => simp [gs]
  | cons m l ih =>
    rw [List.cons_append, gs, gs, ih, List.getLast?_cons]
    rfl

theorem take_succ (l : List Int) (k : Nat) (h : k < l.length) : l.take (k + 1) = l.take k ++ [l.getD k 0] := by
  rw [List.take_add_one, List.getElem?_eq_getElem h]
  simp [List.getD, List.getElem?_eq_getElem h]

theorem last_take (l : List Int) (k : Nat) (h : k ≤ l.length) : ((l.take k).getLast?).getD (-1) = prev l k := by
  cases k with
  | zero => simp [prev]
  | succ k =>
    rw [prev_succ, take_succ l k (by omega), List.getLast?_concat]
    rfl

theorem up_take (l : List Int) (k : Nat) (h : k < l.length) : up (-1) (l.take (k + 1)) = (up (-1) (l.take k) && decide (prev l k < l.getD k 0)) := by
  rw [take_succ l k h, up_snoc, last_take l k (by omega)]
theorem gs_take (l : List Int) (k : Nat) (h : k < l.length) : gs (-1) (l.take (k + 1)) = gs (-1) (l.take k) ++ [l.getD k 0 - (prev l k + 1)] := by
  rw [take_succ l k h, gs_snoc, last_take l k (by omega)]
theorem body_take (l : List Int) (k : Nat) (h : k < l.length) : body (-1) (l.take (k + 1)) = body (-1) (l.take k) ++ Vi.putL (l.getD k 0 - (prev l k + 1)) := by
  unfold body
  rw [gs_take l k h, List.flatMap_append]
  simp

theorem up_stop (l : List Int) (k : Nat) (h : up (-1) (l.take k) = false) : up (-1) l = false := by
  have : ∀ (a : Int) (p q : List Int), up a p = false → up a (p ++ q) = false := by
    intro a p q
    induction p generalizing a with
    | nil => simp [up]
    | cons n p ih =>
      simp only [List.cons_append, up, Bool.and_eq_false_iff]
      rintro (h | h)
      · exact .inl h
      · exact .inr (ih _ h)
  have := this (-1) (l.take k) (l.drop k) h
  rwa [List.take_append_drop] at this

/-- In a list that rises each number is above the one ahead, and none is below 0. -/
theorem up_at (l : List Int) (h : up (-1) l = true) : ∀ k, k < l.length → prev l k < l.getD k 0 ∧ -1 ≤ prev l k := by
  have hp : ∀ k, up (-1) (l.take k) = true := fun k => by
    cases hk : up (-1) (l.take k) with
    | true => rfl
    | false => rw [up_stop l k hk] at h; cases h
  intro k
  induction k with
  | zero =>
    intro hk
    have := hp 1
    rw [up_take l 0 hk] at this
    simp only [Bool.and_eq_true, decide_eq_true_eq] at this
    exact ⟨this.2, by simp [prev]⟩
  | succ k ih =>
    intro hk
    have i := ih (by omega)
    have := hp (k + 1 + 1)
    rw [up_take l (k + 1) hk] at this
    simp only [Bool.and_eq_true, decide_eq_true_eq] at this
    refine ⟨this.2, ?_⟩
    rw [prev_succ]
    omega

theorem fit_at {l : List Int} (h : Fit l) (k : Nat) : -9223372036854775808 ≤ l.getD k 0 ∧ l.getD k 0 ≤ 9223372036854775807 := by
  by_cases hk : k < l.length
  · have e : l.getD k 0 = l[k] := by simp [List.getD, List.getElem?_eq_getElem hk]
    rw [e]
    exact h _ (List.getElem_mem hk)
  · have e : l.getD k 0 = 0 := by simp [List.getD, List.getElem?_eq_none (Nat.le_of_not_lt hk)]
    rw [e]
    decide

theorem putL_len (n : Int) : (Vi.putL n).length ≤ 10 := by
  unfold Vi.putL
  split
  · simp
  · exact (Vi.enc_len _).2

theorem flat_len (l : List Int) : (l.flatMap Vi.putL).length ≤ 10 * l.length := by
  induction l with
  | nil => simp
  | cons n l ih =>
    have := putL_len n
    simp only [List.flatMap_cons, List.length_append, List.length_cons]
    omega

theorem gs_length (a : Int) (l : List Int) : (gs a l).length = l.length := by
  induction l generalizing a with
  | nil => rfl
  | cons n l ih => simp [gs, ih]

theorem enc_len (l : List Int) : (enc l).length ≤ 10 + 10 * l.length := by
  have h1 := putL_len l.length
  have h2 := flat_len (gs (-1) l)
  rw [gs_length] at h2
  unfold enc body
  rw [List.length_append]
  omega

end Gp
end Go.Proofs.Ytmekaofjcjmklaa
