/- Parts by their sizes; parts that were cut: how large they are; parts that are spoilt are none. -/
import Derived.Test.YtmekaofjcjmklaaMDoes
namespace Go.Proofs.Ytmekaofjcjmklaa

namespace Pt
/-- How large a part is, by a byte. -/
def sz (x : UInt8) : Nat := 1 + x.toNat % 16
/-- Parts from n on, as large as these bytes say. -/
def lay : Nat → List UInt8 → List (Int × Int)
  | _, [] => []
  | n, x :: l => ((n : Int), ((n + sz x : Nat) : Int)) :: lay (n + sz x) l
/-- How many vertices they have. -/
def tot : List UInt8 → Nat
  | [] => 0
  | x :: l => sz x + tot l

theorem sz_pos (x : UInt8) : 1 ≤ sz x := by unfold sz; omega
theorem sz_le (x : UInt8) : sz x ≤ 16 := by unfold sz; omega
theorem tot_app : ∀ (l m : List UInt8), tot (l ++ m) = tot l + tot m
  | [], m => by simp [tot]
  | x :: l, m => by rw [List.cons_append, tot, tot, tot_app l m]; omega
theorem tot_le : ∀ (l : List UInt8), tot l ≤ l.length * 16
  | [] => by simp [tot]
  | x :: l => by rw [tot, List.length_cons]; have := tot_le l; have := sz_le x; omega
theorem tot_ge : ∀ (l : List UInt8), l.length ≤ tot l
  | [] => by simp
  | x :: l => by rw [tot, List.length_cons]; have := tot_ge l; have := sz_pos x; omega
theorem lay_len : ∀ (n : Nat) (l : List UInt8), (lay n l).length = l.length
  | _, [] => rfl
  | n, x :: l => by rw [lay, List.length_cons, List.length_cons, lay_len]
theorem lay_app : ∀ (n : Nat) (l m : List UInt8), lay n (l ++ m) = lay n l ++ lay (n + tot l) m
  | n, [], m => by simp [lay, tot]
  | n, x :: l, m => by
    rw [List.cons_append, lay, lay, lay_app, tot, List.cons_append, Nat.add_assoc]
theorem lay_run : ∀ (n : Nat) (l : List UInt8), run n (lay n l) = some ((n + tot l : Nat) : Int)
  | n, [] => by simp [lay, run, tot]
  | n, x :: l => by
    have := sz_pos x
    rw [lay, run, if_pos ⟨rfl, by dsimp only; omega⟩, lay_run, tot, Nat.add_assoc]
/-- From elsewhere they don't go on. -/
theorem lay_off {e m : Int} {t : Nat} {l : List UInt8} (he : e ≠ t) (h : run e (lay t l) = some m) : l = [] ∧ m = e := by
  cases l with
  | nil => simp [lay, run] at h; exact ⟨rfl, h.symm⟩
  | cons x l =>
    rw [lay, run, if_neg (by intro c; exact he c.1.symm)] at h
    cases h
theorem lay_has : ∀ (n : Nat) (l : List UInt8) (u : Int), (n : Int) ≤ u → u < ((n + tot l : Nat) : Int) → ∃ x ∈ lay n l, has x u = true
  | n, [], u, h1, h2 => by simp [tot] at h2; omega
  | n, x :: l, u, h1, h2 => by
    by_cases c : u < ((n + sz x : Nat) : Int)
    · exact ⟨_, List.mem_cons_self, by simp [has]; omega⟩
    · obtain ⟨y, hy, hh⟩ := lay_has (n + sz x) l u (by omega) (by rw [tot] at h2; omega)
      exact ⟨y, List.mem_cons_of_mem _ hy, hh⟩
theorem lay_in : ∀ (n : Nat) (l : List UInt8) (u : Int) (x : Int × Int), x ∈ lay n l → has x u = true → (n : Int) ≤ u ∧ u < ((n + tot l : Nat) : Int)
  | n, [], u, x, h, _ => by simp [lay] at h
  | n, y :: l, u, x, h, hx => by
    have hy := sz_pos y
    rw [tot]
    rcases List.mem_cons.1 h with rfl | h
    · simp [has] at hx; omega
    · have := lay_in (n + sz y) l u x h hx
      omega
theorem getD_mem {l : List (Int × Int)} {k : Nat} (h : k < l.length) : l.getD k (0, 0) ∈ l := by
  rw [List.getD_eq_getElem?_getD, List.getElem?_eq_getElem h]; exact List.getElem_mem h
/-- What Of tells of them. -/
theorem lay_of (l : List UInt8) (v : Int) : (of (lay 0 l) v = -1 ∧ ¬ (0 ≤ v ∧ v < (tot l : Int))) ∨ ∃ j, j < (lay 0 l).length ∧ of (lay 0 l) v = (j : Int) ∧ has ((lay 0 l).getD j (0, 0)) v = true ∧ 0 ≤ v ∧ v < (tot l : Int) := by
  rcases of_cases (lay 0 l) v with ⟨h1, h2⟩ | ⟨j, hj, h1, h2⟩
  · refine .inl ⟨h1, fun ⟨a, b⟩ => ?_⟩
    obtain ⟨x, hx, hh⟩ := lay_has 0 l v (by simpa using a) (by simpa using b)
    rw [h2 x hx] at hh; cases hh
  · have := lay_in 0 l v _ (getD_mem hj) h2
    exact .inr ⟨j, hj, h1, h2, by omega, by omega⟩
theorem lay_chk {l : List UInt8} (h : l.length ≤ 16) : chk (tot l) (lay 0 l) = if 0 < tot l then 0 else 2 := by
  have h1 := tot_le l
  have hr : run 0 (lay 0 l) = some ((tot l : Nat) : Int) := by have := lay_run 0 l; simpa using this
  unfold chk
  by_cases c : 0 < tot l
  · rw [if_pos c, if_pos ⟨by simp [many]; omega, by rw [lay_len]; exact h, hr⟩]
  · rw [if_neg c, if_neg (by intro k; have := k.1; simp [many] at this; omega)]
theorem lay_chk1 (l : List UInt8) : chk ((tot l : Int) + 1) (lay 0 l) = 2 := by
  have hr : run 0 (lay 0 l) = some ((tot l : Nat) : Int) := by have := lay_run 0 l; simpa using this
  unfold chk
  rw [if_neg]
  intro k
  have := k.2.2
  rw [hr] at this
  simp at this
  omega

theorem chk_two {n : Int} {l : List (Int × Int)} (h : run 0 l ≠ some n) : chk n l = 2 := by
  unfold chk; rw [if_neg]; exact fun k => h k.2.2

/-- The k-th byte splits them. -/
theorem lay_split {l : List UInt8} {k : Nat} (h : k < l.length) : ∃ (f z : Nat) (r : List UInt8), 1 ≤ z ∧ f + z ≤ tot l ∧ (lay 0 l).take k = lay 0 (l.take k) ∧ tot (l.take k) = f ∧ (lay 0 l).getD k (0, 0) = ((f : Int), ((f + z : Nat) : Int)) ∧ (lay 0 l).drop (k + 1) = lay (f + z) r ∧ tot l = f + z + tot r ∧ (lay 0 l).drop k = ((f : Int), ((f + z : Nat) : Int)) :: lay (f + z) r := by
  have e : l = l.take k ++ l[k] :: l.drop (k + 1) := by
    conv => lhs; rw [← List.take_append_drop k l]
    rw [List.drop_eq_getElem_cons h]
  have hk : (l.take k).length = k := by simp; omega
  have hl : lay 0 l = lay 0 (l.take k) ++ ((tot (l.take k) : Int), ((tot (l.take k) + sz l[k] : Nat) : Int)) :: lay (tot (l.take k) + sz l[k]) (l.drop (k + 1)) := by
    conv => lhs; rw [e]
    rw [lay_app, Nat.zero_add, lay]
  have ht : tot l = tot (l.take k) + sz l[k] + tot (l.drop (k + 1)) := by
    conv => lhs; rw [e]
    rw [tot_app, tot]; omega
  have hk2 : (lay 0 (l.take k)).length = k := by rw [lay_len, hk]
  refine ⟨tot (l.take k), sz l[k], l.drop (k + 1), sz_pos _, by omega, ?_, rfl, ?_, ?_, ht, ?_⟩
  · rw [hl, List.take_append_of_le_length (by omega), List.take_of_length_le (by omega)]
  · rw [hl, List.getD_eq_getElem?_getD, List.getElem?_append_right (by omega), hk2]; simp
  · rw [hl, List.drop_append, List.drop_of_length_le (by omega), hk2]; simp
  · rw [hl, List.drop_append, List.drop_of_length_le (by omega), hk2]; simp

theorem run_zero (l : List UInt8) : run 0 (lay 0 l) = some ((tot l : Nat) : Int) := by
  have := lay_run 0 l; simpa using this

theorem set_split (L : List (Int × Int)) (k : Nat) (h : k < L.length) (x : Int × Int) : L.set k x = L.take k ++ x :: L.drop (k + 1) := List.set_eq_take_append_cons_drop.trans (by rw [if_pos h])

/-- A part of which one end is another one. -/
theorem off_from {l : List UInt8} {k : Nat} (h : k < l.length) (by_ : Nat) (hb : 0 < by_) :
    chk (tot l) ((lay 0 l).set k (((lay 0 l).getD k (0, 0)).1 + by_, ((lay 0 l).getD k (0, 0)).2)) = 2 := by
  obtain ⟨f, z, r, hz, _, h1, h2, h3, h4, h5, h6⟩ := lay_split h
  apply chk_two
  rw [set_split _ _ (by rw [lay_len]; exact h), h1, h3, run_app, run_zero, h2]
  show run _ _ ≠ _
  rw [run, if_neg (by dsimp only; omega)]
  simp
theorem off_to {l : List UInt8} {k : Nat} (h : k < l.length) (by_ : Nat) (hb : 0 < by_) :
    chk (tot l) ((lay 0 l).set k (((lay 0 l).getD k (0, 0)).1, ((lay 0 l).getD k (0, 0)).2 - by_)) = 2 := by
  obtain ⟨f, z, r, hz, _, h1, h2, h3, h4, h5, h6⟩ := lay_split h
  apply chk_two
  rw [set_split _ _ (by rw [lay_len]; exact h), h1, h3, h4, run_app, run_zero, h2]
  show run _ _ ≠ _
  rw [run]
  split
  · intro c
    obtain ⟨rfl, h7⟩ := lay_off (t := f + z) (by dsimp only; omega) c
    rw [h5] at h7
    simp [tot] at h7
    omega
  · simp
theorem without {l : List UInt8} {k : Nat} (h : k < l.length) : chk (tot l) ((lay 0 l).take k ++ (lay 0 l).drop (k + 1)) = 2 := by
  obtain ⟨f, z, r, hz, _, h1, h2, h3, h4, h5, h6⟩ := lay_split h
  apply chk_two
  rw [h1, h4, run_app, run_zero, h2]
  show run _ _ ≠ _
  intro c
  obtain ⟨rfl, h7⟩ := lay_off (t := f + z) (by omega) c
  rw [h5] at h7
  simp [tot] at h7
  omega
theorem twice {l : List UInt8} {k : Nat} (h : k < l.length) : chk (tot l) ((lay 0 l).take (k + 1) ++ (lay 0 l).drop k) = 2 := by
  obtain ⟨f, z, r, hz, _, h1, h2, h3, h4, h5, h6⟩ := lay_split h
  apply chk_two
  rw [take_succ_e _ k (by rw [lay_len]; exact h), h1, h6, run_app, run_app, run_zero, h2]
  rw [show (lay 0 l).getD k p0 = ((f : Int), ((f + z : Nat) : Int)) from h3]
  have e1 : ((some (f : Int)).bind fun e' => run e' [((f : Int), ((f + z : Nat) : Int))]) = some ((f + z : Nat) : Int) := by
    show run _ _ = _
    rw [run, if_pos ⟨rfl, by dsimp only; omega⟩, run]
  rw [e1]
  show run _ _ ≠ _
  rw [run, if_neg (by dsimp only; omega)]
  simp

/-- Parts that were cut. -/
theorem cut_step {n s k : Nat} (hs : 1 ≤ s) (hn : s ≤ n) : k * n / s < (k + 1) * n / s := by
  have e : (k + 1) * n = k * n + n := Nat.succ_mul k n
  rw [e]
  have : k * n / s + 1 ≤ (k * n + n) / s := by
    rw [← Nat.add_div_right _ (by omega)]
    exact Nat.div_le_div_right (by omega)
  omega
theorem cuts_run {n s : Nat} (hs : 1 ≤ s) (hn : s ≤ n) : ∀ k, k ≤ s → run 0 ((cuts n s).take k) = some ((k * n / s : Nat) : Int) := by
  intro k
  induction k with
  | zero => intro _; simp [run]
  | succ k ih =>
    intro hk
    have hstep := cut_step (k := k) hs hn
    rw [run_take (by rw [cuts_len]; omega) (ih (by omega)), cuts_get (by omega)]
    unfold one
    rw [if_pos ⟨rfl, by dsimp only; omega⟩]
theorem cuts_chk {n s : Nat} (hs : 1 ≤ s) (hn : s ≤ n) (h16 : s ≤ 16) (h256 : n ≤ 256) : chk n (cuts n s) = 0 := by
  unfold chk
  have h := cuts_run hs hn s (Nat.le_refl _)
  rw [List.take_of_length_le (by rw [cuts_len]; exact Nat.le_refl _), Nat.mul_div_cancel_left _ (by omega)] at h
  rw [if_pos ⟨by simp [many]; omega, by rw [cuts_len]; exact h16, h⟩]
theorem cut_size {n s k : Nat} (hs : 1 ≤ s) : ∃ z : Nat, (k + 1) * n / s = k * n / s + z ∧ n / s ≤ z ∧ z ≤ (n + s - 1) / s := by
  have e : (k + 1) * n = k * n + n := Nat.succ_mul k n
  rw [e]
  have a1 := Nat.div_add_mod (k * n) s
  have a2 := Nat.mod_lt (k * n) (show s > 0 by omega)
  have b1 := Nat.div_add_mod (n + s - 1) s
  have b2 := Nat.mod_lt (n + s - 1) (show s > 0 by omega)
  have d1 := Nat.div_add_mod n s
  generalize (k * n) % s = t1 at *
  generalize (n + s - 1) % s = t2 at *
  generalize n % s = t3 at *
  generalize k * n / s = q at *
  generalize (n + s - 1) / s = c at *
  generalize n / s = d at *
  generalize k * n = m at *
  have f1 : (q + d) * s = s * q + s * d := by rw [Nat.add_mul, Nat.mul_comm q s, Nat.mul_comm d s]
  have f2 : (q + c + 1) * s = s * q + s * c + s := by rw [Nat.add_mul, Nat.add_mul, Nat.mul_comm q s, Nat.mul_comm c s, Nat.one_mul]
  have h1 : q + d ≤ (m + n) / s := by
    rw [Nat.le_div_iff_mul_le (by omega), f1]; omega
  have h2 : (m + n) / s < q + c + 1 := by
    rw [Nat.div_lt_iff_lt_mul (by omega), f2]; omega
  generalize (m + n) / s = y at *
  exact ⟨y - q, by omega, by omega, by omega⟩
end Pt

end Go.Proofs.Ytmekaofjcjmklaa
