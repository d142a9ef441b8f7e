/- Pages that are got one behind the other, in plain words. -/
import Derived.Test.YtnlhgcpmmcmknaaCHeld
namespace Go.Proofs.Ytnlhgcpmmcmknaa
open Go.RowKit Go.Maps

def bt (k : Nat) : ByteArray := ⟨#[UInt8.ofNat k]⟩
def pgB (k : Nat) : ByteArray := text (Pg.page [UInt8.ofNat k])
def frO (k : Nat) : Ca.Fr := ⟨nf, k, bt k, 0⟩
theorem pgB_size (k : Nat) : (pgB k).size = 128 := by
  show (Pg.page [UInt8.ofNat k]).length = 128
  exact Pg.page_length (by simp)
theorem dec_bt (k : Nat) : Ca.dec (pgB k) = (bt k, 0) := by
  unfold Ca.dec pgB
  rw [text_toList, Pg.dec_page (by simp)]; rfl
theorem enc_bt (k : Nat) : Ca.enc (bt k) = (pgB k, 0) := by
  unfold Ca.enc
  rw [show (bt k).data.toList = [UInt8.ofNat k] from rfl, Pg.enc_yes (by simp)]; rfl

/-- The files behind n pages. -/
def fsO : Nat → Fi.St
  | 0 => ⟨60, -1, []⟩
  | n + 1 => ⟨60, -1, [(nf, (List.range (n + 1)).map pgB)]⟩
theorem rowsO (n : Nat) : Fi.rows (fsO n).fs nf = (List.range n).map pgB := by
  cases n with
  | zero => rfl
  | succ n => exact (show Fi.rows [(nf, (List.range (n + 1)).map pgB)] nf = (List.range (n + 1)).map pgB by generalize (List.range (n + 1)).map pgB = x; rfl)
theorem put_oneO (x y : List ByteArray) : Fi.put [(nf, x)] nf y = [(nf, y)] := rfl
theorem put_noneO (y : List ByteArray) : Fi.put ([] : Fi.Files) nf y = [(nf, y)] := rfl
theorem fsO_room (n : Nat) : (fsO n).room = 60 ∧ (fsO n).ahead = -1 := by cases n <;> exact ⟨rfl, rfl⟩
theorem usedO (n : Nat) : Fi.used (fsO n).fs = n := by
  cases n with
  | zero => rfl
  | succ n => show Fi.used [(nf, (List.range (n + 1)).map pgB)] = n + 1; rw [Fi.used_cons, Fi.used_nil]; simp
theorem fsO_put (n : Nat) (h : n < 12) : Fi.putp (fsO n) nf n (pgB n) = (0, fsO (n + 1)) := by
  rw [putp_on (by decide) (by rw [rowsO]; simp) (Fi.isPage_iff.2 (pgB_size n)) (by rw [usedO, (fsO_room n).1]; omega), rowsO]
  have e : (List.range n).map pgB ++ [pgB n] = (List.range (n + 1)).map pgB := by rw [List.range_succ, List.map_append]; rfl
  rw [e]
  cases n with
  | zero => rfl
  | succ n => rfl
theorem fsO_read (k : Nat) (h : k < 12) : Fi.read (fsO 12) nf k = (pgB k, 0, fsO 12) := by
  have hh : Fi.has (fsO 12) nf k = true := Fi.has_iff.2 ⟨by omega, by rw [rowsO]; simp; omega⟩
  rw [read_still hh (by rw [(fsO_room 12).2]; decide)]
  unfold Fi.page
  rw [rowsO, List.getD_eq_getElem?_getD]
  simp [h]

/-- Those that were got, the latest first. -/
def nextO (m k : Nat) (last : List Nat) : List Nat := k :: (last.filter fun x => decide (x ≠ k)).take (m - 1)
theorem nextO_length {m k : Nat} {last : List Nat} (hm : 1 ≤ m) : (nextO m k last).length ≤ m := by
  unfold nextO
  simp only [List.length_cons, List.length_take]
  omega
theorem nextO_nodup {m k : Nat} {last : List Nat} (h : last.Nodup) : (nextO m k last).Nodup := by
  unfold nextO
  refine List.nodup_cons.2 ⟨fun hk => ?_, ?_⟩
  · have := (List.mem_filter.1 (List.mem_of_mem_take hk)).2
    simp at this
  · exact ((List.take_sublist _ _).trans List.filter_sublist).nodup h
theorem nextO_lt {m k : Nat} {last : List Nat} (hk : k < 12) (h : ∀ x ∈ last, x < 12) : ∀ x ∈ nextO m k last, x < 12 := by
  intro x hx
  rcases List.mem_cons.1 hx with rfl | hx
  · exact hk
  · exact h x (List.mem_filter.1 (List.mem_of_mem_take hx)).1
theorem apartO {last : List Nat} (h : last.Nodup) : Ca.Apart (last.map frO).reverse := by
  unfold Ca.Apart
  rw [List.pairwise_reverse, List.pairwise_map]
  exact h.imp fun {a b} hne e => hne (by have := e.2; simp only [frO] at this; omega)
theorem getO {m : Nat} {last : List Nat} (hm : 1 ≤ m) (hnd : last.Nodup) (hlen : last.length ≤ m) (k : Nat) (hk : k < 12) :
    Ca.get ⟨m, fsO 12, (last.map frO).reverse⟩ nf k = (bt k, 0, ⟨m, fsO 12, ((nextO m k last).map frO).reverse⟩) := by
  by_cases hin : k ∈ last
  · have hmem : frO k ∈ (last.map frO).reverse := by rw [List.mem_reverse]; exact List.mem_map.2 ⟨k, hin, rfl⟩
    have hl : Ca.look (last.map frO).reverse nf k = some (frO k) := Ca.look_mem (apartO hnd) hmem
    rw [get_ok (fetch_hit (st := ⟨m, fsO 12, (last.map frO).reverse⟩) hl)]
    have hlt : (last.filter fun x => decide (x ≠ k)).length < last.length := List.length_filter_lt_length_iff_exists.2 ⟨k, hin, by simp⟩
    have e : Ca.gone (last.map frO).reverse nf k = ((last.filter fun x => decide (x ≠ k)).map frO).reverse := by
      unfold Ca.gone
      rw [List.filter_reverse, List.filter_map]
      congr 2
      refine List.filter_congr fun x _ => ?_
      have : ((x : Int) = (k : Int)) ↔ x = k := by omega
      simp [Function.comp, Ca.Fr.is, frO, this]
    show (bt k, (0 : Int), (⟨m, fsO 12, Ca.gone (last.map frO).reverse nf k ++ [frO k]⟩ : Ca.St)) = _
    rw [e]
    unfold nextO
    rw [List.take_of_length_le (by omega), List.map_cons, List.reverse_cons]
  · have hl : Ca.look (last.map frO).reverse nf k = none := Ca.look_none' fun x hx e => by
      rw [List.mem_reverse] at hx
      obtain ⟨j, hj, rfl⟩ := List.mem_map.1 hx
      have : j = k := by have := e.2; simp only [frO] at this; omega
      exact hin (this ▸ hj)
    have hp : Ca.pinned (last.map frO).reverse = 0 := by
      unfold Ca.pinned
      rw [List.countP_eq_zero]
      intro x hx
      rw [List.mem_reverse] at hx
      obtain ⟨j, hj, rfl⟩ := List.mem_map.1 hx
      simp [frO]
    have hs : Ca.stuck m (last.map frO).reverse = false := by
      unfold Ca.stuck
      rw [hp, List.length_reverse, List.length_map]
      by_cases h0 : last.length = 0
      · rw [decide_eq_false (by omega)]; rfl
      · rw [decide_eq_false (p := 0 = last.length) (by omega), Bool.and_false]
    rw [get_ok (fetch_new (st := ⟨m, fsO 12, (last.map frO).reverse⟩) hl hs (fsO_read k hk) (dec_bt k))]
    have ef : (last.filter fun x => decide (x ≠ k)) = last := List.filter_eq_self.2 fun x hx => by
      simp only [decide_eq_true_eq]
      rintro rfl
      exact hin hx
    have er : Ca.room m (last.map frO).reverse = ((last.take (m - 1)).map frO).reverse := by
      unfold Ca.room
      rw [List.length_reverse, List.length_map]
      by_cases hf : m ≤ last.length
      · rw [if_pos hf]
        have hml : m = last.length := by omega
        subst hml
        rw [← List.dropLast_eq_take]
        have hne : last ≠ [] := by rintro rfl; simp at hm
        have eq : last = last.dropLast ++ [last.getLast hne] := (List.dropLast_concat_getLast hne).symm
        unfold Ca.evict
        conv => lhs; rw [eq]
        rw [List.map_append, List.reverse_append]
        simp [frO]
      · rw [if_neg hf, List.take_of_length_le (by omega)]
    show (bt k, (0 : Int), (⟨m, fsO 12, Ca.room m (last.map frO).reverse ++ [frO k]⟩ : Ca.St)) = _
    rw [er]
    unfold nextO
    rw [ef, List.map_cons, List.reverse_cons]

/-- All of these are there. -/
def AllO (st : Ca.St) (last : List Nat) : Prop := ∀ k ∈ last, ∃ f, Ca.look st.l nf k = some f
theorem allO_start {m : Nat} {fs : Fi.St} {last : List Nat} (h : last.Nodup) : AllO ⟨m, fs, (last.map frO).reverse⟩ last := fun k hk =>
  ⟨frO k, Ca.look_mem (x := frO k) (apartO h) (by rw [List.mem_reverse]; exact List.mem_map.2 ⟨k, hk, rfl⟩)⟩
theorem allO_get {st : Ca.St} {last : List Nat} (h : AllO st last) {k : Nat} (hk : k ∈ last) : (Ca.get st nf k).2.1 = 0 ∧ AllO (Ca.get st nf k).2.2 last := by
  obtain ⟨f, hf⟩ := h k hk
  rw [get_ok (fetch_hit hf)]
  refine ⟨rfl, fun j hj => ?_⟩
  show ∃ g, Ca.look (Ca.gone st.l nf k ++ [f]) nf j = some g
  by_cases e : j = k
  · subst e
    exact ⟨f, by rw [Ca.look_append, Ca.look_gone_same, Ca.look_one_same (Ca.look_some hf).2.1 (Ca.look_some hf).2.2]; rfl⟩
  · obtain ⟨g, hg⟩ := h j hj
    exact ⟨g, by rw [Ca.look_append, Ca.look_gone_other (fun e2 => e (by omega)), hg]; rfl⟩

/-- How the next ones are gathered. -/
theorem gatherO {m k j : Nat} {last : List Nat} (hm : 1 ≤ m) (hend : j = last.length ∨ ((last.take j).filter fun x => decide (x ≠ k)).length + 1 = m) (hle : ((last.take j).filter fun x => decide (x ≠ k)).length + 1 ≤ m) : k :: ((last.take j).filter fun x => decide (x ≠ k)) = nextO m k last := by
  unfold nextO
  congr 1
  rcases hend with rfl | h
  · rw [List.take_length] at hle ⊢
    rw [List.take_of_length_le (by omega)]
  · have e : last.filter (fun x => decide (x ≠ k)) = (last.take j).filter (fun x => decide (x ≠ k)) ++ (last.drop j).filter (fun x => decide (x ≠ k)) := by
      rw [← List.filter_append, List.take_append_drop]
    rw [e, List.take_append_of_le_length (by omega)]
    exact (List.take_of_length_le (by omega)).symm
theorem gather_step {k j : Nat} {last : List Nat} (hj : j < last.length) : (last.take (j + 1)).filter (fun x => decide (x ≠ k)) = (last.take j).filter (fun x => decide (x ≠ k)) ++ (if last.getD j 0 = k then [] else [last.getD j 0]) := by
  have e : last.take (j + 1) = last.take j ++ [last.getD j 0] := by
    rw [List.take_add_one, List.getD_eq_getElem?_getD, List.getElem?_eq_getElem hj]; rfl
  rw [e, List.filter_append]
  congr 1
  generalize last.getD j 0 = x
  by_cases h : x = k
  · rw [if_pos h]; simp [h]
  · rw [if_neg h]; simp [h]

end Go.Proofs.Ytnlhgcpmmcmknaa
