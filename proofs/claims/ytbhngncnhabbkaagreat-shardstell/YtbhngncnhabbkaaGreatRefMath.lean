/- The walks of ints.Put, PutInt, Get and GetInt: what they return, for every argument; nothing that was in memory has changed. -/
import Derived.Test.YtbhngncnhabbkaaGreatWrite
namespace Go.Proofs.YtbhngncnhabbkaaGreat
open Go.RowKit

namespace Vi
/-- The bytes that Put tells. -/
def putL (n : Int) : List UInt8 := if n < 0 then [] else enc n.toNat
/-- The bytes that PutInt tells. -/
def putI (n : Int) : List UInt8 := enc (fold n)
/-- What Get tells. -/
def getS (l : List UInt8) (i : Int) : Int × Int × Bool :=
  if (readS l i).2.2 = true ∧ (readS l i).1 ≤ 9223372036854775807 then ((readS l i).1, (readS l i).2.1, true) else (0, 0, false)
/-- What GetInt tells. -/
def getI (l : List UInt8) (i : Int) : Int × Int × Bool :=
  if (readS l i).2.2 = true then (unfold (readS l i).1, (readS l i).2.1, true) else (0, 0, false)

theorem readS_lt (l : List UInt8) (i : Int) : (readS l i).1 < 2 ^ 64 := by
  unfold readS
  split
  · simp
  · split
    · simp
    · rename_i n m hd
      exact (enc_dec _ _ _ hd).1
end Vi

theorem three_eq {p : Int × Int × Bool} {n x : Int} {b : Bool} {n' x' : Int} {b' : Bool} (h : p = (n, x, b)) (h' : p = (n', x', b')) : n = n' ∧ x = x' ∧ b = b' := by
  rw [h] at h'
  simpa using h'

theorem bnext {w a b : World} (h : Below w.heap.size w a) (k : Below a.heap.size a b) : Below w.heap.size w b := h.trans (k.mono h.size)

set_option maxHeartbeats 400000 in
theorem put_any (n : Int) (w : World) (h0 : -9223372036854775808 ≤ n) (h1 : n ≤ 9223372036854775807) :
    Calls Tryz.prog 24 #[.int .i64 n] w fun e w' => e = .returned (.string ⟨(Vi.putL n).toArray⟩) ∧ Below w.heap.size w w' := by
  by_cases hn : n < 0
  · have e : Vi.putL n = [] := by simp [Vi.putL, hn]
    rw [e]
    go_enter Tryz.func24, Tryz.ntmps24
    go_wp2
    go_ret
    exact ⟨rfl, Below.refl _ _⟩
  · obtain ⟨k, rfl⟩ := Int.eq_ofNat_of_zero_le (show 0 ≤ n by omega)
    have e : Vi.putL (k : Int) = Vi.enc k := by rw [Vi.putL, if_neg hn, Int.toNat_natCast]
    rw [e]
    go_enter Tryz.func24, Tryz.ntmps24
    go_wp2_with fail
    refine (write_any _ _ (by omega)).mono ?_
    rintro e w' ⟨rfl, hb⟩
    go_wp2
    go_ret
    exact ⟨rfl, hb⟩

set_option maxHeartbeats 400000 in
theorem get_any (s : ByteArray) (i : Int) (w : World) (hs : s.size ≤ 140737488351232) :
    Calls Tryz.prog 94 #[.string s, .int .i64 i] w fun e w' => ∃ n x : Int, ∃ b : Bool, e = .returned (.tuple #[.int .i64 n, .int .i64 x, .bool b]) ∧ Hid (Vi.getS s.data.toList i = (n, x, b)) ∧ w' = w := by
  have hlt : (Vi.readS s.data.toList i).1 < 18446744073709551616 := Vi.readS_lt _ _
  have HG : Hid (Vi.getS s.data.toList i = if (Vi.readS s.data.toList i).2.2 = true ∧ (Vi.readS s.data.toList i).1 ≤ 9223372036854775807 then (((Vi.readS s.data.toList i).1 : Int), (Vi.readS s.data.toList i).2.1, true) else (0, 0, false)) := rfl
  have H := read_any s i w hs
  revert HG H hlt
  generalize Vi.readS s.data.toList i = r
  obtain ⟨u, x, ok⟩ := r
  intro hlt HG H
  simp only at hlt HG
  go_enter Tryz.func94, Tryz.ntmps94
  go_wp2_with fail
  refine H.mono ?_
  clear H
  rintro e w' ⟨rfl, rfl⟩
  cases ok
  · go_wp2
    go_ret3
    exact ⟨_, _, _, rfl, by rw [Hid, HG.out]; simp, rfl⟩
  · by_cases hu : u ≤ 9223372036854775807
    · go_wp2
      go_ret3
      exact ⟨_, _, _, rfl, by rw [Hid, HG.out]; simp [hu], rfl⟩
    · go_wp2
      go_ret3
      exact ⟨_, _, _, rfl, by rw [Hid, HG.out]; simp [hu], rfl⟩

end Go.Proofs.YtbhngncnhabbkaaGreat

/- The walks of the document's own bytes, Put and PutInt (carouselref01): they return what ints' do; nothing that was in memory has changed. -/
namespace Go.Proofs.YtbhngncnhabbkaaGreat
open Go.RowKit

/-- string([]byte{v}): the block that is laid for it, and the text. -/
theorem conv_one (W : World) (n : Nat) (h : n < 256) :
    (convert 47 9 (.slice (some ⟨W.heap.size, 0, none⟩) 1 1)).run Tryz.prog (W.alloc (.cells #[.int .u8 (n : Int)] 5)) = .ok (.string ⟨#[UInt8.ofNat n]⟩) (W.alloc (.cells #[.int .u8 (n : Int)] 5)) := by
  have hown := World.ownsRow_lit (e := 5) (size := 1) (base := W.heap.size) W #[.int .u8 (n : Int)] 1 (Nat.le_refl _) (by decide) rfl
  have e : (#[Value.int .u8 (n : Int)] : Array Value).toList = bcells [UInt8.ofNat n] := by
    simp only [bcells, List.map_cons, List.map_nil, ofNat_toNat n h]
  rw [e] at hown
  exact conv_own _ _ _ _ _ rfl hown

theorem app_bytes (p q : List UInt8) : (⟨p.toArray⟩ : ByteArray) ++ ⟨q.toArray⟩ = ⟨(p ++ q).toArray⟩ := by
  apply ByteArray.ext
  simp

theorem bytes_step (u f v : Nat) (p : List UInt8) (hlt : 128 ≤ v) (h : v < 128 ^ (f + 1) ∧ p ++ Vi.vb f v = Vi.enc u) :
    ∃ g, (p ++ [UInt8.ofNat (v % 128 + 128)]).length ≤ 10 ∧ v / 128 < 128 ^ (g + 1) ∧ (p ++ [UInt8.ofNat (v % 128 + 128)]) ++ Vi.vb g (v / 128) = Vi.enc u := by
  obtain ⟨h1, h2⟩ := h
  cases f with
  | zero => omega
  | succ f =>
    have hd : v / 128 < 128 ^ (f + 1) := by
      rw [Nat.pow_succ] at h1
      exact Nat.div_lt_of_lt_mul (by rw [Nat.mul_comm]; exact h1)
    have h3 : (p ++ [UInt8.ofNat (v % 128 + 128)]) ++ Vi.vb f (v / 128) = Vi.enc u := by
      rw [← h2, Vi.vb_big _ _ hlt, List.append_assoc, List.singleton_append]
    refine ⟨f, ?_, hd, h3⟩
    have hl := (Vi.enc_len u).2
    rw [← h3, List.length_append] at hl
    omega

theorem bytes_last (u f v : Nat) (p : List UInt8) (hlt : v < 128) (h : v < 128 ^ (f + 1) ∧ p ++ Vi.vb f v = Vi.enc u) : p ++ [UInt8.ofNat v] = Vi.enc u := by
  rw [← h.2, Vi.vb_small _ _ hlt]

theorem ret_string {a b : ByteArray} (h : a = b) : Ending.returned (.string a) = .returned (.string b) := by rw [h]

set_option maxHeartbeats 400000 in
set_option maxRecDepth 20000 in
theorem bytes_any (u : Nat) (w : World) (h : u < 18446744073709551616) :
    Calls Tryz.prog 62 #[.int .u64 u] w fun e w' => e = .returned (.string ⟨(Vi.enc u).toArray⟩) ∧ Below w.heap.size w w' := by
  go_enter Tryz.func62, Tryz.ntmps62
  go_wp2
  go_loopw [0, 3] (fun x s wr => ∃ (f v : Nat) (p : List UInt8), x = .int .u64 v ∧ s = .string ⟨p.toArray⟩ ∧ v < 18446744073709551616 ∧ p.length ≤ 10 ∧ Hid (v < 128 ^ (f + 1) ∧ p ++ Vi.vb f v = Vi.enc u) ∧ Below w.heap.size w wr) (fun x _ _ => (intOf x).toNat)
  case atStart => exact ⟨9, u, [], rfl, rfl, h, by simp, ⟨by omega, rfl⟩, Below.refl _ _⟩
  case round =>
    obtain ⟨f, v, p, rfl, rfl, hv, hp, hr, hbel⟩ := hrel
    by_cases hlt : 128 ≤ v
    · have hcv := conv_one wr (v % 128 + 128) (by omega)
      have ec : ((v % 128 + 128 : Nat) : Int) = (v : Int) % 128 + 128 := by omega
      rw [ec] at hcv
      clear ec
      have HS : Hid _ := bytes_step u f v p hlt hr.out
      generalize UInt8.ofNat (v % 128 + 128) = b at hcv HS
      go_wp2
      obtain ⟨g, g1, g2, g3⟩ := HS.out
      go_roundw
      case rel => exact ⟨g, v / 128, p ++ [b], by go_num, congrArg Value.string (app_bytes p [b]), by omega, g1, ⟨g2, g3⟩, hbel.alloc hbel.size _⟩
      case measure => simp [intOf]; omega
    · have hcv := conv_one wr v (by omega)
      go_wp2
      go_ret
      exact ⟨ret_string ((app_bytes p [_]).trans (by rw [bytes_last u f v p (by omega) hr.out])), hbel.alloc hbel.size _⟩

set_option maxHeartbeats 400000 in
theorem rput_any (n : Int) (w : World) (h0 : -9223372036854775808 ≤ n) (h1 : n ≤ 9223372036854775807) :
    Calls Tryz.prog 33 #[.int .i64 n] w fun e w' => e = .returned (.string ⟨(Vi.putL n).toArray⟩) ∧ Below w.heap.size w w' := by
  by_cases hn : n < 0
  · have e : Vi.putL n = [] := by simp [Vi.putL, hn]
    rw [e]
    go_enter Tryz.func33, Tryz.ntmps33
    go_wp2
    go_ret
    exact ⟨rfl, Below.refl _ _⟩
  · obtain ⟨k, rfl⟩ := Int.eq_ofNat_of_zero_le (show 0 ≤ n by omega)
    have e : Vi.putL (k : Int) = Vi.enc k := by rw [Vi.putL, if_neg hn, Int.toNat_natCast]
    rw [e]
    go_enter Tryz.func33, Tryz.ntmps33
    go_wp2_with fail
    refine (bytes_any _ _ (by omega)).mono ?_
    rintro e w' ⟨rfl, hb⟩
    go_wp2
    go_ret
    exact ⟨rfl, hb⟩

end Go.Proofs.YtbhngncnhabbkaaGreat

/- The plain mathematics of the document's own reading of a number (carouselref01): by the first byte below 128, by the value of the bytes up to it, by writing that anew. -/
namespace Go.Proofs.YtbhngncnhabbkaaGreat
namespace Vi

/-- What bytes are worth, seven bits a byte, the lowest first. -/
def val : List UInt8 → Nat
  | [] => 0
  | b :: r => b.toNat % 128 + 128 * val r

theorem val_lt (l : List UInt8) : val l < 128 ^ l.length := by
  induction l with
  | nil => simp [val]
  | cons b r ih => simp only [val, List.length_cons, Nat.pow_succ]; omega

theorem val_app (a b : List UInt8) : val (a ++ b) = val a + 128 ^ a.length * val b := by
  induction a with
  | nil => simp [val]
  | cons x a ih =>
    simp only [List.cons_append, val, ih, List.length_cons, Nat.pow_succ]
    rw [Nat.mul_add, Nat.mul_comm (128 ^ a.length) 128, Nat.mul_assoc]
    omega

theorem val_drop (l : List UInt8) (j : Nat) : val (l.drop j) ≤ val l := by
  induction j generalizing l with
  | zero => simp
  | succ j ih =>
    cases l with
    | nil => simp
    | cons b r =>
      rw [List.drop_succ_cons]
      have := ih r
      simp only [val]
      omega

theorem val_vb : ∀ (f v : Nat), v < 128 ^ (f + 1) → val (vb f v) = v := by
  intro f
  induction f with
  | zero =>
    intro v h
    have : (UInt8.ofNat v).toNat = v := by simp; omega
    simp only [vb, val, this]; omega
  | succ f ih =>
    intro v h
    by_cases hs : v < 128
    · have : (UInt8.ofNat v).toNat = v := by simp; omega
      rw [vb_small _ _ hs]
      simp only [val, this]; omega
    · have hd : v / 128 < 128 ^ (f + 1) := by
        rw [Nat.pow_succ] at h
        exact Nat.div_lt_of_lt_mul (by rw [Nat.mul_comm]; exact h)
      have : (UInt8.ofNat (v % 128 + 128)).toNat = v % 128 + 128 := by simp; omega
      rw [vb_big _ _ (by omega)]
      simp only [val, this, ih _ hd]; omega

theorem val_enc (n : Nat) (h : n < 2 ^ 64) : val (enc n) = n := val_vb 9 n (by omega)

/-- Where the first byte below 128 stands in the bytes of a number. -/
theorem enc_shape (n k : Nat) (h : n < 2 ^ 64) (b : UInt8) (hb : (enc n)[k]? = some b) : (k + 1 < (enc n).length → 128 ≤ b.toNat) ∧ (k + 1 = (enc n).length → b.toNat < 128 ∧ (k = 9 → b.toNat ≤ 1)) := by
  constructor
  · intro hk
    have := vb_get 9 n k hk
    unfold enc at hb
    rw [this] at hb
    obtain rfl := Option.some.inj hb
    have : (UInt8.ofNat (n / 128 ^ k % 128 + 128)).toNat = n / 128 ^ k % 128 + 128 := by simp; omega
    omega
  · intro hk
    have h1 := vb_last 9 n k hk
    have h2 := vb_top 9 n k (by omega) hk
    unfold enc at hb
    rw [h1] at hb
    obtain rfl := Option.some.inj hb
    have : (UInt8.ofNat (n / 128 ^ k)).toNat = n / 128 ^ k := by simp; omega
    refine ⟨by omega, ?_⟩
    rintro rfl
    have : (128 : Nat) ^ 9 = 9223372036854775808 := by decide
    omega

/-- Bytes ahead of the place k are 128 at least. -/
def Long (l : List UInt8) (k : Nat) : Prop := ∀ j b, j < k → l[j]? = some b → 128 ≤ b.toNat

/-- A number that stands there ends at the first byte below 128. -/
theorem dec_end (l : List UInt8) (k n m : Nat) (hL : Long l k) (hd : dec l = some (n, m)) : k < m ∧ n < 2 ^ 64 ∧ m ≤ 10 ∧ m ≤ l.length ∧ l.take m = enc n ∧ (∀ b, l[k]? = some b → b.toNat < 128 → m = k + 1) := by
  obtain ⟨hn, hm, ht, hl, h1⟩ := enc_dec l n m hd
  have hle := enc_len n
  have get : ∀ j, j < m → (enc n)[j]? = l[j]? := by
    intro j hj
    rw [← ht, List.getElem?_take, if_pos hj]
  have hkm : k < m := by
    rcases Nat.lt_or_ge k m with h | h
    · exact h
    · have hlt : m - 1 < l.length := by omega
      have hg := get (m - 1) (by omega)
      rw [List.getElem?_eq_getElem hlt] at hg
      have hs := (enc_shape n (m - 1) hn _ hg).2 (by omega)
      have := hL (m - 1) _ (by omega) (List.getElem?_eq_getElem hlt)
      omega
  refine ⟨hkm, hn, by omega, hl, ht, ?_⟩
  intro b hb hb128
  have hg := get k hkm
  rw [hb] at hg
  have hs := (enc_shape n k hn b hg).1
  omega

/-- No byte below 128: no number. -/
theorem dec_open (l : List UInt8) (hL : Long l l.length) : dec l = none := by
  cases hd : dec l with
  | none => rfl
  | some p =>
    obtain ⟨n, m⟩ := p
    have := dec_end l l.length n m hL hd
    omega

/-- Too long. -/
theorem dec_long (l : List UInt8) (k : Nat) (hL : Long l k) (hk : 9 < k) : dec l = none := by
  cases hd : dec l with
  | none => rfl
  | some p =>
    obtain ⟨n, m⟩ := p
    have := dec_end l k n m hL hd
    omega

/-- Ten bytes, the last one above 1. -/
theorem dec_ten (l : List UInt8) (b : UInt8) (hL : Long l 9) (hb : l[9]? = some b) (h1 : b.toNat < 128) (h2 : 1 < b.toNat) : dec l = none := by
  cases hd : dec l with
  | none => rfl
  | some p =>
    obtain ⟨n, m⟩ := p
    obtain ⟨g1, g2, g3, g4, g5, g6⟩ := dec_end l 9 n m hL hd
    have hm := g6 b hb h1
    have hg : (enc n)[9]? = some b := by rw [← g5, List.getElem?_take, if_pos (by omega)]; exact hb
    have hlen : (enc n).length = m := by rw [← g5, List.length_take]; omega
    have hs := (enc_shape n 9 g2 b hg).2 (by omega)
    have := hs.2 rfl
    omega

/-- What the bytes up to the first one below 128 are worth. -/
theorem val_small (l : List UInt8) (k : Nat) (hk : k ≤ 9) (b : UInt8) (hb : l[k]? = some b) (h9 : k = 9 → b.toNat ≤ 1) : val (l.take (k + 1)) < 2 ^ 64 := by
  have hlt := (List.getElem?_eq_some_iff.1 hb).1
  rcases Nat.lt_or_ge k 9 with h | h
  · have h1 := val_lt (l.take (k + 1))
    have h2 : (l.take (k + 1)).length = k + 1 := by rw [List.length_take]; omega
    rw [h2] at h1
    have h3 : 128 ^ (k + 1) ≤ 128 ^ 9 := Nat.pow_le_pow_right (by omega) (by omega)
    have : (128 : Nat) ^ 9 = 9223372036854775808 := by decide
    omega
  · obtain rfl : k = 9 := by omega
    have e : l.take (9 + 1) = l.take 9 ++ [b] := by rw [List.take_add_one, hb]; rfl
    have h2 : (l.take 9).length = 9 := by rw [List.length_take]; omega
    have h1 := val_lt (l.take 9)
    rw [e, val_app, h2]
    rw [h2] at h1
    have hb1 := h9 rfl
    have : (128 : Nat) ^ 9 = 9223372036854775808 := by decide
    rw [this] at h1 ⊢
    simp only [val]
    omega

/-- The bytes were written so: it is the number. -/
theorem dec_same (l : List UInt8) (k : Nat) (hk : k < l.length) (hv : val (l.take (k + 1)) < 2 ^ 64) (he : enc (val (l.take (k + 1))) = l.take (k + 1)) : dec l = some (val (l.take (k + 1)), k + 1) := by
  have h := dec_enc (val (l.take (k + 1))) hv (l.drop (k + 1))
  have e : enc (val (l.take (k + 1))) ++ l.drop (k + 1) = l := by rw [he, List.take_append_drop]
  have hl : (enc (val (l.take (k + 1)))).length = k + 1 := by rw [he, List.length_take]; omega
  rw [e, hl] at h
  exact h

/-- They were not: there is none. -/
theorem dec_other (l : List UInt8) (k : Nat) (hL : Long l k) (b : UInt8) (hb : l[k]? = some b) (h1 : b.toNat < 128) (he : enc (val (l.take (k + 1))) ≠ l.take (k + 1)) : dec l = none := by
  cases hd : dec l with
  | none => rfl
  | some p =>
    obtain ⟨n, m⟩ := p
    obtain ⟨g1, g2, g3, g4, g5, g6⟩ := dec_end l k n m hL hd
    have hm := g6 b hb h1
    subst hm
    exfalso
    apply he
    rw [g5, val_enc n g2]

end Vi
end Go.Proofs.YtbhngncnhabbkaaGreat
