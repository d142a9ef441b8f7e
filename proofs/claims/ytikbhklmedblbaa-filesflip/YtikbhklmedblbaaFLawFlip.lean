/- FilesFlip: for every slice of acts, two uint16 and uint8 the call returns true: a byte that is turned over is that alone, and turned over once more what it was (P6.4). No conditions. -/
import Derived.Test.YtikbhklmedblbaaFAll
namespace Go.Proofs.Ytikbhklmedblbaa
open Go.ChangeShapes Go.WideShapes Go.ChangeAt Go.RowKit

theorem put_split {α : Type} {l : List (ByteArray × α)} (hs : Fi.Sorted l) {n : ByteArray} {a : α} (h : Fi.find l n = some a) : ∃ pre post, l = pre ++ (n, a) :: post ∧ ∀ b, Fi.put l n b = pre ++ (n, b) :: post := by
  induction l with
  | nil => cases h
  | cons p r ih =>
    obtain ⟨h1, h2⟩ := List.pairwise_cons.1 hs
    by_cases hp : p.1 = n
    · subst hp
      rw [Fi.find, if_pos rfl] at h
      cases h
      have hn : Fi.find r p.1 = none := Fi.find_of_none fun q hq => (Fi.lt_ne (h1 q hq)).symm
      refine ⟨[], r, rfl, fun b => ?_⟩
      rw [Fi.put, Fi.del_cons_same, Fi.del_none hn, Fi.ins_head (x := (p.1, b)) h1]; rfl
    · rw [Fi.find, if_neg hp] at h
      have hm := h1 _ (Fi.find_mem h)
      obtain ⟨pre, post, e1, e2⟩ := ih h2 h
      refine ⟨p :: pre, post, by rw [e1]; rfl, fun b => ?_⟩
      have : Fi.put (p :: r) n b = p :: Fi.put r n b := by
        rw [Fi.put, Fi.del_cons_other hp, Fi.ins, if_neg (by rw [Fi.lt_asymm hm]; simp)]; rfl
      rw [this, e2 b]; rfl

theorem pagesOf_set (n : ByteArray) (s : ByteArray) : ∀ (r : List ByteArray) (i : Nat), pagesOf (n, r.set i s) = (pagesOf (n, r)).set (2 * i + 1) s
  | [], i => by simp [pagesOf]
  | t :: r, 0 => by simp [pagesOf]
  | t :: r, i + 1 => by
    have ih := pagesOf_set n s r i
    have e (q : List ByteArray) : pagesOf (n, t :: q) = n :: t :: pagesOf (n, q) := by simp [pagesOf]
    rw [List.set_cons_succ, e, e, ih, show 2 * (i + 1) + 1 = (2 * i + 1) + 1 + 1 by omega, List.set_cons_succ, List.set_cons_succ]
theorem pagesOf_at (n : ByteArray) (r : List ByteArray) (i : Nat) (h : i < r.length) : (pagesOf (n, r)).getD (2 * i + 1) ByteArray.empty = r.getD i ByteArray.empty := by
  induction r generalizing i with
  | nil => simp at h
  | cons t r ih =>
    have e : pagesOf (n, t :: r) = n :: t :: pagesOf (n, r) := by simp [pagesOf]
    rw [e]
    cases i with
    | zero => rfl
    | succ i =>
      have := ih i (by simpa using h)
      rw [show 2 * (i + 1) + 1 = (2 * i + 1) + 1 + 1 by omega]
      simpa using this

theorem del_empty {st : Fi.St} (g : Fi.Good st) : Fi.del st.fs ⟨#[]⟩ = st.fs := by
  refine Fi.del_none (Fi.find_of_none fun p hp e => ?_)
  have := (g.each p hp).1
  rw [e, name_size (.inl (by decide))] at this
  cases this

theorem getD_set_same (l : List ByteArray) (k : Nat) (s : ByteArray) (h : k < l.length) : (l.set k s).getD k ByteArray.empty = s := by simp [List.getD, h]
theorem getD_set_other (l : List ByteArray) (k j : Nat) (s : ByteArray) (h : j ≠ k) : (l.set k s).getD j ByteArray.empty = l.getD j ByteArray.empty := by
  simp [List.getD, Ne.symm h]
theorem set_getD_self (l : List ByteArray) (k : Nat) : l.set k (l.getD k ByteArray.empty) = l := by
  by_cases h : k < l.length
  · simp [List.getD, h]
  · rw [List.set_eq_of_length_le (by omega)]

theorem turn_turn (s : ByteArray) (k : Nat) (x : UInt8) (h : k < s.size) : Fi.turn (Fi.turn s k x) k x = s := by
  have hl : k < s.data.toList.length := by simpa using h
  apply Fi.text_ext
  unfold Fi.turn
  simp only [List.set_set]
  rw [List.getD_eq_getElem?_getD, List.getD_eq_getElem?_getD, List.getElem?_set_self hl, List.getElem?_eq_getElem hl]
  simp only [Option.getD_some]
  rw [UInt8.xor_assoc, UInt8.xor_self, UInt8.xor_zero]
  exact List.set_getElem_self _
theorem turn_none (s : ByteArray) (k : Nat) (x : UInt8) (h : k < s.size) : Fi.turn s k x = s ↔ x = 0 := by
  have hl : k < s.data.toList.length := by simpa using h
  constructor
  · intro e
    have e1 : s.data.toList.set k (s.data.toList.getD k 0 ^^^ x) = s.data.toList := congrArg (fun t : ByteArray => t.data.toList) e
    have e2 := congrArg (fun q : List UInt8 => q[k]?) e1
    simp only [List.getElem?_set_self hl, List.getElem?_eq_getElem hl, Option.some.injEq] at e2
    rw [List.getD_eq_getElem?_getD, List.getElem?_eq_getElem hl] at e2
    simp only [Option.getD_some] at e2
    have e3 : s.data.toList[k] ^^^ (s.data.toList[k] ^^^ x) = s.data.toList[k] ^^^ s.data.toList[k] := by rw [e2]
    rw [← UInt8.xor_assoc, UInt8.xor_self, UInt8.zero_xor] at e3
    exact e3
  · rintro rfl
    apply Fi.text_ext
    unfold Fi.turn
    simp only [UInt8.xor_zero]
    rw [List.getD_eq_getElem?_getD, List.getElem?_eq_getElem hl]
    exact List.set_getElem_self _

/-- What is known of a page that is turned over, and turned over once more. -/
structure FF (S : Fi.St) (n : ByteArray) (i k : Nat) (x : UInt8) (sp s' : ByteArray) (fs' : Fi.Files) (was now : List ByteArray) (idx : Nat) : Prop where
  read1 : ∀ a : Int, 0 < a → Fi.read { S with ahead := a } n i = (sp, 0, { S with ahead := a - 1 })
  flip1 : ∀ a : Int, Fi.flip { S with ahead := a } n i k x = (0, ⟨S.room, a, fs'⟩)
  read2 : ∀ a : Int, 0 < a → Fi.read ⟨S.room, a, fs'⟩ n i = (s', 0, ⟨S.room, a - 1, fs'⟩)
  flip2 : ∀ a : Int, Fi.flip ⟨S.room, a, fs'⟩ n i k x = (0, { S with ahead := a })
  flip3 : ∀ a : Int, Fi.flip { S with ahead := a } n i (128 + k) x = (2, { S with ahead := a })
  flip4 : ∀ a : Int, Fi.flip { S with ahead := a } n (-1 - i) k x = (4, { S with ahead := a })
  all1 : allOf S.fs ⟨#[]⟩ = was
  all2 : allOf fs' ⟨#[]⟩ = now
  lt : idx < was.length
  was_at : was.getD idx ByteArray.empty = sp
  now_at : now.getD idx ByteArray.empty = s'
  same : ∀ j, j ≠ idx → now.getD j ByteArray.empty = was.getD j ByteArray.empty
  len : now.length = was.length
  short : was.length ≤ 8192
  size : sp.size = 128
  turned : s' = Fi.turn sp k x
  ne : s' = sp ↔ x = 0

theorem ff_any {S : Fi.St} (g : Fi.Good S) (n : ByteArray) (i k : Nat) (x : UInt8) (hi : i < (Fi.rows S.fs n).length) (hk : k < 128) : ∃ sp s' fs' was now idx, FF S n i k x sp s' fs' was now idx := by
  have hh (a : Int) : Fi.has { S with ahead := a } n i = true := Fi.has_iff.2 ⟨by omega, by show (i : Int) < (Fi.rows S.fs n).length; omega⟩
  obtain ⟨hnm, hfd, hps⟩ : Fi.isName n = true ∧ Fi.find S.fs n = some (Fi.rows S.fs n) ∧ ∀ s ∈ Fi.rows S.fs n, s.size = 128 := by
    rcases g.rows_each n with h3 | h3
    · rw [h3] at hi; simp at hi
    · exact h3
  obtain ⟨pre, post, e1, e2⟩ := put_split g.sorted hfd
  have hsz : ((Fi.rows S.fs n).getD i ByteArray.empty).size = 128 := hps _ (by rw [List.getD_eq_getElem?_getD, List.getElem?_eq_getElem hi]; exact List.getElem_mem hi)
  generalize hrow : Fi.rows S.fs n = row at *
  have hrow' (s : ByteArray) : Fi.rows (Fi.put S.fs n (row.set i s)) n = row.set i s := by unfold Fi.rows; rw [Fi.find_put_same]; rfl
  have hh2 (a : Int) (s : ByteArray) : Fi.has ⟨S.room, a, Fi.put S.fs n (row.set i s)⟩ n i = true := Fi.has_iff.2 ⟨by omega, by show (i : Int) < (Fi.rows (Fi.put S.fs n (row.set i s)) n).length; rw [hrow', List.length_set]; omega⟩
  have hpg (a : Int) : Fi.page { S with ahead := a } n i = row.getD i ByteArray.empty := by show (Fi.rows S.fs n).getD (i : Int).toNat _ = _; rw [hrow, Int.toNat_natCast]
  have hpg2 (a : Int) (s : ByteArray) : Fi.page ⟨S.room, a, Fi.put S.fs n (row.set i s)⟩ n i = s := by
    show (Fi.rows (Fi.put S.fs n (row.set i s)) n).getD (i : Int).toNat _ = _
    rw [hrow', Int.toNat_natCast, getD_set_same _ _ _ hi]
  have hput : ∀ r r', Fi.put (Fi.put S.fs n r) n r' = Fi.put S.fs n r' := fun r r' => by
    have : Fi.del (Fi.put S.fs n r) n = Fi.del S.fs n := by
      have h0 : ∀ p ∈ Fi.del S.fs n, p.1 ≠ n := fun p hp => (Fi.mem_del.1 hp).2
      rw [Fi.put]
      generalize Fi.del S.fs n = D at h0
      induction D with
      | nil => simp [Fi.ins, Fi.del]
      | cons y q ih =>
        have hy : y.1 ≠ n := h0 y (by simp)
        have hq : Fi.del q n = q := Fi.del_none (Fi.find_of_none fun p hp => h0 p (by simp [hp]))
        unfold Fi.ins
        split
        · have := Fi.del_cons_same ((n, r) : ByteArray × List ByteArray) (y :: q)
          simp only at this
          rw [this, Fi.del_cons_other hy, hq]
        · rw [Fi.del_cons_other hy, ih (fun p hp => h0 p (by simp [hp]))]
    rw [Fi.put, this]; rfl
  have hgood : Fi.Good { S with fs := Fi.put S.fs n (row.set i (Fi.turn (row.getD i ByteArray.empty) k x)) } := by
    refine Fi.good_put g hnm (fun e => ?_) (fun t ht => ?_) (by rw [List.length_set, hrow]; have := g.used; omega)
    · have := congrArg List.length e
      rw [List.length_set] at this
      simp at this
      rw [this] at hi; simp at hi
    · rcases List.mem_or_eq_of_mem_set ht with h2 | rfl
      · exact hps t h2
      · rw [Fi.turn_size]; exact hsz
  have hw : allOf S.fs ⟨#[]⟩ = pre.flatMap pagesOf ++ (pagesOf (n, row) ++ post.flatMap pagesOf) := by
    unfold allOf
    rw [del_empty g, e1, List.flatMap_append, List.flatMap_cons]
  have hn2 : allOf (Fi.put S.fs n (row.set i (Fi.turn (row.getD i ByteArray.empty) k x))) ⟨#[]⟩ = (allOf S.fs ⟨#[]⟩).set ((pre.flatMap pagesOf).length + (2 * i + 1)) (Fi.turn (row.getD i ByteArray.empty) k x) := by
    rw [hw]
    unfold allOf
    rw [del_empty hgood, e2, List.flatMap_append, List.flatMap_cons, pagesOf_set, List.set_append_right _ _ (by omega), Nat.add_sub_cancel_left, List.set_append_left _ _ (by rw [pagesOf_length]; simp only; omega)]
  have hidx : (pre.flatMap pagesOf).length + (2 * i + 1) < (allOf S.fs ⟨#[]⟩).length := by
    rw [hw, List.length_append, List.length_append, pagesOf_length]; simp only; omega
  have hwa : (allOf S.fs ⟨#[]⟩).getD ((pre.flatMap pagesOf).length + (2 * i + 1)) ByteArray.empty = row.getD i ByteArray.empty := by
    rw [hw, List.getD_eq_getElem?_getD, List.getElem?_append_right (by omega), Nat.add_sub_cancel_left, List.getElem?_append_left (by rw [pagesOf_length]; simp only; omega), ← List.getD_eq_getElem?_getD]
    exact pagesOf_at n row i hi
  refine ⟨row.getD i ByteArray.empty, Fi.turn (row.getD i ByteArray.empty) k x, Fi.put S.fs n (row.set i (Fi.turn (row.getD i ByteArray.empty) k x)), allOf S.fs ⟨#[]⟩, allOf (Fi.put S.fs n (row.set i (Fi.turn (row.getD i ByteArray.empty) k x))) ⟨#[]⟩, (pre.flatMap pagesOf).length + (2 * i + 1), ?_⟩
  constructor
  · intro a ha
    exact all_read hrow hi ha
  · intro a
    have := flip_ok (x := x) (hh a) hk
    rw [this, hpg a]
    show ((0 : Int), Fi.St.mk S.room a (Fi.put S.fs n ((Fi.rows S.fs n).set i _))) = _
    rw [hrow]
  · intro a ha
    have := read_next (hh2 a (Fi.turn (row.getD i ByteArray.empty) k x)) ha
    rw [this, hpg2]
  · intro a
    have := flip_ok (x := x) (hh2 a (Fi.turn (row.getD i ByteArray.empty) k x)) hk
    rw [this, hpg2, turn_turn _ _ _ (by omega)]
    show ((0 : Int), Fi.St.mk S.room a (Fi.put (Fi.put S.fs n _) n ((Fi.rows (Fi.put S.fs n _) n).set i _))) = _
    rw [hrow', List.set_set, set_getD_self, hput, Fi.put_same g.sorted hfd]
  · intro a
    exact flip_arg (hh a) (.inr (by omega))
  · intro a
    refine flip_none ?_
    cases hc : Fi.has { S with ahead := a } n (-1 - i) with
    | false => rfl
    | true => have := (Fi.has_iff.1 hc).1; omega
  · rfl
  · rfl
  · exact hidx
  · exact hwa
  · rw [hn2, getD_set_same _ _ _ hidx]
  · intro j hj
    rw [hn2, getD_set_other _ _ _ _ hj]
  · rw [hn2, List.length_set]
  · rw [allOf_length, del_empty g]
    have := g.used; have := g.room2; omega
  · exact hsz
  · rfl
  · exact turn_none _ _ _ (by omega)


theorem Turn.also {o o' : Nat → Prop} {W W' : World} (h : Turn o W o' W') (B : Nat) : Turn (fun i => o i ∨ i = B) W (fun i => o' i ∨ i = B) W' where
  os := h.os
  tape := h.tape
  output := h.output
  size := h.size
  block := fun i hi hn => h.block i hi fun ho => hn (.inl ho)
  grows := fun i hi => by
    rcases hi with hi | hi
    · rcases h.grows i hi with h1 | h1
      · exact .inl (.inl h1)
      · exact .inr h1
    · exact .inl (.inr hi)
theorem Lies.turn {o o' : Nat → Prop} {W W' : World} {B : Nat} {l : List UInt8} (h : Lies W B l) (ht : Turn o W o' W') (hlt : B < W.heap.size) (nb : ¬ o B) : Lies W' B l :=
  ⟨fun k hk => ht.cell (h.cell k hk) nb, fun k hk => by rw [World.frozen?_of_block (a := ⟨B, k, none⟩) (ht.block B hlt nb)]; exact h.free k hk⟩

/-- The file system, what all pages were, and the bytes of one. -/
structure FlipIn (wB W : World) (p : Nat) (o : Nat → Prop) (st : Fi.St) (vw : Value) (was : List ByteArray) (B : Nat) (bs : List UInt8) : Prop where
  fs : FsIn wB W p o st
  was : StrsIn W (fun b => ¬ (o b ∨ b = B)) vw was
  nb : ¬ o B
  lies : Lies W B bs
  new : wB.heap.size ≤ B
  lt : B < W.heap.size
theorem FlipIn.turn {wB W W' : World} {p : Nat} {o o' : Nat → Prop} {st st' : Fi.St} {vw : Value} {was : List ByteArray} {B : Nat} {bs : List UInt8} (h : FlipIn wB W p o st vw was B bs) (hs : Sys W' p o' st') (ht : Turn o W o' W') : FlipIn wB W' p o' st' vw was B bs :=
  ⟨h.fs.turn hs ht, h.was.turn (ht.also B), (fun h' => by rcases ht.grows B h' with h1 | h1; exact h.nb h1; have := h.lt; omega), h.lies.turn ht h.lt h.nb, h.new, Nat.lt_of_lt_of_le h.lt ht.size⟩
theorem FlipIn.later {wB W W' : World} {p : Nat} {o : Nat → Prop} {st : Fi.St} {vw : Value} {was : List ByteArray} {B : Nat} {bs : List UInt8} (h : FlipIn wB W p o st vw was B bs) (hb : Below W.heap.size W W') : FlipIn wB W' p o st vw was B bs :=
  h.turn (h.fs.sys.later hb) (Turn.below hb)
theorem FlipIn.store {wB W : World} {p : Nat} {o : Nat → Prop} {st : Fi.St} {vw : Value} {was : List ByteArray} {B : Nat} {bs : List UInt8} (h : FlipIn wB W p o st vw was B bs) (k : Nat) (c : UInt8) (hk : k < bs.length) : FlipIn wB (W.setCell ⟨B, k, none⟩ (.int .u8 (c.toNat : Int))) p o st vw was B (bs.set k c) := by
  have ht : Turn (fun i => o i ∨ i = B) W (fun i => o i ∨ i = B) (W.setCell ⟨B, k, none⟩ (.int .u8 (c.toNat : Int))) := turn_set (a := ⟨B, k, none⟩) (.inr rfl) _
  have hg : W.grownBy (W.setCell ⟨B, k, none⟩ (.int .u8 (c.toNat : Int))) (some B) := ⟨rfl, rfl, rfl, ht.size, fun i _ hi => Below.heap_setCell _ _ _ _ fun e => hi (by rw [e])⟩
  refine ⟨⟨h.fs.sys.grown hg fun i hi e => ?_, h.fs.below.setCell (p := ⟨B, k, none⟩) h.new _, h.fs.new⟩, h.was.turn ht, h.nb, h.lies.store k c hk, h.new, Nat.lt_of_lt_of_le h.lt ht.size⟩
  simp only [Option.some.injEq] at e
  exact h.nb (e ▸ hi)

theorem two_u16 (w : World) (n0 n1 : Nat) (W : World) (hb : Below (w.alloc (.cells #[.int .u16 n0, .int .u16 n1] 64)).heap.size (w.alloc (.cells #[.int .u16 n0, .int .u16 n1] 64)) W) :
    W.cell? ⟨w.heap.size, 0, none⟩ = some (.int .u16 n0) ∧ W.cell? ⟨w.heap.size, 1, none⟩ = some (.int .u16 n1) := by
  have hbk := heap_alloc_new w (.cells #[.int .u16 n0, .int .u16 n1] 64)
  have hc (q : Nat) : (w.alloc (.cells #[.int .u16 n0, .int .u16 n1] 64)).cell? ⟨w.heap.size, q, none⟩ = #[Value.int .u16 n0, .int .u16 n1][q]? := by
    unfold World.cell?
    simp only []
    rw [hbk]
    rfl
  exact ⟨cell_after hb (hc 0), cell_after hb (hc 1)⟩

/-- How many are unlike, of the first k. -/
def cntF (idx k : Nat) (bx : Bool) : Int := if idx < k ∧ bx = true then 1 else 0
theorem cntF_same {idx k : Nat} {bx : Bool} (h : k ≠ idx ∨ bx = false) : cntF idx (k + 1) bx = cntF idx k bx := by
  unfold cntF
  rcases h with h | h
  · have : (idx < k + 1 ∧ bx = true) ↔ (idx < k ∧ bx = true) := ⟨fun h1 => ⟨by omega, h1.2⟩, fun h1 => ⟨by omega, h1.2⟩⟩
    simp only [this]
  · simp [h]
theorem cntF_more (idx : Nat) : cntF idx (idx + 1) true = cntF idx idx true + 1 := by simp [cntF]
theorem cntF_bound (idx k : Nat) (bx : Bool) : 0 ≤ cntF idx k bx ∧ cntF idx k bx ≤ 1 := by unfold cntF; split <;> omega

set_option maxRecDepth 100000 in
set_option maxHeartbeats 2000000 in
theorem filesFlip_walk (v : Value) (l : List Deed) (n0 n1 : Nat) (x0 : Int) (w : World) (h : Acts w v l) (hl : l.length ≤ 9223372036854775807) (hn0 : n0 < 65536) (hn1 : n1 < 65536) (hx0 : (Lit.int .u8 x0).wf = true) :
    Calls Try.prog 8 #[v, .agg #[.int .u16 n0, .int .u16 n1], .int .u8 x0] w fun e w' => e = .returned (.bool true) ∧ Below w.heap.size w w' := by
  obtain ⟨xn, rfl, hxn⟩ := wf_u8 hx0
  clear hx0
  obtain ⟨x, rfl⟩ : ∃ x : UInt8, x.toNat = xn := ⟨UInt8.ofNat xn, by simp; omega⟩
  have hbx : Below w.heap.size w (w.alloc (.cells #[.int .u16 n0, .int .u16 n1] 64)) := (Below.refl _ w).alloc (Nat.le_refl _) _
  have HG : Hid (Calls _ _ _ _ _) := greatDeeds_any v l 60 _ (h.later hbx) hl (by decide)
  cases hf : fewDeeds l 60 with
  | false =>
    rw [hf] at HG
    have HBX : Hid (Below _ _ _) := hbx
    obtain ⟨a, cap, rfl, _, _⟩ := h
    clear hf hl hbx
    generalize l.length = m at *
    generalize (x.toNat : Int) = X at *
    go_enter Try.func8, Try.ntmps8
    go_wp2_with fail
    refine Calls.mono HG.out ?_
    rintro e w1 ⟨rfl, rfl⟩
    go_wp2
    go_ret
    exact ⟨rfl, HBX.out⟩
  | true =>
    rw [hf] at HG
    have HPL : Hid (Calls _ _ _ _ _) := played_any v l _ (h.later hbx) hf
    have HBX2 : Hid (∀ W, Below (w.alloc (.cells #[.int .u16 n0, .int .u16 n1] 64)).heap.size (w.alloc (.cells #[.int .u16 n0, .int .u16 n1] 64)) W → Below w.heap.size w W) := fun W hb => hbx.trans (hb.mono hbx.size)
    have HCW : Hid (∀ W, Below (w.alloc (.cells #[.int .u16 n0, .int .u16 n1] 64)).heap.size (w.alloc (.cells #[.int .u16 n0, .int .u16 n1] 64)) W → _) := fun W hb => two_u16 w n0 n1 W hb
    have HD : Hid (∀ W, Calls _ _ _ _ _) := fun W => does_any W
    generalize playAll ⟨60, -1, []⟩ l = S at HPL
    obtain ⟨a, cap, rfl, _, _⟩ := h
    clear hf hl hbx
    generalize l.length = m at *
    obtain ⟨wB, HWB⟩ : ∃ wB, w.alloc (.cells #[.int .u16 n0, .int .u16 n1] 64) = wB := ⟨_, rfl⟩
    rw [HWB] at HG HPL HBX2 HCW
    go_enter Try.func8, Try.ntmps8
    go_wp2_with fail
    refine Calls.mono HG.out ?_
    rintro e w1 ⟨rfl, rfl⟩
    clear HG
    go_wp2_with fail
    refine Calls.mono HPL.out ?_
    rintro e w2 ⟨p, o, rfl, hF⟩
    have F2 : Hid (FsIn w1 w2 p o S) := hF
    have HNA : Hid (Calls _ _ _ _ _) := names_any w2 hF.sys
    clear hF HPL HWB
    go_wp2_with fail
    refine Calls.mono HNA.out ?_
    rintro e w3 ⟨vn, rfl, hsn, hbn⟩
    have F3 : Hid (FsIn w1 w3 p o S) := F2.out.later hbn
    obtain ⟨an, capn, rfl, hcapn, hvn⟩ := hsn
    clear hbn HNA F2
    by_cases hz : (Fi.names S.fs).length = 0
    · rw [hz]
      clear hvn hz
      go_wp2_with fail
      refine (HD.out _).mono ?_
      rintro e w4 ⟨rfl, hb4⟩
      have F4 : Hid (Below w.heap.size w w4) := HBX2.out _ (bnext F3.out.below hb4)
      clear hb4 F3
      go_wp2
      go_ret
      exact ⟨rfl, F4.out⟩
    · obtain ⟨q, hq⟩ : ∃ q, (Fi.names S.fs).length = q + 1 := ⟨(Fi.names S.fs).length - 1, by omega⟩
      have hgood := F3.out.sys.good
      obtain ⟨bn, offn, rfl, hcn⟩ : ∃ bn offn, an = some ⟨bn, offn, none⟩ ∧ ∀ j, j < (Fi.names S.fs).length → w3.cell? ⟨bn, offn + j, none⟩ = some (.string ((Fi.names S.fs).getD j ByteArray.empty)) := by
        rcases hvn with h' | ⟨b, off, h1, _, h2⟩
        · rw [h'] at hz; simp at hz
        · exact ⟨b, off, h1, h2⟩
      clear hvn
      have hq4 : q + 1 ≤ 4096 := by
        have h1 := hgood.count
        have h2 := hgood.room2
        have h3 : (Fi.names S.fs).length = S.fs.length := by simp [Fi.names]
        omega
      obtain ⟨j, hj, hjq⟩ : ∃ j : Nat, (n0 : Int) % ((q : Int) + 1) = (j : Int) ∧ j < q + 1 := ⟨n0 % (q + 1), by simp, Nat.mod_lt _ (by omega)⟩
      have hcj := hcn j (by omega)
      obtain ⟨hnm, hrl⟩ : Fi.isName ((Fi.names S.fs).getD j ByteArray.empty) = true ∧ 1 ≤ (Fi.rows S.fs ((Fi.names S.fs).getD j ByteArray.empty)).length := by
        have hjl : j < S.fs.length := by simpa [Fi.names] using (show j < (Fi.names S.fs).length by omega)
        have hat : (Fi.names S.fs).getD j ByteArray.empty = (S.fs[j]).1 := by simp [Fi.names, List.getD, hjl]
        have he := hgood.each _ (List.getElem_mem hjl)
        have hfd : Fi.find S.fs (S.fs[j]).1 = some (S.fs[j]).2 := Fi.find_of_mem hgood.sorted (List.getElem_mem hjl)
        rw [hat]
        refine ⟨he.1, ?_⟩
        unfold Fi.rows
        rw [hfd]
        exact List.length_pos_iff.2 he.2.1
      have hnb := name_bound hnm
      have hmx : ((Fi.names S.fs).getD j ByteArray.empty).size ≤ maxLen := by unfold maxLen; omega
      obtain ⟨r, hr⟩ : ∃ r, (Fi.rows S.fs ((Fi.names S.fs).getD j ByteArray.empty)).length = r + 1 := ⟨(Fi.rows S.fs ((Fi.names S.fs).getD j ByteArray.empty)).length - 1, by omega⟩
      have hr4 : r + 1 ≤ 4096 := by have := hgood.rows_le ((Fi.names S.fs).getD j ByteArray.empty); have := hgood.room2; omega
      obtain ⟨i, hi, hir⟩ : ∃ i : Nat, (n1 : Int) % ((r : Int) + 1) = (i : Int) ∧ i < r + 1 := ⟨n1 % (r + 1), by simp, Nat.mod_lt _ (by omega)⟩
      obtain ⟨k, hk, hk128⟩ : ∃ k : Nat, (n1 : Int) / 64 % 128 = (k : Int) ∧ k < 128 := ⟨n1 / 64 % 128, by omega, by omega⟩
      obtain ⟨sp, s', fs', was, now, idx, hff⟩ := ff_any hgood ((Fi.names S.fs).getD j ByteArray.empty) i k x (by omega) hk128
      have HFF : Hid (FF _ _ _ _ _ _ _ _ _ _ _) := hff
      have HRR : Hid (_ = _) := hr
      have hgood : Hid (Fi.Good S) := hgood
      rw [hq]
      clear hcn hnm hrl hnb hff hr hz
      generalize (Fi.names S.fs).getD j ByteArray.empty = NM at *
      have hcb := HCW.out w3 F3.out.below
      have hcb0 := hcb.1
      have hi0' : (0 : Int) ≤ (j : Int) := Int.natCast_nonneg _
      have hi1' : (j : Int) < ((q : Int) + 1) := by omega
      clear hq
      go_wp2_with fail
      have HPG : Hid (∀ y : Later w3, Calls Try.prog 18 #[.pointer (some ⟨p, 0, none⟩), .string NM] y.world fun e w' => e = .returned (.int .i64 ((r : Int) + 1)) ∧ w' = y.world) := fun y => by
        have := pages_any NM y.world (F3.out.sys.later y.below) hmx
        rw [HRR.out] at this
        exact this
      have hd1 := Later.cell hcb.2
      have hne := Later.some w3
      clear hcb hcb0 hcj
      refine wp_region_later (by kernel_rfl) (by kernel_rfl) ?_
      repeat (go_big_quiet_step ((go_at_call 18; exact Later.same (HPG.out _))))
      refine wpQuiet_nil ?_
      intro w4 hw4
      obtain ⟨⟨w4, hb4⟩, rfl⟩ := hw4
      have F4 : Hid (FsIn w1 w4 p o S) := F3.out.later hb4
      clear hb4 hd1 hne HPG F3
      have HAL : Hid (Calls _ _ _ _ _) := all_any ⟨#[]⟩ w4 F4.out.sys
      rw [HFF.out.all1] at HAL
      go_wp2_with fail
      refine Calls.mono HAL.out ?_
      rintro e w5 ⟨vw, a5, rfl, hv5, hs5, ha5, ht5⟩
      have F5 : Hid (FsIn w1 w5 p o { S with ahead := a5 }) := F4.out.turn hs5 ht5
      have HW5 : Hid (StrsIn w5 (fun b => ¬ o b) vw was) := hv5.imp fun b _ h1 h2 => by have := F4.out.sys.lt b h2; omega
      obtain ⟨aw, capw, rfl, hcapw, _⟩ := hv5
      clear hs5 ht5 F4 HAL
      have HRD : Hid (Calls _ _ _ _ _) := read_any NM (i : Int) w5 F5.out.sys hmx
      rw [HFF.out.read1 a5 (by omega)] at HRD
      go_wp2_with fail
      refine Calls.mono HRD.out ?_
      rintro e w6 ⟨rfl, hs6, ht6⟩
      have F6 : Hid (FsIn w1 w6 p o { S with ahead := a5 - 1 }) := F5.out.turn hs6 ht6
      have HW6 : Hid (StrsIn w6 (fun b => ¬ o b) _ was) := HW5.out.turn ht6
      clear hs6 ht6 F5 HW5 HRD
      obtain ⟨cap7, w7, hcv, hli, hb7⟩ := bytes_new w6 sp
      rw [HFF.out.size] at hcv
      have hfl7 : FlipIn w1 w7 p o { S with ahead := a5 - 1 } (.slice aw was.length capw) was w6.heap.size sp.data.toList := by
        have hlt : w6.heap.size < w7.heap.size := World.block_lt_of_cell? _ _ (hli.cell 0 (by rw [size_list, HFF.out.size]; decide))
        exact ⟨F6.out.later hb7, (HW6.out.imp fun b hb h1 h2 => by rcases h2 with h2 | h2; exact h1 h2; omega).later hb7, fun h2 => by have := F6.out.sys.lt _ h2; omega, hli, F6.out.below.size, hlt⟩
      have L7 : Hid (FlipIn _ _ _ _ _ _ _ _ _) := hfl7
      have HF1 : Hid (Calls _ _ _ _ _) := flip_any NM (i : Int) (k : Int) x w7 hfl7.fs.sys hmx
      rw [HFF.out.flip1] at HF1
      clear hli hb7 F6 HW6 hfl7
      generalize w6.heap.size = B at *
      go_wp2_with fail
      refine Calls.mono HF1.out ?_
      rintro e w8 ⟨o8, rfl, hs8, ht8⟩
      have L8 : Hid (FlipIn w1 w8 p o8 ⟨S.room, a5 - 1, fs'⟩ _ was B _) := L7.out.turn hs8 ht8
      clear hs8 ht8 L7 HF1 hcv
      have hkl : k < sp.data.toList.length := by rw [size_list, HFF.out.size]; exact hk128
      have c8 := L8.out.lies.cell k hkl
      have f8 := L8.out.lies.free k hkl
      have hxr : bits .xor .u8 (sp.data.toList[k].toNat : Int) (x.toNat : Int) = ((sp.data.toList[k] ^^^ x).toNat : Int) := by
        rw [UInt8.toNat_xor]
        exact u8_xor_nat _ _ (UInt8.toNat_lt _) (UInt8.toNat_lt _)
      have hst9 := L8.out.store k (sp.data.toList[k] ^^^ x) hkl
      have htl := turn_list sp k x (by rw [HFF.out.size]; exact hk128)
      rw [← HFF.out.turned] at htl
      have hbl : (sp.data.toList.set k (sp.data.toList[k] ^^^ x)).length = 128 := by rw [List.length_set, size_list, HFF.out.size]
      generalize hbs : sp.data.toList.set k (sp.data.toList[k] ^^^ x) = bs9 at *
      clear hbs
      generalize ((sp.data.toList[k] ^^^ x).toNat : Int) = Y at *
      generalize (sp.data.toList[k].toNat : Int) = Z at *
      have HTL : Hid ((⟨bs9.toArray⟩ : ByteArray) = s') := htl
      have HBL : Hid (bs9.length = 128) := hbl
      obtain ⟨w9, HW9⟩ : ∃ w9, w8.setCell ⟨B, k, none⟩ (.int .u8 Y) = w9 := ⟨_, rfl⟩
      rw [HW9] at hst9
      have L9 : Hid (FlipIn w1 w9 p o8 ⟨S.room, a5 - 1, fs'⟩ _ was B bs9) := hst9
      clear hst9 htl hbl L8 hkl
      have HRD : Hid (Calls _ _ _ _ _) := read_any NM (i : Int) w9 L9.out.fs.sys hmx
      rw [HFF.out.read2 _ (by omega)] at HRD
      go_wp2_with fail
      refine Calls.mono HRD.out ?_
      rintro e w10 ⟨rfl, hs10, ht10⟩
      have L10 : Hid (FlipIn w1 w10 p o8 ⟨S.room, a5 - 1 - 1, fs'⟩ _ was B bs9) := L9.out.turn hs10 ht10
      clear hs10 ht10 L9 HRD HW9 c8 f8 hxr
      have HAL : Hid (Calls _ _ _ _ _) := all_any ⟨#[]⟩ w10 L10.out.fs.sys
      simp only [HFF.out.all2] at HAL
      go_wp2_with fail
      refine Calls.mono HAL.out ?_
      rintro e w11 ⟨vn, a11, rfl, hv11, hs11, ha11, ht11⟩
      have L11 : Hid (FlipIn w1 w11 p o8 ⟨S.room, a11, fs'⟩ _ was B bs9) := L10.out.turn hs11 ht11
      have HN11 : Hid (Strs w11 vn now) := hv11.strs
      clear hv11 hs11 ht11 L10 HAL
      obtain ⟨an2, capn2, rfl, hcapn2, _⟩ := HN11.out
      have hlen := HFF.out.len
      have hsht := HFF.out.short
      have hilt := HFF.out.lt
      have HLE : Hid (now.length = was.length) := hlen
      rw [hlen]
      -- the two lists' cells
      have HCN : Hid (∀ j, j < was.length → ∃ b off b' off', an2 = some ⟨b, off, none⟩ ∧ aw = some ⟨b', off', none⟩ ∧ w11.cell? ⟨b, off + j, none⟩ = some (.string (now.getD j ByteArray.empty)) ∧ w11.cell? ⟨b', off' + j, none⟩ = some (.string (was.getD j ByteArray.empty))) := by
        intro j hj
        obtain ⟨a1, c1, e1, _, h1⟩ := HN11.out
        obtain ⟨a2, c2, e2, _, h2⟩ := L11.out.was
        simp only [Value.slice.injEq] at e1 e2
        obtain ⟨rfl, _, rfl⟩ := e1
        obtain ⟨rfl, _, rfl⟩ := e2
        rcases h1 with h1 | ⟨b, off, rfl, h1⟩
        · rw [h1] at hlen; simp at hlen; omega
        · rcases h2 with h2 | ⟨b', off', rfl, _, h2⟩
          · rw [h2] at hj; simp at hj
          · exact ⟨b, off, b', off', rfl, rfl, h1 j (by omega), h2 j hj⟩
      clear hlen HN11
      obtain ⟨bx, hbx⟩ : ∃ bx : Bool, decide (x ≠ 0) = bx := ⟨_, rfl⟩
      have HBXN : Hid (bx = true → s' ≠ sp) := fun h1 h2 => by rw [← hbx] at h1; exact (of_decide_eq_true h1) (HFF.out.ne.1 h2)
      have HBXE : Hid (bx = false → s' = sp) := fun h1 => HFF.out.ne.2 (by rw [← hbx] at h1; simpa using h1)
      have HXZ : Hid (((x.toNat : Int) == 0) = !bx) := by
        show _ = _
        rw [← hbx]
        by_cases hx0 : x = 0
        · subst hx0; rfl
        · have : x.toNat ≠ 0 := fun e => hx0 (by apply UInt8.toNat_inj.1; rw [e]; rfl)
          rw [show ((x.toNat : Int) == 0) = false by rw [beq_eq_false_iff_ne]; omega, decide_eq_true hx0]; rfl
      clear hbx
      generalize hLW : was.length = LW at *
      have HLW0 : Hid (was.length = LW) := hLW
      clear hLW
      go_wp2
      go_loopw [18, 20] (fun y z wr => ∃ (t : Nat) (c : Int), t ≤ LW ∧ z = .int .i64 t ∧ y = .int .i64 c ∧ 0 ≤ c ∧ c ≤ 1 ∧ Hid (cntF idx t bx = c) ∧ Hid (Below w11.heap.size w11 wr)) (fun _ z _ => LW - (intOf z).toNat)
      case atStart => exact ⟨0, 0, Nat.zero_le _, rfl, rfl, by omega, by omega, (by show cntF idx 0 bx = 0; simp [cntF]), Below.refl _ _⟩
      case round =>
        obtain ⟨t, c, ht, rfl, rfl, hc0, hc1, HC, HB⟩ := hrel
        by_cases htl : t < LW
        · obtain ⟨b, off, b', off', rfl, rfl, h1, h2⟩ := HCN.out t htl
          have cn := cell_after HB.out h1
          have cw := cell_after HB.out h2
          have hbd := cntF_bound idx (t + 1) bx
          clear h1 h2
          have HBd : Hid (Below w11.heap.size w11 wr.drew) := HB.out.drew
          by_cases htx : t = idx ∧ bx = true
          · obtain ⟨rfl, rfl⟩ := htx
            rw [HFF.out.now_at] at cn
            rw [HFF.out.was_at] at cw
            have hneq := text_ne (HBXN.out rfl)
            have HC2 : Hid (cntF t (t + 1) true = c + 1) := (cntF_more t).trans (by rw [HC.out])
            have hc2 : c + 1 ≤ 1 := by have := HC2.out; omega
            clear HC hbd
            go_wp2
            go_region
            all_goals go_wp2
            go_roundw
            case rel => exact ⟨t + 1, c + 1, by omega, by go_num, by go_num, by omega, hc2, HC2, HBd⟩
            case measure => simp [intOf]; omega
          · have heq : now.getD t ByteArray.empty = was.getD t ByteArray.empty := by
              by_cases hti : t = idx
              · have hbf : bx = false := by
                  cases hb : bx with
                  | false => rfl
                  | true => exact absurd ⟨hti, hb⟩ htx
                subst hti
                rw [HFF.out.now_at, HFF.out.was_at]
                exact HBXE.out hbf
              · exact HFF.out.same t hti
            have HC2 : Hid (cntF idx (t + 1) bx = c) := (cntF_same (by
              by_cases hti : t = idx
              · right
                cases hb : bx with
                | false => rfl
                | true => exact absurd ⟨hti, hb⟩ htx
              · exact .inl hti)).trans HC.out
            rw [heq] at cn
            generalize was.getD t ByteArray.empty = sw at *
            clear HC hbd heq htx
            go_wp2
            go_region
            all_goals go_wp2
            go_roundw
            case rel => exact ⟨t + 1, c, by omega, by go_num, rfl, hc0, hc1, HC2, HBd⟩
            case measure => simp [intOf]; omega
        · obtain rfl : t = LW := by omega
          have L12 : Hid (FlipIn w1 wr p o8 ⟨S.room, a11, fs'⟩ _ was B bs9) := L11.out.later HB.out
          have hcv := conv_lies L12.out.lies cap7 HBL.out
          rw [HTL.out] at hcv
          have HFA : Hid (∀ (ii kk : Int) (W : World) (oo : Nat → Prop) (sx : Fi.St), Sys W p oo sx → Calls Try.prog 33 #[.pointer (some ⟨p, 0, none⟩), .string NM, .int .i64 ii, .int .i64 kk, .int .u8 (x.toNat : Int)] W fun e w' => ∃ o', e = .returned (.int .i64 (Fi.flip sx NM ii kk x).1) ∧ Sys w' p o' (Fi.flip sx NM ii kk x).2 ∧ Turn oo W o' w') := fun ii kk W oo sx hsx => flip_any NM ii kk x W hsx hmx
          have HX1 : Hid (bx = true → (x.toNat : Int) ≠ 0) := fun hb e => by have := HXZ.out; rw [hb, e] at this; cases this
          have HX2 : Hid (bx = false → (x.toNat : Int) = 0) := fun hb => by have := HXZ.out; rw [hb] at this; simpa using this
          clear HXZ
          generalize (x.toNat : Int) = X at HFA HX1 HX2 ⊢
          have HF2 : Hid (Calls _ _ _ _ _) := HFA.out (i : Int) (k : Int) wr _ _ L12.out.fs.sys
          rw [HFF.out.flip2] at HF2
          have HLW : Hid (was.length = t) := HLW0.out
          clear HB L11 HCN
          cases bx with
          | true =>
            have hc : c = 1 := by rw [← HC.out]; unfold cntF; rw [if_pos ⟨hilt, rfl⟩]
            subst hc
            have hX : X ≠ 0 := HX1.out rfl
            have hxz : (X == 0) = false := by rw [beq_eq_false_iff_ne]; exact hX
            have hxz2 : (X != 0) = true := by rw [bne, hxz]; rfl
            clear HC hc0 hc1
            go_wp2_with fail
            refine Calls.mono HF2.out ?_
            rintro e w13 ⟨o13, rfl, hs13, ht13⟩
            have L13 : Hid (FlipIn w1 w13 p o13 { S with ahead := a11 } _ was B bs9) := L12.out.turn hs13 ht13
            clear hs13 ht13 L12 HF2 hcv
            have HAL : Hid (Calls _ _ _ _ _) := all_any ⟨#[]⟩ w13 L13.out.fs.sys
            simp only [HFF.out.all1] at HAL
            go_wp2_with fail
            refine Calls.mono HAL.out ?_
            rintro e w14 ⟨v14, a14, rfl, hv14, hs14, ha14, ht14⟩
            have L14 : Hid (FlipIn w1 w14 p o13 { S with ahead := a14 } _ was B bs9) := L13.out.turn hs14 ht14
            have HTX : Hid (Calls Try.prog 15 #[v14, .slice aw t capw] w14 fun e w' => e = .returned (.bool true) ∧ Below w14.heap.size w14 w') := by
              have := texts_any v14 _ was was w14 hv14.strs L14.out.was.strs (by rw [HLW.out]; omega) (by rw [HLW.out]; omega)
              rwa [decide_eq_true rfl] at this
            clear hv14 hs14 ht14 L13 HAL
            go_wp2_with fail
            refine Calls.mono HTX.out ?_
            rintro e w15 ⟨rfl, hb15⟩
            have L15 : Hid (FlipIn w1 w15 p o13 { S with ahead := a14 } _ was B bs9) := L14.out.later hb15
            clear hb15 L14 HTX
            have HF3 : Hid (Calls _ _ _ _ _) := HFA.out (i : Int) (128 + (k : Int)) w15 _ _ L15.out.fs.sys
            rw [HFF.out.flip3] at HF3
            go_wp2_with fail
            refine Calls.mono HF3.out ?_
            rintro e w16 ⟨o16, rfl, hs16, ht16⟩
            have L16 : Hid (FlipIn w1 w16 p o16 { S with ahead := a14 } _ was B bs9) := L15.out.turn hs16 ht16
            clear hs16 ht16 L15 HF3
            have HF4 : Hid (Calls _ _ _ _ _) := HFA.out (-1 - (i : Int)) (k : Int) w16 _ _ L16.out.fs.sys
            rw [HFF.out.flip4] at HF4
            go_wp2_with fail
            refine Calls.mono HF4.out ?_
            rintro e w17 ⟨o17, rfl, hs17, ht17⟩
            have L17 : Hid (FlipIn w1 w17 p o17 { S with ahead := a14 } _ was B bs9) := L16.out.turn hs17 ht17
            clear hs17 ht17 L16 HF4
            go_wp2_with fail
            refine (HD.out _).mono ?_
            rintro e w18 ⟨rfl, hb18⟩
            have F18 : Hid (Below w.heap.size w w18) := HBX2.out _ (bnext L17.out.fs.below hb18)
            clear hb18 L17
            go_wp2
            go_ret
            exact ⟨rfl, F18.out⟩
          | false =>
            have hc : c = 0 := by rw [← HC.out]; unfold cntF; rw [if_neg (by simp)]
            subst hc
            obtain rfl : X = 0 := HX2.out rfl
            clear HC hc0 hc1
            go_wp2_with fail
            refine Calls.mono HF2.out ?_
            rintro e w13 ⟨o13, rfl, hs13, ht13⟩
            have L13 : Hid (FlipIn w1 w13 p o13 { S with ahead := a11 } _ was B bs9) := L12.out.turn hs13 ht13
            clear hs13 ht13 L12 HF2 hcv
            have HAL : Hid (Calls _ _ _ _ _) := all_any ⟨#[]⟩ w13 L13.out.fs.sys
            simp only [HFF.out.all1] at HAL
            go_wp2_with fail
            refine Calls.mono HAL.out ?_
            rintro e w14 ⟨v14, a14, rfl, hv14, hs14, ha14, ht14⟩
            have L14 : Hid (FlipIn w1 w14 p o13 { S with ahead := a14 } _ was B bs9) := L13.out.turn hs14 ht14
            have HTX : Hid (Calls Try.prog 15 #[v14, .slice aw t capw] w14 fun e w' => e = .returned (.bool true) ∧ Below w14.heap.size w14 w') := by
              have := texts_any v14 _ was was w14 hv14.strs L14.out.was.strs (by rw [HLW.out]; omega) (by rw [HLW.out]; omega)
              rwa [decide_eq_true rfl] at this
            clear hv14 hs14 ht14 L13 HAL
            go_wp2_with fail
            refine Calls.mono HTX.out ?_
            rintro e w15 ⟨rfl, hb15⟩
            have L15 : Hid (FlipIn w1 w15 p o13 { S with ahead := a14 } _ was B bs9) := L14.out.later hb15
            clear hb15 L14 HTX
            have HF3 : Hid (Calls _ _ _ _ _) := HFA.out (i : Int) (128 + (k : Int)) w15 _ _ L15.out.fs.sys
            rw [HFF.out.flip3] at HF3
            go_wp2_with fail
            refine Calls.mono HF3.out ?_
            rintro e w16 ⟨o16, rfl, hs16, ht16⟩
            have L16 : Hid (FlipIn w1 w16 p o16 { S with ahead := a14 } _ was B bs9) := L15.out.turn hs16 ht16
            clear hs16 ht16 L15 HF3
            have HF4 : Hid (Calls _ _ _ _ _) := HFA.out (-1 - (i : Int)) (k : Int) w16 _ _ L16.out.fs.sys
            rw [HFF.out.flip4] at HF4
            go_wp2_with fail
            refine Calls.mono HF4.out ?_
            rintro e w17 ⟨o17, rfl, hs17, ht17⟩
            have L17 : Hid (FlipIn w1 w17 p o17 { S with ahead := a14 } _ was B bs9) := L16.out.turn hs17 ht17
            clear hs17 ht17 L16 HF4
            go_wp2_with fail
            refine (HD.out _).mono ?_
            rintro e w18 ⟨rfl, hb18⟩
            have F18 : Hid (Below w.heap.size w w18) := HBX2.out _ (bnext L17.out.fs.below hb18)
            clear hb18 L17
            go_wp2
            go_ret
            exact ⟨rfl, F18.out⟩

set_option maxRecDepth 100000 in
theorem filesFlip_lifted (os : Os) (started : os.Started) (H : Type) (enc : TypeId × Value → H) :
    ReturnsInHanded {} Try.checked os 8 .any (Rows.filesFlipSpec.pre6 enc Try.prog Try.f8 Rows.filesFlipRow.domain false) (Rows.filesFlipSpec.post enc Try.prog Try.f8 false true false false) := by
  refine returnsInHanded_of_change (C := Try.checked) Try.own started (by kernel_rfl) Try.func8
    (ChangeSpec.witness6 (enc := enc) (C := Try.checked) false ⟨#[], #[.slice none 0 0, .agg #[.int .u16 0, .int .u16 0], .int .u8 0], []⟩ 8 (by kernel_rfl) (by kernel_rfl) (by kernel_rfl) (by kernel_rfl)) ?_
  intro W base args ds gs before hval0 hW hcnd _
  have hval : ∀ (j : Nat) t v, Try.f8.params[j]? = some t → args[j]? = some v → Value.okWide Try.prog W .any base t v := hval0
  have hW' := hW
  obtain ⟨p, q, hA0, hV, rfl, hfz, hnd⟩ := hW
  have hA : DataW.TrodAll enc Try.prog W 0 (fun _ => true) true Try.f8.params.toList args.toList ds p := hA0
  rw [Try.params8] at hA hval
  obtain ⟨v0, vs0, d0, ds0, p0, q0, hargs, rfl, rfl, h0, r0⟩ := trodAll_cons hA
  obtain ⟨v1, vs1, d1, ds1, p1, q1, rfl, rfl, rfl, h1, r1⟩ := trodAll_cons r0
  obtain ⟨v2, vs2, d2, ds2, p2, q2, rfl, rfl, rfl, h2, r2⟩ := trodAll_cons r1
  obtain ⟨rfl, rfl, rfl⟩ := trodAll_nil r2
  obtain rfl : args = #[v0, v1, v2] := by cases args; simp_all
  obtain ⟨rfl, rfl⟩ := trodVars_none hV
  have lt0 : ∀ x ∈ p0, x.block < W.heap.size := by obtain ⟨m, hm⟩ := h0; exact DataW.trod_lt m _ _ _ hm
  obtain ⟨l0, k0, n0⟩ := open_acts (hval 0 22 v0 rfl rfl) h0
  have lt1 : ∀ x ∈ p1, x.block < W.heap.size := by obtain ⟨m, hm⟩ := h1; exact DataW.trod_lt m _ _ _ hm
  obtain ⟨a1, b1, rfl, sa1, sb1⟩ := open_two_u16 (hval 1 64 v1 rfl rfl) h1
  obtain ⟨a2, rfl, rfl, rfl, w2⟩ := open_int Try.underlying5 (hval 2 5 v2 rfl rfl) h2
  clear hA0 hval0
  refine (filesFlip_walk v0 l0 a1 b1 a2 W k0 n0 sa1 sb1 w2).mono fun e W' ⟨he, bel⟩ => ?_
  subst he
  exact ⟨_, rfl, _, _, _, [], _, [], hW', trodAll_mk1 (shut_bool Try.underlying4 _), (trodAll_cons_mk (Below.trod Try.laidOut (by kernel_rfl) (of_decide_eq_true (by kernel_rfl)) h0 bel lt0) (trodAll_cons_mk (Below.trod Try.laidOut (by kernel_rfl) (of_decide_eq_true (by kernel_rfl)) h1 bel lt1) (trodAll_cons_mk (shut_int Try.underlying5 w2) trodAll_mk0))), rfl, bel.frame _, fun h => by cases h⟩

theorem filesFlip_holds : Rows.FilesFlipSaid :=
  OpenClaim.holds_of_wide 8 Try.f8 rfl rfl rfl rfl rfl rfl rfl ⟨rfl, rfl, rfl, rfl, rfl⟩ rfl rfl rfl rfl rfl (by kernel_rfl) Try.func8 (by kernel_rfl)
    (of_decide_eq_true (by kernel_rfl)) (by unfold Func.isWrapper; first | (rw [if_pos (by decide +kernel)]; kernel_rfl) | (rw [if_neg (by decide +kernel)]; exact ⟨rfl, rfl⟩))
    (fun os started H enc _ => filesFlip_lifted os started H enc)

end Go.Proofs.Ytikbhklmedblbaa
