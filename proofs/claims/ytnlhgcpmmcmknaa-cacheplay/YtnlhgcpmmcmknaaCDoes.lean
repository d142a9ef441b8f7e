/- The walk of the statements' helper does: the chapter's cache. -/
import Derived.Test.YtnlhgcpmmcmknaaCDone
import Derived.Laws.Pointers
namespace Go.Proofs.Ytnlhgcpmmcmknaa
open Go.RowKit Go.Maps

/-! ### What a call comes to, way by way -/
section
variable {st : Ca.St} {n : ByteArray} {i : Int} {f : Ca.Fr} {l : List Ca.Fr} {fs : Fi.St} {e : Int} {d s : ByteArray}
theorem fetch_hit (h : Ca.look st.l n i = some f) : Ca.fetch st n i = ⟨0, Ca.gone st.l n i, f, st.fs⟩ := by unfold Ca.fetch; simp only [h]
theorem fetch_full (h : Ca.look st.l n i = none) (hs : Ca.stuck st.most st.l = true) : Ca.fetch st n i = ⟨70, st.l, Ca.Fr.none, st.fs⟩ := by unfold Ca.fetch; simp only [h, hs, if_true]
theorem fetch_new (h : Ca.look st.l n i = none) (hs : Ca.stuck st.most st.l = false) (hr : Fi.read st.fs n i = (s, 0, fs)) (hd : Ca.dec s = (d, 0)) : Ca.fetch st n i = ⟨0, Ca.room st.most st.l, ⟨n, i, d, 0⟩, fs⟩ := by
  unfold Ca.fetch; simp [h, hs, hr, hd]
theorem fetch_fails (h : Ca.look st.l n i = none) (hs : Ca.stuck st.most st.l = false) (he : (Fi.read st.fs n i).2.1 ≠ 0) : Ca.fetch st n i = ⟨(Fi.read st.fs n i).2.1, st.l, Ca.Fr.none, (Fi.read st.fs n i).2.2⟩ := by
  unfold Ca.fetch; simp [h, hs, he]
theorem fetch_spoilt (h : Ca.look st.l n i = none) (hs : Ca.stuck st.most st.l = false) (he : (Fi.read st.fs n i).2.1 = 0) (hd : (Ca.dec (Fi.read st.fs n i).1).2 ≠ 0) : Ca.fetch st n i = ⟨(Ca.dec (Fi.read st.fs n i).1).2, st.l, Ca.Fr.none, (Fi.read st.fs n i).2.2⟩ := by
  unfold Ca.fetch; simp [h, hs, he, hd]
theorem get_ok (h : Ca.fetch st n i = ⟨0, l, f, fs⟩) : Ca.get st n i = (f.d, 0, ⟨st.most, fs, l ++ [f]⟩) := by unfold Ca.get; simp [h]
theorem get_no (h : Ca.fetch st n i = ⟨e, l, f, fs⟩) (he : e ≠ 0) : Ca.get st n i = (ByteArray.empty, e, ⟨st.most, fs, l⟩) := by unfold Ca.get; simp [h, he]
theorem pin_ok (h : Ca.fetch st n i = ⟨0, l, f, fs⟩) : Ca.pin st n i = (f.d, 0, ⟨st.most, fs, l ++ [Ca.more f]⟩) := by unfold Ca.pin; simp [h]
theorem pin_no (h : Ca.fetch st n i = ⟨e, l, f, fs⟩) (he : e ≠ 0) : Ca.pin st n i = (ByteArray.empty, e, ⟨st.most, fs, l⟩) := by unfold Ca.pin; simp [h, he]
end

/-! ### The chapter's cache -/
abbrev nf : ByteArray := ⟨#[102]⟩
def one (k : Nat) : ByteArray := ⟨#[UInt8.ofNat (97 + k)]⟩
def pgOne (k : Nat) : ByteArray := text (Pg.page [UInt8.ofNat (97 + k)])
theorem pgOne_size (k : Nat) : (pgOne k).size = 128 := by
  show (Pg.page [UInt8.ofNat (97 + k)]).length = 128
  exact Pg.page_length (by simp)
theorem dec_one (k : Nat) : Ca.dec (pgOne k) = (one k, 0) := by
  unfold Ca.dec pgOne
  rw [text_toList, Pg.dec_page (by simp)]; rfl
theorem enc_one (k : Nat) : Ca.enc (one k) = (pgOne k, 0) := by
  unfold Ca.enc
  rw [show (one k).data.toList = [UInt8.ofNat (97 + k)] from rfl, Pg.enc_yes (by simp)]; rfl

/-- The files behind k pages. -/
def fsAt (P A B C : ByteArray) : Nat → Fi.St
  | 0 => ⟨9, -1, [(nf, [P])]⟩
  | 1 => ⟨9, -1, [(nf, [A])]⟩
  | 2 => ⟨9, -1, [(nf, [A, B])]⟩
  | _ => ⟨9, -1, [(nf, [A, B, C])]⟩
theorem does_write0 {P : ByteArray} (hp : Fi.isPage P = true) : Fi.write ⟨9, -1, []⟩ nf [P] = (0, ⟨9, -1, [(nf, [P])]⟩) := by
  rw [write_ok (by decide) (by simp [hp]) (by show ¬ 9 < 0 - 0 + 1; decide)]; rfl
theorem does_put0 {P A : ByteArray} (hp : Fi.isPage A = true) : Fi.putp ⟨9, -1, [(nf, [P])]⟩ nf 0 A = (0, ⟨9, -1, [(nf, [A])]⟩) := by
  unfold Fi.putp
  rw [if_neg (by rw [hp]; exact fun h => by rcases h with h | h | h | h <;> first | exact absurd h (by decide) | exact absurd h (by show ¬ ((1 : Int) < 0); decide)), if_pos (by show (0 : Int) < 1; decide)]; rfl
theorem does_put1 {A B : ByteArray} (hp : Fi.isPage B = true) : Fi.putp ⟨9, -1, [(nf, [A])]⟩ nf 1 B = (0, ⟨9, -1, [(nf, [A, B])]⟩) :=
  putp_on (st := ⟨9, -1, [(nf, [A])]⟩) (n := nf) (k := 1) (s := B) (by decide) rfl hp (by show ¬ 9 ≤ 1; decide)
theorem does_put2 {A B C : ByteArray} (hp : Fi.isPage C = true) : Fi.putp ⟨9, -1, [(nf, [A, B])]⟩ nf 2 C = (0, ⟨9, -1, [(nf, [A, B, C])]⟩) :=
  putp_on (st := ⟨9, -1, [(nf, [A, B])]⟩) (n := nf) (k := 2) (s := C) (by decide) rfl hp (by show ¬ 9 ≤ 2; decide)
theorem does_rd (A B C : ByteArray) (k : Nat) (hk : k < 3) : Fi.read ⟨9, -1, [(nf, [A, B, C])]⟩ nf k = ([A, B, C].getD k ByteArray.empty, 0, ⟨9, -1, [(nf, [A, B, C])]⟩) := by
  have hh : Fi.has ⟨9, -1, [(nf, [A, B, C])]⟩ nf k = true := Fi.has_iff.2 ⟨by omega, by show (k : Int) < 3; omega⟩
  rw [read_still hh (by show (-1 : Int) < 0; decide)]
  rfl

section
variable {A B C a b c : ByteArray}
/-- The chapter's states. -/
def F3 (A B C : ByteArray) : Fi.St := ⟨9, -1, [(nf, [A, B, C])]⟩
theorem dg1 (hA : Ca.dec A = (a, 0)) : Ca.get ⟨2, F3 A B C, []⟩ nf 0 = (a, 0, ⟨2, F3 A B C, [⟨nf, 0, a, 0⟩]⟩) := get_ok (fetch_new rfl rfl (does_rd A B C 0 (by decide)) hA)
theorem dg2 (hB : Ca.dec B = (b, 0)) : Ca.pin ⟨2, F3 A B C, [⟨nf, 0, a, 0⟩]⟩ nf 1 = (b, 0, ⟨2, F3 A B C, [⟨nf, 0, a, 0⟩, ⟨nf, 1, b, 1⟩]⟩) := pin_ok (fetch_new rfl rfl (does_rd A B C 1 (by decide)) hB)
theorem dg3 (hC : Ca.dec C = (c, 0)) : Ca.get ⟨2, F3 A B C, [⟨nf, 0, a, 0⟩, ⟨nf, 1, b, 1⟩]⟩ nf 2 = (c, 0, ⟨2, F3 A B C, [⟨nf, 1, b, 1⟩, ⟨nf, 2, c, 0⟩]⟩) := get_ok (fetch_new rfl rfl (does_rd A B C 2 (by decide)) hC)
theorem dg4 : Ca.pin ⟨2, F3 A B C, [⟨nf, 1, b, 1⟩, ⟨nf, 2, c, 0⟩]⟩ nf 2 = (c, 0, ⟨2, F3 A B C, [⟨nf, 1, b, 1⟩, ⟨nf, 2, c, 1⟩]⟩) := pin_ok (fetch_hit (f := ⟨nf, 2, c, 0⟩) rfl)
theorem dg5 : Ca.get ⟨2, F3 A B C, [⟨nf, 1, b, 1⟩, ⟨nf, 2, c, 1⟩]⟩ nf 0 = (ByteArray.empty, 70, ⟨2, F3 A B C, [⟨nf, 1, b, 1⟩, ⟨nf, 2, c, 1⟩]⟩) := get_no (fetch_full rfl rfl) (by decide)
theorem dg6 : Ca.unpin ⟨2, F3 A B C, [⟨nf, 1, b, 1⟩, ⟨nf, 2, c, 1⟩]⟩ nf 1 = (0, ⟨2, F3 A B C, [⟨nf, 1, b, 0⟩, ⟨nf, 2, c, 1⟩]⟩) := rfl
theorem dg7 (hA : Ca.dec A = (a, 0)) : Ca.get ⟨2, F3 A B C, [⟨nf, 1, b, 0⟩, ⟨nf, 2, c, 1⟩]⟩ nf 0 = (a, 0, ⟨2, F3 A B C, [⟨nf, 2, c, 1⟩, ⟨nf, 0, a, 0⟩]⟩) := get_ok (fetch_new rfl rfl (does_rd A B C 0 (by decide)) hA)
theorem dg8 : Ca.unpin ⟨2, F3 A B C, [⟨nf, 2, c, 1⟩, ⟨nf, 0, a, 0⟩]⟩ nf 0 = (4, ⟨2, F3 A B C, [⟨nf, 2, c, 1⟩, ⟨nf, 0, a, 0⟩]⟩) := rfl
end

/-! ### Contracts on a cache that the call has made -/
section
variable {w W : World} {c p u : Nat} {o : Nat → Prop} {st : Ca.St}
theorem CIn.get (h : CIn w W c p o st u) (n : ByteArray) (i : Int) (hu : u < 9223372036854775800) (hk : KeyOk n i) (hn : n.size ≤ 1000) {r : ByteArray × Int × Ca.St} (hr : Ca.get st n i = r) :
    Calls Try.prog 31 #[at_ c, .string n, .int .i64 i] W fun e w' => ∃ o' u', u' ≤ u + 1 ∧ e = .returned (.tuple #[.string r.1, .int .i64 r.2.1]) ∧ CIn w w' c p o' r.2.2 u' := by
  subst hr
  refine (cget_any n i h.sys hu hk hn).mono ?_
  rintro e w' ⟨o', u', hu', rfl, hs, ht⟩
  exact ⟨o', u', hu', rfl, h.turn hs ht⟩
theorem CIn.pin (h : CIn w W c p o st u) (n : ByteArray) (i : Int) (hu : u < 9223372036854775800) (hk : KeyOk n i) (hn : n.size ≤ 1000) {r : ByteArray × Int × Ca.St} (hr : Ca.pin st n i = r) :
    Calls Try.prog 30 #[at_ c, .string n, .int .i64 i] W fun e w' => ∃ o' u', u' ≤ u + 1 ∧ e = .returned (.tuple #[.string r.1, .int .i64 r.2.1]) ∧ CIn w w' c p o' r.2.2 u' := by
  subst hr
  refine (cpin_any n i h.sys hu hk hn).mono ?_
  rintro e w' ⟨o', u', hu', rfl, hs, ht⟩
  exact ⟨o', u', hu', rfl, h.turn hs ht⟩
theorem CIn.unpin (h : CIn w W c p o st u) (n : ByteArray) (i : Int) (hu : u < 9223372036854775800) (hk : KeyOk n i) {r : Int × Ca.St} (hr : Ca.unpin st n i = r) :
    Calls Try.prog 36 #[at_ c, .string n, .int .i64 i] W fun e w' => ∃ o', e = .returned (.int .i64 r.1) ∧ CIn w w' c p o' r.2 u := by
  subst hr
  refine (cunpin_any n i h.sys hu hk).mono ?_
  rintro e w' ⟨o', rfl, hs, ht⟩
  exact ⟨o', rfl, h.turn hs ht⟩
theorem CIn.has (h : CIn w W c p o st u) (n : ByteArray) (i : Int) (hk : KeyOk n i) :
    Calls Try.prog 19 #[at_ c, .string n, .int .i64 i] W fun e w' => e = .returned (.bool (Ca.has st.l n i)) ∧ Below W.heap.size W w' := by
  obtain ⟨mb, of, K, h1, h2, _⟩ := h.sys
  rw [← h2]
  exact chas_any n i W h1.sits hk
theorem CIn.len (h : CIn w W c p o st u) : Calls Try.prog 16 #[at_ c] W fun e w' => e = .returned (.int .i64 st.l.length) ∧ w' = W := by
  obtain ⟨mb, of, K, h1, h2, _⟩ := h.sys
  rw [← h2, List.length_map]
  exact clen_any W h1.sits
theorem CIn.pinned (h : CIn w W c p o st u) : Calls Try.prog 17 #[at_ c] W fun e w' => e = .returned (.int .i64 (Ca.pinned st.l)) ∧ Below W.heap.size W w' := by
  obtain ⟨mb, of, K, h1, h2, _⟩ := h.sys
  rw [← h2]
  exact cpinned_any W h1.sits (by have := h1.len; have := h1.most2; omega)
theorem CIn.most (h : CIn w W c p o st u) : 1 ≤ st.most ∧ st.most ≤ 64 ∧ st.l.length ≤ st.most := by
  obtain ⟨mb, of, K, h1, h2, _⟩ := h.sys
  rw [← h2, List.length_map]
  exact ⟨h1.most1, h1.most2, h1.len⟩
theorem CIn.file (h : CIn w W c p o st u) : ∃ of, Sys W p of st.fs ∧ ∀ W' of' fs', Sys W' p of' fs' → Turn of W of' W' → ∃ o', CIn w W' c p o' { st with fs := fs' } u := by
  obtain ⟨of, hs, hgo⟩ := h.sys.file
  refine ⟨of, hs, fun W' of' fs' hs' ht => ?_⟩
  obtain ⟨o', h1, h2⟩ := hgo W' of' fs' hs' ht
  exact ⟨o', h.turn h1 h2⟩
end

theorem fs_self (d : Nat) (a : Addr) (w : World) : (Op.equalIn (d + 1) 24 (.pointer (some a)) (.pointer (some a))).run Try.prog w = .ok true w := by
  have hs : (Go.sizeOf 73).run Try.prog w = .ok 3 w := by kernel_rfl
  simp [Op.equalIn, run_underlying Try.underlying24, hs, sameAddr]
theorem fs_neq (a : Addr) (w : World) : (binOp .neq 24 (.pointer (some a)) (.pointer (some a))).run Try.prog w = .ok (.bool false) w := by
  have h : (Op.equal 24 (.pointer (some a)) (.pointer (some a))).run Try.prog w = .ok true w := fs_self 9999 a w
  simp only [binOp]
  simp [h]
theorem split_none : (Pg.split (⟨#[]⟩ : ByteArray).data.toList).map text = [text (Pg.page [])] := by
  unfold Pg.split
  rw [show (⟨#[]⟩ : ByteArray).data.toList = [] from rfl, Pg.parts_short (by simp)]; rfl
theorem does_puts {P : ByteArray} (k : Nat) (hk : k < 3) : Fi.putp (fsAt P (pgOne 0) (pgOne 1) (pgOne 2) k) nf k (pgOne k) = (0, fsAt P (pgOne 0) (pgOne 1) (pgOne 2) (k + 1)) := by
  have hk3 : k = 0 ∨ k = 1 ∨ k = 2 := by omega
  rcases hk3 with rfl | rfl | rfl
  · exact does_put0 (Fi.isPage_iff.2 (pgOne_size 0))
  · exact does_put1 (Fi.isPage_iff.2 (pgOne_size 1))
  · exact does_put2 (Fi.isPage_iff.2 (pgOne_size 2))
theorem key_nf (i : Int) (h1 : -9223372036854775808 ≤ i) (h2 : i ≤ 9223372036854775807) : KeyOk nf i := ⟨by decide, h1, h2⟩
/-- []byte{b} as a string, in the world in which it was laid. -/
theorem conv_byte (W : World) (b : UInt8) : Hid (∀ z : Int, z = b.toNat → (convert 68 9 (.slice (some ⟨W.heap.size, 0, none⟩) 1 1)).run Try.prog (W.alloc (.cells #[.int .u8 z] 5)) = .ok (.string ⟨#[b]⟩) (W.alloc (.cells #[.int .u8 z] 5))) := fun z hz => by
  subst hz
  have hown := World.ownsRow_lit (e := 5) (size := 1) (base := W.heap.size) W #[.int .u8 b.toNat] 1 (Nat.le_refl _) (by decide) rfl
  exact conv_own _ _ _ 1 [b] rfl hown

set_option maxRecDepth 100000 in
set_option maxHeartbeats 4000000 in
theorem cdoes_any (w : World) : Calls Try.prog 13 #[] w fun e w' => e = .returned (.bool true) ∧ Below w.heap.size w w' := by
  have HN : Hid (Calls _ _ _ _ _) := new_yes 9 w (by decide) (by decide)
  have HC : Hid (∀ W p o, Sys W p o ⟨9, -1, []⟩ → Calls Try.prog 12 #[at_ p, .int .i64 2] W fun e w' => _) := fun W p o hs => cnew_yes 2 W hs (by omega) (by omega)
  have HSP : Hid (∀ W, Calls Try.prog 35 #[.string ⟨#[]⟩] W fun e w' => ∃ v, e = .returned v ∧ Strs w' v [text (Pg.page [])] ∧ Below W.heap.size W w') := fun W => by
    have := split_any ⟨#[]⟩ W (by decide)
    rw [split_none] at this
    exact this
  have hP : Fi.isPage (text (Pg.page [])) = true := Fi.isPage_iff.2 (Pg.page_length (by decide))
  generalize text (Pg.page []) = P at *
  have HWR : Hid (∀ W v c p o, Strs W v [P] → CIn w W c p o ⟨2, ⟨9, -1, []⟩, []⟩ 0 → Calls Try.prog 34 #[at_ p, .string ⟨#[102]⟩, v] W fun e w' => ∃ o', e = .returned (.int .i64 0) ∧ CIn w w' c p o' ⟨2, fsAt P (pgOne 0) (pgOne 1) (pgOne 2) 0, []⟩ 0) := fun W v c p o hv hc => by
    obtain ⟨of, hs, hgo⟩ := hc.file
    have := write_any nf v [P] W hs (by decide) hv (by simp)
    rw [does_write0 hP] at this
    refine this.mono ?_
    rintro e w' ⟨of2, rfl, hs2, ht2⟩
    obtain ⟨o2, h2⟩ := hgo _ _ _ hs2 ht2
    exact ⟨o2, rfl, h2⟩
  have HFS : Hid (∀ W c p o st u, CIn w W c p o st u → Calls Try.prog 24 #[at_ c] W fun e w' => e = .returned (at_ p) ∧ w' = W) := fun W c p o st u h => cfs_sys h.sys
  have HEN : Hid (∀ W k, Calls Try.prog 32 #[.string (one k)] W fun e w' => e = .returned (.tuple #[.string (pgOne k), .int .i64 0]) ∧ Below W.heap.size W w') := fun W k => by
    have := encode_any (one k) W (by show (1 : Nat) ≤ _; decide)
    have e := enc_one k
    unfold Ca.enc at e
    rw [Prod.mk.injEq] at e
    rw [e.1, e.2] at this
    exact this
  have HPU : Hid (∀ W k c p o, k < 3 → CIn w W c p o ⟨2, fsAt P (pgOne 0) (pgOne 1) (pgOne 2) k, []⟩ 0 → Calls Try.prog 33 #[at_ p, .string ⟨#[102]⟩, .int .i64 k, .string (pgOne k)] W fun e w' => ∃ o', e = .returned (.int .i64 0) ∧ CIn w w' c p o' ⟨2, fsAt P (pgOne 0) (pgOne 1) (pgOne 2) (k + 1), []⟩ 0) := fun W k c p o hk hc => by
    obtain ⟨of, hs, hgo⟩ := hc.file
    have := put_any nf k (pgOne k) W hs (by decide)
    rw [does_puts k hk] at this
    refine this.mono ?_
    rintro e w' ⟨of2, rfl, hs2, ht2⟩
    obtain ⟨o2, h2⟩ := hgo _ _ _ hs2 ht2
    exact ⟨o2, rfl, h2⟩
  clear hP
  unfold at_ at HC HWR HFS HPU
  go_enter Try.func13, Try.ntmps13
  go_wp2_with fail
  refine Calls.mono HN.out ?_
  rintro e w1 ⟨p, o, rfl, hs, ho, hb⟩
  have HC1 : Hid (Calls _ _ _ _ _) := HC.out w1 p o hs
  have HB : Hid (Below w.heap.size w w1) := hb
  have HO : Hid (∀ i, o i → w.heap.size ≤ i) := ho
  clear hs ho hb HC HN
  go_wp2_with fail
  refine Calls.mono HC1.out ?_
  rintro e w2 ⟨c, o2, rfl, hs2, ho2, hb2⟩
  have H2 : Hid (CIn w w2 c p o2 ⟨2, ⟨9, -1, []⟩, []⟩ 0) := ⟨hs2, bnext HB.out hb2, fun i hi => by
    rcases ho2 i hi with h | h
    · exact HO.out i h
    · exact Nat.le_trans HB.out.size h⟩
  clear hs2 ho2 hb2 HC1 HO HB
  go_wp2_with fail
  refine (HSP.out w2).mono ?_
  rintro e w3 ⟨v, rfl, hv, hb3⟩
  have HW1 : Hid (Calls _ _ _ _ _) := HWR.out w3 v c p o2 hv (H2.out.later hb3)
  clear hv hb3 HSP HWR H2
  go_wp2_with fail
  refine Calls.mono HW1.out ?_
  rintro e w4 ⟨o4, rfl, h4⟩
  have H4 : Hid (CIn _ _ _ _ _ _ _) := h4
  have HF1 : Hid (Calls _ _ _ _ _) := HFS.out w4 c p o4 _ _ h4
  clear h4 HFS HW1
  go_wp2_with fail
  refine Calls.mono HF1.out ?_
  rintro e w5 ⟨rfl, rfl⟩
  clear HF1
  have hneq := fs_neq ⟨p, 0, none⟩ w5
  go_wp2
  clear hneq
  go_loopw [5] (fun x wr => ∃ (k : Nat) (o : Nat → Prop), k ≤ 3 ∧ x = .int .i64 k ∧ Hid (CIn w wr c p o ⟨2, fsAt P (pgOne 0) (pgOne 1) (pgOne 2) k, []⟩ 0)) (fun x _ => 3 - (intOf x).toNat)
  case atStart => exact ⟨0, o4, Nat.zero_le _, rfl, H4⟩
  case round =>
    clear H4
    obtain ⟨k, o6, hk, rfl, HK⟩ := hrel
    by_cases hlt : k < 3
    · have hk3 : k = 0 ∨ k = 1 ∨ k = 2 := by omega
      rcases hk3 with rfl | rfl | rfl
      · have hcv : (convert 68 9 (.slice (some ⟨wr.heap.size, 0, none⟩) 1 1)).run Try.prog (wr.alloc (.cells #[.int .u8 97] 5)) = .ok (.string (one 0)) (wr.alloc (.cells #[.int .u8 97] 5)) := (conv_byte wr 97).out 97 rfl
        clear hlt
        go_wp2_with fail
        refine (HEN.out _ 0).mono ?_
        rintro e w6 ⟨rfl, hb6⟩
        have HP6 : Hid (Calls _ _ _ _ _) := HPU.out w6 0 c p o6 (by decide) (HK.out.later (((Below.refl _ wr).alloc (Nat.le_refl _) _).trans (hb6.mono (by simp))))
        clear hb6 hcv HK
        go_wp2_with fail
        refine Calls.mono HP6.out ?_
        rintro e w7 ⟨o7, rfl, h7⟩
        have H7 : Hid (CIn _ _ _ _ _ _ _) := h7
        clear h7 HP6
        go_wp2
        go_roundw
        case rel => exact ⟨1, o7, by decide, rfl, H7⟩
        case measure => simp [intOf]
      · have hcv : (convert 68 9 (.slice (some ⟨wr.heap.size, 0, none⟩) 1 1)).run Try.prog (wr.alloc (.cells #[.int .u8 98] 5)) = .ok (.string (one 1)) (wr.alloc (.cells #[.int .u8 98] 5)) := (conv_byte wr 98).out 98 rfl
        clear hlt
        go_wp2_with fail
        refine (HEN.out _ 1).mono ?_
        rintro e w6 ⟨rfl, hb6⟩
        have HP6 : Hid (Calls _ _ _ _ _) := HPU.out w6 1 c p o6 (by decide) (HK.out.later (((Below.refl _ wr).alloc (Nat.le_refl _) _).trans (hb6.mono (by simp))))
        clear hb6 hcv HK
        go_wp2_with fail
        refine Calls.mono HP6.out ?_
        rintro e w7 ⟨o7, rfl, h7⟩
        have H7 : Hid (CIn _ _ _ _ _ _ _) := h7
        clear h7 HP6
        go_wp2
        go_roundw
        case rel => exact ⟨2, o7, by decide, rfl, H7⟩
        case measure => simp [intOf]
      · have hcv : (convert 68 9 (.slice (some ⟨wr.heap.size, 0, none⟩) 1 1)).run Try.prog (wr.alloc (.cells #[.int .u8 99] 5)) = .ok (.string (one 2)) (wr.alloc (.cells #[.int .u8 99] 5)) := (conv_byte wr 99).out 99 rfl
        clear hlt
        go_wp2_with fail
        refine (HEN.out _ 2).mono ?_
        rintro e w6 ⟨rfl, hb6⟩
        have HP6 : Hid (Calls _ _ _ _ _) := HPU.out w6 2 c p o6 (by decide) (HK.out.later (((Below.refl _ wr).alloc (Nat.le_refl _) _).trans (hb6.mono (by simp))))
        clear hb6 hcv HK
        go_wp2_with fail
        refine Calls.mono HP6.out ?_
        rintro e w7 ⟨o7, rfl, h7⟩
        have H7 : Hid (CIn _ _ _ _ _ _ _) := h7
        clear h7 HP6
        go_wp2
        go_roundw
        case rel => exact ⟨3, o7, by decide, rfl, H7⟩
        case measure => simp [intOf]
    · obtain rfl : k = 3 := by omega
      have hA : Ca.dec (pgOne 0) = (⟨#[97]⟩, 0) := dec_one 0
      have hB : Ca.dec (pgOne 1) = (⟨#[98]⟩, 0) := dec_one 1
      have hC : Ca.dec (pgOne 2) = (⟨#[99]⟩, 0) := dec_one 2
      have H5 : Hid (CIn w wr c p o6 ⟨2, F3 (pgOne 0) (pgOne 1) (pgOne 2), []⟩ 0) := HK.out
      generalize pgOne 0 = A at *
      generalize pgOne 1 = B at *
      generalize pgOne 2 = C at *
      have e1 : Hid (_ = _) := dg1 (A := A) (B := B) (C := C) hA
      have e2 : Hid (_ = _) := dg2 (A := A) (B := B) (C := C) (a := ⟨#[97]⟩) hB
      have e3 : Hid (_ = _) := dg3 (A := A) (B := B) (C := C) (a := ⟨#[97]⟩) (b := ⟨#[98]⟩) hC
      have e4 : Hid (_ = _) := dg4 (A := A) (B := B) (C := C) (b := ⟨#[98]⟩) (c := ⟨#[99]⟩)
      have e5 : Hid (_ = _) := dg5 (A := A) (B := B) (C := C) (b := ⟨#[98]⟩) (c := ⟨#[99]⟩)
      have e6 : Hid (_ = _) := dg6 (A := A) (B := B) (C := C) (b := ⟨#[98]⟩) (c := ⟨#[99]⟩)
      have e7 : Hid (_ = _) := dg7 (A := A) (B := B) (C := C) (a := ⟨#[97]⟩) (b := ⟨#[98]⟩) (c := ⟨#[99]⟩) hA
      have e8 : Hid (_ = _) := dg8 (A := A) (B := B) (C := C) (a := ⟨#[97]⟩) (c := ⟨#[99]⟩)
      have hk0 : Hid (KeyOk nf 0) := key_nf 0 (by decide) (by decide)
      have hk1 : Hid (KeyOk nf 1) := key_nf 1 (by decide) (by decide)
      have hk2 : Hid (KeyOk nf 2) := key_nf 2 (by decide) (by decide)
      clear hA hB hC HK HEN HPU hlt hk
      have G21 : Hid (Calls _ _ _ _ _) := H5.out.get nf 0 (by omega) hk0.out (by decide) e1.out
      unfold at_ at G21
      go_wp2_with fail
      refine Calls.mono G21.out ?_
      rintro e w21 ⟨o21, u21, hu21, rfl, h21⟩
      have G1H : Hid (CIn _ _ _ _ _ _ _) := h21
      clear h21 G21 e1
      have G22 : Hid (Calls _ _ _ _ _) := G1H.out.pin nf 1 (by omega) hk1.out (by decide) e2.out
      unfold at_ at G22
      go_wp2_with fail
      refine Calls.mono G22.out ?_
      rintro e w22 ⟨o22, u22, hu22, rfl, h22⟩
      have G2H : Hid (CIn _ _ _ _ _ _ _) := h22
      clear h22 G22 e2
      have G23 : Hid (Calls _ _ _ _ _) := G2H.out.get nf 2 (by omega) hk2.out (by decide) e3.out
      unfold at_ at G23
      go_wp2_with fail
      refine Calls.mono G23.out ?_
      rintro e w23 ⟨o23, u23, hu23, rfl, h23⟩
      have G3H : Hid (CIn _ _ _ _ _ _ _) := h23
      clear h23 G23 e3
      have HH0 : Hid (∀ W, Below w23.heap.size w23 W → Calls Try.prog 19 #[at_ c, .string ⟨#[102]⟩, .int .i64 0] W fun e w' => e = .returned (.bool false) ∧ Below W.heap.size W w') := fun W hb => (G3H.out.later hb).has nf 0 hk0.out
      have HH1 : Hid (∀ W, Below w23.heap.size w23 W → Calls Try.prog 19 #[at_ c, .string ⟨#[102]⟩, .int .i64 1] W fun e w' => e = .returned (.bool true) ∧ Below W.heap.size W w') := fun W hb => (G3H.out.later hb).has nf 1 hk1.out
      have HL : Hid (∀ W, Below w23.heap.size w23 W → Calls Try.prog 16 #[at_ c] W fun e w' => e = .returned (.int .i64 2) ∧ w' = W) := fun W hb => (G3H.out.later hb).len
      unfold at_ at HH0 HH1 HL
      go_wp2_with fail
      refine (HH0.out _ (Below.refl _ _)).mono ?_
      rintro e w24 ⟨rfl, hb24⟩
      have HB24 : Hid (Below w23.heap.size w23 w24) := hb24
      clear hb24
      go_wp2_with fail
      refine (HH1.out _ HB24.out).mono ?_
      rintro e w25 ⟨rfl, hb25⟩
      have HB25 : Hid (Below w23.heap.size w23 w25) := bnext HB24.out hb25
      clear hb25 HB24
      go_wp2_with fail
      refine (HL.out _ HB25.out).mono ?_
      rintro e w26 ⟨rfl, rfl⟩
      have G4H : Hid (CIn _ _ _ _ _ _ _) := G3H.out.later HB25.out
      clear HB25 HH0 HH1 HL G3H
      have G31 : Hid (Calls _ _ _ _ _) := G4H.out.pin nf 2 (by omega) hk2.out (by decide) e4.out
      unfold at_ at G31
      go_wp2_with fail
      refine Calls.mono G31.out ?_
      rintro e w31 ⟨o31, u31, hu31, rfl, h31⟩
      have G5H : Hid (CIn _ _ _ _ _ _ _) := h31
      clear h31 G31 e4
      have G32 : Hid (Calls _ _ _ _ _) := G5H.out.get nf 0 (by omega) hk0.out (by decide) e5.out
      unfold at_ at G32
      go_wp2_with fail
      refine Calls.mono G32.out ?_
      rintro e w32 ⟨o32, u32, hu32, rfl, h32⟩
      have G6H : Hid (CIn _ _ _ _ _ _ _) := h32
      clear h32 G32 e5
      have G33 : Hid (Calls _ _ _ _ _) := G6H.out.unpin nf 1 (by omega) hk1.out e6.out
      unfold at_ at G33
      go_wp2_with fail
      refine Calls.mono G33.out ?_
      rintro e w33 ⟨o33, rfl, h33⟩
      have G7H : Hid (CIn _ _ _ _ _ _ _) := h33
      clear h33 G33 e6
      have G34 : Hid (Calls _ _ _ _ _) := G7H.out.get nf 0 (by omega) hk0.out (by decide) e7.out
      unfold at_ at G34
      go_wp2_with fail
      refine Calls.mono G34.out ?_
      rintro e w34 ⟨o34, u34, hu34, rfl, h34⟩
      have G8H : Hid (CIn _ _ _ _ _ _ _) := h34
      clear h34 G34 e7
      have HH1 : Hid (Calls Try.prog 19 #[at_ c, .string ⟨#[102]⟩, .int .i64 1] w34 fun e w' => e = .returned (.bool false) ∧ Below w34.heap.size w34 w') := G8H.out.has nf 1 hk1.out
      unfold at_ at HH1
      go_wp2_with fail
      refine Calls.mono HH1.out ?_
      rintro e w35 ⟨rfl, hb35⟩
      have G9H : Hid (CIn _ _ _ _ _ _ _) := G8H.out.later hb35
      clear hb35 HH1
      have G36 : Hid (Calls _ _ _ _ _) := G9H.out.unpin nf 0 (by omega) hk0.out e8.out
      unfold at_ at G36
      go_wp2_with fail
      refine Calls.mono G36.out ?_
      rintro e w36 ⟨o36, rfl, h36⟩
      have GaH : Hid (CIn _ _ _ _ _ _ _) := h36
      clear h36 G36 e8
      have HPI : Hid (Calls Try.prog 17 #[at_ c] w36 fun e w' => e = .returned (.int .i64 1) ∧ Below w36.heap.size w36 w') := GaH.out.pinned
      unfold at_ at HPI
      go_wp2_with fail
      refine Calls.mono HPI.out ?_
      rintro e w37 ⟨rfl, hb37⟩
      have HB37 : Hid (Below w.heap.size w w37) := bnext GaH.out.below hb37
      clear hb37 HPI
      go_wp2
      go_ret
      exact ⟨rfl, HB37.out⟩

end Go.Proofs.Ytnlhgcpmmcmknaa
