/- The walks of the statements' helpers Page and does: the chapter's file system. -/
import Derived.Test.YtikbhklmedblbaaFPut
namespace Go.Proofs.Ytikbhklmedblbaa
open Go.RowKit Go.Maps

/-- A page all of whose bytes are c. -/
def pg (c : UInt8) : ByteArray := ⟨(someL [c] 128).toArray⟩
theorem pg_size (c : UInt8) : (pg c).size = 128 := by show (someL [c] 128).toArray.size = 128; simp [someL_length]

theorem page_any (c : UInt8) (w : World) :
    Calls Try.prog 32 #[.int .u8 c.toNat] w fun e w' => e = .returned (.string (pg c)) ∧ Below w.heap.size w w' := by
  have hown := World.ownsRow_lit (e := 5) (size := 1) (base := w.heap.size) w #[.int .u8 c.toNat] 1 (Nat.le_refl _) (by decide) rfl
  have hcv := conv_own _ _ _ 1 [c] rfl hown
  have HS : Hid (Calls _ _ _ _ _) := some_any ⟨#[c]⟩ 128 (w.alloc (.cells #[.int .u8 c.toNat] 5)) Nat.one_pos (by show 1 ≤ 1000; decide) (by decide)
  have e : (⟨(someL (⟨#[c]⟩ : ByteArray).data.toList 128).toArray⟩ : ByteArray) = pg c := rfl
  rw [e] at HS
  clear hown e
  go_enter Try.func32, Try.ntmps32
  go_wp2_with fail
  refine Calls.mono HS.out ?_
  rintro e w1 ⟨rfl, hb⟩
  have HB : Hid (Below w.heap.size w w1) := ((Below.refl _ w).alloc (Nat.le_refl _) _).trans (hb.mono (by simp))
  clear hb
  go_wp2
  go_ret
  exact ⟨rfl, HB.out⟩

/-- A file system that the call itself has made since w. -/
structure FsIn (w W : World) (p : Nat) (o : Nat → Prop) (st : Fi.St) : Prop where
  sys : Sys W p o st
  below : Below w.heap.size w W
  new : ∀ i, o i → w.heap.size ≤ i
theorem FsIn.turn {w W W' : World} {p : Nat} {o o' : Nat → Prop} {st st' : Fi.St} (h : FsIn w W p o st) (hs : Sys W' p o' st') (ht : Turn o W o' W') : FsIn w W' p o' st' :=
  ⟨hs, h.below.trans (ht.toBelow h.below.size h.new), ht.behind h.below.size h.new⟩
theorem FsIn.later {w W W' : World} {p : Nat} {o : Nat → Prop} {st : Fi.St} (h : FsIn w W p o st) (hb : Below W.heap.size W W') : FsIn w W' p o st :=
  ⟨h.sys.later hb, bnext h.below hb, h.new⟩

theorem two_texts (W : World) (p q : ByteArray) : Strs (W.alloc (.cells #[.string p, .string q] 9)) (.slice (some ⟨W.heap.size, 0, none⟩) 2 2) [p, q] := by
  refine ⟨_, 2, rfl, Nat.le_refl _, .inr ⟨_, 0, rfl, fun j hj => ?_⟩⟩
  have hb := heap_alloc_new W (.cells #[.string p, .string q] 9)
  have : j = 0 ∨ j = 1 := by simp at hj; omega
  rcases this with rfl | rfl <;> (unfold World.cell?; simp only []; rw [hb]; rfl)
theorem one_text (W : World) (p : ByteArray) : Strs (W.alloc (.cells #[.string p] 9)) (.slice (some ⟨W.heap.size, 0, none⟩) 1 1) [p] := by
  refine ⟨_, 1, rfl, Nat.le_refl _, .inr ⟨_, 0, rfl, fun j hj => ?_⟩⟩
  have hb := heap_alloc_new W (.cells #[.string p] 9)
  have : j = 0 := by simp at hj; omega
  subst this
  unfold World.cell?
  simp only []
  rw [hb]
  rfl

theorem does_write {p q : ByteArray} (hp : Fi.isPage p = true) (hq : Fi.isPage q = true) : Fi.write ⟨3, -1, []⟩ ⟨#[97]⟩ [p, q] = (0, ⟨3, -1, [(⟨#[97]⟩, [p, q])]⟩) := by
  rw [write_ok (by decide) (by simp [hp, hq]) (by show ¬ 3 < 0 - 0 + 2; decide)]
  rfl
theorem does_put {p : ByteArray} (q : ByteArray) (hp : Fi.isPage p = true) : Fi.putp ⟨3, -1, [(⟨#[97]⟩, [p, q])]⟩ ⟨#[97]⟩ 2 p = (0, ⟨3, -1, [(⟨#[97]⟩, [p, q, p])]⟩) := by
  have := putp_on (st := ⟨3, -1, [(⟨#[97]⟩, [p, q])]⟩) (n := ⟨#[97]⟩) (k := 2) (s := p) (by decide) rfl hp (by show ¬ 3 ≤ 2; decide)
  exact this
theorem does_room {p : ByteArray} (q : ByteArray) (hp : Fi.isPage p = true) : Fi.putp ⟨3, -1, [(⟨#[97]⟩, [p, q, p])]⟩ ⟨#[98]⟩ 0 p = (61, ⟨3, -1, [(⟨#[97]⟩, [p, q, p])]⟩) := by
  have := putp_room (st := ⟨3, -1, [(⟨#[97]⟩, [p, q, p])]⟩) (n := ⟨#[98]⟩) (k := 0) (s := p) (by decide) rfl hp (by show 3 ≤ 3; decide)
  exact this
theorem does_arg (p q : ByteArray) : Fi.putp ⟨3, -1, [(⟨#[97]⟩, [p, q, p])]⟩ ⟨#[97]⟩ 5 p = (2, ⟨3, -1, [(⟨#[97]⟩, [p, q, p])]⟩) :=
  putp_arg (.inr (.inr (.inl (by show (3 : Int) < 5; decide))))
theorem does_read0 (p q : ByteArray) : Fi.read ⟨3, 1, [(⟨#[97]⟩, [p, q, p])]⟩ ⟨#[97]⟩ 0 = (p, 0, ⟨3, 0, [(⟨#[97]⟩, [p, q, p])]⟩) :=
  read_next (st := ⟨3, 1, [(⟨#[97]⟩, [p, q, p])]⟩) (n := ⟨#[97]⟩) (i := 0) rfl (by show (0 : Int) < 1; decide)
theorem does_read9 (p q : ByteArray) : Fi.read ⟨3, 0, [(⟨#[97]⟩, [p, q, p])]⟩ ⟨#[97]⟩ 9 = (ByteArray.empty, 4, ⟨3, 0, [(⟨#[97]⟩, [p, q, p])]⟩) :=
  read_no rfl
theorem does_read1 (p q : ByteArray) : Fi.read ⟨3, 0, [(⟨#[97]⟩, [p, q, p])]⟩ ⟨#[97]⟩ 1 = (ByteArray.empty, 60, ⟨3, -1, [(⟨#[97]⟩, [p, q, p])]⟩) :=
  read_fails (st := ⟨3, 0, [(⟨#[97]⟩, [p, q, p])]⟩) (n := ⟨#[97]⟩) (i := 1) rfl rfl
theorem does_read2 (p q : ByteArray) : Fi.read ⟨3, -1, [(⟨#[97]⟩, [p, q, p])]⟩ ⟨#[97]⟩ 1 = (q, 0, ⟨3, -1, [(⟨#[97]⟩, [p, q, p])]⟩) :=
  read_still (st := ⟨3, -1, [(⟨#[97]⟩, [p, q, p])]⟩) (n := ⟨#[97]⟩) (i := 1) rfl (by show (-1 : Int) < 0; decide)

set_option maxRecDepth 100000 in
set_option maxHeartbeats 4000000 in
theorem does_any (w : World) : Calls Try.prog 12 #[] w fun e w' => e = .returned (.bool true) ∧ Below w.heap.size w w' := by
  have HN : Hid (Calls _ _ _ _ _) := new_yes 3 w (by decide) (by decide)
  have HP : Hid (∀ W, Calls Try.prog 32 #[.int .u8 112] W fun e w' => e = .returned (.string (pg 112)) ∧ Below W.heap.size W w') := fun W => page_any 112 W
  have HQ : Hid (∀ W, Calls Try.prog 32 #[.int .u8 113] W fun e w' => e = .returned (.string (pg 113)) ∧ Below W.heap.size W w') := fun W => page_any 113 W
  have hp : Fi.isPage (pg 112) = true := Fi.isPage_iff.2 (pg_size _)
  have hq : Fi.isPage (pg 113) = true := Fi.isPage_iff.2 (pg_size _)
  generalize pg 112 = P at HP hp
  generalize pg 113 = Q at HQ hq
  have e1 : Hid _ := does_write hp hq
  have e2 : Hid _ := does_put Q hp
  have e3 : Hid _ := does_room Q hp
  have e4 : Hid _ := does_arg P Q
  have e5 : Hid _ := does_read0 P Q
  have e6 : Hid _ := does_read9 P Q
  have e7 : Hid _ := does_read1 P Q
  have e8 : Hid _ := does_read2 P Q
  clear hp hq
  go_enter Try.func12, Try.ntmps12
  go_wp2_with fail
  refine Calls.mono HN.out ?_
  rintro e w1 ⟨p, o, rfl, hs, ho, hb⟩
  have F1 : Hid (FsIn w w1 p o _) := ⟨hs, hb, ho⟩
  clear hs ho hb HN
  go_wp2_with fail
  refine (HP.out _).mono ?_
  rintro e w2 ⟨rfl, hb⟩
  have F2 : Hid (FsIn w w2 p o _) := F1.out.later hb
  clear hb F1
  go_wp2_with fail
  refine (HQ.out _).mono ?_
  rintro e w3 ⟨rfl, hb⟩
  have F3 : Hid (FsIn w w3 p o _) := F2.out.later hb
  clear hb F2
  have F4 : Hid (FsIn w (w3.alloc (.cells #[.string P, .string Q] 9)) p o _) := F3.out.later ((Below.refl _ w3).alloc (Nat.le_refl _) _)
  have HW : Hid (Calls _ _ _ _ _) := write_any ⟨#[97]⟩ _ _ _ F4.out.sys (by decide) (two_texts w3 P Q) (by simp)
  rw [e1.out] at HW
  go_wp2_with fail
  refine Calls.mono HW.out ?_
  rintro e w5 ⟨o5, rfl, hs, ht⟩
  have F5 : Hid (FsIn w w5 p o5 _) := F4.out.turn hs ht
  clear hs ht F4 F3 HW e1
  have HW : Hid (Calls _ _ _ _ _) := put_any ⟨#[97]⟩ 2 P _ F5.out.sys (by decide)
  rw [e2.out] at HW
  go_wp2_with fail
  refine Calls.mono HW.out ?_
  rintro e w6 ⟨o6, rfl, hs, ht⟩
  have F6 : Hid (FsIn w w6 p o6 _) := F5.out.turn hs ht
  clear hs ht F5 HW e2
  have HW : Hid (Calls _ _ _ _ _) := put_any ⟨#[98]⟩ 0 P _ F6.out.sys (by decide)
  rw [e3.out] at HW
  go_wp2_with fail
  refine Calls.mono HW.out ?_
  rintro e w7 ⟨o7, rfl, hs, ht⟩
  have F7 : Hid (FsIn w w7 p o7 _) := F6.out.turn hs ht
  clear hs ht F6 HW e3
  have HW : Hid (Calls _ _ _ _ _) := put_any ⟨#[97]⟩ 5 P _ F7.out.sys (by decide)
  rw [e4.out] at HW
  go_wp2_with fail
  refine Calls.mono HW.out ?_
  rintro e w8 ⟨o8, rfl, hs, ht⟩
  have F8 : Hid (FsIn w w8 p o8 _) := F7.out.turn hs ht
  clear hs ht F7 HW e4
  have HW : Hid (Calls Try.prog 20 #[.pointer (some ⟨p, 0, none⟩)] w8 fun e w' => e = .returned (.int .i64 3) ∧ Below w8.heap.size w8 w') := used_any _ F8.out.sys
  go_wp2_with fail
  refine Calls.mono HW.out ?_
  rintro e w9 ⟨rfl, hb⟩
  have F9 : Hid (FsIn w w9 p o8 _) := F8.out.later hb
  clear hb F8 HW
  have HW : Hid (Calls Try.prog 24 #[.pointer (some ⟨p, 0, none⟩), .int .i64 1] w9 fun e w' => e = .returned (.int .i64 0) ∧ Sys w' p o8 ⟨3, 1, [(⟨#[97]⟩, [P, Q, P])]⟩ ∧ Turn o8 w9 o8 w') := fail_any 1 _ F9.out.sys (by decide)
  go_wp2_with fail
  refine Calls.mono HW.out ?_
  rintro e w10 ⟨rfl, hs, ht⟩
  have Fa : Hid (FsIn w w10 p o8 _) := F9.out.turn hs ht
  clear hs ht F9 HW
  have HW : Hid (Calls _ _ _ _ _) := read_any ⟨#[97]⟩ 0 _ Fa.out.sys (by decide)
  rw [e5.out] at HW
  go_wp2_with fail
  refine Calls.mono HW.out ?_
  rintro e w11 ⟨rfl, hs, ht⟩
  have Fb : Hid (FsIn w w11 p o8 _) := Fa.out.turn hs ht
  clear hs ht Fa HW e5
  have HW : Hid (Calls _ _ _ _ _) := read_any ⟨#[97]⟩ 9 _ Fb.out.sys (by decide)
  rw [e6.out] at HW
  go_wp2_with fail
  refine Calls.mono HW.out ?_
  rintro e w12 ⟨rfl, hs, ht⟩
  have Fc : Hid (FsIn w w12 p o8 _) := Fb.out.turn hs ht
  clear hs ht Fb HW e6
  have HW : Hid (Calls _ _ _ _ _) := read_any ⟨#[97]⟩ 1 _ Fc.out.sys (by decide)
  rw [e7.out] at HW
  go_wp2_with fail
  refine Calls.mono HW.out ?_
  rintro e w13 ⟨rfl, hs, ht⟩
  have Fd : Hid (FsIn w w13 p o8 _) := Fc.out.turn hs ht
  clear hs ht Fc HW e7
  have HW : Hid (Calls _ _ _ _ _) := read_any ⟨#[97]⟩ 1 _ Fd.out.sys (by decide)
  rw [e8.out] at HW
  go_wp2_with fail
  refine Calls.mono HW.out ?_
  rintro e w14 ⟨rfl, hs, ht⟩
  have Fe : Hid (FsIn w w14 p o8 _) := Fd.out.turn hs ht
  clear hs ht Fd HW e8
  go_wp2
  go_ret
  exact ⟨rfl, Fe.out.below⟩

end Go.Proofs.Ytikbhklmedblbaa
