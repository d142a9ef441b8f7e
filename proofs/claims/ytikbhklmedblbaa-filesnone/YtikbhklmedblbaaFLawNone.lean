/- FilesNone: for every act the call returns true: a file system that is none does nothing, and tells nothing (P6.1 to P6.5). No conditions. -/
import Derived.Test.YtikbhklmedblbaaFOpen
namespace Go.Proofs.Ytikbhklmedblbaa
open Go.ChangeShapes Go.WideShapes Go.ChangeAt Go.RowKit

set_option maxRecDepth 100000 in
theorem none_write (P : Value) (n : ByteArray) (v : Value) (w : World) (hI : Calls Try.prog 41 #[P] w fun e w' => e = .returned (.bool true) ∧ w' = w) :
    Calls Try.prog 30 #[P, .string n, v] w fun e w' => e = .returned (.int .i64 1) ∧ w' = w := by
  have HI : Hid (Calls _ _ _ _ _) := hI
  clear hI
  go_enter Try.func30, Try.ntmps30
  go_wp2_with fail
  refine Calls.mono HI.out ?_
  rintro e w1 ⟨rfl, rfl⟩
  go_wp2
  go_ret
  exact ⟨rfl, rfl⟩

set_option maxRecDepth 100000 in
theorem none_put (P : Value) (n : ByteArray) (i : Int) (s : ByteArray) (w : World) (hI : Calls Try.prog 41 #[P] w fun e w' => e = .returned (.bool true) ∧ w' = w) :
    Calls Try.prog 34 #[P, .string n, .int .i64 i, .string s] w fun e w' => e = .returned (.int .i64 1) ∧ w' = w := by
  have HI : Hid (Calls _ _ _ _ _) := hI
  clear hI
  go_enter Try.func34, Try.ntmps34
  go_wp2_with fail
  refine Calls.mono HI.out ?_
  rintro e w1 ⟨rfl, rfl⟩
  go_wp2
  go_ret
  exact ⟨rfl, rfl⟩

set_option maxRecDepth 100000 in
theorem none_read (P : Value) (n : ByteArray) (i : Int) (w : World) (hI : Calls Try.prog 41 #[P] w fun e w' => e = .returned (.bool true) ∧ w' = w) :
    Calls Try.prog 25 #[P, .string n, .int .i64 i] w fun e w' => e = .returned (.tuple #[.string ⟨#[]⟩, .int .i64 1]) ∧ w' = w := by
  have HI : Hid (Calls _ _ _ _ _) := hI
  clear hI
  go_enter Try.func25, Try.ntmps25
  go_wp2_with fail
  refine Calls.mono HI.out ?_
  rintro e w1 ⟨rfl, rfl⟩
  go_wp2
  go_ret2
  exact ⟨rfl, rfl⟩

set_option maxRecDepth 100000 in
theorem none_remove (P : Value) (n : ByteArray) (w : World) (hI : Calls Try.prog 41 #[P] w fun e w' => e = .returned (.bool true) ∧ w' = w) :
    Calls Try.prog 31 #[P, .string n] w fun e w' => e = .returned (.int .i64 1) ∧ w' = w := by
  have HI : Hid (Calls _ _ _ _ _) := hI
  clear hI
  go_enter Try.func31, Try.ntmps31
  go_wp2_with fail
  refine Calls.mono HI.out ?_
  rintro e w1 ⟨rfl, rfl⟩
  go_wp2
  go_ret
  exact ⟨rfl, rfl⟩

set_option maxRecDepth 100000 in
theorem none_names (P : Value) (w : World) (hI : Calls Try.prog 41 #[P] w fun e w' => e = .returned (.bool true) ∧ w' = w) :
    Calls Try.prog 16 #[P] w fun e w' => e = .returned (.slice none 0 0) ∧ w' = w := by
  have HI : Hid (Calls _ _ _ _ _) := hI
  clear hI
  go_enter Try.func16, Try.ntmps16
  go_wp2_with fail
  refine Calls.mono HI.out ?_
  rintro e w1 ⟨rfl, rfl⟩
  go_wp2
  go_ret
  exact ⟨rfl, rfl⟩

set_option maxRecDepth 100000 in
theorem none_pages (P : Value) (n : ByteArray) (w : World) (hI : Calls Try.prog 41 #[P] w fun e w' => e = .returned (.bool true) ∧ w' = w) :
    Calls Try.prog 18 #[P, .string n] w fun e w' => e = .returned (.int .i64 0) ∧ w' = w := by
  have HI : Hid (Calls _ _ _ _ _) := hI
  clear hI
  go_enter Try.func18, Try.ntmps18
  go_wp2_with fail
  refine Calls.mono HI.out ?_
  rintro e w1 ⟨rfl, rfl⟩
  go_wp2
  go_ret
  exact ⟨rfl, rfl⟩

set_option maxRecDepth 100000 in
theorem none_used (P : Value) (w : World) (hI : Calls Try.prog 41 #[P] w fun e w' => e = .returned (.bool true) ∧ w' = w) :
    Calls Try.prog 20 #[P] w fun e w' => e = .returned (.int .i64 0) ∧ w' = w := by
  have HI : Hid (Calls _ _ _ _ _) := hI
  clear hI
  go_enter Try.func20, Try.ntmps20
  go_wp2_with fail
  refine Calls.mono HI.out ?_
  rintro e w1 ⟨rfl, rfl⟩
  go_wp2
  go_ret
  exact ⟨rfl, rfl⟩

set_option maxRecDepth 100000 in
theorem none_fail (P : Value) (n : Int) (w : World) (hI : Calls Try.prog 41 #[P] w fun e w' => e = .returned (.bool true) ∧ w' = w) :
    Calls Try.prog 24 #[P, .int .i64 n] w fun e w' => e = .returned (.int .i64 1) ∧ w' = w := by
  have HI : Hid (Calls _ _ _ _ _) := hI
  clear hI
  go_enter Try.func24, Try.ntmps24
  go_wp2_with fail
  refine Calls.mono HI.out ?_
  rintro e w1 ⟨rfl, rfl⟩
  go_wp2
  go_ret
  exact ⟨rfl, rfl⟩

set_option maxRecDepth 100000 in
theorem none_flip (P : Value) (n : ByteArray) (i k x : Int) (w : World) (hI : Calls Try.prog 41 #[P] w fun e w' => e = .returned (.bool true) ∧ w' = w) :
    Calls Try.prog 33 #[P, .string n, .int .i64 i, .int .i64 k, .int .u8 x] w fun e w' => e = .returned (.int .i64 1) ∧ w' = w := by
  have HI : Hid (Calls _ _ _ _ _) := hI
  clear hI
  go_enter Try.func33, Try.ntmps33
  go_wp2_with fail
  refine Calls.mono HI.out ?_
  rintro e w1 ⟨rfl, rfl⟩
  go_wp2
  go_ret
  exact ⟨rfl, rfl⟩

set_option maxRecDepth 100000 in
set_option maxHeartbeats 4000000 in
theorem done_none (P : Value) (d : Deed) (w : World) (hok : DeedOk w d) (hI : ∀ W, Below w.heap.size w W → Calls Try.prog 41 #[P] W fun e w' => e = .returned (.bool true) ∧ w' = W) :
    Calls Try.prog 13 #[P, .agg d.cells] w fun e w' => e = .returned (.tuple #[.string ⟨#[]⟩, .int .i64 1]) ∧ Below w.heap.size w w' := by
  have hbx := box_later w d
  have h1 := hI _ hbx
  have HW : Hid (Calls _ _ _ _ _) := none_write P d.name d.pv _ h1
  have HF : Hid (Calls _ _ _ _ _) := first_any d.pv d.pages _ ((hok.strs.later hbx).later (Below.refl _ _).drew)
  have HP : Hid (Calls _ _ _ _ _) := none_put P d.name d.i (firstOf d.pages) _ (hI _ hbx.drew)
  have HR : Hid (Calls _ _ _ _ _) := none_remove P d.name _ h1
  have HFa : Hid (Calls _ _ _ _ _) := none_fail P d.i _ h1
  have HFl : Hid (Calls _ _ _ _ _) := none_flip P d.name d.i d.at_ d.x.toNat _ h1
  have HRd : Hid (Calls _ _ _ _ _) := none_read P d.name d.i _ h1
  have HB : Hid (Below _ _ _) := hbx
  obtain ⟨r, hr, hr9⟩ : ∃ r : Nat, (d.kind : Int) % 9 = r ∧ r < 9 := ⟨d.kind % 9, by omega, by omega⟩
  have hk := hok.kind
  clear hbx h1 hI hok
  unfold Deed.cells at *
  obtain ⟨kind, name, pv, pages, i, at_, x⟩ := d
  simp only at *
  generalize firstOf pages = fp at *
  generalize (x.toNat : Int) = X at *
  have hcases : r = 0 ∨ r = 1 ∨ r = 2 ∨ r = 3 ∨ r = 4 ∨ r = 5 ∨ r = 6 ∨ r = 7 ∨ r = 8 := by omega
  rcases hcases with rfl | rfl | rfl | rfl | rfl | rfl | rfl | rfl | rfl
  case inl =>
    clear HF HP HR HFa HFl HRd
    go_enter Try.func13, Try.ntmps13
    go_wp2_with fail
    refine Calls.mono HW.out ?_
    rintro e w2 ⟨rfl, rfl⟩
    go_wp2
    go_ret2
    exact ⟨rfl, HB.out⟩
  case inr.inl =>
    clear HF HP HR HFa HFl HRd
    go_enter Try.func13, Try.ntmps13
    go_wp2_with fail
    refine Calls.mono HW.out ?_
    rintro e w2 ⟨rfl, rfl⟩
    go_wp2
    go_ret2
    exact ⟨rfl, HB.out⟩
  case inr.inr.inl =>
    clear HW HR HFa HFl HRd
    go_enter Try.func13, Try.ntmps13
    go_wp2_with fail
    go_region_law
      (first
      | (go_simp; go_at_call 35; refine Calls.mono HF.out ?_; rintro e w1 ⟨rfl, rfl⟩)
      | (go_simp; go_at_call 34; refine Calls.mono HP.out ?_; rintro e w2 ⟨rfl, rfl⟩))
    all_goals
      go_wp2
      go_ret2
      exact ⟨rfl, HB.out.drew⟩
  case inr.inr.inr.inl =>
    clear HW HR HFa HFl HRd
    go_enter Try.func13, Try.ntmps13
    go_wp2_with fail
    go_region_law
      (first
      | (go_simp; go_at_call 35; refine Calls.mono HF.out ?_; rintro e w1 ⟨rfl, rfl⟩)
      | (go_simp; go_at_call 34; refine Calls.mono HP.out ?_; rintro e w2 ⟨rfl, rfl⟩))
    all_goals
      go_wp2
      go_ret2
      exact ⟨rfl, HB.out.drew⟩
  case inr.inr.inr.inr.inl =>
    clear HW HF HP HR HFa HFl
    go_enter Try.func13, Try.ntmps13
    go_wp2_with fail
    refine Calls.mono HRd.out ?_
    rintro e w2 ⟨rfl, rfl⟩
    go_wp2
    go_ret2
    exact ⟨rfl, HB.out⟩
  case inr.inr.inr.inr.inr.inl =>
    clear HW HF HP HR HFa HFl
    go_enter Try.func13, Try.ntmps13
    go_wp2_with fail
    refine Calls.mono HRd.out ?_
    rintro e w2 ⟨rfl, rfl⟩
    go_wp2
    go_ret2
    exact ⟨rfl, HB.out⟩
  case inr.inr.inr.inr.inr.inr.inl =>
    clear HW HF HP HFa HFl HRd
    go_enter Try.func13, Try.ntmps13
    go_wp2_with fail
    refine Calls.mono HR.out ?_
    rintro e w2 ⟨rfl, rfl⟩
    go_wp2
    go_ret2
    exact ⟨rfl, HB.out⟩
  case inr.inr.inr.inr.inr.inr.inr.inl =>
    clear HW HF HP HR HFl HRd
    go_enter Try.func13, Try.ntmps13
    go_wp2_with fail
    refine Calls.mono HFa.out ?_
    rintro e w2 ⟨rfl, rfl⟩
    go_wp2
    go_ret2
    exact ⟨rfl, HB.out⟩
  case inr.inr.inr.inr.inr.inr.inr.inr =>
    clear HW HF HP HR HFa HRd
    go_enter Try.func13, Try.ntmps13
    go_wp2_with fail
    refine Calls.mono HFl.out ?_
    rintro e w2 ⟨rfl, rfl⟩
    go_wp2
    go_ret2
    exact ⟨rfl, HB.out⟩

def Deed.as (d : Deed) (k : Nat) : Deed := { d with kind := k }

/-- A file system that is none, and the act in its box. -/
structure NoneIn (w W : World) (P : Value) (d : Deed) : Prop where
  below : Below w.heap.size w W
  box : W.heap[w.heap.size]? = some (.cells d.cells 34 (0, 0))
  none : P = .pointer Option.none ∨ ∃ q, q ≠ w.heap.size ∧ P = .pointer (some ⟨q, 0, Option.none⟩) ∧ W.cell? ⟨q, 1, Option.none⟩ = some (.map Option.none)
  ok : DeedOk w d

theorem NoneIn.later {w W W' : World} {P : Value} {d : Deed} (h : NoneIn w W P d) (hb : Below W.heap.size W W') : NoneIn w W' P d := by
  have hlt : w.heap.size < W.heap.size := (Array.getElem?_eq_some_iff.1 h.box).1
  refine ⟨bnext h.below hb, (hb.block _ hlt).trans h.box, ?_, h.ok⟩
  rcases h.none with h1 | ⟨q, h0, h1, h2⟩
  · exact .inl h1
  · exact .inr ⟨q, h0, h1, cell_after hb h2⟩
theorem NoneIn.asks {w W : World} {P : Value} {d : Deed} (h : NoneIn w W P d) : Calls Try.prog 41 #[P] W fun e w' => e = .returned (.bool true) ∧ w' = W := by
  rcases h.none with rfl | ⟨q, _, rfl, h2⟩
  · exact isNone_nil W
  · exact isNone_bare W h2
theorem NoneIn.cell {w W : World} {P : Value} {d : Deed} (h : NoneIn w W P d) (j : Nat) : W.cell? ⟨w.heap.size, j, Option.none⟩ = d.cells[j]? := by
  unfold World.cell?
  simp only []
  rw [h.box]
  rfl
theorem NoneIn.frozen {w W : World} {P : Value} {d : Deed} (h : NoneIn w W P d) (j : Nat) : W.frozen? ⟨w.heap.size, j, Option.none⟩ = false := by
  simp [World.frozen?, h.box]
theorem NoneIn.kind {w W : World} {P : Value} {d : Deed} (h : NoneIn w W P d) (k : Nat) (hk : k < 256) : NoneIn w (W.setCell ⟨w.heap.size, 0, Option.none⟩ (.int .u8 k)) P (d.as k) := by
  have hb : Below w.heap.size w (W.setCell ⟨w.heap.size, 0, Option.none⟩ (.int .u8 k)) := h.below.setCell (p := ⟨w.heap.size, 0, Option.none⟩) (Nat.le_refl _) _
  refine ⟨hb, ?_, ?_, ?_⟩
  · have := heap_setCell_same W w.heap.size 0 d.cells 34 (.int .u8 k) h.box
    exact this
  · rcases h.none with h1 | ⟨q, h0, h1, h2⟩
    · exact .inl h1
    · refine .inr ⟨q, h0, h1, ?_⟩
      rw [World.cell?_of_block (a := ⟨q, 1, Option.none⟩) (Below.heap_setCell _ _ _ _ h0)]
      exact h2
  · exact ⟨hk, h.ok.name, h.ok.strs, h.ok.len, h.ok.each, h.ok.i1, h.ok.i2⟩

theorem NoneIn.cells6 {w W : World} {P : Value} {d : Deed} (h : NoneIn w W P d) : DeedAt W w.heap.size 0 d :=
  ⟨h.cell 0, h.cell 1, h.cell 2, h.cell 3, h.cell 4, h.cell 5⟩

theorem none_start (w : World) (d : Deed) (hok : DeedOk w d) : NoneIn w ((w.alloc (.cells d.cells 34)).alloc (.cells d.cells 34)) (.pointer none) d :=
  ⟨((Below.refl _ w).alloc (Nat.le_refl _) _).alloc (by simp) _, (Below.heap_alloc _ _ _ (by simp)).trans (heap_alloc_new w _), .inl rfl, hok⟩
theorem none_next {w W : World} {P : Value} {d : Deed} (h : NoneIn w W P d) : NoneIn w (W.alloc (.cells #[.int .i64 0, .map none, .int .i64 0] 51)) (.pointer (some ⟨W.heap.size, 0, none⟩)) d := by
  have hlt : w.heap.size < W.heap.size := (Array.getElem?_eq_some_iff.1 h.box).1
  refine ⟨h.below.alloc h.below.size _, (Below.heap_alloc _ _ _ hlt).trans h.box, .inr ⟨W.heap.size, by omega, rfl, ?_⟩, h.ok⟩
  have hb := heap_alloc_new W (.cells #[.int .i64 0, .map none, .int .i64 0] 51)
  unfold World.cell?
  simp only []
  rw [hb]
  rfl
theorem none_acts (w : World) (d : Deed) (hok : DeedOk w d) : Acts ((w.alloc (.cells d.cells 34)).alloc (.cells d.cells 34)) (.slice (some ⟨w.heap.size + 1, 0, none⟩) 1 1) [d] := by
  refine ⟨_, 1, rfl, by simp, .inr ⟨w.heap.size + 1, 0, rfl, fun j hj => ?_⟩⟩
  have hj0 : j = 0 := by simp at hj; exact hj
  subst hj0
  have hb : ((w.alloc (.cells d.cells 34)).alloc (.cells d.cells 34)).heap[w.heap.size + 1]? = some (.cells d.cells 34 (0, 0)) := by
    have h := heap_alloc_new (w.alloc (.cells d.cells 34)) (.cells d.cells 34)
    rwa [show (w.alloc (.cells d.cells 34)).heap.size = w.heap.size + 1 by simp] at h
  have hc (q : Nat) : ((w.alloc (.cells d.cells 34)).alloc (.cells d.cells 34)).cell? ⟨w.heap.size + 1, q, none⟩ = d.cells[q]? := by
    unfold World.cell?
    simp only []
    rw [hb]
    rfl
  exact ⟨⟨hc 0, hc 1, hc 2, hc 3, hc 4, hc 5⟩, hok.later (((Below.refl _ w).alloc (Nat.le_refl _) _).alloc (by simp) _)⟩

set_option maxRecDepth 100000 in
set_option maxHeartbeats 4000000 in
theorem filesNone_walk (d : Deed) (w : World) (hok : DeedOk w d) :
    Calls Try.prog 4 #[.agg d.cells] w fun e w' => e = .returned (.bool true) ∧ Below w.heap.size w w' := by
  have HG : Hid (Calls _ _ _ _ _) := greatDeeds_any _ [d] 1 _ (none_acts w d hok) (by simp) (by decide)
  have N0 : Hid (NoneIn _ _ _ _) := none_start w d hok
  have HD : Hid (∀ W, Calls _ _ _ _ _) := fun W => does_any W
  have HDN : Hid (∀ W P dk, NoneIn w W P dk → Calls Try.prog 13 #[P, .agg dk.cells] W fun e w' => e = .returned (.tuple #[.string ⟨#[]⟩, .int .i64 1]) ∧ Below W.heap.size W w') := fun W P dk hN => done_none P dk W (hN.ok.later hN.below) fun W' hb => (hN.later hb).asks
  clear hok
  generalize hB : fewDeeds [d] 1 = B at HG
  clear hB
  unfold Deed.cells at HG N0 HDN ⊢
  cases B with
  | false =>
    have HB0 : Hid (Below _ _ _) := N0.out.below
    clear N0
    go_enter Try.func4, Try.ntmps4
    go_wp2_with fail
    refine Calls.mono HG.out ?_
    rintro e w1 ⟨rfl, rfl⟩
    go_wp2
    go_ret
    exact ⟨rfl, HB0.out⟩
  | true =>
    go_enter Try.func4, Try.ntmps4
    go_wp2_with fail
    refine Calls.mono HG.out ?_
    rintro e w1 ⟨rfl, rfl⟩
    go_wp2
    clear HG
    go_loopw [3, 4] (fun x y wr => ∃ (t : Nat) (dk : Deed), t ≤ 2 ∧ y = .int .i64 t ∧ Hid (NoneIn w wr x dk)) (fun _ y _ => 2 - (intOf y).toNat)
    case atStart => exact ⟨0, d, by omega, rfl, N0⟩
    case round =>
      clear N0
      obtain ⟨t, dk, ht, rfl, N⟩ := hrel
      by_cases htl : t < 2
      · go_wp2
        rw [decide_eq_true (p := (t : Int) < 2) (by omega)]
        go_loopw [5] (fun x ws => ∃ (k : Nat) (dk : Deed), k ≤ 9 ∧ x = .int .i64 k ∧ Hid (NoneIn w ws u3 dk)) (fun x _ => 9 - (intOf x).toNat)
        case atStart => exact ⟨0, dk, by omega, rfl, N⟩
        case round =>
          clear N
          obtain ⟨k, dj, hk, rfl, N⟩ := hrel
          have c6 := N.out.cells6
          have c0 := c6.c0
          have c1 := c6.c1
          have c2 := c6.c2
          have c3 := c6.c3
          have c4 := c6.c4
          have c5 := c6.c5
          have f0 := N.out.frozen 0
          clear c6
          by_cases hkl : k < 9
          · have N1 := N.out.kind k (by omega)
            have HC : Hid (Calls _ _ _ _ _) := HDN.out _ u3 _ N1
            have NN1 : Hid (NoneIn _ _ _ _) := N1
            unfold Deed.as at HC
            simp only at HC
            have hkm : (k : Int) % 256 = k := by omega
            clear N1
            generalize dj.pv = pv at *
            generalize dj.name = nm at *
            go_wp2_with fail
            refine Calls.mono HC.out ?_
            rintro e w2 ⟨rfl, hb2⟩
            have N2 : Hid (NoneIn _ _ _ _) := NN1.out.later hb2
            clear hb2 NN1 HC c0 c1 c2 c3 c4 c5 f0
            go_wp2
            go_roundw
            case rel => exact ⟨k + 1, _, by omega, by go_num, N2⟩
            case measure => simp [intOf]; omega
          · have HNa : Hid (Calls _ _ _ _ _) := none_names u3 wr N.out.asks
            have HPa : Hid (Calls _ _ _ _ _) := none_pages u3 dj.name wr N.out.asks
            have HUs : Hid (Calls _ _ _ _ _) := none_used u3 wr N.out.asks
            have N3 : Hid (NoneIn _ _ _ _) := none_next N.out
            clear N c0 c2 c3 c4 c5 f0
            generalize dj.name = nm at *
            go_wp2_with fail
            refine Calls.mono HNa.out ?_
            rintro e w2 ⟨rfl, rfl⟩
            go_wp2_with fail
            refine Calls.mono HPa.out ?_
            rintro e w2 ⟨rfl, rfl⟩
            go_wp2_with fail
            refine Calls.mono HUs.out ?_
            rintro e w2 ⟨rfl, rfl⟩
            clear HNa HPa HUs c1
            go_wp2
            go_roundw
            case rel => exact ⟨t + 1, _, by omega, by go_num, N3⟩
            case measure => simp [intOf]; omega
      · go_wp2_with fail
        refine (HD.out _).mono ?_
        rintro e w8 ⟨rfl, hb⟩
        have F8 : Hid (Below w.heap.size w w8) := bnext N.out.below hb
        clear hb N
        go_wp2
        go_ret
        exact ⟨rfl, F8.out⟩

set_option maxRecDepth 100000 in
theorem filesNone_lifted (os : Os) (started : os.Started) (H : Type) (enc : TypeId × Value → H) :
    ReturnsInHanded {} Try.checked os 4 .any (Rows.filesNoneSpec.pre6 enc Try.prog Try.f4 Rows.filesNoneRow.domain false) (Rows.filesNoneSpec.post enc Try.prog Try.f4 false true false false) := by
  refine returnsInHanded_of_change (C := Try.checked) Try.own started (by kernel_rfl) Try.func4
    (ChangeSpec.witness6 (enc := enc) (C := Try.checked) false ⟨#[], #[.agg #[.int .u8 0, .string ByteArray.empty, .slice none 0 0, .int .i64 0, .int .i64 0, .int .u8 0]], []⟩ 8 (by kernel_rfl) (by kernel_rfl) (by kernel_rfl) (by kernel_rfl)) ?_
  intro W base args ds gs before hval0 hW hcnd _
  have hval : ∀ (j : Nat) t v, Try.f4.params[j]? = some t → args[j]? = some v → Value.okWide Try.prog W .any base t v := hval0
  have hW' := hW
  obtain ⟨p, q, hA0, hV, rfl, hfz, hnd⟩ := hW
  have hA : DataW.TrodAll enc Try.prog W 0 (fun _ => true) true Try.f4.params.toList args.toList ds p := hA0
  rw [Try.params4] at hA hval
  obtain ⟨v0, vs0, d0, ds0, p0, q0, hargs, rfl, rfl, h0, r0⟩ := trodAll_cons hA
  obtain ⟨rfl, rfl, rfl⟩ := trodAll_nil r0
  obtain rfl : args = #[v0] := by cases args; simp_all
  obtain ⟨rfl, rfl⟩ := trodVars_none hV
  have lt0 : ∀ x ∈ p0, x.block < W.heap.size := by obtain ⟨m, hm⟩ := h0; exact DataW.trod_lt m _ _ _ hm
  obtain ⟨a0, rfl, k0⟩ := open_deed (hval 0 34 v0 rfl rfl) h0
  clear hA0 hval0
  refine (filesNone_walk a0 W k0).mono fun e W' ⟨he, bel⟩ => ?_
  subst he
  exact ⟨_, rfl, _, _, _, [], _, [], hW', trodAll_mk1 (shut_bool Try.underlying4 _), (trodAll_cons_mk (Below.trod Try.laidOut (by kernel_rfl) (of_decide_eq_true (by kernel_rfl)) h0 bel lt0) trodAll_mk0), rfl, bel.frame _, fun h => by cases h⟩

theorem filesNone_holds : Rows.FilesNoneSaid :=
  OpenClaim.holds_of_wide 4 Try.f4 rfl rfl rfl rfl rfl rfl rfl ⟨rfl, rfl, rfl, rfl, rfl⟩ rfl rfl rfl rfl rfl (by kernel_rfl) Try.func4 (by kernel_rfl)
    (of_decide_eq_true (by kernel_rfl)) (by unfold Func.isWrapper; first | (rw [if_pos (by decide +kernel)]; kernel_rfl) | (rw [if_neg (by decide +kernel)]; exact ⟨rfl, rfl⟩))
    (fun os started H enc _ => filesNone_lifted os started H enc)

end Go.Proofs.Ytikbhklmedblbaa
