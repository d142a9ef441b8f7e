/- CacheNone: for every act and every number of pages the call returns true: a cache that is none has nothing, and does nothing; over a file system that is none there is none (P7.1 to P7.5). No conditions. -/
import Derived.Test.YtnlhgcpmmcmknaaCRun
namespace Go.Proofs.Ytnlhgcpmmcmknaa
open Go.ChangeShapes Go.WideShapes Go.ChangeAt Go.RowKit Go.Maps

set_option maxRecDepth 100000 in
theorem cn_get (P : Value) (n : ByteArray) (i : Int) (w : World) (hI : Calls Try.prog 49 #[P] w fun e w' => e = .returned (.bool true) ∧ w' = w) :
    Calls Try.prog 31 #[P, .string n, .int .i64 i] w fun e w' => e = .returned (.tuple #[.string ⟨#[]⟩, .int .i64 1]) ∧ w' = w := by
  have HI : Hid (Calls _ _ _ _ _) := hI
  clear hI
  go_enter Try.func31, Try.ntmps31
  go_wp2_with fail
  refine Calls.mono HI.out ?_
  rintro e w1 ⟨rfl, rfl⟩
  go_wp2
  go_ret2
  exact ⟨rfl, rfl⟩

set_option maxRecDepth 100000 in
theorem cn_pin (P : Value) (n : ByteArray) (i : Int) (w : World) (hI : Calls Try.prog 49 #[P] w fun e w' => e = .returned (.bool true) ∧ w' = w) :
    Calls Try.prog 30 #[P, .string n, .int .i64 i] w fun e w' => e = .returned (.tuple #[.string ⟨#[]⟩, .int .i64 1]) ∧ w' = w := by
  have HI : Hid (Calls _ _ _ _ _) := hI
  clear hI
  go_enter Try.func30, Try.ntmps30
  go_wp2_with fail
  refine Calls.mono HI.out ?_
  rintro e w1 ⟨rfl, rfl⟩
  go_wp2
  go_ret2
  exact ⟨rfl, rfl⟩

set_option maxRecDepth 100000 in
theorem cn_unpin (P : Value) (n : ByteArray) (i : Int) (w : World) (hI : Calls Try.prog 49 #[P] w fun e w' => e = .returned (.bool true) ∧ w' = w) :
    Calls Try.prog 36 #[P, .string n, .int .i64 i] w fun e w' => e = .returned (.int .i64 1) ∧ w' = w := by
  have HI : Hid (Calls _ _ _ _ _) := hI
  clear hI
  go_enter Try.func36, Try.ntmps36
  go_wp2_with fail
  refine Calls.mono HI.out ?_
  rintro e w1 ⟨rfl, rfl⟩
  go_wp2
  go_ret
  exact ⟨rfl, rfl⟩

set_option maxRecDepth 100000 in
theorem cn_put (P : Value) (n : ByteArray) (i : Int) (d : ByteArray) (w : World) (hI : Calls Try.prog 49 #[P] w fun e w' => e = .returned (.bool true) ∧ w' = w) :
    Calls Try.prog 29 #[P, .string n, .int .i64 i, .string d] w fun e w' => e = .returned (.int .i64 1) ∧ w' = w := by
  have HI : Hid (Calls _ _ _ _ _) := hI
  clear hI
  go_enter Try.func29, Try.ntmps29
  go_wp2_with fail
  refine Calls.mono HI.out ?_
  rintro e w1 ⟨rfl, rfl⟩
  go_wp2
  go_ret
  exact ⟨rfl, rfl⟩

set_option maxRecDepth 100000 in
theorem cn_drop (P : Value) (n : ByteArray) (w : World) (hI : Calls Try.prog 49 #[P] w fun e w' => e = .returned (.bool true) ∧ w' = w) :
    Calls Try.prog 23 #[P, .string n] w fun e w' => e = .returned (.tuple #[]) ∧ w' = w := by
  have HI : Hid (Calls _ _ _ _ _) := hI
  clear hI
  go_enter Try.func23, Try.ntmps23
  go_wp2_with fail
  refine Calls.mono HI.out ?_
  rintro e w1 ⟨rfl, rfl⟩
  go_wp2
  (try simp only [Exit.inBlock, Exit.then])
  refine bodyPost_ret (results_none rfl _ _ _) rfl ?_
  exact ⟨rfl, rfl⟩

set_option maxRecDepth 100000 in
theorem cn_fs (P : Value) (w : World) (hI : Calls Try.prog 49 #[P] w fun e w' => e = .returned (.bool true) ∧ w' = w) :
    Calls Try.prog 24 #[P] w fun e w' => e = .returned (.pointer none) ∧ w' = w := by
  have HI : Hid (Calls _ _ _ _ _) := hI
  clear hI
  go_enter Try.func24, Try.ntmps24
  go_wp2_with fail
  refine Calls.mono HI.out ?_
  rintro e w1 ⟨rfl, rfl⟩
  go_wp2
  go_ret
  exact ⟨rfl, rfl⟩

set_option maxRecDepth 100000 in
theorem cn_has (P : Value) (n : ByteArray) (i : Int) (w : World) (hI : Calls Try.prog 49 #[P] w fun e w' => e = .returned (.bool true) ∧ w' = w) :
    Calls Try.prog 19 #[P, .string n, .int .i64 i] w fun e w' => e = .returned (.bool false) ∧ w' = w := by
  have HI : Hid (Calls _ _ _ _ _) := hI
  clear hI
  go_enter Try.func19, Try.ntmps19
  go_wp2_with fail
  refine Calls.mono HI.out ?_
  rintro e w1 ⟨rfl, rfl⟩
  go_wp2
  go_ret
  exact ⟨rfl, rfl⟩

set_option maxRecDepth 100000 in
theorem cn_len (P : Value) (w : World) (hI : Calls Try.prog 49 #[P] w fun e w' => e = .returned (.bool true) ∧ w' = w) :
    Calls Try.prog 16 #[P] w fun e w' => e = .returned (.int .i64 0) ∧ w' = w := by
  have HI : Hid (Calls _ _ _ _ _) := hI
  clear hI
  go_enter Try.func16, Try.ntmps16
  go_wp2_with fail
  refine Calls.mono HI.out ?_
  rintro e w1 ⟨rfl, rfl⟩
  go_wp2
  go_ret
  exact ⟨rfl, rfl⟩

set_option maxRecDepth 100000 in
theorem cn_pinned (P : Value) (w : World) (hI : Calls Try.prog 49 #[P] w fun e w' => e = .returned (.bool true) ∧ w' = w) :
    Calls Try.prog 17 #[P] w fun e w' => e = .returned (.int .i64 0) ∧ w' = w := by
  have HI : Hid (Calls _ _ _ _ _) := hI
  clear hI
  go_enter Try.func17, Try.ntmps17
  go_wp2_with fail
  refine Calls.mono HI.out ?_
  rintro e w1 ⟨rfl, rfl⟩
  go_wp2
  go_ret
  exact ⟨rfl, rfl⟩

set_option maxRecDepth 100000 in
set_option maxHeartbeats 4000000 in
theorem done_cnone (P : Value) (d : Cd) (w : World) (hk5 : d.kind < 5) (hI : ∀ W, Below w.heap.size w W → Calls Try.prog 49 #[P] W fun e w' => e = .returned (.bool true) ∧ w' = W) :
    Calls Try.prog 14 #[P, .agg d.cells] w fun e w' => e = .returned (.tuple #[.string ⟨#[]⟩, .int .i64 1]) ∧ Below w.heap.size w w' := by
  have hbx := boxC w d
  have h1 := hI _ hbx
  have HGe : Hid (Calls _ _ _ _ _) := cn_get P d.name d.i _ h1
  have HPi : Hid (Calls _ _ _ _ _) := cn_pin P d.name d.i _ h1
  have HUn : Hid (Calls _ _ _ _ _) := cn_unpin P d.name d.i _ h1
  have HPu : Hid (Calls _ _ _ _ _) := cn_put P d.name d.i d.data _ h1
  have HB : Hid (Below _ _ _) := hbx
  clear hbx h1 hI
  unfold Cd.cells at *
  obtain ⟨kind, name, i, data, x⟩ := d
  simp only at *
  generalize (x.toNat : Int) = X at *
  have hcases : kind = 0 ∨ kind = 1 ∨ kind = 2 ∨ kind = 3 ∨ kind = 4 := by omega
  clear hk5
  rcases hcases with rfl | rfl | rfl | rfl | rfl
  case inl =>
    clear HPi HUn HPu
    go_enter Try.func14, Try.ntmps14
    go_wp2_with fail
    refine Calls.mono HGe.out ?_
    rintro e w2 ⟨rfl, rfl⟩
    go_wp2
    go_ret2
    exact ⟨rfl, HB.out⟩
  case inr.inl =>
    clear HPi HUn HPu
    go_enter Try.func14, Try.ntmps14
    go_wp2_with fail
    refine Calls.mono HGe.out ?_
    rintro e w2 ⟨rfl, rfl⟩
    go_wp2
    go_ret2
    exact ⟨rfl, HB.out⟩
  case inr.inr.inl =>
    clear HGe HUn HPu
    go_enter Try.func14, Try.ntmps14
    go_wp2_with fail
    refine Calls.mono HPi.out ?_
    rintro e w2 ⟨rfl, rfl⟩
    go_wp2
    go_ret2
    exact ⟨rfl, HB.out⟩
  case inr.inr.inr.inl =>
    clear HGe HPi HPu
    go_enter Try.func14, Try.ntmps14
    go_wp2_with fail
    refine Calls.mono HUn.out ?_
    rintro e w2 ⟨rfl, rfl⟩
    go_wp2
    go_ret2
    exact ⟨rfl, HB.out⟩
  case inr.inr.inr.inr =>
    clear HGe HPi HUn
    go_enter Try.func14, Try.ntmps14
    go_wp2_with fail
    refine Calls.mono HPu.out ?_
    rintro e w2 ⟨rfl, rfl⟩
    go_wp2
    go_ret2
    exact ⟨rfl, HB.out⟩

def Cd.as (d : Cd) (k : Nat) : Cd := { d with kind := k }

/-- A cache that is none, and the act in its box. -/
structure NoCache (w W : World) (P : Value) (d : Cd) : Prop where
  below : Below w.heap.size w W
  box : W.heap[w.heap.size]? = some (.cells d.cells 42 (0, 0))
  none : P = .pointer Option.none ∨ ∃ q, q ≠ w.heap.size ∧ P = .pointer (some ⟨q, 0, Option.none⟩) ∧ W.cell? ⟨q, 2, Option.none⟩ = some (.map Option.none)
  ok : CdOk d

theorem NoCache.later {w W W' : World} {P : Value} {d : Cd} (h : NoCache w W P d) (hb : Below W.heap.size W W') : NoCache w W' P d := by
  have hlt : w.heap.size < W.heap.size := (Array.getElem?_eq_some_iff.1 h.box).1
  refine ⟨bnext h.below hb, (hb.block _ hlt).trans h.box, ?_, h.ok⟩
  rcases h.none with h1 | ⟨q, h0, h1, h2⟩
  · exact .inl h1
  · exact .inr ⟨q, h0, h1, cell_after hb h2⟩
theorem NoCache.asks {w W : World} {P : Value} {d : Cd} (h : NoCache w W P d) : Calls Try.prog 49 #[P] W fun e w' => e = .returned (.bool true) ∧ w' = W := by
  rcases h.none with rfl | ⟨q, _, rfl, h2⟩
  · exact cnone_nil W
  · exact cnone_bare W h2
theorem NoCache.cell {w W : World} {P : Value} {d : Cd} (h : NoCache w W P d) (j : Nat) : W.cell? ⟨w.heap.size, j, Option.none⟩ = d.cells[j]? := by
  unfold World.cell?
  simp only []
  rw [h.box]
  rfl
theorem NoCache.frozen {w W : World} {P : Value} {d : Cd} (h : NoCache w W P d) (j : Nat) : W.frozen? ⟨w.heap.size, j, Option.none⟩ = false := by
  simp [World.frozen?, h.box]
theorem NoCache.kind {w W : World} {P : Value} {d : Cd} (h : NoCache w W P d) (k : Nat) (hk : k < 256) : NoCache w (W.setCell ⟨w.heap.size, 0, Option.none⟩ (.int .u8 k)) P (d.as k) := by
  have hb : Below w.heap.size w (W.setCell ⟨w.heap.size, 0, Option.none⟩ (.int .u8 k)) := h.below.setCell (p := ⟨w.heap.size, 0, Option.none⟩) (Nat.le_refl _) _
  refine ⟨hb, ?_, ?_, ?_⟩
  · have := heap_setCell_same W w.heap.size 0 d.cells 42 (.int .u8 k) h.box
    exact this
  · rcases h.none with h1 | ⟨q, h0, h1, h2⟩
    · exact .inl h1
    · refine .inr ⟨q, h0, h1, ?_⟩
      rw [World.cell?_of_block (a := ⟨q, 2, Option.none⟩) (Below.heap_setCell _ _ _ _ h0)]
      exact h2
  · exact ⟨hk, h.ok.name, h.ok.data, h.ok.i1, h.ok.i2⟩
theorem NoCache.cells5 {w W : World} {P : Value} {d : Cd} (h : NoCache w W P d) : CdAt W w.heap.size 0 d :=
  ⟨h.cell 0, h.cell 1, h.cell 2, h.cell 3, h.cell 4⟩

theorem nocache_start (w : World) (d : Cd) (hok : CdOk d) : NoCache w ((w.alloc (.cells d.cells 42)).alloc (.cells d.cells 42)) (.pointer none) d :=
  ⟨((Below.refl _ w).alloc (Nat.le_refl _) _).alloc (by simp) _, (Below.heap_alloc _ _ _ (by simp)).trans (heap_alloc_new w _), .inl rfl, hok⟩
theorem nocache_next {w W : World} {P : Value} {d : Cd} (h : NoCache w W P d) : NoCache w (W.alloc (.cells #[.pointer none, .int .i64 0, .map none, .int .i64 0] 58)) (.pointer (some ⟨W.heap.size, 0, none⟩)) d := by
  have hlt : w.heap.size < W.heap.size := (Array.getElem?_eq_some_iff.1 h.box).1
  refine ⟨h.below.alloc h.below.size _, (Below.heap_alloc _ _ _ hlt).trans h.box, .inr ⟨W.heap.size, by omega, rfl, ?_⟩, h.ok⟩
  have hb := heap_alloc_new W (.cells #[.pointer none, .int .i64 0, .map none, .int .i64 0] 58)
  unfold World.cell?
  simp only []
  rw [hb]
  rfl
theorem nocache_acts (w : World) (d : Cd) (hok : CdOk d) : CActs ((w.alloc (.cells d.cells 42)).alloc (.cells d.cells 42)) (.slice (some ⟨w.heap.size + 1, 0, none⟩) 1 1) [d] := by
  refine ⟨_, 1, rfl, by simp, .inr ⟨w.heap.size + 1, 0, rfl, fun j hj => ?_⟩⟩
  have hj0 : j = 0 := by simp at hj; exact hj
  subst hj0
  have hb : ((w.alloc (.cells d.cells 42)).alloc (.cells d.cells 42)).heap[w.heap.size + 1]? = some (.cells d.cells 42 (0, 0)) := by
    have h := heap_alloc_new (w.alloc (.cells d.cells 42)) (.cells d.cells 42)
    rwa [show (w.alloc (.cells d.cells 42)).heap.size = w.heap.size + 1 by simp] at h
  have hc (q : Nat) : ((w.alloc (.cells d.cells 42)).alloc (.cells d.cells 42)).cell? ⟨w.heap.size + 1, q, none⟩ = d.cells[q]? := by
    unfold World.cell?
    simp only []
    rw [hb]
    rfl
  exact ⟨⟨hc 0, hc 1, hc 2, hc 3, hc 4⟩, hok⟩

set_option maxRecDepth 100000 in
set_option maxHeartbeats 4000000 in
theorem cacheNone_walk (d : Cd) (m0 : Int) (w : World) (hok : CdOk d) (_hm0 : (Lit.int .i64 m0).wf = true) :
    Calls Try.prog 4 #[.agg d.cells, .int .i64 m0] w fun e w' => e = .returned (.bool true) ∧ Below w.heap.size w w' := by
  have HG : Hid (Calls _ _ _ _ _) := greatCd_any _ [d] 1 _ (nocache_acts w d hok) (by simp) (by decide)
  have N0 : Hid (NoCache _ _ _ _) := nocache_start w d hok
  have HD : Hid (∀ W, Calls _ _ _ _ _) := fun W => cdoes_any W
  have HNW : Hid (∀ W, Calls _ _ _ _ _) := fun W => cnew_nil m0 W
  have HDN : Hid (∀ W P (dk : Cd), NoCache w W P dk → dk.kind < 5 → Calls Try.prog 14 #[P, .agg dk.cells] W fun e w' => e = .returned (.tuple #[.string ⟨#[]⟩, .int .i64 1]) ∧ Below W.heap.size W w') := fun W P dk hN hk => done_cnone P dk W hk fun W' hb => (hN.later hb).asks
  clear hok
  generalize hB : fewCd [d] 1 = B at HG
  clear hB
  unfold Cd.cells at HG N0 HDN ⊢
  cases B with
  | false =>
    have HB0 : Hid (Below _ _ _) := N0.out.below
    clear N0
    go_enter Try.func4, Try.ntmps4
    go_wp2_with fail
    refine Calls.mono HG.out ?_
    rintro e w1 ⟨rfl, rfl⟩
    go_wp2
    go_ret
    exact ⟨rfl, HB0.out⟩
  | true =>
    go_enter Try.func4, Try.ntmps4
    go_wp2_with fail
    refine Calls.mono HG.out ?_
    rintro e w1 ⟨rfl, rfl⟩
    go_wp2
    clear HG
    go_loopw [5, 6] (fun x y wr => ∃ (t : Nat) (dk : Cd), t ≤ 2 ∧ y = .int .i64 t ∧ Hid (NoCache w wr x dk)) (fun _ y _ => 2 - (intOf y).toNat)
    case atStart => exact ⟨0, d, by omega, rfl, N0⟩
    case round =>
      clear N0
      obtain ⟨t, dk, ht, rfl, N⟩ := hrel
      by_cases htl : t < 2
      · go_wp2
        rw [decide_eq_true (p := (t : Int) < 2) (by omega)]
        go_loopw [7] (fun x ws => ∃ (k : Nat) (dk : Cd), k ≤ 5 ∧ x = .int .i64 k ∧ Hid (NoCache w ws u5 dk)) (fun x _ => 5 - (intOf x).toNat)
        case atStart => exact ⟨0, dk, by omega, rfl, N⟩
        case round =>
          clear N
          obtain ⟨k, dj, hk, rfl, N⟩ := hrel
          have c6 := N.out.cells5
          have c0 := c6.c0
          have c1 := c6.c1
          have c2 := c6.c2
          have c3 := c6.c3
          have c4 := c6.c4
          have f0 := N.out.frozen 0
          clear c6
          by_cases hkl : k < 5
          · have N1 := N.out.kind k (by omega)
            have HC : Hid (Calls _ _ _ _ _) := HDN.out _ u5 _ N1 hkl
            have NN1 : Hid (NoCache _ _ _ _) := N1
            unfold Cd.as at HC
            simp only at HC
            have hkm : (k : Int) % 256 = k := by omega
            clear N1
            generalize dj.data = dt at *
            generalize dj.name = nm at *
            go_wp2_with fail
            refine Calls.mono HC.out ?_
            rintro e w2 ⟨rfl, hb2⟩
            have N2 : Hid (NoCache _ _ _ _) := NN1.out.later hb2
            clear hb2 NN1 HC c0 c1 c2 c3 c4 f0
            go_wp2
            go_roundw
            case rel => exact ⟨k + 1, _, by omega, by go_num, N2⟩
            case measure => simp [intOf]; omega
          · have HDr : Hid (Calls _ _ _ _ _) := cn_drop u5 dj.name wr N.out.asks
            have HFs : Hid (Calls _ _ _ _ _) := cn_fs u5 wr N.out.asks
            have HHa : Hid (Calls _ _ _ _ _) := cn_has u5 dj.name dj.i wr N.out.asks
            have HLe : Hid (Calls _ _ _ _ _) := cn_len u5 wr N.out.asks
            have HPn : Hid (Calls _ _ _ _ _) := cn_pinned u5 wr N.out.asks
            have N3 : Hid (NoCache _ _ _ _) := nocache_next N.out
            clear N c0 c3 c4 f0
            generalize dj.name = nm at *
            generalize dj.i = ii at *
            go_wp2_with fail
            refine Calls.mono HDr.out ?_
            rintro e w2 ⟨rfl, rfl⟩
            go_wp2_with fail
            refine Calls.mono HFs.out ?_
            rintro e w2 ⟨rfl, rfl⟩
            go_wp2_with fail
            refine Calls.mono HHa.out ?_
            rintro e w2 ⟨rfl, rfl⟩
            go_wp2_with fail
            refine Calls.mono HLe.out ?_
            rintro e w2 ⟨rfl, rfl⟩
            go_wp2_with fail
            refine Calls.mono HPn.out ?_
            rintro e w2 ⟨rfl, rfl⟩
            clear HDr HFs HHa HLe HPn c1 c2
            go_wp2
            go_roundw
            case rel => exact ⟨t + 1, _, by omega, by go_num, N3⟩
            case measure => simp [intOf]; omega
      · go_wp2_with fail
        refine (HNW.out _).mono ?_
        rintro e w7 ⟨rfl, rfl⟩
        go_wp2_with fail
        refine (HD.out _).mono ?_
        rintro e w8 ⟨rfl, hb⟩
        have F8 : Hid (Below w.heap.size w w8) := bnext N.out.below hb
        clear hb N
        go_wp2
        go_ret
        exact ⟨rfl, F8.out⟩

set_option maxRecDepth 100000 in
theorem cacheNone_lifted (os : Os) (started : os.Started) (H : Type) (enc : TypeId × Value → H) :
    ReturnsInHanded {} Try.checked os 4 .any (Rows.cacheNoneSpec.pre6 enc Try.prog Try.f4 Rows.cacheNoneRow.domain false) (Rows.cacheNoneSpec.post enc Try.prog Try.f4 false true false false) := by
  refine returnsInHanded_of_change (C := Try.checked) Try.own started (by kernel_rfl) Try.func4
    (ChangeSpec.witness6 (enc := enc) (C := Try.checked) false ⟨#[], #[.agg #[.int .u8 0, .string ByteArray.empty, .int .i64 0, .string ByteArray.empty, .int .u8 0], .int .i64 0], []⟩ 8 (by kernel_rfl) (by kernel_rfl) (by kernel_rfl) (by kernel_rfl)) ?_
  intro W base args ds gs before hval0 hW hcnd _
  have hval : ∀ (j : Nat) t v, Try.f4.params[j]? = some t → args[j]? = some v → Value.okWide Try.prog W .any base t v := hval0
  have hW' := hW
  obtain ⟨p, q, hA0, hV, rfl, hfz, hnd⟩ := hW
  have hA : DataW.TrodAll enc Try.prog W 0 (fun _ => true) true Try.f4.params.toList args.toList ds p := hA0
  rw [Try.params4] at hA hval
  obtain ⟨v0, vs0, d0, ds0, p0, q0, hargs, rfl, rfl, h0, r0⟩ := trodAll_cons hA
  obtain ⟨v1, vs1, d1, ds1, p1, q1, rfl, rfl, rfl, h1, r1⟩ := trodAll_cons r0
  obtain ⟨rfl, rfl, rfl⟩ := trodAll_nil r1
  obtain rfl : args = #[v0, v1] := by cases args; simp_all
  obtain ⟨rfl, rfl⟩ := trodVars_none hV
  have lt0 : ∀ x ∈ p0, x.block < W.heap.size := by obtain ⟨m, hm⟩ := h0; exact DataW.trod_lt m _ _ _ hm
  obtain ⟨a0, rfl, k0⟩ := open_cd (hval 0 42 v0 rfl rfl) h0
  obtain ⟨a1, rfl, rfl, rfl, w1⟩ := open_int Try.underlying3 (hval 1 3 v1 rfl rfl) h1
  clear hA0 hval0
  refine (cacheNone_walk a0 a1 W k0 w1).mono fun e W' ⟨he, bel⟩ => ?_
  subst he
  exact ⟨_, rfl, _, _, _, [], _, [], hW', trodAll_mk1 (shut_bool Try.underlying4 _), (trodAll_cons_mk (Below.trod Try.laidOut (by kernel_rfl) (of_decide_eq_true (by kernel_rfl)) h0 bel lt0) (trodAll_cons_mk (shut_int Try.underlying3 w1) trodAll_mk0)), rfl, bel.frame _, fun h => by cases h⟩

theorem cacheNone_holds : Rows.CacheNoneSaid :=
  OpenClaim.holds_of_wide 4 Try.f4 rfl rfl rfl rfl rfl rfl rfl ⟨rfl, rfl, rfl, rfl, rfl⟩ rfl rfl rfl rfl rfl (by kernel_rfl) Try.func4 (by kernel_rfl)
    (of_decide_eq_true (by kernel_rfl)) (by unfold Func.isWrapper; first | (rw [if_pos (by decide +kernel)]; kernel_rfl) | (rw [if_neg (by decide +kernel)]; exact ⟨rfl, rfl⟩))
    (fun os started H enc _ => cacheNone_lifted os started H enc)

end Go.Proofs.Ytnlhgcpmmcmknaa
