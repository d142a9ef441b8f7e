/- The walks of cache's New, FS, Has, use, dropOldest and add. -/
import Derived.Test.YtnlhgcpmmcmknaaCWalk
namespace Go.Proofs.Ytnlhgcpmmcmknaa
open Go.RowKit Go.Maps

section
variable {c mb p most u : Nat} {K R : List Ke} {x : Ke}

set_option maxRecDepth 100000 in
theorem cfs_any (w : World) (h : CSits w c mb p most u K) : Calls Try.prog 24 #[at_ c] w fun e w' => e = .returned (at_ p) ∧ w' = w := by
  have HI : Hid (Calls _ _ _ _ _) := cnone_sits w h
  have hc := h.cell0
  clear h
  unfold at_ at *
  go_enter Try.func24, Try.ntmps24
  go_wp2_with fail
  refine Calls.mono HI.out ?_
  rintro e w1 ⟨rfl, rfl⟩
  go_wp2
  go_ret
  exact ⟨rfl, rfl⟩

theorem has_ptr (K : List Ke) (n : ByteArray) (i : Int) : (findK K n i = none ∧ Ca.has (K.map (·.f)) n i = false ∧ ptrAt K n i = .pointer none) ∨ (∃ x, findK K n i = some x ∧ Ca.has (K.map (·.f)) n i = true ∧ ptrAt K n i = at_ x.b) := by
  rw [Ca.has_look, findK_look]
  unfold ptrAt
  cases findK K n i with
  | none => exact .inl ⟨rfl, rfl, rfl⟩
  | some x => exact .inr ⟨x, rfl, rfl, rfl⟩

set_option maxRecDepth 100000 in
set_option maxHeartbeats 1000000 in
theorem chas_any (n : ByteArray) (i : Int) (w : World) (h : CSits w c mb p most u K) (hk : KeyOk n i) : Calls Try.prog 19 #[at_ c, .string n, .int .i64 i] w fun e w' => e = .returned (.bool (Ca.has (K.map (·.f)) n i)) ∧ Below w.heap.size w w' := by
  have HI : Hid (Calls _ _ _ _ _) := cnone_sits w h
  have hcell := h.cell2
  have hlook : (Instr.lookup 51 (.map (some mb)) (.agg #[.string n, .int .i64 i]) false).run Try.prog w = .ok (ptrAt K n i) w := h.look hk
  clear h
  unfold at_ at *
  rcases has_ptr K n i with ⟨_, e1, e2⟩ | ⟨y, _, e1, e2⟩
  · rw [e1]
    rw [e2] at hlook
    clear e1 e2
    go_enter Try.func19, Try.ntmps19
    go_wp2_with fail
    refine Calls.mono HI.out ?_
    rintro e w1 ⟨rfl, rfl⟩
    go_wp2
    go_ret
    exact ⟨rfl, Below.refl _ _⟩
  · rw [e1]
    rw [e2] at hlook
    clear e1 e2
    unfold at_ at hlook
    go_enter Try.func19, Try.ntmps19
    go_wp2_with fail
    refine Calls.mono HI.out ?_
    rintro e w1 ⟨rfl, rfl⟩
    go_wp2
    go_ret
    exact ⟨rfl, Below.refl _ _⟩

/-! ### The count of uses -/
theorem count_any (u : Nat) (w : World) (h : CSits w c mb p most u K) (hu : u < 9223372036854775807) : Calls Try.prog 81 #[.pointer (some ⟨c, 3, none⟩), .int .i64 1] w fun e w' => e = .returned (.int .i64 (u + 1 : Nat)) ∧ w' = w.setCell ⟨c, 3, none⟩ (.int .i64 (u + 1 : Nat)) := by
  have hc := h.cell3
  have hz := h.free3
  have hadd := run_call_add (P := Try.prog) Try.func87 (by kernel_rfl) (by kernel_rfl) (by kernel_rfl) .i64 (by kernel_rfl) (y := 1) (s := ((u + 1 : Nat) : Int)) hc hz (by simp [go_sem, IntKind.wrap_i64]; omega)
  clear h
  go_enter Try.func81, Try.ntmps81
  go_wp2
  go_ret
  exact ⟨rfl, rfl⟩

theorem turn_two {o : Nat → Prop} {W : World} {a b : Addr} (ha : o a.block) (hb : o b.block) (v u : Value) : Turn o W o ((W.setCell a v).setCell b u) := (turn_set ha v).trans (turn_set hb u)

set_option maxRecDepth 100000 in
set_option maxHeartbeats 1000000 in
theorem use_any (w : World) (h : CSits w c mb p most u (R ++ [x])) (hu : u < 9223372036854775807) : Calls Try.prog 58 #[at_ c, at_ x.b] w fun e w' => e = .returned (.tuple #[]) ∧ CSits w' c mb p most (u + 1) (R ++ [{ x with u := u + 1 }]) ∧ Turn (COwn c mb (R ++ [x])) w (COwn c mb (R ++ [{ x with u := u + 1 }])) w' := by
  have hx : x ∈ R ++ [x] := by simp
  have HA : Hid (Calls _ _ _ _ _) := count_any u w h hu
  have h1 := h.count (u + 1)
  have HS : Hid (CSits _ _ _ _ _ _ _) := h1.setUsed (u + 1)
  have hf := h1.free hx 2
  have hcl := h1.used hx
  have hcc := h.cell3
  have ho : COwn c mb (R ++ [x]) = COwn c mb (R ++ [{ x with u := u + 1 }]) := by
    funext i; unfold COwn; simp
  have HT : Hid (Turn (COwn c mb (R ++ [x])) w (COwn c mb (R ++ [{ x with u := u + 1 }])) ((w.setCell ⟨c, 3, none⟩ (.int .i64 (u + 1 : Nat))).setCell ⟨x.b, 2, none⟩ (.int .i64 (u + 1 : Nat)))) := by
    rw [← ho]
    exact turn_two (a := ⟨c, 3, none⟩) (b := ⟨x.b, 2, none⟩) (.inl rfl) (.inr (.inr ⟨x, hx, rfl⟩)) _ _
  obtain ⟨wa, ha⟩ : ∃ wa, w.setCell ⟨c, 3, none⟩ (.int .i64 (u + 1 : Nat)) = wa := ⟨_, rfl⟩
  rw [ha] at HA HS hf hcl HT
  clear h h1 ho ha
  unfold at_
  generalize ((u + 1 : Nat) : Int) = U at *
  go_enter Try.func58, Try.ntmps58
  go_wp2_with fail
  refine Calls.mono HA.out ?_
  rintro e w1 ⟨rfl, rfl⟩
  go_wp2
  go_end0
  exact ⟨rfl, HS.out, HT.out⟩

/-! ### The page that was used the longest time ago -/

/-- What a range has seen so far: the oldest page without pins, and where it is. -/
def Oldest (K : List Ke) (left : Lit → Bool) (v q : Value) : Prop :=
  (v = .pointer none ∧ q = spot ByteArray.empty 0 ∧ ∀ y ∈ K, left (key y.f.n y.f.i) = false → 0 < y.f.p) ∨
  ∃ x ∈ K, v = at_ x.b ∧ q = spot x.f.n x.f.i ∧ x.f.p = 0 ∧ ∀ y ∈ K, left (key y.f.n y.f.i) = false → y.f.p = 0 → x.u ≤ y.u

theorem first_oldest {K : List Ke} (hr : K.Pairwise fun x y => x.u < y.u) (ha : K.Pairwise fun x y => ¬ (x.f.n = y.f.n ∧ x.f.i = y.f.i)) {x : Ke} (hx : x ∈ K) (h0 : x.f.p = 0) (hl : ∀ y ∈ K, y.f.p = 0 → x.u ≤ y.u) :
    (K.eraseP fun y => decide (y.f.p = 0)) = K.filter fun y => !y.f.is x.f.n x.f.i := by
  induction K with
  | nil => simp at hx
  | cons a r ih =>
    obtain ⟨r1, r2⟩ := List.pairwise_cons.1 hr
    obtain ⟨a1, a2⟩ := List.pairwise_cons.1 ha
    by_cases hp : a.f.p = 0
    · have hxa : x = a := by
        rcases List.mem_cons.1 hx with h | h
        · exact h
        · have := r1 x h
          have := hl a (by simp) hp
          omega
      subst hxa
      rw [List.eraseP_cons_of_pos (by simp [hp]), List.filter_cons_of_neg (by simp [Ca.Fr.is])]
      refine (List.filter_eq_self.2 fun y hy => ?_).symm
      have := a1 y hy
      rw [Bool.not_eq_true', ← Bool.not_eq_true, Ca.is_iff]
      exact fun e => this ⟨e.1.symm, e.2.symm⟩
    · have hxr : x ∈ r := by
        rcases List.mem_cons.1 hx with h | h
        · rw [h] at h0; exact absurd h0 hp
        · exact h
      rw [List.eraseP_cons_of_neg (by simp [hp]), ih r2 a2 hxr (fun y hy => hl y (by simp [hy])), List.filter_cons_of_pos]
      rw [Bool.not_eq_true', ← Bool.not_eq_true, Ca.is_iff]
      exact a1 x hxr
theorem none_oldest {K : List Ke} (h : ∀ y ∈ K, 0 < y.f.p) : (K.eraseP fun y => decide (y.f.p = 0)) = K := List.eraseP_of_forall_not fun y hy => by have := h y hy; simp; omega

section
variable {left : Lit → Bool} {v q : Value} {y : Ke}
theorem left_gone {K : List Ke} (hks : ∀ x ∈ K, KeyOk x.f.n x.f.i) (ha : K.Pairwise fun x y => ¬ (x.f.n = y.f.n ∧ x.f.i = y.f.i)) (hy : y ∈ K) {z : Ke} (hz : z ∈ K) (h : (left (key z.f.n z.f.i) && !(key z.f.n z.f.i).sameKey (key y.f.n y.f.i)) = false) : left (key z.f.n z.f.i) = false ∨ z = y := by
  rw [same_key (hks z hz) (hks y hy)] at h
  by_cases e : z = y
  · exact .inr e
  · have := pairwise_ne ha (fun _ _ hn e => hn ⟨e.1.symm, e.2.symm⟩) hz hy e
    rw [decide_eq_false this] at h
    exact .inl (by simpa using h)
theorem Oldest.pass {K : List Ke} (h : Oldest K left v q) (hks : ∀ x ∈ K, KeyOk x.f.n x.f.i) (ha : K.Pairwise fun x y => ¬ (x.f.n = y.f.n ∧ x.f.i = y.f.i)) (hy : y ∈ K) (hp : 0 < y.f.p) : Oldest K (fun z => left z && !z.sameKey (key y.f.n y.f.i)) v q := by
  rcases h with ⟨h1, h2, h3⟩ | ⟨x, hx, h1, h2, h3, h4⟩
  · refine .inl ⟨h1, h2, fun z hz hl => ?_⟩
    rcases left_gone hks ha hy hz hl with h | rfl
    · exact h3 z hz h
    · exact hp
  · refine .inr ⟨x, hx, h1, h2, h3, fun z hz hl h0 => ?_⟩
    rcases left_gone hks ha hy hz hl with h | rfl
    · exact h4 z hz h h0
    · omega
theorem Oldest.first {K : List Ke} (h : Oldest K left (.pointer none) q) (hks : ∀ x ∈ K, KeyOk x.f.n x.f.i) (ha : K.Pairwise fun x y => ¬ (x.f.n = y.f.n ∧ x.f.i = y.f.i)) (hy : y ∈ K) (hp : y.f.p = 0) : Oldest K (fun z => left z && !z.sameKey (key y.f.n y.f.i)) (at_ y.b) (spot y.f.n y.f.i) := by
  rcases h with ⟨_, _, h3⟩ | ⟨x, hx, h1, _⟩
  · refine .inr ⟨y, hy, rfl, rfl, hp, fun z hz hl h0 => ?_⟩
    rcases left_gone hks ha hy hz hl with h | rfl
    · have := h3 z hz h; omega
    · exact Nat.le_refl _
  · simp [at_] at h1
theorem Oldest.next {K : List Ke} {x : Ke} (h : ∀ z ∈ K, left (key z.f.n z.f.i) = false → z.f.p = 0 → x.u ≤ z.u) (hks : ∀ x ∈ K, KeyOk x.f.n x.f.i) (ha : K.Pairwise fun x y => ¬ (x.f.n = y.f.n ∧ x.f.i = y.f.i)) (hy : y ∈ K) (hp : y.f.p = 0) (hlt : y.u < x.u) : Oldest K (fun z => left z && !z.sameKey (key y.f.n y.f.i)) (at_ y.b) (spot y.f.n y.f.i) := by
  refine .inr ⟨y, hy, rfl, rfl, hp, fun z hz hl h0 => ?_⟩
  rcases left_gone hks ha hy hz hl with h' | rfl
  · have := h z hz h' h0; omega
  · exact Nat.le_refl _
theorem Oldest.stay {K : List Ke} {x : Ke} (hx : x ∈ K) (h0 : x.f.p = 0) (h : ∀ z ∈ K, left (key z.f.n z.f.i) = false → z.f.p = 0 → x.u ≤ z.u) (hks : ∀ x ∈ K, KeyOk x.f.n x.f.i) (ha : K.Pairwise fun x y => ¬ (x.f.n = y.f.n ∧ x.f.i = y.f.i)) (hy : y ∈ K) (hlt : ¬ y.u < x.u) : Oldest K (fun z => left z && !z.sameKey (key y.f.n y.f.i)) (at_ x.b) (spot x.f.n x.f.i) := by
  refine .inr ⟨x, hx, rfl, rfl, h0, fun z hz hl h0 => ?_⟩
  rcases left_gone hks ha hy hz hl with h' | rfl
  · exact h z hz h' h0
  · omega
end

theorem drew_ranges {H : Type} {P : Program} {k : TypeId} {R : Value → Option (DataW H × List MemPlace)} {W : World} {b r n : Nat} {D : DataW H} {left : Lit → Bool} {cnt : Nat} (h : W.ranges P k R b r n D left cnt) : W.drew.ranges P k R b r n D left cnt := h

/-- A box of two cells that is written. -/
structure BoxIn (w : World) (B : Nat) (W W' : World) (n : ByteArray) (i : Int) : Prop where
  box : W'.heap[B]? = some (.cells #[.string n, .int .i64 i] 84 (0, 0))
  grown : W.grownBy W' (some B)
  below : Below w.heap.size w W'
theorem box_two {w W : World} {B : Nat} {n m : ByteArray} {i j : Int} (h : W.heap[B]? = some (.cells #[.string n, .int .i64 i] 84 (0, 0))) (hb : Below w.heap.size w W) (hB : w.heap.size ≤ B) : BoxIn w B W ((W.setCell ⟨B, 0, none⟩ (.string m)).setCell ⟨B, 1, none⟩ (.int .i64 j)) m j := by
  have h1 : (W.setCell ⟨B, 0, none⟩ (.string m)).heap[B]? = some (.cells #[.string m, .int .i64 i] 84 (0, 0)) := heap_setCell_same W B 0 _ _ _ h
  have h2 : ((W.setCell ⟨B, 0, none⟩ (.string m)).setCell ⟨B, 1, none⟩ (.int .i64 j)).heap[B]? = some (.cells #[.string m, .int .i64 j] 84 (0, 0)) := heap_setCell_same _ B 1 _ _ _ h1
  have hoth : ∀ k, k ≠ B → ((W.setCell ⟨B, 0, none⟩ (.string m)).setCell ⟨B, 1, none⟩ (.int .i64 j)).heap[k]? = W.heap[k]? := fun k hk => (Below.heap_setCell _ _ _ _ hk).trans (Below.heap_setCell _ _ _ _ hk)
  have hg : W.grownBy ((W.setCell ⟨B, 0, none⟩ (.string m)).setCell ⟨B, 1, none⟩ (.int .i64 j)) (some B) := ⟨rfl, rfl, rfl, by simp [World.setCell], fun k _ hk => hoth k (by simpa using hk)⟩
  exact ⟨h2, hg, ⟨hb.os, hb.tape, hb.output, Nat.le_trans hb.size hg.size, fun k hk => (hoth k (by omega)).trans (hb.block k hk)⟩⟩
theorem Oldest.at_box {K : List Ke} {left : Lit → Bool} {v : Value} {n : ByteArray} {i : Int} (h : Oldest K left v (spot n i)) (hl : ∀ kl, left kl = false) : (v = .pointer none ∧ ∀ y ∈ K, 0 < y.f.p) ∨ ∃ x ∈ K, v = at_ x.b ∧ x.f.n = n ∧ x.f.i = i ∧ x.f.p = 0 ∧ ∀ y ∈ K, y.f.p = 0 → x.u ≤ y.u := by
  rcases h with ⟨h1, _, h3⟩ | ⟨x, hx, h1, h2, h3, h4⟩
  · exact .inl ⟨h1, fun y hy => h3 y hy (hl _)⟩
  · simp [spot] at h2
    exact .inr ⟨x, hx, h1, h2.1.symm, h2.2.symm, h3, fun y hy => h4 y hy (hl _)⟩

set_option maxRecDepth 100000 in
set_option maxHeartbeats 1000000 in
theorem oldest_any (w : World) (h : CSits w c mb p most u K) (hr : K.Pairwise fun x y => x.u < y.u) : Calls Try.prog 80 #[at_ c] w fun e w' => e = .returned (.tuple #[]) ∧ CSits w' c mb p most u (K.eraseP fun x => decide (x.f.p = 0)) ∧ Turn (COwn c mb K) w (COwn c mb (K.eraseP fun x => decide (x.f.p = 0))) w' := by
  have hba : Below w.heap.size w (w.alloc (.cells #[.string ⟨#[]⟩, .int .i64 0] 84)) := (Below.refl _ w).alloc (Nat.le_refl _) _
  have hbox := heap_alloc_new w (.cells #[.string ⟨#[]⟩, .int .i64 0] 84)
  have hsz : (w.alloc (.cells #[.string ⟨#[]⟩, .int .i64 0] 84)).heap.size = w.heap.size + 1 := by simp
  obtain ⟨wa, ha⟩ : ∃ wa, w.alloc (.cells #[.string ⟨#[]⟩, .int .i64 0] 84) = wa := ⟨_, rfl⟩
  rw [ha] at hba hbox hsz
  have h1 := h.later hba
  have hc := h1.cell2
  obtain ⟨D, hown, hp⟩ := h1.map
  have HS : Hid (CSits _ _ _ _ _ _ _) := h
  have HD : Hid (D.Perm (K.map ent)) := hp
  have HR : Hid (K.Pairwise fun x y => x.u < y.u) := hr
  have HBA : Hid (Below w.heap.size w wa) := hba
  have HBX : Hid (wa.heap[w.heap.size]? = _) := hbox
  have HSZ : Hid (wa.heap.size = w.heap.size + 1) := hsz
  have HK0 : Hid (Oldest K (Maps.has (DataW.map D)) (.pointer none) (spot ⟨#[]⟩ 0)) := .inl ⟨rfl, rfl, fun y hy hl => by rw [has_key hp y hy] at hl; cases hl⟩
  clear h hp hr h1 hba hbox hsz
  unfold at_ at *
  generalize K.length = m at *
  go_enter Try.func80, Try.ntmps80
  go_wp2_with (first | (at_range; refine wpList_range_own _ rfl _ 51 rfl 84 85 Try.placeKeyed Try.underlying51 _ mb m _ rfl hown ?_; intro w0 hrg0 hg0 hs0))
  go_frame
  have HB0 : Hid (Below w.heap.size w w0) := HBA.out.grown hg0 HBA.out.size (by simp)
  have HX0 : Hid (w0.heap[w.heap.size]? = _) := (hg0.block _ (by have := HSZ.out; omega) (by simp)).trans HBX.out
  have HR0 : Hid (World.ranges _ _ _ _ _ _ _ _ _ _) := hrg0
  clear hrg0 hg0 hs0 hown hc HBX ha
  go_loopw [2] (fun v wr => ∃ (left : Lit → Bool) (cnt : Nat) (n : ByteArray) (i : Int), Hid (Oldest K left v (spot n i)) ∧ Hid (wr.heap[w.heap.size]? = some (.cells #[.string n, .int .i64 i] 84 (0, 0))) ∧ Hid (wr.ranges Try.prog 84 heldR mb wa.heap.size m (.map D) left cnt) ∧ Hid (Below w.heap.size w wr)) (fun _ wr => wr.rangeLeft mb wa.heap.size)
  case atStart => exact ⟨_, _, _, _, HK0, HX0, HR0, HB0⟩
  case round =>
    clear HR0 HB0 HK0 HX0 HBA
    obtain ⟨left, cnt, n, i, HK, HX, HRG, HB⟩ := hrel
    have hrg := HRG.out
    go_wp2_with (first | (at_next; refine wpList_next_ranges _ rfl _ rfl 84 Try.placeKeyed heldR (fun x : ByteArray × Int => spot x.1 x.2) id (fun key kl hk => by obtain ⟨x, hx, _⟩ := place_inv hk; exact ⟨x, hx⟩) (fun v y _ => ⟨v, rfl⟩) mb wa.heap.size m _ _ _ rfl hrg ?_ ?_))
    · intro _ hl0
      have h1 := HS.out.later HB.out
      have hc := h1.cell2
      rcases HK.out.at_box hl0 with ⟨rfl, hall⟩ | ⟨x, hx, rfl, rfl, rfl, h0, hmin⟩
      · have HE : Hid (_ = K) := none_oldest hall
        clear h1 hl0 HRG hrg HK HX hc hall
        go_wp2
        go_end0
        rw [HE.out]
        exact ⟨rfl, HS.out.later HB.out, Turn.below HB.out⟩
      · have HE : Hid (_ = _) := first_oldest HR.out HS.out.apart hx h0 hmin
        have x0 : wr.cell? ⟨w.heap.size, 0, none⟩ = some (.string x.f.n) := by simp [World.cell?, HX.out]
        have x1 : wr.cell? ⟨w.heap.size, 1, none⟩ = some (.int .i64 x.f.i) := by simp [World.cell?, HX.out]
        have hk := HS.out.keys x hx
        obtain ⟨w5, hdel, hown5, hturn5⟩ := (drew_ranges hrg).owns.drop Try.placeKeyed Try.underlying51 (place_key hk) 0
        have HD5 : Hid (_ ∧ _) := (h1.later (Below.refl _ _).drew).drop hk HD.out hown5 hturn5
        have HT0 : Hid (Turn (COwn c mb K) w (COwn c mb K) wr.drew) := Turn.below HB.out.drew
        clear hown5 hturn5 h1 hl0 HRG hrg HK HX hk hmin h0
        unfold spot at hdel
        simp only [at_]
        go_wp2
        go_region
        all_goals go_wp2
        all_goals go_end0
        all_goals rw [HE.out]
        all_goals exact ⟨rfl, HD5.out.1, HT0.out.trans HD5.out.2⟩
    · intro xn xi v kl yd yp w2 cnt2 hkey hlk hv hat hrg2 hlt hg2 hs2 hen
      obtain ⟨⟨n', i'⟩, ex, hkn, rfl⟩ := place_inv hkey
      obtain ⟨rfl, rfl⟩ : xn = n' ∧ xi = i' := by simp [spot] at ex; exact ex
      have hy : yd = .held v := by simp [heldR] at hv; exact hv.1.symm
      subst hy
      obtain ⟨y, hy, rfl, rfl, rfl⟩ := HS.out.held HD.out hkn hat
      simp only [spot, at_] at hen ⊢
      have hbw2 : Below w.heap.size w w2 := HB.out.grown hg2 HB.out.size (fun j hj => by cases hj; have := HSZ.out; omega)
      have hbw3 : Below w.heap.size w (w2.alloc (.cells #[.string y.f.n, .int .i64 y.f.i] 84)) := hbw2.alloc hbw2.size _
      have hA := heap_alloc_new w2 (.cells #[.string y.f.n, .int .i64 y.f.i] 84)
      have hX2 : (w2.alloc (.cells #[.string y.f.n, .int .i64 y.f.i] 84)).heap[w.heap.size]? = some (.cells #[.string n, .int .i64 i] 84 (0, 0)) := by
        have e1 : w.heap.size < wr.heap.size := (Array.getElem?_eq_some_iff.1 HX.out).1
        rw [(World.grownBy_alloc w2 _ none).block _ (by rw [hs2]; exact e1) (by simp), hg2.block _ e1 (by have := HSZ.out; simp; omega)]
        exact HX.out
      have hrg3 := hrg2.alloc (.cells #[.string y.f.n, .int .i64 y.f.i] 84)
      have hlr : w2.rangeLeft mb wa.heap.size < wr.rangeLeft mb wa.heap.size := by rw [hrg2.left_eq, hrg.left_eq]; exact hlt
      have hlr3 : (w2.alloc (.cells #[.string y.f.n, .int .i64 y.f.i] 84)).rangeLeft mb wa.heap.size < wr.rangeLeft mb wa.heap.size := by rw [hrg3.left_eq, hrg.left_eq]; exact hlt
      obtain ⟨w3, h3⟩ : ∃ w3, w2.alloc (.cells #[.string y.f.n, .int .i64 y.f.i] 84) = w3 := ⟨_, rfl⟩
      rw [h3] at hbw3 hA hX2 hrg3 hlr3
      have c1 := cell_after hbw3 (HS.out.pins hy)
      have c2 := cell_after hbw3 (HS.out.used hy)
      rw [hs2] at hA
      have a0 : w3.cell? ⟨wr.heap.size, 0, none⟩ = some (.string y.f.n) := by simp [World.cell?, hA]
      have a1 : w3.cell? ⟨wr.heap.size, 1, none⟩ = some (.int .i64 y.f.i) := by simp [World.cell?, hA]
      have x0 : w3.cell? ⟨w.heap.size, 0, none⟩ = some (.string n) := by simp [World.cell?, hX2]
      have x1 : w3.cell? ⟨w.heap.size, 1, none⟩ = some (.int .i64 i) := by simp [World.cell?, hX2]
      have xf : ∀ j, w3.frozen? ⟨w.heap.size, j, none⟩ = false := fun j => by simp [World.frozen?, hX2]
      have xf0 := xf 0
      have xf1 := xf 1
      have HX2 : Hid (w3.heap[w.heap.size]? = some (.cells #[.string n, .int .i64 i] 84 (0, 0))) := hX2
      have HB3 : Hid (Below w.heap.size w w3) := hbw3
      have HR3 : Hid (World.ranges _ _ _ _ _ _ _ _ _ _) := hrg3
      have HL3 : Hid (_ < _) := hlr3
      have HLK : Hid (left (key y.f.n y.f.i) = true) := hlk
      clear hkey hat hv hkn hbw2 hbw3 hA hX2 hrg3 hlr hlr3 hrg2 hrg hg2 hlt xf hlk HRG HB HX
      have H4 : Hid (BoxIn w w.heap.size w3 _ y.f.n y.f.i) := box_two HX2.out HB3.out (Nat.le_refl _)
      have HR4 : Hid (World.ranges _ _ _ _ _ _ _ _ _ _) := HR3.out.kept H4.out.grown (by have h1 := HS.out.mlt; simp; omega) (by have := HSZ.out; simp; omega)
      have HL4 : Hid (((w3.setCell ⟨w.heap.size, 0, none⟩ (.string y.f.n)).setCell ⟨w.heap.size, 1, none⟩ (.int .i64 y.f.i)).rangeLeft mb wa.heap.size < wr.rangeLeft mb wa.heap.size) := by
        show _ < _
        rw [HR4.out.left_eq, ← HR3.out.left_eq]; exact HL3.out
      by_cases hp : 0 < y.f.p
      · have HK2 : Hid (Oldest _ _ _ _) := HK.out.pass HS.out.keys HS.out.apart hy hp
        clear HK
        have hp0 : ((y.f.p : Int) == 0) = false := by rw [beq_eq_false_iff_ne]; omega
        generalize y.f.p = pp at *
        generalize y.u = yu at *
        go_wp2
        go_region
        all_goals go_wp2
        all_goals go_roundw
        case rel => exact ⟨_, cnt2, n, i, HK2, HX2, HR3, HB3.out.drew⟩
        case measure => exact HL3.out
      · have hp0 : y.f.p = 0 := by omega
        rw [hp0] at c1
        rcases HK.out with ⟨h1, h2, h4⟩ | ⟨x, hx, h1, h2, h4, h5⟩
        · subst h1
          have HK2 : Hid (Oldest _ _ _ _) := HK.out.first HS.out.keys HS.out.apart hy hp0
          clear HK h2 h4
          generalize y.u = yu at *
          go_wp2
          go_region
          all_goals go_wp2
          all_goals go_region
          all_goals go_wp2
          all_goals go_roundw
          case rel => exact ⟨_, cnt2, _, _, HK2, H4.out.box, HR4, H4.out.below.drew.drew⟩
          case measure => exact HL4.out
        · subst h1
          have cx := cell_after HB3.out (HS.out.used hx)
          by_cases hlt : y.u < x.u
          · have HK2 : Hid (Oldest _ _ _ _) := Oldest.next h5 HS.out.keys HS.out.apart hy hp0 hlt
            clear HK h2 h4 h5
            simp only [at_]
            generalize y.u = yu at *
            generalize x.u = xu at *
            go_wp2
            go_region
            all_goals go_wp2
            all_goals go_region
            all_goals go_wp2
            all_goals go_roundw
            case rel => exact ⟨_, cnt2, _, _, HK2, H4.out.box, HR4, H4.out.below.drew.drew⟩
            case measure => exact HL4.out
          · have HK2 : Hid (Oldest _ _ _ _) := Oldest.stay hx h4 h5 HS.out.keys HS.out.apart hy hlt
            rw [← h2] at HK2
            clear HK h2 h4 h5
            simp only [at_]
            generalize y.u = yu at *
            generalize x.u = xu at *
            go_wp2
            go_region
            all_goals go_wp2
            all_goals go_roundw
            case rel => exact ⟨_, cnt2, n, i, HK2, HX2, HR3, HB3.out.drew⟩
            case measure => exact HL3.out

end
end Go.Proofs.Ytnlhgcpmmcmknaa
