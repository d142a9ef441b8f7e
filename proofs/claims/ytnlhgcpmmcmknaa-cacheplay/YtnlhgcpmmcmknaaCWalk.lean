/- The walks of cache's small functions: isNone, isFull, Len, Pinned, isStuck, Has, FS, New. -/
import Derived.Test.YtnlhgcpmmcmknaaCSys
namespace Go.Proofs.Ytnlhgcpmmcmknaa
open Go.RowKit Go.Maps

theorem cmap_some (mb : Nat) (w : World) : (binOp .eql 51 (.map (some mb)) (.map none)).run Try.prog w = .ok (.bool false) w := by kernel_rfl
theorem cmap_none (w : World) : (binOp .eql 51 (.map none) (.map none)).run Try.prog w = .ok (.bool true) w := by kernel_rfl

set_option maxRecDepth 100000 in
theorem cnone_nil (w : World) : Calls Try.prog 49 #[.pointer none] w fun e w' => e = .returned (.bool true) ∧ w' = w := by
  go_enter Try.func49, Try.ntmps49
  go_wp2
  go_ret
  exact ⟨rfl, rfl⟩
set_option maxRecDepth 100000 in
theorem cnone_bare {c : Nat} (w : World) (hc : w.cell? ⟨c, 2, none⟩ = some (.map none)) : Calls Try.prog 49 #[.pointer (some ⟨c, 0, none⟩)] w fun e w' => e = .returned (.bool true) ∧ w' = w := by
  have hm := cmap_none w
  go_enter Try.func49, Try.ntmps49
  go_wp2
  go_ret
  exact ⟨rfl, rfl⟩

section
variable {c mb p most u : Nat} {K : List Ke}

set_option maxRecDepth 100000 in
theorem cnone_sits (w : World) (h : CSits w c mb p most u K) : Calls Try.prog 49 #[at_ c] w fun e w' => e = .returned (.bool false) ∧ w' = w := by
  have hc := h.cell2
  have hm := cmap_some mb w
  clear h
  unfold at_
  go_enter Try.func49, Try.ntmps49
  go_wp2
  go_ret
  exact ⟨rfl, rfl⟩

set_option maxRecDepth 100000 in
theorem cfull_any (w : World) (h : CSits w c mb p most u K) : Calls Try.prog 79 #[at_ c] w fun e w' => e = .returned (.bool (decide (most ≤ K.length))) ∧ Below w.heap.size w w' := by
  have hc := h.cell2
  have hc1 := h.cell1
  have hl := h.len 3
  have hl2 := (h.later (Below.refl _ _).drew).len 3
  clear h
  unfold at_
  generalize K.length = k at *
  go_enter Try.func79, Try.ntmps79
  go_wp2
  go_region
  all_goals go_wp2
  all_goals go_ret
  all_goals exact ⟨rfl, (Below.refl _ _).drew⟩

set_option maxRecDepth 100000 in
theorem clen_any (w : World) (h : CSits w c mb p most u K) : Calls Try.prog 16 #[at_ c] w fun e w' => e = .returned (.int .i64 K.length) ∧ w' = w := by
  have HI : Hid (Calls _ _ _ _ _) := cnone_sits w h
  have hc := h.cell2
  have hl := h.len 3
  clear h
  unfold at_ at *
  generalize K.length = k at *
  go_enter Try.func16, Try.ntmps16
  go_wp2_with fail
  refine Calls.mono HI.out ?_
  rintro e w1 ⟨rfl, rfl⟩
  go_wp2
  go_ret
  exact ⟨rfl, rfl⟩

/-! ### How many pages have pins -/
def pinLeft (left : Lit → Bool) (K : List Ke) : Nat := K.countP fun x => left (key x.f.n x.f.i) && decide (0 < x.f.p)
theorem pinLeft_none {left : Lit → Bool} (h : ∀ kl, left kl = false) (K : List Ke) : pinLeft left K = 0 := by simp [pinLeft, h]
theorem pinLeft_all {left : Lit → Bool} {K : List Ke} (h : ∀ x ∈ K, left (key x.f.n x.f.i) = true) : pinLeft left K = Ca.pinned (K.map (·.f)) := by
  unfold pinLeft Ca.pinned
  rw [List.countP_map]
  refine List.countP_congr fun x hx => ?_
  simp [h x hx]
theorem pinLeft_le {left : Lit → Bool} (K : List Ke) : pinLeft left K ≤ Ca.pinned (K.map (·.f)) := by
  unfold pinLeft Ca.pinned
  rw [List.countP_map]
  refine List.countP_mono_left fun x _ h => ?_
  simp at h
  simpa using h.2
theorem pinLeft_gone {left : Lit → Bool} {K : List Ke} {n : ByteArray} {i : Int} (hk : KeyOk n i) (hks : ∀ x ∈ K, KeyOk x.f.n x.f.i) (h : ∀ x ∈ K, ¬ (x.f.n = n ∧ x.f.i = i)) : pinLeft (fun z => left z && !z.sameKey (key n i)) K = pinLeft left K := by
  unfold pinLeft
  refine List.countP_congr fun x hx => ?_
  simp only []
  rw [same_key (hks x hx) hk, decide_eq_false (h x hx)]
  simp
theorem pinLeft_step {left : Lit → Bool} {K : List Ke} (hks : ∀ x ∈ K, KeyOk x.f.n x.f.i) (hap : K.Pairwise fun x y => ¬ (x.f.n = y.f.n ∧ x.f.i = y.f.i)) {x : Ke} (hx : x ∈ K) (hl : left (key x.f.n x.f.i) = true) :
    (if 0 < x.f.p then 1 else 0) + pinLeft (fun z => left z && !z.sameKey (key x.f.n x.f.i)) K = pinLeft left K := by
  induction K with
  | nil => simp at hx
  | cons y K ih =>
    obtain ⟨h1, h2⟩ := List.pairwise_cons.1 hap
    have e : ∀ lf : Lit → Bool, pinLeft lf (y :: K) = pinLeft lf K + (if (lf (key y.f.n y.f.i) && decide (0 < y.f.p)) = true then 1 else 0) := fun lf => by unfold pinLeft; rw [List.countP_cons]
    rw [e, e]
    rcases List.mem_cons.1 hx with rfl | hx'
    · rw [pinLeft_gone (hks x (by simp)) (fun z hz => hks z (by simp [hz])) (fun z hz hk => h1 z hz ⟨hk.1.symm, hk.2.symm⟩), same_key (hks x (by simp)) (hks x (by simp)), hl]
      by_cases hp : 0 < x.f.p
      · simp [hp]; omega
      · simp [hp]
    · have := ih (fun z hz => hks z (by simp [hz])) h2 hx'
      rw [same_key (hks y (by simp)) (hks x (by simp [hx'])), decide_eq_false (fun hk => h1 x hx' hk)]
      simp only [Bool.not_false, Bool.and_true]
      omega

theorem has_key {D : List (Lit × DataW Value)} {K : List Ke} (h2 : D.Perm (K.map ent)) : ∀ x ∈ K, Maps.has (DataW.map D) (key x.f.n x.f.i) = true := fun x hx =>
  List.any_eq_true.2 ⟨ent x, h2.mem_iff.2 (List.mem_map.2 ⟨x, hx, rfl⟩), WideAt.sameKey_self trivial⟩

set_option maxRecDepth 100000 in
set_option maxHeartbeats 1000000 in
theorem cpinned_any (w : World) (h : CSits w c mb p most u K) (hm : K.length ≤ 64) : Calls Try.prog 17 #[at_ c] w fun e w' => e = .returned (.int .i64 (Ca.pinned (K.map (·.f)))) ∧ Below w.heap.size w w' := by
  have HI : Hid (Calls _ _ _ _ _) := cnone_sits w h
  have hc := h.cell2
  obtain ⟨D, hown, hp⟩ := h.map
  have HS : Hid (CSits _ _ _ _ _ _ _) := h
  have HD : Hid (D.Perm (K.map ent)) := hp
  have HU : Hid (∀ left, pinLeft left K ≤ Ca.pinned (K.map (·.f))) := fun left => pinLeft_le K
  have HA : Hid (pinLeft (Maps.has (DataW.map D)) K = Ca.pinned (K.map (·.f))) := pinLeft_all (has_key hp)
  have hu : Ca.pinned (K.map (·.f)) ≤ 64 := by have := Ca.pinned_le (K.map (·.f)); simp at this; omega
  clear h hp
  unfold at_ at *
  generalize Ca.pinned (K.map (·.f)) = U at *
  generalize K.length = m at *
  go_enter Try.func17, Try.ntmps17
  go_wp2_with fail
  refine Calls.mono HI.out ?_
  rintro e w1 ⟨rfl, rfl⟩
  go_wp2_with (first | (at_range; refine wpList_range_own _ rfl _ 51 rfl 84 85 Try.placeKeyed Try.underlying51 _ mb m _ rfl hown ?_; intro w0 hrg0 hg0 hs0))
  go_frame
  have HB0 : Hid (Below w1.heap.size w1 w0) := (Below.refl _ _).grown hg0 (Nat.le_refl _) (by simp)
  have HR0 : Hid (World.ranges _ _ _ _ _ _ _ _ _ _) := hrg0
  clear hrg0 hg0 hs0 hown hc HI
  go_loopw [3] (fun x wr => ∃ (left : Lit → Bool) (cnt k : Nat), x = .int .i64 k ∧ k ≤ U ∧ Hid (k + pinLeft left K = U) ∧ Hid (wr.ranges Try.prog 84 heldR mb w1.heap.size m (.map D) left cnt) ∧ Hid (Below w1.heap.size w1 wr)) (fun _ wr => wr.rangeLeft mb w1.heap.size)
  case atStart => exact ⟨_, _, 0, rfl, Nat.zero_le _, (by show 0 + _ = _; rw [Nat.zero_add]; exact HA.out), HR0, HB0⟩
  case round =>
    clear HR0 HB0 HA
    obtain ⟨left, cnt, k, rfl, hk, HK, HRG, HB⟩ := hrel
    have hrg := HRG.out
    go_wp2_with (first | (at_next; refine wpList_next_ranges _ rfl _ rfl 84 Try.placeKeyed heldR (fun x : ByteArray × Int => spot x.1 x.2) id (fun key kl hk => by obtain ⟨x, hx, _⟩ := place_inv hk; exact ⟨x, hx⟩) (fun v y _ => ⟨v, rfl⟩) mb w1.heap.size m _ _ _ rfl hrg ?_ ?_))
    · intro _ hl0
      obtain rfl : k = U := by have := HK.out; rw [pinLeft_none hl0] at this; omega
      clear hl0 HRG hrg HU HK
      go_wp2
      go_ret
      exact ⟨rfl, HB.out⟩
    · intro xn xi v kl yd yp w2 cnt2 hkey hlk hv hat hrg2 hlt hg2 hs2 hen
      obtain ⟨⟨n', i'⟩, ex, hkn, rfl⟩ := place_inv hkey
      obtain ⟨rfl, rfl⟩ : xn = n' ∧ xi = i' := by simp [spot] at ex; exact ex
      have hy : yd = .held v := by simp [heldR] at hv; exact hv.1.symm
      subst hy
      obtain ⟨x, hx, rfl, rfl, rfl⟩ := HS.out.held HD.out hkn hat
      have hst := pinLeft_step HS.out.keys HS.out.apart hx hlk
      have hcell : w2.cell? ⟨x.b, 1, none⟩ = some (.int .i64 x.f.p) := by
        have h1 := HS.out.pins hx
        have hb2 : Below w1.heap.size w1 w2 := HB.out.grown hg2 HB.out.size (fun j hj => by cases hj; exact Nat.le_refl _)
        exact cell_after hb2 h1
      have HRG2 : Hid (World.ranges _ _ _ _ _ _ _ _ _ _) := hrg2
      have HB2 : Hid (Below w1.heap.size w1 w2) := HB.out.grown hg2 HB.out.size (fun j hj => by cases hj; exact Nat.le_refl _)
      have HM : Hid (w2.rangeLeft mb w1.heap.size < wr.rangeLeft mb w1.heap.size) := by
        show _ < _
        rw [hrg2.left_eq, hrg.left_eq]; exact hlt
      clear hs2 hg2 hrg2 hrg HRG hat hlk hkey hv HB hlt ex hkn
      simp only [spot, at_] at hen ⊢
      by_cases hp : 0 < x.f.p
      · rw [if_pos hp] at hst
        have HK2 : Hid ((k + 1) + pinLeft (fun z => left z && !z.sameKey (key x.f.n x.f.i)) K = U) := by
          show _ = _
          have := HK.out
          omega
        have hk2 : k + 1 ≤ U := by have := HK2.out; omega
        clear hst HU HK
        generalize x.f.p = pp at *
        go_wp2
        go_roundw
        case rel => exact ⟨_, cnt2, k + 1, by go_num, hk2, HK2, HRG2, HB2⟩
        case measure => exact HM.out
      · rw [if_neg hp, Nat.zero_add] at hst
        have HK2 : Hid (k + pinLeft (fun z => left z && !z.sameKey (key x.f.n x.f.i)) K = U) := by
          show _ = _
          have := HK.out
          omega
        clear hst HU HK
        generalize x.f.p = pp at *
        go_wp2
        go_roundw
        case rel => exact ⟨_, cnt2, k, rfl, hk, HK2, HRG2, HB2⟩
        case measure => exact HM.out

set_option maxRecDepth 100000 in
set_option maxHeartbeats 1000000 in
theorem cstuck_any (w : World) (h : CSits w c mb p most u K) (hm : K.length ≤ 64) : Calls Try.prog 56 #[at_ c] w fun e w' => e = .returned (.bool (Ca.stuck most (K.map (·.f)))) ∧ Below w.heap.size w w' := by
  have HF : Hid (∀ x : Later w, Calls Try.prog 79 #[at_ c] x.world fun e w' => e = .returned (.bool (decide (most ≤ K.length))) ∧ Below x.world.heap.size x.world w') := fun x => cfull_any _ (h.later x.below)
  have HP : Hid (∀ x : Later w, Calls Try.prog 17 #[at_ c] x.world fun e w' => e = .returned (.int .i64 (Ca.pinned (K.map (·.f)))) ∧ Below x.world.heap.size x.world w') := fun x => cpinned_any _ (h.later x.below) hm
  have hcell := Later.cell h.cell2
  have hlen : ∀ x : Later w, (Builtin.len_ #[51] 3 #[.map (some mb)]).run Try.prog x.world = .ok (.int .i64 K.length) x.world := fun x => (h.later x.below).len _
  have hne := Later.some w
  have hle := Ca.pinned_le (K.map (·.f))
  rw [List.length_map] at hle
  unfold Ca.stuck
  rw [List.length_map]
  generalize Ca.pinned (K.map (·.f)) = U at *
  generalize K.length = m at *
  clear h
  unfold at_ at *
  by_cases hf : most ≤ m
  · rw [decide_eq_true hf] at HF ⊢
    rw [Bool.true_and]
    have hd : ((U : Int) == (m : Int)) = decide (U = m) := by by_cases e : U = m <;> simp [e]; omega
    go_enter Try.func56, Try.ntmps56
    go_wp2_with fail
    refine wp_region_later (by kernel_rfl) (by kernel_rfl) ?_
    repeat (go_big_quiet_step (first | (go_at_call 79; exact Later.made (HF.out _)) | (go_at_call 17; exact Later.made (HP.out _))))
    refine wpQuiet_nil ?_
    intro w1 hw1
    obtain ⟨⟨w2, hb2⟩, rfl⟩ := hw1
    go_wp2
    go_ret
    exact ⟨rfl, hb2⟩
  · rw [decide_eq_false hf] at HF ⊢
    rw [Bool.false_and]
    go_enter Try.func56, Try.ntmps56
    go_wp2_with fail
    refine wp_region_later (by kernel_rfl) (by kernel_rfl) ?_
    repeat (go_big_quiet_step (first | (go_at_call 79; exact Later.made (HF.out _)) | (go_at_call 17; exact Later.made (HP.out _))))
    refine wpQuiet_nil ?_
    intro w1 hw1
    obtain ⟨⟨w2, hb2⟩, rfl⟩ := hw1
    go_wp2
    go_ret
    exact ⟨rfl, hb2⟩

end
end Go.Proofs.Ytnlhgcpmmcmknaa
