/- The walks of cache's Put and Drop. -/
import Derived.Test.YtnlhgcpmmcmknaaCPut
namespace Go.Proofs.Ytnlhgcpmmcmknaa
open Go.RowKit Go.Maps

section
variable {W W' w : World} {c mb p most u : Nat} {o o' of of' : Nat → Prop} {K K' R : List Ke} {fs fs' : Fi.St} {x : Ke} {st : Ca.St}

/-! ### Drop -/
/-- The pages that are there still: those of other files, and those that a range has still ahead of it. -/
def stillK (K : List Ke) (n : ByteArray) (left : Lit → Bool) : List Ke := K.filter fun x => left (key x.f.n x.f.i) || !decide (x.f.n = n)
theorem still_all {left : Lit → Bool} {n : ByteArray} (h : ∀ x ∈ K, left (key x.f.n x.f.i) = true) : stillK K n left = K := List.filter_eq_self.2 fun x hx => by rw [h x hx]; rfl
theorem still_none {left : Lit → Bool} {n : ByteArray} (h : ∀ kl, left kl = false) : (stillK K n left).map (·.f) = (K.map (·.f)).filter fun x => !decide (x.n = n) := by
  unfold stillK
  rw [List.filter_map]
  congr 1
  refine List.filter_congr fun x _ => ?_
  simp [h]
theorem still_pass {left : Lit → Bool} {n : ByteArray} (hks : ∀ x ∈ K, KeyOk x.f.n x.f.i) (ha : K.Pairwise fun x y => ¬ (x.f.n = y.f.n ∧ x.f.i = y.f.i)) (hx : x ∈ K) (hne : x.f.n ≠ n) : stillK K n (fun z => left z && !z.sameKey (key x.f.n x.f.i)) = stillK K n left := by
  unfold stillK
  refine List.filter_congr fun y hy => ?_
  simp only
  rw [same_key (hks y hy) (hks x hx)]
  by_cases e : y = x
  · subst e; simp [hne]
  · rw [decide_eq_false (pairwise_ne ha (fun _ _ hn e => hn ⟨e.1.symm, e.2.symm⟩) hy hx e)]; simp
theorem still_gone {left : Lit → Bool} {n : ByteArray} (hks : ∀ x ∈ K, KeyOk x.f.n x.f.i) (ha : K.Pairwise fun x y => ¬ (x.f.n = y.f.n ∧ x.f.i = y.f.i)) (hx : x ∈ K) (he : x.f.n = n) : stillK K n (fun z => left z && !z.sameKey (key x.f.n x.f.i)) = (stillK K n left).filter fun y => !y.f.is x.f.n x.f.i := by
  unfold stillK
  rw [List.filter_filter]
  refine List.filter_congr fun y hy => ?_
  simp only
  rw [same_key (hks y hy) (hks x hx)]
  by_cases e : y = x
  · subst e; simp [he, Ca.Fr.is]
  · have hd := pairwise_ne ha (fun _ _ hn e => hn ⟨e.1.symm, e.2.symm⟩) hy hx e
    rw [decide_eq_false hd]
    have : y.f.is x.f.n x.f.i = false := by rw [← Bool.not_eq_true, Ca.is_iff]; exact hd
    rw [this]; simp

set_option maxRecDepth 100000 in
set_option maxHeartbeats 1000000 in
theorem cdrop_walk (n : ByteArray) (w : World) (h : CSits w c mb p most u K) : Calls Try.prog 23 #[at_ c, .string n] w fun e w' => e = .returned (.tuple #[]) ∧ ∃ left, (∀ kl, left kl = false) ∧ CSits w' c mb p most u (stillK K n left) ∧ Turn (COwn c mb K) w (COwn c mb (stillK K n left)) w' := by
  have HI : Hid (Calls _ _ _ _ _) := cnone_sits w h
  have hc := h.cell2
  obtain ⟨D, hown, hp⟩ := h.map
  have HS : Hid (CSits _ _ _ _ _ _ _) := h
  have HKS : Hid (∀ x ∈ K, KeyOk x.f.n x.f.i) := h.keys
  have HAP : Hid (K.Pairwise fun x y => ¬ (x.f.n = y.f.n ∧ x.f.i = y.f.i)) := h.apart
  have HA : Hid (stillK K n (Maps.has (DataW.map D)) = K) := still_all (has_key hp)
  have HD : Hid (D.Perm (K.map ent)) := hp
  have HMB : Hid (mb < w.heap.size) := h.mlt
  clear h hp
  unfold at_ at *
  generalize K.length = m at *
  go_enter Try.func23, Try.ntmps23
  go_wp2_with fail
  refine Calls.mono HI.out ?_
  rintro e w1 ⟨rfl, rfl⟩
  go_wp2_with (first | (at_range; refine wpList_range_own _ rfl _ 51 rfl 84 85 Try.placeKeyed Try.underlying51 _ mb m _ rfl hown ?_; intro w0 hrg0 hg0 hs0))
  go_frame
  have hb0 : Below w1.heap.size w1 w0 := (Below.refl _ _).grown hg0 (Nat.le_refl _) (by simp)
  have HS0 : Hid (CSits w0 c mb p most u (stillK K n (Maps.has (DataW.map D)))) := by rw [HA.out]; exact HS.out.later hb0
  have HT0 : Hid (Turn (COwn c mb K) w1 (COwn c mb (stillK K n (Maps.has (DataW.map D)))) w0) := by rw [HA.out]; exact Turn.below hb0
  have HD0 : Hid (D.Perm ((stillK K n (Maps.has (DataW.map D))).map ent)) := by rw [HA.out]; exact HD.out
  have HR0 : Hid (World.ranges _ _ _ _ _ _ _ _ _ _) := hrg0
  clear hrg0 hg0 hs0 hown hc HI hb0
  go_loopw [4] (fun _ wr => ∃ (left : Lit → Bool) (cnt : Nat) (E : List (Lit × DataW Value)), Hid (E.Perm ((stillK K n left).map ent)) ∧ Hid (wr.ranges Try.prog 84 heldR mb w1.heap.size m (.map E) left cnt) ∧ Hid (CSits wr c mb p most u (stillK K n left)) ∧ Hid (Turn (COwn c mb K) w1 (COwn c mb (stillK K n left)) wr)) (fun _ wr => wr.rangeLeft mb w1.heap.size)
  case atStart => exact ⟨_, _, _, HD0, HR0, HS0, HT0⟩
  case round =>
    clear HR0 HS0 HT0 HD0 HA
    obtain ⟨left, cnt, E, HE, HRG, HC, HT⟩ := hrel
    have hrg := HRG.out
    go_wp2_with (first | (at_next; refine wpList_next_ranges _ rfl _ rfl 84 Try.placeKeyed heldR (fun x : ByteArray × Int => spot x.1 x.2) id (fun key kl hk => by obtain ⟨x, hx, _⟩ := place_inv hk; exact ⟨x, hx⟩) (fun v y _ => ⟨v, rfl⟩) mb w1.heap.size m _ _ _ rfl hrg ?_ ?_))
    · intro _ hl0
      have HL0 : Hid (∀ kl, left kl = false) := hl0
      clear hrg hl0
      go_wp2
      go_end0
      exact ⟨rfl, left, HL0.out, HC.out, HT.out⟩
    · intro xn xi v kl yd yp w2 cnt2 hkey hlk hv hat hrg2 hlt hg2 hs2 hen
      obtain ⟨⟨n', i'⟩, ex, hkn, rfl⟩ := place_inv hkey
      obtain ⟨rfl, rfl⟩ : xn = n' ∧ xi = i' := by simp [spot] at ex; exact ex
      have hy : yd = .held v := by simp [heldR] at hv; exact hv.1.symm
      subst hy
      obtain ⟨y, hys, rfl, rfl, rfl⟩ := HC.out.held HE.out hkn hat
      have hy : y ∈ K := (List.mem_filter.1 hys).1
      simp only [spot, at_] at hen ⊢
      have hbr : ¬ COwn c mb (stillK K n left) w1.heap.size := by
        rintro (h' | h' | ⟨z, hz, h'⟩)
        · have := HS.out.clt; omega
        · have := HS.out.mlt; omega
        · have := HS.out.klt (List.mem_filter.1 hz).1; omega
      have hkr : ¬ COwn c mb (stillK K n left) w2.heap.size := fun h' => by
        have := HC.out.ownLt _ h'
        rw [hs2] at this; omega
      have hst2 : ∀ j, COwn c mb (stillK K n left) j → w2.heap[j]? = wr.heap[j]? := fun j hj => hg2.block j (HC.out.ownLt j hj) (fun e => hbr (by cases e; exact hj))
      have hcs2 : CSits w2 c mb p most u (stillK K n left) := HC.out.stays hst2
      have htw : Turn (COwn c mb K) w1 (COwn c mb (stillK K n left)) w2 := by
        have ht := HT.out
        refine ⟨hg2.os.trans ht.os, hg2.tape.trans ht.tape, hg2.output.trans ht.output, Nat.le_trans ht.size hg2.size, fun j hj ho => (hg2.block j (Nat.lt_of_lt_of_le hj ht.size) (fun e => by cases e; omega)).trans (ht.block j hj ho), ht.grows⟩
      have hba : Below w2.heap.size w2 (w2.alloc (.cells #[.string y.f.n, .int .i64 y.f.i] 84)) := (Below.refl _ w2).alloc (Nat.le_refl _) _
      have hA := heap_alloc_new w2 (.cells #[.string y.f.n, .int .i64 y.f.i] 84)
      have hrg3 := hrg2.alloc (.cells #[.string y.f.n, .int .i64 y.f.i] 84)
      obtain ⟨w3, h3⟩ : ∃ w3, w2.alloc (.cells #[.string y.f.n, .int .i64 y.f.i] 84) = w3 := ⟨_, rfl⟩
      rw [h3] at hba hA hrg3
      have hcs3 := hcs2.later hba
      have c2 := hcs3.cell2
      rw [hs2] at hA
      have a0 : w3.cell? ⟨wr.heap.size, 0, none⟩ = some (.string y.f.n) := by simp [World.cell?, hA]
      have a1 : w3.cell? ⟨wr.heap.size, 1, none⟩ = some (.int .i64 y.f.i) := by simp [World.cell?, hA]
      have HT3 : Hid (Turn (COwn c mb K) w1 (COwn c mb (stillK K n left)) w3) := htw.trans (Turn.below hba)
      have hlr3 : w3.rangeLeft mb w1.heap.size < wr.rangeLeft mb w1.heap.size := by rw [hrg3.left_eq, hrg.left_eq]; exact hlt
      by_cases he : y.f.n = n
      · obtain ⟨w5, cnt5, hdel, hrg5, hle5, hturn5⟩ := (drew_ranges hrg3).drop Try.placeKeyed Try.underlying51 (place_key hkn) 0
        rw [Maps.strike_twice] at hrg5
        have hd := (hcs3.later (Below.refl _ _).drew).drop hkn HE.out hrg5.owns hturn5
        rw [← still_gone HKS.out HAP.out hy he] at hd
        have HH : Hid (_ ∧ _) := hd
        have HT5 : Hid (Turn _ _ _ _) := (HT3.out.trans (Turn.below (Below.refl _ _).drew)).trans hd.2
        have hpf := perm_filter HE.out (fun z hz => HKS.out z (List.mem_filter.1 hz).1) hkn
        rw [← still_gone HKS.out HAP.out hy he] at hpf
        have HE5 : Hid (List.Perm _ _) := hpf
        have HR5 : Hid (World.ranges _ _ _ _ _ _ _ _ _ _) := hrg5
        have HL5 : Hid (w5.rangeLeft mb w1.heap.size < wr.rangeLeft mb w1.heap.size) := by
          show _ < _
          rw [hrg5.left_eq, hrg.left_eq]; omega
        rw [DataW.del] at HR5
        clear hkey hat hv ex hkr hst2 hcs2 htw hba hA hrg3 hcs3 hlr3 hrg5 hle5 hturn5 hd hpf hrg2 hrg hg2 hlt hlk HRG HC HT HE hbr
        unfold spot at hdel
        subst he
        go_wp2
        go_region
        all_goals go_wp2
        all_goals go_roundw
        case rel => exact ⟨_, cnt5, _, HE5, HR5, HH.out.1, HT5⟩
        case measure => exact HL5.out
      · have hne : (y.f.n.toList == n.toList) = false := text_ne he
        have hsp := still_pass (left := left) HKS.out HAP.out hy he
        have HE3 : Hid (List.Perm E ((stillK K n (fun z => left z && !z.sameKey (key y.f.n y.f.i))).map ent)) := by rw [hsp]; exact HE.out
        have HC3 : Hid (CSits w3 c mb p most u (stillK K n (fun z => left z && !z.sameKey (key y.f.n y.f.i)))) := by rw [hsp]; exact hcs3
        rw [← hsp] at HT3
        have HR3 : Hid (World.ranges _ _ _ _ _ _ _ _ _ _) := hrg3
        have HL3 : Hid (_ < _) := hlr3
        clear hkey hat hv ex hkr hst2 hcs2 htw hba hA hrg3 hcs3 hlr3 hrg2 hrg hg2 hlt hlk HRG HC HT HE hbr hsp
        go_wp2
        all_goals go_roundw
        case rel => exact ⟨_, cnt2, _, HE3, HR3, HC3, HT3⟩
        case measure => exact HL3.out

theorem cdrop_any (n : ByteArray) (h : CSys w c p o st u) : Calls Try.prog 23 #[at_ c, .string n] w fun e w' => ∃ o', e = .returned (.tuple #[]) ∧ CSys w' c p o' (Ca.drop st n) u ∧ Turn o w o' w' := by
  obtain ⟨mb, of, K, h1, h2, rfl⟩ := h
  refine (cdrop_walk n w h1.sits).mono ?_
  rintro e w' ⟨rfl, left, hl, hs, ht⟩
  have hsub : (stillK K n left).Sublist K := List.filter_sublist
  refine ⟨_, rfl, ⟨mb, of, _, h1.turn hs ht (h1.rise.sublist hsub) (fun x hx => h1.top x (hsub.subset hx)) (Nat.le_trans hsub.length_le h1.len), ?_, rfl⟩, ht.unLeft⟩
  rw [still_none hl, h2]; rfl

end
end Go.Proofs.Ytnlhgcpmmcmknaa
