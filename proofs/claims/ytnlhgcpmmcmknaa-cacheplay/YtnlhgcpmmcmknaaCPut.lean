/- The walks of cache's Unpin, Put and Drop. -/
import Derived.Test.YtnlhgcpmmcmknaaCDo
namespace Go.Proofs.Ytnlhgcpmmcmknaa
open Go.RowKit Go.Maps

section
variable {W W' w : World} {c mb p most u : Nat} {o o' of of' : Nat → Prop} {K K' R : List Ke} {fs fs' : Fi.St} {x : Ke} {st : Ca.St}

/-- One pin less, where it stands. -/
def lessK (K : List Ke) (n : ByteArray) (i : Int) : List Ke := K.map fun y => if y.f.is n i = true then { y with f := Ca.less y.f } else y
theorem lessK_fr (K : List Ke) (n : ByteArray) (i : Int) : (lessK K n i).map (·.f) = (K.map (·.f)).map fun y => if y.is n i = true then Ca.less y else y := by
  unfold lessK
  rw [List.map_map, List.map_map]
  refine List.map_congr_left fun y _ => ?_
  simp only [Function.comp]
  split <;> rfl
theorem lessK_perm (ha : K.Pairwise fun x y => ¬ (x.f.n = y.f.n ∧ x.f.i = y.f.i)) (hx : x ∈ K) : (lessK K x.f.n x.f.i).Perm ((K.filter fun y => !y.f.is x.f.n x.f.i) ++ [{ x with f := Ca.less x.f }]) := by
  have h := (perm_found ha hx).map fun y => if y.f.is x.f.n x.f.i = true then { y with f := Ca.less y.f } else y
  refine h.trans (List.Perm.of_eq ?_)
  rw [List.map_append]
  congr 1
  · refine (List.map_congr_left fun y hy => ?_).trans (List.map_id _)
    have := (List.mem_filter.1 hy).2
    rw [Bool.not_eq_true'] at this
    rw [if_neg (by rw [this]; simp)]
    rfl
  · simp [Ca.is_self]
theorem lessK_own (K : List Ke) (n : ByteArray) (i : Int) : COwn c mb (lessK K n i) = COwn c mb K := by
  funext j
  unfold COwn
  have : (∃ x ∈ lessK K n i, x.b = j) = (∃ x ∈ K, x.b = j) := by
    simp only [eq_iff_iff]
    constructor
    · rintro ⟨y, hy, rfl⟩
      obtain ⟨z, hz, rfl⟩ := List.mem_map.1 hy
      exact ⟨z, hz, by split <;> rfl⟩
    · rintro ⟨z, hz, rfl⟩
      exact ⟨_, List.mem_map.2 ⟨z, hz, rfl⟩, by split <;> rfl⟩
  rw [this]

theorem CIs.lessAt (h : CIs W c mb p of most u K fs) (hx : x ∈ K) : CIs (W.setCell ⟨x.b, 1, none⟩ (.int .i64 (x.f.p - 1 : Nat))) c mb p of most u (lessK K x.f.n x.f.i) fs ∧ Turn (Un (COwn c mb K) of) W (Un (COwn c mb (lessK K x.f.n x.f.i)) of) (W.setCell ⟨x.b, 1, none⟩ (.int .i64 (x.f.p - 1 : Nat))) := by
  have hs := ((h.sits.perm (perm_found h.sits.apart hx)).setPins (x.f.p - 1)).perm (lessK_perm h.sits.apart hx).symm
  have ht : Turn (COwn c mb K) W (COwn c mb (lessK K x.f.n x.f.i)) (W.setCell ⟨x.b, 1, none⟩ (.int .i64 (x.f.p - 1 : Nat))) := by
    rw [lessK_own]
    exact turn_set (a := ⟨x.b, 1, none⟩) (.inr (.inr ⟨x, hx, rfl⟩)) _
  refine ⟨h.turn hs ht ?_ ?_ (by unfold lessK; rw [List.length_map]; exact h.len), ht.unLeft⟩
  · unfold lessK
    rw [List.pairwise_map]
    refine h.rise.imp fun {a b} hab => ?_
    have e : ∀ y : Ke, (if y.f.is x.f.n x.f.i = true then { y with f := Ca.less y.f } else y : Ke).u = y.u := fun y => by split <;> rfl
    rw [e, e]; exact hab
  · intro y hy
    obtain ⟨z, hz, rfl⟩ := List.mem_map.1 hy
    have := h.top z hz
    split
    · exact ⟨this.1, Nat.le_trans (Nat.sub_le _ _) this.2⟩
    · exact this

set_option maxRecDepth 100000 in
set_option maxHeartbeats 1000000 in
theorem cunpin_any (n : ByteArray) (i : Int) (h : CSys w c p o st u) (hu : u < 9223372036854775800) (hk : KeyOk n i) :
    Calls Try.prog 36 #[at_ c, .string n, .int .i64 i] w fun e w' => ∃ o', e = .returned (.int .i64 (Ca.unpin st n i).1) ∧ CSys w' c p o' (Ca.unpin st n i).2 u ∧ Turn o w o' w' := by
  have HC : Hid (CSys _ _ _ _ _ _) := h
  obtain ⟨mb, of, K, h1, h2, rfl⟩ := h
  have HI : Hid (Calls _ _ _ _ _) := cnone_sits w h1.sits
  have hc := h1.sits.cell2
  have hlook := h1.sits.look hk
  have hlook2 := (h1.sits.later (Below.refl _ _).drew).look hk
  unfold spot at hlook hlook2
  unfold Ca.unpin
  cases hf : findK K n i with
  | none =>
    have hl : Ca.look st.l n i = none := by rw [← h2, findK_look, hf]; rfl
    simp only [hl]
    unfold ptrAt at hlook hlook2
    simp only [hf] at hlook hlook2
    clear h1 h2 hf hl
    unfold at_ at *
    go_enter Try.func36, Try.ntmps36
    go_wp2_with fail
    refine Calls.mono HI.out ?_
    rintro e w1 ⟨rfl, rfl⟩
    go_wp2
    go_ret
    exact ⟨_, rfl, HC.out, Turn.below (Below.refl _ _)⟩
  | some x =>
    have hl : Ca.look st.l n i = some x.f := by rw [← h2, findK_look, hf]; rfl
    simp only [hl]
    unfold ptrAt at hlook hlook2
    simp only [hf] at hlook hlook2
    obtain ⟨hx, rfl, rfl⟩ := findK_some hf
    have p1 := h1.sits.pins hx
    have f1 := h1.sits.free hx 1
    by_cases h0 : x.f.p = 0
    · simp only [if_pos h0]
      rw [h0] at p1
      clear h1 h2 hf hl
      unfold at_ at *
      go_enter Try.func36, Try.ntmps36
      go_wp2_with fail
      refine Calls.mono HI.out ?_
      rintro e w1 ⟨rfl, rfl⟩
      go_wp2
      go_ret
      exact ⟨_, rfl, HC.out, Turn.below (Below.refl _ _)⟩
    · simp only [if_neg h0]
      have hb : ((x.f.p : Int) == 0) = false := by rw [beq_eq_false_iff_ne]; omega
      have H2 : Hid (_ ∧ _) := h1.lessAt hx
      have HL : Hid ((lessK K x.f.n x.f.i).map (·.f) = st.l.map fun y => if y.is x.f.n x.f.i = true then Ca.less y else y) := by show _ = _; rw [lessK_fr, h2]
      have hpu := (h1.top x hx).2
      have e3 : ((x.f.p - 1 : Nat) : Int) = (x.f.p : Int) - 1 := by omega
      rw [e3] at H2
      clear h1 h2 hf hl e3
      unfold at_ at *
      have hpp : 0 < x.f.p := by omega
      go_enter Try.func36, Try.ntmps36
      go_wp2_with fail
      refine Calls.mono HI.out ?_
      rintro e w1 ⟨rfl, rfl⟩
      go_wp2
      go_ret
      exact ⟨_, rfl, ⟨mb, of, _, H2.out.1, HL.out, rfl⟩, H2.out.2⟩

end
end Go.Proofs.Ytnlhgcpmmcmknaa
