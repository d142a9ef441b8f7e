/- Acts on a cache: what they are in memory; the walks of the statements' helpers Great, Done and Made. -/
import Derived.Test.YtnlhgcpmmcmknaaCSet
namespace Go.Proofs.Ytnlhgcpmmcmknaa
open Go.RowKit Go.Maps

/-- An act. -/
structure Cd where
  kind : Nat
  name : ByteArray
  i : Int
  data : ByteArray
  x : UInt8

def Cd.none : Cd := ⟨0, ByteArray.empty, 0, ByteArray.empty, 0⟩
def Cd.cells (d : Cd) : Array Value := #[.int .u8 d.kind, .string d.name, .int .i64 d.i, .string d.data, .int .u8 d.x.toNat]

structure CdOk (d : Cd) : Prop where
  kind : d.kind < 256
  name : d.name.size ≤ 9223372036854775807
  data : d.data.size ≤ 9223372036854775807
  i1 : -9223372036854775808 ≤ d.i
  i2 : d.i ≤ 9223372036854775807

/-- The five cells of an act. -/
structure CdAt (W : World) (b off : Nat) (d : Cd) : Prop where
  c0 : W.cell? ⟨b, off, none⟩ = some (.int .u8 d.kind)
  c1 : W.cell? ⟨b, off + 1, none⟩ = some (.string d.name)
  c2 : W.cell? ⟨b, off + 2, none⟩ = some (.int .i64 d.i)
  c3 : W.cell? ⟨b, off + 3, none⟩ = some (.string d.data)
  c4 : W.cell? ⟨b, off + 4, none⟩ = some (.int .u8 d.x.toNat)
theorem CdAt.later {W W' : World} {b off : Nat} {d : Cd} (h : CdAt W b off d) (hb : Below W.heap.size W W') : CdAt W' b off d :=
  ⟨cell_after hb h.c0, cell_after hb h.c1, cell_after hb h.c2, cell_after hb h.c3, cell_after hb h.c4⟩

/-- The slice v holds the acts l. -/
def CActs (W : World) (v : Value) (l : List Cd) : Prop :=
  ∃ a cap, v = .slice a l.length cap ∧ l.length ≤ cap ∧ (l = [] ∨ ∃ b off, a = some ⟨b, off, none⟩ ∧ ∀ j, j < l.length → CdAt W b (off + j * 5) (l.getD j Cd.none) ∧ CdOk (l.getD j Cd.none))
theorem CActs.later {W W' : World} {v : Value} {l : List Cd} (h : CActs W v l) (hb : Below W.heap.size W W') : CActs W' v l := by
  obtain ⟨a, cap, rfl, hc, h⟩ := h
  refine ⟨a, cap, rfl, hc, ?_⟩
  rcases h with h | ⟨b, off, rfl, h⟩
  · exact .inl h
  · exact .inr ⟨b, off, rfl, fun j hj => ⟨(h j hj).1.later hb, (h j hj).2⟩⟩
theorem CActs.ok {W : World} {v : Value} {l : List Cd} (h : CActs W v l) {j : Nat} (hj : j < l.length) : CdOk (l.getD j Cd.none) := by
  obtain ⟨a, cap, rfl, hc, h⟩ := h
  rcases h with rfl | ⟨b, off, rfl, h⟩
  · simp at hj
  · exact (h j hj).2

/-- What is gone through. -/
def smallCd (d : Cd) : Bool := decide (d.name.size ≤ 40) && decide (d.data.size ≤ 400)
def fewCd (l : List Cd) (n : Nat) : Bool := decide (l.length ≤ n) && l.all smallCd
theorem few_cd_long {l : List Cd} {n : Nat} (h : n < l.length) : fewCd l n = false := by unfold fewCd; rw [decide_eq_false (by omega)]; rfl
theorem few_cd_stop {l : List Cd} {n k : Nat} (hk : k < l.length) (h : smallCd (l.getD k Cd.none) = false) : fewCd l n = false := by
  unfold fewCd
  have : l.all smallCd = false := by
    cases ha : l.all smallCd with
    | false => rfl
    | true =>
      rw [List.all_eq_true] at ha
      have := ha (l[k]) (List.getElem_mem hk)
      rw [List.getD_eq_getElem?_getD, List.getElem?_eq_getElem hk] at h
      simp only [Option.getD_some] at h
      rw [this] at h; cases h
  rw [this, Bool.and_false]
theorem few_cd_all {l : List Cd} {n k : Nat} (hn : l.length ≤ n) (hk : k = l.length) (h : ∀ j, j < k → smallCd (l.getD j Cd.none) = true) : fewCd l n = true := by
  unfold fewCd
  rw [decide_eq_true hn, Bool.true_and, List.all_eq_true]
  intro d hd
  obtain ⟨j, hj, rfl⟩ := List.getElem_of_mem hd
  have := h j (by omega)
  rwa [List.getD_eq_getElem?_getD, List.getElem?_eq_getElem hj] at this
theorem few_cd {l : List Cd} {n : Nat} (h : fewCd l n = true) : l.length ≤ n ∧ ∀ d ∈ l, d.name.size ≤ 40 ∧ d.data.size ≤ 400 := by
  unfold fewCd at h
  rw [Bool.and_eq_true, decide_eq_true_eq, List.all_eq_true] at h
  refine ⟨h.1, fun d hd => ?_⟩
  have := h.2 d hd
  unfold smallCd at this
  rw [Bool.and_eq_true, decide_eq_true_eq, decide_eq_true_eq] at this
  exact this
theorem getD_cd {l : List Cd} {k : Nat} (h : k < l.length) : l.getD k Cd.none ∈ l := by
  rw [List.getD_eq_getElem?_getD, List.getElem?_eq_getElem h]; exact List.getElem_mem h

set_option maxRecDepth 100000 in
set_option maxHeartbeats 2000000 in
theorem greatCd_any (v : Value) (l : List Cd) (n : Nat) (w : World) (h : CActs w v l) (hl : l.length ≤ 9223372036854775807) (hn : n ≤ 1000) :
    Calls Try.prog 9 #[v, .int .i64 n] w fun e w' => e = .returned (.bool (!fewCd l n)) ∧ w' = w := by
  obtain ⟨a, cap, rfl, _, h⟩ := h
  by_cases hg : n < l.length
  · rw [few_cd_long hg]
    clear h
    generalize l.length = m at *
    go_enter Try.func9, Try.ntmps9
    go_wp2
    go_ret
    exact ⟨rfl, rfl⟩
  · rcases h with rfl | ⟨b, off, rfl, hc⟩
    · rw [few_cd_all (k := 0) (by simp) rfl (fun j hj => by omega)]
      go_enter Try.func9, Try.ntmps9
      go_wp2
      refine wp_loop_rounds 1 ?_
      rw [rounds_succ]
      go_wp2
      go_ret
      exact ⟨rfl, rfl⟩
    · have HC : Hid _ := hc
      have HST : Hid (∀ k, k < l.length → smallCd (l.getD k Cd.none) = false → fewCd l n = false) := fun k hk h => few_cd_stop hk h
      have HAL : Hid ((∀ j, j < l.length → smallCd (l.getD j Cd.none) = true) → fewCd l n = true) := fun h => few_cd_all (by omega) rfl h
      obtain ⟨B, HB⟩ : ∃ B, Hid (fewCd l n = B) := ⟨_, rfl⟩
      rw [HB.out] at HST HAL ⊢
      clear hc
      generalize hm : l.length = m at *
      clear hm
      go_enter Try.func9, Try.ntmps9
      go_wp2
      go_loop [5] (fun i => ∃ k : Nat, k ≤ m ∧ i = .int .i64 k ∧ Hid (∀ j, j < k → smallCd (l.getD j Cd.none) = true)) (fun i => m - (intOf i).toNat)
      case atStart => exact ⟨0, Nat.zero_le _, rfl, fun j hj => by omega⟩
      case round =>
        obtain ⟨k, hk, rfl, HK⟩ := hrel
        by_cases hlt : k < m
        · obtain ⟨hat, hok⟩ := HC.out k hlt
          have HST1 : Hid (smallCd (l.getD k Cd.none) = false → B = false) := HST.out k hlt
          have HK1 : Hid (smallCd (l.getD k Cd.none) = true → ∀ j, j < k + 1 → smallCd (l.getD j Cd.none) = true) := fun h j hj => by
            by_cases e : j = k
            · subst e; exact h
            · exact HK.out j (by omega)
          generalize l.getD k Cd.none = d at hat hok HST1 HK1
          have c1 := hat.c1
          have c3 := hat.c3
          have hnm := hok.name
          have hdt := hok.data
          have HSM : Hid (smallCd d = (decide (d.name.size ≤ 40) && decide (d.data.size ≤ 400))) := rfl
          clear hat hok
          by_cases h40 : 40 < d.name.size
          · have HB1 : Hid (B = false) := HST1.out (HSM.out.trans (by rw [decide_eq_false (by omega)]; rfl))
            clear HK1 HST1 HSM
            generalize d.name = nm at *
            generalize d.data = dt at *
            go_wp2
            go_ret
            exact ⟨(show Ending.returned (.bool true) = .returned (.bool (!B)) by rw [HB1.out]; rfl), rfl⟩
          · by_cases h400 : 400 < d.data.size
            · have HB1 : Hid (B = false) := HST1.out (HSM.out.trans (by rw [decide_eq_false (p := d.data.size ≤ 400) (by omega), Bool.and_false]))
              clear HK1 HST1 HSM
              generalize d.name = nm at *
              generalize d.data = dt at *
              go_wp2
              go_ret
              exact ⟨(show Ending.returned (.bool true) = .returned (.bool (!B)) by rw [HB1.out]; rfl), rfl⟩
            · have HK2 : Hid (∀ j, j < k + 1 → smallCd (l.getD j Cd.none) = true) := HK1.out (HSM.out.trans (by rw [decide_eq_true (p := d.name.size ≤ 40) (by omega), decide_eq_true (p := d.data.size ≤ 400) (by omega)]; rfl))
              clear HK1 HST1 HSM
              generalize d.name = nm at *
              generalize d.data = dt at *
              go_wp2
              go_round
              case rel => exact ⟨k + 1, by omega, by go_num, HK2⟩
              case measure => simp [intOf]; omega
        · obtain rfl : k = m := by omega
          have HB1 : Hid (B = true) := HAL.out HK.out
          go_wp2
          go_ret
          exact ⟨(show Ending.returned (.bool false) = .returned (.bool (!B)) by rw [HB1.out]; rfl), rfl⟩

/-- A cache that the call itself has made since w. -/
structure CIn (w W : World) (c p : Nat) (o : Nat → Prop) (st : Ca.St) (u : Nat) : Prop where
  sys : CSys W c p o st u
  below : Below w.heap.size w W
  new : ∀ i, o i → w.heap.size ≤ i
theorem CIn.turn {w W W' : World} {c p : Nat} {o o' : Nat → Prop} {st st' : Ca.St} {u u' : Nat} (h : CIn w W c p o st u) (hs : CSys W' c p o' st' u') (ht : Turn o W o' W') : CIn w W' c p o' st' u' :=
  ⟨hs, h.below.trans (ht.toBelow h.below.size h.new), ht.behind h.below.size h.new⟩
theorem CIn.later {w W W' : World} {c p : Nat} {o : Nat → Prop} {st : Ca.St} {u : Nat} (h : CIn w W c p o st u) (hb : Below W.heap.size W W') : CIn w W' c p o st u :=
  ⟨h.sys.later hb, bnext h.below hb, h.new⟩

set_option maxRecDepth 100000 in
set_option maxHeartbeats 1000000 in
theorem made_any (m : Nat) (hm : m < 256) (w : World) : Calls Try.prog 25 #[.int .u8 m] w fun e w' => ∃ c p o, e = .returned (at_ c) ∧ CIn w w' c p o ⟨1 + m % 9, ⟨60, -1, []⟩, []⟩ 0 := by
  have HN : Hid (Calls _ _ _ _ _) := new_yes 60 w (by decide) (by decide)
  have hr : (m : Int) % 9 = ((m % 9 : Nat) : Int) := by omega
  have h9 : m % 9 < 9 := by omega
  have HC : Hid (∀ W p o, Sys W p o ⟨60, -1, []⟩ → Calls Try.prog 12 #[at_ p, .int .i64 (1 + m % 9 : Nat)] W fun e w' => _) := fun W p o hs => cnew_yes (1 + m % 9) W hs (by omega) (by omega)
  generalize m % 9 = k at *
  unfold at_ at *
  go_enter Try.func25, Try.ntmps25
  go_wp2_with fail
  refine Calls.mono HN.out ?_
  rintro e w1 ⟨p, o, rfl, hs, ho, hb⟩
  have HC1 : Hid (Calls _ _ _ _ _) := HC.out w1 p o hs
  have HB : Hid (Below w.heap.size w w1) := hb
  have HO : Hid (∀ i, o i → w.heap.size ≤ i) := ho
  clear hs ho hb HC HN
  have e1 : ((1 + k : Nat) : Int) = 1 + (k : Int) := by omega
  rw [e1] at HC1
  go_wp2_with fail
  refine Calls.mono HC1.out ?_
  rintro e w2 ⟨c, o2, rfl, hs2, ho2, hb2⟩
  have H2 : Hid (CIn w w2 c p o2 _ 0) := ⟨hs2, bnext HB.out hb2, fun i hi => by
    rcases ho2 i hi with h | h
    · exact HO.out i h
    · exact Nat.le_trans HB.out.size h⟩
  clear hs2 ho2 hb2
  go_wp2
  go_ret
  exact ⟨c, p, o2, rfl, H2.out⟩

end Go.Proofs.Ytnlhgcpmmcmknaa
