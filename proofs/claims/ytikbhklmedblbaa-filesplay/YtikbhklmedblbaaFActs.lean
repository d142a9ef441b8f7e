/- Acts: what they are in memory; the walks of the statements' helpers first, Great, Done and Played. -/
import Derived.Test.YtikbhklmedblbaaFDoes
import Derived.Test.YtikbhklmedblbaaFFlip
namespace Go.Proofs.Ytikbhklmedblbaa
open Go.RowKit Go.Maps

/-- An act, with the slice that its pages lie in. -/
structure Deed where
  kind : Nat
  name : ByteArray
  pv : Value
  pages : List ByteArray
  i : Int
  at_ : Int
  x : UInt8

def Deed.none : Deed := ⟨0, ByteArray.empty, .slice Option.none 0 0, [], 0, 0, 0⟩
def Deed.cells (d : Deed) : Array Value := #[.int .u8 d.kind, .string d.name, d.pv, .int .i64 d.i, .int .i64 d.at_, .int .u8 d.x.toNat]

structure DeedOk (W : World) (d : Deed) : Prop where
  kind : d.kind < 256
  name : d.name.size ≤ 9223372036854775807
  strs : Strs W d.pv d.pages
  len : d.pages.length ≤ 9223372036854775807
  each : ∀ s ∈ d.pages, s.size ≤ 9223372036854775807
  i1 : -9223372036854775808 ≤ d.i
  i2 : d.i ≤ 9223372036854775807

theorem DeedOk.later {W W' : World} {d : Deed} (h : DeedOk W d) (hb : Below W.heap.size W W') : DeedOk W' d := ⟨h.kind, h.name, h.strs.later hb, h.len, h.each, h.i1, h.i2⟩

/-- The six cells of an act. -/
structure DeedAt (W : World) (b off : Nat) (d : Deed) : Prop where
  c0 : W.cell? ⟨b, off, none⟩ = some (.int .u8 d.kind)
  c1 : W.cell? ⟨b, off + 1, none⟩ = some (.string d.name)
  c2 : W.cell? ⟨b, off + 2, none⟩ = some d.pv
  c3 : W.cell? ⟨b, off + 3, none⟩ = some (.int .i64 d.i)
  c4 : W.cell? ⟨b, off + 4, none⟩ = some (.int .i64 d.at_)
  c5 : W.cell? ⟨b, off + 5, none⟩ = some (.int .u8 d.x.toNat)

theorem DeedAt.later {W W' : World} {b off : Nat} {d : Deed} (h : DeedAt W b off d) (hb : Below W.heap.size W W') : DeedAt W' b off d :=
  ⟨cell_after hb h.c0, cell_after hb h.c1, cell_after hb h.c2, cell_after hb h.c3, cell_after hb h.c4, cell_after hb h.c5⟩

/-- The slice v holds the acts l. -/
def Acts (W : World) (v : Value) (l : List Deed) : Prop :=
  ∃ a cap, v = .slice a l.length cap ∧ l.length ≤ cap ∧ (l = [] ∨ ∃ b off, a = some ⟨b, off, none⟩ ∧ ∀ j, j < l.length → DeedAt W b (off + j * 6) (l.getD j Deed.none) ∧ DeedOk W (l.getD j Deed.none))

theorem Acts.later {W W' : World} {v : Value} {l : List Deed} (h : Acts W v l) (hb : Below W.heap.size W W') : Acts W' v l := by
  obtain ⟨a, cap, rfl, hc, h⟩ := h
  refine ⟨a, cap, rfl, hc, ?_⟩
  rcases h with h | ⟨b, off, rfl, h⟩
  · exact .inl h
  · exact .inr ⟨b, off, rfl, fun j hj => ⟨(h j hj).1.later hb, (h j hj).2.later hb⟩⟩

def firstOf (l : List ByteArray) : ByteArray := l.getD 0 ByteArray.empty

theorem first_any (v : Value) (l : List ByteArray) (w : World) (h : Strs w v l) :
    Calls Try.prog 35 #[v] w fun e w' => e = .returned (.string (firstOf l)) ∧ w' = w := by
  obtain ⟨a, cap, rfl, _, h⟩ := h
  unfold firstOf
  rcases h with rfl | ⟨b, off, rfl, hc⟩
  · go_enter Try.func35, Try.ntmps35
    go_wp2
    go_ret
    exact ⟨rfl, rfl⟩
  · by_cases h0 : l.length = 0
    · have hl := List.length_eq_zero_iff.1 h0
      subst hl
      clear hc h0
      go_enter Try.func35, Try.ntmps35
      go_wp2
      go_ret
      exact ⟨rfl, rfl⟩
    · have c0 := hc 0 (by omega)
      rw [Nat.add_zero] at c0
      have hb : ((l.length : Int) == 0) = false := by rw [beq_eq_false_iff_ne]; omega
      have hpos : 0 < l.length := by omega
      clear hc h0
      generalize l.getD 0 ByteArray.empty = s at *
      generalize l.length = n at *
      go_enter Try.func35, Try.ntmps35
      go_wp2
      go_ret
      exact ⟨rfl, rfl⟩

/-- What is gone through. -/
def smallDeed (d : Deed) : Bool := decide (d.name.size ≤ 40) && decide (Few d.pages 8)
def fewDeeds (l : List Deed) (n : Nat) : Bool := decide (l.length ≤ n) && l.all smallDeed

theorem few_deeds_long {l : List Deed} {n : Nat} (h : n < l.length) : fewDeeds l n = false := by unfold fewDeeds; rw [decide_eq_false (by omega)]; rfl
theorem few_deeds_stop {l : List Deed} {n k : Nat} (hk : k < l.length) (h : smallDeed (l.getD k Deed.none) = false) : fewDeeds l n = false := by
  unfold fewDeeds
  have : l.all smallDeed = false := by
    cases ha : l.all smallDeed with
    | false => rfl
    | true =>
      rw [List.all_eq_true] at ha
      have := ha (l[k]) (List.getElem_mem hk)
      rw [List.getD_eq_getElem?_getD, List.getElem?_eq_getElem hk] at h
      simp only [Option.getD_some] at h
      rw [this] at h; cases h
  rw [this, Bool.and_false]
theorem few_deeds_all {l : List Deed} {n k : Nat} (hn : l.length ≤ n) (hk : k = l.length) (h : ∀ j, j < k → smallDeed (l.getD j Deed.none) = true) : fewDeeds l n = true := by
  unfold fewDeeds
  rw [decide_eq_true hn, Bool.true_and, List.all_eq_true]
  intro d hd
  obtain ⟨j, hj, rfl⟩ := List.getElem_of_mem hd
  have := h j (by omega)
  rwa [List.getD_eq_getElem?_getD, List.getElem?_eq_getElem hj] at this

set_option maxRecDepth 100000 in
set_option maxHeartbeats 2000000 in
theorem greatDeeds_any (v : Value) (l : List Deed) (n : Nat) (w : World) (h : Acts w v l) (hl : l.length ≤ 9223372036854775807) (hn : n ≤ 1000) :
    Calls Try.prog 9 #[v, .int .i64 n] w fun e w' => e = .returned (.bool (!fewDeeds l n)) ∧ w' = w := by
  obtain ⟨a, cap, rfl, _, h⟩ := h
  by_cases hg : n < l.length
  · rw [few_deeds_long hg]
    clear h
    generalize l.length = m at *
    go_enter Try.func9, Try.ntmps9
    go_wp2
    go_ret
    exact ⟨rfl, rfl⟩
  · rcases h with rfl | ⟨b, off, rfl, hc⟩
    · rw [few_deeds_all (k := 0) (by simp) rfl (fun j hj => by omega)]
      go_enter Try.func9, Try.ntmps9
      go_wp2
      refine wp_loop_rounds 1 ?_
      rw [rounds_succ]
      go_wp2
      go_ret
      exact ⟨rfl, rfl⟩
    · have HC : Hid _ := hc
      have HST : Hid (∀ k, k < l.length → smallDeed (l.getD k Deed.none) = false → fewDeeds l n = false) := fun k hk h => few_deeds_stop hk h
      have HAL : Hid ((∀ j, j < l.length → smallDeed (l.getD j Deed.none) = true) → fewDeeds l n = true) := fun h => few_deeds_all (by omega) rfl h
      obtain ⟨B, HB⟩ : ∃ B, Hid (fewDeeds l n = B) := ⟨_, rfl⟩
      rw [HB.out] at HST HAL ⊢
      clear hc
      generalize hm : l.length = m at *
      clear hm
      go_enter Try.func9, Try.ntmps9
      go_wp2
      go_loop [5] (fun i => ∃ k : Nat, k ≤ m ∧ i = .int .i64 k ∧ Hid (∀ j, j < k → smallDeed (l.getD j Deed.none) = true)) (fun i => m - (intOf i).toNat)
      case atStart => exact ⟨0, Nat.zero_le _, rfl, fun j hj => by omega⟩
      case round =>
        obtain ⟨k, hk, rfl, HK⟩ := hrel
        by_cases hlt : k < m
        · obtain ⟨hat, hok⟩ := HC.out k hlt
          have HST1 : Hid (smallDeed (l.getD k Deed.none) = false → B = false) := HST.out k hlt
          have HK1 : Hid (smallDeed (l.getD k Deed.none) = true → ∀ j, j < k + 1 → smallDeed (l.getD j Deed.none) = true) := fun h j hj => by
            by_cases e : j = k
            · subst e; exact h
            · exact HK.out j (by omega)
          generalize l.getD k Deed.none = d at hat hok HST1 HK1
          have c1 := hat.c1
          have c2 := hat.c2
          have HGR : Hid (Calls _ _ _ _ _) := great_any d.pv d.pages 8 w hok.strs hok.len (by omega) hok.each
          have hnm := hok.name
          have HSM : Hid (smallDeed d = (decide (d.name.size ≤ 40) && decide (Few d.pages 8))) := rfl
          clear hat hok
          by_cases h40 : 40 < d.name.size
          · have HB1 : Hid (B = false) := HST1.out (HSM.out.trans (by rw [decide_eq_false (by omega)]; rfl))
            clear HK1 HST1 HSM HGR
            generalize d.name = nm at *
            generalize d.pv = pv at *
            go_wp2
            go_ret
            exact ⟨(show Ending.returned (.bool true) = .returned (.bool (!B)) by rw [HB1.out]; rfl), rfl⟩
          · cases hf : decide (Few d.pages 8) with
            | false =>
              have HB1 : Hid (B = false) := HST1.out (HSM.out.trans (by rw [hf, Bool.and_false]))
              rw [hf] at HGR
              clear HK1 HST1 HSM hf
              generalize d.name = nm at *
              generalize d.pv = pv at *
              go_wp2_with fail
              refine Calls.mono HGR.out ?_
              rintro e w1 ⟨rfl, rfl⟩
              go_wp2
              go_ret
              exact ⟨(show Ending.returned (.bool true) = .returned (.bool (!B)) by rw [HB1.out]; rfl), rfl⟩
            | true =>
              have HK2 : Hid (∀ j, j < k + 1 → smallDeed (l.getD j Deed.none) = true) := HK1.out (HSM.out.trans (by rw [hf, decide_eq_true (by omega)]; rfl))
              rw [hf] at HGR
              clear HK1 HST1 HSM hf
              generalize d.name = nm at *
              generalize d.pv = pv at *
              go_wp2_with fail
              refine Calls.mono HGR.out ?_
              rintro e w1 ⟨rfl, rfl⟩
              go_wp2
              go_round
              case rel => exact ⟨k + 1, by omega, by go_num, HK2⟩
              case measure => simp [intOf]; omega
        · obtain rfl : k = m := by omega
          have HB1 : Hid (B = true) := HAL.out HK.out
          go_wp2
          go_ret
          exact ⟨(show Ending.returned (.bool false) = .returned (.bool (!B)) by rw [HB1.out]; rfl), rfl⟩

/-- What an act answers, and what it makes of the file system. -/
def actOf (st : Fi.St) (d : Deed) : ByteArray × Int × Fi.St :=
  if d.kind % 9 < 2 then (⟨#[]⟩, Fi.write st d.name d.pages)
  else if d.kind % 9 < 4 then (⟨#[]⟩, Fi.putp st d.name d.i (firstOf d.pages))
  else if d.kind % 9 = 6 then (⟨#[]⟩, Fi.remove st d.name)
  else if d.kind % 9 = 7 then (⟨#[]⟩, Fi.fail st d.i)
  else if d.kind % 9 = 8 then (⟨#[]⟩, Fi.flip st d.name d.i d.at_ d.x)
  else Fi.read st d.name d.i

theorem box_later (w : World) (d : Deed) : Below w.heap.size w (w.alloc (.cells d.cells 34)) := (Below.refl _ w).alloc (Nat.le_refl _) _

set_option maxRecDepth 100000 in
set_option maxHeartbeats 4000000 in
theorem done_any {p : Nat} {o : Nat → Prop} {st : Fi.St} (d : Deed) (w : World) (hs : Sys w p o st) (hok : DeedOk w d) (hnm : d.name.size ≤ 40) (hpg : d.pages.length ≤ 8) :
    Calls Try.prog 13 #[.pointer (some ⟨p, 0, none⟩), .agg d.cells] w fun e w' => ∃ o', e = .returned (.tuple #[.string (actOf st d).1, .int .i64 (actOf st d).2.1]) ∧ Sys w' p o' (actOf st d).2.2 ∧ Turn o w o' w' := by
  have hbx := box_later w d
  have hs1 := hs.later hbx
  have hst1 := hok.strs.later hbx
  have hml : d.name.size ≤ maxLen := by unfold maxLen; omega
  have HW : Hid (Calls _ _ _ _ _) := write_any d.name d.pv d.pages _ hs1 hml hst1 (by omega)
  have HF : Hid (Calls _ _ _ _ _) := first_any d.pv d.pages _ (hst1.later (Below.refl _ _).drew)
  have HP : Hid (Calls _ _ _ _ _) := put_any d.name d.i (firstOf d.pages) _ (hs1.later (Below.refl _ _).drew) hml
  have HR : Hid (Calls _ _ _ _ _) := remove_any d.name _ hs1 hml
  have HFa : Hid (Calls _ _ _ _ _) := fail_any d.i _ hs1 hok.i2
  have HFl : Hid (Calls _ _ _ _ _) := flip_any d.name d.i d.at_ d.x _ hs1 hml
  have HRd : Hid (Calls _ _ _ _ _) := read_any d.name d.i _ hs1 hml
  have HT1 : Hid (Turn o w o (w.alloc (.cells d.cells 34))) := Turn.below hbx
  have HT2 : Hid (Turn o w o (w.alloc (.cells d.cells 34)).drew) := Turn.below hbx.drew
  obtain ⟨r, hr, hr9⟩ : ∃ r : Nat, (d.kind : Int) % 9 = r ∧ r < 9 := ⟨d.kind % 9, by omega, by omega⟩
  have hrn : d.kind % 9 = r := by omega
  have hk := hok.kind
  unfold actOf
  rw [hrn]
  clear hrn hbx hs1 hst1 hs hok hnm hpg hml
  unfold Deed.cells at *
  obtain ⟨kind, name, pv, pages, i, at_, x⟩ := d
  simp only at *
  generalize firstOf pages = fp at *
  generalize (x.toNat : Int) = X at *
  have hcases : r = 0 ∨ r = 1 ∨ r = 2 ∨ r = 3 ∨ r = 4 ∨ r = 5 ∨ r = 6 ∨ r = 7 ∨ r = 8 := by omega
  rcases hcases with rfl | rfl | rfl | rfl | rfl | rfl | rfl | rfl | rfl
  case inl =>
    rw [if_pos (by decide)]
    clear HF HP HR HFa HFl HRd HT2
    go_enter Try.func13, Try.ntmps13
    go_wp2_with fail
    refine Calls.mono HW.out ?_
    rintro e w2 ⟨o2, rfl, hs2, ht2⟩
    have H2 : Hid (_ ∧ _) := And.intro hs2 (HT1.out.trans ht2)
    clear hs2 ht2
    go_wp2
    go_ret2
    exact ⟨o2, rfl, H2.out⟩
  case inr.inl =>
    rw [if_pos (by decide)]
    clear HF HP HR HFa HFl HRd HT2
    go_enter Try.func13, Try.ntmps13
    go_wp2_with fail
    refine Calls.mono HW.out ?_
    rintro e w2 ⟨o2, rfl, hs2, ht2⟩
    have H2 : Hid (_ ∧ _) := And.intro hs2 (HT1.out.trans ht2)
    clear hs2 ht2
    go_wp2
    go_ret2
    exact ⟨o2, rfl, H2.out⟩
  case inr.inr.inl =>
    rw [if_neg (by decide), if_pos (by decide)]
    clear HW HR HFa HFl HRd HT1
    go_enter Try.func13, Try.ntmps13
    go_wp2_with fail
    go_region_law
      (first
      | (go_simp; go_at_call 35; refine Calls.mono HF.out ?_; rintro e w1 ⟨rfl, rfl⟩)
      | (go_simp; go_at_call 34; refine Calls.mono HP.out ?_; rintro e w2 ⟨o2, rfl, hs2, ht2⟩; have H2 : Hid (_ ∧ _) := And.intro hs2 (HT2.out.trans ht2); clear hs2 ht2))
    all_goals
      go_wp2
      go_ret2
      exact ⟨o2, rfl, H2.out⟩
  case inr.inr.inr.inl =>
    rw [if_neg (by decide), if_pos (by decide)]
    clear HW HR HFa HFl HRd HT1
    go_enter Try.func13, Try.ntmps13
    go_wp2_with fail
    go_region_law
      (first
      | (go_simp; go_at_call 35; refine Calls.mono HF.out ?_; rintro e w1 ⟨rfl, rfl⟩)
      | (go_simp; go_at_call 34; refine Calls.mono HP.out ?_; rintro e w2 ⟨o2, rfl, hs2, ht2⟩; have H2 : Hid (_ ∧ _) := And.intro hs2 (HT2.out.trans ht2); clear hs2 ht2))
    all_goals
      go_wp2
      go_ret2
      exact ⟨o2, rfl, H2.out⟩
  case inr.inr.inr.inr.inl =>
    rw [if_neg (by decide), if_neg (by decide), if_neg (by decide), if_neg (by decide), if_neg (by decide)]
    clear HW HF HP HR HFa HFl HT2
    go_enter Try.func13, Try.ntmps13
    go_wp2_with fail
    refine Calls.mono HRd.out ?_
    rintro e w2 ⟨rfl, hs2, ht2⟩
    have H2 : Hid (_ ∧ _) := And.intro hs2 (HT1.out.trans ht2)
    clear hs2 ht2
    go_wp2
    go_ret2
    exact ⟨o, rfl, H2.out⟩
  case inr.inr.inr.inr.inr.inl =>
    rw [if_neg (by decide), if_neg (by decide), if_neg (by decide), if_neg (by decide), if_neg (by decide)]
    clear HW HF HP HR HFa HFl HT2
    go_enter Try.func13, Try.ntmps13
    go_wp2_with fail
    refine Calls.mono HRd.out ?_
    rintro e w2 ⟨rfl, hs2, ht2⟩
    have H2 : Hid (_ ∧ _) := And.intro hs2 (HT1.out.trans ht2)
    clear hs2 ht2
    go_wp2
    go_ret2
    exact ⟨o, rfl, H2.out⟩
  case inr.inr.inr.inr.inr.inr.inl =>
    rw [if_neg (by decide), if_neg (by decide), if_pos (by decide)]
    clear HW HF HP HFa HFl HRd HT2
    go_enter Try.func13, Try.ntmps13
    go_wp2_with fail
    refine Calls.mono HR.out ?_
    rintro e w2 ⟨o2, rfl, hs2, ht2⟩
    have H2 : Hid (_ ∧ _) := And.intro hs2 (HT1.out.trans ht2)
    clear hs2 ht2
    go_wp2
    go_ret2
    exact ⟨o2, rfl, H2.out⟩
  case inr.inr.inr.inr.inr.inr.inr.inl =>
    rw [if_neg (by decide), if_neg (by decide), if_neg (by decide), if_pos (by decide)]
    clear HW HF HP HR HFl HRd HT2
    go_enter Try.func13, Try.ntmps13
    go_wp2_with fail
    refine Calls.mono HFa.out ?_
    rintro e w2 ⟨rfl, hs2, ht2⟩
    have H2 : Hid (_ ∧ _) := And.intro hs2 (HT1.out.trans ht2)
    clear hs2 ht2
    go_wp2
    go_ret2
    exact ⟨o, rfl, H2.out⟩
  case inr.inr.inr.inr.inr.inr.inr.inr =>
    rw [if_neg (by decide), if_neg (by decide), if_neg (by decide), if_neg (by decide), if_pos (by decide)]
    clear HW HF HP HR HFa HRd HT2
    go_enter Try.func13, Try.ntmps13
    go_wp2_with fail
    refine Calls.mono HFl.out ?_
    rintro e w2 ⟨o2, rfl, hs2, ht2⟩
    have H2 : Hid (_ ∧ _) := And.intro hs2 (HT1.out.trans ht2)
    clear hs2 ht2
    go_wp2
    go_ret2
    exact ⟨o2, rfl, H2.out⟩

/-- All acts, one behind the other. -/
def playAll (st : Fi.St) (l : List Deed) : Fi.St := l.foldl (fun s d => (actOf s d).2.2) st
theorem playAll_snoc (st : Fi.St) (l : List Deed) (k : Nat) (h : k < l.length) : playAll st (l.take (k + 1)) = (actOf (playAll st (l.take k)) (l.getD k Deed.none)).2.2 := by
  unfold playAll
  rw [List.take_add_one, List.getElem?_eq_getElem h, List.foldl_append]
  simp [List.getD, h]

theorem few_deeds {l : List Deed} {n : Nat} (h : fewDeeds l n = true) : l.length ≤ n ∧ ∀ d ∈ l, d.name.size ≤ 40 ∧ d.pages.length ≤ 8 ∧ ∀ s ∈ d.pages, s.size ≤ 300 := by
  unfold fewDeeds at h
  rw [Bool.and_eq_true, decide_eq_true_eq, List.all_eq_true] at h
  refine ⟨h.1, fun d hd => ?_⟩
  have := h.2 d hd
  unfold smallDeed at this
  rw [Bool.and_eq_true, decide_eq_true_eq, decide_eq_true_eq] at this
  exact ⟨this.1, this.2.1, this.2.2⟩
theorem getD_mem {l : List Deed} {k : Nat} (h : k < l.length) : l.getD k Deed.none ∈ l := by
  rw [List.getD_eq_getElem?_getD, List.getElem?_eq_getElem h]; exact List.getElem_mem h

set_option maxRecDepth 100000 in
set_option maxHeartbeats 2000000 in
theorem played_any (v : Value) (l : List Deed) (w : World) (h : Acts w v l) (hf : fewDeeds l 60 = true) :
    Calls Try.prog 28 #[v] w fun e w' => ∃ p o, e = .returned (.pointer (some ⟨p, 0, none⟩)) ∧ FsIn w w' p o (playAll ⟨60, -1, []⟩ l) := by
  have HNW : Hid (Calls _ _ _ _ _) := new_yes 60 w (by decide) (by decide)
  obtain ⟨hlen, heach⟩ := few_deeds hf
  have HSN : Hid _ := playAll_snoc ⟨60, -1, []⟩ l
  have HFU : Hid (playAll ⟨60, -1, []⟩ (l.take l.length) = playAll ⟨60, -1, []⟩ l) := by show _ = _; rw [List.take_length]
  have HDN : Hid (∀ k, k < l.length → ∀ W p o, FsIn w W p o (playAll ⟨60, -1, []⟩ (l.take k)) → Calls Try.prog 13 #[.pointer (some ⟨p, 0, none⟩), .agg (l.getD k Deed.none).cells] W fun e w' => ∃ (o' : Nat → Prop) (s : ByteArray) (n : Int), e = .returned (.tuple #[.string s, .int .i64 n]) ∧ FsIn w w' p o' (playAll ⟨60, -1, []⟩ (l.take (k + 1)))) := by
    intro k hk W p o hF
    obtain ⟨_, _, _, _, hv⟩ := h
    have hok : DeedOk W (l.getD k Deed.none) := by
      rcases hv with hv | ⟨b, off, _, hv⟩
      · rw [hv] at hk; simp at hk
      · exact (hv k hk).2.later hF.below
    obtain ⟨h1, h2, _⟩ := heach _ (getD_mem hk)
    refine (done_any (l.getD k Deed.none) W hF.sys hok h1 h2).mono ?_
    rintro e w' ⟨o', rfl, hs, ht⟩
    refine ⟨o', _, _, rfl, ?_⟩
    rw [HSN.out k hk]
    exact hF.turn hs ht
  have HV : Hid (∀ W, Below w.heap.size w W → Acts W v l) := fun W hb => h.later hb
  obtain ⟨a, cap, rfl, hcap, hv⟩ := h
  have H0 : Hid (playAll ⟨60, -1, []⟩ (l.take 0) = ⟨60, -1, []⟩) := rfl
  generalize playAll ⟨60, -1, []⟩ l = S at *
  have HCV : Hid (∀ k, k < l.length → ∃ b off, a = some ⟨b, off, none⟩ ∧ ∀ W, Below w.heap.size w W → DeedAt W b (off + k * 6) (l.getD k Deed.none)) := by
    intro k hk
    rcases hv with hv | ⟨b, off, rfl, hv⟩
    · rw [hv] at hk; simp at hk
    · exact ⟨b, off, rfl, fun W hb => (hv k hk).1.later hb⟩
  clear hv heach HSN HV hf
  obtain ⟨PL, HPL⟩ : ∃ PL : Nat → Fi.St, Hid (∀ k, playAll ⟨60, -1, []⟩ (l.take k) = PL k) := ⟨_, fun _ => rfl⟩
  simp only [HPL.out] at HDN HFU H0
  obtain ⟨DD, HDD⟩ : ∃ DD : Nat → Deed, Hid (∀ k, l.getD k Deed.none = DD k) := ⟨_, fun _ => rfl⟩
  simp only [HDD.out] at HDN HCV
  clear HPL HDD
  generalize l.length = m at *
  go_enter Try.func28, Try.ntmps28
  go_wp2_with fail
  refine Calls.mono HNW.out ?_
  rintro e w1 ⟨p, o, rfl, hs, ho, hb⟩
  have F1 : Hid (FsIn w w1 p o (PL 0)) := by rw [H0.out]; exact ⟨hs, hb, ho⟩
  clear hs ho hb HNW
  go_wp2
  go_loopw [5] (fun x wr => ∃ (k : Nat) (o : Nat → Prop), k ≤ m ∧ x = .int .i64 k ∧ Hid (FsIn w wr p o (PL k))) (fun x _ => m - (intOf x).toNat)
  case atStart => exact ⟨0, o, Nat.zero_le _, rfl, F1⟩
  case round =>
    clear F1
    obtain ⟨k, o1, hk, rfl, F⟩ := hrel
    by_cases hlt : k < m
    · obtain ⟨b, off, rfl, hat⟩ := HCV.out k hlt
      have hd := hat wr F.out.below
      have c0 := hd.c0
      have c1 := hd.c1
      have c2 := hd.c2
      have c3 := hd.c3
      have c4 := hd.c4
      have c5 := hd.c5
      have HC : Hid (Calls _ _ _ _ _) := HDN.out k hlt wr p o1 F.out
      unfold Deed.cells at HC
      clear hd hat
      generalize DD k = d at *
      generalize d.pv = pv at *
      generalize d.name = nm at *
      go_wp2_with fail
      refine Calls.mono HC.out ?_
      rintro e w2 ⟨o2, s2, n2, rfl, hF⟩
      have F2 : Hid (FsIn _ _ _ _ _) := hF
      clear hF F HC
      go_wp2
      go_roundw
      case rel => exact ⟨k + 1, o2, by omega, by go_num, F2⟩
      case measure => simp [intOf]; omega
    · obtain rfl : k = m := by omega
      go_wp2
      go_ret
      exact ⟨p, o1, rfl, by rw [← HFU.out]; exact F.out⟩

end Go.Proofs.Ytikbhklmedblbaa
