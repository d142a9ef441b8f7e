/- The walks of slices.ContainsFunc at isNoPage, and of files' Remove and Write. -/
import Derived.Test.YtnlhgcpmmcmknaaFAsk
import Derived.Test.YtnlhgcpmmcmknaaLater
import Derived.Deep.RegionLaw
namespace Go.Proofs.Ytnlhgcpmmcmknaa
open Go.RowKit Go.Maps

theorem all_upto {l : List ByteArray} {k : Nat} (hk : k = l.length) (h : ∀ j, j < k → Fi.isPage (l.getD j ByteArray.empty) = true) : l.all Fi.isPage = true := by
  rw [List.all_eq_true]
  intro s hs
  obtain ⟨j, hj, rfl⟩ := List.getElem_of_mem hs
  have := h j (by omega)
  rwa [List.getD_eq_getElem?_getD, List.getElem?_eq_getElem hj] at this
theorem all_stop {l : List ByteArray} {k : Nat} (hk : k < l.length) (h : Fi.isPage (l.getD k ByteArray.empty) = false) : l.all Fi.isPage = false := by
  cases ha : l.all Fi.isPage with
  | false => rfl
  | true =>
    rw [List.all_eq_true] at ha
    have := ha (l[k]) (List.getElem_mem hk)
    rw [List.getD_eq_getElem?_getD, List.getElem?_eq_getElem hk] at h
    simp only [Option.getD_some] at h
    rw [this] at h; cases h

set_option maxRecDepth 100000 in
set_option maxHeartbeats 1000000 in
theorem index_any (v : Value) (l : List ByteArray) (w : World) (h : Strs w v l) (hl : l.length ≤ 1000000000) :
    Calls Try.prog 83 #[v, .func (.func 61) #[] #[]] w fun e w' => ∃ k : Int, e = .returned (.int .i64 k) ∧ Hid (decide (0 ≤ k) = !l.all Fi.isPage) ∧ w' = w := by
  obtain ⟨a, cap, rfl, _, h⟩ := h
  rcases h with rfl | ⟨b, off, rfl, hc⟩
  · go_enter Try.func83, Try.ntmps83
    go_wp2
    refine wp_loop_rounds 1 ?_
    rw [rounds_succ]
    go_wp2
    go_ret
    exact ⟨-1, rfl, (by decide : decide ((0 : Int) ≤ -1) = !([] : List ByteArray).all Fi.isPage), rfl⟩
  · have HC : Hid _ := hc
    have HP : Hid (∀ s : ByteArray, Calls Try.prog 61 #[.string s] w fun e w' => e = .returned (.bool (!Fi.isPage s)) ∧ w' = w) := fun s => isNoPage_any s w
    have HA : Hid ((∀ j, j < l.length → Fi.isPage (l.getD j ByteArray.empty) = true) → l.all Fi.isPage = true) := fun h => all_upto rfl h
    have HN : Hid (∀ k, k < l.length → Fi.isPage (l.getD k ByteArray.empty) = false → l.all Fi.isPage = false) := fun k hk h => all_stop hk h
    obtain ⟨B, HB⟩ : ∃ B, Hid (l.all Fi.isPage = B) := ⟨_, rfl⟩
    rw [HB.out] at HA HN ⊢
    clear hc
    generalize hn : l.length = n at *
    clear hn
    go_enter Try.func83, Try.ntmps83
    go_wp2
    go_loop [8] (fun i => ∃ k : Nat, k ≤ n ∧ i = .int .i64 k ∧ Hid (∀ j, j < k → Fi.isPage (l.getD j ByteArray.empty) = true)) (fun i => n - (intOf i).toNat)
    case atStart => exact ⟨0, Nat.zero_le _, rfl, fun j hj => by omega⟩
    case round =>
      obtain ⟨k, hk, rfl, HK⟩ := hrel
      by_cases hlt : k < n
      · have hc1 := HC.out k hlt
        have HP1 : Hid (Calls _ _ _ _ _) := HP.out (l.getD k ByteArray.empty)
        have HN1 : Hid (Fi.isPage (l.getD k ByteArray.empty) = false → B = false) := HN.out k hlt
        have HK1 : Hid (Fi.isPage (l.getD k ByteArray.empty) = true → ∀ j, j < k + 1 → Fi.isPage (l.getD j ByteArray.empty) = true) := fun h j hj => by
          by_cases e : j = k
          · subst e; exact h
          · exact HK.out j (by omega)
        generalize l.getD k ByteArray.empty = s at hc1 HP1 HN1 HK1
        cases hb : Fi.isPage s with
        | false =>
          rw [hb] at HP1
          have HB1 : Hid (B = false) := HN1.out hb
          clear HK1 HN1 hb
          go_wp2_with fail
          refine Calls.mono HP1.out ?_
          rintro e w1 ⟨rfl, rfl⟩
          go_wp2
          go_ret
          exact ⟨k, rfl, (show decide ((0 : Int) ≤ k) = !B by rw [HB1.out, decide_eq_true (Int.natCast_nonneg k)]; rfl), rfl⟩
        | true =>
          rw [hb] at HP1
          have HK2 : Hid (∀ j, j < k + 1 → Fi.isPage (l.getD j ByteArray.empty) = true) := HK1.out hb
          clear HK1 HN1 hb
          go_wp2_with fail
          refine Calls.mono HP1.out ?_
          rintro e w1 ⟨rfl, rfl⟩
          go_wp2
          go_round
          case rel => exact ⟨k + 1, by omega, by go_num, HK2⟩
          case measure => simp [intOf]; omega
      · obtain rfl : k = n := by omega
        have HB1 : Hid (B = true) := HA.out HK.out
        go_wp2
        go_ret
        exact ⟨-1, rfl, (show decide ((0 : Int) ≤ -1) = !B by rw [HB1.out]; rfl), rfl⟩

set_option maxRecDepth 100000 in
theorem contains_any (v : Value) (l : List ByteArray) (w : World) (h : Strs w v l) (hl : l.length ≤ 1000000000) :
    Calls Try.prog 62 #[v, .func (.func 61) #[] #[]] w fun e w' => e = .returned (.bool (!l.all Fi.isPage)) ∧ w' = w := by
  have HI : Hid (Calls _ _ _ _ _) := index_any v l w h hl
  generalize (!l.all Fi.isPage) = B at *
  clear h hl
  go_enter Try.func62, Try.ntmps62
  go_wp2_with fail
  refine Calls.mono HI.out ?_
  rintro e w1 ⟨k, rfl, hk, rfl⟩
  go_wp2
  go_ret
  exact ⟨(show Ending.returned (.bool (decide (0 ≤ k))) = .returned (.bool B) by rw [hk.out]), rfl⟩

theorem sorted_tab {T : Tab} {st : Fi.St} (hf : filesOf T = st.fs) (hg : Fi.Good st) : Fi.Sorted T := (Fi.mapv_sorted (·.2)).1 (by have := hg.sorted; rw [← hf] at this; exact this)

set_option maxRecDepth 100000 in
theorem remove_any {p : Nat} {o : Nat → Prop} {st : Fi.St} (n : ByteArray) (w : World) (hs : Sys w p o st) (hn : n.size ≤ maxLen) :
    Calls Try.prog 38 #[.pointer (some ⟨p, 0, none⟩), .string n] w fun e w' => ∃ o', e = .returned (.int .i64 (Fi.remove st n).1) ∧ Sys w' p o' (Fi.remove st n).2 ∧ Turn o w o' w' := by
  have HP : Hid (Calls _ _ _ _ _) := pages_any n w hs hn
  have HS : Hid (Sys _ _ _ _) := hs
  obtain ⟨mb, T, h, hf, rfl, hg⟩ := hs
  have HI : Hid (Calls _ _ _ _ _) := isNone_sits w h
  have hc := h.cell1
  have hown := h.map
  have hkey := key_of hn
  unfold Fi.remove
  by_cases h0 : Fi.rows st.fs n = []
  · rw [if_pos h0]
    rw [h0] at HP
    clear h hf hown hc
    go_enter Try.func38, Try.ntmps38
    go_wp2_with fail
    refine Calls.mono HI.out ?_
    rintro e w1 ⟨rfl, rfl⟩
    go_wp2_with fail
    refine Calls.mono HP.out ?_
    rintro e w1 ⟨rfl, rfl⟩
    go_wp2
    go_ret
    exact ⟨_, rfl, HS.out, Turn.below (Below.refl _ _)⟩
  · rw [if_neg h0]
    have hpos : 0 < (Fi.rows st.fs n).length := List.length_pos_iff.2 h0
    have HH : Hid (Sits _ _ _ _ _ _) := h
    have hb : (((Fi.rows st.fs n).length : Int) == 0) = false := by simp; omega
    generalize (Fi.rows st.fs n).length = k at *
    clear h h0 HS
    go_enter Try.func38, Try.ntmps38
    go_wp2_with fail
    refine Calls.mono HI.out ?_
    rintro e w1 ⟨rfl, rfl⟩
    go_wp2_with fail
    refine Calls.mono HP.out ?_
    rintro e w1 ⟨rfl, rfl⟩
    go_wp2_with (first | (at_delete; refine wpList_delete_own _ rfl _ _ 71 9 rfl 78 Try.keyed Try.underlying71 _ mb T.length _ rfl hown _ _ rfl hkey ?_; intro w2 hown2 hturn2))
    rw [Fi.ents_delete] at hown2
    have HD : Hid (_ ∧ _) := HH.out.drop hown2 hturn2
    clear hown2 hturn2 hown
    go_wp2
    go_ret
    exact ⟨_, rfl, ⟨mb, Fi.del T n, HD.out.1, by rw [files_del, hf], rfl, Fi.good_del hg n⟩, HD.out.2⟩

end Go.Proofs.Ytnlhgcpmmcmknaa
