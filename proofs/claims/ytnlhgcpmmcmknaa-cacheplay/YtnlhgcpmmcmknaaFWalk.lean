/- The walks of files' small functions: isNone, isNoPage, Name, New, Pages, Fail, hasPage, failsNow, Read. -/
import Derived.Test.YtnlhgcpmmcmknaaFSys
import Derived.Carry
namespace Go.Proofs.Ytnlhgcpmmcmknaa
open Go.RowKit Go.Maps

theorem map_some (mb : Nat) (w : World) : (binOp .eql 71 (.map (some mb)) (.map none)).run Try.prog w = .ok (.bool false) w := by kernel_rfl
theorem map_none (w : World) : (binOp .eql 71 (.map none) (.map none)).run Try.prog w = .ok (.bool true) w := by kernel_rfl

set_option maxRecDepth 100000 in
theorem isNone_sits {p mb room : Nat} {ahead : Int} {T : Tab} (w : World) (h : Sits w p mb room ahead T) :
    Calls Try.prog 51 #[.pointer (some ⟨p, 0, none⟩)] w fun e w' => e = .returned (.bool false) ∧ w' = w := by
  have hc := h.cell1
  have hm := map_some mb w
  clear h
  go_enter Try.func51, Try.ntmps51
  go_wp2
  go_ret
  exact ⟨rfl, rfl⟩

set_option maxRecDepth 100000 in
theorem isNone_nil (w : World) : Calls Try.prog 51 #[.pointer none] w fun e w' => e = .returned (.bool true) ∧ w' = w := by
  go_enter Try.func51, Try.ntmps51
  go_wp2
  go_ret
  exact ⟨rfl, rfl⟩

set_option maxRecDepth 100000 in
theorem isNone_bare {p : Nat} (w : World) (hc : w.cell? ⟨p, 1, none⟩ = some (.map none)) : Calls Try.prog 51 #[.pointer (some ⟨p, 0, none⟩)] w fun e w' => e = .returned (.bool true) ∧ w' = w := by
  have hm := map_none w
  go_enter Try.func51, Try.ntmps51
  go_wp2
  go_ret
  exact ⟨rfl, rfl⟩

theorem isNoPage_any (s : ByteArray) (w : World) :
    Calls Try.prog 61 #[.string s] w fun e w' => e = .returned (.bool (!Fi.isPage s)) ∧ w' = w := by
  by_cases h : s.size = 128
  · have e : (!Fi.isPage s) = false := by simp [Fi.isPage, h]
    rw [e]
    have hd : ((s.size : Int) == 128) = true := by simp; omega
    go_enter Try.func61, Try.ntmps61
    go_wp2
    go_ret
    exact ⟨rfl, rfl⟩
  · have e : (!Fi.isPage s) = true := by simp [Fi.isPage, h]
    rw [e]
    have hd : ((s.size : Int) == 128) = false := by simp; omega
    go_enter Try.func61, Try.ntmps61
    go_wp2
    go_ret
    exact ⟨(show Ending.returned (.bool ((s.size : Int) != 128)) = _ by rw [bne, hd]; rfl), rfl⟩

theorem name_all {n : ByteArray} (h1 : 1 ≤ n.size) (h2 : n.size ≤ 8) (h : ∀ j (hj : j < n.size), 33 ≤ n[j].toNat ∧ n[j].toNat ≤ 126) : Fi.isName n = true := by
  unfold Fi.isName
  rw [decide_eq_true h1, decide_eq_true h2, Bool.true_and, Bool.true_and, List.all_eq_true]
  intro b hb
  obtain ⟨j, hj, rfl⟩ := List.getElem_of_mem hb
  have := h j (by simpa using hj)
  have e : n.data.toList[j] = n[j]'(by simpa using hj) := rfl
  rw [e]
  simp [this.1, this.2]
theorem name_stop {n : ByteArray} (j : Nat) (hj : j < n.size) (h : ¬ (33 ≤ n[j].toNat ∧ n[j].toNat ≤ 126)) : Fi.isName n = false := by
  cases hn : Fi.isName n with
  | false => rfl
  | true =>
    unfold Fi.isName at hn
    rw [Bool.and_eq_true, List.all_eq_true] at hn
    have := hn.2 (n[j]) (by
      have : n[j] = n.data.toList[j]'(by simpa using hj) := rfl
      rw [this]; exact List.getElem_mem _)
    simp at this
    exact absurd this h
theorem name_size {n : ByteArray} (h : n.size < 1 ∨ 8 < n.size) : Fi.isName n = false := by
  unfold Fi.isName
  rcases h with h | h
  · rw [decide_eq_false (by omega)]; rfl
  · rw [decide_eq_false (p := n.size ≤ 8) (by omega), Bool.and_false]; rfl

set_option maxHeartbeats 1000000 in
theorem name_any (n : ByteArray) (w : World) (hs : n.size ≤ 9223372036854775807) :
    Calls Try.prog 60 #[.string n] w fun e w' => e = .returned (.bool (Fi.isName n)) ∧ w' = w := by
  by_cases h1 : n.size < 1
  · rw [name_size (.inl h1)]
    go_enter Try.func60, Try.ntmps60
    go_wp2
    go_ret
    exact ⟨rfl, rfl⟩
  · by_cases h2 : 8 < n.size
    · rw [name_size (.inr h2)]
      go_enter Try.func60, Try.ntmps60
      go_wp2
      go_ret
      exact ⟨rfl, rfl⟩
    · have HA : Hid ((∀ j (hj : j < n.size), 33 ≤ n[j].toNat ∧ n[j].toNat ≤ 126) → Fi.isName n = true) := name_all (by omega) (by omega)
      have HN : Hid (∀ j (hj : j < n.size), ¬ (33 ≤ n[j].toNat ∧ n[j].toNat ≤ 126) → Fi.isName n = false) := fun j hj h => name_stop j hj h
      obtain ⟨B, HB⟩ : ∃ B, Hid (Fi.isName n = B) := ⟨_, rfl⟩
      rw [HB.out] at HA HN ⊢
      go_enter Try.func60, Try.ntmps60
      go_wp2
      go_loop [14] (fun i => ∃ k : Nat, k ≤ n.size ∧ i = .int .i64 k ∧ Hid (∀ j (hj : j < n.size), j < k → 33 ≤ n[j].toNat ∧ n[j].toNat ≤ 126)) (fun i => n.size - (intOf i).toNat)
      case atStart => exact ⟨0, Nat.zero_le _, rfl, fun j hj h => by omega⟩
      case round =>
        obtain ⟨k, hk, rfl, HK⟩ := hrel
        by_cases hlt : k < n.size
        · have hb : n[k].toNat < 256 := UInt8.toNat_lt _
          by_cases hl : n[k].toNat < 33
          · have HF : Hid (B = false) := HN.out k hlt (by omega)
            go_wp2
            go_ret
            exact ⟨(show Ending.returned (.bool false) = .returned (.bool B) by rw [HF.out]), rfl⟩
          · by_cases hg : 126 < n[k].toNat
            · have HF : Hid (B = false) := HN.out k hlt (by omega)
              go_wp2
              go_ret
              exact ⟨(show Ending.returned (.bool false) = .returned (.bool B) by rw [HF.out]), rfl⟩
            · have HK2 : Hid (∀ j (hj : j < n.size), j < k + 1 → 33 ≤ n[j].toNat ∧ n[j].toNat ≤ 126) := by
                intro j hj hjk
                by_cases e : j = k
                · subst e; omega
                · exact HK.out j hj (by omega)
              go_wp2
              go_round
              case rel => exact ⟨k + 1, by omega, by go_num, HK2⟩
              case measure => simp [intOf]; omega
        · obtain rfl : k = n.size := by omega
          have HF : Hid (B = true) := HA.out fun j hj => HK.out j hj hj
          go_wp2
          go_ret
          exact ⟨(show Ending.returned (.bool true) = .returned (.bool B) by rw [HF.out]), rfl⟩

theorem sits_new (w : World) (room : Nat) : Sits ((w.alloc (.map #[] 0)).alloc (.cells #[.int .i64 room, .map (some w.heap.size), .int .i64 (-1)] 73)) (w.heap.size + 1) w.heap.size room (-1) [] where
  block := by
    have h := heap_alloc_new (w.alloc (.map #[] 0)) (.cells #[.int .i64 room, .map (some w.heap.size), .int .i64 (-1)] 73)
    rwa [show (w.alloc (.map #[] 0)).heap.size = w.heap.size + 1 by simp] at h
  map := (World.ownsMap_made w Try.prog 9 heldR).alloc _
  row := fun t ht => by simp at ht
  apart := fun s hs => by simp at hs

theorem new_no (room : Int) (w : World) (h : ¬ (1 ≤ room ∧ room ≤ 4096)) :
    Calls Try.prog 10 #[.int .i64 room] w fun e w' => e = .returned (.tuple #[.pointer none, .int .i64 2]) ∧ w' = w := by
  by_cases h1 : room < 1
  · clear h
    go_enter Try.func10, Try.ntmps10
    go_wp2
    go_ret2
    exact ⟨rfl, rfl⟩
  · have h2 : 4096 < room := by omega
    clear h
    go_enter Try.func10, Try.ntmps10
    go_wp2
    go_ret2
    exact ⟨rfl, rfl⟩

theorem new_walk (r : Nat) (w : World) (h1 : 1 ≤ r) (h2 : r ≤ 4096) :
    Calls Try.prog 10 #[.int .i64 r] w fun e w' => e = .returned (.tuple #[.pointer (some ⟨w.heap.size + 1, 0, none⟩), .int .i64 0]) ∧
      w' = (w.alloc (.map #[] 0)).alloc (.cells #[.int .i64 r, .map (some w.heap.size), .int .i64 (-1)] 73) := by
  have hmm := @run_makeMap Try.prog
  go_enter Try.func10, Try.ntmps10
  go_wp2
  go_ret2
  exact ⟨rfl, rfl⟩

theorem new_yes (r : Nat) (w : World) (h1 : 1 ≤ r) (h2 : r ≤ 4096) :
    Calls Try.prog 10 #[.int .i64 r] w fun e w' => ∃ p o, e = .returned (.tuple #[.pointer (some ⟨p, 0, none⟩), .int .i64 0]) ∧ Sys w' p o ⟨r, -1, []⟩ ∧ (∀ i, o i → w.heap.size ≤ i) ∧ Below w.heap.size w w' := by
  refine (new_walk r w h1 h2).mono ?_
  rintro e w' ⟨rfl, rfl⟩
  refine ⟨_, _, rfl, ⟨_, [], sits_new w r, rfl, rfl, Fi.good_new h1 h2⟩, ?_, ((Below.refl _ w).alloc (Nat.le_refl _) _).alloc (by simp) _⟩
  rintro i (rfl | rfl | ⟨t, ht, _⟩)
  · omega
  · omega
  · simp at ht

end Go.Proofs.Ytnlhgcpmmcmknaa
