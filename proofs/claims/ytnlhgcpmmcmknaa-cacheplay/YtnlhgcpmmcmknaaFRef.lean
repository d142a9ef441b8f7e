/- The document's own file system in memory, and the walks of its New, Name, rows, Pages, Used and Names. -/
import Derived.Test.YtnlhgcpmmcmknaaCKeep
import Derived.Deep.AppendLies
namespace Go.Proofs.Ytnlhgcpmmcmknaa
open Go.RowKit Go.Maps

/-- Files as cells: a name, and the slice of its pages. -/
def fcells (T : Tab) : List Value := T.flatMap fun t => [.string t.1, t.2.1]
theorem fcells_length (T : Tab) : (fcells T).length = T.length * 2 := by
  unfold fcells
  induction T with
  | nil => rfl
  | cons t T ih => rw [List.flatMap_cons, List.length_append, ih]; simp; omega
theorem fcells_at (T : Tab) (i : Nat) (h : i < T.length) : (fcells T)[i * 2]? = some (.string (T[i]).1) ∧ (fcells T)[i * 2 + 1]? = some (T[i]).2.1 := by
  induction T generalizing i with
  | nil => simp at h
  | cons t T ih =>
    have e : fcells (t :: T) = .string t.1 :: t.2.1 :: fcells T := by simp [fcells]
    rw [e]
    cases i with
    | zero => exact ⟨rfl, rfl⟩
    | succ i =>
      have := ih i (by simpa using h)
      rw [show (i + 1) * 2 = i * 2 + 1 + 1 by omega]
      simpa using this
theorem fcells_snoc (T : Tab) (t : ByteArray × (Value × List ByteArray)) : fcells T ++ [.string t.1, t.2.1] = fcells (T ++ [t]) := by simp [fcells]

/-- The document's file system at r; all its blocks are of a kind. -/
structure RefAt (W : World) (ok : Nat → Prop) (r : Nat) (room : Nat) (ahead : Int) (vL : Value) (T : Tab) : Prop where
  block : W.heap[r]? = some (.cells #[.int .i64 room, .int .i64 ahead, vL] 76 (0, 0))
  row : W.ownsRow 0 90 2 vL T.length (fcells T)
  rowOk : ∀ g, vL.ownBlock = some g → ok g
  pages : ∀ t ∈ T, StrsIn W ok t.2.1 t.2.2
  self : ok r

def Ref (W : World) (ok : Nat → Prop) (r : Nat) (st : Fi.St) : Prop := ∃ vL T, RefAt W ok r st.room st.ahead vL T ∧ filesOf T = st.fs ∧ Fi.Good st

section
variable {W W' : World} {ok : Nat → Prop} {r room : Nat} {ahead : Int} {vL : Value} {T : Tab}
theorem RefAt.cell (h : RefAt W ok r room ahead vL T) (q : Nat) : W.cell? ⟨r, q, none⟩ = #[Value.int .i64 room, .int .i64 ahead, vL][q]? := by
  unfold World.cell?
  simp only []
  rw [h.block]
  rfl
theorem RefAt.frozen (h : RefAt W ok r room ahead vL T) (q : Nat) : W.frozen? ⟨r, q, none⟩ = false := by simp [World.frozen?, h.block]
theorem RefAt.lt (h : RefAt W ok r room ahead vL T) : r < W.heap.size := (Array.getElem?_eq_some_iff.1 h.block).1
theorem RefAt.slice (h : RefAt W ok r room ahead vL T) : ∃ a cap, vL = .slice a T.length cap ∧ (T = [] ∨ ∃ g, a = some ⟨g, 0, none⟩ ∧ g ≠ r ∧ ∀ i (hi : i < T.length), W.cell? ⟨g, i * 2, none⟩ = some (.string (T[i]).1) ∧ W.cell? ⟨g, i * 2 + 1, none⟩ = some (T[i]).2.1) := by
  have hcell := fun g hg => h.row.cells (g := g) hg
  rcases h.row.2 with ⟨e, h0⟩ | ⟨g, cap, cur, e, _, hg, _⟩
  · have : T = [] := List.length_eq_zero_iff.1 h0
    subst this
    exact ⟨none, 0, e, .inl rfl⟩
  · refine ⟨_, cap, e, .inr ⟨g, rfl, ?_, fun i hi => ?_⟩⟩
    · rintro rfl
      rw [h.block] at hg
      simp at hg
    · obtain ⟨h1, h2⟩ := fcells_at T i hi
      have c1 := hcell g (by rw [e]; rfl) _ _ h1
      have c2 := hcell g (by rw [e]; rfl) _ _ h2
      rw [Addr.add_lit, Nat.zero_add] at c1 c2
      exact ⟨c1, c2⟩
theorem RefAt.later (h : RefAt W ok r room ahead vL T) (hb : Below W.heap.size W W') : RefAt W' ok r room ahead vL T :=
  ⟨(hb.block r h.lt).trans h.block, row_after h.row hb, h.rowOk, fun t ht => (h.pages t ht).later hb, h.self⟩
theorem RefAt.turn {o o' : Nat → Prop} (h : RefAt W (fun b => ¬ o b) r room ahead vL T) (ht : Turn o W o' W') : RefAt W' (fun b => ¬ o' b) r room ahead vL T := by
  have hn : ∀ g, g < W.heap.size → ¬ o g → ¬ o' g := fun g hg h1 h2 => by
    rcases ht.grows g h2 with h3 | h3
    · exact h1 h3
    · omega
  exact ⟨(ht.block r h.lt h.self).trans h.block, ownsRow_blocks h.row fun g hg => ht.block g (h.row.lt g hg).2 (h.rowOk g hg), fun g hg => hn g (h.row.lt g hg).2 (h.rowOk g hg), fun t htm => (h.pages t htm).turn ht, hn r h.lt h.self⟩
theorem RefAt.imp {ok' : Nat → Prop} (h : RefAt W ok r room ahead vL T) (hk : ∀ b, b < W.heap.size → ok b → ok' b) : RefAt W ok' r room ahead vL T :=
  ⟨h.block, h.row, fun g hg => hk g (h.row.lt g hg).2 (h.rowOk g hg), fun t ht => (h.pages t ht).imp hk, hk r h.lt h.self⟩
/-- No page lies in the file system's own block. -/
theorem RefAt.pageOff (h : RefAt W ok r room ahead vL T) {v : Value} {l : List ByteArray} (hs : StrsIn W ok v l) : StrsIn W (fun b => ok b ∧ b ≠ r) v l := by
  obtain ⟨a, cap, rfl, hc, hs⟩ := hs
  refine ⟨a, cap, rfl, hc, ?_⟩
  rcases hs with hs | ⟨b, off, rfl, hob, hs⟩
  · exact .inl hs
  · by_cases h0 : l = []
    · exact .inl h0
    · refine .inr ⟨b, off, rfl, ⟨hob, ?_⟩, hs⟩
      rintro rfl
      have c0 := hs 0 (List.length_pos_iff.2 h0)
      rw [h.cell] at c0
      have hq : off + 0 = 0 ∨ off + 0 = 1 ∨ off + 0 = 2 ∨ 3 ≤ off + 0 := by omega
      rcases hq with e | e | e | e
      · rw [e] at c0; cases c0
      · rw [e] at c0; cases c0
      · rw [e] at c0
        obtain ⟨a', cap', e', _⟩ := h.slice
        rw [e'] at c0; cases c0
      · rw [Array.getElem?_eq_none (by simpa using e)] at c0; cases c0
end

theorem Ref.later {W W' : World} {ok : Nat → Prop} {r : Nat} {st : Fi.St} (h : Ref W ok r st) (hb : Below W.heap.size W W') : Ref W' ok r st := by
  obtain ⟨vL, T, h1, h2⟩ := h
  exact ⟨vL, T, h1.later hb, h2⟩
theorem Ref.turn {W W' : World} {o o' : Nat → Prop} {r : Nat} {st : Fi.St} (h : Ref W (fun b => ¬ o b) r st) (ht : Turn o W o' W') : Ref W' (fun b => ¬ o' b) r st := by
  obtain ⟨vL, T, h1, h2⟩ := h
  exact ⟨vL, T, h1.turn ht, h2⟩
theorem Ref.good {W : World} {ok : Nat → Prop} {r : Nat} {st : Fi.St} (h : Ref W ok r st) : Fi.Good st := by obtain ⟨_, _, _, _, g⟩ := h; exact g
theorem Ref.lt {W : World} {ok : Nat → Prop} {r : Nat} {st : Fi.St} (h : Ref W ok r st) : r < W.heap.size := by obtain ⟨_, _, h1, _⟩ := h; exact h1.lt

theorem rnew_walk (k : Nat) (w : World) (h1 : 1 ≤ k) (h2 : k ≤ 4096) :
    Calls Try.prog 11 #[.int .i64 k] w fun e w' => e = .returned (.tuple #[.pointer (some ⟨w.heap.size, 0, none⟩), .int .i64 0]) ∧ w' = w.alloc (.cells #[.int .i64 k, .int .i64 (-1), .slice none 0 0] 76) := by
  go_enter Try.func11, Try.ntmps11
  go_wp2
  go_ret2
  exact ⟨rfl, rfl⟩
theorem rnew_yes (k : Nat) (w : World) (h1 : 1 ≤ k) (h2 : k ≤ 4096) :
    Calls Try.prog 11 #[.int .i64 k] w fun e w' => e = .returned (.tuple #[.pointer (some ⟨w.heap.size, 0, none⟩), .int .i64 0]) ∧ Ref w' (fun b => b = w.heap.size) w.heap.size ⟨k, -1, []⟩ ∧ Below w.heap.size w w' := by
  refine (rnew_walk k w h1 h2).mono ?_
  rintro e w' ⟨rfl, rfl⟩
  refine ⟨rfl, ⟨.slice none 0 0, [], ⟨heap_alloc_new w _, World.ownsRow_nil _ _ _ _, (fun g hg => by cases hg), (fun t ht => by simp at ht), rfl⟩, rfl, Fi.good_new h1 h2⟩, (Below.refl _ w).alloc (Nat.le_refl _) _⟩
theorem rnew_no (k : Int) (w : World) (h : ¬ (1 ≤ k ∧ k ≤ 4096)) :
    Calls Try.prog 11 #[.int .i64 k] w fun e w' => e = .returned (.tuple #[.pointer none, .int .i64 2]) ∧ w' = w := by
  by_cases h1 : k < 1
  · clear h
    go_enter Try.func11, Try.ntmps11
    go_wp2
    go_ret2
    exact ⟨rfl, rfl⟩
  · have h2 : 4096 < k := by omega
    clear h
    go_enter Try.func11, Try.ntmps11
    go_wp2
    go_ret2
    exact ⟨rfl, rfl⟩

set_option maxHeartbeats 1000000 in
theorem rname_any (n : ByteArray) (w : World) (hs : n.size ≤ 9223372036854775807) :
    Calls Try.prog 71 #[.string n] w fun e w' => e = .returned (.bool (Fi.isName n)) ∧ w' = w := by
  have HA : Hid ((∀ j (hj : j < n.size), 33 ≤ n[j].toNat ∧ n[j].toNat ≤ 126) → Fi.isName n = (decide ((1 : Int) ≤ n.size) && decide ((n.size : Int) ≤ 8))) := by
    intro h
    by_cases h1 : 1 ≤ n.size
    · by_cases h2 : n.size ≤ 8
      · rw [name_all h1 h2 h, decide_eq_true (by omega), decide_eq_true (by omega)]; rfl
      · rw [name_size (.inr (by omega)), decide_eq_false (p := (n.size : Int) ≤ 8) (by omega), Bool.and_false]
    · rw [name_size (.inl (by omega)), decide_eq_false (p := (1 : Int) ≤ n.size) (by omega)]; rfl
  have HN : Hid (∀ j (hj : j < n.size), ¬ (33 ≤ n[j].toNat ∧ n[j].toNat ≤ 126) → Fi.isName n = false) := fun j hj h => name_stop j hj h
  obtain ⟨B, HB⟩ : ∃ B, Hid (Fi.isName n = B) := ⟨_, rfl⟩
  rw [HB.out] at HA HN ⊢
  go_enter Try.func71, Try.ntmps71
  go_wp2
  go_loop [3] (fun i => ∃ k : Nat, k ≤ n.size ∧ i = .int .i64 k ∧ Hid (∀ j (hj : j < n.size), j < k → 33 ≤ n[j].toNat ∧ n[j].toNat ≤ 126)) (fun i => n.size - (intOf i).toNat)
  case atStart => exact ⟨0, Nat.zero_le _, rfl, fun j hj h => by omega⟩
  case round =>
    obtain ⟨k, hk, rfl, HK⟩ := hrel
    by_cases hlt : k < n.size
    · have hb : n[k].toNat < 256 := UInt8.toNat_lt _
      by_cases hl : n[k].toNat < 33
      · have HF : Hid (B = false) := HN.out k hlt (by omega)
        go_wp2
        go_ret
        exact ⟨(show Ending.returned (.bool false) = .returned (.bool B) by rw [HF.out]), rfl⟩
      · by_cases hg : 126 < n[k].toNat
        · have HF : Hid (B = false) := HN.out k hlt (by omega)
          go_wp2
          go_ret
          exact ⟨(show Ending.returned (.bool false) = .returned (.bool B) by rw [HF.out]), rfl⟩
        · have HK2 : Hid (∀ j (hj : j < n.size), j < k + 1 → 33 ≤ n[j].toNat ∧ n[j].toNat ≤ 126) := by
            intro j hj hjk
            by_cases e : j = k
            · subst e; omega
            · exact HK.out j hj (by omega)
          go_wp2
          go_round
          case rel => exact ⟨k + 1, by omega, by go_num, HK2⟩
          case measure => simp [intOf]; omega
    · obtain rfl : k = n.size := by omega
      have HF : Hid (B = (decide ((1 : Int) ≤ n.size) && decide ((n.size : Int) ≤ 8))) := HA.out fun j hj => HK.out j hj hj
      by_cases h1 : n.size < 1
      · have HF2 : Hid (B = false) := HF.out.trans (by rw [decide_eq_false (p := (1 : Int) ≤ n.size) (by omega)]; rfl)
        go_wp2
        go_ret
        exact ⟨(show Ending.returned (.bool false) = .returned (.bool B) by rw [HF2.out]), rfl⟩
      · have HF2 : Hid (B = decide ((n.size : Int) ≤ 8)) := HF.out.trans (by rw [decide_eq_true (p := (1 : Int) ≤ n.size) (by omega)]; rfl)
        go_wp2
        go_ret
        exact ⟨(show Ending.returned (.bool (decide ((n.size : Int) ≤ 8))) = .returned (.bool B) by rw [HF2.out]), rfl⟩

theorem find_step {T : Tab} {n : ByteArray} {i : Nat} (h : ∀ j (hj : j < T.length), j < i → (T[j]).1 ≠ n) (hi : i < T.length) (hn : (T[i]).1 = n) : Fi.find T n = some (T[i]).2 := by
  induction T generalizing i with
  | nil => simp at hi
  | cons t T ih =>
    cases i with
    | zero =>
      have hn : t.1 = n := hn
      rw [Fi.find, if_pos hn]; rfl
    | succ i =>
      have h0 := h 0 (by simp) (by omega)
      simp at h0
      rw [Fi.find, if_neg h0]
      simp at hn hi
      exact ih (fun j hj hji => by have := h (j + 1) (by simpa using hj) (by omega); simpa using this) hi hn

set_option maxRecDepth 100000 in
set_option maxHeartbeats 1000000 in
theorem rrows_any {ok : Nat → Prop} {r : Nat} {st : Fi.St} (n : ByteArray) (w : World) (hs : Ref w ok r st) :
    Calls Try.prog 74 #[.pointer (some ⟨r, 0, none⟩), .string n] w fun e w' => ∃ v, e = .returned v ∧ StrsIn w ok v (Fi.rows st.fs n) ∧ w' = w := by
  obtain ⟨vL, T, h, hf, hg⟩ := hs
  have hc := h.cell 2
  have HP : Hid _ := h.pages
  have hcnt : T.length ≤ 4096 := by
    have := hg.count
    have h2 := hg.room2
    rw [← hf] at this
    unfold filesOf at this
    rw [Fi.mapv_length] at this
    omega
  have HNO : Hid ((∀ j (hj : j < T.length), (T[j]).1 ≠ n) → Fi.rows st.fs n = []) := fun hno => by
    rw [← hf]
    unfold Fi.rows
    rw [find_files, Fi.find_of_none fun p hp => by obtain ⟨j, hj, rfl⟩ := List.getElem_of_mem hp; exact hno j hj]; rfl
  have HYE : Hid (∀ i (hi : i < T.length), (∀ j (hj : j < T.length), j < i → (T[j]).1 ≠ n) → (T[i]).1 = n → Fi.rows st.fs n = (T[i]).2.2) := fun i hi h1 h2 => by
    rw [← hf]
    unfold Fi.rows
    rw [find_files, find_step h1 hi h2]; rfl
  obtain ⟨a, cap, rfl, hcs⟩ := h.slice
  generalize Fi.rows st.fs n = R at *
  clear h hf hg
  replace hc : w.cell? ⟨r, 2, none⟩ = some (.slice a T.length cap) := hc
  rcases hcs with rfl | ⟨g, rfl, _, hcs⟩
  · have HR : Hid (R = []) := HNO.out fun j hj => by simp at hj
    clear HNO HYE
    go_enter Try.func74, Try.ntmps74
    go_wp2
    refine wp_loop_rounds 1 ?_
    rw [rounds_succ]
    go_wp2
    go_ret
    exact ⟨_, rfl, by rw [HR.out]; exact ⟨none, 0, rfl, Nat.le_refl _, .inl rfl⟩, rfl⟩
  · have HCS : Hid _ := hcs
    clear hcs
    go_enter Try.func74, Try.ntmps74
    go_wp2
    go_loop [5] (fun x => ∃ k : Nat, k ≤ T.length ∧ x = .int .i64 k ∧ Hid (∀ j (hj : j < T.length), j < k → (T[j]).1 ≠ n)) (fun x => T.length - (intOf x).toNat)
    case atStart => exact ⟨0, Nat.zero_le _, rfl, fun j hj h => by omega⟩
    case round =>
      obtain ⟨k, hk, rfl, HK⟩ := hrel
      by_cases hlt : k < T.length
      · have hkT : k < T.length := hlt
        obtain ⟨c0, c1⟩ := HCS.out k hlt
        have HY1 : Hid ((T[k]).1 = n → R = (T[k]).2.2) := fun e => HYE.out k hlt HK.out e
        have HP1 : Hid (StrsIn w ok (T[k]).2.1 (T[k]).2.2) := HP.out _ (List.getElem_mem hkT)
        have HK1 : Hid ((T[k]).1 ≠ n → ∀ j (hj : j < T.length), j < k + 1 → (T[j]).1 ≠ n) := fun h1 j hj hjk => by
          by_cases e : j = k
          · subst e; exact h1
          · exact HK.out j hj (by omega)
        generalize T[k] = t at *
        by_cases hn : t.1 = n
        · have HR : Hid (R = t.2.2) := HY1.out hn
          rw [hn] at c0
          clear HK1 HY1 hn
          generalize t.2.1 = tv at *
          go_wp2
          go_ret
          exact ⟨tv, rfl, by rw [HR.out]; exact HP1.out, rfl⟩
        · have hne := text_ne hn
          have HK2 : Hid (∀ j (hj : j < T.length), j < k + 1 → (T[j]).1 ≠ n) := HK1.out hn
          clear HK1 HY1 hn
          generalize t.1 = tn at *
          go_wp2
          go_round
          case rel => exact ⟨k + 1, by omega, by go_num, HK2⟩
          case measure => simp [intOf]; omega
      · have HR : Hid (R = []) := HNO.out fun j hj => HK.out j hj (by omega)
        go_wp2
        go_ret
        exact ⟨_, rfl, by rw [HR.out]; exact ⟨none, 0, rfl, Nat.le_refl _, .inl rfl⟩, rfl⟩

set_option maxRecDepth 100000 in
theorem rpages_any {ok : Nat → Prop} {r : Nat} {st : Fi.St} (n : ByteArray) (w : World) (hs : Ref w ok r st) :
    Calls Try.prog 72 #[.pointer (some ⟨r, 0, none⟩), .string n] w fun e w' => e = .returned (.int .i64 (Fi.rows st.fs n).length) ∧ w' = w := by
  have HR : Hid (Calls _ _ _ _ _) := rrows_any n w hs
  clear hs
  generalize Fi.rows st.fs n = R at *
  go_enter Try.func72, Try.ntmps72
  go_wp2_with fail
  refine Calls.mono HR.out ?_
  rintro e w1 ⟨v, rfl, hv, rfl⟩
  obtain ⟨a, cap, rfl, _, _⟩ := hv
  go_wp2
  go_ret
  exact ⟨rfl, rfl⟩


theorem used_snoc (T : Tab) (k : Nat) (h : k < T.length) : Fi.used (filesOf (T.take (k + 1))) = Fi.used (filesOf (T.take k)) + (T[k]).2.2.length := by
  have e : T.take (k + 1) = T.take k ++ [T[k]] := by rw [List.take_add_one, List.getElem?_eq_getElem h]; rfl
  rw [e]
  unfold filesOf Fi.mapv Fi.used
  simp only [List.map_append, List.sum_append, List.map_cons, List.map_nil, List.sum_cons, List.sum_nil, Nat.add_zero]
theorem used_upto (T : Tab) (k : Nat) : Fi.used (filesOf (T.take k)) ≤ Fi.used (filesOf T) := by
  have h := List.take_append_drop k T
  have : Fi.used (filesOf T) = Fi.used (filesOf (T.take k)) + Fi.used (filesOf (T.drop k)) := by
    conv => lhs; rw [← h]
    unfold filesOf Fi.mapv Fi.used
    simp only [List.map_append, List.sum_append]
  omega

set_option maxRecDepth 100000 in
set_option maxHeartbeats 1000000 in
theorem rused_any {ok : Nat → Prop} {r : Nat} {st : Fi.St} (w : World) (hs : Ref w ok r st) :
    Calls Try.prog 22 #[.pointer (some ⟨r, 0, none⟩)] w fun e w' => e = .returned (.int .i64 (Fi.used st.fs)) ∧ w' = w := by
  obtain ⟨vL, T, h, hf, hg⟩ := hs
  have hc := h.cell 2
  have HP : Hid (∀ i (hi : i < T.length), ∃ a cap, (T[i]).2.1 = .slice a (T[i]).2.2.length cap) := fun i hi => by obtain ⟨a, cap, e, _⟩ := h.pages _ (List.getElem_mem hi); exact ⟨a, cap, e⟩
  have hu : Fi.used st.fs ≤ 4096 := by have := hg.used; have := hg.room2; omega
  have hcnt : T.length ≤ 4096 := by
    have := hg.count
    have h2 := hg.room2
    rw [← hf] at this
    unfold filesOf at this
    rw [Fi.mapv_length] at this
    omega
  have HU1 : Hid _ := used_snoc T
  have HU2 : Hid (∀ k, Fi.used (filesOf (T.take k)) ≤ 4096) := fun k => by have := used_upto T k; rw [hf] at this; omega
  have HU3 : Hid (Fi.used (filesOf (T.take T.length)) = Fi.used st.fs) := by show _ = _; rw [List.take_length, hf]
  have HU0 : Hid (Fi.used (filesOf (T.take 0)) = 0) := rfl
  obtain ⟨US, HUS⟩ : ∃ US : Nat → Nat, Hid (∀ k, Fi.used (filesOf (T.take k)) = US k) := ⟨_, fun _ => rfl⟩
  simp only [HUS.out] at HU0 HU1 HU2 HU3
  obtain ⟨a, cap, rfl, hcs⟩ := h.slice
  generalize Fi.used st.fs = U at *
  clear h hf hg HUS
  replace hc : w.cell? ⟨r, 2, none⟩ = some (.slice a T.length cap) := hc
  have HCS : Hid _ := hcs
  clear hcs
  go_enter Try.func22, Try.ntmps22
  go_wp2
  go_loop [3, 4] (fun y x => ∃ k : Nat, k ≤ T.length ∧ x = .int .i64 k ∧ y = .int .i64 (US k)) (fun _ x => T.length - (intOf x).toNat)
  case atStart => exact ⟨0, Nat.zero_le _, rfl, by rw [HU0.out]; rfl⟩
  case round =>
    obtain ⟨k, hk, rfl, rfl⟩ := hrel
    have hu1 := HU2.out k
    by_cases hlt : k < T.length
    · obtain ⟨g, rfl, hg⟩ : ∃ g, a = some ⟨g, 0, none⟩ ∧ w.cell? ⟨g, k * 2 + 1, none⟩ = some (T[k]).2.1 := by
        rcases HCS.out with h | ⟨g, h1, _, h2⟩
        · rw [h] at hlt; simp at hlt
        · exact ⟨g, h1, (h2 k hlt).2⟩
      have HU4 : Hid _ := HU1.out k hlt
      have hu2 := HU2.out (k + 1)
      obtain ⟨ta, tc, ht⟩ := HP.out k hlt
      rw [ht] at hg
      clear ht
      generalize (T[k]).2.2.length = tl at *
      have hu3 : US k + tl ≤ 4096 := by rw [← HU4.out]; exact hu2
      go_wp2
      go_round
      case rel => exact ⟨k + 1, by omega, by go_num, by rw [HU4.out]; go_num⟩
      case measure => simp [intOf]; omega
    · obtain rfl : k = T.length := by omega
      rw [HU3.out] at hu1 ⊢
      go_wp2
      go_ret
      exact ⟨rfl, rfl⟩

theorem names_snoc (T : Tab) (k : Nat) (h : k < T.length) : Fi.names (filesOf (T.take (k + 1))) = Fi.names (filesOf (T.take k)) ++ [(T[k]).1] := by
  have e : T.take (k + 1) = T.take k ++ [T[k]] := by rw [List.take_add_one, List.getElem?_eq_getElem h]; rfl
  rw [e]
  unfold filesOf Fi.mapv Fi.names
  simp only [List.map_append, List.map_cons, List.map_nil]
theorem names_len (T : Tab) (k : Nat) : (Fi.names (filesOf (T.take k))).length ≤ T.length := by
  unfold filesOf Fi.mapv Fi.names
  simp
  omega


end Go.Proofs.Ytnlhgcpmmcmknaa
