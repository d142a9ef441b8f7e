/- Rows of bytes out of a string, and the walk of files' Flip. -/
import Derived.Test.YtnlhgcpmmcmknaaFPut
namespace Go.Proofs.Ytnlhgcpmmcmknaa
open Go.RowKit Go.Maps

/-- The block B holds the bytes l, and they may be written. -/
structure Lies (W : World) (B : Nat) (l : List UInt8) : Prop where
  cell : ∀ k (h : k < l.length), W.cell? ⟨B, k, none⟩ = some (.int .u8 (l[k].toNat : Int))
  free : ∀ k, k < l.length → W.frozen? ⟨B, k, none⟩ = false

theorem Lies.store {W : World} {B : Nat} {l : List UInt8} (h : Lies W B l) (k : Nat) (b : UInt8) (hk : k < l.length) : Lies (W.setCell ⟨B, k, none⟩ (.int .u8 (b.toNat : Int))) B (l.set k b) := by
  constructor
  · intro i hi
    rw [List.length_set] at hi
    by_cases e : k = i
    · subst e
      rw [World.cell?_setCell_same _ _ _ (h.cell k hk)]
      simp
    · have hne : (⟨B, k, none⟩ : Addr) ≠ ⟨B, i, none⟩ := fun he => e (congrArg Addr.off he)
      rw [World.cell?_setCell_other _ _ _ _ hne, h.cell i hi]
      simp [e]
  · intro i hi
    rw [List.length_set] at hi
    rw [World.frozen?_setCell]
    exact h.free i hi

theorem lies_new (w : World) (s : ByteArray) (cap : Nat) : Lies (w.drew.alloc (.cells (bytesRow s cap) 5 ((bytesRow s cap).size, (bytesRow s cap).size + 1))) w.heap.size s.data.toList := by
  constructor
  · intro k hk
    have hk' : k < s.data.size := by simpa using hk
    have := World.cell?_alloc_mark w.drew (bytesRow s cap) 5 ((bytesRow s cap).size, (bytesRow s cap).size + 1) k
    rw [bytesRow_at s cap k hk'] at this
    exact this
  · intro k hk
    have hk' : k < s.data.size := by simpa using hk
    have := World.frozen?_alloc_mark w.drew (bytesRow s cap) 5 (bytesRow s cap).size ((bytesRow s cap).size + 1) k
    have hz : k < (bytesRow s cap).size := by
      unfold bytesRow
      rw [Array.size_append, Array.size_map]; omega
    rw [show decide ((bytesRow s cap).size ≤ k) = false by simp; omega] at this
    exact this

/-- []byte(s): a row of its own. -/
theorem bytes_new (w : World) (s : ByteArray) : ∃ cap W, (convert 9 68 (.string s)).run Try.prog w = .ok (.slice (some ⟨w.heap.size, 0, none⟩) s.size cap) W ∧ Lies W w.heap.size s.data.toList ∧ Below w.heap.size w W :=
  ⟨_, _, run_bytes_of_string w 9 68 5 s Try.underlying9 Try.underlying68 Try.underlying5, lies_new w s _, (Below.refl _ w).drew.alloc (Nat.le_refl _) _⟩

theorem Lies.drew {W : World} {B : Nat} {l : List UInt8} (h : Lies W B l) : Lies W.drew B l := ⟨h.cell, h.free⟩
theorem Lies.later {W W' : World} {B : Nat} {l : List UInt8} (h : Lies W B l) (hb : Below W.heap.size W W') : Lies W' B l :=
  ⟨fun k hk => cell_after hb (h.cell k hk), fun k hk => by rw [hb.frozen (World.block_lt_of_cell? _ _ (h.cell k hk))]; exact h.free k hk⟩

theorem conv_lies {W : World} {B : Nat} {l : List UInt8} (h : Lies W B l) (cap : Nat) {n : Nat} (hl : l.length = n) : (convert 68 9 (.slice (some ⟨B, 0, none⟩) n cap)).run Try.prog W = .ok (.string ⟨l.toArray⟩) W := by
  subst hl
  refine run_convert_bytes_back W 68 9 5 ⟨B, 0, none⟩ cap l Try.underlying68 Try.underlying5 Try.underlying9 fun j hj => ?_
  rw [Addr.add_lit, Nat.zero_add]
  exact h.cell j hj

theorem turn_list (s : ByteArray) (k : Nat) (x : UInt8) (h : k < s.size) : (⟨(s.data.toList.set k (s.data.toList[k]'(by simpa using h) ^^^ x)).toArray⟩ : ByteArray) = Fi.turn s k x := by
  unfold Fi.turn
  rw [List.getD_eq_getElem?_getD, List.getElem?_eq_getElem (by simpa using h)]
  rfl

theorem flip_none {st : Fi.St} {n : ByteArray} {i k : Int} {x : UInt8} (h : Fi.has st n i = false) : Fi.flip st n i k x = (4, st) := by rw [Fi.flip, if_pos h]
theorem flip_arg {st : Fi.St} {n : ByteArray} {i k : Int} {x : UInt8} (h : Fi.has st n i = true) (hk : k < 0 ∨ 128 ≤ k) : Fi.flip st n i k x = (2, st) := by rw [Fi.flip, if_neg (by simp [h]), if_pos hk]
theorem flip_ok {st : Fi.St} {n : ByteArray} {i k : Nat} {x : UInt8} (h : Fi.has st n i = true) (hk : k < 128) : Fi.flip st n i k x = (0, { st with fs := Fi.put st.fs n ((Fi.rows st.fs n).set i (Fi.turn (Fi.page st n i) k x)) }) := by
  rw [Fi.flip, if_neg (by simp [h]), if_neg (by omega)]; rfl

set_option maxRecDepth 100000 in
set_option maxHeartbeats 4000000 in
theorem flip_any {p : Nat} {o : Nat → Prop} {st : Fi.St} (n : ByteArray) (i k : Int) (x : UInt8) (w : World) (hs : Sys w p o st) (hn : n.size ≤ maxLen) :
    Calls Try.prog 37 #[.pointer (some ⟨p, 0, none⟩), .string n, .int .i64 i, .int .i64 k, .int .u8 x.toNat] w fun e w' => ∃ o', e = .returned (.int .i64 (Fi.flip st n i k x).1) ∧ Sys w' p o' (Fi.flip st n i k x).2 ∧ Turn o w o' w' := by
  have HH : Hid (Calls _ _ _ _ _) := has_any n i w hs hn
  have HS : Hid (Sys _ _ _ _) := hs
  obtain ⟨mb, T, h, hf, rfl, hg⟩ := hs
  have HI : Hid (Calls _ _ _ _ _) := isNone_sits w h
  cases hb : Fi.has st n i with
  | false =>
    rw [flip_none hb]
    rw [hb] at HH
    clear h hf
    generalize (x.toNat : Int) = X at *
    go_enter Try.func37, Try.ntmps37
    go_wp2_with fail
    refine Calls.mono HI.out ?_
    rintro e w1 ⟨rfl, rfl⟩
    go_wp2_with fail
    refine Calls.mono HH.out ?_
    rintro e w1 ⟨rfl, rfl⟩
    go_wp2
    go_ret
    exact ⟨_, rfl, HS.out, Turn.below (Below.refl _ _)⟩
  | true =>
    rw [hb] at HH
    by_cases hk : k < 0 ∨ 128 ≤ k
    · rw [flip_arg hb hk]
      clear h hf
      generalize (x.toNat : Int) = X at *
      go_enter Try.func37, Try.ntmps37
      go_wp2_with fail
      refine Calls.mono HI.out ?_
      rintro e w1 ⟨rfl, rfl⟩
      go_wp2_with fail
      refine Calls.mono HH.out ?_
      rintro e w1 ⟨rfl, rfl⟩
      rcases hk with hk | hk
      all_goals
        go_wp2
        go_ret
        exact ⟨_, rfl, HS.out, Turn.below (Below.refl _ _)⟩
    · obtain ⟨i0, i1⟩ := Fi.has_iff.1 hb
      obtain ⟨j, rfl⟩ : ∃ j : Nat, i = j := ⟨i.toNat, by omega⟩
      obtain ⟨m, rfl⟩ : ∃ m : Nat, k = m := ⟨k.toNat, by omega⟩
      have hm : m < 128 := by omega
      clear hk
      rw [flip_ok hb hm]
      obtain ⟨a, cap, hh, hr⟩ := h.slice n
      rw [hf] at hh hr
      have hj : j < (Fi.rows st.fs n).length := by omega
      obtain ⟨g, rfl, hrow, hfd⟩ : ∃ g, a = some ⟨g, 0, none⟩ ∧ w.ownsRow 0 9 1 (.slice (some ⟨g, 0, none⟩) (Fi.rows st.fs n).length cap) (Fi.rows st.fs n).length (scells (Fi.rows st.fs n)) ∧ Fi.find T n = some (.slice (some ⟨g, 0, none⟩) (Fi.rows st.fs n).length cap, Fi.rows st.fs n) := by
        rcases hr with hr | hr
        · rw [hr] at hj; simp at hj
        · exact hr
      have hcell : w.cell? ⟨g, j, none⟩ = some (.string (Fi.page st n j)) := by
        have := hrow.cellAt j (by omega)
        rw [scells_get _ j hj] at this
        simpa [Fi.page] using this
      have hpm : Fi.page st n j ∈ Fi.rows st.fs n := by
        unfold Fi.page
        rw [Int.toNat_natCast, List.getD_eq_getElem?_getD, List.getElem?_eq_getElem hj]
        exact List.getElem_mem hj
      obtain ⟨hnm, hps⟩ : Fi.isName n = true ∧ ∀ s ∈ Fi.rows st.fs n, s.size = 128 := by
        rcases hg.rows_each n with h3 | ⟨h3, _, h4⟩
        · rw [h3] at hj; simp at hj
        · exact ⟨h3, h4⟩
      have hsz := hps _ hpm
      have HG : Hid (Fi.Good { st with fs := Fi.put st.fs n ((Fi.rows st.fs n).set j (Fi.turn (Fi.page st n j) m x)) }) := by
        refine Fi.good_put hg hnm (fun e => ?_) (fun t ht => ?_) (by rw [List.length_set]; have := hg.used; omega)
        · have := congrArg List.length e
          rw [List.length_set] at this
          simp at this
          rw [this] at hj; simp at hj
        · rcases List.mem_or_eq_of_mem_set ht with h2 | rfl
          · exact hps t h2
          · rw [Fi.turn_size]; exact hsz
      have HT : Hid (Fi.Sorted T) := sorted_tab hf hg
      have hl := h.look hn
      rw [hh] at hl
      have hc := h.cell1
      -- the bytes, one of them turned over
      obtain ⟨cap2, W, hcv, hli, hbW⟩ := bytes_new w (Fi.page st n j)
      have hml : m < (Fi.page st n j).data.toList.length := by rw [size_list, hsz]; exact hm
      have c1 := hli.cell m hml
      have f1 := hli.free m hml
      have hx : bits .xor .u8 ((Fi.page st n j).data.toList[m].toNat : Int) (x.toNat : Int) = (((Fi.page st n j).data.toList[m] ^^^ x).toNat : Int) := by
        rw [UInt8.toNat_xor]
        exact u8_xor_nat _ _ (UInt8.toNat_lt _) (UInt8.toNat_lt _)
      have hst := hli.store m ((Fi.page st n j).data.toList[m] ^^^ x) hml
      have hbW2 : Below w.heap.size w (W.setCell ⟨w.heap.size, m, none⟩ (.int .u8 (((Fi.page st n j).data.toList[m] ^^^ x).toNat : Int))) := hbW.setCell (p := ⟨w.heap.size, m, none⟩) (Nat.le_refl _) _
      have hcv2 := conv_lies hst.drew cap2 (n := 128) (by rw [List.length_set, size_list, hsz])
      have ht := turn_list (Fi.page st n j) m x (by omega)
      rw [ht] at hcv2
      rw [hsz] at hcv
      generalize (((Fi.page st n j).data.toList[m] ^^^ x).toNat : Int) = y at hx hst hbW2 hcv2
      generalize ((Fi.page st n j).data.toList[m].toNat : Int) = z at hx c1
      generalize (x.toNat : Int) = X at hx ⊢
      obtain ⟨W2, HW2⟩ : ∃ W2, W.setCell ⟨w.heap.size, m, none⟩ (.int .u8 y) = W2 := ⟨_, rfl⟩
      rw [HW2] at hbW2 hcv2
      have hS2 := h.later hbW2.drew
      have hc2 : W2.cell? ⟨p, 1, none⟩ = some (.map (some mb)) := hS2.cell1
      have hl2 := hS2.look hn
      rw [hh] at hl2
      have hrow2 := row_after hrow hbW2
      have c2 := hrow2.cellAt j (by omega)
      rw [scells_get _ j hj] at c2
      have f2 := hrow2.frozenAt j
      have HP2 : Hid (_ ∧ _) := hS2.page HT.out hfd rfl j (Fi.turn (Fi.page st n j) m x)
      have HBW : Hid (Below w.heap.size w W2.drew) := hbW2.drew
      have HHW2 : Hid (W.setCell ⟨w.heap.size, m, none⟩ (.int .u8 y) = W2) := HW2
      clear h hr hrow hfd hh hb hpm hps hli hbW hst hS2 hrow2 hbW2 HW2 ht hml
      generalize hL : Fi.rows st.fs n = L at *
      generalize Fi.turn (Fi.page st n j) m x = t at *
      generalize Fi.page st n j = s at *
      generalize L.length = q at *
      go_enter Try.func37, Try.ntmps37
      go_wp2_with fail
      refine Calls.mono HI.out ?_
      rintro e w1 ⟨rfl, rfl⟩
      go_wp2_with fail
      refine Calls.mono HH.out ?_
      rintro e w1 ⟨rfl, rfl⟩
      go_wp2
      rw [HHW2.out]
      clear c1 f1 hcv hx hl hc hcell
      go_region
      all_goals
        go_wp2
        go_ret
        exact ⟨_, rfl, ⟨mb, _, HP2.out.1, by rw [files_put, hf], rfl, HG.out⟩, (Turn.below HBW.out).trans HP2.out.2⟩

end Go.Proofs.Ytnlhgcpmmcmknaa
