/- PagesSpoilt: for every string, uint8 and string the call returns true: pages of which one is missing ahead of another one, or has something behind it, or that are cut short, are joined to nothing, unless what is left is data that is parted so (P5.2). No conditions. -/
import Derived.Test.YtnlglmloineapaaQSpoil
import Derived.Test.YtnlglmloineapaaLater
import Derived.Deep.RegionHeld3
namespace Go.Proofs.Ytnlglmloineapaa
open Go.ChangeShapes Go.WideShapes Go.ChangeAt Go.RowKit
open Go.ChangeMaps (open_string shut_string)

theorem wf_u8 {n : Int} (h : (Lit.int .u8 n).wf = true) : ∃ k : Nat, n = k ∧ k < 256 := by
  have : 0 ≤ n ∧ n ≤ 255 := by simpa [Lit.wf, IntKind.min, IntKind.max, IntKind.signed, IntKind.bits] using h
  exact ⟨n.toNat, by omega, by omega⟩
theorem size_list (s : ByteArray) : s.data.toList.length = s.size := by simp
theorem scells_length (l : List ByteArray) : (scells l).length = l.length := by simp [scells]
theorem scells_one (l : List ByteArray) : ∀ u ∈ scells l, u.oneCell' = true := by
  intro u hu
  obtain ⟨s, _, rfl⟩ := List.mem_map.1 hu
  rfl
theorem scells_set (l : List ByteArray) (k : Nat) (s : ByteArray) : (scells l).set k (.string s) = scells (l.set k s) := by simp [scells, List.map_set]
theorem strs_news {W : World} {b off : Nat} {l : List ByteArray} (h : ∀ j, j < l.length → W.cell? ⟨b, off + j, none⟩ = some (.string (l.getD j ByteArray.empty))) :
    ∀ j u, (scells l)[j]? = some u → W.cell? ((⟨b, off, none⟩ : Addr).add j) = some u := by
  intro j u hu
  have hj : j < l.length := by
    have := (List.getElem?_eq_some_iff.1 hu).1
    rwa [scells_length] at this
  rw [scells_get l j hj] at hu
  rw [Go.WideShapes.add_plain, h j hj, hu]

theorem below_alloc {w W : World} (h : Below w.heap.size w W) (o : Obj) : Below w.heap.size w (W.alloc o) := h.alloc h.size o
theorem heap_two (W : World) (o p : Obj) : ((W.alloc o).alloc p).heap[W.heap.size + 1]? = some p := by
  have h := heap_alloc_new (W.alloc o) p
  rwa [show (W.alloc o).heap.size = W.heap.size + 1 by simp] at h
theorem heap_first (W : World) (o p : Obj) : ((W.alloc o).alloc p).heap[W.heap.size]? = some o := (Below.heap_alloc (W.alloc o) p W.heap.size (by simp)).trans (heap_alloc_new W o)
theorem lit_second (W : World) (o : Obj) : ((W.alloc o).alloc (.cells #[] 9)).ownsRow W.heap.size 9 1 (.slice (some ⟨W.heap.size + 1, 0, none⟩) 0 0) 0 [] := by
  have h := World.ownsRow_lit (e := 9) (size := 1) (base := W.heap.size) (W.alloc o) #[] 0 (by simp) (by decide) rfl
  rwa [show (W.alloc o).heap.size = W.heap.size + 1 by simp] at h

theorem scells_snoc (l : List ByteArray) (q : ByteArray) : scells l ++ [.string q] = scells (l ++ [q]) := by simp [scells]
theorem some_text {s : ByteArray} (h : s.size ≠ 0) : (s.toList == []) = false := by
  rw [beq_eq_false_iff_ne, ByteArray.toList_eq]
  intro e
  apply h
  rw [← size_list, e]; rfl
theorem no_text {s : ByteArray} (h : s.size = 0) : s = ⟨#[]⟩ := by
  apply ByteArray.ext
  exact Array.eq_empty_of_size_eq_zero h

/-- What is known of a text's pages: how many, each one, what Join tells of them where one has something behind it, or is there twice. -/
structure Spoil (s more : ByteArray) (l : List ByteArray) (n i : Nat) (q x y : ByteArray) (E1 : Int) (D2 : ByteArray) (E2 : Int) : Prop where
  len : l.length = n + 1
  at_i : l.getD i ByteArray.empty = q
  qlen : q.size = 128
  ylen : y.size ≤ 122
  dec_i : ∀ W, Calls Try.prog 16 #[.string q] W fun e w' => e = .returned (.tuple #[.string y, .int .i64 0]) ∧ Below W.heap.size W w'
  dec_n : ∀ W, Calls Try.prog 16 #[.string (l.getD n ByteArray.empty)] W fun e w' => e = .returned (.tuple #[.string x, .int .i64 0]) ∧ Below W.heap.size W w'
  join1 : ∀ W v, Strs W v (l.set i (q ++ more)) → ∃ D, Calls Try.prog 18 #[v] W fun e w' => e = .returned (.tuple #[.string D, .int .i64 E1]) ∧ Below W.heap.size W w'
  join2 : ∀ W v, Strs W v (l ++ [q]) → Calls Try.prog 18 #[v] W fun e w' => e = .returned (.tuple #[.string D2, .int .i64 E2]) ∧ Below W.heap.size W w'
  e1_yes : more.size = 0 → E1 = 0
  e1_no : more.size ≠ 0 → E1 = 50
  e2_yes : x.size = 122 → y.size ≠ 0 → E2 = 0 ∧ D2 = s ++ y
  e2_no : ¬ (x.size = 122 ∧ y.size ≠ 0) → E2 = 50

theorem spoil_any (s more : ByteArray) (i : Nat) (hs : s.size ≤ 3000) (hm : more.size ≤ 200) (hi : i < ((Pg.split s.data.toList).map text).length) :
    ∃ n q x y E1 D2 E2, Spoil s more ((Pg.split s.data.toList).map text) n i q x y E1 D2 E2 := by
  have hlen := size_list s
  have hpl : ((Pg.split s.data.toList).map text).length = (Pg.parts s.data.toList).length := by rw [List.length_map, Pg.split_length]
  have hi' : i < (Pg.parts s.data.toList).length := by omega
  obtain ⟨n, hn⟩ : ∃ n, (Pg.parts s.data.toList).length = n + 1 := ⟨(Pg.parts s.data.toList).length - 1, by omega⟩
  have hcnt : (Pg.parts s.data.toList).length ≤ 1000 := by rw [Pg.parts_count, hlen]; omega
  have hat (j : Nat) (hj : j < (Pg.parts s.data.toList).length) : ((Pg.split s.data.toList).map text).getD j ByteArray.empty = text (Pg.page (Pg.parts s.data.toList)[j]) := by
    rw [List.getD_eq_getElem?_getD, List.getElem?_map]
    unfold Pg.split
    rw [List.getElem?_map, List.getElem?_eq_getElem hj]
    rfl
  have hle (j : Nat) (hj : j < (Pg.parts s.data.toList).length) : (Pg.parts s.data.toList)[j].length ≤ 122 := Pg.parts_le _ _ (List.getElem_mem hj)
  have hdec (j : Nat) (hj : j < (Pg.parts s.data.toList).length) (W : World) : Calls Try.prog 16 #[.string (text (Pg.page (Pg.parts s.data.toList)[j]))] W fun e w' => e = .returned (.tuple #[.string (text (Pg.parts s.data.toList)[j]), .int .i64 0]) ∧ Below W.heap.size W w' := by
    have := decode_any (text (Pg.page (Pg.parts s.data.toList)[j])) W (by show (Pg.page _).length ≤ _; rw [Pg.page_length (hle j hj)]; decide)
    rw [text_toList, Pg.dec_page (hle j hj)] at this
    exact this
  have hsm : ∀ t ∈ (Pg.split s.data.toList).map text, t.size ≤ 128 := by
    intro t ht
    obtain ⟨p, hp, rfl⟩ := List.mem_map.1 ht
    exact Nat.le_of_eq (Pg.split_ok _ p hp).1
  have hqs : (text (Pg.page (Pg.parts s.data.toList)[i])).size = 128 := Pg.page_length (hle i hi')
  have hl1 : lists (((Pg.split s.data.toList).map text).set i (text (Pg.page (Pg.parts s.data.toList)[i]) ++ more)) = (Pg.split s.data.toList).set i ((Pg.split s.data.toList)[i]'(by rw [Pg.split_length]; exact hi') ++ more.data.toList) := by
    have e : (Pg.split s.data.toList)[i]'(by rw [Pg.split_length]; exact hi') = Pg.page (Pg.parts s.data.toList)[i] := by unfold Pg.split; rw [List.getElem_map]
    rw [e]
    unfold lists
    rw [List.map_set]
    have e2 := lists_text (Pg.split s.data.toList)
    unfold lists at e2
    rw [e2]
    simp [text]
  have hl2 : lists ((Pg.split s.data.toList).map text ++ [text (Pg.page (Pg.parts s.data.toList)[i])]) = Pg.split s.data.toList ++ [Pg.page (Pg.parts s.data.toList)[i]] := by
    have e2 := lists_text (Pg.split s.data.toList)
    unfold lists at e2 ⊢
    rw [List.map_append, e2]; rfl
  refine ⟨n, text (Pg.page (Pg.parts s.data.toList)[i]), text (Pg.parts s.data.toList)[n], text (Pg.parts s.data.toList)[i],
    (Pg.join (lists (((Pg.split s.data.toList).map text).set i (text (Pg.page (Pg.parts s.data.toList)[i]) ++ more)))).2,
    text (Pg.join (lists ((Pg.split s.data.toList).map text ++ [text (Pg.page (Pg.parts s.data.toList)[i])]))).1,
    (Pg.join (lists ((Pg.split s.data.toList).map text ++ [text (Pg.page (Pg.parts s.data.toList)[i])]))).2, ?_⟩
  constructor
  · omega
  · exact hat i hi'
  · exact hqs
  · exact hle i hi'
  · exact hdec i hi'
  · intro W; rw [hat n (by omega)]; exact hdec n (by omega) W
  · intro W v h
    refine ⟨_, join_any v _ W h (by rw [List.length_set]; omega) ?_⟩
    intro t ht
    rcases List.mem_or_eq_of_mem_set ht with h | rfl
    · have := hsm t h; omega
    · rw [ByteArray.size_append, hqs]; omega
  · intro W v h
    refine join_any v _ W h (by rw [List.length_append, hpl]; simp; omega) ?_
    intro t ht
    rcases List.mem_append.1 ht with h | h
    · have := hsm t h; omega
    · rw [List.mem_singleton.1 h, hqs]; decide
  · intro h0
    have h1 : more.data.toList = [] := List.eq_nil_of_length_eq_zero (by rw [size_list]; exact h0)
    rw [hl1, h1, List.append_nil, List.set_getElem_self, Pg.join_split]
  · intro h0
    rw [hl1, Pg.join_behind _ _ _ _ (fun h => h0 (by rw [← size_list, h]; rfl))]
  · intro h1 h2
    rw [hl2, Pg.join_twice _ i n hn hi' h1 h2]
    refine ⟨rfl, ?_⟩
    apply ByteArray.ext
    apply Array.toList_inj.1
    simp [text]
  · intro h
    rw [hl2, Pg.join_twice_no _ i n hn hi' h]

set_option maxRecDepth 100000 in
set_option maxHeartbeats 4000000 in
theorem pagesSpoilt_walk (s : ByteArray) (t0 : Int) (more : ByteArray) (w : World) (hs : s.size ≤ maxLen) (ht0 : (Lit.int .u8 t0).wf = true) (hm : more.size ≤ maxLen) :
    Calls Try.prog 8 #[.string s, .int .u8 t0, .string more] w fun e w' => e = .returned (.bool true) ∧ Below w.heap.size w w' := by
  obtain ⟨t, rfl, ht⟩ := wf_u8 ht0
  clear ht0
  unfold maxLen at hs hm
  by_cases h1 : 3000 < s.size
  · go_enter Try.func8, Try.ntmps8
    go_wp2
    go_ret
    exact ⟨rfl, Below.refl _ _⟩
  · by_cases h2 : 200 < more.size
    · go_enter Try.func8, Try.ntmps8
      go_wp2
      go_ret
      exact ⟨rfl, Below.refl _ _⟩
    · have HSP : Hid (Calls _ _ _ _ _) := split_any s w (by omega)
      have HQ : Hid (∀ i, i < ((Pg.split s.data.toList).map text).length → ∃ n q x y E1 D2 E2, Spoil s more ((Pg.split s.data.toList).map text) n i q x y E1 D2 E2) := fun i hi => spoil_any s more i (by omega) (by omega) hi
      have hpos : 0 < ((Pg.split s.data.toList).map text).length := by rw [List.length_map, Pg.split_length]; exact Pg.parts_pos _
      have hcnt : ((Pg.split s.data.toList).map text).length ≤ 1000 := by
        rw [List.length_map, Pg.split_length, Pg.parts_count, size_list]; omega
      generalize (Pg.split s.data.toList).map text = l at HSP HQ hpos hcnt
      obtain ⟨i, hi, hi2⟩ : ∃ i : Nat, (t : Int) % (l.length : Int) = (i : Int) ∧ i < l.length := ⟨t % l.length, by simp, Nat.mod_lt _ hpos⟩
      obtain ⟨n, q, x, y, E1, D2, E2, hsp⟩ := HQ.out i hi2
      have HN : Hid _ := hsp
      have hn := hsp.len
      have hqs := hsp.qlen
      rw [hn] at hi hi2 hcnt
      have hi : (t : Int) % ((n : Int) + 1) = (i : Int) := by simpa using hi
      obtain ⟨k, hk, hk2⟩ : ∃ k : Nat, (128 : Int) * (t : Int) / 256 = (k : Int) ∧ k < 128 := ⟨t / 2, by omega, by omega⟩
      have HDK : Hid (∀ W, Calls Try.prog 16 #[.string (q.extract 0 k)] W fun e w' => e = .returned (.tuple #[.string ⟨#[]⟩, .int .i64 50]) ∧ Below W.heap.size W w') := fun W => by
        have h1 : (q.extract 0 k).size = k := by rw [ByteArray.size_extract]; omega
        have := decode_any (q.extract 0 k) W (by omega)
        rw [Pg.dec_no (Pg.not_ok_length (by rw [size_list]; omega))] at this
        exact this
      clear hsp HQ hpos
      obtain ⟨i0, hti, hz0, hz1, hz2⟩ := info_parts Try.stringInfo
      go_enter Try.func8, Try.ntmps8
      go_wp2_with fail
      refine Calls.mono HSP.out ?_
      rintro e w1 ⟨v, rfl, hs1, hb1⟩
      have HB1 : Hid (Below w.heap.size w w1) := hb1
      obtain ⟨a, cap, rfl, hcap, hs1⟩ := hs1
      obtain ⟨b, off, rfl, hc⟩ : ∃ b off, a = some ⟨b, off, none⟩ ∧ ∀ j, j < l.length → w1.cell? ⟨b, off + j, none⟩ = some (.string (l.getD j ByteArray.empty)) := by
        rcases hs1 with h | h
        · rw [h] at hn; simp at hn
        · exact h
      have HC : Hid _ := hc
      have hci : w1.cell? ⟨b, off + i, none⟩ = some (.string q) := by rw [← HN.out.at_i]; exact hc i (by omega)
      have hcn : w1.cell? ⟨b, off + n, none⟩ = some (.string (l.getD n ByteArray.empty)) := hc n (by omega)
      have HCI : Hid _ := hci
      have HCN : Hid _ := hcn
      rw [hn]
      clear hb1 hs1 hc HSP hci hcn hcap
      go_wp2_with (at_builtin; refine wpList_append_lies _ rfl _ _ 26 rfl w1.heap.size 9 i0 (.string ⟨#[]⟩) 1 16 Try.underlying26 hti hz0 hz1 hz2 rfl (by omega) _ 0 [] rfl (World.ownsRow_lit w1 #[] 0 (Nat.le_refl _) (by decide) rfl) ⟨b, off, none⟩ (n + 1) cap (scells l) rfl (by rw [scells_length, hn, Nat.mul_one]) (fun j u hu => cell_after ((Below.refl _ w1).alloc (Nat.le_refl _) _) (strs_news HC.out j u hu)) (scells_one l) (by omega) (by unfold maxLen; omega) (by omega) (by simp) _ rfl ?_)
      intro g cap2 w2 hown2 hgrow2 hat2 hlt2
      have hown2 : w2.ownsRow w1.heap.size 9 1 (.slice (some ⟨g, 0, none⟩) (n + 1) cap2) (n + 1) (scells l) := by simpa using hown2
      have HB2 : Hid (Below w1.heap.size w1 w2) := ((Below.refl _ w1).alloc (Nat.le_refl _) _).grown hgrow2 (by simp) (fun k hk => by simp [Value.ownBlock] at hk; omega)
      have hg1 := (hown2.lt g rfl).1
      have cg := hown2.cellAt i (by omega)
      rw [scells_get l i (by omega), HN.out.at_i] at cg
      have fg := hown2.frozenAt i
      have hst := (hown2.stored i (.string (q ++ more))).1
      rw [scells_set] at hst
      have HS3 : Hid (Strs _ _ _) := Strs.of_own hst
      have HB3 : Hid (Below w1.heap.size w1 (w2.setCell ⟨g, i, none⟩ (.string (q ++ more)))) := HB2.out.setCell hg1 _
      obtain ⟨D1, HJ1⟩ := HN.out.join1 _ _ HS3.out
      have HJ1 : Hid (Calls _ _ _ _ _) := HJ1
      clear hown2 hgrow2 hat2 hlt2 hst HB2 hg1 HS3
      go_wp2_with fail
      refine Calls.mono HJ1.out ?_
      rintro e w4 ⟨rfl, hb4⟩
      have HB4 : Hid (Below w1.heap.size w1 w4) := bnext HB3.out hb4
      clear hb4 HB3 HJ1 cg fg
      go_wp2_with fail
      have hci := cell_after HB4.out HCI.out
      have hd := Later.cell hci
      have hne := Later.some w4
      refine wp_region_later (by kernel_rfl) (by kernel_rfl) ?_
      repeat (go_big_quiet_step ((go_at_call 16; exact Later.made (HDK.out _))))
      refine wpQuiet_nil ?_
      intro w5 hw5
      obtain ⟨⟨w5, hb5⟩, rfl⟩ := hw5
      have HB5 : Hid (Below w1.heap.size w1 w5) := bnext HB4.out hb5
      clear hb5 HB4 hci hd hne HDK
      have hci5 := cell_after HB5.out HCI.out
      have hblt := World.block_lt_of_cell? _ _ hci5
      have HCW : Hid (∀ W, Below w1.heap.size w1 W → ∀ j u, (scells l)[j]? = some u → W.cell? ((⟨b, off, none⟩ : Addr).add j) = some u) := fun W hb j u hu => cell_after hb (strs_news HC.out j u hu)
      have hnew := World.new_ne w5 _ hci5
      have hi0' : (0 : Int) ≤ (i : Int) := Int.natCast_nonneg _
      have hi1' : (i : Int) < ((n : Int) + 1) := by omega
      go_wp2_with fail
      go_region_held3 (fun w' => w'.cell? ⟨b, off + i, none⟩ = some (.string q))
        (first | go_keep | exact hci7 | exact hci6)
        (first
        | (refine step_append_lies _ (by rfl) _ _ _ (by rfl) w5.heap.size 9 i0 (.string ⟨#[]⟩) 1 16 Try.underlying26 hti hz0 hz1 hz2 rfl (by omega) _ 0 [] (by rfl) ((World.ownsRow_lit (e := 9) (size := 1) (base := w5.heap.size) w5 #[] 0 (Nat.le_refl _) (by decide) rfl).drew) ⟨b, off, none⟩ (n + 1) cap (scells l) (by rfl) (by rw [scells_length, hn, Nat.mul_one]) (HCW.out _ (below_alloc HB5.out _).drew) (scells_one l) (by omega) (by unfold maxLen; omega) (by omega) (below_alloc (Below.refl _ w5) _).drew.size _ rfl ?_; intro g3 cap3 w6 hown6 hgrow6 hat6 hlt6; have hown6 : Hid (w6.ownsRow w5.heap.size 9 1 (.slice (some ⟨g3, 0, none⟩) (n + 1) cap3) (n + 1) (scells l)) := (show w6.ownsRow w5.heap.size 9 1 (.slice (some ⟨g3, 0, none⟩) (n + 1) cap3) (n + 1) (scells l) by simpa using hown6); have HB6 : Hid (Below w5.heap.size w5 w6) := (below_alloc (Below.refl _ w5) _).drew.grown hgrow6 (below_alloc (Below.refl _ w5) _).drew.size (fun k hk => by simp [Value.ownBlock] at hk; omega); have hci6 := cell_after HB6.out hci5; clear hat6 hlt6; rw [Nat.zero_add])
        | (refine step_append_lies _ (by rfl) _ _ _ (by rfl) w5.heap.size 9 i0 (.string ⟨#[]⟩) 1 16 Try.underlying26 hti hz0 hz1 hz2 rfl (by omega) _ 0 [] (by rfl) (((World.ownsRow_lit (e := 9) (size := 1) (base := w5.heap.size) w5 #[] 0 (Nat.le_refl _) (by decide) rfl).alloc _).drew) ⟨b, off, none⟩ (n + 1) cap (scells l) (by rfl) (by rw [scells_length, hn, Nat.mul_one]) (HCW.out _ (below_alloc (below_alloc HB5.out _) _).drew) (scells_one l) (by omega) (by unfold maxLen; omega) (by omega) (below_alloc (below_alloc (Below.refl _ w5) _) _).drew.size _ rfl ?_; intro g3 cap3 w6 hown6 hgrow6 hat6 hlt6; have hown6 : Hid (w6.ownsRow w5.heap.size 9 1 (.slice (some ⟨g3, 0, none⟩) (n + 1) cap3) (n + 1) (scells l)) := (show w6.ownsRow w5.heap.size 9 1 (.slice (some ⟨g3, 0, none⟩) (n + 1) cap3) (n + 1) (scells l) by simpa using hown6); have HB6 : Hid (Below w5.heap.size w5 w6) := (below_alloc (below_alloc (Below.refl _ w5) _) _).drew.grown hgrow6 (below_alloc (below_alloc (Below.refl _ w5) _) _).drew.size (fun k hk => by simp [Value.ownBlock] at hk; omega); have hci6 := cell_after HB6.out hci5; clear hat6 hlt6; rw [Nat.zero_add])
        | (refine step_append_lies _ (by rfl) _ _ _ (by rfl) w5.heap.size 9 i0 (.string ⟨#[]⟩) 1 16 Try.underlying26 hti hz0 hz1 hz2 rfl (by omega) _ 0 [] (by rfl) ((lit_second w5 (.cells #[.string q] 9)).drew) ⟨b, off, none⟩ (n + 1) cap (scells l) (by rfl) (by rw [scells_length, hn, Nat.mul_one]) (HCW.out _ (below_alloc (below_alloc HB5.out _) _).drew) (scells_one l) (by omega) (by unfold maxLen; omega) (by omega) (below_alloc (below_alloc (Below.refl _ w5) _) _).drew.size _ rfl ?_; intro g3 cap3 w6 hown6 hgrow6 hat6 hlt6; have hown6 : Hid (w6.ownsRow w5.heap.size 9 1 (.slice (some ⟨g3, 0, none⟩) (n + 1) cap3) (n + 1) (scells l)) := (show w6.ownsRow w5.heap.size 9 1 (.slice (some ⟨g3, 0, none⟩) (n + 1) cap3) (n + 1) (scells l) by simpa using hown6); have HB6 : Hid (Below w5.heap.size w5 w6) := (below_alloc (below_alloc (Below.refl _ w5) _) _).drew.grown hgrow6 (below_alloc (below_alloc (Below.refl _ w5) _) _).drew.size (fun k hk => by simp [Value.ownBlock] at hk; omega); have hci6 := cell_after HB6.out hci5; clear hat6 hlt6; rw [Nat.zero_add])
        | (refine step_append_lies _ (by rfl) _ _ _ (by rfl) w5.heap.size 9 i0 (.string ⟨#[]⟩) 1 16 Try.underlying26 hti hz0 hz1 hz2 rfl (by omega) _ (n + 1) (scells l) (by rfl) (hown6.out.alloc _) ⟨w6.heap.size, 0, none⟩ 1 1 [.string q] (by rfl) (by rfl) (World.news_of_block (cs := #[.string q]) (t := 9) (fr := (0, 0)) (heap_alloc_new w6 _)) (by simp [Value.oneCell']) (by omega) (by unfold maxLen; omega) (by omega) (below_alloc HB6.out _).size _ rfl ?_; intro g4 cap4 w7 hown7 hgrow7 hat7 hlt7; have hown7 : Hid (w7.ownsRow w5.heap.size 9 1 (.slice (some ⟨g4, 0, none⟩) (n + 1 + 1) cap4) (n + 1 + 1) (scells l ++ [.string q])) := hown7; have HB7 : Hid (Below w5.heap.size w5 w7) := (below_alloc HB6.out _).grown hgrow7 (below_alloc HB6.out _).size (fun k hk => (hown6.out.lt k hk).1); have hci7 := cell_after HB7.out hci5; clear hgrow7 hat7 hlt7 hgrow6)
        | (refine step_append_lies _ (by rfl) _ _ _ (by rfl) w5.heap.size 9 i0 (.string ⟨#[]⟩) 1 16 Try.underlying26 hti hz0 hz1 hz2 rfl (by omega) _ (n + 1) (scells l) (by rfl) hown6.out ⟨w5.heap.size + 1, 0, none⟩ 1 1 [.string q] (by rfl) (by rfl) (World.news_of_block (cs := #[.string q]) (t := 9) (fr := (0, 0)) ((hgrow6.block (w5.heap.size + 1) (by simp) (by simp [Value.ownBlock])).trans (heap_two w5 _ _))) (by simp [Value.oneCell']) (by omega) (by unfold maxLen; omega) (by omega) HB6.out.size _ rfl ?_; intro g4 cap4 w7 hown7 hgrow7 hat7 hlt7; have hown7 : Hid (w7.ownsRow w5.heap.size 9 1 (.slice (some ⟨g4, 0, none⟩) (n + 1 + 1) cap4) (n + 1 + 1) (scells l ++ [.string q])) := hown7; have HB7 : Hid (Below w5.heap.size w5 w7) := HB6.out.grown hgrow7 HB6.out.size (fun k hk => (hown6.out.lt k hk).1); have hci7 := cell_after HB7.out hci5; clear hgrow7 hat7 hlt7 hgrow6)
        | (refine step_append_lies _ (by rfl) _ _ _ (by rfl) w5.heap.size 9 i0 (.string ⟨#[]⟩) 1 16 Try.underlying26 hti hz0 hz1 hz2 rfl (by omega) _ (n + 1) (scells l) (by rfl) hown6.out ⟨w5.heap.size, 0, none⟩ 1 1 [.string q] (by rfl) (by rfl) (World.news_of_block (cs := #[.string q]) (t := 9) (fr := (0, 0)) ((hgrow6.block w5.heap.size (by first | (simp; done) | (simp; omega)) (by simp [Value.ownBlock])).trans (heap_first w5 _ _))) (by simp [Value.oneCell']) (by omega) (by unfold maxLen; omega) (by omega) HB6.out.size _ rfl ?_; intro g4 cap4 w7 hown7 hgrow7 hat7 hlt7; have hown7 : Hid (w7.ownsRow w5.heap.size 9 1 (.slice (some ⟨g4, 0, none⟩) (n + 1 + 1) cap4) (n + 1 + 1) (scells l ++ [.string q])) := hown7; have HB7 : Hid (Below w5.heap.size w5 w7) := HB6.out.grown hgrow7 HB6.out.size (fun k hk => (hown6.out.lt k hk).1); have hci7 := cell_after HB7.out hci5; clear hgrow7 hat7 hlt7 hgrow6)
        | fail)
      all_goals
        have HS7 : Hid (Strs w7 (.slice (some ⟨g4, 0, none⟩) (n + 1 + 1) cap4) (l ++ [q])) := Strs.of_own (by rw [← scells_snoc]; exact hown7.out)
        have HJ2 : Hid (Calls _ _ _ _ _) := HN.out.join2 _ _ HS7.out
        have HB7' : Hid (Below w1.heap.size w1 w7) := bnext HB5.out HB7.out
        clear hown7 HB7 hci5 hci6 hci7 hown6 HB6 hblt hnew HS7 HCW
        go_wp2_with fail
        refine Calls.mono HJ2.out ?_
        rintro e w8 ⟨rfl, hb8⟩
        have HB8 : Hid (Below w1.heap.size w1 w8) := bnext HB7'.out hb8
        have hcn := cell_after HB8.out HCN.out
        have HDN : Hid (∀ W, Calls _ _ _ _ _) := HN.out.dec_n
        have HDI : Hid (∀ W, Calls _ _ _ _ _) := HN.out.dec_i
        have ⟨hy122, e1y, e1n, e2y, e2n⟩ : y.size ≤ 122 ∧ (more.size = 0 → E1 = 0) ∧ (more.size ≠ 0 → E1 = 50) ∧ (x.size = 122 → y.size ≠ 0 → E2 = 0 ∧ D2 = s ++ y) ∧ (¬ (x.size = 122 ∧ y.size ≠ 0) → E2 = 50) := ⟨HN.out.ylen, HN.out.e1_yes, HN.out.e1_no, HN.out.e2_yes, HN.out.e2_no⟩
        have e1y : Hid _ := e1y
        have e1n : Hid _ := e1n
        have e2y : Hid _ := e2y
        have e2n : Hid _ := e2n
        generalize l.getD n ByteArray.empty = z at hcn HDN
        clear hb8 HJ2 HB7' HN
        go_wp2_with fail
        refine (HDN.out _).mono ?_
        rintro e w9 ⟨rfl, hb9⟩
        have HB9 : Hid (Below w1.heap.size w1 w9) := bnext HB8.out hb9
        have hci9 := cell_after HB9.out HCI.out
        clear hb9 HB8 hcn HDN
        go_wp2_with fail
        refine (HDI.out _).mono ?_
        rintro e w10 ⟨rfl, hb10⟩
        have HBy : Hid (Below w.heap.size w w10) := bnext HB1.out (bnext HB9.out hb10)
        clear hb10 HB9 hci9 HDI HCI HCN HC HB5 HB1
        by_cases hm0 : more.size = 0
        · obtain rfl := e1y.out hm0
          obtain rfl := no_text hm0
          by_cases hx : x.size = 122
          · by_cases hy : y.size = 0
            · obtain rfl := e2n.out (fun h => h.2 hy)
              obtain rfl := no_text hy
              clear e1y e1n e2y e2n
              go_wp2_with fail
              refine (does_any _).mono ?_
              rintro e w11 ⟨rfl, hb11⟩
              have HBz : Hid (Below w.heap.size w w11) := bnext HBy.out hb11
              clear hb11
              go_wp2
              go_ret
              exact ⟨rfl, HBz.out⟩
            · obtain ⟨rfl, rfl⟩ := e2y.out hx hy
              have hyb := some_text hy
              clear e1y e1n e2y e2n
              go_wp2_with fail
              refine (does_any _).mono ?_
              rintro e w11 ⟨rfl, hb11⟩
              have HBz : Hid (Below w.heap.size w w11) := bnext HBy.out hb11
              clear hb11
              go_wp2
              go_ret
              exact ⟨rfl, HBz.out⟩
          · obtain rfl := e2n.out (fun h => hx h.1)
            have hxb : ((x.size : Int) == 122) = false := by rw [beq_eq_false_iff_ne]; omega
            clear e1y e1n e2y e2n
            go_wp2_with fail
            refine (does_any _).mono ?_
            rintro e w11 ⟨rfl, hb11⟩
            have HBz : Hid (Below w.heap.size w w11) := bnext HBy.out hb11
            clear hb11
            go_wp2
            go_ret
            exact ⟨rfl, HBz.out⟩
        · obtain rfl := e1n.out hm0
          have hmb := some_text hm0
          by_cases hx : x.size = 122
          · by_cases hy : y.size = 0
            · obtain rfl := e2n.out (fun h => h.2 hy)
              obtain rfl := no_text hy
              clear e1y e1n e2y e2n
              go_wp2_with fail
              refine (does_any _).mono ?_
              rintro e w11 ⟨rfl, hb11⟩
              have HBz : Hid (Below w.heap.size w w11) := bnext HBy.out hb11
              clear hb11
              go_wp2
              go_ret
              exact ⟨rfl, HBz.out⟩
            · obtain ⟨rfl, rfl⟩ := e2y.out hx hy
              have hyb := some_text hy
              clear e1y e1n e2y e2n
              go_wp2_with fail
              refine (does_any _).mono ?_
              rintro e w11 ⟨rfl, hb11⟩
              have HBz : Hid (Below w.heap.size w w11) := bnext HBy.out hb11
              clear hb11
              go_wp2
              go_ret
              exact ⟨rfl, HBz.out⟩
          · obtain rfl := e2n.out (fun h => hx h.1)
            have hxb : ((x.size : Int) == 122) = false := by rw [beq_eq_false_iff_ne]; omega
            clear e1y e1n e2y e2n
            go_wp2_with fail
            refine (does_any _).mono ?_
            rintro e w11 ⟨rfl, hb11⟩
            have HBz : Hid (Below w.heap.size w w11) := bnext HBy.out hb11
            clear hb11
            go_wp2
            go_ret
            exact ⟨rfl, HBz.out⟩

set_option maxRecDepth 100000 in
theorem pagesSpoilt_lifted (os : Os) (started : os.Started) (H : Type) (enc : TypeId × Value → H) :
    ReturnsInHanded {} Try.checked os 8 .any (Rows.pagesSpoiltSpec.pre6 enc Try.prog Try.f8 Rows.pagesSpoiltRow.domain false) (Rows.pagesSpoiltSpec.post enc Try.prog Try.f8 false true false false) := by
  refine returnsInHanded_of_change (C := Try.checked) Try.own started (by kernel_rfl) Try.func8
    (ChangeSpec.witness6 (enc := enc) (C := Try.checked) false ⟨#[], #[.string ByteArray.empty, .int .u8 0, .string ByteArray.empty], []⟩ 8 (by kernel_rfl) (by kernel_rfl) (by kernel_rfl) (by kernel_rfl)) ?_
  intro W base args ds gs before hval0 hW hcnd _
  have hval : ∀ (j : Nat) t v, Try.f8.params[j]? = some t → args[j]? = some v → Value.okWide Try.prog W .any base t v := hval0
  have hW' := hW
  obtain ⟨p, q, hA0, hV, rfl, hfz, hnd⟩ := hW
  have hA : DataW.TrodAll enc Try.prog W 0 (fun _ => true) true Try.f8.params.toList args.toList ds p := hA0
  rw [Try.params8] at hA hval
  obtain ⟨v0, vs0, d0, ds0, p0, q0, hargs, rfl, rfl, h0, r0⟩ := trodAll_cons hA
  obtain ⟨v1, vs1, d1, ds1, p1, q1, rfl, rfl, rfl, h1, r1⟩ := trodAll_cons r0
  obtain ⟨v2, vs2, d2, ds2, p2, q2, rfl, rfl, rfl, h2, r2⟩ := trodAll_cons r1
  obtain ⟨rfl, rfl, rfl⟩ := trodAll_nil r2
  obtain rfl : args = #[v0, v1, v2] := by cases args; simp_all
  obtain ⟨rfl, rfl⟩ := trodVars_none hV
  obtain ⟨a0, rfl, rfl, rfl, w0⟩ := open_string Try.underlying9 (hval 0 9 v0 rfl rfl) h0
  obtain ⟨a1, rfl, rfl, rfl, w1⟩ := open_int Try.underlying5 (hval 1 5 v1 rfl rfl) h1
  obtain ⟨a2, rfl, rfl, rfl, w2⟩ := open_string Try.underlying9 (hval 2 9 v2 rfl rfl) h2
  clear hA0 hval0
  simp only [List.append_nil] at hW'
  refine (pagesSpoilt_walk a0 a1 a2 W w0 w1 w2).mono fun e W' ⟨he, bel⟩ => ?_
  subst he
  exact ⟨_, rfl, _, _, _, [], [], [], hW', trodAll_mk1 (shut_bool Try.underlying4 _), (trodAll_cons_mk (shut_string Try.underlying9 w0) (trodAll_cons_mk (shut_int Try.underlying5 w1) (trodAll_cons_mk (shut_string Try.underlying9 w2) trodAll_mk0))), rfl, bel.frame _, fun h => by cases h⟩

theorem pagesSpoilt_holds : Rows.PagesSpoiltSaid :=
  OpenClaim.holds_of_wide 8 Try.f8 rfl rfl rfl rfl rfl rfl rfl ⟨rfl, rfl, rfl, rfl, rfl⟩ rfl rfl rfl rfl rfl (by kernel_rfl) Try.func8 (by kernel_rfl)
    (of_decide_eq_true (by kernel_rfl)) (by unfold Func.isWrapper; first | (rw [if_pos (by decide +kernel)]; kernel_rfl) | (rw [if_neg (by decide +kernel)]; exact ⟨rfl, rfl⟩))
    (fun os started H enc _ => pagesSpoilt_lifted os started H enc)

end Go.Proofs.Ytnlglmloineapaa
