/- The walks of the document's own Split and Join (carouselref05). -/
import Derived.Test.YtnlglmloineapaaQRef
namespace Go.Proofs.Ytnlglmloineapaa
open Go.RowKit

theorem strs_one (W : World) (q : ByteArray) : Strs (W.alloc (.cells #[.string q] 9)) (.slice (some ⟨W.heap.size, 0, none⟩) 1 1) [q] := by
  refine ⟨_, _, rfl, Nat.le_refl _, .inr ⟨_, _, rfl, fun j hj => ?_⟩⟩
  obtain rfl : j = 0 := by simpa using hj
  rw [cell_of_row _ W.heap.size 0 #[.string q] 9 (0, 0) (heap_alloc_new W _)]
  rfl

theorem scells_cons (q : ByteArray) (l : List ByteArray) : [Value.string q] ++ scells l = scells (q :: l) := rfl
theorem scells_length (l : List ByteArray) : (scells l).length = l.length := by simp [scells]
theorem scells_one (l : List ByteArray) : ∀ u ∈ scells l, u.oneCell' = true := by
  intro u hu
  obtain ⟨s, _, rfl⟩ := List.mem_map.1 hu
  rfl
theorem strs_news {W : World} {b off : Nat} {l : List ByteArray} (h : ∀ j, j < l.length → W.cell? ⟨b, off + j, none⟩ = some (.string (l.getD j ByteArray.empty))) :
    ∀ j u, (scells l)[j]? = some u → W.cell? ((⟨b, off, none⟩ : Addr).add j) = some u := by
  intro j u hu
  have hj : j < l.length := by
    have := (List.getElem?_eq_some_iff.1 hu).1
    rwa [scells_length] at this
  rw [scells_get l j hj] at hu
  rw [Go.WideShapes.add_plain, h j hj, hu]

set_option maxHeartbeats 1000000 in
theorem rsplit_short (s : ByteArray) (w : World) (h : s.size ≤ 122) :
    Calls Try.prog 13 #[.string s] w fun e w' => ∃ v, e = .returned v ∧ Strs w' v ((Pg.split s.data.toList).map text) ∧ Below w.heap.size w w' := by
  have hsz := size_list s
  have HE : Hid (∀ W, Calls Try.prog 10 #[.string s] W fun e w' => e = .returned (.tuple #[.string (text (Pg.page s.data.toList)), .int .i64 0]) ∧ Below W.heap.size W w') := fun W => by
    have := rencode_any s W (by omega)
    rw [Pg.enc_yes (by omega)] at this
    exact this
  have HX : Hid ((Pg.split s.data.toList).map text = [text (Pg.page s.data.toList)]) := by
    show (Pg.split s.data.toList).map text = _
    unfold Pg.split
    rw [Pg.parts_short (by omega)]; rfl
  rw [HX.out]
  generalize text (Pg.page s.data.toList) = q at HE
  clear HX hsz
  go_enter Try.func13, Try.ntmps13
  go_wp2_with fail
  refine (HE.out _).mono ?_
  rintro e w1 ⟨rfl, hb1⟩
  have HB1 : Hid (∀ o, Below w.heap.size w (w1.alloc o)) := fun o => Below.alloc hb1 hb1.size o
  have HS : Hid _ := strs_one w1 q
  clear hb1 HE
  go_wp2
  go_ret
  exact ⟨_, rfl, HS.out, HB1.out _⟩

set_option maxRecDepth 100000 in
set_option maxHeartbeats 2000000 in
theorem rsplit_any (n : Nat) : ∀ (s : ByteArray) (w : World), s.size ≤ n → s.size ≤ 1000000000000 →
    Calls Try.prog 13 #[.string s] w fun e w' => ∃ v, e = .returned v ∧ Strs w' v ((Pg.split s.data.toList).map text) ∧ Below w.heap.size w w' := by
  induction n with
  | zero =>
    intro s w h0 _
    exact rsplit_short s w (by omega)
  | succ n ih =>
    intro s w hn hs
    by_cases h1 : s.size ≤ 122
    · exact rsplit_short s w h1
    · have hsz := size_list s
      have HE : Hid (∀ W, Calls Try.prog 10 #[.string (s.extract 0 122)] W fun e w' => e = .returned (.tuple #[.string (text (Pg.page (s.data.toList.take 122))), .int .i64 0]) ∧ Below W.heap.size W w') := fun W => by
        have := rencode_any (s.extract 0 122) W (by rw [ByteArray.size_extract]; omega)
        rw [extract_take, Pg.enc_yes (by rw [List.length_take]; omega)] at this
        exact this
      have z2 : (s.extract 122 s.size).size = s.size - 122 := by rw [ByteArray.size_extract]; omega
      have HR : Hid (∀ W, Calls _ _ _ _ _) := fun W => ih (s.extract 122 s.size) W (by omega) (by omega)
      rw [extract_drop] at HR
      have HX : Hid ((Pg.split s.data.toList).map text = text (Pg.page (s.data.toList.take 122)) :: (Pg.split (s.data.toList.drop 122)).map text) := by
        show (Pg.split s.data.toList).map text = _
        unfold Pg.split
        rw [Pg.parts_long (by omega)]; rfl
      have hcnt : ((Pg.split (s.data.toList.drop 122)).map text).length = max (((s.data.toList.drop 122).length + 121) / 122) 1 := by rw [List.length_map, Pg.split_length, Pg.parts_count]
      rw [List.length_drop, hsz] at hcnt
      rw [HX.out]
      generalize text (Pg.page (s.data.toList.take 122)) = q at HE
      generalize (Pg.split (s.data.toList.drop 122)).map text = l at HR hcnt
      have hl1 : 1 ≤ l.length := by omega
      have hl2 : l.length ≤ 1000000000000 := by omega
      clear hcnt HX z2 ih hsz
      obtain ⟨i0, hi, hz0, hz1, hz2⟩ := info_parts Try.stringInfo
      go_enter Try.func13, Try.ntmps13
      go_wp2_with fail
      refine (HE.out _).mono ?_
      rintro e w1 ⟨rfl, hb1⟩
      have HB1 : Hid (Below w.heap.size w w1) := hb1
      clear hb1 HE
      go_wp2_with fail
      refine (HR.out _).mono ?_
      rintro e w2 ⟨v, rfl, hs2, hb2⟩
      have hown := row_after (World.ownsRow_lit (e := 9) (size := 1) (base := w1.heap.size) w1 #[.string q] 1 (Nat.le_refl _) (by decide) rfl) hb2
      have HB2 : Hid (Below w.heap.size w w2) := bnext (HB1.out.alloc HB1.out.size _) hb2
      have hsz2 : w1.heap.size < w2.heap.size := (hown.lt _ rfl).2
      obtain ⟨a, cap, rfl, _, hs2⟩ := hs2
      obtain ⟨b, off, rfl, hc⟩ : ∃ b off, a = some ⟨b, off, none⟩ ∧ ∀ j, j < l.length → w2.cell? ⟨b, off + j, none⟩ = some (.string (l.getD j ByteArray.empty)) := by
        rcases hs2 with h | h
        · rw [h] at hl1; simp at hl1
        · exact h
      have HC : Hid _ := hc
      clear hb2 hs2 hc HR
      go_wp2_with (at_builtin; refine wpList_append_lies _ rfl _ _ 26 rfl w1.heap.size 9 i0 (.string ⟨#[]⟩) 1 16 Try.underlying26 hi hz0 hz1 hz2 rfl (by omega) _ 1 _ rfl hown ⟨b, off, none⟩ l.length cap (scells l) rfl (by rw [scells_length, Nat.mul_one]) (strs_news HC.out) (scells_one l) (by omega) (by unfold maxLen; omega) (by omega) (by omega) _ rfl ?_)
      intro g cap2 w3 hown3 hgrow hat hlt
      have HB3 : Hid (Below w.heap.size w w3) := HB2.out.grown hgrow HB2.out.size (fun k hk => by simp [Value.ownBlock] at hk; have := HB1.out.size; omega)
      have hown3 : w3.ownsRow w1.heap.size 9 1 (.slice (some ⟨g, 0, none⟩) (1 + l.length) cap2) (1 + l.length) (scells (q :: l)) := hown3
      have HS3 : Hid _ := Strs.of_own hown3
      clear hown3 hown hgrow hat hi hz0 hz1 hz2
      go_wp2
      go_ret
      exact ⟨_, rfl, HS3.out, HB3.out⟩

theorem told_le (l : List ByteArray) (k : Nat) (h : ∀ j, j < k → Pg.Ok (l.getD j ByteArray.empty).data.toList) (hk : k ≤ l.length) : (told l k).length ≤ 122 * k := by
  induction k with
  | zero => simp [told]
  | succ k ih =>
    rw [told_succ l k (by omega), List.length_append]
    have h1 := ih (fun j hj => h j (by omega)) (by omega)
    have h2 := Pg.tell_le (h k (by omega))
    omega
theorem all_ok {l : List ByteArray} (h : ∀ j, j < l.length → Pg.Ok (l.getD j ByteArray.empty).data.toList) : ∀ p ∈ lists l, Pg.Ok p := by
  intro p hp
  obtain ⟨i, hi, rfl⟩ := List.getElem_of_mem hp
  rw [lists_length] at hi
  rw [lists_get l i hi]
  exact h i hi
theorem text_lists (l : List ByteArray) : (lists l).map text = l := by
  unfold lists
  rw [List.map_map]
  conv => rhs; rw [← List.map_id l]
  exact List.map_congr_left fun _ _ => rfl
/-- What Join tells, where each page is one: by what Split tells of the data. -/
theorem join_same {l : List ByteArray} (hok : ∀ j, j < l.length → Pg.Ok (l.getD j ByteArray.empty).data.toList) (h : (Pg.split (told l l.length)).map text = l) : Pg.join (lists l) = (told l l.length, 0) := by
  rw [told_all] at h ⊢
  refine Pg.join_yes ((Pg.fits_iff _).2 ⟨all_ok hok, ?_⟩)
  have := congrArg lists h
  rwa [lists_text] at this
theorem join_other {l : List ByteArray} (h : (Pg.split (told l l.length)).map text ≠ l) : Pg.join (lists l) = ([], 50) := by
  rw [told_all] at h
  refine Pg.join_no fun hf => h ?_
  rw [((Pg.fits_iff _).1 hf).2, text_lists]

/-- Where a round of the first loop begins. -/
def Read (l : List ByteArray) (k : Nat) (D : ByteArray) : Prop := D.data.toList = told l k ∧ ∀ j, j < k → Pg.Ok (l.getD j ByteArray.empty).data.toList

theorem read_next {l : List ByteArray} {k : Nat} {D : ByteArray} (h : Read l k D) (hk : k < l.length) (hok : Pg.Ok (l.getD k ByteArray.empty).data.toList) (d : ByteArray) (hd : d.data.toList = Pg.tell (l.getD k ByteArray.empty).data.toList) : Read l (k + 1) (D ++ d) := by
  refine ⟨?_, fun j hj => ?_⟩
  · rw [told_succ l k hk, ← h.1, ← hd]; simp
  · by_cases e : j = k
    · subst e; exact hok
    · exact h.2 j (by omega)

set_option maxHeartbeats 1000000 in
theorem rjoin_none (a : Option Addr) (cap : Nat) (w : World) :
    Calls Try.prog 19 #[.slice a 0 cap] w fun e w' => e = .returned (.tuple #[.string ⟨(Pg.join []).1.toArray⟩, .int .i64 (Pg.join []).2]) ∧ Below w.heap.size w w' := by
  rw [Pg.join_no (fun h => h.1 rfl)]
  have HS : Hid (∀ W, Calls _ _ _ _ _) := fun W => rsplit_any 0 ⟨#[]⟩ W (by decide) (by decide)
  go_enter Try.func19, Try.ntmps19
  go_wp2
  refine wp_loop_rounds 1 ?_
  rw [rounds_succ]
  go_wp2_with fail
  refine (HS.out _).mono ?_
  rintro e w1 ⟨v, rfl, hs, hb⟩
  have HB : Hid (Below w.heap.size w w1) := hb
  obtain ⟨a1, cap1, rfl, _, _⟩ := hs
  rw [split_none]
  clear hb HS
  go_wp2
  go_ret2
  exact ⟨rfl, HB.out⟩

set_option maxRecDepth 100000 in
set_option maxHeartbeats 4000000 in
theorem rjoin_some (b off cap : Nat) (l : List ByteArray) (w : World) (hne : 0 < l.length) (hl : l.length ≤ 1000) (hz : ∀ s ∈ l, s.size ≤ 9223372036854775807)
    (hc : ∀ j, j < l.length → w.cell? ⟨b, off + j, none⟩ = some (.string (l.getD j ByteArray.empty))) :
    Calls Try.prog 19 #[.slice (some ⟨b, off, none⟩) l.length cap] w fun e w' => e = .returned (.tuple #[.string ⟨(Pg.join (lists l)).1.toArray⟩, .int .i64 (Pg.join (lists l)).2]) ∧ Below w.heap.size w w' := by
  have HC : Hid _ := hc
  have HZ : Hid (∀ k, k < l.length → (l.getD k ByteArray.empty).size ≤ 9223372036854775807) := by
    intro k hk
    rw [List.getD_eq_getElem?_getD, List.getElem?_eq_getElem hk]
    exact hz _ (List.getElem_mem hk)
  have HF : Hid (Pg.Fits (lists l) → ∀ k, k < l.length → Good l k) := fun h => ((fits_good l).1 h).2
  obtain ⟨J, HJ⟩ : ∃ J, Hid (Pg.join (lists l) = J) := ⟨_, rfl⟩
  rw [HJ.out]
  clear hc hz
  go_enter Try.func19, Try.ntmps19
  go_wp2
  go_loopw [4, 5] (fun x c wr => ∃ (k : Nat) (D : ByteArray), k ≤ l.length ∧ c = .int .i64 k ∧ x = .string D ∧ D.size ≤ 122000 ∧ Hid (Read l k D) ∧ Hid (Below w.heap.size w wr)) (fun _ c _ => l.length - (intOf c).toNat)
  case atStart => exact ⟨0, ⟨#[]⟩, Nat.zero_le _, rfl, rfl, by decide, ⟨rfl, fun j hj => by omega⟩, Below.refl _ _⟩
  case round =>
    obtain ⟨k, D, hk, rfl, rfl, hD, R, HB⟩ := hrel
    by_cases hlt : k < l.length
    · have hc1 := cell_after HB.out (HC.out k hlt)
      have HD : Hid (Calls _ _ _ _ _) := rdecode_any (l.getD k ByteArray.empty) wr (HZ.out k hlt)
      by_cases hok : Pg.Ok (l.getD k ByteArray.empty).data.toList
      · rw [Pg.dec_yes hok] at HD
        have R2 := read_next R.out hlt hok ⟨(Pg.tell (l.getD k ByteArray.empty).data.toList).toArray⟩ rfl
        have h2 := told_le l (k + 1) R2.2 hlt
        rw [← R2.1, size_list] at h2
        have R2 : Hid _ := R2
        have hd2 : (⟨(Pg.tell (l.getD k ByteArray.empty).data.toList).toArray⟩ : ByteArray).size ≤ 122 := Pg.tell_le hok
        replace HD : Hid (Calls Try.prog 17 #[.string (l.getD k ByteArray.empty)] wr fun e w' => e = .returned (.tuple #[.string ⟨(Pg.tell (l.getD k ByteArray.empty).data.toList).toArray⟩, .int .i64 0]) ∧ Below wr.heap.size wr w') := HD
        generalize (⟨(Pg.tell (l.getD k ByteArray.empty).data.toList).toArray⟩ : ByteArray) = d at HD R2 h2 hd2
        have HN : Hid ((D ++ d).size ≤ 122000) := by show (D ++ d).size ≤ 122000; omega
        clear hok R h2
        generalize l.getD k ByteArray.empty = s at hc1 HD
        go_wp2_with fail
        refine Calls.mono HD.out ?_
        rintro e w1 ⟨rfl, hb1⟩
        have HB1 : Hid (Below w.heap.size w w1) := bnext HB.out hb1
        clear hb1 HD
        go_wp2
        go_roundw
        case rel => exact ⟨k + 1, D ++ d, by omega, by go_num, rfl, HN.out, R2, HB1⟩
        case measure => simp [intOf]; omega
      · have HX : Hid (J = ([], 50)) := by
          show J = _
          rw [← HJ.out]
          exact Pg.join_no fun h => hok (HF.out h k hlt).1
        rw [Pg.dec_no hok] at HD
        clear hok
        generalize l.getD k ByteArray.empty = s at hc1 HD
        go_wp2_with fail
        refine Calls.mono HD.out ?_
        rintro e w1 ⟨rfl, hb1⟩
        have HB1 : Hid (Below w.heap.size w w1) := bnext HB.out hb1
        clear hb1 HD
        go_wp2
        go_ret2
        exact ⟨by rw [HX.out]; rfl, HB1.out⟩
    · obtain rfl : k = l.length := by omega
      have HSP : Hid (Calls _ _ _ _ _) := rsplit_any _ D wr (Nat.le_refl _) (by omega)
      rw [R.out.1] at HSP
      have HY : Hid ((Pg.split (told l l.length)).map text = l → J = (D.data.toList, 0)) := by
        intro h
        rw [← HJ.out, R.out.1]
        exact join_same R.out.2 h
      have HN : Hid ((Pg.split (told l l.length)).map text ≠ l → J = ([], 50)) := by
        intro h
        rw [← HJ.out]
        exact join_other h
      have hml : ((Pg.split (told l l.length)).map text).length ≤ 2000 := by
        rw [List.length_map, Pg.split_length, Pg.parts_count, ← R.out.1, size_list]
        omega
      generalize (Pg.split (told l l.length)).map text = m at HSP HY HN hml
      clear HJ HF HZ R
      go_wp2_with fail
      refine Calls.mono HSP.out ?_
      rintro e w1 ⟨v, rfl, hs1, hb1⟩
      have HB1 : Hid (Below w.heap.size w w1) := bnext HB.out hb1
      clear hb1 HSP
      obtain ⟨a1, cap1, rfl, _, hs1⟩ := hs1
      by_cases hml2 : m.length = l.length
      · obtain ⟨b1, off1, rfl, hc1⟩ : ∃ b off, a1 = some ⟨b, off, none⟩ ∧ ∀ j, j < m.length → w1.cell? ⟨b, off + j, none⟩ = some (.string (m.getD j ByteArray.empty)) := by
          rcases hs1 with h | h
          · rw [h] at hml2; simp at hml2; omega
          · exact h
        have HC1 : Hid _ := hc1
        have HL : Hid _ := hml2
        have HCw : Hid (∀ j, j < l.length → w1.cell? ⟨b, off + j, none⟩ = some (.string (l.getD j ByteArray.empty))) := fun j hj => cell_after HB1.out (HC.out j hj)
        clear hc1 hs1 HC
        rw [hml2] at HC1 ⊢
        clear hml2 hml
        go_wp2
        go_loopw [9] (fun c wr => ∃ k : Nat, k ≤ l.length ∧ c = .int .i64 k ∧ Hid (m.take k = l.take k) ∧ Hid (Below w1.heap.size w1 wr)) (fun c _ => l.length - (intOf c).toNat)
        case atStart => exact ⟨0, Nat.zero_le _, rfl, rfl, Below.refl _ _⟩
        case round =>
          obtain ⟨k, hk, rfl, HT, HBr⟩ := hrel
          by_cases hk2 : k < l.length
          · have c1 := cell_after HBr.out (HC1.out k hk2)
            have c2 := cell_after HBr.out (HCw.out k hk2)
            have HX : Hid _ := take_succ m k (by rw [HL.out]; exact hk2)
            have HZ : Hid _ := take_succ l k hk2
            have HS : Hid (m.getD k ByteArray.empty ≠ l.getD k ByteArray.empty → m ≠ l) := same_stop
            have HBd : Hid (Below w1.heap.size w1 wr.drew) := HBr.out.drew
            generalize m.getD k ByteArray.empty = p at *
            generalize l.getD k ByteArray.empty = q at *
            by_cases hpq : p = q
            · subst hpq
              go_wp2
              go_region
              all_goals go_wp2
              go_roundw
              case rel => exact ⟨k + 1, by omega, by go_num, (show m.take (k + 1) = l.take (k + 1) by rw [HX.out, HZ.out, HT.out]), HBd⟩
              case measure => simp [intOf]; omega
            · have hpb := text_ne hpq
              have HJ2 : Hid (J = ([], 50)) := HN.out (HS.out hpq)
              have HBe : Hid (Below w.heap.size w wr.drew) := bnext HB1.out HBd.out
              clear hpq HS
              go_wp2
              go_region
              all_goals go_wp2
              go_ret2
              exact ⟨by rw [HJ2.out]; rfl, HBe.out⟩
          · obtain rfl : k = l.length := by omega
            have HJ2 : Hid (J = (D.data.toList, 0)) := HY.out (same_upto HL.out.symm HL.out HT.out)
            have HBe : Hid (Below w.heap.size w wr) := bnext HB1.out HBr.out
            go_wp2
            go_ret2
            exact ⟨by rw [HJ2.out]; rfl, HBe.out⟩
      · have hb2 : ((m.length : Int) == (l.length : Int)) = false := by simp; omega
        have HJ2 : Hid (J = ([], 50)) := HN.out fun e => hml2 (by rw [e])
        clear hml2 hs1
        generalize hmm : m.length = M at *
        clear hmm
        go_wp2
        go_ret2
        exact ⟨by rw [HJ2.out]; rfl, HB1.out⟩

theorem rjoin_any (v : Value) (l : List ByteArray) (w : World) (h : Strs w v l) (hl : l.length ≤ 1000) (hz : ∀ s ∈ l, s.size ≤ 9223372036854775807) :
    Calls Try.prog 19 #[v] w fun e w' => e = .returned (.tuple #[.string ⟨(Pg.join (lists l)).1.toArray⟩, .int .i64 (Pg.join (lists l)).2]) ∧ Below w.heap.size w w' := by
  obtain ⟨a, cap, rfl, _, h⟩ := h
  by_cases h0 : l = []
  · subst h0
    exact rjoin_none a cap w
  · rcases h with rfl | ⟨b, off, rfl, hc⟩
    · exact absurd rfl h0
    · exact rjoin_some b off cap l w (List.length_pos_iff.2 h0) hl hz hc

end Go.Proofs.Ytnlglmloineapaa
