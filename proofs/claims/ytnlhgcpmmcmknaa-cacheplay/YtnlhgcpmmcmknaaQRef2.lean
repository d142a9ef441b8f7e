/- The walks of the document's own Split and Join (carouselref05). -/
import Derived.Test.YtnlhgcpmmcmknaaQRef
namespace Go.Proofs.Ytnlhgcpmmcmknaa
open Go.RowKit

theorem strs_one (W : World) (q : ByteArray) : Strs (W.alloc (.cells #[.string q] 9)) (.slice (some ⟨W.heap.size, 0, none⟩) 1 1) [q] := by
  refine ⟨_, _, rfl, Nat.le_refl _, .inr ⟨_, _, rfl, fun j hj => ?_⟩⟩
  obtain rfl : j = 0 := by simpa using hj
  rw [cell_of_row _ W.heap.size 0 #[.string q] 9 (0, 0) (heap_alloc_new W _)]
  rfl

theorem scells_cons (q : ByteArray) (l : List ByteArray) : [Value.string q] ++ scells l = scells (q :: l) := rfl
theorem strs_news {W : World} {b off : Nat} {l : List ByteArray} (h : ∀ j, j < l.length → W.cell? ⟨b, off + j, none⟩ = some (.string (l.getD j ByteArray.empty))) :
    ∀ j u, (scells l)[j]? = some u → W.cell? ((⟨b, off, none⟩ : Addr).add j) = some u := by
  intro j u hu
  have hj : j < l.length := by
    have := (List.getElem?_eq_some_iff.1 hu).1
    rwa [scells_length] at this
  rw [scells_get l j hj] at hu
  rw [Go.WideShapes.add_plain, h j hj, hu]

set_option maxHeartbeats 1000000 in
theorem rsplit_short (s : ByteArray) (w : World) (h : s.size ≤ 122) :
    Calls Try.prog 44 #[.string s] w fun e w' => ∃ v, e = .returned v ∧ Strs w' v ((Pg.split s.data.toList).map text) ∧ Below w.heap.size w w' := by
  have hsz := size_list s
  have HE : Hid (∀ W, Calls Try.prog 66 #[.string s] W fun e w' => e = .returned (.tuple #[.string (text (Pg.page s.data.toList)), .int .i64 0]) ∧ Below W.heap.size W w') := fun W => by
    have := rencode_any s W (by omega)
    rw [Pg.enc_yes (by omega)] at this
    exact this
  have HX : Hid ((Pg.split s.data.toList).map text = [text (Pg.page s.data.toList)]) := by
    show (Pg.split s.data.toList).map text = _
    unfold Pg.split
    rw [Pg.parts_short (by omega)]; rfl
  rw [HX.out]
  generalize text (Pg.page s.data.toList) = q at HE
  clear HX hsz
  go_enter Try.func44, Try.ntmps44
  go_wp2_with fail
  refine (HE.out _).mono ?_
  rintro e w1 ⟨rfl, hb1⟩
  have HB1 : Hid (∀ o, Below w.heap.size w (w1.alloc o)) := fun o => Below.alloc hb1 hb1.size o
  have HS : Hid _ := strs_one w1 q
  clear hb1 HE
  go_wp2
  go_ret
  exact ⟨_, rfl, HS.out, HB1.out _⟩

set_option maxRecDepth 100000 in
set_option maxHeartbeats 2000000 in
theorem rsplit_any (n : Nat) : ∀ (s : ByteArray) (w : World), s.size ≤ n → s.size ≤ 1000000000000 →
    Calls Try.prog 44 #[.string s] w fun e w' => ∃ v, e = .returned v ∧ Strs w' v ((Pg.split s.data.toList).map text) ∧ Below w.heap.size w w' := by
  induction n with
  | zero =>
    intro s w h0 _
    exact rsplit_short s w (by omega)
  | succ n ih =>
    intro s w hn hs
    by_cases h1 : s.size ≤ 122
    · exact rsplit_short s w h1
    · have hsz := size_list s
      have HE : Hid (∀ W, Calls Try.prog 66 #[.string (s.extract 0 122)] W fun e w' => e = .returned (.tuple #[.string (text (Pg.page (s.data.toList.take 122))), .int .i64 0]) ∧ Below W.heap.size W w') := fun W => by
        have := rencode_any (s.extract 0 122) W (by rw [ByteArray.size_extract]; omega)
        rw [extract_take, Pg.enc_yes (by rw [List.length_take]; omega)] at this
        exact this
      have z2 : (s.extract 122 s.size).size = s.size - 122 := by rw [ByteArray.size_extract]; omega
      have HR : Hid (∀ W, Calls _ _ _ _ _) := fun W => ih (s.extract 122 s.size) W (by omega) (by omega)
      rw [extract_drop] at HR
      have HX : Hid ((Pg.split s.data.toList).map text = text (Pg.page (s.data.toList.take 122)) :: (Pg.split (s.data.toList.drop 122)).map text) := by
        show (Pg.split s.data.toList).map text = _
        unfold Pg.split
        rw [Pg.parts_long (by omega)]; rfl
      have hcnt : ((Pg.split (s.data.toList.drop 122)).map text).length = max (((s.data.toList.drop 122).length + 121) / 122) 1 := by rw [List.length_map, Pg.split_length, Pg.parts_count]
      rw [List.length_drop, hsz] at hcnt
      rw [HX.out]
      generalize text (Pg.page (s.data.toList.take 122)) = q at HE
      generalize (Pg.split (s.data.toList.drop 122)).map text = l at HR hcnt
      have hl1 : 1 ≤ l.length := by omega
      have hl2 : l.length ≤ 1000000000000 := by omega
      clear hcnt HX z2 ih hsz
      obtain ⟨i0, hi, hz0, hz1, hz2⟩ := info_parts Try.stringInfo
      go_enter Try.func44, Try.ntmps44
      go_wp2_with fail
      refine (HE.out _).mono ?_
      rintro e w1 ⟨rfl, hb1⟩
      have HB1 : Hid (Below w.heap.size w w1) := hb1
      clear hb1 HE
      go_wp2_with fail
      refine (HR.out _).mono ?_
      rintro e w2 ⟨v, rfl, hs2, hb2⟩
      have hown := row_after (World.ownsRow_lit (e := 9) (size := 1) (base := w1.heap.size) w1 #[.string q] 1 (Nat.le_refl _) (by decide) rfl) hb2
      have HB2 : Hid (Below w.heap.size w w2) := bnext (HB1.out.alloc HB1.out.size _) hb2
      have hsz2 : w1.heap.size < w2.heap.size := (hown.lt _ rfl).2
      obtain ⟨a, cap, rfl, _, hs2⟩ := hs2
      obtain ⟨b, off, rfl, hc⟩ : ∃ b off, a = some ⟨b, off, none⟩ ∧ ∀ j, j < l.length → w2.cell? ⟨b, off + j, none⟩ = some (.string (l.getD j ByteArray.empty)) := by
        rcases hs2 with h | h
        · rw [h] at hl1; simp at hl1
        · exact h
      have HC : Hid _ := hc
      clear hb2 hs2 hc HR
      go_wp2_with (at_builtin; refine wpList_append_lies _ rfl _ _ 78 rfl w1.heap.size 9 i0 (.string ⟨#[]⟩) 1 16 Try.underlying78 hi hz0 hz1 hz2 rfl (by omega) _ 1 _ rfl hown ⟨b, off, none⟩ l.length cap (scells l) rfl (by rw [scells_length, Nat.mul_one]) (strs_news HC.out) (scells_one l) (by omega) (by unfold maxLen; omega) (by omega) (by omega) _ rfl ?_)
      intro g cap2 w3 hown3 hgrow hat hlt
      have HB3 : Hid (Below w.heap.size w w3) := HB2.out.grown hgrow HB2.out.size (fun k hk => by simp [Value.ownBlock] at hk; have := HB1.out.size; omega)
      have hown3 : w3.ownsRow w1.heap.size 9 1 (.slice (some ⟨g, 0, none⟩) (1 + l.length) cap2) (1 + l.length) (scells (q :: l)) := hown3
      have HS3 : Hid _ := Strs.of_own hown3
      clear hown3 hown hgrow hat hi hz0 hz1 hz2
      go_wp2
      go_ret
      exact ⟨_, rfl, HS3.out, HB3.out⟩

end Go.Proofs.Ytnlhgcpmmcmknaa
