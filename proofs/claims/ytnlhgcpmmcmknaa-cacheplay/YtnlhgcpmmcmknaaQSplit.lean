/- The walks of pages.Split: the maker's method value that is handed the data part by part. -/
import Derived.Test.YtnlhgcpmmcmknaaQDec
import Derived.Test.YtnlhgcpmmcmknaaQStrs
import Derived.Deep.RegionLaw
import Derived.Deep.AppendLies
import Derived.OneCell
namespace Go.Proofs.Ytnlhgcpmmcmknaa
open Go.RowKit

theorem Try.stringInfo : (Try.prog.info? 9).map (fun i => (i.zero, i.size, i.bytes)) = some (some (.string ⟨#[]⟩), 1, 16) := by kernel_rfl

/-- A list of bytes as a text. -/
def text (l : List UInt8) : ByteArray := ⟨l.toArray⟩
theorem text_toList (l : List UInt8) : (text l).data.toList = l := rfl
theorem text_of (s : ByteArray) : text s.data.toList = s := rfl

/-- The maker in block B has made the pages l. -/
structure Making (W : World) (B : Nat) (v : Value) (l : List ByteArray) : Prop where
  block : W.heap[B]? = some (.cells #[v] 100 (0, 0))
  row : W.ownsRow (B + 1) 9 1 v l.length (scells l)

theorem Making.cell {W : World} {B : Nat} {v : Value} {l : List ByteArray} (h : Making W B v l) : W.cell? ⟨B, 0, none⟩ = some v := by
  simp [World.cell?, h.block]
theorem Making.free {W : World} {B : Nat} {v : Value} {l : List ByteArray} (h : Making W B v l) : W.frozen? ⟨B, 0, none⟩ = false := by
  simp [World.frozen?, h.block]
theorem Making.lt {W : World} {B : Nat} {v : Value} {l : List ByteArray} (h : Making W B v l) : B < W.heap.size := World.block_lt_of_cell? _ _ h.cell

theorem making_put {W : World} {B g cap : Nat} {v : Value} {l : List ByteArray} {p : ByteArray} (hblk : W.heap[B]? = some (.cells #[v] 100 (0, 0)))
    (hown : W.ownsRow (B + 1) 9 1 (.slice (some ⟨g, 0, none⟩) (l.length + 1) cap) (l.length + 1) (scells l ++ [.string p])) :
    Making (W.setCell ⟨B, 0, none⟩ (.slice (some ⟨g, 0, none⟩) (l.length + 1) cap)) B (.slice (some ⟨g, 0, none⟩) (l.length + 1) cap) (l ++ [p]) := by
  refine ⟨one_setCell hblk, ?_⟩
  have := ownsRow_setCell_below hown (a := ⟨B, 0, none⟩) (Nat.lt_succ_self B) (.slice (some ⟨g, 0, none⟩) (l.length + 1) cap)
  rw [List.length_append, List.length_singleton, show scells (l ++ [p]) = scells l ++ [.string p] by simp [scells]]
  exact this

set_option maxRecDepth 100000 in
set_option maxHeartbeats 2000000 in
theorem add_any (B : Nat) (v : Value) (l : List ByteArray) (s : ByteArray) (w : World) (h : Making w B v l) (hs : s.size ≤ 122) (hl : l.length ≤ 4000000000000) :
    Calls Try.prog 64 #[.pointer (some ⟨B, 0, none⟩), .string s] w fun e w' => e = .returned (.tuple #[]) ∧ (∃ v', Making w' B v' (l ++ [text (Pg.page s.data.toList)])) ∧ Below B w w' := by
  obtain ⟨i0, hi, hz0, hz1, hz2⟩ := info_parts Try.stringInfo
  have HP : Hid (∀ W, Calls Try.prog 54 #[.string s] W fun e w' => e = .returned (.string (text (Pg.page s.data.toList))) ∧ Below W.heap.size W w') := fun W => pageOf_any s W hs
  obtain ⟨p, HQ⟩ : ∃ p, Hid (text (Pg.page s.data.toList) = p) := ⟨_, rfl⟩
  rw [HQ.out] at HP ⊢
  have hc := h.cell
  have hf := h.free
  have hlt := h.lt
  have hne : some B ≠ v.ownBlock := fun e => by have := (h.row.lt B e.symm).1; omega
  have HM : Hid _ := h
  have HNE : Hid _ := hne
  clear hne
  go_enter Try.func64, Try.ntmps64
  go_wp2_with fail
  go_region_law
    (first
      | (refine step_append_lies _ (by rfl) _ _ _ (by rfl) (B + 1) 9 i0 (.string ⟨#[]⟩) 1 16 Try.underlying78 hi hz0 hz1 hz2 rfl (by omega) v l.length (scells l) (by rfl) ((row_after HM.out.row hb1.out).alloc _)
          ⟨w1.heap.size, 0, none⟩ 1 1 [.string p] (by rfl) (by rfl) (World.news_of_block (cs := #[.string p]) (t := 9) (fr := (0, 0)) (heap_alloc_new w1 _)) (by simp [Value.oneCell'])
          (by omega) (by unfold maxLen; omega) (by omega) (by simp; omega) (w1.heap.size + 1) (by simp) ?_; intro g cap w2 hown hgrow hat hlt2
         have hblk : Hid (w2.heap[B]? = some (.cells #[v] 100 (0, 0))) := (hgrow.block B (by simp; omega) HNE.out).trans ((Below.heap_alloc w1 _ B (by omega)).trans ((hb1.out.block B hlt).trans HM.out.block))
         have hc2 : w2.cell? ⟨B, 0, none⟩ = some v := by simp [World.cell?, hblk.out]
         have hf2 : w2.frozen? ⟨B, 0, none⟩ = false := by simp [World.frozen?, hblk.out]
         have hbel : Hid (Below B w w2) := ((hb1.out.mono (Nat.le_of_lt hlt)).alloc (by omega) _).grown hgrow (by simp; omega) (fun k hk => Nat.le_of_lt (HM.out.row.lt k hk).1)
         have hown : Hid _ := hown
         clear hgrow hat)
      | (go_simp; go_at_call 54; refine (HP.out _).mono ?_; rintro e w1 ⟨rfl, hb0⟩; have hb1 : Hid (Below w.heap.size w w1) := (Below.refl _ w).drew.trans hb0; have hc1 := cell_after hb1.out hc; have hc1a : (w1.alloc (.cells #[.string p] 9)).cell? ⟨B, 0, none⟩ = some v := cell_after ((Below.refl _ w1).alloc (Nat.le_refl _) _) hc1; have hs1 : w.heap.size ≤ w1.heap.size := hb1.out.size; clear hb0))
  all_goals go_wp2
  all_goals go_end0
  all_goals exact ⟨rfl, ⟨_, making_put hblk.out hown.out⟩, hbel.out.setCell (Nat.le_refl _) _⟩

/-- The pages of parts. -/
def made (l : List (List UInt8)) : List ByteArray := l.map fun d => text (Pg.page d)
theorem made_snoc (l : List (List UInt8)) (d : List UInt8) : made (l ++ [d]) = made l ++ [text (Pg.page d)] := by simp [made]
theorem made_length (l : List (List UInt8)) : (made l).length = l.length := by simp [made]
theorem made_split (d : List UInt8) : made (Pg.parts d) = (Pg.split d).map text := by simp [made, Pg.split]

theorem extract_take (s : ByteArray) (k : Nat) : (s.extract 0 k).data.toList = s.data.toList.take k := by
  rw [ByteArray.data_extract]; simp
theorem extract_drop (s : ByteArray) (k : Nat) : (s.extract k s.size).data.toList = s.data.toList.drop k := by
  rw [ByteArray.data_extract]
  simp only [Array.toList_extract, List.extract_eq_take_drop]
  exact List.take_of_length_le (by simp)

set_option maxRecDepth 100000 in
set_option maxHeartbeats 2000000 in
theorem hand_any (B : Nat) (v : Value) (s : ByteArray) (w : World) (h : Making w B v []) (hs : s.size ≤ 140737488351232) :
    Calls Try.prog 63 #[.string s, .func (.func 64) #[.pointer (some ⟨B, 0, none⟩)] #[]] w fun e w' => e = .returned (.tuple #[]) ∧ (∃ v', Making w' B v' (made (Pg.parts s.data.toList))) ∧ Below B w w' := by
  have hlen : s.data.toList.length = s.size := by simp
  have hcnt := Pg.parts_count s.data.toList
  rw [hlen] at hcnt
  have hcnt : Hid ((Pg.parts s.data.toList).length ≤ 1200000000000) := by show (Pg.parts s.data.toList).length ≤ _; omega
  obtain ⟨ps, HPS⟩ : ∃ ps, Hid (Pg.parts s.data.toList = ps) := ⟨_, rfl⟩
  rw [HPS.out] at hcnt ⊢
  have H0 : Hid _ := h
  clear h hlen
  go_enter Try.func63, Try.ntmps63
  go_wp2
  go_loopw [0] (fun x wr => ∃ (t : ByteArray) (done : List (List UInt8)) (v : Value), x = .string t ∧ t.size ≤ 140737488351232 ∧ Hid (done ++ Pg.parts t.data.toList = ps) ∧ Hid (Making wr B v (made done)) ∧ Hid (Below B w wr)) (fun x _ => match x with | .string t => t.size | _ => 0)
  case atStart => exact ⟨s, [], v, rfl, hs, by show [] ++ _ = ps; rw [List.nil_append]; exact HPS.out, H0.out, Below.refl _ _⟩
  case round =>
    clear HPS H0
    obtain ⟨t, done, v1, rfl, ht, HD, HM, HB⟩ := hrel
    have htl : t.data.toList.length = t.size := by simp
    have hdl : done.length + 1 ≤ 1200000000000 := by
      have h1 := HD.out
      have h2 := hcnt.out
      have h3 := Pg.parts_pos t.data.toList
      rw [← h1, List.length_append] at h2
      omega
    by_cases hlt : 122 < t.size
    · have HD2 := HD.out
      rw [Pg.parts_long (by omega), ← extract_take, ← extract_drop] at HD2
      have HD2 : Hid _ := HD2
      have z1 : (t.extract 0 122).size ≤ 122 := by rw [ByteArray.size_extract]; omega
      have z2 : Hid ((t.extract 122 t.size).size = t.size - 122) := by show (t.extract 122 t.size).size = t.size - 122; rw [ByteArray.size_extract]; omega
      have HA : Hid (Calls _ _ _ _ _) := add_any B v1 (made done) (t.extract 0 122) wr HM.out z1 (by rw [made_length]; omega)
      have e1 : Hid _ := made_snoc done (t.extract 0 122).data.toList
      rw [← e1.out] at HA
      clear e1 z1 HM hcnt
      obtain ⟨q, HQ⟩ : ∃ q, Hid (done ++ [(t.extract 0 122).data.toList] = q) := ⟨_, rfl⟩
      rw [HQ.out] at HA
      replace HD2 : Hid (q ++ Pg.parts (t.extract 122 t.size).data.toList = ps) := by
        show q ++ _ = ps
        rw [← HQ.out, List.append_assoc]; exact HD2.out
      clear HQ HD htl
      go_wp2_with fail
      refine Calls.mono HA.out ?_
      rintro e w1 ⟨rfl, ⟨v2, hm2⟩, hb2⟩
      have HM2 : Hid _ := hm2
      have HB2 : Hid (Below B w w1) := HB.out.trans hb2
      clear hm2 hb2
      go_wp2
      go_roundw
      case rel => exact ⟨t.extract 122 t.size, q, v2, rfl, by have := z2.out; omega, HD2, HM2, HB2⟩
      case measure => simp only [z2.out]; omega
    · have HD2 := HD.out
      rw [Pg.parts_short (by omega)] at HD2
      have HD2 : Hid _ := HD2
      have HA : Hid (Calls _ _ _ _ _) := add_any B v1 (made done) t wr HM.out (by omega) (by rw [made_length]; omega)
      have e1 : Hid _ := made_snoc done t.data.toList
      rw [← e1.out, HD2.out] at HA
      clear e1
      go_wp2_with fail
      refine Calls.mono HA.out ?_
      rintro e w1 ⟨rfl, hm2, hb2⟩
      have HM2 : Hid _ := hm2
      have HB2 : Hid (Below B w w1) := HB.out.trans hb2
      clear hm2 hb2
      go_wp2
      go_end0
      exact ⟨rfl, HM2.out, HB2.out⟩

theorem making_new (w : World) : Making (w.alloc (.cells #[.slice none 0 0] 100)) w.heap.size (.slice none 0 0) [] :=
  ⟨heap_alloc_new w _, rfl, .inl ⟨rfl, rfl⟩⟩

set_option maxHeartbeats 1000000 in
theorem split_any (s : ByteArray) (w : World) (hs : s.size ≤ 140737488351232) :
    Calls Try.prog 35 #[.string s] w fun e w' => ∃ v, e = .returned v ∧ Strs w' v ((Pg.split s.data.toList).map text) ∧ Below w.heap.size w w' := by
  have HH : Hid (Calls _ _ _ _ _) := hand_any w.heap.size _ s _ (making_new w) hs
  rw [made_split] at HH
  go_enter Try.func35, Try.ntmps35
  go_wp2_with fail
  refine Calls.mono HH.out ?_
  rintro e w1 ⟨rfl, ⟨v, hm⟩, hb⟩
  have hc := hm.cell
  have HS : Hid (Strs w1 v ((Pg.split s.data.toList).map text)) := Strs.of_own hm.row
  have HB : Hid (Below w.heap.size w w1) := ((Below.refl _ w).alloc (Nat.le_refl _) _).trans hb
  clear hm hb
  go_wp2
  go_ret
  exact ⟨_, rfl, HS.out, HB.out⟩

end Go.Proofs.Ytnlhgcpmmcmknaa
