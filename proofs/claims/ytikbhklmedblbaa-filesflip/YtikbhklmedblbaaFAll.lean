/- The walk of the statements' helper all: all pages of all files but one. -/
import Derived.Test.YtikbhklmedblbaaFOpen
import Derived.Test.YtikbhklmedblbaaFNames
import Derived.Deep.AppendLies
namespace Go.Proofs.Ytikbhklmedblbaa
open Go.RowKit Go.Maps

def pagesOf (p : ByteArray × List ByteArray) : List ByteArray := p.2.flatMap fun s => [p.1, s]
def allOf (fs : Fi.Files) (but : ByteArray) : List ByteArray := (Fi.del fs but).flatMap pagesOf

theorem pagesOf_length (p : ByteArray × List ByteArray) : (pagesOf p).length = 2 * p.2.length := by
  unfold pagesOf
  induction p.2 with
  | nil => rfl
  | cons s t iht => rw [List.flatMap_cons, List.length_append, iht]; simp; omega
theorem allOf_length (fs : Fi.Files) (but : ByteArray) : (allOf fs but).length = 2 * Fi.used (Fi.del fs but) := by
  unfold allOf
  induction Fi.del fs but with
  | nil => rfl
  | cons p r ih =>
    rw [List.flatMap_cons, List.length_append, ih, Fi.used_cons]
    have := pagesOf_length p
    omega
theorem allOf_take (fs : Fi.Files) (but : ByteArray) (i : Nat) (h : i < fs.length) : allOf (fs.take (i + 1)) but = allOf (fs.take i) but ++ (if fs[i].1 = but then [] else pagesOf fs[i]) := by
  unfold allOf
  rw [List.take_add_one, List.getElem?_eq_getElem h]
  unfold Fi.del
  rw [List.filter_append, List.flatMap_append]
  congr 1
  by_cases hb : fs[i].1 = but
  · simp [hb]
  · simp [hb]
theorem pagesOf_take (p : ByteArray × List ByteArray) (k : Nat) (h : k < p.2.length) : pagesOf (p.1, p.2.take (k + 1)) = pagesOf (p.1, p.2.take k) ++ [p.1, p.2.getD k ByteArray.empty] := by
  unfold pagesOf
  simp only
  rw [take_succ p.2 k h, List.flatMap_append]
  rfl
theorem used_take (fs : Fi.Files) (i : Nat) : Fi.used (fs.take i) ≤ Fi.used fs := by
  have h := List.take_append_drop i fs
  have : Fi.used fs = Fi.used (fs.take i) + Fi.used (fs.drop i) := by
    conv => lhs; rw [← h]
    unfold Fi.used
    rw [List.map_append, List.sum_append]
  omega
theorem used_del_le (fs : Fi.Files) (n : ByteArray) : Fi.used (Fi.del fs n) ≤ Fi.used fs := by
  induction fs with
  | nil => exact Nat.le_refl _
  | cons p r ih =>
    by_cases hp : p.1 = n
    · subst hp; rw [Fi.del_cons_same, Fi.used_cons]; omega
    · rw [Fi.del_cons_other hp, Fi.used_cons, Fi.used_cons]; omega

theorem Turn.grown {o o' : Nat → Prop} {a b c : World} {row : Option Nat} (h : Turn o a o' b) (k : b.grownBy c row) (hr : ∀ j, row = some j → a.heap.size ≤ j) : Turn o a o' c :=
  ⟨k.os.trans h.os, k.tape.trans h.tape, k.output.trans h.output, Nat.le_trans h.size k.size, fun i hi ho => (k.block i (Nat.lt_of_lt_of_le hi h.size) (fun e => by have := hr i e.symm; omega)).trans (h.block i hi ho), h.grows⟩
theorem Turn.cell {o o' : Nat → Prop} {a b : World} (h : Turn o a o' b) {p : Addr} {v : Value} (hc : a.cell? p = some v) (ho : ¬ o p.block) : b.cell? p = some v := by
  rw [World.cell?_of_block (a := p) (h.block p.block (World.block_lt_of_cell? _ _ hc) ho)]; exact hc
theorem row_turn {o o' : Nat → Prop} {W W' : World} {base e size : Nat} {v : Value} {n : Nat} {xs : List Value} (h : W.ownsRow base e size v n xs) (ht : Turn o W o' W') (ho : ∀ i, o i → i < base) : W'.ownsRow base e size v n xs :=
  ownsRow_blocks h fun g hg => ht.block g (h.lt g hg).2 (fun h' => by have := ho g h'; have := (h.lt g hg).1; omega)
theorem Sys.grown {W W' : World} {p : Nat} {o : Nat → Prop} {st : Fi.St} {row : Option Nat} (h : Sys W p o st) (hg : W.grownBy W' row) (hr : ∀ i, o i → some i ≠ row) : Sys W' p o st := by
  obtain ⟨mb, T, h1, h2, rfl, h3⟩ := h
  exact ⟨mb, T, h1.stays fun i hi => hg.block i (h1.ownLt i hi) (hr i hi), h2, rfl, h3⟩

/-- What has been gathered so far. -/
structure AllIn (w1 W : World) (p : Nat) (o : Nat → Prop) (st : Fi.St) (a : Int) (v : Value) (D : List ByteArray) : Prop where
  sys : Sys W p o { st with ahead := a }
  turn : Turn o w1 o W
  row : W.ownsRow w1.heap.size 9 1 v D.length (scells D)
  ah : 1099511627776 - (D.length : Int) ≤ a

theorem all_read {st : Fi.St} {n : ByteArray} {l : List ByteArray} {a : Int} {k : Nat} (hr : Fi.rows st.fs n = l) (hk : k < l.length) (ha : 0 < a) : Fi.read { st with ahead := a } n k = (l.getD k ByteArray.empty, 0, { st with ahead := a - 1 }) := by
  have hh : Fi.has { st with ahead := a } n k = true := Fi.has_iff.2 ⟨by omega, by show (k : Int) < (Fi.rows st.fs n).length; rw [hr]; omega⟩
  rw [read_next hh ha]
  show (((Fi.rows st.fs n).getD (k : Int).toNat ByteArray.empty, 0, _) : ByteArray × Int × Fi.St) = _
  rw [hr, Int.toNat_natCast]
theorem scells_two (D : List ByteArray) (n s : ByteArray) : scells D ++ [.string n, .string s] = scells (D ++ [n, s]) := by simp [scells]

/-- A page more. -/
theorem AllIn.more {w1 w2 w3 : World} {p : Nat} {o : Nat → Prop} {st : Fi.St} {a : Int} {v : Value} {D : List ByteArray} {n s : ByteArray} {g cap : Nat} (ho : ∀ i, o i → i < w1.heap.size) (hs : Sys w2 p o { st with ahead := a - 1 }) (ht : Turn o w1 o w2)
    (hrow : w2.ownsRow w1.heap.size 9 1 v D.length (scells D)) (ha : 1099511627776 - (D.length : Int) ≤ a)
    (hown : w3.ownsRow w1.heap.size 9 1 (.slice (some ⟨g, 0, none⟩) (D.length + 2) cap) (D.length + 2) (scells D ++ [.string n, .string s])) (hg : (w2.alloc (.cells #[.string n, .string s] 9)).grownBy w3 v.ownBlock) :
    AllIn w1 w3 p o st (a - 1) (.slice (some ⟨g, 0, none⟩) (D.length + 2) cap) (D ++ [n, s]) := by
  have hv : ∀ j, v.ownBlock = some j → w1.heap.size ≤ j := fun j hj => (hrow.lt j hj).1
  refine ⟨(hs.later ((Below.refl _ w2).alloc (Nat.le_refl _) _)).grown hg fun i hi e => ?_, (ht.grown (World.grownBy_alloc w2 _ none) (by simp)).grown hg hv, ?_, ?_⟩
  · have := hv i e.symm; have := ho i hi; omega
  · rw [scells_two] at hown
    rw [List.length_append]
    exact hown
  · rw [List.length_append]
    simp
    omega

set_option maxRecDepth 100000 in
set_option maxHeartbeats 4000000 in
theorem all_any {p : Nat} {o : Nat → Prop} {st : Fi.St} (but : ByteArray) (w : World) (hs : Sys w p o st) :
    Calls Try.prog 29 #[.pointer (some ⟨p, 0, none⟩), .string but] w fun e w' => ∃ v a, e = .returned v ∧ StrsIn w' (fun b => w.heap.size ≤ b) v (allOf st.fs but) ∧ Sys w' p o { st with ahead := a } ∧ 1000000000000 ≤ a ∧ Turn o w o w' := by
  have HFA : Hid (Calls Try.prog 24 #[.pointer (some ⟨p, 0, none⟩), .int .i64 1099511627776] w fun e w' => e = .returned (.int .i64 0) ∧ Sys w' p o { st with ahead := 1099511627776 } ∧ Turn o w o w') := fail_any 1099511627776 w hs (by decide)
  have hg := hs.good
  have HLT : Hid (∀ i, o i → i < w.heap.size) := hs.lt
  have HG : Hid (Fi.Good st) := hg
  have hcnt : st.fs.length ≤ 4096 := by have := hg.count; have := hg.room2; omega
  have hused : Fi.used st.fs ≤ 4096 := by have := hg.used; have := hg.room2; omega
  obtain ⟨i0, hti, hz0, hz1, hz2⟩ := info_parts Try.textInfo
  clear hs hg
  go_enter Try.func29, Try.ntmps29
  go_wp2_with fail
  refine Calls.mono HFA.out ?_
  rintro e wa ⟨rfl, hsa, hta⟩
  have HSA : Hid (Sys _ _ _ _) := hsa
  have HTA : Hid (Turn _ _ _ _) := hta
  clear hsa hta HFA
  have HNA : Hid (Calls _ _ _ _ _) := names_any _ HSA.out
  go_wp2_with fail
  refine Calls.mono HNA.out ?_
  rintro e w1 ⟨vn, rfl, hsn, hbn⟩
  have HTB : Hid (Turn o w o w1) := HTA.out.trans (Turn.below hbn)
  have hlt1 : ∀ i, o i → i < w1.heap.size := fun i hi => Nat.lt_of_lt_of_le (HLT.out i hi) HTB.out.size
  have HL1 : Hid (∀ i, o i → i < w1.heap.size) := hlt1
  have A0 : Hid (AllIn w1 w1 p o st 1099511627776 (.slice none 0 0) (allOf (st.fs.take 0) but)) := ⟨HSA.out.later hbn, Turn.below (Below.refl _ _), World.ownsRow_nil _ _ _ _, by simp [allOf, Fi.del]⟩
  have HNM : Hid (StrsIn w1 (fun b => ¬ o b) vn (Fi.names st.fs)) := hsn.imp fun b _ h1 h2 => by have := HLT.out b h2; have := HTA.out.size; omega
  clear hsn hbn HSA HTA HNA hlt1
  obtain ⟨an, capn, rfl, hcapn, hvn⟩ := HNM.out
  have HCN : Hid (∀ i (hi : i < st.fs.length), ∃ b off, an = some ⟨b, off, none⟩ ∧ ∀ W, Turn o w1 o W → W.cell? ⟨b, off + i, none⟩ = some (.string (st.fs[i]).1)) := by
    intro i hi
    have hil : i < (Fi.names st.fs).length := by simpa [Fi.names] using hi
    rcases hvn with hvn | ⟨b, off, rfl, hno, hvn⟩
    · rw [hvn] at hil; simp at hil
    · refine ⟨b, off, rfl, fun W hW => hW.cell ?_ hno⟩
      rw [hvn i hil]
      simp [Fi.names, List.getD, hi]
  have hnl : (Fi.names st.fs).length = st.fs.length := by simp [Fi.names]
  rw [hnl] at *
  clear HNM hvn hnl
  go_wp2
  go_loopw [5, 7] (fun x y wr => ∃ (i : Nat) (a : Int), i ≤ st.fs.length ∧ y = .int .i64 i ∧ Hid (AllIn w1 wr p o st a x (allOf (st.fs.take i) but))) (fun _ y _ => st.fs.length - (intOf y).toNat)
  case atStart => exact ⟨0, _, Nat.zero_le _, rfl, A0⟩
  case round =>
    clear A0
    obtain ⟨i, a, hi, rfl, A⟩ := hrel
    by_cases hil : i < st.fs.length
    · obtain ⟨b, off, rfl, hcn⟩ := HCN.out i hil
      have HCI : Hid _ := hcn
      have HTK : Hid _ := allOf_take st.fs but i hil
      have hD0 : Hid ((allOf (st.fs.take i) but).length ≤ 8192) := by
        show _ ≤ _
        rw [allOf_length]
        have := used_del_le (st.fs.take i) but
        have := used_take st.fs i
        omega
      have hmem := List.getElem_mem hil
      have hme := HG.out.each _ hmem
      have hfd : Fi.rows st.fs (st.fs[i]).1 = (st.fs[i]).2 := by
        unfold Fi.rows
        rw [Fi.find_of_mem HG.out.sorted (n := (st.fs[i]).1) (a := (st.fs[i]).2) hmem]; rfl
      have hnb := name_bound hme.1
      have hpl : (st.fs[i]).2.length ≤ 4096 := by rw [← hfd]; have := Fi.rows_le HG.out.sorted (st.fs[i]).1; omega
      have HFD : Hid (_ = _) := hfd
      have HPT : Hid _ := pagesOf_take (st.fs[i])
      have HPF : Hid (pagesOf (st.fs[i].1, (st.fs[i]).2.take (st.fs[i]).2.length) = pagesOf (st.fs[i])) := by show _ = _; rw [List.take_length]
      clear hcn hmem hme hfd
      generalize st.fs[i] = pr at *
      obtain ⟨N, pgs⟩ := pr
      simp only at *
      generalize hDD : allOf (st.fs.take i) but = D0 at *
      clear hDD
      have hci := HCI.out wr A.out.turn
      by_cases hbn : N = but
      · subst hbn
        rw [if_pos rfl, List.append_nil] at HTK
        have A2 : Hid (AllIn w1 wr p o st a u5 (allOf (st.fs.take (i + 1)) N)) := by rw [HTK.out]; exact A.out
        clear HCI HTK HPT HPF A HFD
        go_wp2
        refine wp_loop_rounds 1 ?_
        rw [rounds_succ]
        go_wp2
        go_roundw
        case rel => exact ⟨i + 1, a, by omega, by go_num, A2⟩
        case measure => simp [intOf]; omega
      · rw [if_neg hbn] at HTK
        have hne := text_ne hbn
        have A1 : Hid (AllIn w1 wr p o st a u5 (D0 ++ pagesOf (N, pgs.take 0))) := by
          have : pagesOf (N, pgs.take 0) = [] := rfl
          rw [this, List.append_nil]; exact A.out
        clear A hci hbn
        go_wp2
        go_loopw [5, 8] (fun x y ws => ∃ (k : Nat) (a : Int), k ≤ pgs.length ∧ y = .int .i64 k ∧ Hid (AllIn w1 ws p o st a x (D0 ++ pagesOf (N, pgs.take k)))) (fun _ y _ => pgs.length - (intOf y).toNat)
        case atStart => exact ⟨0, a, Nat.zero_le _, rfl, A1⟩
        case round =>
          clear A1
          obtain ⟨k, a1, hk, rfl, A⟩ := hrel
          have hci := HCI.out wr A.out.turn
          have HPG : Hid (Calls Try.prog 18 #[.pointer (some ⟨p, 0, none⟩), .string N] wr fun e w' => e = .returned (.int .i64 pgs.length) ∧ w' = wr) := by
            have := pages_any N wr A.out.sys (by unfold maxLen; omega)
            rwa [HFD.out] at this
          by_cases hkl : k < pgs.length
          · have hlen : (D0 ++ pagesOf (N, pgs.take k)).length ≤ 20000 := by
              rw [List.length_append]
              have h1 := hD0.out
              have h2 : (pagesOf (N, pgs.take k)).length ≤ 2 * 4096 := by
                rw [pagesOf_length, List.length_take]
                omega
              omega
            have ha1 := A.out.ah
            have HRD : Hid (Calls _ _ _ _ _) := read_any N (k : Int) wr A.out.sys (by unfold maxLen; omega)
            rw [all_read HFD.out hkl (by omega)] at HRD
            have HPT1 : Hid _ := HPT.out k hkl
            generalize hDk : D0 ++ pagesOf (N, pgs.take k) = D at *
            have HD2 : Hid (D0 ++ pagesOf (N, pgs.take (k + 1)) = D ++ [N, pgs.getD k ByteArray.empty]) := by show _ = _; rw [HPT1.out, ← hDk, List.append_assoc]
            generalize pgs.getD k ByteArray.empty = sk at *
            clear hDk HPT1
            go_wp2_with fail
            refine Calls.mono HPG.out ?_
            rintro e w2 ⟨rfl, rfl⟩
            go_wp2_with fail
            refine Calls.mono HRD.out ?_
            rintro e w3 ⟨rfl, hs3, ht3⟩
            have HS3 : Hid (Sys _ _ _ _) := hs3
            have HT3 : Hid (Turn o w1 o w3) := A.out.turn.trans ht3
            have HR3 : Hid (World.ownsRow _ _ _ _ _ _ _) := row_turn A.out.row ht3 HL1.out
            have hc3 := HCI.out w3 HT3.out
            have hsz3 : w1.heap.size ≤ w3.heap.size := HT3.out.size
            clear hs3 ht3 A HRD HPG hci
            go_wp2_with (at_builtin; refine wpList_append_lies _ rfl _ _ 32 rfl w1.heap.size 9 i0 (.string ⟨#[]⟩) 1 16 Try.underlying32 hti hz0 hz1 hz2 rfl (by omega) _ D.length (scells D) rfl (HR3.out.alloc _) ⟨w3.heap.size, 0, none⟩ 2 2 [.string N, .string sk] rfl rfl (World.news_of_block (cs := #[.string N, .string sk]) (t := 9) (fr := (0, 0)) (heap_alloc_new w3 _)) (by simp [Value.oneCell']) (by omega) (by unfold maxLen; omega) (by omega) (by simp; omega) _ rfl ?_)
            intro g cap4 w4 hown4 hgrow4 hat4 hlt4
            have A4 : Hid (AllIn w1 w4 p o st (a1 - 1) (.slice (some ⟨g, 0, none⟩) (D.length + 2) cap4) (D0 ++ pagesOf (N, pgs.take (k + 1)))) := by rw [HD2.out]; exact AllIn.more HL1.out HS3.out HT3.out HR3.out ha1 hown4 hgrow4
            clear hown4 hgrow4 hat4 hlt4 HS3 HT3 HR3 hc3
            go_wp2
            go_roundw
            case rel => exact ⟨k + 1, a1 - 1, by omega, by go_num, A4⟩
            case measure => simp [intOf]; omega
          · obtain rfl : k = pgs.length := by omega
            have A2 : Hid (AllIn w1 wr p o st a1 u5 (allOf (st.fs.take (i + 1)) but)) := by rw [HTK.out, ← HPF.out]; exact A.out
            clear A
            go_wp2_with fail
            refine Calls.mono HPG.out ?_
            rintro e w2 ⟨rfl, rfl⟩
            go_wp2
            go_roundw
            case rel => exact ⟨i + 1, a1, by omega, by go_num, A2⟩
            case measure => simp [intOf]; omega
    · obtain rfl : i = st.fs.length := by omega
      go_wp2
      go_ret
      have hA := A.out
      rw [List.take_length] at hA
      refine ⟨_, a, rfl, (StrsIn.of_own hA.row).imp fun b _ hb => Nat.le_trans HTB.out.size hb, hA.sys, ?_, HTB.out.trans hA.turn⟩
      have h1 := hA.ah
      have h2 := allOf_length st.fs but
      have h3 := used_del_le st.fs but
      omega

end Go.Proofs.Ytikbhklmedblbaa
