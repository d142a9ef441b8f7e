/- The walks of the document's own set, Fail, Read, Remove, Write, Put and Flip. -/
import Derived.Test.YtnlhgcpmmcmknaaFRef
namespace Go.Proofs.Ytnlhgcpmmcmknaa
open Go.RowKit Go.Maps

/-- One file more is gone through: what has been laid out yet, and whether the new one is among it. -/
def stepF (n : ByteArray) (x : Value × List ByteArray) (s : Tab × Bool) (t : ByteArray × (Value × List ByteArray)) : Tab × Bool :=
  if s.2 = false ∧ Fi.lt t.1 n = false then (if t.1 = n then s.1 ++ [(n, x)] else s.1 ++ [(n, x)] ++ [t], true) else (if t.1 = n then s.1 else s.1 ++ [t], s.2)
def finF (n : ByteArray) (x : Value × List ByteArray) (s : Tab × Bool) : Tab := if s.2 = false then s.1 ++ [(n, x)] else s.1

theorem foldF_done (n : ByteArray) (x : Value × List ByteArray) : ∀ (T acc : Tab), T.foldl (stepF n x) (acc, true) = (acc ++ Fi.del T n, true)
  | [], acc => by simp [Fi.del]
  | t :: T, acc => by
    rw [List.foldl_cons, stepF, if_neg (by simp)]
    by_cases h : t.1 = n
    · rw [if_pos h, foldF_done n x T acc, ← h, Fi.del_cons_same]
    · rw [if_neg h, foldF_done n x T _, Fi.del_cons_other h, List.append_assoc]; rfl
theorem foldF_open (n : ByteArray) (x : Value × List ByteArray) : ∀ (T acc : Tab), Fi.Sorted T → finF n x (T.foldl (stepF n x) (acc, false)) = acc ++ Fi.put T n x
  | [], acc, _ => by simp [finF, Fi.put, Fi.del, Fi.ins]
  | t :: T, acc, hs => by
    obtain ⟨h1, h2⟩ := List.pairwise_cons.1 hs
    rw [List.foldl_cons, stepF]
    by_cases hl : Fi.lt t.1 n = true
    · rw [if_neg (by simp [hl]), if_neg (Fi.lt_ne hl)]
      rw [foldF_open n x T _ h2, Fi.put, Fi.put, Fi.del_cons_other (Fi.lt_ne hl), Fi.ins, if_neg (by rw [Fi.lt_asymm hl]; simp), List.append_assoc]; rfl
    · have hl : Fi.lt t.1 n = false := by simpa using hl
      rw [if_pos ⟨rfl, hl⟩]
      by_cases h : t.1 = n
      · subst h
        have hn : Fi.find T t.1 = none := Fi.find_of_none fun q hq => (Fi.lt_ne (h1 q hq)).symm
        rw [if_pos rfl, foldF_done, finF, if_neg (by simp), Fi.put, Fi.del_cons_same, Fi.del_none hn, Fi.ins_head (x := (t.1, x)) h1, List.append_assoc]; rfl
      · have hnt : Fi.lt n t.1 = true := by
          rcases Fi.lt_total h with h' | h'
          · rw [hl] at h'; cases h'
          · exact h'
        rw [if_neg h, foldF_done, finF, if_neg (by simp), Fi.put, Fi.del_cons_other h, Fi.ins, if_pos hnt]
        simp
/-- What is laid out in the end. -/
def setT (T : Tab) (n : ByteArray) (x : Value × List ByteArray) : Tab := if x.2 = [] then Fi.del T n else Fi.put T n x
theorem setT_fold (T : Tab) (hs : Fi.Sorted T) (n : ByteArray) (x : Value × List ByteArray) : finF n x (T.foldl (stepF n x) ([], decide (x.2 = []))) = setT T n x := by
  unfold setT
  by_cases h : x.2 = []
  · rw [if_pos h, decide_eq_true h, foldF_done, finF, if_neg (by simp)]; rfl
  · rw [if_neg h, decide_eq_false h, foldF_open n x T [] hs]; rfl
theorem setT_files (T : Tab) (n : ByteArray) (v : Value) (l : List ByteArray) : filesOf (setT T n (v, l)) = Fi.set (filesOf T) n l := by
  unfold setT Fi.set
  simp only
  split
  · exact files_del T n
  · exact files_put T n v l
theorem setT_mem {T : Tab} {n : ByteArray} {x : Value × List ByteArray} {t : ByteArray × (Value × List ByteArray)} (h : t ∈ setT T n x) : t = (n, x) ∨ t ∈ T := by
  unfold setT at h
  split at h
  · exact .inr (Fi.mem_del.1 h).1
  · rcases Fi.mem_put.1 h with h | h
    · exact .inl h
    · exact .inr h.1
theorem foldF_mem {n : ByteArray} {x : Value × List ByteArray} : ∀ (T : Tab) (s : Tab × Bool) (t : ByteArray × (Value × List ByteArray)), t ∈ (T.foldl (stepF n x) s).1 → t = (n, x) ∨ t ∈ T ∨ t ∈ s.1
  | [], _, _, h => .inr (.inr h)
  | u :: T, s, t, h => by
    rw [List.foldl_cons] at h
    rcases foldF_mem T _ t h with h | h | h
    · exact .inl h
    · exact .inr (.inl (List.mem_cons_of_mem _ h))
    · unfold stepF at h
      split at h
      · split at h
        · rcases List.mem_append.1 h with h | h
          · exact .inr (.inr h)
          · exact .inl (List.mem_singleton.1 h)
        · rcases List.mem_append.1 h with h | h
          · rcases List.mem_append.1 h with h | h
            · exact .inr (.inr h)
            · exact .inl (List.mem_singleton.1 h)
          · exact .inr (.inl (by rw [List.mem_singleton.1 h]; simp))
      · split at h
        · exact .inr (.inr h)
        · rcases List.mem_append.1 h with h | h
          · exact .inr (.inr h)
          · exact .inr (.inl (by rw [List.mem_singleton.1 h]; simp))
theorem foldF_length (n : ByteArray) (x : Value × List ByteArray) : ∀ (T : Tab) (s : Tab × Bool), ((T.foldl (stepF n x) s).1).length ≤ s.1.length + 2 * T.length
  | [], s => by simp
  | u :: T, s => by
    rw [List.foldl_cons]
    have := foldF_length n x T (stepF n x s u)
    have h2 : ((stepF n x s u).1).length ≤ s.1.length + 2 := by
      unfold stepF
      split <;> split <;> simp
    simp only [List.length_cons]
    omega
theorem fold_take (n : ByteArray) (x : Value × List ByteArray) (T : Tab) (s : Tab × Bool) (k : Nat) (h : k < T.length) : (T.take (k + 1)).foldl (stepF n x) s = stepF n x ((T.take k).foldl (stepF n x) s) (T[k]) := by
  rw [List.take_add_one, List.getElem?_eq_getElem h, List.foldl_append]; rfl

theorem Try.fileInfo : (Try.prog.info? 90).map (fun i => (i.zero, i.size, i.bytes)) = some (some (.agg #[.string ⟨#[]⟩, .slice none 0 0]), 2, 40) := by kernel_rfl

theorem row_shape {W : World} {base e size : Nat} {v : Value} {n : Nat} {xs : List Value} (h : W.ownsRow base e size v n xs) : ∃ a m c, v = .slice a m c := by
  rcases h.2 with ⟨rfl, _⟩ | ⟨g, cap, cur, rfl, _⟩
  · exact ⟨_, _, _, rfl⟩
  · exact ⟨_, _, _, rfl⟩
theorem two_one {n : ByteArray} {v : Value} (hv : v.oneCell' = true) : ∀ u ∈ [Value.string n, v], u.oneCell' = true := by
  intro u hu
  simp at hu
  rcases hu with rfl | rfl
  · rfl
  · exact hv

theorem StrsIn.off {W : World} {ok : Nat → Prop} {r q : Nat} {u v : Value} {l : List ByteArray} (h : StrsIn W (fun b => ok b ∧ b ≠ r) v l) : StrsIn (W.setCell ⟨r, q, none⟩ u) ok v l := by
  obtain ⟨a, cap, rfl, hc, h⟩ := h
  refine ⟨a, cap, rfl, hc, ?_⟩
  rcases h with h | ⟨b, off, rfl, ⟨ho, hr⟩, h⟩
  · exact .inl h
  · refine .inr ⟨b, off, rfl, ho, fun j hj => ?_⟩
    rw [World.cell?_of_block (a := ⟨b, off + j, none⟩) (Below.heap_setCell _ _ _ _ hr)]
    exact h j hj

/-- The list of files is another one, in a new row. -/
theorem ref_after {w W : World} {ok : Nat → Prop} {r room : Nat} {ahead : Int} {vL : Value} {T : Tab} (h : RefAt w ok r room ahead vL T) (hb : Below w.heap.size w W) {va : Value} {A : Tab} (hrow : W.ownsRow w.heap.size 90 2 va A.length (fcells A))
    (hp : ∀ t ∈ A, StrsIn w ok t.2.1 t.2.2) (hok : ∀ i, w.heap.size ≤ i → ok i) : RefAt (W.setCell ⟨r, 2, none⟩ va) ok r room ahead va A ∧ Turn (fun i => i = r) w (fun i => i = r) (W.setCell ⟨r, 2, none⟩ va) := by
  have hW := h.later hb
  refine ⟨⟨heap_setCell_same W r 2 _ _ va hW.block, ?_, fun g hg => hok g (hrow.lt g hg).1, fun t ht => ?_, h.self⟩, (Turn.below hb).trans (turn_set (o := fun i => i = r) (a := ⟨r, 2, none⟩) rfl _)⟩
  · have := ownsRow_blocks (W' := W.setCell ⟨r, 2, none⟩ va) hrow fun g hg => Below.heap_setCell _ _ _ _ (by have := (hrow.lt g hg).1; have := h.lt; show g ≠ r; omega)
    exact row_zero this
  · exact (hW.pageOff ((hp t ht).later hb)).off

theorem stepF_skip {n : ByteArray} {x : Value × List ByteArray} {A : Tab} {d : Bool} {t : ByteArray × (Value × List ByteArray)} (h : d = true ∨ Fi.lt t.1 n = true) : stepF n x (A, d) t = (if t.1 = n then A else A ++ [t], d) := by
  unfold stepF
  rw [if_neg (by rintro ⟨h1, h2⟩; simp only at h1; rcases h with h | h; rw [h] at h1; cases h1; rw [h] at h2; cases h2)]
theorem stepF_here {n : ByteArray} {x : Value × List ByteArray} {A : Tab} {t : ByteArray × (Value × List ByteArray)} (h : Fi.lt t.1 n = false) : stepF n x (A, false) t = (if t.1 = n then A ++ [(n, x)] else A ++ [(n, x)] ++ [t], true) := by
  unfold stepF
  rw [if_pos ⟨rfl, h⟩]
theorem less_before : ∀ x y : List UInt8, Op.bytesLess x y = bytesBefore x y
  | [], [] => by simp [Op.bytesLess, bytesBefore]
  | _ :: _, [] => by simp [Op.bytesLess, bytesBefore]
  | [], _ :: _ => by simp [Op.bytesLess, bytesBefore]
  | a :: x, b :: y => by rw [Op.bytesLess, bytesBefore, less_before x y]
theorem less_lt (a b : ByteArray) : Op.bytesLess a.toList b.toList = Fi.lt a b := by
  rw [less_before, ByteArray.toList_eq, ByteArray.toList_eq]; rfl

set_option maxRecDepth 100000 in
set_option maxHeartbeats 2000000 in
theorem rset_any {ok : Nat → Prop} {r room : Nat} {ahead : Int} {vL : Value} {T : Tab} (n : ByteArray) (v : Value) (l : List ByteArray) (w : World) (h : RefAt w ok r room ahead vL T) (hT : Fi.Sorted T) (hcnt : T.length ≤ 4096) (hs : StrsIn w ok v l) (hl : l.length ≤ 1000000) (hok : ∀ i, w.heap.size ≤ i → ok i) :
    Calls Try.prog 73 #[.pointer (some ⟨r, 0, none⟩), .string n, v] w fun e w' => e = .returned (.tuple #[]) ∧ ∃ vL', RefAt w' ok r room ahead vL' (setT T n (v, l)) ∧ Turn (fun i => i = r) w (fun i => i = r) w' := by
  have HAF : Hid (∀ W va A, Below w.heap.size w W → W.ownsRow w.heap.size 90 2 va A.length (fcells A) → A = setT T n (v, l) → RefAt (W.setCell ⟨r, 2, none⟩ va) ok r room ahead va (setT T n (v, l)) ∧ Turn (fun i => i = r) w (fun i => i = r) (W.setCell ⟨r, 2, none⟩ va)) := by
    intro W va A hb hrow hA
    subst hA
    refine ref_after h hb hrow (fun t ht => ?_) hok
    rcases setT_mem ht with rfl | ht
    · exact hs
    · exact h.pages t ht
  have HFI : Hid (∀ A d, T.foldl (stepF n (v, l)) ([], decide (l = [])) = (A, d) → finF n (v, l) (A, d) = setT T n (v, l)) := fun A d e => by rw [← e]; exact setT_fold T hT n (v, l)
  have HFT : Hid _ := fold_take n (v, l) T ([], decide (l = []))
  have HFL : Hid (∀ k, (((T.take k).foldl (stepF n (v, l)) ([], decide (l = []))).1).length ≤ 8192) := fun k => by
    have := foldF_length n (v, l) (T.take k) ([], decide (l = []))
    have h2 := List.length_take_le k T
    have h3 : (T.take k).length ≤ T.length := by rw [List.length_take]; omega
    simp only [List.length_nil] at this
    omega
  have HON : Hid (∀ i (hi : i < T.length), (T[i]).2.1.oneCell' = true) := fun i hi => by obtain ⟨_, _, e, _⟩ := h.pages _ (List.getElem_mem hi); rw [e]; rfl
  have HCL : Hid (w.cell? ⟨r, 2, none⟩ = some vL) := h.cell 2
  have HFZ : Hid (∀ W, Below w.heap.size w W → W.frozen? ⟨r, 2, none⟩ = false) := fun W hb => (h.later hb).frozen 2
  obtain ⟨aL, capL, rfl, hcs⟩ := h.slice
  have HCS : Hid (∀ k (hk : k < T.length), ∃ g, aL = some ⟨g, 0, none⟩ ∧ w.cell? ⟨g, k * 2, none⟩ = some (.string (T[k]).1) ∧ w.cell? ⟨g, k * 2 + 1, none⟩ = some (T[k]).2.1) := fun k hk => by
    rcases hcs with h | ⟨g, h1, _, h2⟩
    · rw [h] at hk; simp at hk
    · exact ⟨g, h1, h2 k hk⟩
  obtain ⟨va, vc, rfl, _, _⟩ := hs
  have hv1 : (Value.slice va l.length vc).oneCell' = true := rfl
  obtain ⟨i0, hti, hz0, hz1, hz2⟩ := info_parts Try.fileInfo
  have hd0 : ((l.length : Int) == 0) = decide (l = []) := by
    by_cases hl0 : l = []
    · subst hl0; rfl
    · have : l.length ≠ 0 := fun e => hl0 (List.length_eq_zero_iff.1 e)
      rw [decide_eq_false hl0, beq_eq_false_iff_ne]; omega
  obtain ⟨d0, HD0⟩ : ∃ d0 : Bool, decide (l = []) = d0 := ⟨_, rfl⟩
  rw [HD0] at HFI HFT HFL hd0
  clear h hcs HD0 hT hok
  have S0 : Hid ((T.take 0).foldl (stepF n (.slice va l.length vc, l)) ([], d0) = ([], d0)) := rfl
  have hcL := HCL.out
  go_enter Try.func73, Try.ntmps73
  go_wp2
  clear hcL hd0
  go_loopw [6, 7, 8] (fun x y z wr => ∃ (k : Nat) (A : Tab) (d : Bool), k ≤ T.length ∧ z = .int .i64 k ∧ y = .bool d ∧ Hid ((T.take k).foldl (stepF n (.slice va l.length vc, l)) ([], d0) = (A, d)) ∧ Hid (wr.ownsRow w.heap.size 90 2 x A.length (fcells A)) ∧ Hid (Below w.heap.size w wr)) (fun _ _ z _ => T.length - (intOf z).toNat)
  case atStart => exact ⟨0, [], d0, Nat.zero_le _, rfl, rfl, S0, World.ownsRow_nil _ _ _ _, Below.refl _ _⟩
  case round =>
    clear S0
    obtain ⟨k, A, d, hk, rfl, rfl, HS, R, B⟩ := hrel
    have hcL := cell_after B.out HCL.out
    have zz : w.heap.size ≤ wr.heap.size := B.out.size
    have hAl : A.length ≤ 8192 := by have := HFL.out k; rw [HS.out] at this; exact this
    by_cases hlt : k < T.length
    · obtain ⟨g, rfl, hct0, hcv0⟩ := HCS.out k hlt
      have hct := cell_after B.out hct0
      have hcv := cell_after B.out hcv0
      have HT1 : Hid _ := HFT.out k hlt
      rw [HS.out] at HT1
      have ho1 := HON.out k hlt
      generalize T[k] = tt at *
      obtain ⟨tn, tv, tl⟩ := tt
      simp only at *
      by_cases hcase : d = true ∨ Fi.lt tn n = true
      · rw [stepF_skip hcase] at HT1
        by_cases hn : tn = n
        · rw [if_pos hn] at HT1
          have hd : d = true := by
            rcases hcase with h | h
            · exact h
            · rw [hn, Fi.lt_irrefl] at h; cases h
          subst hd
          rw [hn] at hct
          clear hcase hcv

          go_wp2
          go_roundw
          case rel => exact ⟨k + 1, A, true, by omega, by go_num, rfl, HT1, R, B⟩
          case measure => simp [intOf]; omega
        · rw [if_neg hn] at HT1
          have hne := text_ne hn
          cases hdd : d with
          | true =>
            subst hdd
            clear hcase
            go_wp2_with (at_builtin; refine wpList_append_lies _ rfl _ _ 74 rfl w.heap.size 90 i0 (.agg #[.string ⟨#[]⟩, .slice none 0 0]) 2 40 Try.underlying74 hti hz0 hz1 hz2 rfl (by omega) _ A.length (fcells A) rfl (R.out.alloc _) ⟨wr.heap.size, 0, none⟩ 1 1 [.string tn, tv] rfl rfl (World.news_of_block (cs := #[.string tn, tv]) (t := 90) (fr := (0, 0)) (heap_alloc_new wr _)) (two_one ho1) (by omega) (by unfold maxLen; omega) (by omega) (by simp; omega) _ rfl ?_)
            intro g5 cap5 w5 hown5 hgrow5 hat5 hlt5
            have R5 : Hid (w5.ownsRow w.heap.size 90 2 (.slice (some ⟨g5, 0, none⟩) (A.length + 1) cap5) (A ++ [(tn, (tv, tl))]).length (fcells (A ++ [(tn, (tv, tl))]))) := by rw [List.length_append, ← fcells_snoc]; exact hown5
            have B5 : Hid (Below w.heap.size w w5) := (B.out.alloc B.out.size _).grown hgrow5 (by have := B.out.size; simp; omega) (fun j hj => (R.out.lt j hj).1)
            have z5 : w.heap.size ≤ w5.heap.size := B5.out.size
            clear hown5 hgrow5 hat5 hlt5
            clear hct hcv hcL

            go_wp2
            go_roundw
            case rel => exact ⟨k + 1, _, true, by omega, by go_num, rfl, HT1, R5, B5⟩
            case measure => simp [intOf]; omega
          | false =>
            subst hdd
            have hless : Op.bytesLess tn.toList n.toList = true := by
              rw [less_lt]
              rcases hcase with h | h
              · cases h
              · exact h
            clear hcase
            go_wp2_with (at_builtin; refine wpList_append_lies _ rfl _ _ 74 rfl w.heap.size 90 i0 (.agg #[.string ⟨#[]⟩, .slice none 0 0]) 2 40 Try.underlying74 hti hz0 hz1 hz2 rfl (by omega) _ A.length (fcells A) rfl (R.out.alloc _) ⟨wr.heap.size, 0, none⟩ 1 1 [.string tn, tv] rfl rfl (World.news_of_block (cs := #[.string tn, tv]) (t := 90) (fr := (0, 0)) (heap_alloc_new wr _)) (two_one ho1) (by omega) (by unfold maxLen; omega) (by omega) (by simp; omega) _ rfl ?_)
            intro g5 cap5 w5 hown5 hgrow5 hat5 hlt5
            have R5 : Hid (w5.ownsRow w.heap.size 90 2 (.slice (some ⟨g5, 0, none⟩) (A.length + 1) cap5) (A ++ [(tn, (tv, tl))]).length (fcells (A ++ [(tn, (tv, tl))]))) := by rw [List.length_append, ← fcells_snoc]; exact hown5
            have B5 : Hid (Below w.heap.size w w5) := (B.out.alloc B.out.size _).grown hgrow5 (by have := B.out.size; simp; omega) (fun j hj => (R.out.lt j hj).1)
            have z5 : w.heap.size ≤ w5.heap.size := B5.out.size
            clear hown5 hgrow5 hat5 hlt5
            clear hct hcv hcL hless

            go_wp2
            go_roundw
            case rel => exact ⟨k + 1, _, false, by omega, by go_num, rfl, HT1, R5, B5⟩
            case measure => simp [intOf]; omega
      · have hd : d = false := by cases hdd : d with | false => rfl | true => exact absurd (.inl hdd) hcase
        have hlf : Fi.lt tn n = false := by cases hdd : Fi.lt tn n with | false => rfl | true => exact absurd (.inr hdd) hcase
        subst hd
        rw [stepF_here hlf] at HT1
        have hless : Op.bytesLess tn.toList n.toList = false := by rw [less_lt]; exact hlf

        go_wp2_with (at_builtin; refine wpList_append_lies _ rfl _ _ 74 rfl w.heap.size 90 i0 (.agg #[.string ⟨#[]⟩, .slice none 0 0]) 2 40 Try.underlying74 hti hz0 hz1 hz2 rfl (by omega) _ A.length (fcells A) rfl (R.out.alloc _) ⟨wr.heap.size, 0, none⟩ 1 1 [.string n, (Value.slice va l.length vc)] rfl rfl (World.news_of_block (cs := #[.string n, (Value.slice va l.length vc)]) (t := 90) (fr := (0, 0)) (heap_alloc_new wr _)) (two_one hv1) (by omega) (by unfold maxLen; omega) (by omega) (by simp; omega) _ rfl ?_)
        intro g5 cap5 w5 hown5 hgrow5 hat5 hlt5
        have R5 : Hid (w5.ownsRow w.heap.size 90 2 (.slice (some ⟨g5, 0, none⟩) (A.length + 1) cap5) (A ++ [(n, ((Value.slice va l.length vc), l))]).length (fcells (A ++ [(n, ((Value.slice va l.length vc), l))]))) := by rw [List.length_append, ← fcells_snoc]; exact hown5
        have B5 : Hid (Below w.heap.size w w5) := (B.out.alloc B.out.size _).grown hgrow5 (by have := B.out.size; simp; omega) (fun j hj => (R.out.lt j hj).1)
        have z5 : w.heap.size ≤ w5.heap.size := B5.out.size
        clear hown5 hgrow5 hat5 hlt5

        have hcL5 := cell_after B5.out HCL.out
        have hct5 := cell_after B5.out hct0
        have hcv5 := cell_after B5.out hcv0
        clear hct hcv hcL hless hcase
        have hAl5 : (A ++ [(n, ((.slice va l.length vc : Value), l))]).length = A.length + 1 := by simp
        have R5 : Hid (World.ownsRow _ _ _ _ _ _ _) := R5
        by_cases hn : tn = n
        · rw [if_pos hn] at HT1
          rw [hn] at hct5
          clear hcv5
          go_wp2
          go_roundw
          case rel => exact ⟨k + 1, _, true, by omega, by go_num, rfl, HT1, R5, B5⟩
          case measure => simp [intOf]; omega
        · rw [if_neg hn] at HT1
          have hne := text_ne hn
          rw [hAl5] at R5
          generalize hA5 : A ++ [(n, ((.slice va l.length vc : Value), l))] = A5 at *
          have hl5 : A5.length = A.length + 1 := hAl5
          have R5' : Hid (w5.ownsRow w.heap.size 90 2 (.slice (some ⟨g5, 0, none⟩) (A.length + 1) cap5) A5.length (fcells A5)) := by rw [hl5]; exact R5.out
          go_wp2_with (at_builtin; refine wpList_append_lies _ rfl _ _ 74 rfl w.heap.size 90 i0 (.agg #[.string ⟨#[]⟩, .slice none 0 0]) 2 40 Try.underlying74 hti hz0 hz1 hz2 rfl (by omega) _ A5.length (fcells A5) rfl (R5'.out.alloc _) ⟨w5.heap.size, 0, none⟩ 1 1 [.string tn, tv] rfl rfl (World.news_of_block (cs := #[.string tn, tv]) (t := 90) (fr := (0, 0)) (heap_alloc_new w5 _)) (two_one ho1) (by omega) (by unfold maxLen; omega) (by omega) (by simp; omega) _ rfl ?_)
          intro g6 cap6 w6 hown6 hgrow6 hat6 hlt6
          have R6 : Hid (w6.ownsRow w.heap.size 90 2 (.slice (some ⟨g6, 0, none⟩) (A.length + 1 + 1) cap6) (A5 ++ [(tn, (tv, tl))]).length (fcells (A5 ++ [(tn, (tv, tl))]))) := by rw [List.length_append, ← fcells_snoc, hl5]; exact hown6
          have B6 : Hid (Below w.heap.size w w6) := (B5.out.alloc B5.out.size _).grown hgrow6 (by have := B5.out.size; simp; omega) (fun j hj => (R5'.out.lt j hj).1)
          have z6 : w.heap.size ≤ w6.heap.size := B6.out.size
          clear hown6 hgrow6 hat6 hlt6
          clear hct5 hcv5 hcL5

          go_wp2
          go_roundw
          case rel => exact ⟨k + 1, _, true, by omega, by go_num, rfl, HT1, R6, B6⟩
          case measure => simp [intOf]; omega
    · obtain rfl : k = T.length := by omega
      have HS2 := HS.out
      rw [List.take_length] at HS2
      have HFN : Hid (finF n (.slice va l.length vc, l) (A, d) = setT T n (.slice va l.length vc, l)) := HFI.out A d HS2
      clear HS2
      cases hdd : d with
      | true =>
        subst hdd
        have HA := HAF.out wr _ A B.out R.out HFN.out
        have HAA : Hid (_ ∧ _) := HA
        have hfz := HFZ.out wr B.out
        obtain ⟨ua, un, uc, rfl⟩ := row_shape R.out
        clear HA
        go_wp2
        go_end0
        exact ⟨rfl, _, HAA.out.1, HAA.out.2⟩
      | false =>
        subst hdd
        go_wp2_with (at_builtin; refine wpList_append_lies _ rfl _ _ 74 rfl w.heap.size 90 i0 (.agg #[.string ⟨#[]⟩, .slice none 0 0]) 2 40 Try.underlying74 hti hz0 hz1 hz2 rfl (by omega) _ A.length (fcells A) rfl (R.out.alloc _) ⟨wr.heap.size, 0, none⟩ 1 1 [.string n, (Value.slice va l.length vc)] rfl rfl (World.news_of_block (cs := #[.string n, (Value.slice va l.length vc)]) (t := 90) (fr := (0, 0)) (heap_alloc_new wr _)) (two_one hv1) (by omega) (by unfold maxLen; omega) (by omega) (by simp; omega) _ rfl ?_)
        intro g5 cap5 w5 hown5 hgrow5 hat5 hlt5
        have R5 : Hid (w5.ownsRow w.heap.size 90 2 (.slice (some ⟨g5, 0, none⟩) (A.length + 1) cap5) (A ++ [(n, ((Value.slice va l.length vc), l))]).length (fcells (A ++ [(n, ((Value.slice va l.length vc), l))]))) := by rw [List.length_append, ← fcells_snoc]; exact hown5
        have B5 : Hid (Below w.heap.size w w5) := (B.out.alloc B.out.size _).grown hgrow5 (by have := B.out.size; simp; omega) (fun j hj => (R.out.lt j hj).1)
        have z5 : w.heap.size ≤ w5.heap.size := B5.out.size
        clear hown5 hgrow5 hat5 hlt5

        have hcL5 := cell_after B5.out HCL.out
        have HA := HAF.out w5 _ _ B5.out R5.out HFN.out
        have HAA : Hid (_ ∧ _) := HA
        have hfz := HFZ.out w5 B5.out
        clear HA hcL
        go_wp2
        go_end0
        exact ⟨rfl, _, HAA.out.1, HAA.out.2⟩

end Go.Proofs.Ytnlhgcpmmcmknaa
