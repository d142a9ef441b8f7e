/- The walks of the document's own Get, Pin, Unpin, Put and Drop, and of the statements' helper Said. -/
import Derived.Test.YtnlhgcpmmcmknaaCRefA
namespace Go.Proofs.Ytnlhgcpmmcmknaa
open Go.RowKit Go.Maps

section
variable {W W' w wA : World} {ok : Nat → Prop} {x r : Nat} {vL va : Value} {st : Ca.St} {l' : List Ca.Fr} {n : ByteArray} {i : Int}

theorem RC.okF (h : RC W ok x r vL st) (hok : ∀ i, W.heap.size ≤ i → ok i) : ∀ i, W.heap.size ≤ i → ok i ∧ i ≠ x ∧ vL.ownBlock ≠ some i := fun i hi =>
  ⟨hok i hi, fun e => by have := h.lt; omega, fun e => by have := (h.rowNe i e).2; omega⟩
/-- The file system turns. -/
theorem RC.fileTurn (h : RC w ok x r vL st) {fs' : Fi.St} (hf : Ref W (fun b => ok b ∧ b ≠ x ∧ vL.ownBlock ≠ some b) r fs') (ht : Turn (fun i => i = r) w (fun i => i = r) W) :
    RC W ok x r vL { st with fs := fs' } ∧ Turn (QOwn x r vL) w (QOwn x r vL) W := by
  have hr := h.files.okSelf
  refine ⟨⟨(ht.block x h.lt fun e => hr.2.1 e.symm).trans h.block, ownsRow_blocks h.row fun g hg => ht.block g (h.row.lt g hg).2 fun e => hr.2.2 (by rw [← e]; exact hg), h.self, h.rowOk, hf⟩, ?_⟩
  exact ⟨ht.os, ht.tape, ht.output, ht.size, fun i hi ho => ht.block i hi fun e => ho (.inr (.inl e)), fun i hi => .inl hi⟩
theorem atp_some {l : List Ca.Fr} {f : Ca.Fr} {z : Int} (h : Ca.AtP l n i z) (hl : Ca.look l n i = some f) : ∃ k : Nat, z = k ∧ k < l.length ∧ l.getD k Ca.Fr.none = f := by
  rcases h with ⟨_, h⟩ | ⟨k, hz, hk, h⟩
  · rw [hl] at h; cases h
  · rw [hl] at h
    exact ⟨k, hz, hk, (Option.some.inj h).symm⟩
theorem atp_none {l : List Ca.Fr} {z : Int} (h : Ca.AtP l n i z) (hl : Ca.look l n i = none) : z = -1 := by
  rcases h with ⟨h, _⟩ | ⟨k, hz, hk, h⟩
  · exact h
  · rw [hl] at h; cases h
theorem read_size {fs : Fi.St} (hg : Fi.Good fs) (n : ByteArray) (i : Int) : (Fi.read fs n i).1.size ≤ 9223372036854775807 := by
  unfold Fi.read
  split
  · exact Nat.zero_le _
  split
  · exact Nat.zero_le _
  · show (Fi.page fs n i).size ≤ _
    unfold Fi.page Fi.rows
    cases hf : Fi.find fs.fs n with
    | none => simp
    | some r =>
      rw [Option.getD_some, List.getD_eq_getElem?_getD]
      cases hr : r[i.toNat]? with
      | none => simp
      | some s =>
        have := (hg.each (n, r) (Fi.find_mem hf)).2.2 s (List.mem_of_getElem? hr)
        rw [Option.getD_some, this]
        decide

set_option maxRecDepth 100000 in
set_option maxHeartbeats 4000000 in
theorem rget_any (n : ByteArray) (i : Int) (w : World) (h : RC w ok x r vL st) (ha : Ca.Apart st.l) (hl : st.l.length ≤ 900) (hok : ∀ i, w.heap.size ≤ i → ok i) :
    Calls Try.prog 48 #[at_ x, .string n, .int .i64 i] w fun e w' => e = .returned (.tuple #[.string (Ca.get st n i).1, .int .i64 (Ca.get st n i).2.1]) ∧ ∃ vL', RC w' ok x r vL' (Ca.get st n i).2.2 ∧ Turn (QOwn x r vL) w (QOwn x r vL') w' := by
  have HA : Hid (Calls _ _ _ _ _) := rat_any n i w h (by omega)
  cases hlk : Ca.look st.l n i with
  | some f =>
    obtain ⟨hmem, hfn, hfi⟩ := Ca.look_some hlk
    have HU : Hid (∀ k, k < st.l.length → Calls _ _ _ _ _) := fun k hk => ruse_any k w h (by omega) hk hok
    have HGO : Hid (∀ k, k < st.l.length → st.l.getD k Ca.Fr.none = f → st.l.take k ++ st.l.drop (k + 1) = Ca.gone st.l n i) := fun k hk e => (Ca.gone_at ha hk (by rw [e]; exact hfn) (by rw [e]; exact hfi)).symm
    have HLK : Hid (Ca.look st.l n i = some f) := hlk
    rw [get_ok (fetch_hit hlk)]
    have hgl : (Ca.gone st.l n i).length ≤ 900 := Nat.le_trans (List.length_filter_le _ _) hl
    generalize Ca.gone st.l n i = L1 at *
    clear h ha hok hlk hmem hfn hfi
    unfold at_ at HA HU
    unfold at_
    go_enter Try.func48, Try.ntmps48
    go_wp2_with fail
    refine Calls.mono HA.out ?_
    rintro e w1 ⟨z, rfl, hz, rfl⟩
    obtain ⟨k, rfl, hk, hf⟩ := atp_some hz HLK.out
    have HU1 : Hid (Calls _ _ _ _ _) := HU.out k hk
    rw [HGO.out k hk hf, hf] at HU1
    clear HA hz HU HGO hf hk HLK
    go_wp2_with fail
    refine Calls.mono HU1.out ?_
    rintro e w2 ⟨rfl, v2, h2, ht2⟩
    have H2 : Hid (RC w2 ok x r v2 { st with l := L1 ++ [f] }) := h2
    have T2 : Hid (Turn _ _ _ _) := ht2
    have cL := h2.cell2
    obtain ⟨a2, cap2, rfl, hcs⟩ := h2.slice
    obtain ⟨g2, rfl, _, hfr⟩ := hcs.resolve_left (by simp)
    have c1 := (hfr L1.length (by simp)).c1
    have e1 : (L1 ++ [f]).getD L1.length Ca.Fr.none = f := by simp
    simp only [e1] at c1
    have e2 : ({ st with l := L1 ++ [f] } : Ca.St).l.length = L1.length + 1 := by simp
    rw [e2] at cL
    clear h2 ht2 hcs hfr HU1 e1 e2
    have b1 : L1.length < L1.length + 1 := by omega
    have D2 : Hid (Below w2.heap.size w2 w2.drew) := (Below.refl _ _).drew
    have cL2 := (H2.out.later D2.out).cell2
    have c12 : w2.drew.cell? ⟨g2, L1.length * 4 + 1, none⟩ = some (.string f.d) := cell_after D2.out c1
    simp only [List.length_append, List.length_cons, List.length_nil] at cL2
    go_wp2
    go_region
    all_goals
      have HR : Hid (RC w2.drew ok x r _ _) := H2.out.later D2.out
      have HT : Hid (Turn _ w1 _ w2.drew) := T2.out.trans (Turn.below D2.out)
      go_wp2
      go_ret2
      exact ⟨rfl, _, HR.out, HT.out⟩
  | none =>
    have HLK : Hid (Ca.look st.l n i = none) := hlk
    have HRM : Hid (Calls _ _ _ _ _) := rroom_any w h (by omega)
    have hB := h.cell0
    cases hs : Ca.stuck st.most st.l with
    | true =>
      rw [get_no (fetch_full hlk hs) (by decide)]
      rw [hs] at HRM
      have HRC : Hid (RC w ok x r vL st) := h
      clear h ha hok hlk hs hB
      unfold at_ at HA HRM
      unfold at_
      go_enter Try.func48, Try.ntmps48
      go_wp2_with fail
      refine Calls.mono HA.out ?_
      rintro e w1 ⟨z, rfl, hz, rfl⟩
      obtain rfl := atp_none hz HLK.out
      clear HA hz
      go_wp2_with fail
      refine Calls.mono HRM.out ?_
      rintro e w2 ⟨rfl, hb2⟩
      have HR2 : Hid (RC w2 ok x r vL st) := HRC.out.later hb2
      have HT2 : Hid (Turn (QOwn x r vL) w1 (QOwn x r vL) w2) := Turn.below hb2
      clear hb2 HRM HRC
      go_wp2
      go_ret2
      exact ⟨rfl, _, HR2.out, HT2.out⟩
    | false =>
      rw [hs] at HRM
      have HRD : Hid (∀ W, Below w.heap.size w W → Calls Try.prog 75 #[at_ r, .string n, .int .i64 i] W fun e w' => e = .returned (.tuple #[.string (Fi.read st.fs n i).1, .int .i64 (Fi.read st.fs n i).2.1]) ∧ RC w' ok x r vL { st with fs := (Fi.read st.fs n i).2.2 } ∧ Turn (QOwn x r vL) W (QOwn x r vL) w') := fun W hb => by
        refine (rread_any n i W (h.later hb).files).mono ?_
        rintro e w' ⟨rfl, h1, h2⟩
        exact ⟨rfl, (h.later hb).fileTurn h1 h2⟩
      have HC0 : Hid (∀ W, Below w.heap.size w W → W.cell? ⟨x, 0, none⟩ = some (at_ r)) := fun W hb => (h.later hb).cell0
      have HDC : Hid (∀ W, Calls Try.prog 76 #[.string (Fi.read st.fs n i).1] W fun e w' => e = .returned (.tuple #[.string (Ca.dec (Fi.read st.fs n i).1).1, .int .i64 (Ca.dec (Fi.read st.fs n i).1).2]) ∧ Below W.heap.size W w') := fun W => rdecode_any _ W (read_size h.files.good n i)
      by_cases he : (Fi.read st.fs n i).2.1 = 0
      · by_cases hd : (Ca.dec (Fi.read st.fs n i).1).2 = 0
        · rw [get_ok (fetch_new hlk hs (s := (Fi.read st.fs n i).1) (fs := (Fi.read st.fs n i).2.2) (by rw [← he]) (d := (Ca.dec (Fi.read st.fs n i).1).1) (by rw [← hd]))]
          have HOK : Hid (∀ W : World, w.heap.size ≤ W.heap.size → ∀ i, W.heap.size ≤ i → ok i) := fun W h1 i hi => hok i (by omega)
          rw [he] at HRD
          rw [hd] at HDC
          clear h ha hok hlk hs hB he hd
          generalize (Fi.read st.fs n i).1 = s at *
          generalize (Fi.read st.fs n i).2.2 = fs2 at *
          generalize (Ca.dec s).1 = d at *
          have HAD : Hid (∀ W v, RC W ok x r v { st with fs := fs2 } → (∀ i, W.heap.size ≤ i → ok i) → Calls Try.prog 69 #[at_ x, .agg #[.string n, .string d, .int .i64 i, .int .i64 0]] W fun e w' => e = .returned (.tuple #[]) ∧ ∃ vL', RC w' ok x r vL' ⟨st.most, fs2, Ca.room st.most st.l ++ [⟨n, i, d, 0⟩]⟩ ∧ Turn (QOwn x r v) W (QOwn x r vL') w') := fun W v hr ho => radd_any ⟨n, i, d, 0⟩ W hr (show st.l.length ≤ 1000 by omega) ho
          unfold at_ at HA HRM HRD HC0 HAD
          unfold at_
          go_enter Try.func48, Try.ntmps48
          go_wp2_with fail
          refine Calls.mono HA.out ?_
          rintro e w1 ⟨z, rfl, hz, rfl⟩
          obtain rfl := atp_none hz HLK.out
          clear HA hz
          go_wp2_with fail
          refine Calls.mono HRM.out ?_
          rintro e w2 ⟨rfl, hb2⟩
          have B2 : Hid (Below w1.heap.size w1 w2) := hb2
          have hc0 := HC0.out w2 hb2
          have HR2 : Hid (Calls _ _ _ _ _) := HRD.out w2 hb2
          clear hb2 HRM
          go_wp2_with fail
          refine Calls.mono HR2.out ?_
          rintro e w3 ⟨rfl, h3, ht3⟩
          have H3 : Hid (RC w3 ok x r vL { st with fs := fs2 }) := h3
          have T3 : Hid (Turn (QOwn x r vL) w1 (QOwn x r vL) w3) := (Turn.below B2.out).trans ht3
          clear h3 ht3 HR2 hc0 HRD HC0
          go_wp2_with fail
          refine (HDC.out _).mono ?_
          rintro e w4 ⟨rfl, hb4⟩
          have H4 : Hid (RC w4 ok x r vL { st with fs := fs2 }) := H3.out.later hb4
          have T4 : Hid (Turn (QOwn x r vL) w1 (QOwn x r vL) w4) := T3.out.trans (Turn.below hb4)
          have HA4 : Hid (Calls _ _ _ _ _) := HAD.out w4 vL H4.out (HOK.out w4 T4.out.size)
          clear hb4 HDC H3 T3 HAD
          go_wp2_with fail
          refine Calls.mono HA4.out ?_
          rintro e w5 ⟨rfl, v5, h5, ht5⟩
          have H5 : Hid (RC _ _ _ _ _ _) := h5
          have T5 : Hid (Turn _ w1 _ w5) := T4.out.trans ht5
          clear h5 ht5 HA4 H4 T4
          go_wp2
          go_ret2
          exact ⟨rfl, _, H5.out, T5.out⟩
        · rw [get_no (fetch_spoilt hlk hs he hd) hd]
          rw [he] at HRD
          have hdb : ((Ca.dec (Fi.read st.fs n i).1).2 != 0) = true := by simpa using hd
          clear h ha hok hlk hs hB he
          generalize (Fi.read st.fs n i).1 = s at *
          generalize (Fi.read st.fs n i).2.2 = fs2 at *
          generalize (Ca.dec s).1 = d at *
          generalize (Ca.dec s).2 = de at *
          unfold at_ at HA HRM HRD HC0
          unfold at_
          go_enter Try.func48, Try.ntmps48
          go_wp2_with fail
          refine Calls.mono HA.out ?_
          rintro e w1 ⟨z, rfl, hz, rfl⟩
          obtain rfl := atp_none hz HLK.out
          clear HA hz
          go_wp2_with fail
          refine Calls.mono HRM.out ?_
          rintro e w2 ⟨rfl, hb2⟩
          have B2 : Hid (Below w1.heap.size w1 w2) := hb2
          have hc0 := HC0.out w2 hb2
          have HR2 : Hid (Calls _ _ _ _ _) := HRD.out w2 hb2
          clear hb2 HRM
          go_wp2_with fail
          refine Calls.mono HR2.out ?_
          rintro e w3 ⟨rfl, h3, ht3⟩
          have H3 : Hid (RC w3 ok x r vL { st with fs := fs2 }) := h3
          have T3 : Hid (Turn (QOwn x r vL) w1 (QOwn x r vL) w3) := (Turn.below B2.out).trans ht3
          clear h3 ht3 HR2 hc0 HRD HC0
          go_wp2_with fail
          refine (HDC.out _).mono ?_
          rintro e w4 ⟨rfl, hb4⟩
          have H4 : Hid (RC w4 ok x r vL { st with fs := fs2 }) := H3.out.later hb4
          have T4 : Hid (Turn (QOwn x r vL) w1 (QOwn x r vL) w4) := T3.out.trans (Turn.below hb4)
          clear hb4 HDC H3 T3
          go_wp2
          go_ret2
          exact ⟨rfl, _, H4.out, T4.out⟩
      · rw [get_no (fetch_fails hlk hs he) he]
        have heb : ((Fi.read st.fs n i).2.1 != 0) = true := by simpa using he
        clear h ha hok hlk hs hB HDC
        generalize (Fi.read st.fs n i).1 = s at *
        generalize (Fi.read st.fs n i).2.2 = fs2 at *
        generalize (Fi.read st.fs n i).2.1 = re at *
        unfold at_ at HA HRM HRD HC0
        unfold at_
        go_enter Try.func48, Try.ntmps48
        go_wp2_with fail
        refine Calls.mono HA.out ?_
        rintro e w1 ⟨z, rfl, hz, rfl⟩
        obtain rfl := atp_none hz HLK.out
        clear HA hz
        go_wp2_with fail
        refine Calls.mono HRM.out ?_
        rintro e w2 ⟨rfl, hb2⟩
        have B2 : Hid (Below w1.heap.size w1 w2) := hb2
        have hc0 := HC0.out w2 hb2
        have HR2 : Hid (Calls _ _ _ _ _) := HRD.out w2 hb2
        clear hb2 HRM
        go_wp2_with fail
        refine Calls.mono HR2.out ?_
        rintro e w3 ⟨rfl, h3, ht3⟩
        have H3 : Hid (RC w3 ok x r vL { st with fs := fs2 }) := h3
        have T3 : Hid (Turn (QOwn x r vL) w1 (QOwn x r vL) w3) := (Turn.below B2.out).trans ht3
        clear h3 ht3 HR2 hc0 HRD HC0
        go_wp2
        go_ret2
        exact ⟨rfl, _, H3.out, T3.out⟩
end

theorem fetch_look {st : Ca.St} {n : ByteArray} {i : Int} (he : (Ca.fetch st n i).e = 0) : Ca.look (Ca.fetch st n i).l n i = none ∧ (Ca.fetch st n i).f.n = n ∧ (Ca.fetch st n i).f.i = i ∧ (Ca.fetch st n i).l.length ≤ st.l.length ∧ ((Ca.fetch st n i).f ∈ st.l ∨ (Ca.fetch st n i).f.p = 0) := by
  cases hl : Ca.look st.l n i with
  | some f =>
    rw [fetch_hit hl]
    obtain ⟨h0, h1, h2⟩ := Ca.look_some hl
    exact ⟨Ca.look_gone_same, h1, h2, List.length_filter_le _ _, .inl h0⟩
  | none =>
    cases hs : Ca.stuck st.most st.l with
    | true => rw [fetch_full hl hs] at he; cases he
    | false =>
      by_cases h1 : (Fi.read st.fs n i).2.1 = 0
      · by_cases h2 : (Ca.dec (Fi.read st.fs n i).1).2 = 0
        · rw [fetch_new hl hs (s := (Fi.read st.fs n i).1) (fs := (Fi.read st.fs n i).2.2) (by rw [← h1]) (d := (Ca.dec (Fi.read st.fs n i).1).1) (by rw [← h2])]
          exact ⟨look_sub (Ca.room_sub _ _) hl, rfl, rfl, (Ca.room_sub _ _).length_le, .inr rfl⟩
        · rw [fetch_spoilt hl hs h1 h2] at he; exact absurd he h2
      · rw [fetch_fails hl hs h1] at he; exact absurd he h1
theorem atp_last {l : List Ca.Fr} {f : Ca.Fr} {n : ByteArray} {i z : Int} (h : Ca.AtP (l ++ [f]) n i z) (hn : f.n = n) (hi : f.i = i) (hl : Ca.look l n i = none) : z = l.length := by
  have hs : Ca.look (l ++ [f]) n i = some f := by rw [Ca.look_append, hl, Ca.look_one_same hn hi]; rfl
  obtain ⟨k, rfl, hk, he⟩ := atp_some h hs
  have : ¬ k < l.length := fun hlt => by
    rw [List.getD_eq_getElem?_getD, List.getElem?_append_left hlt, List.getElem?_eq_getElem hlt, Option.getD_some] at he
    exact Ca.look_none hl _ (List.getElem_mem hlt) (by rw [he]; exact ⟨hn, hi⟩)
  simp at hk
  omega
theorem frc_set_last (l : List Ca.Fr) (f : Ca.Fr) : (frc (l ++ [f])).set (l.length * 4 + 3) (.int .i64 (f.p + 1 : Nat)) = frc (l ++ [Ca.more f]) := by
  have e : (l ++ [f]).set l.length (Ca.more f) = l ++ [Ca.more f] := by simp
  rw [← e]
  refine frc_set _ _ _ (by simp) (by omega) _ _ ?_
  have : (l ++ [f]).getD l.length Ca.Fr.none = f := by simp
  rw [this]; rfl

section
variable {W W' w wA : World} {ok : Nat → Prop} {x r : Nat} {vL va : Value} {st : Ca.St} {l' : List Ca.Fr} {n : ByteArray} {i : Int}

set_option maxRecDepth 100000 in
set_option maxHeartbeats 4000000 in
theorem rpin_any (n : ByteArray) (i : Int) (w : World) (h : RC w ok x r vL st) (ha : Ca.Apart st.l) (hl : st.l.length ≤ 800) (hp : ∀ f ∈ st.l, f.p ≤ 1000000) (hok : ∀ i, w.heap.size ≤ i → ok i) :
    Calls Try.prog 39 #[at_ x, .string n, .int .i64 i] w fun e w' => e = .returned (.tuple #[.string (Ca.pin st n i).1, .int .i64 (Ca.pin st n i).2.1]) ∧ ∃ vL', RC w' ok x r vL' (Ca.pin st n i).2.2 ∧ Turn (QOwn x r vL) w (QOwn x r vL') w' := by
  have HG : Hid (Calls _ _ _ _ _) := rget_any n i w h ha (by omega) hok
  by_cases he : (Ca.fetch st n i).e = 0
  · obtain ⟨f1, f2, f3, f4, f5⟩ := fetch_look he
    have eg : Ca.get st n i = ((Ca.fetch st n i).f.d, 0, ⟨st.most, (Ca.fetch st n i).fs, (Ca.fetch st n i).l ++ [(Ca.fetch st n i).f]⟩) := by unfold Ca.get; rw [if_pos he]
    have ep : Ca.pin st n i = ((Ca.fetch st n i).f.d, 0, ⟨st.most, (Ca.fetch st n i).fs, (Ca.fetch st n i).l ++ [Ca.more (Ca.fetch st n i).f]⟩) := by unfold Ca.pin; rw [if_pos he]
    rw [eg] at HG
    rw [ep]
    have hp1 : (Ca.fetch st n i).f.p ≤ 1000000 := by
      rcases f5 with h | h
      · exact hp _ h
      · omega
    have HF : Hid (Ca.look (Ca.fetch st n i).l n i = none ∧ (Ca.fetch st n i).f.n = n ∧ (Ca.fetch st n i).f.i = i) := ⟨f1, f2, f3⟩
    have hll : (Ca.fetch st n i).l.length ≤ 800 := by omega
    clear eg ep he f1 f2 f3 f4 f5 h ha hok hp
    generalize (Ca.fetch st n i).l = L at *
    generalize (Ca.fetch st n i).f = f at *
    generalize (Ca.fetch st n i).fs = fs at *
    unfold at_ at HG
    unfold at_
    go_enter Try.func39, Try.ntmps39
    go_wp2_with fail
    refine Calls.mono HG.out ?_
    rintro e w1 ⟨rfl, v1, h1, ht1⟩
    have H1 : Hid (RC w1 ok x r v1 ⟨st.most, fs, L ++ [f]⟩) := h1
    have T1 : Hid (Turn _ w _ w1) := ht1
    have HA : Hid (Calls _ _ _ _ _) := rat_any n i w1 h1 (by simp; omega)
    unfold at_ at HA
    clear h1 ht1 HG
    go_wp2_with fail
    refine Calls.mono HA.out ?_
    rintro e w2 ⟨z, rfl, hz, rfl⟩
    obtain rfl := atp_last hz HF.out.2.1 HF.out.2.2 HF.out.1
    clear HA hz HF
    have D2 : Hid (Below w2.heap.size w2 w2.drew) := (Below.refl _ _).drew
    have cL := H1.out.cell2
    have cL2 := (H1.out.later D2.out).cell2
    obtain ⟨a1, cap1, rfl, hcs⟩ := H1.out.slice
    obtain ⟨g1, rfl, _, hfr⟩ := hcs.resolve_left (by simp)
    have e1 : (L ++ [f]).getD L.length Ca.Fr.none = f := by simp
    have c3 := (hfr L.length (by simp)).c3
    simp only [e1] at c3
    have c32 : w2.drew.cell? ⟨g1, L.length * 4 + 3, none⟩ = some (.int .i64 f.p) := cell_after D2.out c3
    have fz : w2.frozen? ⟨g1, L.length * 4 + 3, none⟩ = false := H1.out.row.frozenAt _
    have fz2 : w2.drew.frozen? ⟨g1, L.length * 4 + 3, none⟩ = false := (H1.out.later D2.out).row.frozenAt _
    have b1 : L.length < L.length + 1 := by omega
    have HST : Hid (_ ∧ _) := (H1.out.later D2.out).store (l' := L ++ [Ca.more f]) (L.length * 4 + 3) (.int .i64 (f.p + 1 : Nat)) (by simp) (frc_set_last L f)
    simp only [List.length_append, List.length_cons, List.length_nil] at cL cL2
    have T3 : Hid (Turn _ w _ w2.drew) := T1.out.trans (Turn.below D2.out)
    have ew : ((f.p + 1 : Nat) : Int) = (f.p : Int) + 1 := by omega
    rw [ew] at HST
    clear e1 ew hcs hfr
    go_wp2
    go_region
    all_goals
      go_wp2
      go_ret2
      exact ⟨rfl, _, HST.out.1, T3.out.trans HST.out.2⟩
  · have eg : Ca.pin st n i = Ca.get st n i := by unfold Ca.pin Ca.get; rw [if_neg he, if_neg he]
    have hne : (Ca.get st n i).2.1 ≠ 0 := by unfold Ca.get; rw [if_neg he]; exact he
    rw [eg]
    have hnb : ((Ca.get st n i).2.1 == 0) = false := by simpa using hne
    clear eg he h ha hok hp
    generalize (Ca.get st n i).2.1 = ge at *
    generalize (Ca.get st n i).1 = gs at *
    generalize (Ca.get st n i).2.2 = gst at *
    unfold at_ at HG
    unfold at_
    go_enter Try.func39, Try.ntmps39
    go_wp2_with fail
    refine Calls.mono HG.out ?_
    rintro e w1 ⟨rfl, v1, h1, ht1⟩
    have H1 : Hid (RC w1 ok x r v1 gst) := h1
    have T1 : Hid (Turn _ w _ w1) := ht1
    clear h1 ht1 HG
    go_wp2
    go_ret2
    exact ⟨rfl, _, H1.out, T1.out⟩

theorem frc_set_pins {l : List Ca.Fr} {k : Nat} (hk : k < l.length) (p : Nat) : (frc l).set (k * 4 + 3) (.int .i64 p) = frc (l.set k { l.getD k Ca.Fr.none with p := p }) := frc_set l k 3 hk (by omega) _ _ rfl

set_option maxRecDepth 100000 in
set_option maxHeartbeats 4000000 in
theorem runpin_any (n : ByteArray) (i : Int) (w : World) (h : RC w ok x r vL st) (ha : Ca.Apart st.l) (hl : st.l.length ≤ 800) (hp : ∀ f ∈ st.l, f.p ≤ 1000000) :
    Calls Try.prog 40 #[at_ x, .string n, .int .i64 i] w fun e w' => e = .returned (.int .i64 (Ca.unpin st n i).1) ∧ ∃ vL', RC w' ok x r vL' (Ca.unpin st n i).2 ∧ Turn (QOwn x r vL) w (QOwn x r vL') w' := by
  have HA : Hid (Calls _ _ _ _ _) := rat_any n i w h (by omega)
  cases hlk : Ca.look st.l n i with
  | none =>
    have HLK : Hid (Ca.look st.l n i = none) := hlk
    have eu : Ca.unpin st n i = (4, st) := by unfold Ca.unpin; rw [hlk]
    rw [eu]
    have HRC : Hid (RC w ok x r vL st) := h
    clear h ha hlk hp eu
    unfold at_ at HA
    unfold at_
    go_enter Try.func40, Try.ntmps40
    go_wp2_with fail
    refine Calls.mono HA.out ?_
    rintro e w1 ⟨z, rfl, hz, rfl⟩
    obtain rfl := atp_none hz HLK.out
    clear HA hz
    have HT : Hid (Turn (QOwn x r vL) w1 (QOwn x r vL) w1) := Turn.below (Below.refl _ _)
    go_wp2
    go_ret
    exact ⟨rfl, _, HRC.out, HT.out⟩
  | some f =>
    obtain ⟨hmem, hfn, hfi⟩ := Ca.look_some hlk
    have HLK : Hid (Ca.look st.l n i = some f) := hlk
    have hp1 := hp f hmem
    have HRC : Hid (RC w ok x r vL st) := h
    have cL := h.cell2
    obtain ⟨a1, cap1, rfl, hcs⟩ := h.slice
    have HCS : Hid (∀ k, k < st.l.length → ∃ g, a1 = some ⟨g, 0, none⟩ ∧ FrAt w g (k * 4) (st.l.getD k Ca.Fr.none)) := fun k hk => by
      rcases hcs with h | ⟨g, h1, _, h2⟩
      · rw [h] at hk; simp at hk
      · exact ⟨g, h1, h2 k hk⟩
    by_cases hp0 : f.p = 0
    · have eu : Ca.unpin st n i = (4, st) := by unfold Ca.unpin; rw [hlk]; exact if_pos hp0
      rw [eu]
      clear h ha hlk hp eu hcs hmem hfn hfi
      unfold at_ at HA
      unfold at_
      go_enter Try.func40, Try.ntmps40
      go_wp2_with fail
      refine Calls.mono HA.out ?_
      rintro e w1 ⟨z, rfl, hz, rfl⟩
      obtain ⟨k, rfl, hk, hf⟩ := atp_some hz HLK.out
      obtain ⟨g, rfl, hfr⟩ := HCS.out k hk
      have c3 := hfr.c3
      rw [hf, hp0] at c3
      clear HA hz HCS hfr hf
      have HT : Hid (Turn (QOwn x r (.slice (some ⟨g, 0, none⟩) st.l.length cap1)) w1 (QOwn x r (.slice (some ⟨g, 0, none⟩) st.l.length cap1)) w1) := Turn.below (Below.refl _ _)
      go_wp2
      go_ret
      exact ⟨rfl, _, HRC.out, HT.out⟩
    · have eu : Ca.unpin st n i = (0, { st with l := st.l.map fun y => if y.is n i = true then Ca.less y else y }) := by unfold Ca.unpin; rw [hlk]; exact if_neg hp0
      have HMP : Hid (∀ k, k < st.l.length → st.l.getD k Ca.Fr.none = f → (frc st.l).set (k * 4 + 3) (.int .i64 (f.p - 1 : Nat)) = frc (st.l.map fun y => if y.is n i = true then Ca.less y else y)) := fun k hk e => by
        rw [Ca.map_at ha hk (by rw [e]; exact hfn) (by rw [e]; exact hfi), frc_set_pins hk, e]; rfl
      rw [eu]
      have hlm : (st.l.map fun y => if y.is n i = true then Ca.less y else y).length = st.l.length := List.length_map _
      generalize (st.l.map fun y => if y.is n i = true then Ca.less y else y) = LM at *
      clear h ha hlk hp eu hcs hmem hfn hfi
      unfold at_ at HA
      unfold at_
      go_enter Try.func40, Try.ntmps40
      go_wp2_with fail
      refine Calls.mono HA.out ?_
      rintro e w1 ⟨z, rfl, hz, rfl⟩
      obtain ⟨k, rfl, hk, hf⟩ := atp_some hz HLK.out
      obtain ⟨g, rfl, hfr⟩ := HCS.out k hk
      have c3 := hfr.c3
      rw [hf] at c3
      have D2 : Hid (Below w1.heap.size w1 w1.drew) := (Below.refl _ _).drew
      have cL2 := (HRC.out.later D2.out).cell2
      have c32 : w1.drew.cell? ⟨g, k * 4 + 3, none⟩ = some (.int .i64 f.p) := cell_after D2.out c3
      have fz : w1.frozen? ⟨g, k * 4 + 3, none⟩ = false := HRC.out.row.frozenAt _
      have fz2 : w1.drew.frozen? ⟨g, k * 4 + 3, none⟩ = false := (HRC.out.later D2.out).row.frozenAt _
      have HST : Hid (_ ∧ _) := (HRC.out.later D2.out).store (l' := LM) (k * 4 + 3) (.int .i64 (f.p - 1 : Nat)) hlm (HMP.out k hk hf)
      have T3 : Hid (Turn (QOwn x r (.slice (some ⟨g, 0, none⟩) st.l.length cap1)) w1 (QOwn x r (.slice (some ⟨g, 0, none⟩) st.l.length cap1)) w1.drew) := Turn.below D2.out
      have ew : ((f.p - 1 : Nat) : Int) = (f.p : Int) - 1 := by omega
      rw [ew] at HST
      have hpb : ((f.p : Int) == 0) = false := by simp; omega
      clear HA hz HCS hfr hf ew HMP
      go_wp2
      go_region
      all_goals
        go_wp2
        go_ret
        exact ⟨rfl, _, HST.out.1, T3.out.trans HST.out.2⟩
end

theorem enc_size {t : ByteArray} (h : (Ca.enc t).2 = 0) : (Ca.enc t).1.size = 128 := by
  have hlen : ¬ 122 < t.data.toList.length := by
    intro hl
    have h' : (Pg.enc t.data.toList).2 = 0 := h
    unfold Pg.enc at h'
    rw [if_pos hl] at h'
    cases h'
  unfold Ca.enc
  rw [Pg.enc_yes hlen]
  exact Pg.page_length (by omega)
theorem frc_set_data {l : List Ca.Fr} {k : Nat} (hk : k < l.length) (d : ByteArray) : (frc l).set (k * 4 + 1) (.string d) = frc (l.set k { l.getD k Ca.Fr.none with d := d }) := frc_set l k 1 hk (by omega) _ _ rfl
theorem set_use {l : List Ca.Fr} {k : Nat} (hk : k < l.length) (y : Ca.Fr) : (l.set k y).take k ++ (l.set k y).drop (k + 1) ++ [(l.set k y).getD k Ca.Fr.none] = l.take k ++ l.drop (k + 1) ++ [y] := by
  rw [List.take_set_of_le (Nat.le_refl _), List.drop_set_of_lt (Nat.lt_succ_self _), List.getD_eq_getElem?_getD, List.getElem?_set_self hk, Option.getD_some]

section
variable {W W' w wA : World} {ok : Nat → Prop} {x r : Nat} {vL va : Value} {st : Ca.St} {l' : List Ca.Fr} {n : ByteArray} {i : Int}

set_option maxRecDepth 100000 in
set_option maxHeartbeats 4000000 in
theorem rcput_any (n : ByteArray) (i : Int) (d : ByteArray) (w : World) (h : RC w ok x r vL st) (ha : Ca.Apart st.l) (hl : st.l.length ≤ 800) (hn : n.size ≤ 1000) (hd : d.size ≤ 1000000) (hok : ∀ i, w.heap.size ≤ i → ok i) :
    Calls Try.prog 41 #[at_ x, .string n, .int .i64 i, .string d] w fun e w' => e = .returned (.int .i64 (Ca.put st n i d).1) ∧ ∃ vL', RC w' ok x r vL' (Ca.put st n i d).2 ∧ Turn (QOwn x r vL) w (QOwn x r vL') w' := by
  have HEN : Hid (Calls Try.prog 66 #[.string d] w fun e w' => e = .returned (.tuple #[.string (Ca.enc d).1, .int .i64 (Ca.enc d).2]) ∧ Below w.heap.size w w') := rencode_any d w (by omega)
  have HRC : Hid (RC w ok x r vL st) := h
  by_cases he : (Ca.enc d).2 = 0
  · have hes := enc_size he
    have HA : Hid (∀ W, Below w.heap.size w W → Calls Try.prog 50 #[at_ x, .string n, .int .i64 i] W fun e w' => ∃ z, e = .returned (.int .i64 z) ∧ Ca.AtP st.l n i z ∧ w' = W) := fun W hb => rat_any n i W (h.later hb) (by omega)
    have HRM : Hid (∀ W, Below w.heap.size w W → Calls Try.prog 67 #[at_ x] W fun e w' => e = .returned (.bool (!Ca.stuck st.most st.l)) ∧ Below W.heap.size W w') := fun W hb => rroom_any W (h.later hb) (by omega)
    have HC0 : Hid (∀ W, Below w.heap.size w W → W.cell? ⟨x, 0, none⟩ = some (at_ r)) := fun W hb => (h.later hb).cell0
    have HOK : Hid (∀ W : World, w.heap.size ≤ W.heap.size → ∀ i, W.heap.size ≤ i → ok i) := fun W h1 i hi => hok i (by omega)
    have HFP : Hid (∀ W, Below w.heap.size w W → Calls Try.prog 68 #[at_ r, .string n, .int .i64 i, .string (Ca.enc d).1] W fun e w' => e = .returned (.int .i64 (Fi.putp st.fs n i (Ca.enc d).1).1) ∧ RC w' ok x r vL { st with fs := (Fi.putp st.fs n i (Ca.enc d).1).2 } ∧ Turn (QOwn x r vL) W (QOwn x r vL) w') := fun W hb => by
      refine (rput_any n i (Ca.enc d).1 W (h.later hb).files (by omega) (by omega) ((h.later hb).okF (HOK.out W hb.size))).mono ?_
      rintro e w' ⟨rfl, h1, h2⟩
      exact ⟨rfl, (h.later hb).fileTurn h1 h2⟩
    rw [he] at HEN
    cases hlk : Ca.look st.l n i with
    | none =>
      have HLK : Hid (Ca.look st.l n i = none) := hlk
      cases hs : Ca.stuck st.most st.l with
      | true =>
        rw [put_stuck he hlk hs]
        rw [hs] at HRM
        clear h ha hok hlk hs he HFP HC0 hes
        generalize (Ca.enc d).1 = s at *
        unfold at_ at HA HRM
        unfold at_
        go_enter Try.func41, Try.ntmps41
        go_wp2_with fail
        refine Calls.mono HEN.out ?_
        rintro e w1 ⟨rfl, hb1⟩
        have HA1 : Hid (Calls _ _ _ _ _) := HA.out w1 hb1
        have HRM1 : Hid (Calls _ _ _ _ _) := HRM.out w1 hb1
        have B1 : Hid (Below w.heap.size w w1) := hb1
        clear hb1 HA HRM HEN
        go_wp2_with fail
        refine Calls.mono HA1.out ?_
        rintro e w2 ⟨z, rfl, hz, rfl⟩
        obtain rfl := atp_none hz HLK.out
        clear HA1 hz
        go_wp2_with fail
        refine Calls.mono HRM1.out ?_
        rintro e w3 ⟨rfl, hb3⟩
        have H3 : Hid (RC w3 ok x r vL st) := HRC.out.later (bnext B1.out hb3)
        have T3 : Hid (Turn (QOwn x r vL) w (QOwn x r vL) w3) := Turn.below (bnext B1.out hb3)
        clear hb3 HRM1
        go_wp2
        go_ret
        exact ⟨rfl, _, H3.out, T3.out⟩
      | false =>
        rw [hs] at HRM
        by_cases hpe : (Fi.putp st.fs n i (Ca.enc d).1).1 = 0
        · have eq : Ca.put st n i d = (0, ⟨st.most, (Fi.putp st.fs n i (Ca.enc d).1).2, Ca.room st.most st.l ++ [⟨n, i, d, 0⟩]⟩) := by
            unfold Ca.put
            rw [if_neg (by simp [he]), if_neg (by rw [hs]; simp), if_neg (by simp [hpe]), hlk]
          rw [eq]
          rw [hpe] at HFP
          clear h ha hok hlk hs he hpe eq hes
          generalize (Fi.putp st.fs n i (Ca.enc d).1).2 = fs2 at *
          generalize (Ca.enc d).1 = s at *
          have HAD : Hid (∀ W v, RC W ok x r v { st with fs := fs2 } → (∀ i, W.heap.size ≤ i → ok i) → Calls Try.prog 69 #[at_ x, .agg #[.string n, .string d, .int .i64 i, .int .i64 0]] W fun e w' => e = .returned (.tuple #[]) ∧ ∃ vL', RC w' ok x r vL' ⟨st.most, fs2, Ca.room st.most st.l ++ [⟨n, i, d, 0⟩]⟩ ∧ Turn (QOwn x r v) W (QOwn x r vL') w') := fun W v hr ho => radd_any ⟨n, i, d, 0⟩ W hr (show st.l.length ≤ 1000 by omega) ho
          unfold at_ at HA HRM HC0 HFP HAD
          unfold at_
          go_enter Try.func41, Try.ntmps41
          go_wp2_with fail
          refine Calls.mono HEN.out ?_
          rintro e w1 ⟨rfl, hb1⟩
          have HA1 : Hid (Calls _ _ _ _ _) := HA.out w1 hb1
          have HRM1 : Hid (Calls _ _ _ _ _) := HRM.out w1 hb1
          have B1 : Hid (Below w.heap.size w w1) := hb1
          clear hb1 HA HRM HEN
          go_wp2_with fail
          refine Calls.mono HA1.out ?_
          rintro e w2 ⟨z, rfl, hz, rfl⟩
          obtain rfl := atp_none hz HLK.out
          clear HA1 hz
          go_wp2_with fail
          refine Calls.mono HRM1.out ?_
          rintro e w3 ⟨rfl, hb3⟩
          have B3 : Hid (Below w.heap.size w w3) := bnext B1.out hb3
          have hc0 := HC0.out w3 B3.out
          have HFP1 : Hid (Calls _ _ _ _ _) := HFP.out w3 B3.out
          clear hb3 HRM1 B1 HC0 HFP
          go_wp2_with fail
          refine Calls.mono HFP1.out ?_
          rintro e w4 ⟨rfl, h4, ht4⟩
          have H4 : Hid (RC w4 ok x r vL { st with fs := fs2 }) := h4
          have T4 : Hid (Turn (QOwn x r vL) w (QOwn x r vL) w4) := (Turn.below B3.out).trans ht4
          have HA4 : Hid (Calls _ _ _ _ _) := HAD.out w4 vL h4 (HOK.out w4 T4.out.size)
          clear h4 ht4 HFP1 hc0 HAD
          go_wp2_with fail
          refine Calls.mono HA4.out ?_
          rintro e w5 ⟨rfl, v5, h5, ht5⟩
          have H5 : Hid (RC _ _ _ _ _ _) := h5
          have T5 : Hid (Turn _ w _ w5) := T4.out.trans ht5
          clear h5 ht5 HA4 H4 T4
          go_wp2
          go_ret
          exact ⟨rfl, _, H5.out, T5.out⟩
        · have eq : Ca.put st n i d = ((Fi.putp st.fs n i (Ca.enc d).1).1, { st with fs := (Fi.putp st.fs n i (Ca.enc d).1).2 }) := by
            unfold Ca.put
            rw [if_neg (by simp [he]), if_neg (by rw [hs]; simp), if_pos hpe]
          rw [eq]
          have hpb : ((Fi.putp st.fs n i (Ca.enc d).1).1 != 0) = true := by simpa using hpe
          clear h ha hok hlk hs he eq hes
          generalize (Fi.putp st.fs n i (Ca.enc d).1).2 = fs2 at *
          generalize (Fi.putp st.fs n i (Ca.enc d).1).1 = pe at *
          generalize (Ca.enc d).1 = s at *
          unfold at_ at HA HRM HC0 HFP
          unfold at_
          go_enter Try.func41, Try.ntmps41
          go_wp2_with fail
          refine Calls.mono HEN.out ?_
          rintro e w1 ⟨rfl, hb1⟩
          have HA1 : Hid (Calls _ _ _ _ _) := HA.out w1 hb1
          have HRM1 : Hid (Calls _ _ _ _ _) := HRM.out w1 hb1
          have B1 : Hid (Below w.heap.size w w1) := hb1
          clear hb1 HA HRM HEN
          go_wp2_with fail
          refine Calls.mono HA1.out ?_
          rintro e w2 ⟨z, rfl, hz, rfl⟩
          obtain rfl := atp_none hz HLK.out
          clear HA1 hz
          go_wp2_with fail
          refine Calls.mono HRM1.out ?_
          rintro e w3 ⟨rfl, hb3⟩
          have B3 : Hid (Below w.heap.size w w3) := bnext B1.out hb3
          have hc0 := HC0.out w3 B3.out
          have HFP1 : Hid (Calls _ _ _ _ _) := HFP.out w3 B3.out
          clear hb3 HRM1 B1 HC0 HFP
          go_wp2_with fail
          refine Calls.mono HFP1.out ?_
          rintro e w4 ⟨rfl, h4, ht4⟩
          have H4 : Hid (RC w4 ok x r vL { st with fs := fs2 }) := h4
          have T4 : Hid (Turn (QOwn x r vL) w (QOwn x r vL) w4) := (Turn.below B3.out).trans ht4
          clear h4 ht4 HFP1 hc0
          go_wp2
          go_ret
          exact ⟨rfl, _, H4.out, T4.out⟩
    | some f =>
      have HLK : Hid (Ca.look st.l n i = some f) := hlk
      obtain ⟨hmem, hfn, hfi⟩ := Ca.look_some hlk
      clear HRM
      by_cases hpe : (Fi.putp st.fs n i (Ca.enc d).1).1 = 0
      · have eq : Ca.put st n i d = (0, ⟨st.most, (Fi.putp st.fs n i (Ca.enc d).1).2, Ca.gone st.l n i ++ [{ f with d := d }]⟩) := by
          unfold Ca.put
          rw [if_neg (by simp [he]), if_neg (by rw [hlk]; simp), if_neg (by simp [hpe]), hlk]
        rw [eq]
        rw [hpe] at HFP
        have HGO : Hid (∀ k, k < st.l.length → st.l.getD k Ca.Fr.none = f → st.l.take k ++ st.l.drop (k + 1) = Ca.gone st.l n i) := fun k hk e => (Ca.gone_at ha hk (by rw [e]; exact hfn) (by rw [e]; exact hfi)).symm
        clear h ha hok hlk he hpe eq hes hmem hfn hfi
        generalize (Fi.putp st.fs n i (Ca.enc d).1).2 = fs2 at *
        generalize (Ca.enc d).1 = s at *
        generalize Ca.gone st.l n i = GL at *
        have HUS : Hid (∀ W v k, k < st.l.length → st.l.getD k Ca.Fr.none = f → RC W ok x r v ⟨st.most, fs2, st.l.set k { f with d := d }⟩ → (∀ i, W.heap.size ≤ i → ok i) → Calls Try.prog 70 #[at_ x, .int .i64 k] W fun e w' => e = .returned (.tuple #[]) ∧ ∃ vL', RC w' ok x r vL' ⟨st.most, fs2, GL ++ [{ f with d := d }]⟩ ∧ Turn (QOwn x r v) W (QOwn x r vL') w') := fun W v k hk hf hr ho => by
          have := ruse_any k W hr (by simp; omega) (by simpa using hk) ho
          simp only [set_use hk, HGO.out k hk hf] at this
          exact this
        have HSD : Hid (∀ k, k < st.l.length → st.l.getD k Ca.Fr.none = f → (frc st.l).set (k * 4 + 1) (.string d) = frc (st.l.set k { f with d := d })) := fun k hk hf => by rw [frc_set_data hk, hf]
        unfold at_ at HA HC0 HFP HUS
        unfold at_
        go_enter Try.func41, Try.ntmps41
        go_wp2_with fail
        refine Calls.mono HEN.out ?_
        rintro e w1 ⟨rfl, hb1⟩
        have HA1 : Hid (Calls _ _ _ _ _) := HA.out w1 hb1
        have HFP1 : Hid (Calls _ _ _ _ _) := HFP.out w1 hb1
        have hc0 := HC0.out w1 hb1
        have B1 : Hid (Below w.heap.size w w1) := hb1
        clear hb1 HA HEN HFP HC0
        go_wp2_with fail
        refine Calls.mono HA1.out ?_
        rintro e w2 ⟨z, rfl, hz, rfl⟩
        obtain ⟨k, rfl, hk, hf⟩ := atp_some hz HLK.out
        clear HA1 hz
        go_wp2_with fail
        refine Calls.mono HFP1.out ?_
        rintro e w4 ⟨rfl, h4, ht4⟩
        have H4 : Hid (RC w4 ok x r vL { st with fs := fs2 }) := h4
        have T4 : Hid (Turn (QOwn x r vL) w (QOwn x r vL) w4) := (Turn.below B1.out).trans ht4
        have cL := h4.cell2
        obtain ⟨a1, cap1, rfl, hcs⟩ := h4.slice
        obtain ⟨g1, rfl, _, hfr⟩ := hcs.resolve_left (by intro e; simp only at e; rw [e] at hk; simp at hk)
        have c1 := (hfr k hk).c1
        have fz : w4.frozen? ⟨g1, k * 4 + 1, none⟩ = false := h4.row.frozenAt _
        have HST : Hid (RC _ _ _ _ _ _ ∧ Turn _ _ _ _) := h4.store (l' := st.l.set k { f with d := d }) (k * 4 + 1) (.string d) (by simp) (HSD.out k hk hf)
        have HU1 : Hid (Calls _ _ _ _ _) := HUS.out _ _ k hk hf HST.out.1 (HOK.out _ (Nat.le_trans T4.out.size HST.out.2.size))
        have T5 : Hid (Turn _ w _ _) := T4.out.trans HST.out.2
        clear h4 ht4 HFP1 hc0 hcs hfr HUS HSD hf
        have cL : w4.cell? ⟨x, 2, none⟩ = some (.slice (some ⟨g1, 0, none⟩) st.l.length cap1) := cL
        go_wp2_with fail
        refine Calls.mono HU1.out ?_
        rintro e w6 ⟨rfl, v6, h6, ht6⟩
        have H6 : Hid (RC _ _ _ _ _ _) := h6
        have T6 : Hid (Turn _ w _ w6) := T5.out.trans ht6
        clear h6 ht6 HU1
        go_wp2
        go_ret
        exact ⟨rfl, _, H6.out, T6.out⟩
      · have eq : Ca.put st n i d = ((Fi.putp st.fs n i (Ca.enc d).1).1, { st with fs := (Fi.putp st.fs n i (Ca.enc d).1).2 }) := by
          unfold Ca.put
          rw [if_neg (by simp [he]), if_neg (by rw [hlk]; simp), if_pos hpe]
        rw [eq]
        have hpb : ((Fi.putp st.fs n i (Ca.enc d).1).1 != 0) = true := by simpa using hpe
        clear h ha hok hlk he eq hes hmem hfn hfi
        generalize (Fi.putp st.fs n i (Ca.enc d).1).2 = fs2 at *
        generalize (Fi.putp st.fs n i (Ca.enc d).1).1 = pe at *
        generalize (Ca.enc d).1 = s at *
        unfold at_ at HA HC0 HFP
        unfold at_
        go_enter Try.func41, Try.ntmps41
        go_wp2_with fail
        refine Calls.mono HEN.out ?_
        rintro e w1 ⟨rfl, hb1⟩
        have HA1 : Hid (Calls _ _ _ _ _) := HA.out w1 hb1
        have HFP1 : Hid (Calls _ _ _ _ _) := HFP.out w1 hb1
        have hc0 := HC0.out w1 hb1
        have B1 : Hid (Below w.heap.size w w1) := hb1
        clear hb1 HA HEN HFP HC0
        go_wp2_with fail
        refine Calls.mono HA1.out ?_
        rintro e w2 ⟨z, rfl, hz, rfl⟩
        obtain ⟨k, rfl, hk, hf⟩ := atp_some hz HLK.out
        clear HA1 hz
        go_wp2_with fail
        refine Calls.mono HFP1.out ?_
        rintro e w4 ⟨rfl, h4, ht4⟩
        have H4 : Hid (RC w4 ok x r vL { st with fs := fs2 }) := h4
        have T4 : Hid (Turn (QOwn x r vL) w (QOwn x r vL) w4) := (Turn.below B1.out).trans ht4
        clear h4 ht4 HFP1 hc0
        go_wp2
        go_ret
        exact ⟨rfl, _, H4.out, T4.out⟩
  · have eq : Ca.put st n i d = ((Ca.enc d).2, st) := put_long he
    rw [eq]
    have heb : ((Ca.enc d).2 != 0) = true := by simpa using he
    clear h ha hok eq
    generalize (Ca.enc d).1 = s at *
    generalize (Ca.enc d).2 = ee at *
    unfold at_
    go_enter Try.func41, Try.ntmps41
    go_wp2_with fail
    refine Calls.mono HEN.out ?_
    rintro e w1 ⟨rfl, hb1⟩
    have H1 : Hid (RC w1 ok x r vL st) := HRC.out.later hb1
    have T1 : Hid (Turn (QOwn x r vL) w (QOwn x r vL) w1) := Turn.below hb1
    clear hb1 HEN
    go_wp2
    go_ret
    exact ⟨rfl, _, H1.out, T1.out⟩
end

theorem drop_step (l : List Ca.Fr) (n : ByteArray) (k : Nat) (hk : k < l.length) : (l.take (k + 1)).filter (fun y => !decide (y.n = n)) = (l.take k).filter (fun y => !decide (y.n = n)) ++ (if (l.getD k Ca.Fr.none).n = n then [] else [l.getD k Ca.Fr.none]) := by
  have e : l.take (k + 1) = l.take k ++ [l.getD k Ca.Fr.none] := by
    rw [List.take_add_one, List.getD_eq_getElem?_getD, List.getElem?_eq_getElem hk]; rfl
  rw [e, List.filter_append]
  congr 1
  generalize l.getD k Ca.Fr.none = f
  by_cases h : f.n = n
  · rw [if_pos h]; simp [h]
  · rw [if_neg h]; simp [h]

section
variable {W W' w wA : World} {ok : Nat → Prop} {x r : Nat} {vL va : Value} {st : Ca.St} {l' : List Ca.Fr} {n : ByteArray} {i : Int}

set_option maxRecDepth 100000 in
set_option maxHeartbeats 4000000 in
theorem rdrop_any (n : ByteArray) (w : World) (h : RC w ok x r vL st) (hl : st.l.length ≤ 800) (hok : ∀ i, w.heap.size ≤ i → ok i) :
    Calls Try.prog 42 #[at_ x, .string n] w fun e w' => e = .returned (.tuple #[]) ∧ ∃ vL', RC w' ok x r vL' (Ca.drop st n) ∧ Turn (QOwn x r vL) w (QOwn x r vL') w' := by
  have HAF : Hid (∀ W va, Below w.heap.size w W → W.ownsRow w.heap.size 47 4 va (st.l.filter fun y => !decide (y.n = n)).length (frc (st.l.filter fun y => !decide (y.n = n))) → RC (W.setCell ⟨x, 2, none⟩ va) ok x r va (Ca.drop st n) ∧ Turn (QOwn x r vL) w (QOwn x r va) (W.setCell ⟨x, 2, none⟩ va)) := fun W va hb hr => h.relist hb hr hok
  have HC : Hid (∀ W, Below w.heap.size w W → W.cell? ⟨x, 2, none⟩ = some vL ∧ W.frozen? ⟨x, 2, none⟩ = false) := fun W hb => ⟨(h.later hb).cell2, (h.later hb).free2⟩
  have HST : Hid (∀ k, k < st.l.length → (st.l.take (k + 1)).filter (fun y => !decide (y.n = n)) = (st.l.take k).filter (fun y => !decide (y.n = n)) ++ (if (st.l.getD k Ca.Fr.none).n = n then [] else [st.l.getD k Ca.Fr.none])) := fun k hk => drop_step st.l n k hk
  have HS0 : Hid ([] = (st.l.take 0).filter (fun y => !decide (y.n = n))) := rfl
  have HSE : Hid ((st.l.take st.l.length).filter (fun y => !decide (y.n = n)) = st.l.filter fun y => !decide (y.n = n)) := by show _ = _; rw [List.take_length]
  have HSL : Hid (∀ k, ((st.l.take k).filter (fun y => !decide (y.n = n))).length ≤ 800) := fun k => by
    have h1 := List.length_filter_le (fun y : Ca.Fr => !decide (y.n = n)) (st.l.take k)
    have h2 : (st.l.take k).length ≤ st.l.length := by rw [List.length_take]; omega
    omega
  have HFR : Hid (∀ W, Below w.heap.size w W → ∀ k, k < st.l.length → ∃ g a cap, vL = .slice a st.l.length cap ∧ a = some ⟨g, 0, none⟩ ∧ FrAt W g (k * 4) (st.l.getD k Ca.Fr.none)) := fun W hb k hk => by
    obtain ⟨a, cap, e, hcs⟩ := (h.later hb).slice
    rcases hcs with h | ⟨g, h1, _, h2⟩
    · rw [h] at hk; simp at hk
    · exact ⟨g, a, cap, e, h1, h2 k hk⟩
  obtain ⟨a, cap, rfl, _⟩ := h.slice
  clear h hok
  obtain ⟨i0, hti, hz0, hz1, hz2⟩ := info_parts Try.frInfo
  have cL := (HC.out w (Below.refl _ _)).1
  unfold at_
  go_enter Try.func42, Try.ntmps42
  go_wp2
  clear cL
  go_loopw [4, 5] (fun v y wr => ∃ (k : Nat) (A : List Ca.Fr), k ≤ st.l.length ∧ y = .int .i64 k ∧ Hid (A = (st.l.take k).filter (fun y => !decide (y.n = n))) ∧ Hid (wr.ownsRow w.heap.size 47 4 v A.length (frc A)) ∧ Hid (Below w.heap.size w wr)) (fun _ y _ => st.l.length - (intOf y).toNat)
  case atStart => exact ⟨0, [], Nat.zero_le _, rfl, HS0, World.ownsRow_nil _ _ _ _, Below.refl _ _⟩
  case round =>
    obtain ⟨k, A, hk, rfl, HAq, R, B⟩ := hrel
    have cL := (HC.out wr B.out).1
    have hAl : A.length ≤ 800 := by have := HSL.out k; rw [← HAq.out] at this; exact this
    have zz : w.heap.size ≤ wr.heap.size := B.out.size
    by_cases hlt : k < st.l.length
    · obtain ⟨g, a', cap', e, rfl, hf⟩ := HFR.out wr B.out k hlt
      simp only [Value.slice.injEq] at e
      obtain ⟨rfl, _, rfl⟩ := e
      have HS1 := HST.out k hlt
      rw [← HAq.out] at HS1
      generalize st.l.getD k Ca.Fr.none = f at hf HS1
      have c0 := hf.c0
      have c1 := hf.c1
      have c2 := hf.c2
      have c3 := hf.c3
      by_cases hn : f.n = n
      · rw [if_pos hn, List.append_nil] at HS1
        have HS2 : Hid (A = (st.l.take (k + 1)).filter (fun y => !decide (y.n = n))) := HS1.symm
        rw [hn] at c0
        clear hf HS1 hn c1 c2 c3
        go_wp2
        go_roundw
        case rel => exact ⟨k + 1, A, by omega, by go_num, HS2, R, B⟩
        case measure => simp [intOf]; omega
      · rw [if_neg hn] at HS1
        have HS2 : Hid (A ++ [f] = (st.l.take (k + 1)).filter (fun y => !decide (y.n = n))) := HS1.symm
        have hne := text_ne hn
        clear hf HS1 hn
        go_wp2_with (at_builtin; refine wpList_append_lies _ rfl _ _ 36 rfl w.heap.size 47 i0 (.agg #[.string ⟨#[]⟩, .string ⟨#[]⟩, .int .i64 0, .int .i64 0]) 4 48 Try.underlying36 hti hz0 hz1 hz2 rfl (by omega) _ A.length (frc A) rfl (R.out.alloc _) ⟨wr.heap.size, 0, none⟩ 1 1 (frarr f).toList rfl rfl (World.news_of_block (cs := frarr f) (t := 47) (fr := (0, 0)) (heap_alloc_new wr _)) (frow_one f) (by omega) (by unfold maxLen; omega) (by omega) (by simp; omega) _ rfl ?_)
        intro g5 cap5 w5 hown5 hgrow5 hat5 hlt5
        have R5 : Hid (w5.ownsRow w.heap.size 47 4 (.slice (some ⟨g5, 0, none⟩) (A.length + 1) cap5) (A ++ [f]).length (frc (A ++ [f]))) := by
          have e : frc (A ++ [f]) = frc A ++ (frarr f).toList := by rw [frc_append _ [f], frc_cons]; simp [frc, frarr_list]
          rw [List.length_append, e]; exact hown5
        have B5 : Hid (Below w.heap.size w w5) := (B.out.alloc B.out.size _).grown hgrow5 (by have := B.out.size; simp; omega) (fun j hj => (R.out.lt j hj).1)
        have z5 : w.heap.size ≤ w5.heap.size := B5.out.size
        clear hown5 hgrow5 hat5 hlt5 c0 c1 c2 c3 cL hne
        go_wp2
        go_roundw
        case rel => exact ⟨k + 1, _, by omega, by go_num, HS2, R5, B5⟩
        case measure => simp [intOf]; omega
    · obtain rfl : k = st.l.length := by omega
      obtain ⟨va, vm, vc, rfl⟩ := row_shape R.out
      have HR : Hid (RC _ _ _ _ _ _ ∧ Turn _ _ _ _) := HAF.out wr _ B.out (by rw [← HSE.out, ← HAq.out]; exact R.out)
      have fz := (HC.out wr B.out).2
      go_wp2
      go_end0
      exact ⟨rfl, _, HR.out.1, HR.out.2⟩
end

theorem splitOf_size (s : ByteArray) : ∀ t ∈ splitOf s, t.size ≤ 9223372036854775807 := by
  intro t ht
  obtain ⟨p, hp, rfl⟩ := List.mem_map.1 ht
  have h1 := (Pg.split_ok _ p hp).1
  show p.length ≤ _
  omega

section
variable {w : World} {ok : Nat → Prop} {q r : Nat} {vL : Value} {st : Ca.St}

/-- What an act comes to, by the document. -/
def SaidC (w w' : World) (e : Ending) (ok : Nat → Prop) (q r : Nat) (vL : Value) (s : ByteArray × Int × Ca.St) : Prop :=
  e = .returned (.tuple #[.string s.1, .int .i64 s.2.1]) ∧ ∃ vL', RC w' ok q r vL' s.2.2 ∧ Turn (QOwn q r vL) w (QOwn q r vL') w'

/-- What acts ask of the document's cache. -/
structure RcOk (w : World) (ok : Nat → Prop) (q r : Nat) (vL : Value) (st : Ca.St) : Prop where
  rc : RC w ok q r vL st
  apart : Ca.Apart st.l
  len : st.l.length ≤ 800
  pins : ∀ f ∈ st.l, f.p ≤ 1000000
  new : ∀ i, w.heap.size ≤ i → ok i
theorem RcOk.later {W : World} (h : RcOk w ok q r vL st) (hb : Below w.heap.size w W) : RcOk W ok q r vL st := ⟨h.rc.later hb, h.apart, h.len, h.pins, fun i hi => h.new i (Nat.le_trans hb.size hi)⟩

set_option maxRecDepth 100000 in
set_option maxHeartbeats 2000000 in
theorem said_get (d : Cd) (h : RcOk w ok q r vL st) (hok : CdOk d) (hnm : d.name.size ≤ 40) (hdt : d.data.size ≤ 400) (hkk : d.kind % 10 = 0 ∨ d.kind % 10 = 1) :
    Calls Try.prog 15 #[at_ q, .agg d.cells] w fun e w' => SaidC w w' e ok q r vL (Ca.get st d.name d.i) := by
  obtain ⟨kind, name, i, data, x⟩ := d
  simp only at *
  have hbx := boxC w ⟨kind, name, i, data, x⟩
  rcases hkk with hkk | hkk
  · have hr : (kind : Int) % 10 = 0 := by omega
    have h1 := h.later hbx
    have HT : Hid (Turn (QOwn q r vL) w (QOwn q r vL) (w.alloc (.cells (Cd.cells ⟨kind, name, i, data, x⟩) 42))) := Turn.below hbx
    have hkd := hok.kind
    have hi2 := hok.i2
    simp only at hkd hi2
    have HC : Hid (Calls _ _ _ _ _) := rget_any name i _ h1.rc h1.apart (by have := h1.len; omega) h1.new
    clear hbx h1 h hok
    unfold Cd.cells at *
    unfold at_ at *
    generalize (x.toNat : Int) = X at *
    go_enter Try.func15, Try.ntmps15
    go_wp2_with fail
    refine Calls.mono HC.out ?_
    rintro e w2 ⟨rfl, v2, hs2, ht2⟩
    have H2 : Hid (_ ∧ _) := And.intro hs2 (HT.out.trans ht2)
    clear hs2 ht2
    go_wp2
    go_ret2
    exact ⟨rfl, v2, H2.out⟩
  · have hr : (kind : Int) % 10 = 1 := by omega
    have h1 := h.later hbx
    have HT : Hid (Turn (QOwn q r vL) w (QOwn q r vL) (w.alloc (.cells (Cd.cells ⟨kind, name, i, data, x⟩) 42))) := Turn.below hbx
    have hkd := hok.kind
    have hi2 := hok.i2
    simp only at hkd hi2
    have HC : Hid (Calls _ _ _ _ _) := rget_any name i _ h1.rc h1.apart (by have := h1.len; omega) h1.new
    clear hbx h1 h hok
    unfold Cd.cells at *
    unfold at_ at *
    generalize (x.toNat : Int) = X at *
    go_enter Try.func15, Try.ntmps15
    go_wp2_with fail
    refine Calls.mono HC.out ?_
    rintro e w2 ⟨rfl, v2, hs2, ht2⟩
    have H2 : Hid (_ ∧ _) := And.intro hs2 (HT.out.trans ht2)
    clear hs2 ht2
    go_wp2
    go_ret2
    exact ⟨rfl, v2, H2.out⟩

set_option maxRecDepth 100000 in
set_option maxHeartbeats 2000000 in
theorem said_pin (d : Cd) (h : RcOk w ok q r vL st) (hok : CdOk d) (hnm : d.name.size ≤ 40) (hdt : d.data.size ≤ 400) (hkk : d.kind % 10 = 2) :
    Calls Try.prog 15 #[at_ q, .agg d.cells] w fun e w' => SaidC w w' e ok q r vL (Ca.pin st d.name d.i) := by
  obtain ⟨kind, name, i, data, x⟩ := d
  simp only at *
  have hbx := boxC w ⟨kind, name, i, data, x⟩
  have hr : (kind : Int) % 10 = 2 := by omega
  have h1 := h.later hbx
  have HT : Hid (Turn (QOwn q r vL) w (QOwn q r vL) (w.alloc (.cells (Cd.cells ⟨kind, name, i, data, x⟩) 42))) := Turn.below hbx
  have hkd := hok.kind
  have hi2 := hok.i2
  simp only at hkd hi2
  have HC : Hid (Calls _ _ _ _ _) := rpin_any name i _ h1.rc h1.apart h1.len h1.pins h1.new
  clear hbx h1 h hok
  unfold Cd.cells at *
  unfold at_ at *
  generalize (x.toNat : Int) = X at *
  go_enter Try.func15, Try.ntmps15
  go_wp2_with fail
  refine Calls.mono HC.out ?_
  rintro e w2 ⟨rfl, v2, hs2, ht2⟩
  have H2 : Hid (_ ∧ _) := And.intro hs2 (HT.out.trans ht2)
  clear hs2 ht2
  go_wp2
  go_ret2
  exact ⟨rfl, v2, H2.out⟩

set_option maxRecDepth 100000 in
set_option maxHeartbeats 2000000 in
theorem said_unpin (d : Cd) (h : RcOk w ok q r vL st) (hok : CdOk d) (hnm : d.name.size ≤ 40) (hdt : d.data.size ≤ 400) (hkk : d.kind % 10 = 3) :
    Calls Try.prog 15 #[at_ q, .agg d.cells] w fun e w' => SaidC w w' e ok q r vL (((⟨#[]⟩ : ByteArray), Ca.unpin st d.name d.i)) := by
  obtain ⟨kind, name, i, data, x⟩ := d
  simp only at *
  have hbx := boxC w ⟨kind, name, i, data, x⟩
  have hr : (kind : Int) % 10 = 3 := by omega
  have h1 := h.later hbx
  have HT : Hid (Turn (QOwn q r vL) w (QOwn q r vL) (w.alloc (.cells (Cd.cells ⟨kind, name, i, data, x⟩) 42))) := Turn.below hbx
  have hkd := hok.kind
  have hi2 := hok.i2
  simp only at hkd hi2
  have HC : Hid (Calls _ _ _ _ _) := runpin_any name i _ h1.rc h1.apart h1.len h1.pins
  clear hbx h1 h hok
  unfold Cd.cells at *
  unfold at_ at *
  generalize (x.toNat : Int) = X at *
  go_enter Try.func15, Try.ntmps15
  go_wp2_with fail
  refine Calls.mono HC.out ?_
  rintro e w2 ⟨rfl, v2, hs2, ht2⟩
  have H2 : Hid (_ ∧ _) := And.intro hs2 (HT.out.trans ht2)
  clear hs2 ht2
  go_wp2
  go_ret2
  exact ⟨rfl, v2, H2.out⟩

set_option maxRecDepth 100000 in
set_option maxHeartbeats 2000000 in
theorem said_put (d : Cd) (h : RcOk w ok q r vL st) (hok : CdOk d) (hnm : d.name.size ≤ 40) (hdt : d.data.size ≤ 400) (hkk : d.kind % 10 = 4) :
    Calls Try.prog 15 #[at_ q, .agg d.cells] w fun e w' => SaidC w w' e ok q r vL (((⟨#[]⟩ : ByteArray), Ca.put st d.name d.i d.data)) := by
  obtain ⟨kind, name, i, data, x⟩ := d
  simp only at *
  have hbx := boxC w ⟨kind, name, i, data, x⟩
  have hr : (kind : Int) % 10 = 4 := by omega
  have h1 := h.later hbx
  have HT : Hid (Turn (QOwn q r vL) w (QOwn q r vL) (w.alloc (.cells (Cd.cells ⟨kind, name, i, data, x⟩) 42))) := Turn.below hbx
  have hkd := hok.kind
  have hi2 := hok.i2
  simp only at hkd hi2
  have HC : Hid (Calls _ _ _ _ _) := rcput_any name i data _ h1.rc h1.apart h1.len (by omega) (by omega) h1.new
  clear hbx h1 h hok
  unfold Cd.cells at *
  unfold at_ at *
  generalize (x.toNat : Int) = X at *
  go_enter Try.func15, Try.ntmps15
  go_wp2_with fail
  refine Calls.mono HC.out ?_
  rintro e w2 ⟨rfl, v2, hs2, ht2⟩
  have H2 : Hid (_ ∧ _) := And.intro hs2 (HT.out.trans ht2)
  clear hs2 ht2
  go_wp2
  go_ret2
  exact ⟨rfl, v2, H2.out⟩

set_option maxRecDepth 100000 in
set_option maxHeartbeats 2000000 in
theorem said_drop (d : Cd) (h : RcOk w ok q r vL st) (hok : CdOk d) (hnm : d.name.size ≤ 40) (hdt : d.data.size ≤ 400) (hkk : d.kind % 10 = 5) :
    Calls Try.prog 15 #[at_ q, .agg d.cells] w fun e w' => SaidC w w' e ok q r vL (((⟨#[]⟩ : ByteArray), 0, Ca.drop st d.name)) := by
  obtain ⟨kind, name, i, data, x⟩ := d
  simp only at *
  have hbx := boxC w ⟨kind, name, i, data, x⟩
  have hr : (kind : Int) % 10 = 5 := by omega
  have h1 := h.later hbx
  have HT : Hid (Turn (QOwn q r vL) w (QOwn q r vL) (w.alloc (.cells (Cd.cells ⟨kind, name, i, data, x⟩) 42))) := Turn.below hbx
  have hkd := hok.kind
  have hi2 := hok.i2
  simp only at hkd hi2
  have HC : Hid (Calls _ _ _ _ _) := rdrop_any name _ h1.rc h1.len h1.new
  clear hbx h1 h hok
  unfold Cd.cells at *
  unfold at_ at *
  generalize (x.toNat : Int) = X at *
  go_enter Try.func15, Try.ntmps15
  go_wp2_with fail
  refine Calls.mono HC.out ?_
  rintro e w2 ⟨rfl, v2, hs2, ht2⟩
  have H2 : Hid (_ ∧ _) := And.intro hs2 (HT.out.trans ht2)
  clear hs2 ht2
  go_wp2
  go_ret2
  exact ⟨rfl, v2, H2.out⟩

set_option maxRecDepth 100000 in
set_option maxHeartbeats 2000000 in
theorem said_fail (d : Cd) (h : RcOk w ok q r vL st) (hok : CdOk d) (hnm : d.name.size ≤ 40) (hdt : d.data.size ≤ 400) (hkk : d.kind % 10 = 7) :
    Calls Try.prog 15 #[at_ q, .agg d.cells] w fun e w' => SaidC w w' e ok q r vL (((⟨#[]⟩ : ByteArray), (Fi.fail st.fs d.i).1, { st with fs := (Fi.fail st.fs d.i).2 })) := by
  obtain ⟨kind, name, i, data, x⟩ := d
  simp only at *
  have hbx := boxC w ⟨kind, name, i, data, x⟩
  have h1 := h.later hbx.drew
  have HT : Hid (Turn (QOwn q r vL) w (QOwn q r vL) (w.alloc (.cells (Cd.cells ⟨kind, name, i, data, x⟩) 42)).drew) := Turn.below hbx.drew
  have hkd := hok.kind
  have hi2 := hok.i2
  simp only at hkd hi2
  have hr : (kind : Int) % 10 = 7 := by omega
  have HC : Hid (Calls Try.prog 45 #[at_ r, .int .i64 i] (w.alloc (.cells (Cd.cells ⟨kind, name, i, data, x⟩) 42)).drew fun e w' => e = .returned (.int .i64 (Fi.fail st.fs i).1) ∧ RC w' ok q r vL { st with fs := (Fi.fail st.fs i).2 } ∧ Turn (QOwn q r vL) (w.alloc (.cells (Cd.cells ⟨kind, name, i, data, x⟩) 42)).drew (QOwn q r vL) w') := by
    refine (rfail_any i _ h1.rc.files hi2).mono ?_
    rintro e w' ⟨rfl, k1, k2⟩
    exact ⟨rfl, h1.rc.fileTurn k1 k2⟩
  have cF : (w.alloc (.cells (Cd.cells ⟨kind, name, i, data, x⟩) 42)).cell? ⟨q, 0, none⟩ = some (at_ r) := (h.later hbx).rc.cell0
  clear hbx h1 h hok
  unfold Cd.cells at *
  unfold at_ at *
  generalize (x.toNat : Int) = X at *
  go_enter Try.func15, Try.ntmps15
  go_wp2_with fail
  go_region_law
    (first
    | (go_simp; go_at_call 45; refine Calls.mono HC.out ?_; rintro e w2 ⟨rfl, hs2, ht2⟩; have H2 : Hid (_ ∧ _) := And.intro hs2 (HT.out.trans ht2); clear hs2 ht2)
    | fail)
  all_goals
    go_wp2
    go_ret2
    exact ⟨rfl, vL, H2.out⟩

set_option maxRecDepth 100000 in
set_option maxHeartbeats 2000000 in
theorem said_flip (d : Cd) (h : RcOk w ok q r vL st) (hok : CdOk d) (hnm : d.name.size ≤ 40) (hdt : d.data.size ≤ 400) (hkk : d.kind % 10 = 8) :
    Calls Try.prog 15 #[at_ q, .agg d.cells] w fun e w' => SaidC w w' e ok q r vL (((⟨#[]⟩ : ByteArray), (Fi.flip st.fs d.name d.i 2 d.x).1, { st with fs := (Fi.flip st.fs d.name d.i 2 d.x).2 })) := by
  obtain ⟨kind, name, i, data, x⟩ := d
  simp only at *
  have hbx := boxC w ⟨kind, name, i, data, x⟩
  have h1 := h.later hbx.drew
  have HT : Hid (Turn (QOwn q r vL) w (QOwn q r vL) (w.alloc (.cells (Cd.cells ⟨kind, name, i, data, x⟩) 42)).drew) := Turn.below hbx.drew
  have hkd := hok.kind
  have hi2 := hok.i2
  simp only at hkd hi2
  have hr : (kind : Int) % 10 = 8 := by omega
  have HC : Hid (Calls Try.prog 46 #[at_ r, .string name, .int .i64 i, .int .i64 2, .int .u8 x.toNat] (w.alloc (.cells (Cd.cells ⟨kind, name, i, data, x⟩) 42)).drew fun e w' => e = .returned (.int .i64 (Fi.flip st.fs name i 2 x).1) ∧ RC w' ok q r vL { st with fs := (Fi.flip st.fs name i 2 x).2 } ∧ Turn (QOwn q r vL) (w.alloc (.cells (Cd.cells ⟨kind, name, i, data, x⟩) 42)).drew (QOwn q r vL) w') := by
    refine (rflip_any name i 2 x _ h1.rc.files (h1.rc.okF h1.new)).mono ?_
    rintro e w' ⟨rfl, k1, k2⟩
    exact ⟨rfl, h1.rc.fileTurn k1 k2⟩
  have cF : (w.alloc (.cells (Cd.cells ⟨kind, name, i, data, x⟩) 42)).cell? ⟨q, 0, none⟩ = some (at_ r) := (h.later hbx).rc.cell0
  clear hbx h1 h hok
  unfold Cd.cells at *
  unfold at_ at *
  generalize (x.toNat : Int) = X at *
  go_enter Try.func15, Try.ntmps15
  go_wp2_with fail
  go_region_law
    (first
    | (go_simp; go_at_call 46; refine Calls.mono HC.out ?_; rintro e w2 ⟨rfl, hs2, ht2⟩; have H2 : Hid (_ ∧ _) := And.intro hs2 (HT.out.trans ht2); clear hs2 ht2)
    | fail)
  all_goals
    go_wp2
    go_ret2
    exact ⟨rfl, vL, H2.out⟩

set_option maxRecDepth 100000 in
set_option maxHeartbeats 2000000 in
theorem said_remove (d : Cd) (h : RcOk w ok q r vL st) (hok : CdOk d) (hnm : d.name.size ≤ 40) (hdt : d.data.size ≤ 400) (hkk : d.kind % 10 = 9) :
    Calls Try.prog 15 #[at_ q, .agg d.cells] w fun e w' => SaidC w w' e ok q r vL (((⟨#[]⟩ : ByteArray), (Fi.remove st.fs d.name).1, { st with fs := (Fi.remove st.fs d.name).2 })) := by
  obtain ⟨kind, name, i, data, x⟩ := d
  simp only at *
  have hbx := boxC w ⟨kind, name, i, data, x⟩
  have h1 := h.later hbx.drew
  have HT : Hid (Turn (QOwn q r vL) w (QOwn q r vL) (w.alloc (.cells (Cd.cells ⟨kind, name, i, data, x⟩) 42)).drew) := Turn.below hbx.drew
  have hkd := hok.kind
  have hi2 := hok.i2
  simp only at hkd hi2
  have hr : (kind : Int) % 10 = 9 := by omega
  have HC : Hid (Calls Try.prog 47 #[at_ r, .string name] (w.alloc (.cells (Cd.cells ⟨kind, name, i, data, x⟩) 42)).drew fun e w' => e = .returned (.int .i64 (Fi.remove st.fs name).1) ∧ RC w' ok q r vL { st with fs := (Fi.remove st.fs name).2 } ∧ Turn (QOwn q r vL) (w.alloc (.cells (Cd.cells ⟨kind, name, i, data, x⟩) 42)).drew (QOwn q r vL) w') := by
    refine (rremove_any name _ h1.rc.files (h1.rc.okF h1.new)).mono ?_
    rintro e w' ⟨rfl, k1, k2⟩
    exact ⟨rfl, h1.rc.fileTurn k1 k2⟩
  have cF : (w.alloc (.cells (Cd.cells ⟨kind, name, i, data, x⟩) 42)).cell? ⟨q, 0, none⟩ = some (at_ r) := (h.later hbx).rc.cell0
  clear hbx h1 h hok
  unfold Cd.cells at *
  unfold at_ at *
  generalize (x.toNat : Int) = X at *
  go_enter Try.func15, Try.ntmps15
  go_wp2_with fail
  go_region_law
    (first
    | (go_simp; go_at_call 47; refine Calls.mono HC.out ?_; rintro e w2 ⟨rfl, hs2, ht2⟩; have H2 : Hid (_ ∧ _) := And.intro hs2 (HT.out.trans ht2); clear hs2 ht2)
    | fail)
  all_goals
    go_wp2
    go_ret2
    exact ⟨rfl, vL, H2.out⟩

set_option maxRecDepth 100000 in
set_option maxHeartbeats 2000000 in
theorem said_write (d : Cd) (h : RcOk w ok q r vL st) (hok : CdOk d) (hnm : d.name.size ≤ 40) (hdt : d.data.size ≤ 400) (hkk : d.kind % 10 = 6) :
    Calls Try.prog 15 #[at_ q, .agg d.cells] w fun e w' => SaidC w w' e ok q r vL (((⟨#[]⟩ : ByteArray), (Fi.write st.fs d.name (splitOf d.data)).1, { st with fs := (Fi.write st.fs d.name (splitOf d.data)).2 })) := by
  obtain ⟨kind, name, i, data, x⟩ := d
  simp only at *
  have hbx := boxC w ⟨kind, name, i, data, x⟩
  have h1 := h.later hbx.drew
  have HT : Hid (Turn (QOwn q r vL) w (QOwn q r vL) (w.alloc (.cells (Cd.cells ⟨kind, name, i, data, x⟩) 42)).drew) := Turn.below hbx.drew
  have hkd := hok.kind
  have hi2 := hok.i2
  simp only at hkd hi2
  have hr : (kind : Int) % 10 = 6 := by omega
  have HSP : Hid (Calls _ _ _ _ _) := rsplit_any data.size data (w.alloc (.cells (Cd.cells ⟨kind, name, i, data, x⟩) 42)).drew (Nat.le_refl _) (by omega)
  have HW : Hid (∀ W v, Below (w.alloc (.cells (Cd.cells ⟨kind, name, i, data, x⟩) 42)).drew.heap.size (w.alloc (.cells (Cd.cells ⟨kind, name, i, data, x⟩) 42)).drew W → Strs W v (splitOf data) → Calls Try.prog 43 #[at_ r, .string name, v] W fun e w' => e = .returned (.int .i64 (Fi.write st.fs name (splitOf data)).1) ∧ RC w' ok q r vL { st with fs := (Fi.write st.fs name (splitOf data)).2 } ∧ Turn (QOwn q r vL) w (QOwn q r vL) w') := fun W v hb hv => by
    have h2 := h1.later hb
    refine (rwrite_any name v (splitOf data) W h2.rc.files (by omega) hv (by have := splitOf_length data hdt; omega) (splitOf_size data) (h2.rc.okF h2.new)).mono ?_
    rintro e w' ⟨rfl, k1, k2⟩
    obtain ⟨k3, k4⟩ := h2.rc.fileTurn k1 k2
    exact ⟨rfl, k3, (HT.out.trans (Turn.below hb)).trans k4⟩
  have cb1 : (w.alloc (.cells (Cd.cells ⟨kind, name, i, data, x⟩) 42)).drew.cell? ⟨w.heap.size, 1, none⟩ = some (.string name) := by
    have := heap_alloc_new w (.cells (Cd.cells ⟨kind, name, i, data, x⟩) 42)
    show World.cell? (w.alloc _) _ = _
    unfold World.cell?
    simp only []
    rw [this]
    rfl
  have HCB : Hid _ := cb1
  have cF : (w.alloc (.cells (Cd.cells ⟨kind, name, i, data, x⟩) 42)).cell? ⟨q, 0, none⟩ = some (at_ r) := (h.later hbx).rc.cell0
  have HCF : Hid ((w.alloc (.cells (Cd.cells ⟨kind, name, i, data, x⟩) 42)).drew.cell? ⟨q, 0, none⟩ = some (at_ r)) := h1.rc.cell0
  unfold splitOf at HW ⊢
  generalize (Pg.split data.data.toList).map text = pl at *
  clear hbx h hok h1 cb1
  unfold Cd.cells at *
  unfold at_ at *
  generalize (x.toNat : Int) = X at *
  go_enter Try.func15, Try.ntmps15
  go_wp2_with fail
  go_region_law
    (first
    | (go_simp; go_at_call 44; refine Calls.mono HSP.out ?_; rintro e w2 ⟨v, rfl, hv, hb2⟩; have cb2 := cell_after hb2 HCB.out; have cF2 := cell_after hb2 HCF.out; have HW2 : Hid (Calls _ _ _ _ _) := HW.out w2 v hb2 hv; clear hv hb2)
    | (go_simp; go_at_call 43; refine Calls.mono HW2.out ?_; rintro e w3 ⟨rfl, hs3, ht3⟩; have H2 : Hid (_ ∧ _) := And.intro hs3 ht3; clear hs3 ht3)
    | fail)
  all_goals
    go_wp2
    go_ret2
    exact ⟨rfl, vL, H2.out⟩

theorem said_c (d : Cd) (h : RcOk w ok q r vL st) (hok : CdOk d) (hnm : d.name.size ≤ 40) (hdt : d.data.size ≤ 400) :
    Calls Try.prog 15 #[at_ q, .agg d.cells] w fun e w' => SaidC w w' e ok q r vL (actC st d) := by
  unfold actC
  have hcases : d.kind % 10 = 0 ∨ d.kind % 10 = 1 ∨ d.kind % 10 = 2 ∨ d.kind % 10 = 3 ∨ d.kind % 10 = 4 ∨ d.kind % 10 = 5 ∨ d.kind % 10 = 6 ∨ d.kind % 10 = 7 ∨ d.kind % 10 = 8 ∨ d.kind % 10 = 9 := by omega
  rcases hcases with hk | hk | hk | hk | hk | hk | hk | hk | hk | hk
  · simp only [hk]; exact said_get d h hok hnm hdt (.inl hk)
  · simp only [hk]; exact said_get d h hok hnm hdt (.inr hk)
  · simp only [hk]; exact said_pin d h hok hnm hdt hk
  · simp only [hk]; exact said_unpin d h hok hnm hdt hk
  · simp only [hk]; exact said_put d h hok hnm hdt hk
  · simp only [hk]; exact said_drop d h hok hnm hdt hk
  · simp only [hk]; exact said_write d h hok hnm hdt hk
  · simp only [hk]; exact said_fail d h hok hnm hdt hk
  · simp only [hk]; exact said_flip d h hok hnm hdt hk
  · simp only [hk]; exact said_remove d h hok hnm hdt hk
end

end Go.Proofs.Ytnlhgcpmmcmknaa
