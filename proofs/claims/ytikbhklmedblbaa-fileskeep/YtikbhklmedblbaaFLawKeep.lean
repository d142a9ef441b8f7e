/- FilesKeep: for every slice of acts, string and two slices of strings the call returns true: what is written is read, page by page; all other files stay; written anew it is what was written last; gone it is there no more (P6.6). No conditions. -/
import Derived.Test.YtikbhklmedblbaaFAll
namespace Go.Proofs.Ytikbhklmedblbaa
open Go.ChangeShapes Go.WideShapes Go.ChangeAt Go.RowKit
open Go.ChangeMaps (open_string shut_string)

theorem del_del {α : Type} (l : List (ByteArray × α)) (n : ByteArray) : Fi.del (Fi.del l n) n = Fi.del l n := Fi.del_none (Fi.find_del_same l n)
theorem del_ins {α : Type} (x : ByteArray × α) (l : List (ByteArray × α)) (h : ∀ p ∈ l, p.1 ≠ x.1) : Fi.del (Fi.ins x l) x.1 = l := by
  induction l with
  | nil => simp [Fi.ins, Fi.del]
  | cons y r ih =>
    have hy : y.1 ≠ x.1 := h y (by simp)
    have hr : Fi.del r x.1 = r := Fi.del_none (Fi.find_of_none fun p hp => h p (by simp [hp]))
    unfold Fi.ins
    split
    · rw [Fi.del_cons_same, Fi.del_cons_other hy, hr]
    · rw [Fi.del_cons_other hy, ih (fun p hp => h p (by simp [hp]))]
theorem del_put {α : Type} (l : List (ByteArray × α)) (n : ByteArray) (a : α) : Fi.del (Fi.put l n a) n = Fi.del l n := del_ins (n, a) _ fun _ hp => (Fi.mem_del.1 hp).2
theorem del_set (l : Fi.Files) (n : ByteArray) (r : List ByteArray) : Fi.del (Fi.set l n r) n = Fi.del l n := by
  unfold Fi.set
  split
  · exact del_del l n
  · exact del_put l n r
theorem rows_set (l : Fi.Files) (n : ByteArray) (r : List ByteArray) : Fi.rows (Fi.set l n r) n = r := by
  unfold Fi.set Fi.rows
  split
  · rename_i h
    rw [Fi.find_del_same, h]; rfl
  · rw [Fi.find_put_same]; rfl
theorem rows_del (l : Fi.Files) (n : ByteArray) : Fi.rows (Fi.del l n) n = [] := by
  unfold Fi.rows
  rw [Fi.find_del_same]; rfl
theorem del_of_rows {st : Fi.St} (g : Fi.Good st) {n : ByteArray} (h : Fi.rows st.fs n = []) : Fi.del st.fs n = st.fs := by
  rcases Fi.find_rows (fun p hp => (g.each p hp).2.1) n with ⟨h1, _⟩ | ⟨_, h1, _⟩
  · exact Fi.del_none h1
  · exact absurd h h1

/-- What a write answers. -/
theorem write_three (st : Fi.St) (n : ByteArray) (l : List ByteArray) : Fi.write st n l = (2, st) ∨ Fi.write st n l = (61, st) ∨ Fi.write st n l = (0, { st with fs := Fi.set st.fs n l }) := by
  unfold Fi.write
  repeat' split
  · exact .inl rfl
  · exact .inr (.inl rfl)
  · exact .inr (.inr rfl)

/-- The file system, what all others were, and that they still are so. -/
structure Keep (wB W : World) (p : Nat) (o : Nat → Prop) (st : Fi.St) (vw : Value) (F : Fi.Files) (n : ByteArray) : Prop where
  fs : FsIn wB W p o st
  was : StrsIn W (fun b => ¬ o b) vw (F.flatMap pagesOf)
  del : Fi.del st.fs n = F

theorem Keep.turn {wB W W' : World} {p : Nat} {o o' : Nat → Prop} {st st' : Fi.St} {vw : Value} {F : Fi.Files} {n : ByteArray} (h : Keep wB W p o st vw F n) (hs : Sys W' p o' st') (ht : Turn o W o' W') (hd : Fi.del st'.fs n = Fi.del st.fs n) : Keep wB W' p o' st' vw F n :=
  ⟨h.fs.turn hs ht, h.was.turn ht, hd.trans h.del⟩
theorem Keep.later {wB W W' : World} {p : Nat} {o : Nat → Prop} {st : Fi.St} {vw : Value} {F : Fi.Files} {n : ByteArray} (h : Keep wB W p o st vw F n) (hb : Below W.heap.size W W') : Keep wB W' p o st vw F n :=
  ⟨h.fs.later hb, h.was.later hb, h.del⟩

theorem Keep.all {wB W : World} {p : Nat} {o : Nat → Prop} {st : Fi.St} {vw : Value} {F : Fi.Files} {n : ByteArray} (h : Keep wB W p o st vw F n) :
    Calls Try.prog 29 #[.pointer (some ⟨p, 0, none⟩), .string n] W fun e w' => ∃ v a, e = .returned v ∧ Keep wB w' p o { st with ahead := a } vw F n ∧ 1000000000000 ≤ a ∧ Strs w' v (F.flatMap pagesOf) := by
  refine (all_any n W h.fs.sys).mono ?_
  rintro e w' ⟨v, a, rfl, hv, hs, ha, ht⟩
  refine ⟨v, a, rfl, h.turn hs ht rfl, ha, ?_⟩
  have := hv.strs
  unfold allOf at this
  rwa [h.del] at this
theorem Keep.short {wB W : World} {p : Nat} {o : Nat → Prop} {st : Fi.St} {vw : Value} {F : Fi.Files} {n : ByteArray} (h : Keep wB W p o st vw F n) : (F.flatMap pagesOf).length ≤ 8192 ∧ (F.flatMap pagesOf).length = 2 * Fi.used F := by
  have h1 := allOf_length st.fs n
  unfold allOf at h1
  rw [h.del] at h1
  have h2 := used_del_le st.fs n
  rw [h.del] at h2
  have := h.fs.sys.good.used
  have := h.fs.sys.good.room2
  omega
theorem Keep.same {wB W : World} {p : Nat} {o : Nat → Prop} {st : Fi.St} {vw v : Value} {F : Fi.Files} {n : ByteArray} (h : Keep wB W p o st vw F n) (hv : Strs W v (F.flatMap pagesOf)) :
    Calls Try.prog 15 #[v, vw] W fun e w' => e = .returned (.bool true) ∧ Below W.heap.size W w' := by
  have hl := h.short.1
  have := texts_any v vw _ _ W hv h.was.strs (by omega) (by omega)
  rwa [decide_eq_true rfl] at this

theorem keep_read {st : Fi.St} {n : ByteArray} {l : List ByteArray} {k : Nat} (hr : Fi.rows st.fs n = l) (hk : k < l.length) (ha : 0 < st.ahead) : Fi.read st n k = (l.getD k ByteArray.empty, 0, { st with ahead := st.ahead - 1 }) := by
  have := all_read (a := st.ahead) hr hk ha
  exact this
theorem keep_none {st : Fi.St} {n : ByteArray} {l : List ByteArray} (hr : Fi.rows st.fs n = l) : Fi.read st n l.length = (⟨#[]⟩, 4, st) := by
  refine read_no ?_
  cases hh : Fi.has st n l.length with
  | false => rfl
  | true => have := (Fi.has_iff.1 hh).2; rw [hr] at this; omega

theorem two_cells (w : World) (u0 u1 : Value) (W : World) (hb : Below (w.alloc (.cells #[u0, u1] 53)).heap.size (w.alloc (.cells #[u0, u1] 53)) W) :
    W.cell? ⟨w.heap.size, 0, none⟩ = some u0 ∧ W.cell? ⟨w.heap.size, 1, none⟩ = some u1 := by
  have hbk := heap_alloc_new w (.cells #[u0, u1] 53)
  have hc (q : Nat) : (w.alloc (.cells #[u0, u1] 53)).cell? ⟨w.heap.size, q, none⟩ = #[u0, u1][q]? := by
    unfold World.cell?
    simp only []
    rw [hbk]
    rfl
  exact ⟨cell_after hb (hc 0), cell_after hb (hc 1)⟩

set_option maxRecDepth 100000 in
set_option maxHeartbeats 2000000 in
theorem filesKeep_walk (v : Value) (l : List Deed) (n : ByteArray) (u0 u1 : Value) (l0 l1 : List ByteArray) (w : World) (h : Acts w v l) (hl : l.length ≤ 9223372036854775807) (hn : n.size ≤ maxLen)
    (s0 : Strs w u0 l0) (n0 : l0.length ≤ 9223372036854775807) (z0 : ∀ s ∈ l0, s.size ≤ 9223372036854775807) (s1 : Strs w u1 l1) (n1 : l1.length ≤ 9223372036854775807) (z1 : ∀ s ∈ l1, s.size ≤ 9223372036854775807) :
    Calls Try.prog 5 #[v, .string n, .agg #[u0, u1]] w fun e w' => e = .returned (.bool true) ∧ Below w.heap.size w w' := by
  unfold maxLen at hn
  have hbx : Below w.heap.size w (w.alloc (.cells #[u0, u1] 53)) := (Below.refl _ w).alloc (Nat.le_refl _) _
  have HG : Hid (Calls _ _ _ _ _) := greatDeeds_any v l 60 _ (h.later hbx) hl (by decide)
  have HG0 : Hid (Calls _ _ _ _ _) := great_any u0 l0 8 _ (s0.later hbx) n0 (by decide) z0
  have HG1 : Hid (Calls _ _ _ _ _) := great_any u1 l1 8 _ (s1.later hbx) n1 (by decide) z1
  have HBX : Hid (Below _ _ _) := hbx
  cases hf : fewDeeds l 60 with
  | false =>
    rw [hf] at HG
    obtain ⟨a, cap, rfl, _, _⟩ := h
    clear hf hl hbx s0 s1 HG0 HG1
    generalize l.length = m at *
    go_enter Try.func5, Try.ntmps5
    go_wp2_with fail
    refine Calls.mono HG.out ?_
    rintro e w1 ⟨rfl, rfl⟩
    go_wp2
    go_ret
    exact ⟨rfl, HBX.out⟩
  | true =>
    rw [hf] at HG
    by_cases hn40 : 40 < n.size
    · obtain ⟨a, cap, rfl, _, _⟩ := h
      clear hf hl hbx s0 s1 HG0 HG1
      generalize l.length = m at *
      go_enter Try.func5, Try.ntmps5
      go_wp2_with fail
      refine Calls.mono HG.out ?_
      rintro e w1 ⟨rfl, rfl⟩
      go_wp2
      go_ret
      exact ⟨rfl, HBX.out⟩
    · cases hf0 : decide (Few l0 8) with
      | false =>
        rw [hf0] at HG0
        obtain ⟨a, cap, rfl, _, _⟩ := h
        clear hf hl hbx s0 s1 HG1
        generalize l.length = m at *
        go_enter Try.func5, Try.ntmps5
        go_wp2_with fail
        refine Calls.mono HG.out ?_
        rintro e w1 ⟨rfl, rfl⟩
        go_wp2_with fail
        refine Calls.mono HG0.out ?_
        rintro e w1 ⟨rfl, rfl⟩
        go_wp2
        go_ret
        exact ⟨rfl, HBX.out⟩
      | true =>
        rw [hf0] at HG0
        cases hf1 : decide (Few l1 8) with
        | false =>
          rw [hf1] at HG1
          obtain ⟨a, cap, rfl, _, _⟩ := h
          clear hf hl hbx s0 s1
          generalize l.length = m at *
          go_enter Try.func5, Try.ntmps5
          go_wp2_with fail
          refine Calls.mono HG.out ?_
          rintro e w1 ⟨rfl, rfl⟩
          go_wp2_with fail
          refine Calls.mono HG0.out ?_
          rintro e w1 ⟨rfl, rfl⟩
          go_wp2_with fail
          refine Calls.mono HG1.out ?_
          rintro e w1 ⟨rfl, rfl⟩
          go_wp2
          go_ret
          exact ⟨rfl, HBX.out⟩
        | true =>
          rw [hf1] at HG1
          have few0 := of_decide_eq_true hf0
          have few1 := of_decide_eq_true hf1
          have HPL : Hid (Calls _ _ _ _ _) := played_any v l _ (h.later hbx) hf
          have HBX2 : Hid (∀ W, Below (w.alloc (.cells #[u0, u1] 53)).heap.size (w.alloc (.cells #[u0, u1] 53)) W → Below w.heap.size w W) := fun W hb => hbx.trans (hb.mono hbx.size)
          -- the pages of a turn
          have HPT : Hid (∀ t, t < 2 → ∃ a len cap pl, len = List.length pl ∧ pl.length ≤ 8 ∧ ∀ W, Below (w.alloc (.cells #[u0, u1] 53)).heap.size (w.alloc (.cells #[u0, u1] 53)) W → W.cell? ⟨w.heap.size, t, none⟩ = some (.slice a len cap) ∧ Strs W (.slice a len cap) pl) := by
            intro t ht
            have hcase : t = 0 ∨ t = 1 := by omega
            rcases hcase with rfl | rfl
            · have s0' := s0
              obtain ⟨a, cap, e0, _, _⟩ := s0'
              refine ⟨a, _, cap, l0, rfl, few0.1, fun W hb => ⟨?_, ?_⟩⟩
              · rw [← e0]; exact (two_cells w u0 u1 W hb).1
              · rw [← e0]; exact (s0.later hbx).later hb
            · have s1' := s1
              obtain ⟨a, cap, e1, _, _⟩ := s1'
              refine ⟨a, _, cap, l1, rfl, few1.1, fun W hb => ⟨?_, ?_⟩⟩
              · rw [← e1]; exact (two_cells w u0 u1 W hb).2
              · rw [← e1]; exact (s1.later hbx).later hb
          have HD : Hid (∀ W, Calls _ _ _ _ _) := fun W => does_any W
          have hnm : n.size ≤ maxLen := by unfold maxLen; omega
          generalize playAll ⟨60, -1, []⟩ l = S0 at HPL
          obtain ⟨a, cap, rfl, _, _⟩ := h
          clear hf hf0 hf1 few0 few1 hl hbx s0 s1 z0 z1 n0 n1
          generalize l.length = m at *
          have hc01 := two_cells w u0 u1 _ (Below.refl _ _)
          obtain ⟨wB, HWB⟩ : ∃ wB, w.alloc (.cells #[u0, u1] 53) = wB := ⟨_, rfl⟩
          rw [HWB] at HG HG0 HG1 HPL HBX2 HPT HBX hc01
          obtain ⟨hc0, hc1⟩ := hc01
          go_enter Try.func5, Try.ntmps5
          go_wp2_with fail
          refine Calls.mono HG.out ?_
          rintro e w1 ⟨rfl, rfl⟩
          go_wp2_with fail
          refine Calls.mono HG0.out ?_
          rintro e w1 ⟨rfl, rfl⟩
          go_wp2_with fail
          refine Calls.mono HG1.out ?_
          rintro e w1 ⟨rfl, rfl⟩
          clear HG HG0 HG1
          go_wp2_with fail
          refine Calls.mono HPL.out ?_
          rintro e w2 ⟨p, o, rfl, hF⟩
          have F2 : Hid (FsIn w1 w2 p o S0) := hF
          have HAL : Hid (Calls _ _ _ _ _) := all_any n w2 hF.sys
          clear hF HPL HWB hc0 hc1
          go_wp2_with fail
          refine Calls.mono HAL.out ?_
          rintro e w3 ⟨vw, a3, rfl, hv3, hs3, ha3, ht3⟩
          have hk3 : Keep w1 w3 p o { S0 with ahead := a3 } vw (Fi.del S0.fs n) n := ⟨F2.out.turn hs3 ht3, hv3.imp fun b _ h1 h2 => by have := F2.out.sys.lt b h2; omega, rfl⟩
          have K3 : Hid (Keep _ _ _ _ _ _ _ _) := hk3
          have hsh := hk3.short
          obtain ⟨aw, capw, ew, hcapw, _⟩ := hk3.was
          clear hv3 hs3 ha3 ht3 F2 HAL hk3
          subst ew
          have HSH : Hid (((Fi.del S0.fs n).flatMap pagesOf).length = 2 * Fi.used (Fi.del S0.fs n)) := hsh.2
          have hsh1 : ((Fi.del S0.fs n).flatMap pagesOf).length ≤ 8192 := hsh.1
          clear hsh
          generalize Fi.del S0.fs n = F at *
          generalize ({ S0 with ahead := a3 } : Fi.St) = S1 at *
          generalize (F.flatMap pagesOf).length = LW at *
          go_wp2
          go_loopw [9] (fun x wr => ∃ (t : Nat) (o : Nat → Prop) (st : Fi.St), t ≤ 2 ∧ x = .int .i64 t ∧ Hid (Keep w1 wr p o st (.slice aw LW capw) F n)) (fun x _ => 2 - (intOf x).toNat)
          case atStart => exact ⟨0, o, S1, by omega, rfl, K3⟩
          case round =>
            clear K3
            obtain ⟨t, ot, st, ht, rfl, K⟩ := hrel
            by_cases htl : t < 2
            · obtain ⟨pa, plen, pcap, pl, hpl0, hp80, hpw⟩ := HPT.out t htl
              have hpl : Hid (plen = pl.length) := hpl0
              have hp8 : plen ≤ 8 := by omega
              have HPW : Hid _ := hpw
              have hct := (hpw wr K.out.fs.below).1
              have HWR : Hid (Calls _ _ _ _ _) := write_any n _ pl wr K.out.fs.sys hnm (hpw wr K.out.fs.below).2 (by omega)
              clear hpw hpl0 hp80
              rcases write_three st n pl with hw | hw | hw
              · rw [hw] at HWR
                clear hw
                go_wp2_with fail
                refine Calls.mono HWR.out ?_
                rintro e w4 ⟨o4, rfl, hs4, ht4⟩
                have K4 : Hid (Keep _ _ _ _ _ _ _ _) := K.out.turn hs4 ht4 rfl
                clear hs4 ht4 K HWR
                have HA : Hid (Calls _ _ _ _ _) := K4.out.all
                go_wp2_with fail
                refine Calls.mono HA.out ?_
                rintro e w5 ⟨v5, a5, rfl, hk5, ha5, hv5⟩
                have K5 : Hid (Keep _ _ _ _ _ _ _ _) := hk5
                have HT : Hid (Calls _ _ _ _ _) := hk5.same hv5
                clear hk5 hv5 K4 HA
                go_wp2_with fail
                refine Calls.mono HT.out ?_
                rintro e w6 ⟨rfl, hb6⟩
                have K6 : Hid (Keep _ _ _ _ _ _ _ _) := K5.out.later hb6
                clear hb6 K5 HT
                go_wp2
                go_roundw
                case rel => exact ⟨t + 1, o4, _, by omega, by go_num, K6⟩
                case measure => simp [intOf]; omega
              · rw [hw] at HWR
                clear hw
                go_wp2_with fail
                refine Calls.mono HWR.out ?_
                rintro e w4 ⟨o4, rfl, hs4, ht4⟩
                have K4 : Hid (Keep _ _ _ _ _ _ _ _) := K.out.turn hs4 ht4 rfl
                clear hs4 ht4 K HWR
                have HA : Hid (Calls _ _ _ _ _) := K4.out.all
                go_wp2_with fail
                refine Calls.mono HA.out ?_
                rintro e w5 ⟨v5, a5, rfl, hk5, ha5, hv5⟩
                have K5 : Hid (Keep _ _ _ _ _ _ _ _) := hk5
                have HT : Hid (Calls _ _ _ _ _) := hk5.same hv5
                clear hk5 hv5 K4 HA
                go_wp2_with fail
                refine Calls.mono HT.out ?_
                rintro e w6 ⟨rfl, hb6⟩
                have K6 : Hid (Keep _ _ _ _ _ _ _ _) := K5.out.later hb6
                clear hb6 K5 HT
                go_wp2
                go_roundw
                case rel => exact ⟨t + 1, o4, _, by omega, by go_num, K6⟩
                case measure => simp [intOf]; omega
              · rw [hw] at HWR
                clear hw
                go_wp2_with fail
                refine Calls.mono HWR.out ?_
                rintro e w4 ⟨o4, rfl, hs4, ht4⟩
                have K4 : Hid (Keep _ _ _ _ _ _ _ _) := K.out.turn hs4 ht4 (del_set _ _ _)
                have HRW : Hid (Fi.rows (Fi.set st.fs n pl) n = pl) := rows_set _ _ _
                clear hs4 ht4 K HWR
                generalize Fi.set st.fs n pl = fs4 at *
                have HPG : Hid (Calls Try.prog 18 #[.pointer (some ⟨p, 0, none⟩), .string n] w4 fun e w' => e = .returned (.int .i64 plen) ∧ w' = w4) := by
                  have := pages_any n w4 K4.out.fs.sys hnm
                  simp only [HRW.out] at this
                  rwa [← hpl.out] at this
                have hbq : ((plen : Int) == (plen : Int)) = true := by simp
                go_wp2_with fail
                refine Calls.mono HPG.out ?_
                rintro e w4' ⟨rfl, rfl⟩
                have HA : Hid (Calls _ _ _ _ _) := K4.out.all
                go_wp2_with fail
                refine Calls.mono HA.out ?_
                rintro e w5 ⟨v5, a5, rfl, hk5, ha5, hv5⟩
                have K5 : Hid (Keep _ _ _ _ _ _ _ _) := hk5
                have HT : Hid (Calls _ _ _ _ _) := hk5.same hv5
                clear hk5 hv5 K4 HA HPG
                go_wp2_with fail
                refine Calls.mono HT.out ?_
                rintro e w6 ⟨rfl, hb6⟩
                have K6 : Hid (Keep w1 w6 p o4 ⟨st.room, a5, fs4⟩ (.slice aw LW capw) F n) := K5.out.later hb6
                clear hb6 K5 HT hct hbq
                go_wp2
                go_loopw [12] (fun x ws => ∃ (i : Nat) (a : Int), i ≤ plen ∧ x = .int .i64 i ∧ 1000 - (i : Int) ≤ a ∧ Hid (Keep w1 ws p o4 ⟨st.room, a, fs4⟩ (.slice aw LW capw) F n)) (fun x _ => plen - (intOf x).toNat)
                case atStart => exact ⟨0, a5, Nat.zero_le _, rfl, by omega, K6⟩
                case round =>
                  clear K6
                  obtain ⟨i, a7, hi, rfl, ha7, K⟩ := hrel
                  by_cases hil : i < plen
                  · have HRD : Hid (Calls _ _ _ _ _) := read_any n (i : Int) wr K.out.fs.sys hnm
                    rw [keep_read (st := ⟨st.room, a7, fs4⟩) HRW.out (by have := hpl.out; omega) (by show 0 < a7; omega)] at HRD
                    have hsi := (HPW.out wr K.out.fs.below).2
                    obtain ⟨pb, poff, rfl, HCI⟩ : ∃ pb poff, pa = some ⟨pb, poff, none⟩ ∧ Hid (∀ W, Below w1.heap.size w1 W → W.cell? ⟨pb, poff + i, none⟩ = some (.string (pl.getD i ByteArray.empty))) := by
                      obtain ⟨a', c', e', _, h'⟩ := hsi
                      simp only [Value.slice.injEq] at e'
                      obtain ⟨rfl, _, rfl⟩ := e'
                      rcases h' with h' | ⟨pb, poff, rfl, _⟩
                      · have hp := hpl.out; rw [h'] at hp; simp at hp; omega
                      · refine ⟨pb, poff, rfl, fun W hb => ?_⟩
                        obtain ⟨a'', c'', e'', _, h''⟩ := (HPW.out W hb).2
                        simp only [Value.slice.injEq] at e''
                        obtain ⟨rfl, _, rfl⟩ := e''
                        rcases h'' with h'' | ⟨pb', poff', e3, h''⟩
                        · have hp := hpl.out; rw [h''] at hp; simp at hp; omega
                        · simp only [Option.some.injEq, Addr.mk.injEq, and_true] at e3
                          obtain ⟨rfl, rfl⟩ := e3
                          exact h'' i (by have := hpl.out; omega)
                    clear hsi
                    generalize pl.getD i ByteArray.empty = si at *
                    go_wp2_with fail
                    refine Calls.mono HRD.out ?_
                    rintro e w8 ⟨rfl, hs8, ht8⟩
                    have K8 : Hid (Keep w1 w8 p o4 ⟨st.room, a7 - 1, fs4⟩ (.slice aw LW capw) F n) := K.out.turn hs8 ht8 rfl
                    have hci := HCI.out w8 K8.out.fs.below
                    clear hs8 ht8 K HRD HCI
                    go_wp2
                    go_roundw
                    case rel => exact ⟨i + 1, a7 - 1, by omega, by go_num, by omega, K8⟩
                    case measure => simp [intOf]; omega
                  · obtain rfl : i = plen := by omega
                    have HRD : Hid (Calls _ _ _ _ _) := read_any n (i : Int) wr K.out.fs.sys hnm
                    have hkn := keep_none (st := ⟨st.room, a7, fs4⟩) HRW.out
                    rw [← hpl.out] at hkn
                    rw [hkn] at HRD
                    clear hkn
                    go_wp2_with fail
                    refine Calls.mono HRD.out ?_
                    rintro e w8 ⟨rfl, hs8, ht8⟩
                    have K8 : Hid (Keep _ _ _ _ _ _ _ _) := K.out.turn hs8 ht8 rfl
                    clear hs8 ht8 K HRD
                    go_wp2
                    go_roundw
                    case rel => exact ⟨t + 1, o4, _, by omega, by go_num, K8⟩
                    case measure => simp [intOf]; omega
            · have HPG : Hid (Calls _ _ _ _ _) := pages_any n wr K.out.fs.sys hnm
              have HRM : Hid (Calls _ _ _ _ _) := remove_any n wr K.out.fs.sys hnm
              by_cases hr0 : Fi.rows st.fs n = []
              · have hdl := del_of_rows K.out.fs.sys.good hr0
                have hdF : Hid (st.fs = F) := hdl.symm.trans K.out.del
                rw [hr0] at HPG
                rw [Fi.remove, if_pos hr0] at HRM
                have HR0 : Hid (_ = _) := hr0
                clear hdl hr0
                go_wp2_with fail
                refine Calls.mono HPG.out ?_
                rintro e w4 ⟨rfl, rfl⟩
                go_wp2_with fail
                refine Calls.mono HRM.out ?_
                rintro e w5 ⟨o5, rfl, hs5, ht5⟩
                have K5 : Hid (Keep w1 w5 p o5 st (.slice aw LW capw) F n) := K.out.turn hs5 ht5 rfl
                clear hs5 ht5 K HRM HPG
                have HPG2 : Hid (Calls Try.prog 18 #[.pointer (some ⟨p, 0, none⟩), .string n] w5 fun e w' => e = .returned (.int .i64 0) ∧ w' = w5) := by
                  have := pages_any n w5 K5.out.fs.sys hnm
                  simp only [HR0.out] at this
                  exact this
                go_wp2_with fail
                refine Calls.mono HPG2.out ?_
                rintro e w5' ⟨rfl, rfl⟩
                have HA : Hid (Calls _ _ _ _ _) := K5.out.all
                go_wp2_with fail
                refine Calls.mono HA.out ?_
                rintro e w6 ⟨v6, a6, rfl, hk6, ha6, hv6⟩
                have K6 : Hid (Keep _ _ _ _ _ _ _ _) := hk6
                have HT : Hid (Calls _ _ _ _ _) := hk6.same hv6
                clear hk6 hv6 K5 HA HPG2
                go_wp2_with fail
                refine Calls.mono HT.out ?_
                rintro e w7 ⟨rfl, hb7⟩
                have K7 : Hid (Keep _ _ _ _ _ _ _ _) := K6.out.later hb7
                clear hb7 K6 HT
                have HUS : Hid (Calls Try.prog 20 #[.pointer (some ⟨p, 0, none⟩)] w7 fun e w' => e = .returned (.int .i64 (Fi.used F)) ∧ Below w7.heap.size w7 w') := by
                  have := used_any w7 K7.out.fs.sys
                  rw [hdF.out] at this
                  exact this
                have hlw : ((Fi.used F : Int) * 2 == (LW : Int)) = true := by have := HSH.out; rw [beq_iff_eq]; omega
                have huF : Fi.used F ≤ 4096 := by have := HSH.out; omega
                generalize Fi.used F = UF at *
                go_wp2_with fail
                refine Calls.mono HUS.out ?_
                rintro e w8 ⟨rfl, hb8⟩
                have K8 : Hid (Below w1.heap.size w1 w8) := bnext K7.out.fs.below hb8
                clear hb8 K7 HUS
                go_wp2_with fail
                refine (HD.out _).mono ?_
                rintro e w9 ⟨rfl, hb9⟩
                have F9 : Hid (Below w.heap.size w w9) := HBX2.out _ (bnext K8.out hb9)
                clear hb9 K8
                go_wp2
                go_ret
                exact ⟨rfl, F9.out⟩
              · have hpos : 0 < (Fi.rows st.fs n).length := List.length_pos_iff.2 hr0
                have hdF : Hid (Fi.del st.fs n = F) := K.out.del
                have HR0 : Hid (Fi.rows (Fi.del st.fs n) n = []) := rows_del _ _
                have HDD : Hid (Fi.del (Fi.del st.fs n) n = Fi.del st.fs n) := del_del _ _
                rw [Fi.remove, if_neg hr0] at HRM
                have hdp : decide ((0 : Int) < ((Fi.rows st.fs n).length : Int)) = true := decide_eq_true (by omega)
                clear hr0
                generalize (Fi.rows st.fs n).length = LR at *
                go_wp2_with fail
                refine Calls.mono HPG.out ?_
                rintro e w4 ⟨rfl, rfl⟩
                go_wp2_with fail
                refine Calls.mono HRM.out ?_
                rintro e w5 ⟨o5, rfl, hs5, ht5⟩
                have K5 : Hid (Keep w1 w5 p o5 { st with fs := Fi.del st.fs n } (.slice aw LW capw) F n) := K.out.turn hs5 ht5 HDD.out
                clear hs5 ht5 K HRM HPG
                have HPG2 : Hid (Calls Try.prog 18 #[.pointer (some ⟨p, 0, none⟩), .string n] w5 fun e w' => e = .returned (.int .i64 0) ∧ w' = w5) := by
                  have := pages_any n w5 K5.out.fs.sys hnm
                  simp only [HR0.out] at this
                  exact this
                go_wp2_with fail
                refine Calls.mono HPG2.out ?_
                rintro e w5' ⟨rfl, rfl⟩
                have HA : Hid (Calls _ _ _ _ _) := K5.out.all
                go_wp2_with fail
                refine Calls.mono HA.out ?_
                rintro e w6 ⟨v6, a6, rfl, hk6, ha6, hv6⟩
                have K6 : Hid (Keep _ _ _ _ _ _ _ _) := hk6
                have HT : Hid (Calls _ _ _ _ _) := hk6.same hv6
                clear hk6 hv6 K5 HA HPG2
                go_wp2_with fail
                refine Calls.mono HT.out ?_
                rintro e w7 ⟨rfl, hb7⟩
                have K7 : Hid (Keep _ _ _ _ _ _ _ _) := K6.out.later hb7
                clear hb7 K6 HT
                have HUS : Hid (Calls Try.prog 20 #[.pointer (some ⟨p, 0, none⟩)] w7 fun e w' => e = .returned (.int .i64 (Fi.used F)) ∧ Below w7.heap.size w7 w') := by
                  have := used_any w7 K7.out.fs.sys
                  simp only [hdF.out] at this
                  exact this
                have hlw : ((Fi.used F : Int) * 2 == (LW : Int)) = true := by have := HSH.out; rw [beq_iff_eq]; omega
                have huF : Fi.used F ≤ 4096 := by have := HSH.out; omega
                generalize Fi.used F = UF at *
                go_wp2_with fail
                refine Calls.mono HUS.out ?_
                rintro e w8 ⟨rfl, hb8⟩
                have K8 : Hid (Below w1.heap.size w1 w8) := bnext K7.out.fs.below hb8
                clear hb8 K7 HUS
                go_wp2_with fail
                refine (HD.out _).mono ?_
                rintro e w9 ⟨rfl, hb9⟩
                have F9 : Hid (Below w.heap.size w w9) := HBX2.out _ (bnext K8.out hb9)
                clear hb9 K8
                go_wp2
                go_ret
                exact ⟨rfl, F9.out⟩

set_option maxRecDepth 100000 in
theorem filesKeep_lifted (os : Os) (started : os.Started) (H : Type) (enc : TypeId × Value → H) :
    ReturnsInHanded {} Try.checked os 5 .any (Rows.filesKeepSpec.pre6 enc Try.prog Try.f5 Rows.filesKeepRow.domain false) (Rows.filesKeepSpec.post enc Try.prog Try.f5 false true false false) := by
  refine returnsInHanded_of_change (C := Try.checked) Try.own started (by kernel_rfl) Try.func5
    (ChangeSpec.witness6 (enc := enc) (C := Try.checked) false ⟨#[], #[.slice none 0 0, .string ByteArray.empty, .agg #[.slice none 0 0, .slice none 0 0]], []⟩ 8 (by kernel_rfl) (by kernel_rfl) (by kernel_rfl) (by kernel_rfl)) ?_
  intro W base args ds gs before hval0 hW hcnd _
  have hval : ∀ (j : Nat) t v, Try.f5.params[j]? = some t → args[j]? = some v → Value.okWide Try.prog W .any base t v := hval0
  have hW' := hW
  obtain ⟨p, q, hA0, hV, rfl, hfz, hnd⟩ := hW
  have hA : DataW.TrodAll enc Try.prog W 0 (fun _ => true) true Try.f5.params.toList args.toList ds p := hA0
  rw [Try.params5] at hA hval
  obtain ⟨v0, vs0, d0, ds0, p0, q0, hargs, rfl, rfl, h0, r0⟩ := trodAll_cons hA
  obtain ⟨v1, vs1, d1, ds1, p1, q1, rfl, rfl, rfl, h1, r1⟩ := trodAll_cons r0
  obtain ⟨v2, vs2, d2, ds2, p2, q2, rfl, rfl, rfl, h2, r2⟩ := trodAll_cons r1
  obtain ⟨rfl, rfl, rfl⟩ := trodAll_nil r2
  obtain rfl : args = #[v0, v1, v2] := by cases args; simp_all
  obtain ⟨rfl, rfl⟩ := trodVars_none hV
  have lt0 : ∀ x ∈ p0, x.block < W.heap.size := by obtain ⟨m, hm⟩ := h0; exact DataW.trod_lt m _ _ _ hm
  obtain ⟨l0, k0, n0⟩ := open_acts (hval 0 22 v0 rfl rfl) h0
  obtain ⟨a1, rfl, rfl, rfl, w1⟩ := open_string Try.underlying9 (hval 1 9 v1 rfl rfl) h1
  have lt2 : ∀ x ∈ p2, x.block < W.heap.size := by obtain ⟨m, hm⟩ := h2; exact DataW.trod_lt m _ _ _ hm
  obtain ⟨u2, x2, l2, y2, rfl, k2, n2, f2, kk2, nn2, ff2⟩ := open_two_strs (hval 2 53 v2 rfl rfl) h2
  clear hA0 hval0
  refine (filesKeep_walk v0 l0 a1 u2 x2 l2 y2 W k0 n0 w1 k2 n2 f2 kk2 nn2 ff2).mono fun e W' ⟨he, bel⟩ => ?_
  subst he
  exact ⟨_, rfl, _, _, _, [], _, [], hW', trodAll_mk1 (shut_bool Try.underlying4 _), (trodAll_cons_mk (Below.trod Try.laidOut (by kernel_rfl) (of_decide_eq_true (by kernel_rfl)) h0 bel lt0) (trodAll_cons_mk (shut_string Try.underlying9 w1) (trodAll_cons_mk (Below.trod Try.laidOut (by kernel_rfl) (of_decide_eq_true (by kernel_rfl)) h2 bel lt2) trodAll_mk0))), rfl, bel.frame _, fun h => by cases h⟩

theorem filesKeep_holds : Rows.FilesKeepSaid :=
  OpenClaim.holds_of_wide 5 Try.f5 rfl rfl rfl rfl rfl rfl rfl ⟨rfl, rfl, rfl, rfl, rfl⟩ rfl rfl rfl rfl rfl (by kernel_rfl) Try.func5 (by kernel_rfl)
    (of_decide_eq_true (by kernel_rfl)) (by unfold Func.isWrapper; first | (rw [if_pos (by decide +kernel)]; kernel_rfl) | (rw [if_neg (by decide +kernel)]; exact ⟨rfl, rfl⟩))
    (fun os started H enc _ => filesKeep_lifted os started H enc)

end Go.Proofs.Ytikbhklmedblbaa
