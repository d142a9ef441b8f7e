/- FilesRoom: for every uint8 and slice of acts the call returns true: there are never more pages than room; what is refused changes nothing; names rise, and may be, and each file has a page (P6.2, P6.5, P6.6). No conditions. -/
import Derived.Test.YtikbhklmedblbaaFOpen
import Derived.Test.YtikbhklmedblbaaFNames
namespace Go.Proofs.Ytikbhklmedblbaa
open Go.ChangeShapes Go.WideShapes Go.ChangeAt Go.RowKit

theorem less_before : ∀ x y : List UInt8, Op.bytesLess x y = bytesBefore x y
  | [], [] => by simp [Op.bytesLess, bytesBefore]
  | _ :: _, [] => by simp [Op.bytesLess, bytesBefore]
  | [], _ :: _ => by simp [Op.bytesLess, bytesBefore]
  | a :: x, b :: y => by rw [Op.bytesLess, bytesBefore, less_before x y]
theorem less_lt (a b : ByteArray) : Op.bytesLess a.toList b.toList = Fi.lt a b := by
  rw [less_before, ByteArray.toList_eq, ByteArray.toList_eq]; rfl

theorem actOf_room (st : Fi.St) (d : Deed) : (actOf st d).2.2.room = st.room := by
  unfold actOf Fi.write Fi.putp Fi.remove Fi.fail Fi.flip Fi.read
  repeat' split
  all_goals rfl
theorem actOf_refused (st : Fi.St) (d : Deed) (h : (actOf st d).2.1 ≠ 0) : (actOf st d).2.2.fs = st.fs := by
  revert h
  unfold actOf Fi.write Fi.putp Fi.remove Fi.fail Fi.flip Fi.read
  repeat' split
  all_goals first | (intro _; rfl) | (intro h; exact absurd rfl h)

theorem names_length (st : Fi.St) : (Fi.names st.fs).length = st.fs.length := by simp [Fi.names]
theorem names_get {st : Fi.St} (g : Fi.Good st) (k : Nat) (h : k < (Fi.names st.fs).length) :
    Fi.isName ((Fi.names st.fs).getD k ByteArray.empty) = true ∧ 1 ≤ (Fi.rows st.fs ((Fi.names st.fs).getD k ByteArray.empty)).length ∧ ∀ j, j + 1 = k → Fi.lt ((Fi.names st.fs).getD j ByteArray.empty) ((Fi.names st.fs).getD k ByteArray.empty) = true := by
  have hk : k < st.fs.length := by rwa [names_length] at h
  have hat (j : Nat) (hj : j < st.fs.length) : (Fi.names st.fs).getD j ByteArray.empty = (st.fs[j]).1 := by simp [Fi.names, List.getD, hj]
  have he := g.each _ (List.getElem_mem hk)
  have hf : Fi.find st.fs (st.fs[k]).1 = some (st.fs[k]).2 := Fi.find_of_mem g.sorted (List.getElem_mem hk)
  rw [hat k hk]
  refine ⟨he.1, ?_, fun j hj => ?_⟩
  · unfold Fi.rows
    rw [hf]
    exact List.length_pos_iff.2 he.2.1
  · rw [hat j (by omega)]
    exact List.pairwise_iff_getElem.1 g.sorted j k (by omega) hk (by omega)

set_option maxRecDepth 100000 in
set_option maxHeartbeats 4000000 in
theorem filesRoom_walk (r0 : Int) (v : Value) (l : List Deed) (w : World) (hr0 : (Lit.int .u8 r0).wf = true) (h : Acts w v l) (hl : l.length ≤ 9223372036854775807) :
    Calls Try.prog 6 #[.int .u8 r0, v] w fun e w' => e = .returned (.bool true) ∧ Below w.heap.size w w' := by
  obtain ⟨R, rfl, hR⟩ := wf_u8 hr0
  have HG : Hid (Calls _ _ _ _ _) := greatDeeds_any v l 100 w h hl (by decide)
  clear hr0
  cases hf : fewDeeds l 100 with
  | false =>
    rw [hf] at HG
    obtain ⟨a, cap, rfl, _, _⟩ := h
    clear hf hl
    generalize l.length = m at *
    go_enter Try.func6, Try.ntmps6
    go_wp2_with fail
    refine Calls.mono HG.out ?_
    rintro e w1 ⟨rfl, rfl⟩
    go_wp2
    go_ret
    exact ⟨rfl, Below.refl _ _⟩
  | true =>
    rw [hf] at HG
    obtain ⟨hlen, heach⟩ := few_deeds hf
    obtain ⟨q, hq, hq30⟩ : ∃ q : Nat, (R : Int) % 30 = q ∧ q < 30 := ⟨R % 30, by omega, by omega⟩
    have HNW : Hid (Calls Try.prog 10 #[.int .i64 (1 + (q : Int))] w fun e w' => ∃ p o, e = .returned (.tuple #[.pointer (some ⟨p, 0, none⟩), .int .i64 0]) ∧ Sys w' p o ⟨1 + q, -1, []⟩ ∧ (∀ i, o i → w.heap.size ≤ i) ∧ Below w.heap.size w w') := by
      have := new_yes (1 + q) w (by omega) (by omega)
      rwa [show ((1 + q : Nat) : Int) = 1 + (q : Int) by omega] at this
    have HDN : Hid (∀ k, k < l.length → ∀ W p o st, FsIn w W p o st → Calls Try.prog 13 #[.pointer (some ⟨p, 0, none⟩), .agg (l.getD k Deed.none).cells] W fun e w' => ∃ (o' : Nat → Prop) (s : ByteArray) (n : Int) (st' : Fi.St), e = .returned (.tuple #[.string s, .int .i64 n]) ∧ Sys w' p o' st' ∧ Turn o W o' w' ∧ st'.room = st.room ∧ (n ≠ 0 → st'.fs = st.fs)) := by
      intro k hk W p o st hF
      obtain ⟨_, _, _, _, hv⟩ := h
      have hok : DeedOk W (l.getD k Deed.none) := by
        rcases hv with hv | ⟨b, off, _, hv⟩
        · rw [hv] at hk; simp at hk
        · exact (hv k hk).2.later hF.below
      obtain ⟨h1, h2, _⟩ := heach _ (getD_mem hk)
      refine (done_any (l.getD k Deed.none) W hF.sys hok h1 h2).mono ?_
      rintro e w' ⟨o', rfl, hs, ht⟩
      exact ⟨o', _, _, _, rfl, hs, ht, actOf_room _ _, actOf_refused _ _⟩
    have HD : Hid (∀ W, Calls _ _ _ _ _) := fun W => does_any W
    obtain ⟨a, cap, rfl, hcap, hv⟩ := h
    have HCV : Hid (∀ k, k < l.length → ∃ b off, a = some ⟨b, off, none⟩ ∧ ∀ W, Below w.heap.size w W → DeedAt W b (off + k * 6) (l.getD k Deed.none)) := by
      intro k hk
      rcases hv with hv | ⟨b, off, rfl, hv⟩
      · rw [hv] at hk; simp at hk
      · exact ⟨b, off, rfl, fun W hb => (hv k hk).1.later hb⟩
    clear hv heach hf hl
    obtain ⟨DD, HDD⟩ : ∃ DD : Nat → Deed, Hid (∀ k, l.getD k Deed.none = DD k) := ⟨_, fun _ => rfl⟩
    simp only [HDD.out] at HDN HCV
    clear HDD
    generalize l.length = m at *
    go_enter Try.func6, Try.ntmps6
    go_wp2_with fail
    refine Calls.mono HG.out ?_
    rintro e w1 ⟨rfl, rfl⟩
    go_wp2_with fail
    refine Calls.mono HNW.out ?_
    rintro e w2 ⟨p, o, rfl, hs, ho, hb⟩
    have F1 : Hid (FsIn w1 w2 p o ⟨1 + q, -1, []⟩) := ⟨hs, hb, ho⟩
    clear hs ho hb HNW HG
    go_wp2
    go_loopw [8] (fun x wr => ∃ (k : Nat) (o : Nat → Prop) (st : Fi.St), k ≤ m ∧ x = .int .i64 k ∧ Hid (st.room = 1 + q) ∧ Hid (FsIn w1 wr p o st)) (fun x _ => m - (intOf x).toNat)
    case atStart => exact ⟨0, o, ⟨1 + q, -1, []⟩, Nat.zero_le _, rfl, (rfl : 1 + q = 1 + q), F1⟩
    case round =>
      clear F1
      obtain ⟨k, o1, st, hk, rfl, HRM, F⟩ := hrel
      by_cases hlt : k < m
      · obtain ⟨b, off, rfl, hat⟩ := HCV.out k hlt
        have HU : Hid (Calls _ _ _ _ _) := used_any _ F.out.sys
        go_wp2_with fail
        refine Calls.mono HU.out ?_
        rintro e w3 ⟨rfl, hb⟩
        have F3 : Hid (FsIn _ _ _ _ _) := F.out.later hb
        clear hb F HU
        have HN : Hid (Calls _ _ _ _ _) := names_any _ F3.out.sys
        go_wp2_with fail
        refine Calls.mono HN.out ?_
        rintro e w4 ⟨v4, rfl, hs4, hb⟩
        have F4 : Hid (FsIn _ _ _ _ _) := F3.out.later hb
        have hs4' : StrsIn w4 (fun b => ¬ o1 b) v4 (Fi.names st.fs) := hs4.imp fun b _ hb2 ho => by have := F3.out.sys.lt b ho; omega
        have HS4 : Hid (StrsIn _ _ _ _) := hs4'
        obtain ⟨a4, cap4, rfl, hcap4, _⟩ := hs4
        clear hb F3 HN hs4'
        have hd := hat w4 F4.out.below
        have c0 := hd.c0
        have c1 := hd.c1
        have c2 := hd.c2
        have c3 := hd.c3
        have c4 := hd.c4
        have c5 := hd.c5
        have HC : Hid (Calls _ _ _ _ _) := HDN.out k hlt w4 p o1 st F4.out
        unfold Deed.cells at HC
        clear hd hat
        generalize DD k = d at *
        generalize d.pv = pv at *
        generalize d.name = nm at *
        go_wp2_with fail
        refine Calls.mono HC.out ?_
        rintro e w5 ⟨o5, s5, n5, st5, rfl, hs5, ht5, hr5, hf5⟩
        have F5 : Hid (FsIn w1 w5 p o5 st5) := F4.out.turn hs5 ht5
        have HS5 : Hid (StrsIn _ _ _ _) := HS4.out.turn ht5
        have HRM5 : Hid (st5.room = 1 + q) := hr5.trans HRM.out
        have HF5 : Hid (n5 ≠ 0 → st5.fs = st.fs) := hf5
        clear hs5 ht5 hr5 hf5 F4 HS4 HC HRM c0 c1 c2 c3 c4 c5
        have HN : Hid (Calls _ _ _ _ _) := names_any _ F5.out.sys
        go_wp2_with fail
        refine Calls.mono HN.out ?_
        rintro e w6 ⟨v6, rfl, hs6, hb⟩
        have F6 : Hid (FsIn w1 w6 p o5 st5) := F5.out.later hb
        have HS6 : Hid (StrsIn w6 (fun b => ¬ o5 b) _ _) := HS5.out.later hb
        have HV6 : Hid (StrsIn _ _ _ _) := hs6
        obtain ⟨a6, cap6, rfl, hcap6, _⟩ := hs6
        clear hb F5 HN HS5
        have HNG : Hid (∀ j, j < (Fi.names st5.fs).length → _) := fun j hj => names_get F6.out.sys.good j hj
        have HCL : Hid (∀ j, j < (Fi.names st5.fs).length → ∃ b off, a6 = some ⟨b, off, none⟩ ∧ ∀ i, i < (Fi.names st5.fs).length → w6.cell? ⟨b, off + i, none⟩ = some (.string ((Fi.names st5.fs).getD i ByteArray.empty))) := by
          intro j hj
          obtain ⟨a', cap', he, _, hv'⟩ := HV6.out
          simp only [Value.slice.injEq] at he
          obtain ⟨rfl, _, rfl⟩ := he
          rcases hv' with hv' | ⟨b, off, rfl, _, hv'⟩
          · rw [hv'] at hj; simp at hj
          · exact ⟨b, off, rfl, hv'⟩
        have hL6 : (Fi.names st5.fs).length ≤ 4096 := by rw [names_length]; have := F6.out.sys.good.count; have := F6.out.sys.good.room2; omega
        have hUs := F6.out.sys.good.used
        have hrm5 := HRM5.out
        by_cases hn5 : n5 = 0
        · subst hn5
          have HU6 : Hid (Calls _ _ _ _ _) := used_any _ F6.out.sys
          obtain ⟨NM, HNMs⟩ : ∃ NM : Nat → ByteArray, Hid (∀ j, (Fi.names st5.fs).getD j ByteArray.empty = NM j) := ⟨_, fun _ => rfl⟩
          simp only [HNMs.out] at HNG HCL
          clear HV6 HS6 HNMs HF5 hcap4
          generalize Fi.used st5.fs = U at *
          generalize hL : (Fi.names st5.fs).length = L6 at *
          generalize (Fi.names st.fs).length = L4 at *
          generalize Fi.used st.fs = U0 at *
          go_wp2_with fail
          refine Calls.mono HU6.out ?_
          rintro e wX ⟨rfl, hbX⟩
          have FX : Hid (FsIn w1 wX p o5 st5) := F6.out.later hbX
          have HCL : Hid (∀ j, j < L6 → ∃ b off, a6 = some ⟨b, off, none⟩ ∧ ∀ i, i < L6 → wX.cell? ⟨b, off + i, none⟩ = some (.string (NM i))) := fun j hj => by obtain ⟨b, off, e1, e2⟩ := HCL.out j hj; exact ⟨b, off, e1, fun i hi => cell_after hbX (e2 i hi)⟩
          clear hbX F6 HU6 hL
          go_wp2
          go_loopw [14] (fun x ws => ∃ j : Nat, j ≤ L6 ∧ x = .int .i64 j ∧ Hid (Below wX.heap.size wX ws)) (fun x _ => L6 - (intOf x).toNat)
          case atStart => exact ⟨0, Nat.zero_le _, rfl, Below.refl _ _⟩
          case round =>
            obtain ⟨j, hj, rfl, HB⟩ := hrel
            have FS : Hid (FsIn w1 wr p o5 st5) := FX.out.later HB.out
            by_cases hjl : j < L6
            · obtain ⟨b6, off6, rfl, hcell⟩ := HCL.out j hjl
              obtain ⟨hn1, hn2, hn3⟩ := HNG.out j hjl
              have hml : ∀ n : ByteArray, Fi.isName n = true → n.size ≤ maxLen := fun n hn => by have := name_bound hn; unfold maxLen; omega
              have HNM : Hid (∀ x : Later wr, Calls Try.prog 22 #[.string (NM j)] x.world fun e w' => e = .returned (.bool true) ∧ w' = x.world) := fun x => by have := name_any (NM j) x.world (by have := name_bound hn1; omega); rwa [hn1] at this
              have HPG : Hid (∀ x : Later wr, Calls Try.prog 18 #[.pointer (some ⟨p, 0, none⟩), .string (NM j)] x.world fun e w' => e = .returned (.int .i64 (Fi.rows st5.fs (NM j)).length) ∧ w' = x.world) := fun x => pages_any (NM j) x.world (FS.out.sys.later x.below) (hml _ hn1)
              have hd1 : decide (((Fi.rows st5.fs (NM j)).length : Int) < 1) = false := decide_eq_false (by omega)
              generalize (Fi.rows st5.fs (NM j)).length = LR at *
              have hcj := Later.cell (cell_after HB.out (hcell j hjl))
              have hne := Later.some wr
              rcases Nat.eq_zero_or_pos j with rfl | hpos
              · rw [Nat.add_zero] at hcj
                clear hcell hn1 hn2 hn3 hml
                go_wp2_with fail
                refine wp_region_later (by kernel_rfl) (by kernel_rfl) ?_
                repeat (go_big_quiet_step (first | (go_at_call 22; exact Later.same (HNM.out _)) | (go_at_call 18; exact Later.same (HPG.out _))))
                refine wpQuiet_nil ?_
                intro wn hwn
                obtain ⟨⟨wn, hbn⟩, rfl⟩ := hwn
                have HBn : Hid (Below wX.heap.size wX wn) := bnext HB.out hbn
                clear hbn hcj hne HB
                go_wp2
                go_roundw
                case rel => exact ⟨1, by omega, by go_num, HBn⟩
                case measure => simp [intOf]; omega
              · obtain ⟨i, rfl⟩ : ∃ i, j = i + 1 := ⟨j - 1, by omega⟩
                have hci := Later.cell (cell_after HB.out (hcell i (by omega)))
                have hls : Op.bytesLess (NM i).toList (NM (i + 1)).toList = true := by rw [less_lt]; exact hn3 i rfl
                have hd2 : decide ((0 : Int) < ((i : Int) + 1)) = true := decide_eq_true (by omega)
                clear hcell hn1 hn2 hn3 hml
                generalize NM (i + 1) = s2 at *
                generalize NM i = s1 at *
                go_wp2_with fail
                refine wp_region_later (by kernel_rfl) (by kernel_rfl) ?_
                repeat (go_big_quiet_step (first | (go_at_call 22; exact Later.same (HNM.out _)) | (go_at_call 18; exact Later.same (HPG.out _))))
                refine wpQuiet_nil ?_
                intro wn hwn
                obtain ⟨⟨wn, hbn⟩, rfl⟩ := hwn
                have HBn : Hid (Below wX.heap.size wX wn) := bnext HB.out hbn
                clear hbn hcj hci hls hd2 hne HB
                go_wp2
                go_roundw
                case rel => exact ⟨i + 1 + 1, by omega, by go_num, HBn⟩
                case measure => simp [intOf]; omega
            · go_wp2
              go_roundw
              case rel => exact ⟨k + 1, o5, st5, by omega, by go_num, HRM5, FS⟩
              case measure => simp [intOf]; omega
        · have hfs := HF5.out hn5
          have HU6 : Hid (∀ W, Below w6.heap.size w6 W → Calls Try.prog 20 #[.pointer (some ⟨p, 0, none⟩)] W fun e w' => e = .returned (.int .i64 (Fi.used st.fs)) ∧ Below W.heap.size W w') := fun W hb => by have := used_any _ (F6.out.sys.later hb); rwa [hfs] at this
          have HTX : Hid (∀ W, Below w6.heap.size w6 W → Calls Try.prog 15 #[.slice a6 (Fi.names st5.fs).length cap6, .slice a4 (Fi.names st.fs).length cap4] W fun e w' => e = .returned (.bool true) ∧ Below W.heap.size W w') := fun W hb => by
            have := texts_any _ _ _ _ W (HV6.out.later hb).strs (HS6.out.later hb).strs (by omega) (by rw [← hfs]; omega)
            rwa [decide_eq_true (by rw [hfs])] at this
          rw [hfs] at hUs
          have hbq : (n5 == (0 : Int)) = false := by rw [beq_eq_false_iff_ne]; exact hn5
          have hbu : ((Fi.used st.fs : Int) == (Fi.used st.fs : Int)) = true := by simp
          obtain ⟨NM, HNMs⟩ : ∃ NM : Nat → ByteArray, Hid (∀ j, (Fi.names st5.fs).getD j ByteArray.empty = NM j) := ⟨_, fun _ => rfl⟩
          simp only [HNMs.out] at HNG HCL
          clear HV6 HS6 HNMs HF5 hcap4 hfs
          generalize Fi.used st.fs = U at *
          generalize hL : (Fi.names st5.fs).length = L6 at *
          generalize (Fi.names st.fs).length = L4 at *
          go_wp2_with fail
          refine (HU6.out _ (Below.refl _ _)).mono ?_
          rintro e w7 ⟨rfl, hb7⟩
          have HB7 : Hid (Below w6.heap.size w6 w7) := hb7
          clear hb7
          go_wp2_with fail
          refine (HTX.out _ HB7.out).mono ?_
          rintro e w8 ⟨rfl, hb8⟩
          have HB8 : Hid (Below w6.heap.size w6 w8) := bnext HB7.out hb8
          clear hb8 HB7
          go_wp2_with fail
          refine (HU6.out _ HB8.out).mono ?_
          rintro e wX ⟨rfl, hbX⟩
          have hbX := bnext HB8.out hbX
          have FX : Hid (FsIn w1 wX p o5 st5) := F6.out.later hbX
          have HCL : Hid (∀ j, j < L6 → ∃ b off, a6 = some ⟨b, off, none⟩ ∧ ∀ i, i < L6 → wX.cell? ⟨b, off + i, none⟩ = some (.string (NM i))) := fun j hj => by obtain ⟨b, off, e1, e2⟩ := HCL.out j hj; exact ⟨b, off, e1, fun i hi => cell_after hbX (e2 i hi)⟩
          clear hbX F6 HU6 hL HTX HB8 hbu hbq
          go_wp2
          go_loopw [14] (fun x ws => ∃ j : Nat, j ≤ L6 ∧ x = .int .i64 j ∧ Hid (Below wX.heap.size wX ws)) (fun x _ => L6 - (intOf x).toNat)
          case atStart => exact ⟨0, Nat.zero_le _, rfl, Below.refl _ _⟩
          case round =>
            obtain ⟨j, hj, rfl, HB⟩ := hrel
            have FS : Hid (FsIn w1 wr p o5 st5) := FX.out.later HB.out
            by_cases hjl : j < L6
            · obtain ⟨b6, off6, rfl, hcell⟩ := HCL.out j hjl
              obtain ⟨hn1, hn2, hn3⟩ := HNG.out j hjl
              have hml : ∀ n : ByteArray, Fi.isName n = true → n.size ≤ maxLen := fun n hn => by have := name_bound hn; unfold maxLen; omega
              have HNM : Hid (∀ x : Later wr, Calls Try.prog 22 #[.string (NM j)] x.world fun e w' => e = .returned (.bool true) ∧ w' = x.world) := fun x => by have := name_any (NM j) x.world (by have := name_bound hn1; omega); rwa [hn1] at this
              have HPG : Hid (∀ x : Later wr, Calls Try.prog 18 #[.pointer (some ⟨p, 0, none⟩), .string (NM j)] x.world fun e w' => e = .returned (.int .i64 (Fi.rows st5.fs (NM j)).length) ∧ w' = x.world) := fun x => pages_any (NM j) x.world (FS.out.sys.later x.below) (hml _ hn1)
              have hd1 : decide (((Fi.rows st5.fs (NM j)).length : Int) < 1) = false := decide_eq_false (by omega)
              generalize (Fi.rows st5.fs (NM j)).length = LR at *
              have hcj := Later.cell (cell_after HB.out (hcell j hjl))
              have hne := Later.some wr
              rcases Nat.eq_zero_or_pos j with rfl | hpos
              · rw [Nat.add_zero] at hcj
                clear hcell hn1 hn2 hn3 hml
                go_wp2_with fail
                refine wp_region_later (by kernel_rfl) (by kernel_rfl) ?_
                repeat (go_big_quiet_step (first | (go_at_call 22; exact Later.same (HNM.out _)) | (go_at_call 18; exact Later.same (HPG.out _))))
                refine wpQuiet_nil ?_
                intro wn hwn
                obtain ⟨⟨wn, hbn⟩, rfl⟩ := hwn
                have HBn : Hid (Below wX.heap.size wX wn) := bnext HB.out hbn
                clear hbn hcj hne HB
                go_wp2
                go_roundw
                case rel => exact ⟨1, by omega, by go_num, HBn⟩
                case measure => simp [intOf]; omega
              · obtain ⟨i, rfl⟩ : ∃ i, j = i + 1 := ⟨j - 1, by omega⟩
                have hci := Later.cell (cell_after HB.out (hcell i (by omega)))
                have hls : Op.bytesLess (NM i).toList (NM (i + 1)).toList = true := by rw [less_lt]; exact hn3 i rfl
                have hd2 : decide ((0 : Int) < ((i : Int) + 1)) = true := decide_eq_true (by omega)
                clear hcell hn1 hn2 hn3 hml
                generalize NM (i + 1) = s2 at *
                generalize NM i = s1 at *
                go_wp2_with fail
                refine wp_region_later (by kernel_rfl) (by kernel_rfl) ?_
                repeat (go_big_quiet_step (first | (go_at_call 22; exact Later.same (HNM.out _)) | (go_at_call 18; exact Later.same (HPG.out _))))
                refine wpQuiet_nil ?_
                intro wn hwn
                obtain ⟨⟨wn, hbn⟩, rfl⟩ := hwn
                have HBn : Hid (Below wX.heap.size wX wn) := bnext HB.out hbn
                clear hbn hcj hci hls hd2 hne HB
                go_wp2
                go_roundw
                case rel => exact ⟨i + 1 + 1, by omega, by go_num, HBn⟩
                case measure => simp [intOf]; omega
            · go_wp2
              go_roundw
              case rel => exact ⟨k + 1, o5, st5, by omega, by go_num, HRM5, FS⟩
              case measure => simp [intOf]; omega
      · go_wp2_with fail
        refine (HD.out _).mono ?_
        rintro e w8 ⟨rfl, hb⟩
        have F8 : Hid (Below w1.heap.size w1 w8) := bnext F.out.below hb
        clear hb F
        go_wp2
        go_ret
        exact ⟨rfl, F8.out⟩

set_option maxRecDepth 100000 in
theorem filesRoom_lifted (os : Os) (started : os.Started) (H : Type) (enc : TypeId × Value → H) :
    ReturnsInHanded {} Try.checked os 6 .any (Rows.filesRoomSpec.pre6 enc Try.prog Try.f6 Rows.filesRoomRow.domain false) (Rows.filesRoomSpec.post enc Try.prog Try.f6 false true false false) := by
  refine returnsInHanded_of_change (C := Try.checked) Try.own started (by kernel_rfl) Try.func6
    (ChangeSpec.witness6 (enc := enc) (C := Try.checked) false ⟨#[], #[.int .u8 0, .slice none 0 0], []⟩ 8 (by kernel_rfl) (by kernel_rfl) (by kernel_rfl) (by kernel_rfl)) ?_
  intro W base args ds gs before hval0 hW hcnd _
  have hval : ∀ (j : Nat) t v, Try.f6.params[j]? = some t → args[j]? = some v → Value.okWide Try.prog W .any base t v := hval0
  have hW' := hW
  obtain ⟨p, q, hA0, hV, rfl, hfz, hnd⟩ := hW
  have hA : DataW.TrodAll enc Try.prog W 0 (fun _ => true) true Try.f6.params.toList args.toList ds p := hA0
  rw [Try.params6] at hA hval
  obtain ⟨v0, vs0, d0, ds0, p0, q0, hargs, rfl, rfl, h0, r0⟩ := trodAll_cons hA
  obtain ⟨v1, vs1, d1, ds1, p1, q1, rfl, rfl, rfl, h1, r1⟩ := trodAll_cons r0
  obtain ⟨rfl, rfl, rfl⟩ := trodAll_nil r1
  obtain rfl : args = #[v0, v1] := by cases args; simp_all
  obtain ⟨rfl, rfl⟩ := trodVars_none hV
  obtain ⟨a0, rfl, rfl, rfl, w0⟩ := open_int Try.underlying5 (hval 0 5 v0 rfl rfl) h0
  have lt1 : ∀ x ∈ p1, x.block < W.heap.size := by obtain ⟨m, hm⟩ := h1; exact DataW.trod_lt m _ _ _ hm
  obtain ⟨l1, k1, n1⟩ := open_acts (hval 1 22 v1 rfl rfl) h1
  clear hA0 hval0
  refine (filesRoom_walk a0 v1 l1 W w0 k1 n1).mono fun e W' ⟨he, bel⟩ => ?_
  subst he
  exact ⟨_, rfl, _, _, _, [], _, [], hW', trodAll_mk1 (shut_bool Try.underlying4 _), (trodAll_cons_mk (shut_int Try.underlying5 w0) (trodAll_cons_mk (Below.trod Try.laidOut (by kernel_rfl) (of_decide_eq_true (by kernel_rfl)) h1 bel lt1) trodAll_mk0)), rfl, bel.frame _, fun h => by cases h⟩

theorem filesRoom_holds : Rows.FilesRoomSaid :=
  OpenClaim.holds_of_wide 6 Try.f6 rfl rfl rfl rfl rfl rfl rfl ⟨rfl, rfl, rfl, rfl, rfl⟩ rfl rfl rfl rfl rfl (by kernel_rfl) Try.func6 (by kernel_rfl)
    (of_decide_eq_true (by kernel_rfl)) (by unfold Func.isWrapper; first | (rw [if_pos (by decide +kernel)]; kernel_rfl) | (rw [if_neg (by decide +kernel)]; exact ⟨rfl, rfl⟩))
    (fun os started H enc _ => filesRoom_lifted os started H enc)

end Go.Proofs.Ytikbhklmedblbaa
