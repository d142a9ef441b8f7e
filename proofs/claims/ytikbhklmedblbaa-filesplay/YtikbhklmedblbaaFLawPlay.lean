/- The walk of FilesPlay: whatever is done with a file system is, act by act, what the document's does. -/
import Derived.Test.YtikbhklmedblbaaFTail
import Derived.Deep.RegionHeld3
namespace Go.Proofs.Ytikbhklmedblbaa
open Go.ChangeShapes Go.WideShapes Go.ChangeAt Go.RowKit
open Go.ChangeMaps (open_string shut_string)

set_option maxRecDepth 100000 in
set_option maxHeartbeats 8000000 in
theorem filesPlay_walk (room : Int) (v : Value) (l : List Deed) (w : World) (h0 : -9223372036854775808 ≤ room ∧ room ≤ 9223372036854775807) (h : Acts w v l) (hl : l.length ≤ 9223372036854775807) :
    Calls Try.prog 3 #[.int .i64 room, v] w fun e w' => e = .returned (.bool true) ∧ Below w.heap.size w w' := by
  have HG : Hid (Calls _ _ _ _ _) := greatDeeds_any v l 120 w h hl (by decide)
  cases hf : fewDeeds l 120 with
  | false =>
    rw [hf] at HG
    obtain ⟨a, cap, rfl, _, _⟩ := h
    clear hf hl
    generalize l.length = m at *
    go_enter Try.func3, Try.ntmps3
    go_wp2_with fail
    refine Calls.mono HG.out ?_
    rintro e w1 ⟨rfl, rfl⟩
    go_wp2
    go_ret
    exact ⟨rfl, Below.refl _ _⟩
  | true =>
    rw [hf] at HG
    by_cases hno : ¬ (1 ≤ room ∧ room ≤ 4096)
    · have HN : Hid (Calls _ _ _ _ _) := new_no room w hno
      have HRN : Hid (Calls _ _ _ _ _) := rnew_no room w hno
      have HD : Hid (Calls _ _ _ _ _) := does_any w
      obtain ⟨a, cap, rfl, _, _⟩ := h
      clear hf hl hno
      generalize l.length = m at *
      go_enter Try.func3, Try.ntmps3
      go_wp2_with fail
      refine Calls.mono HG.out ?_
      rintro e w1 ⟨rfl, rfl⟩
      go_wp2_with fail
      refine Calls.mono HN.out ?_
      rintro e w1 ⟨rfl, rfl⟩
      go_wp2_with fail
      refine Calls.mono HRN.out ?_
      rintro e w1 ⟨rfl, rfl⟩
      go_wp2_with fail
      refine Calls.mono HD.out ?_
      rintro e w2 ⟨rfl, hb2⟩
      go_wp2
      go_ret
      exact ⟨rfl, hb2⟩
    · obtain ⟨rm, rfl⟩ : ∃ rm : Nat, room = rm := ⟨room.toNat, by omega⟩
      have HN : Hid (Calls _ _ _ _ _) := new_yes rm w (by omega) (by omega)
      have HRN : Hid (∀ W, Calls Try.prog 11 #[.int .i64 rm] W fun e w' => e = .returned (.tuple #[.pointer (some ⟨W.heap.size, 0, none⟩), .int .i64 0]) ∧ Ref w' (fun b => b = W.heap.size) W.heap.size ⟨rm, -1, []⟩ ∧ Below W.heap.size W w') := fun W => rnew_yes rm W (by omega) (by omega)
      obtain ⟨hlen, heach⟩ := few_deeds hf
      have HE : Hid (∀ k, k < l.length → (l.getD k Deed.none).name.size ≤ 40 ∧ (l.getD k Deed.none).pages.length ≤ 8 ∧ ∀ s ∈ (l.getD k Deed.none).pages, s.size ≤ 300) := fun k hk => heach _ (getD_mem hk)
      obtain ⟨a, cap, rfl, hcap, hv⟩ := h
      have HCV : Hid (∀ k, k < l.length → ∃ b off, a = some ⟨b, off, none⟩ ∧ ∀ W, Below w.heap.size w W → DeedAt W b (off + k * 6) (l.getD k Deed.none) ∧ DeedOk W (l.getD k Deed.none)) := by
        intro k hk
        rcases hv with hv | ⟨b, off, rfl, hv⟩
        · rw [hv] at hk; simp at hk
        · exact ⟨b, off, rfl, fun W hb => ⟨(hv k hk).1.later hb, (hv k hk).2.later hb⟩⟩
      clear hv heach hf hl hno
      obtain ⟨DD, HDD⟩ : ∃ DD : Nat → Deed, Hid (∀ k, l.getD k Deed.none = DD k) := ⟨_, fun _ => rfl⟩
      simp only [HDD.out] at HE HCV
      clear HDD
      obtain ⟨i0, hti, hz0, hz1, hz2⟩ := info_parts Try.textInfo
      generalize l.length = m at *
      go_enter Try.func3, Try.ntmps3
      go_wp2_with fail
      refine Calls.mono HG.out ?_
      rintro e w1 ⟨rfl, rfl⟩
      go_wp2_with fail
      refine Calls.mono HN.out ?_
      rintro e w2 ⟨p, o, rfl, hs2, ho2, hb2⟩
      have F2 : Hid (_ ∧ _ ∧ _) := And.intro hs2 (And.intro ho2 hb2)
      clear hs2 ho2 hb2 HN
      go_wp2_with fail
      refine Calls.mono (HRN.out _) ?_
      rintro e w3 ⟨rfl, hr3, hb3⟩
      obtain ⟨r, HRe⟩ : ∃ r, Hid (w2.heap.size = r) := ⟨_, rfl⟩
      have F3 : Hid (Both w1 w3 p r o (fun _ => False) ⟨rm, -1, []⟩ ⟨rm, -1, []⟩) := by
        obtain ⟨hs2, ho2, hb2⟩ := F2.out
        have e := HRe.out
        rw [e] at hr3
        refine ⟨hs2.later hb3, hr3.imp fun b _ hb ho => ?_, bnext hb2 hb3, ho2, by have := hb2.size; omega, fun i hi => hi.elim⟩
        rcases ho with ho | ho
        · have := hs2.lt b ho
          omega
        · exact ho
      clear hr3 hb3 F2 HRN
      rw [HRe.out]
      clear HRe
      go_wp2
      go_loopw [9] (fun x wr => ∃ (k : Nat) (o : Nat → Prop) (st : Fi.St), k ≤ m ∧ x = .int .i64 k ∧ Hid (Both w1 wr p r o (fun _ => False) st st)) (fun x _ => m - (intOf x).toNat)
      case atStart => exact ⟨0, o, _, Nat.zero_le _, rfl, F3⟩
      case round =>
        clear F3
        obtain ⟨k, o1, st, hk, rfl, F⟩ := hrel
        by_cases hlt : k < m
        · obtain ⟨b, off, rfl, hat⟩ := HCV.out k hlt
          obtain ⟨hd, hdk⟩ := hat wr F.out.below
          have c0 := hd.c0
          have c1 := hd.c1
          have c2 := hd.c2
          have c3 := hd.c3
          have c4 := hd.c4
          have c5 := hd.c5
          have HDK : Hid (DeedOk wr (DD k)) := hdk
          have HEk : Hid _ := HE.out k hlt
          obtain ⟨pa, pcap, hpv, hpc, _⟩ := hdk.strs
          have hp8 : (DD k).pages.length ≤ 8 := HEk.out.2.1
          have hkd := hdk.kind
          rw [hpv] at c2
          have HAT : Hid (∀ W, Below w1.heap.size w1 W → DeedAt W b (off + k * 6) (DD k) ∧ DeedOk W (DD k)) := hat
          clear hd hat hdk
          generalize hd : DD k = d at *
          clear hd
          obtain ⟨dk, nm, pv, pgs, di, da, dx⟩ := d
          simp only at *
          have HPV : Hid (_ = _) := hpv
          clear hpv
          generalize hpl : pgs.length = pl at *
          have HPL : Hid (pgs.length = pl) := hpl
          clear hpl
          go_wp2_with fail
          obtain ⟨wB, HWB⟩ : ∃ wB, Hid (wr.alloc (.cells #[.int .u8 dk, .string nm, .slice pa pl pcap, .int .i64 di, .int .i64 da, .int .u8 dx.toNat] 34) = wB) := ⟨_, rfl⟩
          rw [HWB.out]
          obtain ⟨xb, HXB⟩ : ∃ xb, Hid (wr.heap.size = xb) := ⟨_, rfl⟩
          rw [HXB.out]
          have HBr : Hid (Below wr.heap.size wr wB) := by rw [← HWB.out]; exact (Below.refl _ wr).alloc (Nat.le_refl _) _
          have HBOX : Hid (wB.heap[xb]? = some (.cells #[.int .u8 dk, .string nm, .slice pa pl pcap, .int .i64 di, .int .i64 da, .int .u8 dx.toNat] 34 (0, 0))) := by rw [← HWB.out, ← HXB.out]; exact heap_alloc_new wr _
          have hci := cell_after HBr.out c2
          have hblt : b < wr.heap.size := World.block_lt_of_cell? _ _ c2
          have hxne : xb ≠ b := by have := HXB.out; omega
          have hxlt : xb < wB.heap.size := (Array.getElem?_eq_some_iff.1 HBOX.out).1
          have HV : Hid (∀ W, Below wB.heap.size wB W → Strs W (.slice pa pl pcap) pgs) := fun W hb => by rw [← HPV.out]; exact (HDK.out.strs.later HBr.out).later hb
          have hbox : ∀ W, Below wB.heap.size wB W → W.cell? ⟨xb, 2, none⟩ = some (.slice pa pl pcap) ∧ W.frozen? ⟨xb, 2, none⟩ = false := fun W hb => by
            have h3 := (hb.block xb hxlt).trans HBOX.out
            exact ⟨by rw [cell_of_row W xb 2 _ _ _ h3]; rfl, by simp [World.frozen?, h3]⟩
          have HBXC : Hid (∀ W, Below wB.heap.size wB W → W.cell? ⟨xb, 2, none⟩ = some (.slice pa pl pcap) ∧ W.frozen? ⟨xb, 2, none⟩ = false) := hbox
          clear hbox HWB c0 c1 c2 c3 c4 c5
          have hkm0 : (0 : Int) ≤ (k : Int) := Int.natCast_nonneg _
          have hkm1 : (k : Int) < (m : Int) := by omega
          obtain ⟨C, hmk⟩ := made_strs 32 9 i0 Try.underlying32 hti hz0 hz1 hz2 (pl + 1) (by omega)
          have HMO : Hid (∀ W : World, wB.heap.size ≤ W.heap.size → (W.alloc (.cells C 9)).ownsRow wB.heap.size 9 1 (.slice (some ⟨W.heap.size, 0, none⟩) 0 (pl + 1)) 0 []) := fun W hW => (hmk W).2 _ hW
          have hmk : ∀ W : World, (Instr.makeSlice 32 (.int .i64 0) (.int .i64 ((pl : Int) + 1))).run Try.prog W = .ok (.slice (some ⟨W.heap.size, 0, none⟩) 0 (pl + 1)) (W.alloc (.cells C 9)) := fun W => (hmk W).1
          have hwp : IntKind.i64.wrap ((pl : Int) + 1) = (pl : Int) + 1 := by rw [IntKind.wrap_i64]; omega
          have hpl0 : (0 : Int) ≤ (pl : Int) := Int.natCast_nonneg _
          have hpl1 : (pl : Int) ≤ (pl : Int) + 1 := by omega
          have hpl2 : (pl : Int) ≤ ((pl + 1 : Nat) : Int) := by omega
          have hpl3 : ((0 : Nat) : Int) ≤ (pl : Int) := by omega
          have hpl4 : pl ≤ pl + 1 := by omega
          go_region_held3 (fun w' => w'.cell? ⟨b, off + k * 6 + 2, none⟩ = some (.slice pa pl pcap))
            (first | go_keep | exact hci8 | exact hci7)
            (first
            | (refine step_append_strs (w := wB.drew.alloc (.cells C 9)) (by rfl) _ _ _ (by rfl) wB.heap.size 9 i0 Try.underlying32 hti hz1 (wB.heap.size) 0 (pl + 1) [] (by rfl) (HMO.out wB.drew (Nat.le_refl _)) _ pgs (by rfl) (HV.out _ (below_alloc (Below.refl _ wB).drew (.cells C 9))) (by rw [HPL.out]; omega) pl (by rw [HPL.out]; omega) ?_
               intro w7 hown7 hgrow7
               have HB7 : Hid (Below wB.heap.size wB w7) := (below_alloc (Below.refl _ wB).drew (.cells C 9)).grown hgrow7 (below_alloc (Below.refl _ wB).drew (.cells C 9)).size (by simp)
               have HO7 : Hid (World.ownsRow _ _ _ _ _ _ _) := hown7
               have hci7 := cell_after HB7.out hci
               clear hown7 hgrow7)
            | (refine step_append_strs (w := (wB.drew.alloc (.cells C 9)).alloc (.cells #[.string ⟨#[42]⟩] 9)) (by rfl) _ _ _ (by rfl) wB.heap.size 9 i0 Try.underlying32 hti hz1 (wB.heap.size) 0 (pl + 1) [] (by rfl) ((HMO.out wB.drew (Nat.le_refl _)).alloc _) _ pgs (by rfl) (HV.out _ (below_alloc (below_alloc (Below.refl _ wB).drew (.cells C 9)) (.cells #[.string ⟨#[42]⟩] 9))) (by rw [HPL.out]; omega) pl (by rw [HPL.out]; omega) ?_
               intro w7 hown7 hgrow7
               have HB7 : Hid (Below wB.heap.size wB w7) := (below_alloc (below_alloc (Below.refl _ wB).drew (.cells C 9)) (.cells #[.string ⟨#[42]⟩] 9)).grown hgrow7 (below_alloc (below_alloc (Below.refl _ wB).drew (.cells C 9)) (.cells #[.string ⟨#[42]⟩] 9)).size (by simp)
               have HO7 : Hid (World.ownsRow _ _ _ _ _ _ _) := hown7
               have hci7 := cell_after HB7.out hci
               have HL7 : Hid (w7.heap[wB.heap.size + 1]? = some (.cells #[.string ⟨#[42]⟩] 9 (0, 0))) := (hgrow7.block (wB.heap.size + 1) (by simp) (by simp)).trans (by have := heap_alloc_new (wB.drew.alloc (.cells C 9)) (.cells #[.string ⟨#[42]⟩] 9); simpa using this)
               clear hown7 hgrow7)
            | (refine step_append_strs (w := (wB.drew.alloc (.cells #[.string ⟨#[42]⟩] 9)).alloc (.cells C 9)) (by rfl) _ _ _ (by rfl) wB.heap.size 9 i0 Try.underlying32 hti hz1 (wB.heap.size + 1) 0 (pl + 1) [] (by rfl) ((by have := HMO.out (wB.drew.alloc (.cells #[.string ⟨#[42]⟩] 9)) (by simp); simpa using this)) _ pgs (by rfl) (HV.out _ (below_alloc (below_alloc (Below.refl _ wB).drew (.cells #[.string ⟨#[42]⟩] 9)) (.cells C 9))) (by rw [HPL.out]; omega) pl (by rw [HPL.out]; omega) ?_
               intro w7 hown7 hgrow7
               have HB7 : Hid (Below wB.heap.size wB w7) := (below_alloc (below_alloc (Below.refl _ wB).drew (.cells #[.string ⟨#[42]⟩] 9)) (.cells C 9)).grown hgrow7 (below_alloc (below_alloc (Below.refl _ wB).drew (.cells #[.string ⟨#[42]⟩] 9)) (.cells C 9)).size (by simp)
               have HO7 : Hid (World.ownsRow _ _ _ _ _ _ _) := hown7
               have hci7 := cell_after HB7.out hci
               have HL7 : Hid (w7.heap[wB.heap.size]? = some (.cells #[.string ⟨#[42]⟩] 9 (0, 0))) := (hgrow7.block wB.heap.size (by first | (simp; done) | (simp; omega)) (by simp)).trans (star_under wB C)
               clear hown7 hgrow7)
            | (refine step_append_strs (w := w7) (by rfl) _ _ _ (by rfl) wB.heap.size 9 i0 Try.underlying32 hti hz1 (wB.heap.size + 1) pl (pl + 1) (scells pgs) (by rfl) (HO7.out) (.slice (some ⟨wB.heap.size, 0, none⟩) 1 1) [⟨#[42]⟩] (by rfl) (star_strs (HL7.out)) (Nat.le_refl _) (pl + 1) rfl ?_
               intro w8 hown8 hgrow8
               have HB8 : Hid (Below wB.heap.size wB w8) := (HB7.out).grown hgrow8 (HB7.out).size (by simp)
               have HO8 : Hid (World.ownsRow w8 wB.heap.size 9 1 (.slice (some ⟨wB.heap.size + 1, 0, none⟩) (pl + 1) (pl + 1)) (pl + 1) (scells (pgs ++ [⟨#[42]⟩]))) := by rw [← scells_snoc]; exact hown8
               have hci8 := cell_after HB8.out hci
               have hcb8 := (HBXC.out w8 HB8.out).1
               have hfz8 := (HBXC.out w8 HB8.out).2
               clear hown8 hgrow8)
            | (refine step_append_strs (w := w7) (by rfl) _ _ _ (by rfl) wB.heap.size 9 i0 Try.underlying32 hti hz1 (wB.heap.size) pl (pl + 1) (scells pgs) (by rfl) (HO7.out) (.slice (some ⟨wB.heap.size + 1, 0, none⟩) 1 1) [⟨#[42]⟩] (by rfl) (star_strs (HL7.out)) (Nat.le_refl _) (pl + 1) rfl ?_
               intro w8 hown8 hgrow8
               have HB8 : Hid (Below wB.heap.size wB w8) := (HB7.out).grown hgrow8 (HB7.out).size (by simp)
               have HO8 : Hid (World.ownsRow w8 wB.heap.size 9 1 (.slice (some ⟨wB.heap.size, 0, none⟩) (pl + 1) (pl + 1)) (pl + 1) (scells (pgs ++ [⟨#[42]⟩]))) := by rw [← scells_snoc]; exact hown8
               have hci8 := cell_after HB8.out hci
               have hcb8 := (HBXC.out w8 HB8.out).1
               have hfz8 := (HBXC.out w8 HB8.out).2
               clear hown8 hgrow8)
            | (refine step_append_strs (w := w7.alloc (.cells #[.string ⟨#[42]⟩] 9)) (by rfl) _ _ _ (by rfl) wB.heap.size 9 i0 Try.underlying32 hti hz1 (wB.heap.size) pl (pl + 1) (scells pgs) (by rfl) (HO7.out.alloc _) (.slice (some ⟨w7.heap.size, 0, none⟩) 1 1) [⟨#[42]⟩] (by rfl) (star_strs (heap_alloc_new w7 _)) (Nat.le_refl _) (pl + 1) rfl ?_
               intro w8 hown8 hgrow8
               have HB8 : Hid (Below wB.heap.size wB w8) := (below_alloc HB7.out (.cells #[.string ⟨#[42]⟩] 9)).grown hgrow8 (below_alloc HB7.out (.cells #[.string ⟨#[42]⟩] 9)).size (by simp)
               have HO8 : Hid (World.ownsRow w8 wB.heap.size 9 1 (.slice (some ⟨wB.heap.size, 0, none⟩) (pl + 1) (pl + 1)) (pl + 1) (scells (pgs ++ [⟨#[42]⟩]))) := by rw [← scells_snoc]; exact hown8
               have hci8 := cell_after HB8.out hci
               have hcb8 := (HBXC.out w8 HB8.out).1
               have hfz8 := (HBXC.out w8 HB8.out).2
               clear hown8 hgrow8)
            | fail)
          all_goals
            first
              | (obtain ⟨g, HGe⟩ : ∃ g, Hid (wB.heap.size + 1 = g) := ⟨_, rfl⟩
                 rw [HGe.out] at HO8
                 rw [HGe.out])
              | (obtain ⟨g, HGe⟩ : ∃ g, Hid (wB.heap.size = g) := ⟨_, rfl⟩
                 rw [HGe.out] at HO8
                 rw [HGe.out])
            have hgw : wB.heap.size ≤ g ∧ g < w8.heap.size := by
              have h1 := HGe.out
              have h2 := (HO8.out.lt g rfl).2
              omega
            obtain ⟨w9, HW9⟩ : ∃ w9, Hid (w8.setCell ⟨xb, 2, none⟩ (.slice (some ⟨g, 0, none⟩) pl (pl + 1)) = w9) := ⟨_, rfl⟩
            rw [HW9.out]
            have BO : Hid (Both w1 w9 p r o1 (fun i => i = xb ∨ i = g) st st) := by
              rw [← HW9.out]
              refine Both.store (a := ⟨xb, 2, none⟩) (F.out.more (bnext HBr.out HB8.out) fun i hi => ?_) (.inl rfl) _
              have h1 := HXB.out
              have h2 := HBr.out.size
              have h3 := HB8.out.size
              rcases hi with rfl | rfl
              · exact ⟨by omega, by omega⟩
              · exact ⟨by omega, hgw.2⟩
            have XA : Hid (XAt w9 xb g pl #[.int .u8 dk, .string nm, .slice (some ⟨g, 0, none⟩) pl (pl + 1), .int .i64 di, .int .i64 da, .int .u8 dx.toNat] (pgs ++ [⟨#[42]⟩])) := by
              rw [← HW9.out]
              refine ⟨heap_setCell_same w8 xb 2 _ _ _ ((HB8.out.block xb hxlt).trans HBOX.out), row_base (ownsRow_setCell_other HO8.out (by simp [Value.ownBlock]; omega) _) (Nat.zero_le _)⟩
            have hxg : xb ≠ g := by have := hgw.1; omega
            have HDk : Hid (DeedOk w9 ⟨dk, nm, .slice (some ⟨g, 0, none⟩) pl (pl + 1), pgs, di, da, dx⟩) := ⟨HDK.out.kind, HDK.out.name, XA.out.strs rfl HPL.out, HDK.out.len, HDK.out.each, HDK.out.i1, HDK.out.i2⟩
            clear HO8 HB8 hci8 hcb8 hfz8 HW9 hgw HGe
            have HDN : Hid (Calls _ _ _ _ _) := done_any _ w9 BO.out.sys HDk.out HEk.out.1 (by show pgs.length ≤ 8; rw [HPL.out]; exact HEk.out.2.1)
            unfold Deed.cells at HDN
            obtain ⟨⟨sa, an, st2⟩, HAC⟩ : ∃ R, Hid (∀ v, actOf st ⟨dk, nm, v, pgs, di, da, dx⟩ = R) := ⟨actOf st ⟨dk, nm, .slice none 0 0, pgs, di, da, dx⟩, fun _ => rfl⟩
            rw [HAC.out] at HDN
            simp only at HDN
            have x0 := XA.out.cell 0
            have x1 := XA.out.cell 1
            have x2 := XA.out.cell 2
            have x3 := XA.out.cell 3
            have x4 := XA.out.cell 4
            have x5 := XA.out.cell 5
            simp only [List.size_toArray, List.length_cons, List.length_nil, Nat.reduceAdd, Nat.reduceLT, getElem?_pos, List.getElem_toArray, List.getElem_cons_zero, List.getElem_cons_succ] at x0 x1 x2 x3 x4 x5
            go_wp2_with fail
            refine Calls.mono HDN.out ?_
            rintro e wa ⟨oa, rfl, hsa, hta⟩
            have BA : Hid (Both w1 wa p r oa (fun i => i = xb ∨ i = g) st2 st) := BO.out.done hsa hta
            have XB : Hid (XAt wa xb g pl _ _) := XA.out.keep (BO.out.done_own hta)
            obtain ⟨hd, hdk⟩ := HAT.out wa BA.out.below
            have c0 := hd.c0
            have c1 := hd.c1
            have c2 := hd.c2
            have c3 := hd.c3
            have c4 := hd.c4
            have c5 := hd.c5
            simp only at c0 c1 c2 c3 c4 c5
            have HSD : Hid (Calls _ _ _ _ _) := said_any _ wa BA.out.ref hdk HEk.out.1 (by show pgs.length ≤ 8; rw [HPL.out]; exact HEk.out.2.1) HEk.out.2.2 BA.out.free
            unfold Deed.cells at HSD
            rw [HAC.out] at HSD
            simp only at HSD
            rw [HPV.out] at c2 HSD
            clear hd hdk hsa hta HDN HDk x0 x1 x2 x3 x4 x5 XA BO
            go_wp2_with fail
            refine Calls.mono HSD.out ?_
            rintro e wb ⟨rfl, hrb, htb⟩
            have BB : Hid (Both w1 wb p r oa (fun i => i = xb ∨ i = g) st2 st2) := BA.out.said hrb htb
            have XC : Hid (XAt wb xb g pl _ _) := XB.out.keep (BA.out.said_own htb)
            obtain ⟨hd, hdk⟩ := HAT.out wb BB.out.below
            have hx2 : ∀ x : Later wb, x.world.cell? ⟨xb, 2, none⟩ = some (.slice (some ⟨g, 0, none⟩) pl (pl + 1)) := Later.cell (XC.out.cell 2)
            have hl2 : ∀ x : Later wb, x.world.cell? ⟨b, off + k * 6 + 2, none⟩ = some (.slice pa pl pcap) := Later.cell (by have := hd.c2; rw [HPV.out] at this; exact this)
            have hst : ∀ x : Later wb, x.world.cell? ⟨g, pl, none⟩ = some (.string ⟨#[42]⟩) := Later.cell (XC.out.star rfl HPL.out)
            have HTX : Hid (∀ x : Later wb, Calls Try.prog 15 #[.slice (some ⟨g, 0, none⟩) pl (pl + 1), .slice pa pl pcap] x.world fun e w' => e = .returned (.bool true) ∧ Below x.world.heap.size x.world w') := fun x => by
              have h1 := texts_any (.slice (some ⟨g, 0, none⟩) pl (pl + 1)) (.slice pa pl pcap) pgs pgs x.world ((XC.out.strs rfl HPL.out).later x.below) (by have := hdk.strs.later x.below; simp only at this; rw [HPV.out] at this; exact this) (by rw [HPL.out]; omega) (by rw [HPL.out]; omega)
              rwa [decide_eq_true rfl] at h1
            have hne := Later.some wb
            clear hd hdk hrb htb HSD BA XB c0 c1 c2 c3 c4 c5 hmk hwp
            go_wp2_with fail
            refine wp_region_later (by kernel_rfl) (by kernel_rfl) ?_
            repeat (go_big_quiet_step ((go_at_call 15; exact Later.made (HTX.out _))))
            refine wpQuiet_nil ?_
            intro wc hwc
            obtain ⟨⟨wc, hbc⟩, rfl⟩ := hwc
            have C0 : Hid (Both w1 wc p r oa (fun i => i = xb ∨ i = g) st2 st2 ∧ ∃ L : List ByteArray, L.length = pl + 1 ∧ XAt wc xb g pl #[.int .u8 dk, .string nm, .slice (some ⟨g, 0, none⟩) pl (pl + 1), .int .i64 di, .int .i64 da, .int .u8 dx.toNat] L) :=
              ⟨BB.out.later hbc, _, by rw [List.length_append, HPL.out]; rfl, XC.out.keep fun i hi => hbc.block i (BB.out.own i hi).2.1⟩
            clear hbc hne hst hl2 hx2 HTX BB XC
            go_wp2
            go_loopw [15] (fun x wr => ∃ j : Nat, j ≤ pl ∧ x = .int .i64 j ∧ Hid (Both w1 wr p r oa (fun i => i = xb ∨ i = g) st2 st2 ∧ ∃ L : List ByteArray, L.length = pl + 1 ∧ XAt wr xb g pl #[.int .u8 dk, .string nm, .slice (some ⟨g, 0, none⟩) pl (pl + 1), .int .i64 di, .int .i64 da, .int .u8 dx.toNat] L)) (fun x _ => pl - (intOf x).toNat)
            case atStart => exact ⟨0, Nat.zero_le _, rfl, C0⟩
            case round =>
              clear C0
              obtain ⟨j, hj, rfl, CJ⟩ := hrel
              obtain ⟨hB, L, hL, hX⟩ := CJ.out
              have y2 : wr.cell? ⟨xb, 2, none⟩ = some (.slice (some ⟨g, 0, none⟩) pl (pl + 1)) := hX.cell 2
              by_cases hjl : j < pl
              · have z1 := hX.row.cellAt j (by omega)
                rw [scells_get _ j (by omega)] at z1
                have z2 := hX.row.frozenAt j
                have CN : Hid (Both w1 (wr.setCell ⟨g, j, none⟩ (.string ⟨#[115, 112, 111, 105, 108, 116]⟩)) p r oa (fun i => i = xb ∨ i = g) st2 st2 ∧ ∃ L : List ByteArray, L.length = pl + 1 ∧ XAt (wr.setCell ⟨g, j, none⟩ (.string ⟨#[115, 112, 111, 105, 108, 116]⟩)) xb g pl #[.int .u8 dk, .string nm, .slice (some ⟨g, 0, none⟩) pl (pl + 1), .int .i64 di, .int .i64 da, .int .u8 dx.toNat] L) := by
                  refine ⟨hB.store (a := ⟨g, j, none⟩) (.inr rfl) _, L.set j ⟨#[115, 112, 111, 105, 108, 116]⟩, by rw [List.length_set, hL], ⟨?_, ?_⟩⟩
                  · have hne : xb ≠ g := hxg
                    exact (Below.heap_setCell _ _ _ _ hne).trans hX.box
                  · rw [← scells_set]; exact (hX.row.stored j _).1
                clear hB hX CJ
                generalize L.getD j ByteArray.empty = zz at *
                go_wp2
                go_roundw
                case rel => exact ⟨j + 1, by omega, by go_num, CN⟩
                case measure => simp [intOf]; omega
              · obtain rfl : j = pl := by omega
                have BD : Hid (Both w1 wr p r oa (fun i => i = xb ∨ i = g) st2 st2) := hB
                have y1 : wr.cell? ⟨xb, 1, none⟩ = some (.string nm) := hX.cell 1
                have XD : Hid (XAt wr xb g j _ L) := hX
                clear hB hX CJ
                have hnm40 : nm.size ≤ 40 := HEk.out.1
                have HN1 : Hid (∀ W, Below wr.heap.size wr W → Calls Try.prog 16 #[.pointer (some ⟨p, 0, none⟩)] W fun e w' => ∃ v, e = .returned v ∧ Strs w' v (Fi.names st2.fs) ∧ Below W.heap.size W w') := fun W hb => (names_any W (BD.out.sys.later hb)).mono fun e w' ⟨v, he, hv, hb'⟩ => ⟨v, he, hv.strs, hb'⟩
                have HN2 : Hid (∀ W, Below wr.heap.size wr W → Calls Try.prog 17 #[.pointer (some ⟨r, 0, none⟩)] W fun e w' => ∃ v, e = .returned v ∧ Strs w' v (Fi.names st2.fs) ∧ Below W.heap.size W w') := fun W hb => (rnames_any W (BD.out.ref.later hb)).mono fun e w' ⟨v, he, hv, hb'⟩ => ⟨v, he, hv.strs, hb'⟩
                have HP1 : Hid (∀ W, Below wr.heap.size wr W → Calls _ _ _ W _) := fun W hb => pages_any nm W (BD.out.sys.later hb) (by unfold maxLen; omega)
                have HP2 : Hid (∀ W, Below wr.heap.size wr W → Calls _ _ _ W _) := fun W hb => rpages_any nm W (BD.out.ref.later hb)
                have HU1 : Hid (∀ W, Below wr.heap.size wr W → Calls _ _ _ W _) := fun W hb => used_any W (BD.out.sys.later hb)
                have HU2 : Hid (∀ W, Below wr.heap.size wr W → Calls _ _ _ W _) := fun W hb => rused_any W (BD.out.ref.later hb)
                have HM1 : Hid (∀ W, Calls _ _ _ W _) := fun W => name_any nm W (by omega)
                have HM2 : Hid (∀ W, Calls _ _ _ W _) := fun W => rname_any nm W (by omega)
                have hNL : (Fi.names st2.fs).length ≤ 4096 := by
                  have h1 := BD.out.sys.good.count
                  have h2 := BD.out.sys.good.room2
                  simp only [Fi.names, List.length_map]
                  omega
                have HTX : Hid (∀ W v u, Strs W v (Fi.names st2.fs) → Strs W u (Fi.names st2.fs) → Calls Try.prog 15 #[v, u] W fun e w' => e = .returned (.bool true) ∧ Below W.heap.size W w') := fun W v u h1 h2 => by
                  have h3 := texts_any v u _ _ W h1 h2 (by omega) (by omega)
                  rwa [decide_eq_true rfl] at h3
                generalize Fi.names st2.fs = NS at *
                generalize (Fi.rows st2.fs nm).length = PN at *
                generalize Fi.used st2.fs = UN at *
                generalize Fi.isName nm = BN at *
                have HB0 : Hid (Below wr.heap.size wr wr.drew) := (Below.refl _ wr).drew
                go_wp2_with fail
                go_region_held3 (fun w' => w'.cell? ⟨xb, 1, none⟩ = some (.string nm))
                  (first | go_keep | exact q5 | exact q4 | exact q3 | exact q2 | exact q1)
                  (first
                  | (go_at_call 16; refine Calls.mono (HN1.out _ HB0.out) ?_; rintro e wd ⟨v1, rfl, hv1, hb1⟩; have HB1 : Hid (Below wr.heap.size wr wd) := bnext HB0.out hb1; have HV1 : Hid (Strs wd v1 NS) := hv1; have q1 := cell_after HB1.out y1; clear hv1 hb1)
                  | (go_at_call 17; refine Calls.mono (HN2.out _ HB1.out) ?_; rintro e we ⟨v2, rfl, hv2, hb2⟩; have HB2 : Hid (Below wr.heap.size wr we) := bnext HB1.out hb2; have HV2 : Hid (Strs we v2 NS) := hv2; have HV3 : Hid (Strs we v1 NS) := HV1.out.later hb2; have q2 := cell_after HB2.out y1; clear hv2 hb2)
                  | (go_at_call 15; refine Calls.mono (HTX.out _ _ _ HV3.out HV2.out) ?_; rintro e wf ⟨rfl, hb3⟩; have HB3 : Hid (Below wr.heap.size wr wf) := bnext HB2.out hb3; have q3 := cell_after HB3.out y1; clear hb3)
                  | (go_at_call 18; refine Calls.mono (HP1.out _ HB3.out) ?_; rintro e wq ⟨rfl, rfl⟩)
                  | (go_at_call 19; refine Calls.mono (HP2.out _ HB3.out) ?_; rintro e wq ⟨rfl, rfl⟩)
                  | (go_at_call 20; refine Calls.mono (HU1.out _ HB3.out) ?_; rintro e wh ⟨rfl, hb4⟩; have HB4 : Hid (Below wr.heap.size wr wh) := bnext HB3.out hb4; have q4 := cell_after HB4.out y1; clear hb4)
                  | (go_at_call 21; refine Calls.mono (HU2.out _ HB4.out) ?_; rintro e wq ⟨rfl, rfl⟩)
                  | (go_at_call 22; refine Calls.mono (HM1.out _) ?_; rintro e wq ⟨rfl, rfl⟩)
                  | (go_at_call 23; refine Calls.mono (HM2.out _) ?_; rintro e wq ⟨rfl, rfl⟩)
                  | fail)
                all_goals
                  have BE : Hid (Both _ _ _ _ _ _ _ _) := (BD.out.later HB4.out).drop
                  clear BD XD HN1 HN2 HP1 HP2 HU1 HU2 HM1 HM2 HTX
                  go_wp2
                  go_roundw
                  case rel => exact ⟨k + 1, oa, st2, by omega, by go_num, BE⟩
                  case measure => simp [intOf]; omega
        · obtain rfl : k = m := by omega
          have HFA : Hid (Calls Try.prog 24 #[.pointer (some ⟨p, 0, none⟩), .int .i64 1099511627776] wr fun e w' => e = .returned (.int .i64 0) ∧ Sys w' p o1 { st with ahead := 1099511627776 } ∧ Turn o1 wr o1 w') := fail_any 1099511627776 wr F.out.sys (by decide)
          have HG : Hid (Fi.Good st) := F.out.sys.good
          have hcnt : st.fs.length ≤ 4096 := by have := HG.out.count; have := HG.out.room2; omega
          clear HE HCV
          go_wp2_with fail
          refine Calls.mono HFA.out ?_
          rintro e wa ⟨rfl, hsa, hta⟩
          have B1 : Hid (Both w1 wa p r o1 (fun _ => False) { st with ahead := 1099511627776 } st) := F.out.done hsa hta
          clear hsa hta HFA F
          have HNA : Hid (Calls _ _ _ _ _) := rnames_any wa B1.out.ref
          go_wp2_with fail
          refine Calls.mono HNA.out ?_
          rintro e wn ⟨vn, rfl, hsn, hbn⟩
          obtain ⟨gg, HT0, HSN⟩ : ∃ gg, Hid (Tail w1 wn wn p r o1 gg st 1099511627776 st.ahead) ∧ Hid (StrsIn wn gg vn (Fi.names st.fs)) := ⟨_, (Tail.start B1.out hbn hsn).1, (Tail.start B1.out hbn hsn).2⟩
          clear hsn hbn HNA B1
          obtain ⟨an, capn, rfl, hcapn, hvn⟩ := HSN.out
          have HCN : Hid (∀ i (hi : i < st.fs.length), ∃ b off, an = some ⟨b, off, none⟩ ∧ gg b ∧ wn.cell? ⟨b, off + i, none⟩ = some (.string (st.fs[i]).1)) := by
            intro i hi
            have hil : i < (Fi.names st.fs).length := by simpa [Fi.names] using hi
            rcases hvn with hvn | ⟨b, off, rfl, hno, hvn⟩
            · rw [hvn] at hil; simp at hil
            · refine ⟨b, off, rfl, hno, ?_⟩
              rw [hvn i hil]
              simp [Fi.names, List.getD, hi]
          have hnl : (Fi.names st.fs).length = st.fs.length := by simp [Fi.names]
          rw [hnl] at *
          clear HSN hvn hnl
          go_wp2
          go_loopw [17] (fun y wr => ∃ (i : Nat) (a b : Int), i ≤ st.fs.length ∧ y = .int .i64 i ∧ Hid (Tail w1 wn wr p r o1 gg st a b ∧ 1099511627776 - (i : Int) * 4096 ≤ a)) (fun y _ => st.fs.length - (intOf y).toNat)
          case atStart => exact ⟨0, _, _, Nat.zero_le _, rfl, HT0.out, by omega⟩
          case round =>
            clear HT0
            obtain ⟨i, a2, b2, hi, rfl, A⟩ := hrel
            by_cases hil : i < st.fs.length
            · obtain ⟨nb, noff, rfl, hgb, hcn⟩ := HCN.out i hil
              have HCI : Hid _ := hcn
              have HGB : Hid (gg nb) := hgb
              have hmem := List.getElem_mem hil
              have hme := HG.out.each _ hmem
              have hnb := name_bound hme.1
              have hpl : (Fi.rows st.fs (st.fs[i]).1).length ≤ 4096 := by have := Fi.rows_le HG.out.sorted (st.fs[i]).1; have := HG.out.used; have := HG.out.room2; omega
              clear hcn hmem hme hgb
              generalize (st.fs[i]).1 = N at *
              obtain ⟨R, HRR⟩ : ∃ R, Hid (Fi.rows st.fs N = R) := ⟨_, rfl⟩
              rw [HRR.out] at hpl
              have A1 : Hid (Tail w1 wn wr p r o1 gg st a2 b2 ∧ 1099511627776 - (i : Int) * 4096 - ((0 : Nat) : Int) ≤ a2) := ⟨A.out.1, by have := A.out.2; omega⟩
              clear A
              go_wp2
              go_loopw [18] (fun y ws => ∃ (k : Nat) (a b : Int), k ≤ R.length ∧ y = .int .i64 k ∧ Hid (Tail w1 wn ws p r o1 gg st a b ∧ 1099511627776 - (i : Int) * 4096 - (k : Int) ≤ a)) (fun y _ => R.length - (intOf y).toNat)
              case atStart => exact ⟨0, _, _, Nat.zero_le _, rfl, A1⟩
              case round =>
                clear A1
                obtain ⟨k, a3, b3, hk2, rfl, A⟩ := hrel
                have hci := A.out.1.cell (q := ⟨nb, noff + i, none⟩) HGB.out HCI.out
                have HPG : Hid (Calls Try.prog 19 #[.pointer (some ⟨r, 0, none⟩), .string N] wr fun e w' => e = .returned (.int .i64 R.length) ∧ w' = wr) := by
                  have h9 : Calls Try.prog 19 #[.pointer (some ⟨r, 0, none⟩), .string N] wr fun e w' => e = .returned (.int .i64 (Fi.rows st.fs N).length) ∧ w' = wr := rpages_any (st := { st with ahead := b3 }) N wr A.out.1.both.ref
                  rwa [HRR.out] at h9
                by_cases hkl : k < R.length
                · have ha3 : 0 < a3 := by have := A.out.2; omega
                  obtain ⟨hl1, hl2⟩ := A.out.1.left
                  have T1 : Hid (Tail w1 wn _ p r o1 gg st a3 (-1)) := A.out.1.still
                  have ha4 := A.out.2
                  have HAA : Hid (_ ≤ a3) := ha4
                  clear ha4 A
                  obtain ⟨wb, hWb⟩ : ∃ wb, wr.setCell ⟨r, 1, none⟩ (.int .i64 (-1)) = wb := ⟨_, rfl⟩
                  rw [hWb] at T1
                  have hc1 := T1.out.cell (q := ⟨nb, noff + i, none⟩) HGB.out HCI.out
                  have HRD : Hid (Calls _ _ _ _ _) := T1.out.read N (by unfold maxLen; omega) k (by rw [HRR.out]; exact hkl) ha3
                  rw [HRR.out] at HRD
                  go_wp2_with fail
                  refine Calls.mono HPG.out ?_
                  rintro e w2 ⟨rfl, rfl⟩
                  go_wp2_with fail
                  refine Calls.mono HRD.out ?_
                  rintro e wc ⟨rfl, ht2⟩
                  have T2 : Hid (Tail w1 wn wc p r o1 gg st (a3 - 1) (-1)) := ht2
                  have hc2 := T2.out.cell (q := ⟨nb, noff + i, none⟩) HGB.out HCI.out
                  have HRE : Hid (Calls _ _ _ _ _) := T2.out.rread N k (by rw [HRR.out]; exact hkl)
                  rw [HRR.out] at HRE
                  clear ht2 HRD T1 hci hl1 hl2 hc1 hWb
                  generalize R.getD k ByteArray.empty = sk at *
                  go_wp2_with fail
                  refine Calls.mono HRE.out ?_
                  rintro e wd ⟨rfl, ht3⟩
                  have T3 : Hid (Tail w1 wn wd p r o1 gg st (a3 - 1) (-1) ∧ 1099511627776 - (i : Int) * 4096 - ((k + 1 : Nat) : Int) ≤ a3 - 1) := ⟨ht3, by have := HAA.out; omega⟩
                  clear ht3 HRE T2 hc2 HAA
                  go_wp2
                  go_roundw
                  case rel => exact ⟨k + 1, _, _, by omega, by go_num, T3⟩
                  case measure => simp [intOf]; omega
                · obtain rfl : k = R.length := by omega
                  have A2 : Hid (Tail w1 wn wr p r o1 gg st a3 b3 ∧ 1099511627776 - ((i + 1 : Nat) : Int) * 4096 ≤ a3) := ⟨A.out.1, by have := A.out.2; omega⟩
                  clear A
                  go_wp2_with fail
                  refine Calls.mono HPG.out ?_
                  rintro e w2 ⟨rfl, rfl⟩
                  go_wp2
                  go_roundw
                  case rel => exact ⟨i + 1, _, _, by omega, by go_num, A2⟩
                  case measure => simp [intOf]; omega
            · have HD : Hid (Calls _ _ _ _ _) := does_any wr
              have HBZ : Hid (Below w1.heap.size w1 wr) := A.out.1.both.below
              obtain rfl : i = st.fs.length := by omega
              clear A
              go_wp2_with fail
              refine Calls.mono HD.out ?_
              rintro e w2 ⟨rfl, hb2⟩
              go_wp2
              go_ret
              exact ⟨rfl, bnext HBZ.out hb2⟩

end Go.Proofs.Ytikbhklmedblbaa
