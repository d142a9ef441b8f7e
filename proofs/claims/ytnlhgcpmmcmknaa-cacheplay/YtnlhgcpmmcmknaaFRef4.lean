/- The walks of the document's own Write, Put and Flip. -/
import Derived.Test.YtnlhgcpmmcmknaaFRef3
namespace Go.Proofs.Ytnlhgcpmmcmknaa
open Go.RowKit Go.Maps

theorem strs_cells {W : World} {b off : Nat} {l : List ByteArray} (h : ∀ j, j < l.length → W.cell? ⟨b, off + j, none⟩ = some (.string (l.getD j ByteArray.empty))) :
    ∀ j u, (scells l)[j]? = some u → W.cell? ((⟨b, off, none⟩ : Addr).add j) = some u := by
  intro j u hu
  have hj : j < l.length := by
    have := (List.getElem?_eq_some_iff.1 hu).1
    rwa [scells_length] at this
  rw [scells_get l j hj] at hu
  rw [Go.WideShapes.add_plain, h j hj, hu]

theorem StrsIn.of_new {w W : World} {ok : Nat → Prop} {v : Value} {l : List ByteArray} (h : StrsIn W (fun b => w.heap.size ≤ b) v l) (hok : ∀ i, w.heap.size ≤ i → ok i) : StrsIn W ok v l := h.imp fun b _ hb => hok b hb

theorem run_append_none {P : Program} (t ty e : TypeId) (i : TypeInfo) (ht : P.underlying t = some (.slice e)) (hi : P.info? e = some i) (p : Option Addr) (c : Nat) (w : World) :
    (Builtin.append_ #[t, t] ty #[.slice none 0 0, .slice p 0 c]).run P w = .ok (.slice none 0 0) w := by
  cases p <;> simp [Builtin.append_, run_underlying ht, sizeOf, typeInfo, hi, Builtin.lenOf, Builtin.firstCells, loadCells, loadCellsFrom]

theorem wpList_copy_strs {P : Program} {w : World} {ops : Array Oper} {rest : List Oper} {o : Oper} {a : Act} {Q : Exit → Act → World → Prop} (hgd : o.guard = none) (s x : Operand) (t : TypeId)
    (ho : o.op = .call { callee := .builtin .append, args := #[s, x], argTypes := #[t, t] }) (e : TypeId) (i : TypeInfo) (ht : P.underlying t = some (.slice e)) (hi : P.info? e = some i) (hz : i.zero = some (.string ⟨#[]⟩)) (h1 : i.size = 1) (h16 : i.bytes = 16)
    (hs : a.eval s = .slice none 0 0) (v : Value) (hx : a.eval x = v) (l : List ByteArray) (hv : Strs w v l) (hl : l.length ≤ 1000000)
    (h : ∀ v' w', w'.ownsRow w.heap.size e 1 v' l.length (scells l) → Below w.heap.size w w' → wpList P ops Q rest (a.put o.dst v') w') : wpList P ops Q (o :: rest) a w := by
  obtain ⟨p, cap, rfl, hcap, hc⟩ := hv
  by_cases hl0 : l = []
  · subst hl0
    refine wpList_plain hgd fun K hK => ?_
    unfold Oper.wp execOp
    simp only [ho, resolve, invoke, builtin, Sem.run_bind, Sem.run_pure, Result.andThen_ok, List.map_toArray, List.map_cons, List.map_nil, hs, hx]
    have hr := run_append_none t o.type e i ht hi p cap w
    simp only [List.length_nil] at hr ⊢
    rw [hr]
    exact hK _ _ (h _ _ (World.ownsRow_nil _ _ _ _) (Below.refl _ _))
  · have hpos : 0 < l.length := List.length_pos_iff.2 hl0
    rcases hc with hc | ⟨b, off, rfl, hc⟩
    · exact absurd hc hl0
    refine wpList_append_lies _ hgd s x t ho w.heap.size e i (.string ⟨#[]⟩) 1 16 ht hi hz h1 h16 rfl (by omega) _ 0 [] hs (World.ownsRow_nil _ _ _ _) ⟨b, off, none⟩ l.length cap (scells l) hx (by rw [scells_length, Nat.mul_one]) (strs_cells hc) (scells_one l) hpos (by unfold maxLen; omega) (by omega) (Nat.le_refl _) _ rfl ?_
    intro g3 cap3 w3 hown3 hgrow3 hat3 hlt3
    have hown3 : w3.ownsRow w.heap.size e 1 (.slice (some ⟨g3, 0, none⟩) l.length cap3) l.length (scells l) := by simpa using hown3
    have hb3 : Below w.heap.size w w3 := (Below.refl _ w).grown hgrow3 (Nat.le_refl _) (by simp [Value.ownBlock])
    have := h _ _ hown3 hb3
    simpa using this

set_option maxRecDepth 100000 in
set_option maxHeartbeats 1000000 in
theorem rwrite_any {ok : Nat → Prop} {r : Nat} {st : Fi.St} (n : ByteArray) (v : Value) (l : List ByteArray) (w : World) (hs : Ref w ok r st) (hn : n.size ≤ 9223372036854775807) (hv : Strs w v l) (hl : l.length ≤ 1000000) (hz : ∀ s ∈ l, s.size ≤ 9223372036854775807) (hok : ∀ i, w.heap.size ≤ i → ok i) :
    Calls Try.prog 43 #[.pointer (some ⟨r, 0, none⟩), .string n, v] w fun e w' => e = .returned (.int .i64 (Fi.write st n l).1) ∧ Ref w' ok r (Fi.write st n l).2 ∧ Turn (fun i => i = r) w (fun i => i = r) w' := by
  have HNM : Hid (Calls _ _ _ _ _) := rname_any n w hn
  have HS : Hid (Ref _ _ _ _) := hs
  have HU : Hid (∀ x : Later w, Calls Try.prog 22 #[.pointer (some ⟨r, 0, none⟩)] x.world fun e w' => e = .returned (.int .i64 (Fi.used st.fs)) ∧ w' = x.world) := fun x => rused_any x.world (hs.later x.below)
  have HP : Hid (∀ x : Later w, Calls Try.prog 72 #[.pointer (some ⟨r, 0, none⟩), .string n] x.world fun e w' => e = .returned (.int .i64 (Fi.rows st.fs n).length) ∧ w' = x.world) := fun x => rpages_any n x.world (hs.later x.below)
  have hg := hs.good
  have hd0 : ∀ x : Later w, x.world.cell? ⟨r, 0, none⟩ = some (.int .i64 st.room) := by
    obtain ⟨vL, T, h, _⟩ := hs
    exact Later.cell (h.cell 0)
  have hne := Later.some w
  have HV0 : Hid (Strs w v l) := hv
  obtain ⟨a, cap, rfl, hcap, hvs⟩ := hv
  have HV : Hid (Strs w (.slice a l.length cap) l) := HV0
  clear HV0
  have HVC : Hid (∀ k, k < l.length → ∃ b off, a = some ⟨b, off, none⟩ ∧ ∀ j, j < l.length → w.cell? ⟨b, off + j, none⟩ = some (.string (l.getD j ByteArray.empty))) := fun k hk => by
    rcases hvs with h | h
    · rw [h] at hk; simp at hk
    · exact h
  cases hb : Fi.isName n with
  | false =>
    rw [write_arg (.inl hb)]
    rw [hb] at HNM
    clear hvs hd0 hne
    go_enter Try.func43, Try.ntmps43
    go_wp2_with fail
    refine Calls.mono HNM.out ?_
    rintro e w1 ⟨rfl, rfl⟩
    go_wp2
    go_ret
    exact ⟨rfl, HS.out, Turn.below (Below.refl _ _)⟩
  | true =>
    rw [hb] at HNM
    have HBN : Hid (_ = _) := hb
    have HZ : Hid (∀ k, k < l.length → (l.getD k ByteArray.empty).size ≤ 9223372036854775807) := fun k hk => hz _ (by rw [List.getD_eq_getElem?_getD, List.getElem?_eq_getElem hk]; exact List.getElem_mem hk)
    have HNO : Hid (∀ k, k < l.length → (l.getD k ByteArray.empty).size ≠ 128 → Fi.write st n l = (2, st)) := fun k hk h1 => write_arg (.inr (all_stop hk (by unfold Fi.isPage; exact decide_eq_false h1)))
    have HAL : Hid ((∀ j, j < l.length → (l.getD j ByteArray.empty).size = 128) → l.all Fi.isPage = true) := fun h => all_upto rfl fun j hj => Fi.isPage_iff.2 (h j hj)
    have hru := Fi.rows_le hg.sorted n
    have hu1 := hg.used
    have hu2 := hg.room2
    have HGD : Hid (Fi.Good st) := hg
    have HOK : Hid (∀ i, w.heap.size ≤ i → ok i) := hok
    obtain ⟨i0, hti, hz0, hz1, hz2⟩ := info_parts Try.textInfo
    clear hz hb hg hvs hok hs
    go_enter Try.func43, Try.ntmps43
    go_wp2_with fail
    refine Calls.mono HNM.out ?_
    rintro e w1 ⟨rfl, rfl⟩
    go_wp2
    clear hd0 hne
    go_loop [7] (fun x => ∃ k : Nat, k ≤ l.length ∧ x = .int .i64 k ∧ Hid (∀ j, j < k → (l.getD j ByteArray.empty).size = 128)) (fun x => l.length - (intOf x).toNat)
    case atStart => exact ⟨0, Nat.zero_le _, rfl, fun j hj => by omega⟩
    case round =>
      obtain ⟨k, hk, rfl, HK⟩ := hrel
      by_cases hlt : k < l.length
      · obtain ⟨b, off, rfl, hc⟩ := HVC.out k hlt
        have hck := hc k hlt
        have hsz := HZ.out k hlt
        have HN1 : Hid _ := HNO.out k hlt
        have HK1 : Hid ((l.getD k ByteArray.empty).size = 128 → ∀ j, j < k + 1 → (l.getD j ByteArray.empty).size = 128) := fun h1 j hj => by
          by_cases e : j = k
          · subst e; exact h1
          · exact HK.out j (by omega)
        clear hc
        generalize l.getD k ByteArray.empty = s at hck hsz HN1 HK1
        by_cases hs128 : s.size = 128
        · have HK2 : Hid _ := HK1.out hs128
          have hbq : ((s.size : Int) == 128) = true := by rw [beq_iff_eq]; omega
          clear HK1 HN1
          go_wp2
          go_round
          case rel => exact ⟨k + 1, by omega, by go_num, HK2⟩
          case measure => simp [intOf]; omega
        · have HW : Hid (Fi.write st n l = (2, st)) := HN1.out hs128
          have hbq : ((s.size : Int) == 128) = false := by rw [beq_eq_false_iff_ne]; omega
          clear HK1 HN1
          go_wp2
          go_ret
          exact ⟨by rw [HW.out]; rfl, by rw [HW.out]; exact HS.out, Turn.below (Below.refl _ _)⟩
      · obtain rfl : k = l.length := by omega
        have HALL : Hid (l.all Fi.isPage = true) := HAL.out HK.out
        have hd0 : ∀ x : Later w1, x.world.cell? ⟨r, 0, none⟩ = some (.int .i64 st.room) := by
          obtain ⟨vL, T, h, _⟩ := HS.out
          exact Later.cell (h.cell 0)
        have hne := Later.some w1
        by_cases hrm : st.room < Fi.used st.fs - (Fi.rows st.fs n).length + l.length
        · have HW : Hid (Fi.write st n l = (61, st)) := write_room HBN.out HALL.out hrm
          generalize (Fi.rows st.fs n).length = R at *
          generalize Fi.used st.fs = U at *
          go_wp2_with fail
          refine wp_region_later (by kernel_rfl) (by kernel_rfl) ?_
          repeat (go_big_quiet_step (first | (go_at_call 22; exact Later.same (HU.out _)) | (go_at_call 72; exact Later.same (HP.out _))))
          refine wpQuiet_nil ?_
          intro w2 hw2
          obtain ⟨⟨w2, hb2⟩, rfl⟩ := hw2
          have H2 : Hid (_ ∧ _) := And.intro (HS.out.later hb2) (Turn.below (o := fun i => i = r) hb2)
          clear hb2 hd0 hne
          go_wp2
          go_ret
          exact ⟨by rw [HW.out]; rfl, by rw [HW.out]; exact H2.out.1, H2.out.2⟩
        · have HW : Hid (Fi.write st n l = (0, { st with fs := Fi.set st.fs n l })) := write_ok HBN.out HALL.out hrm
          have HGS : Hid (Fi.Good { st with fs := Fi.set st.fs n l }) := by
            show Fi.Good _
            unfold Fi.set
            split
            · exact Fi.good_del HGD.out n
            · rename_i hne0
              exact Fi.good_put HGD.out HBN.out hne0 (page_bound HALL.out) (by omega)
          have HSE : Hid (∀ W v', Below w1.heap.size w1 W → StrsIn W (fun b => w1.heap.size ≤ b) v' l → Calls Try.prog 73 #[.pointer (some ⟨r, 0, none⟩), .string n, v'] W fun e w' => e = .returned (.tuple #[]) ∧ Ref w' ok r { st with fs := Fi.set st.fs n l } ∧ Turn (fun i => i = r) W (fun i => i = r) w') := fun W v' hb hv' => rset_ref n v' l W (HS.out.later hb) (hv'.of_new HOK.out) hl (fun i hi => HOK.out i (Nat.le_trans hb.size hi)) HGS.out
          generalize (Fi.rows st.fs n).length = R at *
          generalize Fi.used st.fs = U at *
          go_wp2_with fail
          refine wp_region_later (by kernel_rfl) (by kernel_rfl) ?_
          repeat (go_big_quiet_step (first | (go_at_call 22; exact Later.same (HU.out _)) | (go_at_call 72; exact Later.same (HP.out _))))
          refine wpQuiet_nil ?_
          intro w2 hw2
          obtain ⟨⟨w2, hb2⟩, rfl⟩ := hw2
          have HB2 : Hid (Below _ _ _) := hb2
          clear hb2 hd0 hne HU HP HNM
          have HV2 : Hid (Strs w2 _ l) := HV.out.later HB2.out
          go_wp2_with (at_builtin; refine wpList_copy_strs rfl _ _ 78 rfl 9 i0 Try.underlying78 hti hz0 hz1 hz2 rfl _ rfl l HV2.out (by omega) ?_)
          intro v3 w3 hown3 hb3
          have HB3 : Hid (Below w1.heap.size w1 w3) := bnext HB2.out hb3
          have HC : Hid (Calls _ _ _ _ _) := HSE.out w3 _ HB3.out ((StrsIn.of_own hown3).imp fun b' _ h' => Nat.le_trans HB2.out.size h')
          clear hown3 hb3 HSE
          go_wp2_with fail
          refine Calls.mono HC.out ?_
          rintro e w4 ⟨rfl, hr4, ht4⟩
          have H4 : Hid (_ ∧ _) := And.intro hr4 ((Turn.below (o := fun i => i = r) HB3.out).trans ht4)
          clear hr4 ht4 HC
          go_wp2
          go_ret
          exact ⟨by rw [HW.out]; rfl, by rw [HW.out]; exact H4.out.1, H4.out.2⟩

end Go.Proofs.Ytnlhgcpmmcmknaa
