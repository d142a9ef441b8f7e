/- CacheDrop: behind a Drop no page of that file is there, all others are as they were, and may be unpinned as often as they were pinned. For every number of pages, 1 to 9, at most 60 acts, and the name of one of the acts. -/
import Derived.Test.YtnlhgcpmmcmknabCDropM
namespace Go.Proofs.Ytnlhgcpmmcmknab
open Go.ChangeShapes Go.WideShapes Go.ChangeAt Go.RowKit Go.Maps

theorem Try.actInfo : (Try.prog.info? 31).map (fun i => (i.zero, i.size, i.bytes)) = some (some (.agg #[.int .u8 0, .string ⟨#[]⟩, .int .i64 0, .string ⟨#[]⟩, .int .u8 0]), 5, 56) := by kernel_rfl
def pcells (P : List Cd) : List Value := P.flatMap fun d => d.cells.toList
theorem pcells_snoc (P : List Cd) (d : Cd) : pcells P ++ d.cells.toList = pcells (P ++ [d]) := by simp [pcells]
theorem pcells_at (P : List Cd) (k t : Nat) (hk : k < P.length) (ht : t < 5) : (pcells P)[k * 5 + t]? = (P.getD k Cd.none).cells[t]? := by
  induction P generalizing k with
  | nil => simp at hk
  | cons d P ih =>
    have e : pcells (d :: P) = d.cells.toList ++ pcells P := by simp [pcells]
    rw [e]
    cases k with
    | zero =>
      rw [List.getElem?_append_left (by simp [Cd.cells]; omega)]
      simp
    | succ k =>
      rw [List.getElem?_append_right (by simp [Cd.cells]; omega)]
      have := ih k (by simpa using hk)
      rw [show (k + 1) * 5 + t - d.cells.toList.length = k * 5 + t by simp [Cd.cells]; omega, this]
      simp
theorem RowBy.act {w W : World} {o : Nat → Prop} {v : Value} {P : List Cd} (h : RowBy w W o 31 5 v P.length (pcells P)) {k : Nat} (hk : k < P.length) : ∃ b cap, v = .slice (some ⟨b, 0, none⟩) P.length cap ∧ CdAt W b (k * 5) (P.getD k Cd.none) := by
  obtain ⟨g, cap, hv, _, _⟩ := h.own.form (by omega)
  have ho := h.own
  rw [hv] at ho
  have hc : ∀ t, t < 5 → W.cell? ⟨g, k * 5 + t, none⟩ = (P.getD k Cd.none).cells[t]? := fun t ht => by
    rw [ho.cellAt (k * 5 + t) (by omega), pcells_at P k t hk ht]
  exact ⟨g, cap, hv, ⟨hc 0 (by omega), hc 1 (by omega), hc 2 (by omega), hc 3 (by omega), hc 4 (by omega)⟩⟩
theorem RowBy.shapeA {w W : World} {o : Nat → Prop} {v : Value} {e size n : Nat} {xs : List Value} (h : RowBy w W o e size v n xs) : ∃ a cap, v = .slice a n cap := by
  rcases h.own.2 with ⟨rfl, rfl⟩ | ⟨g, cap, cur, rfl, _⟩
  · exact ⟨none, 0, rfl⟩
  · exact ⟨_, cap, rfl⟩
theorem CIn.wider {w W W' : World} {c p u : Nat} {o : Nat → Prop} {st : Ca.St} (h : CIn W W' c p o st u) (hb : Below w.heap.size w W) : CIn w W' c p o st u :=
  ⟨h.sys, bnext hb h.below, fun i hi => Nat.le_trans hb.size (h.new i hi)⟩
theorem one_cells (d : Cd) : ∀ u ∈ d.cells.toList, u.oneCell' = true := by
  intro u hu
  simp [Cd.cells] at hu
  rcases hu with rfl | rfl | rfl | rfl | rfl <;> rfl

set_option maxRecDepth 100000 in
set_option maxHeartbeats 8000000 in
theorem cacheDrop_walk (r0 : Int) (v : Value) (l : List Cd) (r2 : Int) (w : World) (hr0 : (Lit.int .u8 r0).wf = true) (h : CActs w v l) (hl : l.length ≤ 9223372036854775807) (hr2 : (Lit.int .u8 r2).wf = true) :
    Calls Try.prog 3 #[.int .u8 r0, v, .int .u8 r2] w fun e w' => e = .returned (.bool true) ∧ Below w.heap.size w w' := by
  obtain ⟨R, rfl, hR⟩ := wf_u8 hr0
  obtain ⟨V, rfl, hV⟩ := wf_u8 hr2
  clear hr0 hr2
  have HG : Hid (Calls _ _ _ _ _) := greatCd_any v l 60 w h hl (by decide)
  have HD : Hid (∀ W, Calls _ _ _ _ _) := fun W => cdoes_any W
  cases hf : fewCd l 60 with
  | false =>
    rw [hf] at HG
    obtain ⟨a, cap, rfl, _, _⟩ := h
    clear hf
    generalize l.length = m at *
    go_enter Try.func3, Try.ntmps3
    go_wp2_with fail
    refine Calls.mono HG.out ?_
    rintro e w1 ⟨rfl, rfl⟩
    go_wp2_with fail
    refine (HD.out _).mono ?_
    rintro e w2 ⟨rfl, hb2⟩
    have HB2 : Hid (Below _ _ _) := hb2
    clear hb2
    go_wp2
    go_ret
    exact ⟨rfl, HB2.out⟩
  | true =>
    rw [hf] at HG
    obtain ⟨hlen, heach⟩ := few_cd hf
    by_cases h0 : l.length = 0
    · obtain ⟨a, cap, rfl, _, _⟩ := h
      rw [h0]
      rw [h0] at HG
      clear hf hlen heach hl h0
      go_enter Try.func3, Try.ntmps3
      go_wp2_with fail
      refine Calls.mono HG.out ?_
      rintro e w1 ⟨rfl, rfl⟩
      go_wp2_with fail
      refine (HD.out _).mono ?_
      rintro e w2 ⟨rfl, hb2⟩
      have HB2 : Hid (Below _ _ _) := hb2
      clear hb2
      go_wp2
      go_ret
      exact ⟨rfl, HB2.out⟩
    · have HMD : Hid (∀ W, Calls _ _ _ _ _) := fun W => made_any R hR W
      generalize R % 9 = q at HMD
      have HDN : Hid (∀ k, k < l.length → CdOk (l.getD k Cd.none) ∧ (l.getD k Cd.none).name.size ≤ 40 ∧ (l.getD k Cd.none).data.size ≤ 400) := fun k hk => ⟨h.ok hk, heach _ (getD_cd hk)⟩
      obtain ⟨a, cap, rfl, hcap, hv⟩ := h
      have HCV : Hid (∀ k, k < l.length → ∃ b off, a = some ⟨b, off, none⟩ ∧ ∀ W, Below w.heap.size w W → CdAt W b (off + k * 5) (l.getD k Cd.none)) := by
        intro k hk
        rcases hv with hv | ⟨b, off, rfl, hv⟩
        · rw [hv] at hk; simp at hk
        · exact ⟨b, off, rfl, fun W hb => (hv k hk).1.later hb⟩
      clear hv heach hf hl
      obtain ⟨DD, HDD⟩ : ∃ DD : Nat → Cd, Hid (∀ k, l.getD k Cd.none = DD k) := ⟨_, fun _ => rfl⟩
      simp only [HDD.out] at HDN HCV
      clear HDD
      generalize l.length = m at *
      unfold at_ at HMD
      have hm0 : ((m : Int) == 0) = false := by simp; omega
      go_enter Try.func3, Try.ntmps3
      go_wp2_with fail
      refine Calls.mono HG.out ?_
      rintro e w1 ⟨rfl, rfl⟩
      go_wp2_with fail
      refine (HMD.out _).mono ?_
      rintro e w2 ⟨c, p, o, rfl, h2⟩
      have F1 : Hid (CIn w1 w2 c p o ⟨1 + q, ⟨60, -1, []⟩, []⟩ 0) := h2
      clear h2 HG
      go_wp2
      go_loopw [7, 8, 9] (fun y v x wr => ∃ (k c p : Nat) (o : Nat → Prop) (st : Ca.St) (u : Nat) (P : List Cd), k ≤ m ∧ x = .int .i64 k ∧ y = .pointer (some ⟨c, 0, none⟩) ∧ u ≤ k ∧ P.length ≤ k ∧ Hid (Pinned st P) ∧ Hid (∀ d ∈ P, CdOk d ∧ d.name.size ≤ 40) ∧ Hid (RowBy w1 wr o 31 5 v P.length (pcells P)) ∧ Hid (CIn w1 wr c p o st u)) (fun _ _ x _ => m - (intOf x).toNat)
      case atStart => exact ⟨0, c, p, o, _, 0, [], Nat.zero_le _, rfl, rfl, Nat.le_refl _, Nat.le_refl _, Pinned.new _, (fun d hd => by cases hd), RowBy.nil, F1⟩
      case round =>
        clear F1
        obtain ⟨k, c, p, o1, st, u, P, hk, rfl, rfl, hu, hP, HPN, HPO, RW, F⟩ := hrel
        obtain ⟨pa, pcap, rfl⟩ := RW.out.shapeA
        by_cases hlt : k < m
        · obtain ⟨b, off, rfl, hat⟩ := HCV.out k hlt
          obtain ⟨hok, hsm⟩ := HDN.out k hlt
          have hd := hat wr F.out.below
          have c0 := hd.c0
          have c1 := hd.c1
          have c2 := hd.c2
          have c3 := hd.c3
          have c4 := hd.c4
          have HAT : Hid (∀ W, Below w1.heap.size w1 W → CdAt W b (off + k * 5) (DD k)) := hat
          have HOK : Hid (CdOk (DD k) ∧ (DD k).name.size ≤ 40 ∧ (DD k).data.size ≤ 400) := ⟨hok, hsm⟩
          clear hd hat hok hsm
          generalize DD k = d at *
          have HDO : Hid (Calls _ _ _ _ _) := F.out.doneT d HOK.out.1 HOK.out.2 (by omega)
          have HPA : Hid (Fi.Good (actC st d).2.2.fs → d.kind % 10 ≠ 3 → d.kind % 10 ≠ 5 → Pinned (actC st d).2.2 (if d.kind % 10 = 2 ∧ (actC st d).2.1 = 0 then P ++ [d] else P)) := fun h1 h2 h3 => HPN.out.act F.out.apartL F.out.good d h1 h2 h3
          have hkd := HOK.out.1.kind
          unfold at_ Cd.cells at HDO
          generalize (actC st d).1 = sa at *
          generalize (actC st d).2.1 = ae at *
          generalize (actC st d).2.2 = st2 at *
          obtain ⟨r, hr, hr10, hrn⟩ : ∃ r : Nat, (d.kind : Int) % 10 = r ∧ r < 10 ∧ d.kind % 10 = r := ⟨d.kind % 10, by omega, by omega, rfl⟩
          rw [hrn] at HPA
          clear hrn
          go_wp2_with fail
          refine Calls.mono HDO.out ?_
          rintro e w5 ⟨o5, u5, hu5, rfl, h5, ht5⟩
          have F5 : Hid (CIn w1 w5 c p o5 st2 u5) := h5
          have R5 : Hid (RowBy w1 w5 o5 31 5 (.slice pa P.length pcap) P.length (pcells P)) := RW.out.turn ht5
          have HPB : Hid (r ≠ 3 → r ≠ 5 → Pinned st2 (if r = 2 ∧ ae = 0 then P ++ [d] else P)) := HPA.out F5.out.good
          clear h5 ht5 HDO F RW c0 c1 c2 c3 c4 HPA HPN
          have c0 := (HAT.out w5 F5.out.below).c0
          have HCASE : (r = 2 ∧ ae = 0) ∨ (r = 2 ∧ ae ≠ 0) ∨ r = 3 ∨ r = 5 ∨ (r ≠ 2 ∧ r ≠ 3 ∧ r ≠ 5) := by omega
          rcases HCASE with ⟨rfl, rfl⟩ | ⟨rfl, hae⟩ | rfl | rfl | ⟨h2, h3, h5⟩
          · have HP2 : Hid (Pinned st2 (P ++ [d])) := HPB.out (by decide) (by decide)
            have HO2 : Hid (∀ e ∈ P ++ [d], CdOk e ∧ e.name.size ≤ 40) := fun e he => by
              rcases List.mem_append.1 he with he | he
              · exact HPO.out e he
              · obtain rfl : e = d := by simpa using he
                exact ⟨HOK.out.1, HOK.out.2.1⟩
            have c1 := (HAT.out w5 F5.out.below).c1
            have c2 := (HAT.out w5 F5.out.below).c2
            have c3 := (HAT.out w5 F5.out.below).c3
            have c4 := (HAT.out w5 F5.out.below).c4
            have BR : Hid (Below w5.heap.size w5 (w5.alloc (.cells d.cells 31))) := (Below.refl _ w5).alloc (Nat.le_refl _) _
            have hsz := F5.out.below.size
            obtain ⟨i0, hti, hz0, hz1, hz2⟩ := info_parts Try.actInfo
            clear HPB
            go_wp2_with (at_builtin; refine wpList_append_lies _ rfl _ _ 22 rfl w1.heap.size 31 i0 (.agg #[.int .u8 0, .string ⟨#[]⟩, .int .i64 0, .string ⟨#[]⟩, .int .u8 0]) 5 56 Try.underlying22 hti hz0 hz1 hz2 rfl (by decide) _ P.length (pcells P) rfl ((R5.out.later BR.out).own) ⟨w5.heap.size, 0, none⟩ 1 1 d.cells.toList rfl rfl (World.news_of_block (cs := d.cells) (t := 31) (fr := (0, 0)) (heap_alloc_new w5 _)) (one_cells d) (by omega) (by unfold maxLen; omega) (by omega) (by simp; omega) _ rfl ?_)
            intro g7 cap7 w7 hown7 hgrow7 hat7 hlt7
            have F7 : Hid (CIn w1 w7 c p o5 st2 u5) := (F5.out.later BR.out).grown (R5.out.later BR.out) hgrow7
            have R7 : Hid (RowBy w1 w7 o5 31 5 (.slice (some ⟨g7, 0, none⟩) (P.length + 1) cap7) (P ++ [d]).length (pcells (P ++ [d]))) := by
              have := RowBy.grown (F5.out.later BR.out) (R5.out.later BR.out) hown7 (hat7.imp id fun h => by simpa using h)
              rw [List.length_append, ← pcells_snoc]
              exact this
            clear hown7 hgrow7 hat7 hlt7 F5 R5 BR c0 c1 c2 c3 c4 hsz
            have c0 := (HAT.out w7 F7.out.below).c0
            go_wp2
            go_roundw
            case rel => exact ⟨k + 1, c, p, o5, st2, u5, P ++ [d], by omega, by go_num, rfl, by omega, by simp; omega, HP2, HO2, R7, F7⟩
            case measure => simp [intOf]; omega
          · have HP2 : Hid (Pinned st2 P) := by
              have := HPB.out (by decide) (by decide)
              rw [if_neg (fun e => hae e.2)] at this
              exact this
            have hab : (ae == 0) = false := by simpa using hae
            clear HPB
            go_wp2
            go_roundw
            case rel => exact ⟨k + 1, c, p, o5, st2, u5, P, by omega, by go_num, rfl, by omega, by omega, HP2, HPO, R5, F5⟩
            case measure => simp [intOf]; omega
          · clear HPB R5
            go_wp2_with fail
            refine (HMD.out _).mono ?_
            rintro e w6 ⟨c6, p6, o6, rfl, h6⟩
            have F6 : Hid (CIn w1 w6 c6 p6 o6 ⟨1 + q, ⟨60, -1, []⟩, []⟩ 0) := h6.wider F5.out.below
            clear h6 F5 c0
            go_wp2
            go_roundw
            case rel => exact ⟨k + 1, c6, p6, o6, _, 0, [], by omega, by go_num, rfl, by omega, Nat.zero_le _, Pinned.new _, (fun d hd => by cases hd), RowBy.nil, F6⟩
            case measure => simp [intOf]; omega
          · clear HPB R5
            go_wp2_with fail
            refine (HMD.out _).mono ?_
            rintro e w6 ⟨c6, p6, o6, rfl, h6⟩
            have F6 : Hid (CIn w1 w6 c6 p6 o6 ⟨1 + q, ⟨60, -1, []⟩, []⟩ 0) := h6.wider F5.out.below
            clear h6 F5 c0
            go_wp2
            go_roundw
            case rel => exact ⟨k + 1, c6, p6, o6, _, 0, [], by omega, by go_num, rfl, by omega, Nat.zero_le _, Pinned.new _, (fun d hd => by cases hd), RowBy.nil, F6⟩
            case measure => simp [intOf]; omega
          · have HP2 : Hid (Pinned st2 P) := by
              have := HPB.out h3 h5
              rw [if_neg (fun e => h2 e.1)] at this
              exact this
            have h2b : ((r : Int) == 2) = false := by simp; omega
            have h3b : ((r : Int) == 3) = false := by simp; omega
            have h5b : ((r : Int) == 5) = false := by simp; omega
            clear HPB
            go_wp2
            go_roundw
            case rel => exact ⟨k + 1, c, p, o5, st2, u5, P, by omega, by go_num, rfl, by omega, by omega, HP2, HPO, R5, F5⟩
            case measure => simp [intOf]; omega
        · obtain rfl : k = m := by omega
          obtain ⟨t, ht, htm, htn⟩ : ∃ t : Nat, (V : Int) % (k : Int) = t ∧ t < k ∧ V % k = t := ⟨V % k, by omega, Nat.mod_lt _ (by omega), rfl⟩
          clear htn
          obtain ⟨b, off, rfl, hat⟩ := HCV.out t htm
          have c1 := (hat wr F.out.below).c1
          have HNM : Hid ((DD t).name.size ≤ 40) := (HDN.out t htm).2.1
          clear hat HCV HDN
          generalize (DD t).name = nm at *
          obtain ⟨C, C0, CS, CE, CL⟩ : ∃ C : Nat → Nat, C 0 = 0 ∧ Hid (∀ i, C (i + 1) = C i + if Ca.has st.l nm i = true then 1 else 0) ∧ Hid ((Ca.drop st nm).l.length + C 100 = st.l.length) ∧ Hid (∀ i, C i ≤ i) := by
            refine ⟨fun i => (List.range i).countP fun j : Nat => Ca.has st.l nm j, rfl, fun i => ?_, ?_, fun i => ?_⟩
            · show (List.range (i + 1)).countP _ = _
              rw [List.range_succ, List.countP_append]
              simp [List.countP_cons]
            · have h1 := Ca.drop_length st nm
              rw [← Ca.count_has F.out.apartL HPN.out.in60] at h1
              exact h1
            · have := List.countP_le_length (p := fun j : Nat => Ca.has st.l nm j) (l := List.range i)
              rwa [List.length_range] at this
          have S0 : Hid (Value.int .i64 0 = .int .i64 (C 0)) := by show _ = _; rw [C0]; rfl
          clear C0
          go_wp2
          clear ht hm0
          go_loopw [13, 14] (fun g x wr => ∃ i : Nat, i ≤ 100 ∧ x = .int .i64 i ∧ Hid (g = .int .i64 (C i)) ∧ Hid (RowBy w1 wr o1 31 5 (.slice pa P.length pcap) P.length (pcells P)) ∧ Hid (CIn w1 wr c p o1 st u)) (fun _ x _ => 100 - (intOf x).toNat)
          case atStart => exact ⟨0, Nat.zero_le _, rfl, S0, RW, F⟩
          case round =>
            clear S0 RW F c1
            obtain ⟨i, hi, rfl, HGO, RW, F⟩ := hrel
            have HGO2 := HGO.out
            subst HGO2
            clear HGO
            have hCi := CL.out i
            by_cases hlt3 : i < 100
            · have HH : Hid (Calls _ _ _ _ _) := F.out.has nm i ⟨by have := HNM.out; unfold maxLen; omega, by omega, by omega⟩
              have hcs := CS.out i
              unfold at_ at HH
              cases hb : Ca.has st.l nm i with
              | true =>
                rw [hb] at HH hcs
                rw [if_pos rfl] at hcs
                have HCS : Hid (C (i + 1) = C i + 1) := hcs
                clear hcs hb
                go_wp2_with fail
                refine Calls.mono HH.out ?_
                rintro e w6 ⟨rfl, hb6⟩
                have F6 : Hid (CIn w1 w6 c p o1 st u) := F.out.later hb6
                have R6 : Hid (RowBy w1 w6 o1 31 5 (.slice pa P.length pcap) P.length (pcells P)) := RW.out.later hb6
                clear hb6 HH F RW
                go_wp2
                go_roundw
                case rel => exact ⟨i + 1, by omega, by go_num, (by show _ = _; rw [HCS.out]; go_num), R6, F6⟩
                case measure => simp [intOf]; omega
              | false =>
                rw [hb] at HH hcs
                rw [if_neg (by decide)] at hcs
                have HCS : Hid (C (i + 1) = C i) := hcs
                clear hcs hb
                go_wp2_with fail
                refine Calls.mono HH.out ?_
                rintro e w6 ⟨rfl, hb6⟩
                have F6 : Hid (CIn w1 w6 c p o1 st u) := F.out.later hb6
                have R6 : Hid (RowBy w1 w6 o1 31 5 (.slice pa P.length pcap) P.length (pcells P)) := RW.out.later hb6
                clear hb6 HH F RW
                go_wp2
                go_roundw
                case rel => exact ⟨i + 1, by omega, by go_num, (by show _ = _; rw [HCS.out]), R6, F6⟩
                case measure => simp [intOf]; omega
            · obtain rfl : i = 100 := by omega
              rw [show ((100 : Nat) : Int) = 100 from rfl]
              have hmost := F.out.most.2
              have HLN : Hid (Calls _ _ _ _ _) := F.out.len
              have HDR : Hid (Calls _ _ _ _ _) := F.out.dropT nm
              have hce := CE.out
              have HLS : Hid (Left (Ca.drop st nm) nm (P.drop 0)) := Left.start HPN.out nm
              generalize Ca.drop st nm = st3 at *
              obtain ⟨n3, hn3⟩ : ∃ n3, st3.l.length = n3 := ⟨_, rfl⟩
              rw [hn3] at hce
              have HN3 : Hid (st3.l.length = n3) := hn3
              generalize st.l.length = L at *
              generalize C 100 = G at *
              obtain rfl : L = n3 + G := hce.symm
              have hn64 : n3 + G ≤ 64 := by omega
              have en : ((n3 + G : Nat) : Int) - (G : Int) = n3 := by omega
              clear hn3 hlt3 hi CS CE CL hce hmost
              unfold at_ at HLN HDR
              go_wp2_with fail
              refine Calls.mono HLN.out ?_
              rintro e w6 ⟨rfl, rfl⟩
              clear HLN
              go_wp2_with fail
              refine Calls.mono HDR.out ?_
              rintro e w7 ⟨o7, rfl, h7, ht7⟩
              have F7 : Hid (CIn w1 w7 c p o7 st3 u) := h7
              have R7 : Hid (RowBy w1 w7 o7 31 5 (.slice pa P.length pcap) P.length (pcells P)) := RW.out.turn ht7
              clear h7 ht7 HDR F RW
              have HLN : Hid (Calls Try.prog 9 #[at_ c] w7 fun e w' => e = .returned (.int .i64 n3) ∧ w' = w7) := by
                have := F7.out.len
                rw [HN3.out] at this
                exact this
              unfold at_ at HLN
              go_wp2_with fail
              refine Calls.mono HLN.out ?_
              rintro e w8 ⟨rfl, rfl⟩
              clear HLN HN3
              go_wp2
              clear en
              go_loopw [16] (fun x wr => ∃ (j : Nat) (o : Nat → Prop) (st : Ca.St), j ≤ P.length ∧ x = .int .i64 j ∧ Hid (Left st nm (P.drop j)) ∧ Hid (RowBy w1 wr o 31 5 (.slice pa P.length pcap) P.length (pcells P)) ∧ Hid (CIn w1 wr c p o st u)) (fun x _ => P.length - (intOf x).toNat)
              case atStart => exact ⟨0, o7, st3, Nat.zero_le _, rfl, HLS, R7, F7⟩
              case round =>
                clear HLS R7 F7
                obtain ⟨j, o8, st8, hj, rfl, HLS, R8, F8⟩ := hrel
                by_cases hjl : j < P.length
                · obtain ⟨pb, pc, e, hcd⟩ := R8.out.act hjl
                  simp only [Value.slice.injEq] at e
                  obtain ⟨rfl, _, rfl⟩ := e
                  have hPd := HPO.out (P.getD j Cd.none) (getD_cd hjl)
                  have HKY : Hid (KeyOk (P.getD j Cd.none).name (P.getD j Cd.none).i) := ⟨by have := hPd.2; unfold maxLen; omega, hPd.1.i1, hPd.1.i2⟩
                  have HKZ : Hid (KeyOk nm (P.getD j Cd.none).i) := ⟨by have := HNM.out; unfold maxLen; omega, hPd.1.i1, hPd.1.i2⟩
                  have F8d : Hid (CIn w1 wr.drew c p o8 st8 u) := F8.out.later (Below.refl _ _).drew
                  have hcd2 := (R8.out.later (Below.refl _ _).drew).act hjl
                  obtain ⟨pb2, pc2, e, hcd2⟩ := hcd2
                  simp only [Value.slice.injEq, Option.some.injEq, Addr.mk.injEq, and_true, true_and] at e
                  obtain ⟨rfl, rfl⟩ := e
                  have c1 := hcd.c1
                  have c2 := hcd.c2
                  have d1 := hcd2.c1
                  have d2 := hcd2.c2
                  clear hcd hcd2 hPd
                  by_cases hnm : (P.getD j Cd.none).name = nm
                  · obtain ⟨hun, hlf⟩ := HLS.out.same hjl hnm
                    have HU : Hid (Calls _ _ _ _ _) := F8d.out.unpinT (P.getD j Cd.none).name (P.getD j Cd.none).i (by omega) HKY.out hun
                    have HL2 : Hid (Left st8 nm (P.drop (j + 1))) := hlf
                    have R8d : Hid (RowBy w1 wr.drew o8 31 5 (.slice (some ⟨pb, 0, none⟩) P.length pcap) P.length (pcells P)) := R8.out.later (Below.refl _ _).drew
                    have HCC : Hid (∀ W o, RowBy w1 W o 31 5 (.slice (some ⟨pb, 0, none⟩) P.length pcap) P.length (pcells P) → CdAt W pb (j * 5) (P.getD j Cd.none)) := fun W o h => by
                      obtain ⟨b2, c2, e, h2⟩ := h.act hjl
                      simp only [Value.slice.injEq, Option.some.injEq, Addr.mk.injEq, and_true, true_and] at e
                      obtain ⟨rfl, rfl⟩ := e
                      exact h2
                    clear hun hlf HLS R8 F8 F8d
                    generalize P.getD j Cd.none = D at *
                    rw [hnm] at HU c1 d1
                    have HNN : Hid (D.name = nm) := hnm
                    clear hnm
                    unfold at_ at HU
                    have hself : (nm.toList == nm.toList) = true := by simp
                    go_wp2_with fail
                    go_region_law
                      (first
                      | (go_simp; go_at_call 11; refine Calls.mono HU.out ?_; rintro e w9 ⟨o9, rfl, h9, ht9⟩; have F9 : Hid (CIn _ _ _ _ _ _ _) := h9; have R9 : Hid (RowBy _ _ _ _ _ _ _ _) := R8d.out.turn ht9; clear h9 ht9)
                      | fail)
                    all_goals
                      clear c1 c2 d1 d2 HU
                      have c1 := (HCC.out _ _ R9.out).c1
                      have c2 := (HCC.out _ _ R9.out).c2
                      rw [HNN.out] at c1
                      have HHA : Hid (Calls Try.prog 8 #[.pointer (some ⟨c, 0, none⟩), .string nm, .int .i64 D.i] w9 fun e w' => e = .returned (.bool false) ∧ Below w9.heap.size w9 w') := by
                        have := F9.out.has nm D.i HKZ.out
                        rw [HL2.out.hasNo D.i] at this
                        exact this
                      go_wp2_with fail
                      refine Calls.mono HHA.out ?_
                      rintro e w11 ⟨rfl, hb11⟩
                      have F11 : Hid (CIn _ _ _ _ _ _ _) := F9.out.later hb11
                      have R11 : Hid (RowBy _ _ _ _ _ _ _ _) := R9.out.later hb11
                      clear hb11 HHA F9 R9 c1 c2
                      go_wp2
                      go_roundw
                      case rel => exact ⟨j + 1, o9, st8, by omega, by go_num, HL2, R11, F11⟩
                      case measure => simp [intOf]; omega
                  · obtain ⟨hun, hlf⟩ := HLS.out.other hjl hnm
                    have HU : Hid (Calls Try.prog 11 #[at_ c, .string (P.getD j Cd.none).name, .int .i64 (P.getD j Cd.none).i] wr.drew fun e w' => ∃ o', e = .returned (.int .i64 0) ∧ CIn w1 w' c p o' (Ca.unpin st8 (P.getD j Cd.none).name (P.getD j Cd.none).i).2 u ∧ Turn o8 wr.drew o' w') := by
                      have := F8d.out.unpinT (P.getD j Cd.none).name (P.getD j Cd.none).i (by omega) HKY.out rfl
                      rw [hun] at this
                      exact this
                    have HL2 : Hid (Left (Ca.unpin st8 (P.getD j Cd.none).name (P.getD j Cd.none).i).2 nm (P.drop (j + 1))) := hlf
                    have R8d : Hid (RowBy w1 wr.drew o8 31 5 (.slice (some ⟨pb, 0, none⟩) P.length pcap) P.length (pcells P)) := R8.out.later (Below.refl _ _).drew
                    have HCC : Hid (∀ W o, RowBy w1 W o 31 5 (.slice (some ⟨pb, 0, none⟩) P.length pcap) P.length (pcells P) → CdAt W pb (j * 5) (P.getD j Cd.none)) := fun W o h => by
                      obtain ⟨b2, c2, e, h2⟩ := h.act hjl
                      simp only [Value.slice.injEq, Option.some.injEq, Addr.mk.injEq, and_true, true_and] at e
                      obtain ⟨rfl, rfl⟩ := e
                      exact h2
                    clear hun hlf HLS R8 F8 F8d
                    generalize P.getD j Cd.none = D at *
                    generalize (Ca.unpin st8 D.name D.i).2 = st9 at *
                    have hself : (D.name.toList == nm.toList) = false := text_ne hnm
                    clear hnm
                    unfold at_ at HU
                    go_wp2_with fail
                    go_region_law
                      (first
                      | (go_simp; go_at_call 11; refine Calls.mono HU.out ?_; rintro e w9 ⟨o9, rfl, h9, ht9⟩; have F9 : Hid (CIn _ _ _ _ _ _ _) := h9; have R9 : Hid (RowBy _ _ _ _ _ _ _ _) := R8d.out.turn ht9; clear h9 ht9)
                      | fail)
                    all_goals
                      clear c1 c2 d1 d2 HU
                      have c1 := (HCC.out _ _ R9.out).c1
                      have c2 := (HCC.out _ _ R9.out).c2
                      have HHA : Hid (Calls Try.prog 8 #[.pointer (some ⟨c, 0, none⟩), .string nm, .int .i64 D.i] w9 fun e w' => e = .returned (.bool false) ∧ Below w9.heap.size w9 w') := by
                        have := F9.out.has nm D.i HKZ.out
                        rw [HL2.out.hasNo D.i] at this
                        exact this
                      go_wp2_with fail
                      refine Calls.mono HHA.out ?_
                      rintro e w11 ⟨rfl, hb11⟩
                      have F11 : Hid (CIn _ _ _ _ _ _ _) := F9.out.later hb11
                      have R11 : Hid (RowBy _ _ _ _ _ _ _ _) := R9.out.later hb11
                      clear hb11 HHA F9 R9 c1 c2
                      go_wp2
                      go_roundw
                      case rel => exact ⟨j + 1, o9, st9, by omega, by go_num, HL2, R11, F11⟩
                      case measure => simp [intOf]; omega
                · obtain rfl : j = P.length := by omega
                  have HP0 : Hid (Calls Try.prog 12 #[at_ c] wr fun e w' => e = .returned (.int .i64 0) ∧ Below wr.heap.size wr w') := by
                    have h1 := F8.out.pinned
                    have h2 := HLS.out
                    rw [List.drop_length] at h2
                    rw [h2.done F8.out.apartL] at h1
                    exact h1
                  unfold at_ at HP0
                  go_wp2_with fail
                  refine Calls.mono HP0.out ?_
                  rintro e w9 ⟨rfl, hb9⟩
                  have HB9 : Hid (Below _ _ _) := bnext F8.out.below hb9
                  clear hb9 HP0
                  go_wp2_with fail
                  refine (HD.out _).mono ?_
                  rintro e w10 ⟨rfl, hb10⟩
                  have HBa : Hid (Below _ _ _) := bnext HB9.out hb10
                  clear hb10
                  go_wp2
                  go_ret
                  exact ⟨rfl, HBa.out⟩

set_option maxRecDepth 100000 in
theorem cacheDrop_lifted (os : Os) (started : os.Started) (H : Type) (enc : TypeId × Value → H) :
    ReturnsInHanded {} Try.checked os 3 .any (Rows.cacheDropSpec.pre6 enc Try.prog Try.f3 Rows.cacheDropRow.domain false) (Rows.cacheDropSpec.post enc Try.prog Try.f3 false true false false) := by
  refine returnsInHanded_of_change (C := Try.checked) Try.own started (by kernel_rfl) Try.func3
    (ChangeSpec.witness6 (enc := enc) (C := Try.checked) false ⟨#[], #[.int .u8 0, .slice none 0 0, .int .u8 0], []⟩ 8 (by kernel_rfl) (by kernel_rfl) (by kernel_rfl) (by kernel_rfl)) ?_
  intro W base args ds gs before hval0 hW hcnd _
  have hval : ∀ (j : Nat) t v, Try.f3.params[j]? = some t → args[j]? = some v → Value.okWide Try.prog W .any base t v := hval0
  have hW' := hW
  obtain ⟨p, q, hA0, hV, rfl, hfz, hnd⟩ := hW
  have hA : DataW.TrodAll enc Try.prog W 0 (fun _ => true) true Try.f3.params.toList args.toList ds p := hA0
  rw [Try.params3] at hA hval
  obtain ⟨v0, vs0, d0, ds0, p0, q0, hargs, rfl, rfl, h0, r0⟩ := trodAll_cons hA
  obtain ⟨v1, vs1, d1, ds1, p1, q1, rfl, rfl, rfl, h1, r1⟩ := trodAll_cons r0
  obtain ⟨v2, vs2, d2, ds2, p2, q2, rfl, rfl, rfl, h2, r2⟩ := trodAll_cons r1
  obtain ⟨rfl, rfl, rfl⟩ := trodAll_nil r2
  obtain rfl : args = #[v0, v1, v2] := by cases args; simp_all
  obtain ⟨rfl, rfl⟩ := trodVars_none hV
  obtain ⟨a0, rfl, rfl, rfl, w0⟩ := open_int Try.underlying5 (hval 0 5 v0 rfl rfl) h0
  have lt1 : ∀ x ∈ p1, x.block < W.heap.size := by obtain ⟨m, hm⟩ := h1; exact DataW.trod_lt m _ _ _ hm
  obtain ⟨l1, k1, n1⟩ := open_cacts (hval 1 22 v1 rfl rfl) h1
  obtain ⟨a2, rfl, rfl, rfl, w2⟩ := open_int Try.underlying5 (hval 2 5 v2 rfl rfl) h2
  clear hA0 hval0
  refine (cacheDrop_walk a0 v1 l1 a2 W w0 k1 n1 w2).mono fun e W' ⟨he, bel⟩ => ?_
  subst he
  exact ⟨_, rfl, _, _, _, [], _, [], hW', trodAll_mk1 (shut_bool Try.underlying4 _), (trodAll_cons_mk (shut_int Try.underlying5 w0) (trodAll_cons_mk (Below.trod Try.laidOut (by kernel_rfl) (of_decide_eq_true (by kernel_rfl)) h1 bel lt1) (trodAll_cons_mk (shut_int Try.underlying5 w2) trodAll_mk0))), rfl, bel.frame _, fun h => by cases h⟩

theorem cacheDrop_holds : Rows.CacheDropSaid :=
  OpenClaim.holds_of_wide 3 Try.f3 rfl rfl rfl rfl rfl rfl rfl ⟨rfl, rfl, rfl, rfl, rfl⟩ rfl rfl rfl rfl rfl (by kernel_rfl) Try.func3 (by kernel_rfl)
    (of_decide_eq_true (by kernel_rfl)) (by unfold Func.isWrapper; first | (rw [if_pos (by decide +kernel)]; kernel_rfl) | (rw [if_neg (by decide +kernel)]; exact ⟨rfl, rfl⟩))
    (fun os started H enc _ => cacheDrop_lifted os started H enc)

end Go.Proofs.Ytnlhgcpmmcmknab
