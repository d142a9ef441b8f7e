/- CacheOldest: of pages that are got one behind the other just the last ones are there, as many as may be; got again, they are not read. For every number of pages, 1 to 9, and at most 40 that are got, of 12. -/
import Derived.Test.YtnlhgcpmmcmknaaCOldM
namespace Go.Proofs.Ytnlhgcpmmcmknaa
open Go.ChangeShapes Go.WideShapes Go.ChangeAt Go.RowKit Go.Maps

theorem Try.oInt : (Try.prog.info? 3).map (fun i => (i.zero, i.size, i.bytes)) = some (some (.int .i64 0), 1, 8) := by kernel_rfl
def nums (l : List Nat) : List Value := l.map fun k : Nat => Value.int .i64 (k : Int)
theorem nums_length (l : List Nat) : (nums l).length = l.length := by unfold nums; exact List.length_map _
theorem RowBy.num {w W : World} {o : Nat → Prop} {v : Value} {l : List Nat} (h : RowBy w W o 3 1 v l.length (nums l)) {j : Nat} (hj : j < l.length) : ∃ b cap, v = .slice (some ⟨b, 0, none⟩) l.length cap ∧ W.cell? ⟨b, j, none⟩ = some (.int .i64 (l.getD j 0 : Nat)) := by
  obtain ⟨g, cap, hv, _, _⟩ := h.own.form (by omega)
  have ho := h.own
  rw [hv] at ho
  refine ⟨g, cap, hv, ?_⟩
  rw [ho.cellAt j (by omega)]
  unfold nums
  rw [List.getElem?_map, List.getElem?_eq_getElem hj, List.getD_eq_getElem?_getD, List.getElem?_eq_getElem hj]; rfl
theorem RowBy.shape {w W : World} {o : Nat → Prop} {v : Value} {e size n : Nat} {xs : List Value} (h : RowBy w W o e size v n xs) : ∃ a cap, v = .slice a n cap := by
  rcases h.own.2 with ⟨rfl, rfl⟩ | ⟨g, cap, cur, rfl, _⟩
  · exact ⟨none, 0, rfl⟩
  · exact ⟨_, cap, rfl⟩

set_option maxRecDepth 100000 in
set_option maxHeartbeats 8000000 in
theorem cacheOldest_walk (r0 : Int) (v : Value) (l : List UInt8) (w : World) (hr0 : (Lit.int .u8 r0).wf = true) (h : Bts w v l) (hl : l.length ≤ 9223372036854775807) :
    Calls Try.prog 7 #[.int .u8 r0, v] w fun e w' => e = .returned (.bool true) ∧ Below w.heap.size w w' := by
  obtain ⟨R, rfl, hR⟩ := wf_u8 hr0
  clear hr0
  have HD : Hid (∀ W, Calls _ _ _ _ _) := fun W => cdoes_any W
  have HMD : Hid (Calls _ _ _ _ _) := made_any R hR w
  obtain ⟨q, hq, hq9, hqn⟩ : ∃ q : Nat, (R : Int) % 9 = q ∧ q < 9 ∧ R % 9 = q := ⟨R % 9, by omega, by omega, rfl⟩
  rw [hqn] at HMD
  clear hqn
  obtain ⟨a, cap, rfl, hcap, hv⟩ := h
  have HCV : Hid (∀ k, k < l.length → ∃ b off, a = some ⟨b, off, none⟩ ∧ ∀ W, Below w.heap.size w W → W.cell? ⟨b, off + k, none⟩ = some (.int .u8 (l.getD k 0).toNat)) := by
    intro k hk
    rcases hv with hv | ⟨b, off, rfl, hv⟩
    · rw [hv] at hk; simp at hk
    · exact ⟨b, off, rfl, fun W hb => cell_after hb (hv k hk)⟩
  have HBT : Hid (∀ k, (l.getD k 0).toNat < 256) := fun k => UInt8.toNat_lt _
  clear hv
  obtain ⟨DD, HDD⟩ : ∃ DD : Nat → Nat, Hid (∀ k, (l.getD k 0).toNat = DD k) := ⟨_, fun _ => rfl⟩
  simp only [HDD.out] at HCV HBT
  clear HDD
  generalize l.length = m at *
  by_cases h40 : 40 < m
  · clear HMD HCV
    go_enter Try.func7, Try.ntmps7
    go_wp2_with fail
    refine (HD.out _).mono ?_
    rintro e w2 ⟨rfl, hb2⟩
    have HB2 : Hid (Below _ _ _) := hb2
    clear hb2
    go_wp2
    go_ret
    exact ⟨rfl, HB2.out⟩
  · have HEN : Hid (∀ W k, Calls Try.prog 32 #[.string (bt k)] W fun e w' => e = .returned (.tuple #[.string (pgB k), .int .i64 0]) ∧ Below W.heap.size W w') := fun W k => by
      have := encode_any (bt k) W (by show (1 : Nat) ≤ _; decide)
      have e := enc_bt k
      unfold Ca.enc at e
      rw [Prod.mk.injEq] at e
      rw [e.1, e.2] at this
      exact this
    unfold at_ at HMD
    go_enter Try.func7, Try.ntmps7
    go_wp2_with fail
    refine Calls.mono HMD.out ?_
    rintro e w2 ⟨c, p, o, rfl, h2⟩
    have F1 : Hid (CIn w w2 c p o ⟨1 + q, fsO 0, []⟩ 0) := h2
    clear h2 HMD
    go_wp2
    rw [decide_eq_false (p := (40 : Int) < (m : Int)) (by omega)]
    go_loopw [6] (fun x wr => ∃ (k : Nat) (o : Nat → Prop), k ≤ 12 ∧ x = .int .i64 k ∧ Hid (CIn w wr c p o ⟨1 + q, fsO k, []⟩ 0)) (fun x _ => 12 - (intOf x).toNat)
    case atStart => exact ⟨0, o, Nat.zero_le _, rfl, F1⟩
    case round =>
      clear F1
      obtain ⟨k, o1, hk, rfl, F⟩ := hrel
      by_cases hlt : k < 12
      · have hcv : (convert 68 9 (.slice (some ⟨wr.heap.size, 0, none⟩) 1 1)).run Try.prog (wr.alloc (.cells #[.int .u8 k] 5)) = .ok (.string (bt k)) (wr.alloc (.cells #[.int .u8 k] 5)) := (conv_byte wr (UInt8.ofNat k)).out k (by simp; omega)
        have hk8 : (k : Int) % 256 = k := by omega
        go_wp2_with fail
        refine (HEN.out _ k).mono ?_
        rintro e w6 ⟨rfl, hb6⟩
        have F6 : Hid (CIn w w6 c p o1 ⟨1 + q, fsO k, []⟩ 0) := F.out.later (((Below.refl _ wr).alloc (Nat.le_refl _) _).trans (hb6.mono (by simp)))
        have HF6 : Hid (Calls _ _ _ _ _) := F6.out.fsCall
        have HP6 : Hid (Calls Try.prog 33 #[at_ p, .string nf, .int .i64 k, .string (pgB k)] w6 fun e w' => ∃ o', e = .returned (.int .i64 0) ∧ CIn w w' c p o' ⟨1 + q, fsO (k + 1), []⟩ 0) := F6.out.fput nf k (pgB k) (by decide) (fsO_put k hlt)
        unfold at_ at HF6 HP6
        clear hb6 hcv F F6
        go_wp2_with fail
        refine Calls.mono HF6.out ?_
        rintro e w7 ⟨rfl, rfl⟩
        clear HF6
        go_wp2_with fail
        refine Calls.mono HP6.out ?_
        rintro e w8 ⟨o8, rfl, h8⟩
        have F8 : Hid (CIn _ _ _ _ _ _ _) := h8
        clear h8 HP6
        go_wp2
        go_roundw
        case rel => exact ⟨k + 1, o8, by omega, by go_num, F8⟩
        case measure => simp [intOf]; omega
      · obtain rfl : k = 12 := by omega
        clear hlt hk HEN
        rw [show ((12 : Nat) : Int) = 12 from rfl]
        go_wp2
        go_loopw [9, 10] (fun v x wr => ∃ (k : Nat) (last : List Nat) (o : Nat → Prop) (u : Nat), k ≤ m ∧ x = .int .i64 k ∧ u ≤ k ∧ last.length ≤ 1 + q ∧ Hid (last.Nodup ∧ ∀ y ∈ last, y < 12) ∧ Hid (RowBy w wr o 3 1 v last.length (nums last)) ∧ Hid (CIn w wr c p o ⟨1 + q, fsO 12, (last.map frO).reverse⟩ u)) (fun _ x _ => m - (intOf x).toNat)
        case atStart => exact ⟨0, [], o1, 0, Nat.zero_le _, rfl, Nat.le_refl _, by simp, ⟨List.nodup_nil, fun y hy => by cases hy⟩, RowBy.nil, F⟩
        case round =>
          clear F
          obtain ⟨k, last, o3, u, hk, rfl, hu, hll, HND, HRW, F⟩ := hrel
          obtain ⟨la, lcap, rfl⟩ := HRW.out.shape
          by_cases hlt : k < m
          · obtain ⟨b, off, rfl, hat⟩ := HCV.out k hlt
            have c0 := hat wr F.out.below
            have h256 := HBT.out k
            clear hat
            generalize DD k = z at *
            obtain ⟨y, hy, hy12, hyn⟩ : ∃ y : Nat, (z : Int) % 12 = y ∧ y < 12 ∧ z % 12 = y := ⟨z % 12, by omega, by omega, rfl⟩
            clear hyn
            have HGT : Hid (Calls Try.prog 31 #[at_ c, .string nf, .int .i64 y] wr fun e w' => ∃ o' u', u' ≤ u + 1 ∧ e = .returned (.tuple #[.string (bt y), .int .i64 0]) ∧ CIn w w' c p o' ⟨1 + q, fsO 12, ((nextO (1 + q) y last).map frO).reverse⟩ u' ∧ Turn o3 wr o' w') := F.out.getT nf y (by omega) (key_nf y (by omega) (by omega)) (by decide) (getO (by omega) HND.out.1 hll y hy12)
            unfold at_ at HGT
            go_wp2_with fail
            refine Calls.mono HGT.out ?_
            rintro e w5 ⟨o5, u5, hu5, rfl, h5, ht5⟩
            have F5 : Hid (CIn w w5 c p o5 ⟨1 + q, fsO 12, ((nextO (1 + q) y last).map frO).reverse⟩ u5) := h5
            have R5 : Hid (RowBy w w5 o5 3 1 (.slice la last.length lcap) last.length (nums last)) := HRW.out.turn ht5
            clear h5 ht5 HGT F HRW c0
            have hcv : (convert 68 9 (.slice (some ⟨w5.heap.size, 0, none⟩) 1 1)).run Try.prog (w5.alloc (.cells #[.int .u8 y] 5)) = .ok (.string (bt y)) (w5.alloc (.cells #[.int .u8 y] 5)) := (conv_byte w5 (UInt8.ofNat y)).out y (by simp; omega)
            have hy8 : (y : Int) % 256 = y := by omega
            obtain ⟨wI, hwI⟩ : ∃ wI, (w5.alloc (.cells #[.int .u8 y] 5)).alloc (.cells #[.int .i64 y] 3) = wI := ⟨_, rfl⟩
            have BI : Hid (Below w5.heap.size w5 wI) := by rw [← hwI]; exact ((Below.refl _ w5).alloc (Nat.le_refl _) _).alloc (by simp) _
            have RN : Hid (RowBy w wI o5 3 1 (.slice (some ⟨w5.heap.size + 1, 0, none⟩) 1 1) 1 [.int .i64 y]) := by
              have := RowBy.lit (e := 3) (size := 1) (F5.out.later ((Below.refl _ w5).alloc (Nat.le_refl _) (.cells #[.int .u8 y] 5))) #[.int .i64 y] 1 (by decide) rfl
              rw [← hwI]
              rwa [show (w5.alloc (.cells #[.int .u8 y] 5)).heap.size = w5.heap.size + 1 by simp] at this
            have AP : Hid (∀ g, (Value.slice la last.length lcap).ownBlock = some g → (Value.slice (some ⟨w5.heap.size + 1, 0, none⟩) 1 1).ownBlock ≠ some g) := fun g hg e => by
              have h1 := (R5.out.own.lt g hg).2
              simp [Value.ownBlock] at e
              omega
            have RL : Hid (RowBy w wI o5 3 1 (.slice la last.length lcap) last.length (nums last)) := R5.out.later BI.out
            have FI : Hid (CIn w wI c p o5 ⟨1 + q, fsO 12, ((nextO (1 + q) y last).map frO).reverse⟩ u5) := F5.out.later BI.out
            clear F5 R5 BI
            go_wp2
            clear hcv hwI
            have hA0 : Hid ([y] = y :: ((last.take 0).filter fun x => decide (x ≠ y))) := rfl
            go_loopw [14, 15] (fun v x wr => ∃ (j : Nat) (A : List Nat), j ≤ last.length ∧ x = .int .i64 j ∧ A.length ≤ 1 + q ∧ Hid (A = y :: ((last.take j).filter fun x => decide (x ≠ y))) ∧ Hid (RowBy w wr o5 3 1 v A.length (nums A)) ∧ Hid (RowBy w wr o5 3 1 (.slice la last.length lcap) last.length (nums last)) ∧ Hid (∀ g, (Value.slice la last.length lcap).ownBlock = some g → v.ownBlock ≠ some g) ∧ Hid (CIn w wr c p o5 ⟨1 + q, fsO 12, ((nextO (1 + q) y last).map frO).reverse⟩ u5)) (fun _ x _ => last.length - (intOf x).toNat)
            case atStart => exact ⟨0, [y], Nat.zero_le _, rfl, by simp, hA0, RN, RL, AP, FI⟩
            case round =>
              clear RN RL AP FI hA0
              obtain ⟨j, A, hj, rfl, hAl, HA, RN, RL, AP, FI⟩ := hrel
              obtain ⟨na, ncap, rfl⟩ := RN.out.shape
              by_cases hjl : j < last.length
              · by_cases hAq : A.length < 1 + q
                · obtain ⟨lb, lc, e, hcell⟩ := RL.out.num hjl
                  simp only [Value.slice.injEq] at e
                  obtain ⟨rfl, _, rfl⟩ := e
                  have HG : Hid _ := gather_step (k := y) hjl
                  obtain ⟨x, HX⟩ : ∃ x, Hid (last.getD j 0 = x) := ⟨_, rfl⟩
                  rw [HX.out] at hcell HG
                  clear HX
                  by_cases hxy : x = y
                  · have HA2 : Hid (A = y :: ((last.take (j + 1)).filter fun x => decide (x ≠ y))) := by
                      have := HG.out
                      rw [if_pos hxy] at this
                      show A = _
                      rw [this, List.append_nil]; exact HA.out
                    subst hxy
                    clear HG HA
                    go_wp2
                    go_roundw
                    case rel => exact ⟨j + 1, A, by omega, by go_num, hAl, HA2, RN, RL, AP, FI⟩
                    case measure => simp [intOf]; omega
                  · have HA2 : Hid (A ++ [x] = y :: ((last.take (j + 1)).filter fun x => decide (x ≠ y))) := by
                      have := HG.out
                      rw [if_neg hxy] at this
                      show A ++ [x] = _
                      rw [this, HA.out]; rfl
                    have hxi : ¬ (x : Int) = y := by omega
                    have BR : Hid (Below wr.heap.size wr (wr.alloc (.cells #[.int .i64 x] 3))) := (Below.refl _ wr).alloc (Nat.le_refl _) _
                    have hsz := FI.out.below.size
                    obtain ⟨i0, hi0, hz0, hz1, hz2⟩ := info_parts Try.oInt
                    clear HG HA
                    go_wp2_with (at_builtin; refine wpList_append_lies _ rfl _ _ 69 rfl w.heap.size 3 i0 (.int .i64 0) 1 8 Try.underlying69 hi0 hz0 hz1 hz2 rfl (by decide) _ A.length (nums A) rfl ((RN.out.later BR.out).own) ⟨wr.heap.size, 0, none⟩ 1 1 [.int .i64 x] rfl rfl (cell_one_new _ _ _) (by simp [Value.oneCell']) (by omega) (by unfold maxLen; omega) (by omega) (by simp; omega) _ rfl ?_)
                    intro g7 cap7 w7 hown7 hgrow7 hat7 hlt7
                    have F7 : Hid (CIn w w7 c p o5 ⟨1 + q, fsO 12, ((nextO (1 + q) y last).map frO).reverse⟩ u5) := (FI.out.later BR.out).grown (RN.out.later BR.out) hgrow7
                    have N7 : Hid (RowBy w w7 o5 3 1 (.slice (some ⟨g7, 0, none⟩) (A.length + 1) cap7) (A ++ [x]).length (nums (A ++ [x]))) := by
                      have := RowBy.grown (FI.out.later BR.out) (RN.out.later BR.out) hown7 (hat7.imp id fun h => by simpa using h)
                      unfold nums
                      rw [List.length_append, List.map_append]
                      exact this
                    have L7 : Hid (RowBy w w7 o5 3 1 (.slice (some ⟨lb, 0, none⟩) last.length lcap) last.length (nums last)) := (RL.out.later BR.out).beside hgrow7 AP.out (RN.out.later BR.out)
                    have A7 : Hid (∀ g, (Value.slice (some ⟨lb, 0, none⟩) last.length lcap).ownBlock = some g → (Value.slice (some ⟨g7, 0, none⟩) (A.length + 1) cap7).ownBlock ≠ some g) := fun g hg e => by
                      have e2 : g7 = g := by simpa [Value.ownBlock] using e
                      subst e2
                      rcases hat7 with h | h
                      · exact AP.out g7 hg h
                      · have := (RL.out.own.lt g7 hg).2
                        omega
                    clear hown7 hgrow7 hat7 hlt7 FI RN RL AP BR hsz hcell
                    go_wp2
                    go_roundw
                    case rel => exact ⟨j + 1, A ++ [x], by omega, by go_num, by simp; omega, HA2, N7, L7, A7, F7⟩
                    case measure => simp [intOf]; omega
                · have HE : Hid (A = nextO (1 + q) y last) := HA.out.trans (gatherO (by omega) (.inr (by have := congrArg List.length HA.out; simp only [List.length_cons] at this; omega)) (by have := congrArg List.length HA.out; simp only [List.length_cons] at this; omega))
                  have HN2 : Hid ((nextO (1 + q) y last).Nodup ∧ ∀ z ∈ nextO (1 + q) y last, z < 12) := ⟨nextO_nodup HND.out.1, nextO_lt hy12 HND.out.2⟩
                  have hl2 : (nextO (1 + q) y last).length ≤ 1 + q := nextO_length (by omega)
                  have RN2 : Hid (RowBy w wr o5 3 1 (.slice na A.length ncap) (nextO (1 + q) y last).length (nums (nextO (1 + q) y last))) := by
                    have := RN.out
                    rw [HE.out] at this ⊢
                    exact this
                  clear HA RL AP RN HE
                  go_wp2
                  go_roundw
                  case rel => exact ⟨k + 1, nextO (1 + q) y last, o5, u5, by omega, by go_num, by omega, hl2, HN2, RN2, FI⟩
                  case measure => simp [intOf]; omega
              · have HE : Hid (A = nextO (1 + q) y last) := HA.out.trans (gatherO (by omega) (.inl (by omega)) (by have := congrArg List.length HA.out; simp only [List.length_cons] at this; omega))
                have HN2 : Hid ((nextO (1 + q) y last).Nodup ∧ ∀ z ∈ nextO (1 + q) y last, z < 12) := ⟨nextO_nodup HND.out.1, nextO_lt hy12 HND.out.2⟩
                have hl2 : (nextO (1 + q) y last).length ≤ 1 + q := nextO_length (by omega)
                have RN2 : Hid (RowBy w wr o5 3 1 (.slice na A.length ncap) (nextO (1 + q) y last).length (nums (nextO (1 + q) y last))) := by
                  have := RN.out
                  rw [HE.out] at this ⊢
                  exact this
                clear HA RL AP RN HE
                go_wp2
                go_roundw
                case rel => exact ⟨k + 1, nextO (1 + q) y last, o5, u5, by omega, by go_num, by omega, hl2, HN2, RN2, FI⟩
                case measure => simp [intOf]; omega
          · obtain rfl : k = m := by omega
            have HLN : Hid (Calls Try.prog 16 #[at_ c] wr fun e w' => e = .returned (.int .i64 last.length) ∧ w' = wr) := by
              have := F.out.len
              simp only [List.length_reverse, List.length_map] at this
              exact this
            have HF6 : Hid (Calls _ _ _ _ _) := F.out.fsCall
            have HFA : Hid (Calls Try.prog 26 #[at_ p, .int .i64 0] wr fun e w' => ∃ o', e = .returned (.int .i64 0) ∧ CIn w w' c p o' ⟨1 + q, { fsO 12 with ahead := 0 }, (last.map frO).reverse⟩ u ∧ Turn o3 wr o' w') := F.out.failT 0 (by decide) rfl
            unfold at_ at HLN HF6 HFA
            have HAL : Hid (AllO ⟨1 + q, { fsO 12 with ahead := 0 }, (last.map frO).reverse⟩ last) := allO_start HND.out.1
            generalize (⟨1 + q, { fsO 12 with ahead := 0 }, (last.map frO).reverse⟩ : Ca.St) = st0 at *
            go_wp2_with fail
            refine Calls.mono HLN.out ?_
            rintro e w5 ⟨rfl, rfl⟩
            go_wp2_with fail
            refine Calls.mono HF6.out ?_
            rintro e w6 ⟨rfl, rfl⟩
            go_wp2_with fail
            refine Calls.mono HFA.out ?_
            rintro e w7 ⟨o7, rfl, h7, ht7⟩
            have F7 : Hid (CIn w w7 c p o7 st0 u) := h7
            have R7 : Hid (RowBy w w7 o7 3 1 (.slice la last.length lcap) last.length (nums last)) := HRW.out.turn ht7
            clear h7 ht7 HFA HF6 HLN F HRW
            have hll2 : last.length ≤ 9 := by omega
            go_wp2
            go_loopw [16] (fun x wr => ∃ (j : Nat) (o : Nat → Prop) (st : Ca.St) (u : Nat), j ≤ last.length ∧ x = .int .i64 ((j : Int) - 1) ∧ u + j ≤ k + last.length ∧ Hid (AllO st last) ∧ Hid (RowBy w wr o 3 1 (.slice la last.length lcap) last.length (nums last)) ∧ Hid (CIn w wr c p o st u)) (fun x _ => (intOf x + 1).toNat)
            case atStart => exact ⟨last.length, o7, st0, u, Nat.le_refl _, rfl, by omega, HAL, R7, F7⟩
            case round =>
              clear HAL R7 F7
              obtain ⟨j, o8, st, u8, hj, rfl, hu8, HAL, R8, F8⟩ := hrel
              by_cases hj0 : 0 < j
              · obtain ⟨lb, lc, e, hcell⟩ := R8.out.num (j := j - 1) (by omega)
                simp only [Value.slice.injEq] at e
                obtain ⟨rfl, _, rfl⟩ := e
                obtain ⟨y, HX⟩ : ∃ y, Hid (last.getD (j - 1) 0 = y) := ⟨_, rfl⟩
                have HM : Hid (y ∈ last) := by
                  rw [← HX.out, List.getD_eq_getElem?_getD, List.getElem?_eq_getElem (show j - 1 < last.length by omega)]; exact List.getElem_mem _
                rw [HX.out] at hcell
                have hy12 := HND.out.2 y HM.out
                clear HX
                have HGT : Hid (Calls Try.prog 31 #[at_ c, .string nf, .int .i64 y] wr fun e w' => ∃ o' u', u' ≤ u8 + 1 ∧ e = .returned (.tuple #[.string (Ca.get st nf y).1, .int .i64 (Ca.get st nf y).2.1]) ∧ CIn w w' c p o' (Ca.get st nf y).2.2 u' ∧ Turn o8 wr o' w') := F8.out.getT nf y (by omega) (key_nf y (by omega) (by omega)) (by decide) rfl
                obtain ⟨hz, ha2⟩ := allO_get HAL.out HM.out
                have HA2 : Hid (AllO (Ca.get st nf y).2.2 last) := ha2
                rw [hz] at HGT
                clear hz ha2 HAL
                generalize (Ca.get st nf y).2.2 = st9 at *
                generalize (Ca.get st nf y).1 = s9 at *
                unfold at_ at HGT
                obtain ⟨i, rfl⟩ : ∃ i, j = i + 1 := ⟨j - 1, by omega⟩
                have ei : ((i + 1 : Nat) : Int) - 1 = i := by omega
                rw [ei]
                rw [show i + 1 - 1 = i by omega] at hcell
                clear ei hj0
                go_wp2_with fail
                refine Calls.mono HGT.out ?_
                rintro e w9 ⟨o9, u9, hu9, rfl, h9, ht9⟩
                have F9 : Hid (CIn w w9 c p o9 st9 u9) := h9
                have R9 : Hid (RowBy w w9 o9 3 1 (.slice (some ⟨lb, 0, none⟩) last.length lcap) last.length (nums last)) := R8.out.turn ht9
                clear h9 ht9 HGT F8 R8 hcell
                go_wp2
                go_roundw
                case rel => exact ⟨i, o9, st9, u9, by omega, by go_num, by omega, HA2, R9, F9⟩
                case measure => simp [intOf]
              · obtain rfl : j = 0 := by omega
                have ei : ((0 : Nat) : Int) - 1 = -1 := by omega
                rw [ei]
                go_wp2_with fail
                refine (HD.out _).mono ?_
                rintro e w9 ⟨rfl, hb9⟩
                have HB9 : Hid (Below _ _ _) := bnext F8.out.below hb9
                clear hb9
                go_wp2
                go_ret
                exact ⟨rfl, HB9.out⟩

set_option maxRecDepth 100000 in
theorem cacheOldest_lifted (os : Os) (started : os.Started) (H : Type) (enc : TypeId × Value → H) :
    ReturnsInHanded {} Try.checked os 7 .any (Rows.cacheOldestSpec.pre6 enc Try.prog Try.f7 Rows.cacheOldestRow.domain false) (Rows.cacheOldestSpec.post enc Try.prog Try.f7 false true false false) := by
  refine returnsInHanded_of_change (C := Try.checked) Try.own started (by kernel_rfl) Try.func7
    (ChangeSpec.witness6 (enc := enc) (C := Try.checked) false ⟨#[], #[.int .u8 0, .slice none 0 0], []⟩ 8 (by kernel_rfl) (by kernel_rfl) (by kernel_rfl) (by kernel_rfl)) ?_
  intro W base args ds gs before hval0 hW hcnd _
  have hval : ∀ (j : Nat) t v, Try.f7.params[j]? = some t → args[j]? = some v → Value.okWide Try.prog W .any base t v := hval0
  have hW' := hW
  obtain ⟨p, q, hA0, hV, rfl, hfz, hnd⟩ := hW
  have hA : DataW.TrodAll enc Try.prog W 0 (fun _ => true) true Try.f7.params.toList args.toList ds p := hA0
  rw [Try.params7] at hA hval
  obtain ⟨v0, vs0, d0, ds0, p0, q0, hargs, rfl, rfl, h0, r0⟩ := trodAll_cons hA
  obtain ⟨v1, vs1, d1, ds1, p1, q1, rfl, rfl, rfl, h1, r1⟩ := trodAll_cons r0
  obtain ⟨rfl, rfl, rfl⟩ := trodAll_nil r1
  obtain rfl : args = #[v0, v1] := by cases args; simp_all
  obtain ⟨rfl, rfl⟩ := trodVars_none hV
  obtain ⟨a0, rfl, rfl, rfl, w0⟩ := open_int Try.underlying5 (hval 0 5 v0 rfl rfl) h0
  have lt1 : ∀ x ∈ p1, x.block < W.heap.size := by obtain ⟨m, hm⟩ := h1; exact DataW.trod_lt m _ _ _ hm
  obtain ⟨l1, k1, n1⟩ := open_bts (hval 1 68 v1 rfl rfl) h1
  clear hA0 hval0
  refine (cacheOldest_walk a0 v1 l1 W w0 k1 n1).mono fun e W' ⟨he, bel⟩ => ?_
  subst he
  exact ⟨_, rfl, _, _, _, [], _, [], hW', trodAll_mk1 (shut_bool Try.underlying4 _), (trodAll_cons_mk (shut_int Try.underlying5 w0) (trodAll_cons_mk (Below.trod Try.laidOut (by kernel_rfl) (of_decide_eq_true (by kernel_rfl)) h1 bel lt1) trodAll_mk0)), rfl, bel.frame _, fun h => by cases h⟩

theorem cacheOldest_holds : Rows.CacheOldestSaid :=
  OpenClaim.holds_of_wide 7 Try.f7 rfl rfl rfl rfl rfl rfl rfl ⟨rfl, rfl, rfl, rfl, rfl⟩ rfl rfl rfl rfl rfl (by kernel_rfl) Try.func7 (by kernel_rfl)
    (of_decide_eq_true (by kernel_rfl)) (by unfold Func.isWrapper; first | (rw [if_pos (by decide +kernel)]; kernel_rfl) | (rw [if_neg (by decide +kernel)]; exact ⟨rfl, rfl⟩))
    (fun os started H enc _ => cacheOldest_lifted os started H enc)

end Go.Proofs.Ytnlhgcpmmcmknaa
