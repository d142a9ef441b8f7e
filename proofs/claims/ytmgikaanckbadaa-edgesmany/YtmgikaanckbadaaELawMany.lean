/- EdgesMany: for every two bytes and every uint16 the call returns true: as many unlike edges as may be are taken, and one more is not (P8.1). No conditions. -/
import Derived.Test.YtmgikaanckbadaaEOpen
import Derived.Test.YtmgikaanckbadaaLater
import Derived.Deep.RegionLaw
import Derived.Deep.AppendLies
namespace Go.Proofs.Ytmgikaanckbadaa
open Go.ChangeShapes Go.WideShapes Go.ChangeAt Go.RowKit Go.Shelf Go.Sort Go.Lib

/-- The edges of the first t places of a square of m rows, row by row. -/
def sq (m t : Nat) : List (Int × Int) := (List.range t).filterMap fun j => if j % m = j / m then none else some (((j / m : Nat) : Int), ((j % m : Nat) : Int))

theorem sq_zero (m : Nat) : sq m 0 = [] := rfl
theorem sq_succ (m t : Nat) : sq m (t + 1) = sq m t ++ (if t % m = t / m then [] else [(((t / m : Nat) : Int), ((t % m : Nat) : Int))]) := by
  unfold sq
  rw [List.range_succ, List.filterMap_append]
  congr 1
  by_cases h : t % m = t / m <;> simp [h]
theorem at_div {m v k : Nat} (hk : k < m) : (v * m + k) / m = v := by
  rw [Nat.mul_comm, Nat.mul_add_div (by omega), Nat.div_eq_of_lt hk, Nat.add_zero]
theorem at_mod {m v k : Nat} (hk : k < m) : (v * m + k) % m = k := by
  rw [Nat.mul_comm, Nat.mul_add_mod, Nat.mod_eq_of_lt hk]
theorem sq_step {m v k : Nat} (hk : k < m) : sq m (v * m + (k + 1)) = sq m (v * m + k) ++ (if k = v then [] else [((v : Int), (k : Int))]) := by
  rw [← Nat.add_assoc, sq_succ, at_div hk, at_mod hk]
theorem sq_len {m : Nat} : ∀ {v k : Nat}, v < m → k ≤ m → (sq m (v * m + k)).length = v * (m - 1) + (if k ≤ v then k else k - 1)
  | 0, 0, _, _ => by simp [sq_zero]
  | v + 1, 0, hv, hk => by
    have h := @sq_len m v m (by omega) (Nat.le_refl _)
    rw [show (v + 1) * m + 0 = v * m + m by rw [Nat.add_mul]; omega, h, if_neg (by omega), if_pos (Nat.zero_le _), Nat.add_mul]
    omega
  | v, k + 1, hv, hk => by
    have h := @sq_len m v k hv (by omega)
    rw [sq_step (by omega), List.length_append, h]
    by_cases e : k = v
    · subst e
      rw [if_pos rfl, if_pos (Nat.le_refl _), if_neg (by omega)]
      simp
    · rw [if_neg e]
      by_cases c : k < v
      · rw [if_pos (by omega), if_pos (by omega)]
        simp; omega
      · rw [if_neg (by omega), if_neg (by omega)]
        simp; omega
theorem sq_rising (m t : Nat) : Ed.Rising (sq m t) := by
  unfold Ed.Rising sq
  refine List.Pairwise.filterMap _ ?_ (List.pairwise_lt_range (n := t))
  intro a b hab x hx y hy
  by_cases ha : a % m = a / m
  · simp [ha] at hx
  · by_cases hb : b % m = b / m
    · simp [hb] at hy
    · simp only [if_neg ha, Option.some.injEq] at hx
      simp only [if_neg hb, Option.some.injEq] at hy
      subst hx hy
      rw [Ed.lt_iff]
      have h1 := Nat.div_le_div_right (c := m) (Nat.le_of_lt hab)
      have h2 := Nat.div_add_mod a m
      have h3 := Nat.div_add_mod b m
      by_cases e : a / m = b / m
      · right
        rw [e] at h2
        constructor
        · simp [e]
        · simp; omega
      · left; simp; omega
theorem sq_good {m t : Nat} (ht : t ≤ m * m) : ∀ x ∈ sq m t, Ed.bad (m : Int) x = false := by
  intro x hx
  unfold sq at hx
  obtain ⟨j, hj, hx⟩ := List.mem_filterMap.1 hx
  have hj' := List.mem_range.1 hj
  by_cases h : j % m = j / m
  · simp [h] at hx
  · simp only [if_neg h, Option.some.injEq] at hx
    subst hx
    have hm : 0 < m := by
      rcases Nat.eq_zero_or_pos m with e | e
      · subst e; omega
      · exact e
    have h1 : j / m < m := (Nat.div_lt_iff_lt_mul hm).2 (by omega)
    have h2 := Nat.mod_lt j hm
    generalize j / m = a at *
    generalize j % m = b at *
    simp [Ed.bad, Ed.vert]
    omega

theorem slice_of {w : World} {base e size n : Nat} {v : Value} {xs : List Value} (h : w.ownsRow base e size v n xs) : ∃ a cap, v = .slice a n cap ∧ n ≤ cap := by
  rcases h.2 with ⟨rfl, rfl⟩ | ⟨g, cap, cur, rfl, _, _, hc, _⟩
  · exact ⟨none, 0, rfl, Nat.le_refl _⟩
  · exact ⟨_, cap, rfl, hc⟩

theorem step_append_own {P : Program} {w : World} {ops : Array Oper} {o : Oper} {a : Act} {K : Act → World → Prop} {Q : Exit → Act → World → Prop} {E : Prop} (hgd : o.guard = none) (s x : Operand) (t : TypeId)
    (ho : o.op = .call { callee := .builtin .append, args := #[s, x], argTypes := #[t, t] })
    (base : Nat) (e : TypeId) (i : TypeInfo) (z : Value) (size bytes : Nat) (ht : P.underlying t = some (.slice e)) (hi : P.info? e = some i) (hz : i.zero = some z)
    (hsize : i.size = size) (hby : i.bytes = bytes) (hzs : z.cells.size = size) (hsz : 0 < size)
    (v : Value) (n : Nat) (xs : List Value) (hs : a.eval s = v) (hown : w.ownsRow base e size v n xs)
    (adr : Option Addr) (ad : Addr) (hadr : adr = some ad) (m c : Nat) (news : List Value) (hx : a.eval x = .slice adr m c) (hl : news.length = m * size) (hnews : ∀ j u, news[j]? = some u → w.cell? (ad.add j) = some u) (h1 : ∀ u ∈ news, u.oneCell' = true)
    (h63 : n + m ≤ maxLen) (hbytes : (n + m) * bytes ≤ 140737488355328) (hbase : base ≤ w.heap.size)
    (h : ∀ v' w', w'.ownsRow base e size v' (n + m) (xs ++ news) → w.grownBy w' v.ownBlock → K (a.put o.dst v') w') :
    if Region.wanted o (yielded ops a.tmps) = true then Oper.wp P o a w K Q else E := by
  have hw : Region.wanted o (yielded ops a.tmps) = true := by simp [Region.wanted, hgd]
  rw [if_pos hw]
  rw [hadr] at hx
  exact wp_append_own w s x t ho base e i z size bytes ht hi hz hsize hby hzs hsz v n xs hs hown ad m c news hx hl hnews h1 h63 hbytes hbase fun v' w' h2 h3 _ => h v' w' h2 h3

theorem ecells_drop2 (l : List (Int × Int)) (n : Nat) : (ecells l).drop (n * 2) = ecells (l.drop n) := by
  induction l generalizing n with
  | nil => simp [ecells]
  | cons x l ih =>
    cases n with
    | zero => simp [ecells]
    | succ n =>
      rw [show (n + 1) * 2 = n * 2 + 1 + 1 by omega]
      have e : ecells (x :: l) = .int .i64 x.1 :: .int .i64 x.2 :: ecells l := rfl
      rw [e, List.drop_succ_cons, List.drop_succ_cons, ih]
      rfl

/-- The cells of a row of the call's own, from place k on. -/
theorem own_from {W : World} {base g n cap : Nat} {l : List (Int × Int)} (h : W.ownsRow base 24 2 (.slice (some ⟨g, 0, none⟩) n cap) n (ecells l)) (k : Nat) :
    ∀ j u, (ecells (l.drop k))[j]? = some u → W.cell? ((⟨g, k * 2, none⟩ : Addr).add j) = some u := by
  intro j u hj
  rw [← ecells_drop2, List.getElem?_drop] at hj
  have hlen := h.1
  rw [Addr.add_lit, h.cellAt _ (by have := (List.getElem?_eq_some_iff.1 hj).1; omega)]
  exact hj
theorem own_upto {W : World} {base g n cap : Nat} {l : List (Int × Int)} (h : W.ownsRow base 24 2 (.slice (some ⟨g, 0, none⟩) n cap) n (ecells l)) (k : Nat) :
    ∀ j u, (ecells (l.take k))[j]? = some u → W.cell? ((⟨g, 0, none⟩ : Addr).add j) = some u := by
  intro j u hj
  rw [← ecells_take] at hj
  have hlen := h.1
  have hjk : j < k * 2 := by
    rcases Nat.lt_or_ge j (k * 2) with h | h
    · exact h
    · rw [List.getElem?_take_eq_none h] at hj; cases hj
  rw [List.getElem?_take_of_lt hjk] at hj
  rw [Addr.add_lit, Nat.zero_add, h.cellAt _ (by have := (List.getElem?_eq_some_iff.1 hj).1; omega)]
  exact hj

set_option maxHeartbeats 400000 in
set_option maxRecDepth 100000 in
theorem edgesMany_walk (n0 o0 f0 : Int) (w : World) (hn : (Lit.int .u8 n0).wf = true) (ho : (Lit.int .u8 o0).wf = true) (hf : (Lit.int .u16 f0).wf = true) :
    Calls Try.prog 7 #[.int .u8 n0, .int .u8 o0, .int .u16 f0] w fun e w' => e = .returned (.bool true) ∧ Below w.heap.size w w' := by
  obtain ⟨i0, hi0, hz0, hz1, hz2⟩ := info_parts Try.edgeInfo
  obtain ⟨n, rfl, hn2⟩ := wf_u8 hn
  obtain ⟨o, rfl, ho2⟩ := wf_u8 ho
  obtain ⟨f, rfl, hf2⟩ := wf_u16 hf
  obtain ⟨m, hm⟩ : ∃ m, 66 + n % 191 = m := ⟨_, rfl⟩
  have hm1 : 66 ≤ m ∧ m ≤ 256 := by omega
  have hm3 : 66 + (n : Int) % 191 = m := by omega
  obtain ⟨q, hq⟩ : ∃ q, o % 3 = q := ⟨_, rfl⟩
  have hq1 : q < 3 := by omega
  have hq3 : (o : Int) % 3 = q := by omega
  have HMM : Hid (∀ t, t = m * m → (sq m t).length ≥ 4290) := fun t ht => by
    have h := @sq_len m (m - 1) m (by omega) (Nat.le_refl _)
    have e : (m - 1) * m + m = m * m := by
      obtain ⟨k, rfl⟩ : ∃ k, m = k + 1 := ⟨m - 1, by omega⟩
      rw [Nat.add_sub_cancel, Nat.add_mul]; omega
    rw [ht, ← e, h, if_neg (by omega)]
    have : 65 * 65 ≤ (m - 1) * (m - 1) := Nat.mul_le_mul (by omega) (by omega)
    omega
  clear hm hq hn ho hf
  go_enter Try.func7, Try.ntmps7
  go_wp2_with fail
  go_loopw [8, 9] (fun u i wr => ∃ v t : Nat, v ≤ m ∧ i = .int .i64 v ∧ t ≤ m * m ∧ (sq m t).length ≤ 4096 + q ∧ Hid ((sq m t).length < 4096 + q → t = v * m) ∧ Hid (wr.ownsRow w.heap.size 24 2 u (sq m t).length (ecells (sq m t))) ∧ Hid (Below w.heap.size w wr)) (fun _ i _ => m - (intOf i).toNat)
  case atStart => exact ⟨0, 0, Nat.zero_le _, rfl, Nat.zero_le _, by rw [sq_zero]; simp, fun _ => by omega, World.ownsRow_nil _ _ _ _, Below.refl _ _⟩
  case round =>
    obtain ⟨v, t, hv, rfl, ht, hlen, HT, HO, HB⟩ := hrel
    obtain ⟨au, capu, rfl, hcapu⟩ := slice_of HO.out
    by_cases hlt : (sq m t).length < 4096 + q
    · obtain rfl := HT.out hlt
      have hvm : v < m := by
        rcases Nat.lt_or_ge v m with h | h
        · exact h
        · have := HMM.out (v * m) (by rw [show v = m by omega])
          omega
      have hvv : (v : Int) % m = v := Int.emod_eq_of_lt (by omega) (by omega)
      have hdl : decide ((sq m (v * m)).length < 4096 + q) = true := by simpa using hlt
      have HI : Hid (sq m (v * m) = sq m (v * m + 0)) := rfl
      rw [Hid, HI.out] at HO
      clear HI
      have HL : Hid (∀ k, k ≤ m → v * m + k ≤ m * m) := fun k hk => by
        have : (v + 1) * m ≤ m * m := Nat.mul_le_mul_right m hvm
        rw [Nat.add_mul] at this; omega
      go_wp2_with fail
      go_loopw [8, 10] (fun u i wr => ∃ k : Nat, k ≤ m ∧ i = .int .i64 k ∧ (sq m (v * m + k)).length ≤ 4096 + q ∧ Hid (wr.ownsRow w.heap.size 24 2 u (sq m (v * m + k)).length (ecells (sq m (v * m + k)))) ∧ Hid (Below w.heap.size w wr)) (fun _ i _ => m - (intOf i).toNat)
      case atStart => exact ⟨0, Nat.zero_le _, rfl, by omega, HO, HB⟩
      case round =>
        obtain ⟨k, hk, rfl, hlen2, HO2, HB2⟩ := hrel
        obtain ⟨au2, capu2, rfl, hcapu2⟩ := slice_of HO2.out
        by_cases hkm : k < m
        · by_cases hlt2 : (sq m (v * m + k)).length < 4096 + q
          · have hdk : decide (k < m) = true := by simpa using hkm
            have hdl2 : decide ((sq m (v * m + k)).length < 4096 + q) = true := by simpa using hlt2
            have HS : Hid (sq m (v * m + (k + 1)) = sq m (v * m + k) ++ (if k = v then [] else [((v : Int), (k : Int))])) := sq_step hkm
            generalize sq m (v * m + k) = L at *
            by_cases hkv : k = v
            · have hqv : ((k : Int) == (v : Int)) = true := by simp; omega
              have HS1 : Hid (sq m (v * m + (k + 1)) = L) := by rw [Hid, HS.out, if_pos hkv, List.append_nil]
              clear hkv HS
              go_wp2
              go_roundw
              case rel => exact ⟨k + 1, by omega, by go_num, by rw [HS1.out]; exact hlen2, by rw [Hid, HS1.out]; exact HO2.out, HB2.out⟩
              case measure => simp [intOf]; omega
            · have hqv : ((k : Int) == (v : Int)) = false := by simp; omega
              have HS1 : Hid (sq m (v * m + (k + 1)) = L ++ [((v : Int), (k : Int))]) := by rw [Hid, HS.out, if_neg hkv]
              clear hkv HS
              go_wp2_with (at_builtin; refine wpList_append_own _ rfl _ _ 22 rfl w.heap.size 24 i0 (.agg #[.int .i64 0, .int .i64 0]) 2 16 Try.underlying22 hi0 hz0 hz1 hz2 rfl (by decide) _ L.length (ecells L) rfl (HO2.out.alloc _) ⟨wr.heap.size, 0, none⟩ 1 1 [.int .i64 v, .int .i64 k] rfl rfl (cell_two_new _ _ _ _) (by simp [Value.oneCell']) (by unfold maxLen; omega) (by omega) (by have := HB2.out.size; simp; omega) ?_)
              intro v' w1 hown1 hgrow1 _
              have HQ : Hid (w1.ownsRow w.heap.size 24 2 v' (sq m (v * m + (k + 1))).length (ecells (sq m (v * m + (k + 1))))) := by
                rw [Hid, HS1.out, ← ecells_snoc, List.length_append]; exact hown1
              have HB3 : Hid (Below w.heap.size w w1) := (HB2.out.alloc HB2.out.size _).grown hgrow1 (by have := HB2.out.size; simp; omega) (fun q e => (HO2.out.lt q e).1)
              have HLn : Hid ((sq m (v * m + (k + 1))).length ≤ 4096 + q) := by rw [Hid, HS1.out, List.length_append]; simp; omega
              clear hown1 hgrow1
              go_wp2
              go_roundw
              case rel => exact ⟨k + 1, by omega, by go_num, HLn.out, HQ, HB3⟩
              case measure => simp [intOf]; omega
          · have hdk : decide (k < m) = true := by simpa using hkm
            have hdl2 : decide ((sq m (v * m + k)).length < 4096 + q) = false := by simpa using hlt2
            have HTT : Hid (v * m + k ≤ m * m) := HL.out k hk
            have HVV : Hid ((sq m (v * m + k)).length < 4096 + q → v * m + k = (v + 1) * m) := fun h => absurd h hlt2
            generalize v * m + k = t at *
            generalize hsl : (sq m t).length = sl at *
            go_wp2
            go_roundw
            case rel => exact ⟨v + 1, t, by omega, by go_num, HTT.out, by omega, fun h => HVV.out (by omega), by rw [Hid, hsl]; exact HO2.out, HB2.out⟩
            case measure => simp [intOf]; omega
        · obtain rfl : k = m := by omega
          have HTT : Hid (v * k + k ≤ k * k) := HL.out k hk
          have HVV : Hid (v * k + k = (v + 1) * k) := by rw [Hid, Nat.add_mul]; omega
          generalize v * k + k = t at *
          generalize hsl : (sq k t).length = sl at *
          go_wp2
          go_roundw
          case rel => exact ⟨v + 1, t, by omega, by go_num, HTT.out, by omega, fun h => HVV.out, by rw [Hid, hsl]; exact HO2.out, HB2.out⟩
          case measure => simp [intOf]; omega
    · have HN : Hid ((sq m t).length = 4096 + q) := by rw [Hid]; omega
      have hpos : 0 < (sq m t).length := by omega
      have hdl : decide ((sq m t).length < 4096 + q) = false := by simpa using hlt
      have HG : Hid ((sq m t).any (Ed.bad (m : Int)) = false) := List.any_eq_false.2 fun x hx => by rw [sq_good ht x hx]; simp
      have HR : Hid (Ed.Rising (sq m t)) := sq_rising m t
      obtain ⟨gu, capu', e, hge, hgl⟩ := HO.out.form hpos
      cases e
      clear HT
      generalize sq m t = L at *
      obtain ⟨kk, hkk⟩ : ∃ kk, f % L.length = kk := ⟨_, rfl⟩
      have hkl : kk < L.length := by rw [← hkk]; exact Nat.mod_lt _ hpos
      have hki : (f : Int) % (L.length : Int) = kk := by rw [← hkk]; omega
      have hl4 : L.length ≤ 4098 := by have := HN.out; omega
      have hdi : decide ((L.length : Int) < 4096 + (q : Int)) = false := by have := HN.out; simp; omega
      have hge4 : ¬ (L.length : Int) < 4096 + (q : Int) := by have := HN.out; omega
      clear hkk hlt hlen
      have HM : Hid (∀ x, x ∈ L.drop kk ++ L.take kk ↔ x ∈ L) := fun x => by
        rw [List.mem_append, or_comm, ← List.mem_append, List.take_append_drop]
      have HNR : Hid (Ed.nor m (L.drop kk ++ L.take kk) = if q = 0 then (L, 0) else ([], 3)) := by
        have hm' : Ed.many (m : Int) = true := by unfold Ed.many; simp; omega
        have hb' : (L.drop kk ++ L.take kk).any (Ed.bad (m : Int)) = false := by
          rw [List.any_eq_false]
          intro x hx
          exact List.any_eq_false.1 HG.out x ((HM.out x).1 hx)
        have hnr : Ed.nrm (L.drop kk ++ L.take kk) = L := (Ed.nrm_same HM.out).trans (Ed.nrm_self HR.out)
        by_cases h0 : q = 0
        · rw [Hid, if_pos h0, nor_yes hm' hb' (by rw [hnr, HN.out]; omega), hnr]
        · rw [Hid, if_neg h0, nor_long hm' hb' (by rw [hnr, HN.out]; omega)]
      have HF := own_from HO.out kk
      have HU := own_upto HO.out kk
      have HF : Hid _ := HF
      have HU : Hid _ := HU
      have HE : Hid (Edg wr (.slice (some ⟨gu, 0, none⟩) L.length capu) L) := Edg.of_own HO.out
      have hzk : (0 : Int) ≤ (kk : Int) := by omega
      have hkl2 : (kk : Int) ≤ (L.length : Int) := by omega
      have hkc : kk < capu := by omega
      have hkc2 : (kk : Int) ≤ (capu : Int) := by omega
      have HNM : Hid (∀ (v : Value) W, W.ownsRow wr.heap.size 24 2 v (L.length - kk + kk) (ecells (L.drop kk ++ L.take kk)) → Calls Try.prog 8 #[.int .i64 m, v] W fun e w' => ∃ u, e = .returned (.tuple #[u, .int .i64 (Ed.nor m (L.drop kk ++ L.take kk)).2]) ∧ Edg w' u (Ed.nor m (L.drop kk ++ L.take kk)).1 ∧ Below W.heap.size W w') := fun v W hW => normal_any v _ m W (Edg.of_own hW) (by rw [List.length_append, List.length_drop, List.length_take]; omega)
      have HL1 : Hid ((ecells (L.drop kk)).length = (L.length - kk) * 2) := by rw [Hid, ecells_len, List.length_drop]
      have HL2 : Hid ((ecells (L.take kk)).length = kk * 2) := by rw [Hid, ecells_len, List.length_take]; omega
      have o1 := ecells_one (L.drop kk)
      have o2 := ecells_one (L.take kk)
      have HEQ : Hid (ecells (L.drop kk ++ L.take kk) = ecells (L.drop kk) ++ ecells (L.take kk)) := ecells_app _ _
      rw [HEQ.out] at HNM
      clear HEQ
      generalize ecells (L.drop kk) = F1 at *
      generalize ecells (L.take kk) = F2 at *
      have HFd : Hid (∀ j u, F1[j]? = some u → wr.drew.cell? ((⟨gu, kk * 2, none⟩ : Addr).add j) = some u) := HF.out
      have o1 : Hid _ := o1
      have o2 : Hid _ := o2
      have hadr : ¬ capu = kk := by omega
      go_wp2_with fail
      go_region_law
        (first
        | (refine step_append_own (w := wr.drew) (by rfl) _ _ 22 (by rfl) wr.heap.size 24 i0 (.agg #[.int .i64 0, .int .i64 0]) 2 16 Try.underlying22 hi0 hz0 hz1 hz2 rfl (by omega) (.slice none 0 0) 0 [] (by rfl) (World.ownsRow_nil _ _ _ _) (some ⟨gu, kk * 2, none⟩) _ rfl (L.length - kk) (capu - kk) F1 (by simp [Act.eval, Act.put]) HL1.out HFd.out o1.out (by unfold maxLen; omega) (by omega) (Nat.le_refl _) ?_; intro v5 w5 hown5 hgrow5;
           have HX5 : Hid (Below wr.heap.size wr w5) := (Below.refl _ wr).drew.grown hgrow5 (Nat.le_refl _) (by intro k hk; cases hk);
           have HU5 : Hid (∀ j u, F2[j]? = some u → w5.cell? ((⟨gu, 0, none⟩ : Addr).add j) = some u) := fun j u hj => cell_after HX5.out (HU.out j u hj);
           have hbs5 := HX5.out.size)
        | (refine step_append_own (w := w5) (by rfl) _ _ 22 (by rfl) wr.heap.size 24 i0 (.agg #[.int .i64 0, .int .i64 0]) 2 16 Try.underlying22 hi0 hz0 hz1 hz2 rfl (by omega) v5 (0 + (L.length - kk)) ([] ++ F1) (by rfl) hown5 (some ⟨gu, 0, none⟩) ⟨gu, 0, none⟩ rfl kk capu F2 (by rfl) HL2.out HU5.out o2.out (by unfold maxLen; omega) (by omega) hbs5 ?_; intro v6 w6 hown6 hgrow6;
           have HX6 : Hid (Below wr.heap.size wr w6) := HX5.out.grown hgrow6 hbs5 (fun q e => (hown5.lt q e).1);
           have hO6 : w6.ownsRow wr.heap.size 24 2 v6 (L.length - kk + kk) (F1 ++ F2) := (by rw [Nat.zero_add] at hown6; exact hown6))
        | (go_simp; go_at_call 8; refine Calls.mono (HNM.out v6 w6 hO6) ?_; rintro e w7 ⟨u7, rfl, hu7, hb7⟩)
        | fail)
      all_goals
        have HB7 : Hid (Below wr.heap.size wr w7) := bnext HX6.out hb7
        have HA7 : Hid (Below w.heap.size w w7) := bnext HB.out HB7.out
        have HE7 : Hid (Edg w7 (.slice (some ⟨gu, 0, none⟩) L.length capu) L) := HE.out.later HB7.out
        have HU7 : Hid (Edg w7 u7 (Ed.nor m (L.drop kk ++ L.take kk)).1) := hu7
        rw [HNR.out] at HU7
        rw [HNR.out]
        clear HX5 HX6 hb7 hu7 HNR HM HF HU HFd HU5 hown5 hgrow5 hown6 hgrow6 hO6 HE HB HB7 HO HG HR HL1 HL2 o1 o2 HNM
        by_cases h0 : q = 0
        · subst h0
          rw [if_pos rfl] at HU7
          go_wp2_with fail
          refine (same_edg _ _ L L w7 HU7.out HE7.out (by omega) (by omega)).mono ?_
          rintro e w8 ⟨rfl, hb8⟩
          rw [show decide (L = L) = true from decide_eq_true rfl]
          replace hb8 : Hid (Below w.heap.size w w8) := bnext HA7.out hb8
          go_wp2_with fail
          refine (does_any _).mono ?_
          rintro e w9 ⟨rfl, hb9⟩
          replace hb9 : Hid (Below w.heap.size w w9) := bnext hb8.out hb9
          go_wp2
          go_ret
          exact ⟨rfl, hb9.out⟩
        · rw [if_neg h0] at HU7
          obtain ⟨a7, cap7, rfl, _, _⟩ := HU7.out
          clear HE7 HU7
          go_wp2_with fail
          refine (does_any _).mono ?_
          rintro e w9 ⟨rfl, hb9⟩
          replace hb9 : Hid (Below w.heap.size w w9) := bnext HA7.out hb9
          go_wp2
          go_ret
          exact ⟨rfl, hb9.out⟩

set_option maxRecDepth 100000 in
theorem edgesMany_lifted (os : Os) (started : os.Started) (H : Type) (enc : TypeId × Value → H) :
    ReturnsInHanded {} Try.checked os 7 .any (Rows.edgesManySpec.pre6 enc Try.prog Try.f7 Rows.edgesManyRow.domain false) (Rows.edgesManySpec.post enc Try.prog Try.f7 false true false false) := by
  refine returnsInHanded_of_change (C := Try.checked) Try.own started (by kernel_rfl) Try.func7
    (ChangeSpec.witness6 (enc := enc) (C := Try.checked) false ⟨#[], #[.int .u8 0, .int .u8 0, .int .u16 0], []⟩ 8 (by kernel_rfl) (by kernel_rfl) (by kernel_rfl) (by kernel_rfl)) ?_
  intro W base args ds gs before hval0 hW hcnd _
  have hval : ∀ (j : Nat) t v, Try.f7.params[j]? = some t → args[j]? = some v → Value.okWide Try.prog W .any base t v := hval0
  have hW' := hW
  obtain ⟨p, q, hA0, hV, rfl, hfz, hnd⟩ := hW
  have hA : DataW.TrodAll enc Try.prog W 0 (fun _ => true) true Try.f7.params.toList args.toList ds p := hA0
  rw [Try.params7] at hA hval
  obtain ⟨v0, vs0, d0, ds0, p0, q0, hargs, rfl, rfl, h0, r0⟩ := trodAll_cons hA
  obtain ⟨v1, vs1, d1, ds1, p1, q1, rfl, rfl, rfl, h1, r1⟩ := trodAll_cons r0
  obtain ⟨v2, vs2, d2, ds2, p2, q2, rfl, rfl, rfl, h2, r2⟩ := trodAll_cons r1
  obtain ⟨rfl, rfl, rfl⟩ := trodAll_nil r2
  obtain rfl : args = #[v0, v1, v2] := by cases args; simp_all
  obtain ⟨rfl, rfl⟩ := trodVars_none hV
  obtain ⟨a0, rfl, rfl, rfl, w0⟩ := open_int Try.underlying5 (hval 0 5 v0 rfl rfl) h0
  obtain ⟨a1, rfl, rfl, rfl, w1⟩ := open_int Try.underlying5 (hval 1 5 v1 rfl rfl) h1
  obtain ⟨a2, rfl, rfl, rfl, w2⟩ := open_int Try.underlying38 (hval 2 38 v2 rfl rfl) h2
  clear hA0 hval0
  simp only [List.append_nil] at hW'
  refine (edgesMany_walk a0 a1 a2 W w0 w1 w2).mono fun e W' ⟨he, bel⟩ => ?_
  subst he
  exact ⟨_, rfl, _, _, _, [], [], [], hW', trodAll_mk1 (shut_bool Try.underlying4 _), (trodAll_cons_mk (shut_int Try.underlying5 w0) (trodAll_cons_mk (shut_int Try.underlying5 w1) (trodAll_cons_mk (shut_int Try.underlying38 w2) trodAll_mk0))), rfl, bel.frame _, fun h => by cases h⟩

theorem edgesMany_holds : Rows.EdgesManySaid :=
  OpenClaim.holds_of_wide 7 Try.f7 rfl rfl rfl rfl rfl rfl rfl ⟨rfl, rfl, rfl, rfl, rfl⟩ rfl rfl rfl rfl rfl (by kernel_rfl) Try.func7 (by kernel_rfl)
    (of_decide_eq_true (by kernel_rfl)) (by unfold Func.isWrapper; first | (rw [if_pos (by decide +kernel)]; kernel_rfl) | (rw [if_neg (by decide +kernel)]; exact ⟨rfl, rfl⟩))
    (fun os started H enc _ => edgesMany_lifted os started H enc)

end Go.Proofs.Ytmgikaanckbadaa
