/- The walk of the statements' helper Same of shards. -/
import Derived.Test.YtbhngncnhabbkaaGreatHRow
namespace Go.Proofs.YtbhngncnhabbkaaGreat
open Go.RowKit

theorem same_upto_o {xs ys : List (List Int)} {k : Nat} (hk : k = xs.length) (hl : xs.length = ys.length) (h : xs.take k = ys.take k) : xs = ys := by
  subst hk
  rw [List.take_length] at h
  rw [hl, List.take_length] at h
  exact h
theorem same_stop_o {xs ys : List (List Int)} {k : Nat} (h : xs.getD k [] ≠ ys.getD k []) : xs ≠ ys := by
  rintro rfl
  exact h rfl

set_option maxHeartbeats 1000000 in
set_option maxRecDepth 100000 in
theorem ssame_any (s t : Sh.Shard) (v u : Value) (w : World) (hv : Lists w v s.2) (hu : Lists w u t.2) (ls : s.2.length ≤ 1000000000000 ∧ ∀ l ∈ s.2, l.length ≤ 1000000000000) (lt : t.2.length ≤ 1000000000000 ∧ ∀ l ∈ t.2, l.length ≤ 1000000000000) :
    Calls Tryz.prog 14 #[.agg (scells s v), .agg (scells t u)] w fun e w' => e = .returned (.bool (decide (s = t))) ∧ Below w.heap.size w w' := by
  have HD : Hid (decide (s = t) = decide (s.1 = t.1 ∧ s.2 = t.2)) := decide_eq_decide.2 Prod.ext_iff
  rw [HD.out]
  obtain ⟨p, o⟩ := s
  obtain ⟨q, z⟩ := t
  unfold scells
  dsimp only at hv hu ls lt ⊢
  obtain ⟨a, cap, rfl, _, _⟩ := id hv
  obtain ⟨a', cap', rfl, _, _⟩ := id hu
  obtain ⟨wa, hwa⟩ : ∃ wa, w.alloc (.cells #[.int .i64 p.1, .int .i64 p.2, .slice a o.length cap] 26) = wa := ⟨_, rfl⟩
  obtain ⟨wb, hwb⟩ : ∃ wb, wa.alloc (.cells #[.int .i64 q.1, .int .i64 q.2, .slice a' z.length cap'] 26) = wb := ⟨_, rfl⟩
  have c0 : wb.cell? ⟨w.heap.size, 0, none⟩ = some (.int .i64 p.1) := by rw [← hwb, ← hwa]; simp
  have c1 : wb.cell? ⟨w.heap.size, 1, none⟩ = some (.int .i64 p.2) := by rw [← hwb, ← hwa]; simp
  have c2 : wb.cell? ⟨w.heap.size, 2, none⟩ = some (.slice a o.length cap) := by rw [← hwb, ← hwa]; simp
  have d0 : wb.cell? ⟨wa.heap.size, 0, none⟩ = some (.int .i64 q.1) := by rw [← hwb]; simp
  have d1 : wb.cell? ⟨wa.heap.size, 1, none⟩ = some (.int .i64 q.2) := by rw [← hwb]; simp
  have d2 : wb.cell? ⟨wa.heap.size, 2, none⟩ = some (.slice a' z.length cap') := by rw [← hwb]; simp
  have hbb : Hid (Below w.heap.size w wb) := by rw [← hwb, ← hwa]; exact ((Below.refl _ w).alloc (Nat.le_refl _) _).alloc (by simp) _
  have HV : Hid (Lists wb (.slice a o.length cap) o) := hv.later hbb.out
  have HU : Hid (Lists wb (.slice a' z.length cap') z) := hu.later hbb.out
  have HLS : Hid (∀ l ∈ o, l.length ≤ 1000000000000) := ls.2
  have HLT : Hid (∀ l ∈ z, l.length ≤ 1000000000000) := lt.2
  have ls1 := ls.1
  have lt1 := lt.1
  clear hv hu ls lt
  have hgd := part_guard
  by_cases hpq : p = q
  · have hne : ∀ w, Sem.run Tryz.prog (binOp .neq 23 (.agg #[.int .i64 p.1, .int .i64 p.2]) (.agg #[.int .i64 q.1, .int .i64 q.2])) w = .ok (.bool false) w := fun w => by rw [part_neq, decide_eq_true hpq]; rfl
    have HPQ : Hid (p = q) := hpq
    clear hpq
    by_cases hl : o.length = z.length
    · have HL : Hid (o.length = z.length) := hl
      rw [← hl] at d2 HU lt1
      clear hl
      have HEQ : Hid ((o = z) → decide (p = q ∧ o = z) = true) := fun h => decide_eq_true ⟨HPQ.out, h⟩
      have HNE : Hid (¬ (o = z) → decide (p = q ∧ o = z) = false) := fun h => decide_eq_false fun hh => h hh.2
      generalize decide (p = q ∧ o = z) = r at *
      generalize hn : o.length = n at *
      have HN : Hid (o.length = n) := hn
      clear hn
      go_enter Tryz.func14, Tryz.ntmps14
      go_wp2
      go_loopw [5] (fun i wr => ∃ k : Nat, k ≤ n ∧ i = .int .i64 k ∧ Hid (o.take k = z.take k) ∧ Hid (Below wb.heap.size wb wr)) (fun i _ => n - (intOf i).toNat)
      case atStart => exact ⟨0, Nat.zero_le _, rfl, rfl, Below.refl _ _⟩
      case round =>
        obtain ⟨k, hk, rfl, HT, HB⟩ := hrel
        have e2 := Later.cell (cell_after HB.out c2)
        have e4 := Later.cell (cell_after HB.out d2)
        have e2' := cell_after HB.out c2
        by_cases hlt : k < n
        · obtain ⟨b, off, rfl, x, hx, hi⟩ := HV.out.at_ (k := k) (by have := HN.out; omega)
          obtain ⟨b', off', rfl, x', hx', hi'⟩ := HU.out.at_ (k := k) (by have := HN.out; have := HL.out; omega)
          have c5 := Later.cell (cell_after HB.out hx)
          have c6 := Later.cell (cell_after HB.out hx')
          have m1 := HLS.out _ (getD_mem_o (o := o) (k := k) (by have := HN.out; omega))
          have m2 := HLT.out _ (getD_mem_o (o := z) (k := k) (by have := HN.out; have := HL.out; omega))
          have HC : Hid (∀ y : Later wr, Calls Tryz.prog 41 #[x, x'] y.world fun e w' => e = .returned (.bool (decide (o.getD k [] = z.getD k []))) ∧ Below y.world.heap.size y.world w') := fun y =>
            same_any x x' _ _ y.world ((hi.later HB.out).later y.below) ((hi'.later HB.out).later y.below) m1 m2
          have HX : Hid (o.take (k + 1) = o.take k ++ [o.getD k []]) := Sh.take_snoc_o o k (by have := HN.out; omega)
          have HY : Hid (z.take (k + 1) = z.take k ++ [z.getD k []]) := Sh.take_snoc_o z k (by have := HN.out; have := HL.out; omega)
          have HS : Hid (o.getD k [] ≠ z.getD k [] → o ≠ z) := same_stop_o
          have hsome := Later.some wr
          clear hi hi' hx hx' m1 m2
          generalize o.getD k [] = l at *
          generalize z.getD k [] = l' at *
          by_cases hll : l = l'
          · have HLL : Hid (l = l') := hll
            rw [decide_eq_true hll] at HC
            clear hll
            go_wp2_with fail
            refine wp_region_later (by kernel_rfl) (by kernel_rfl) ?_
            repeat (go_big_quiet_step ((go_at_call 41; exact Later.made (HC.out _))))
            refine wpQuiet_nil ?_
            intro w2 hw2
            obtain ⟨⟨w3, hb3⟩, rfl⟩ := hw2
            go_wp2
            go_roundw
            case rel => exact ⟨k + 1, by omega, by go_num, by rw [Hid, HX.out, HY.out, HT.out, HLL.out], bnext HB.out hb3⟩
            case measure => simp [intOf]; omega
          · have HLL : Hid (o ≠ z) := HS.out hll
            rw [decide_eq_false hll] at HC
            clear hll HS
            go_wp2_with fail
            refine wp_region_later (by kernel_rfl) (by kernel_rfl) ?_
            repeat (go_big_quiet_step ((go_at_call 41; exact Later.made (HC.out _))))
            refine wpQuiet_nil ?_
            intro w2 hw2
            obtain ⟨⟨w3, hb3⟩, rfl⟩ := hw2
            have HR : Hid (r = false) := HNE.out HLL.out
            go_wp2
            go_ret
            exact ⟨ret_bool HR.out.symm, hbb.out.trans ((bnext HB.out hb3).mono hbb.out.size)⟩
        · obtain rfl : k = n := by omega
          have HR : Hid (r = true) := HEQ.out (same_upto_o HN.out.symm (HN.out.trans HL.out) HT.out)
          go_wp2
          go_ret
          exact ⟨ret_bool HR.out.symm, hbb.out.trans (HB.out.mono hbb.out.size)⟩
    · have HR : Hid (decide (p = q ∧ o = z) = false) := decide_eq_false fun hh => hl (by rw [hh.2])
      generalize decide (p = q ∧ o = z) = r at *
      have hb : ((o.length : Int) == (z.length : Int)) = false := by simp; omega
      generalize o.length = n at *
      generalize z.length = m at *
      go_enter Tryz.func14, Tryz.ntmps14
      go_wp2
      go_ret
      exact ⟨ret_bool HR.out.symm, hbb.out⟩
  · have hne : ∀ w, Sem.run Tryz.prog (binOp .neq 23 (.agg #[.int .i64 p.1, .int .i64 p.2]) (.agg #[.int .i64 q.1, .int .i64 q.2])) w = .ok (.bool true) w := fun w => by rw [part_neq, decide_eq_false hpq]; rfl
    have HR : Hid (decide (p = q ∧ o = z) = false) := decide_eq_false fun hh => hpq hh.1
    generalize decide (p = q ∧ o = z) = r at *
    clear hpq
    go_enter Tryz.func14, Tryz.ntmps14
    go_wp2
    go_ret
    exact ⟨ret_bool HR.out.symm, hbb.out⟩

end Go.Proofs.YtbhngncnhabbkaaGreat

/- Lists and shards in plain words, place by place. -/
namespace Go.Proofs.YtbhngncnhabbkaaGreat
open Go.RowKit

namespace Sh
theorem okF_take (a : Int) : ∀ (o : List (List Int)) (k : Nat), k < o.length → okF a (o.take (k + 1)) = (okF a (o.take k) && okL (a + k) (o.getD k []))
  | [], k, h => by simp at h
  | l :: o, 0, _ => by simp [okF]
  | l :: o, k + 1, h => by
    rw [List.take_succ_cons, okF, okF_take (a + 1) o k (by simpa using h), List.take_succ_cons, okF, Bool.and_assoc, show a + 1 + (k : Int) = a + ((k + 1 : Nat) : Int) by omega]
    rfl
theorem okF_stop {a : Int} {o : List (List Int)} {k : Nat} (h : okF a (o.take k) = false) : okF a o = false := by
  conv => lhs; rw [← List.take_append_drop k o]
  generalize o.take k = u at *
  generalize o.drop k = z at *
  induction u generalizing a with
  | nil => simp [okF] at h
  | cons l u ih =>
    rw [List.cons_append, okF]
    rw [okF] at h
    cases hl : okL a l with
    | false => rfl
    | true =>
      rw [hl, Bool.true_and] at h
      rw [ih h]; simp
theorem okL_iff {v : Int} {l : List Int} : okL v l = true ↔ Gp.up (-1) l = true ∧ ∀ j, j < l.length → l.getD j 0 < 256 ∧ l.getD j 0 ≠ v := by
  unfold okL
  rw [Bool.and_eq_true, List.all_eq_true]
  refine and_congr_right fun _ => ⟨fun h j hj => ?_, fun h x hx => ?_⟩
  · have := h (l.getD j 0) (by rw [List.getD_eq_getElem?_getD, List.getElem?_eq_getElem hj]; exact List.getElem_mem hj)
    simpa using this
  · obtain ⟨j, hj, rfl⟩ := List.mem_iff_getElem.1 hx
    have := h j hj
    rw [List.getD_eq_getElem?_getD, List.getElem?_eq_getElem hj] at this
    simpa using this
theorem chk_no {s : Shard} (h : may s ≠ true) : chk s = 2 := by unfold chk; rw [if_neg h]
theorem chk_yes {s : Shard} (h : may s = true) : chk s = 0 := by unfold chk; rw [if_pos h]
end Sh

theorem many_fit {o : List (List Int)} (h : FitS o) : Sh.many o ≤ 1000000000000 := by
  have e : ∀ (q : List (List Int)), (∀ l ∈ q, l.length ≤ 1000000) → Sh.many q ≤ q.length * 1000000 := by
    intro q
    induction q with
    | nil => intro _; simp [Sh.many]
    | cons l q ih =>
      intro hq
      have h1 := hq l List.mem_cons_self
      have h2 := ih fun l hl => hq l (List.mem_cons_of_mem _ hl)
      have e : Sh.many (l :: q) = l.length + Sh.many q := by simp [Sh.many]
      rw [e, List.length_cons]; omega
  have h1 := e o fun l hl => (h.2 l hl).1
  have h2 := h.1
  omega
/-- The k-th place of a list that lies in a slice. -/
theorem Ints.at_ {W : World} {a : Option Addr} {n cap : Nat} {l : List Int} (h : Ints W (.slice a n cap) l) : l = [] ∨ ∃ b off, a = some ⟨b, off, none⟩ ∧ ∀ j, j < l.length → W.cell? ⟨b, off + j, none⟩ = some (.int .i64 (l.getD j 0)) := by
  obtain ⟨a', cap', e, h⟩ := h
  simp only [Value.slice.injEq] at e
  obtain ⟨rfl, _, _⟩ := e
  rcases h with h | ⟨b, off, rfl, _, hc⟩
  · exact .inl h
  · exact .inr ⟨b, off, rfl, hc⟩

end Go.Proofs.YtbhngncnhabbkaaGreat

/- Rows of bytes that the call itself made: what string(b) tells of them; what a store makes of them. -/
namespace Go.Proofs.YtbhngncnhabbkaaGreat
open Go.RowKit

theorem made_zeros (n : Nat) : (madeCells #[Value.int .u8 0] n).toList = bcells (List.replicate n 0) := by
  rw [toList_madeCells_one]
  simp [bcells]

theorem bcells_set (l : List UInt8) (k : Nat) (b : UInt8) : (bcells l).set k (.int .u8 b.toNat) = bcells (l.set k b) := by
  simp [bcells, List.map_set]

theorem bcells_get (l : List UInt8) (k : Nat) (h : k < l.length) : (bcells l)[k]? = some (.int .u8 (l[k].toNat : Int)) := by
  simp [bcells, h]

/-- What lies in a row. -/
theorem row_cell {W : World} {B n : Nat} {l : List UInt8} (hl : l.length = n) (hown : W.ownsRow B 5 1 (.slice (some ⟨B, 0, none⟩) n n) n (bcells l)) (k : Nat) (hk : k < n) :
    W.cell? ⟨B, k, none⟩ = some (.int .u8 ((l[k]'(by omega)).toNat : Int)) := by
  rw [hown.cellAt k (by omega), bcells_get l k (by omega)]

/-- A store into a row. -/
theorem row_store {w W : World} {B n : Nat} {l : List UInt8} (hB : B = w.heap.size) (hown : W.ownsRow B 5 1 (.slice (some ⟨B, 0, none⟩) n n) n (bcells l)) (hbel : Below w.heap.size w W) (k : Nat) (b : UInt8) :
    (W.setCell ⟨B, k, none⟩ (.int .u8 (b.toNat : Int))).ownsRow B 5 1 (.slice (some ⟨B, 0, none⟩) n n) n (bcells (l.set k b)) ∧ Below w.heap.size w (W.setCell ⟨B, k, none⟩ (.int .u8 (b.toNat : Int))) := by
  have hs := (hown.stored k (.int .u8 (b.toNat : Int))).1
  rw [bcells_set] at hs
  exact ⟨hs, hbel.setCell (by subst hB; exact Nat.le_refl _) _⟩

/-- string([]byte{..}) of a number's four bytes: the block that is laid for it, and the text. -/
theorem conv_four (W : World) (n : Nat) (h : n < 4294967296) :
    (convert 47 9 (.slice (some ⟨W.heap.size, 0, none⟩) 4 4)).run Tryz.prog (W.alloc (.cells #[.int .u8 ((n : Int) % 256), .int .u8 ((n : Int) / 256 % 256), .int .u8 ((n : Int) / 65536 % 256), .int .u8 ((n : Int) / 16777216)] 5)) =
      .ok (.string ⟨(Cr.four n).toArray⟩) (W.alloc (.cells #[.int .u8 ((n : Int) % 256), .int .u8 ((n : Int) / 256 % 256), .int .u8 ((n : Int) / 65536 % 256), .int .u8 ((n : Int) / 16777216)] 5)) := by
  have hown := World.ownsRow_lit (e := 5) (size := 1) (base := W.heap.size) W #[.int .u8 ((n : Int) % 256), .int .u8 ((n : Int) / 256 % 256), .int .u8 ((n : Int) / 65536 % 256), .int .u8 ((n : Int) / 16777216)] 4 (Nat.le_refl _) (by decide) rfl
  have e (m : Nat) : ((UInt8.ofNat m).toNat : Int) = (m : Int) % 256 := by
    rw [show (UInt8.ofNat m).toNat = m % 256 from rfl]; omega
  have e0 : (#[Value.int .u8 ((n : Int) % 256), .int .u8 ((n : Int) / 256 % 256), .int .u8 ((n : Int) / 65536 % 256), .int .u8 ((n : Int) / 16777216)] : Array Value).toList = bcells (Cr.four n) := by
    simp only [bcells, Cr.four, List.map_cons, List.map_nil, e]
    have e3 : (n : Int) / 16777216 = (n : Int) / 16777216 % 256 := by omega
    conv => lhs; rw [e3]
    simp
  rw [e0] at hown
  exact conv_own _ _ _ _ _ rfl hown

theorem app_bytesXS (s : ByteArray) (q : List UInt8) : (s ++ ⟨q.toArray⟩).data.toList = s.data.toList ++ q := by
  simp

end Go.Proofs.YtbhngncnhabbkaaGreat
