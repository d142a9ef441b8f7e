/- The walk of gaps.Encode: for every slice of ints it tells the bytes of the list, or ErrArg; nothing that was in memory has changed. -/
import Derived.Test.YtmekaofjcjmklaaGBuild
import Derived.RangeFuncNested
import Derived.RangeFuncBound
import Derived.RangeFuncBox
import Derived.RangeFuncCalls
import Derived.RangeFuncLeaves
import Derived.Shelf.Abstract
import Derived.Shelf.RegionOpen
import Derived.WalkKit
import Derived.OwnWalkIn
import Derived.TacticsInMore
import Derived.LoopNIn
import Derived.LoopIn
namespace Go.Proofs.Ytmekaofjcjmklaa
open Go.RowKit Go.Shelf
attribute [local go_sem] Oper.semAt_some

namespace Gp
/-- An int. -/
abbrev I64 := { x : Int // -9223372036854775808 ≤ x ∧ x ≤ 9223372036854775807 }
def mkI (x : Int) : I64 := if h : -9223372036854775808 ≤ x ∧ x ≤ 9223372036854775807 then ⟨x, h⟩ else ⟨0, by decide⟩
theorem mkI_val (x : Int) (h : -9223372036854775808 ≤ x ∧ x ≤ 9223372036854775807) : (mkI x).1 = x := by simp [mkI, h]
/-- The first k gaps. -/
def firstGaps (zs : List Int) (k : Nat) : List I64 := (gs (-1) (zs.take k)).map mkI
theorem firstGaps_succ (zs : List Int) (k : Nat) (h : k < zs.length) : firstGaps zs (k + 1) = firstGaps zs k ++ [mkI (zs.getD k 0 - (prev zs k + 1))] := by
  unfold firstGaps
  rw [gs_take zs k h, List.map_append]
  rfl
theorem firstGaps_length (zs : List Int) (k : Nat) (h : k ≤ zs.length) : (firstGaps zs k).length = k := by
  unfold firstGaps
  rw [List.length_map, gs_length, List.length_take]
  omega
/-- Their bytes. -/
def bytesI (p : List I64) : List UInt8 := p.flatMap fun x => Vi.putL x.1
theorem bytesI_snoc (p : List I64) (x : I64) : bytesI (p ++ [x]) = bytesI p ++ Vi.putL x.1 := by simp [bytesI]
theorem bytesI_len (p : List I64) : (bytesI p).length ≤ 10 * p.length := by
  unfold bytesI
  induction p with
  | nil => simp
  | cons x p ih =>
    have := putL_len x.1
    simp only [List.flatMap_cons, List.length_append, List.length_cons]
    omega
theorem gs_fit : ∀ (a : Int) (l : List Int), -1 ≤ a → up a l = true → Fit l → ∀ g ∈ gs a l, 0 ≤ g ∧ g ≤ 9223372036854775807 := by
  intro a l
  induction l generalizing a with
  | nil => intro _ _ _ g hg; simp [gs] at hg
  | cons n l ih =>
    intro ha hu hf g hg
    simp only [up, Bool.and_eq_true, decide_eq_true_eq] at hu
    have hn := hf n (by simp)
    rcases List.mem_cons.1 hg with rfl | hg
    · omega
    · exact ih n (by omega) hu.2 (fun z hz => hf z (by simp [hz])) g hg
theorem bytes_all (zs : List Int) (hu : up (-1) zs = true) (hf : Fit zs) : bytesI (firstGaps zs zs.length) = body (-1) zs := by
  have hg := gs_fit (-1) zs (by omega) hu hf
  unfold firstGaps bytesI body
  rw [List.take_length]
  revert hg
  generalize gs (-1) zs = l
  intro hg
  induction l with
  | nil => rfl
  | cons g l ih =>
    have h1 := hg g (by simp)
    rw [List.map_cons, List.flatMap_cons, List.flatMap_cons, mkI_val g (by omega), ih (fun x hx => hg x (by simp [hx]))]
end Gp

set_option maxRecDepth 100000 in
set_option maxHeartbeats 2000000 in
/-- The closure that between makes, over a list that rises, whatever the loop's body does that keeps what lay below n₀. -/
theorem between1_in (F : Fence) (n : Nat) (hF : F.fn 45) (hro : F.round = none) (hn : 1 ≤ n) (l Bs n₀ b off cap : Nat) (zs : List Int) (hl : zs.length ≤ 1000000000000) (hb : b < n₀) (hu : Gp.up (-1) zs = true) (hf : Gp.Fit zs)
    (J Jx : List Gp.I64 → World → Prop)
    (hY : ∀ pre x W, J pre W → pre.length < zs.length → YieldAt F (n - 1) Try.prog l #[.int .i64 x.1] W fun e W' =>
      (e = .returned (.bool true) ∧ J (pre ++ [x]) W' ∧ Below n₀ W W') ∨ (e = .returned (.bool false) ∧ Jx (pre ++ [x]) W'))
    (W : World) (hBs : W.cell? ⟨Bs, 0, none⟩ = some (.slice (some ⟨b, off, none⟩) zs.length cap)) (hc : ∀ j, j < zs.length → W.cell? ⟨b, off + j, none⟩ = some (.int .i64 (zs.getD j 0))) (h0 : J [] W) :
    CallsIn F n Try.prog 45 #[.func (.yield l) #[] #[], .pointer (some ⟨Bs, 0, none⟩)] W fun e W' => (∃ v, e = .returned v) ∧
      ((∃ ys, ys = Gp.firstGaps zs zs.length ∧ J ys W') ∨ (∃ pre, (∃ k, k ≤ zs.length ∧ pre = Gp.firstGaps zs k) ∧ Jx pre W')) := by
  have HC : Hid _ := hc
  have HU : Hid _ := Gp.up_at zs hu
  have HF : Hid _ := hf
  have HY : Hid _ := hY
  clear hc hu hf hY
  refine callsIn_of_wp Try.func45 rfl hF ?_ hro
  simp only [Try.ntmps45, List.size_toArray, List.length_cons, List.length_nil, Nat.reduceAdd, Nat.reduceSub, Array.replicate_succ, Array.replicate_zero, List.push_toArray, List.append_toArray, List.nil_append, List.cons_append]
  gi_wp2
  gi_loopw [3, 8] (fun p i wr => ∃ k : Nat, k ≤ zs.length ∧ i = .int .i64 k ∧ p = .int .i64 (Gp.prev zs k) ∧ J (Gp.firstGaps zs k) wr ∧ Below n₀ W wr)
    (fun _ i _ => zs.length - (intOf i).toNat)
  case atStart => exact ⟨0, Nat.zero_le _, rfl, rfl, h0, Below.refl _ _⟩
  case round =>
    obtain ⟨k, hk, rfl, rfl, hJs, hnx⟩ := hrel
    by_cases hlt : k < zs.length
    · have hcx : wr.cell? ⟨b, off + k, none⟩ = some (.int .i64 (zs.getD k 0)) := (hnx.cell (p := ⟨b, off + k, none⟩) hb).trans (HC.out k hlt)
      have hu1 := HU.out k hlt
      have hf1 := Gp.fit_at HF.out k
      have HN : Hid _ := Gp.prev_succ zs k
      have HS : Hid _ := Gp.firstGaps_succ zs k hlt
      generalize zs.getD k 0 = z at *
      generalize Gp.prev zs k = y at *
      obtain ⟨fn, tmps, assign, body, hy, hR⟩ := HY.out _ ⟨z - (y + 1), by omega⟩ wr hJs (by rw [Gp.firstGaps_length zs k hk]; exact hlt)
      dsimp only at hy
      have HM : Hid (Gp.mkI (z - (y + 1)) = ⟨z - (y + 1), by omega⟩) := Subtype.ext (Gp.mkI_val _ (by omega))
      gi_wp2
      refine hR.mono ?_
      rintro e W3 (⟨rfl, hJ3, hk3⟩ | ⟨rfl, hJx3⟩)
      · gi_wp2
        go_roundw
        case rel => exact ⟨k + 1, by omega, by simp, by rw [HN.out], by rw [HS.out, HM.out]; exact hJ3, hnx.trans hk3⟩
        case measure => simp [intOf]; omega
      · gi_wp2
        refine bodyPost_ret (results_none rfl _ _ _) rfl ?_
        exact ⟨⟨_, rfl⟩, .inr ⟨_, ⟨k + 1, by omega, by rw [HS.out, HM.out]⟩, hJx3⟩⟩
    · obtain rfl : k = zs.length := by omega
      generalize Gp.prev zs zs.length = y at *
      gi_wp2
      go_end0
      exact ⟨⟨_, rfl⟩, .inl ⟨_, rfl, hJs⟩⟩

set_option maxRecDepth 100000 in
set_option maxHeartbeats 1000000 in
theorem between1_none (F : Fence) (n : Nat) (hF : F.fn 45) (hro : F.round = none) (l Bs cap : Nat) (a : Option Addr) (J : List Gp.I64 → World → Prop) (W : World) (hBs : W.cell? ⟨Bs, 0, none⟩ = some (.slice a 0 cap)) (h0 : J [] W) :
    CallsIn F n Try.prog 45 #[.func (.yield l) #[] #[], .pointer (some ⟨Bs, 0, none⟩)] W fun e W' => (∃ v, e = .returned v) ∧ J [] W' := by
  refine callsIn_of_wp Try.func45 rfl hF ?_ hro
  simp only [Try.ntmps45, List.size_toArray, List.length_cons, List.length_nil, Nat.reduceAdd, Nat.reduceSub, Array.replicate_succ, Array.replicate_zero, List.push_toArray, List.append_toArray, List.nil_append, List.cons_append]
  gi_wp2
  gi_loopw [8] (fun i wr => i = .int .i64 0 ∧ J [] wr) (fun _ _ => 0)
  case atStart => exact ⟨rfl, h0⟩
  case round =>
    obtain ⟨rfl, hJs⟩ := hrel
    gi_wp2
    go_end0
    exact ⟨⟨_, rfl⟩, hJs⟩

set_option maxHeartbeats 1000000 in
theorem between_in (F : Fence) (n : Nat) (hF : F.fn 31) (hro : F.round = none) (a : Option Addr) (len cap : Nat) (w : World) :
    CallsIn F n Try.prog 31 #[.slice a len cap] w fun e w' => e = .returned (.func (.func 45) #[] #[.pointer (some ⟨w.heap.size, 0, none⟩)]) ∧ w' = w.alloc (.cells #[.slice a len cap] 44) := by
  refine callsIn_of_wp Try.func31 rfl hF ?_ hro
  simp only [Try.ntmps31, List.size_toArray, List.length_cons, List.length_nil, Nat.reduceAdd, Nat.reduceSub, Array.replicate_succ, Array.replicate_zero, List.push_toArray, List.append_toArray, List.nil_append, List.cons_append]
  gi_wp2
  go_ret
  exact ⟨rfl, rfl⟩

/-- The value that between tells: all gaps, in order, or the first ones. -/
theorem between_stops (F : Fence) (n : Nat) (hF : F.fn 45) (hro : F.round = none) (hn : 1 ≤ n) (Bs n₀ cap : Nat) (a : Option Addr) (zs : List Int) (hl : zs.length ≤ 1000000000000) (w : World) (hBs : Bs < w.heap.size) (hn₀ : n₀ ≤ w.heap.size)
    (hc : w.cell? ⟨Bs, 0, none⟩ = some (.slice a zs.length cap)) (hI : zs = [] ∨ ∃ b off, a = some ⟨b, off, none⟩ ∧ b < n₀ ∧ ∀ j, j < zs.length → w.cell? ⟨b, off + j, none⟩ = some (.int .i64 (zs.getD j 0)))
    (hu : Gp.up (-1) zs = true) (hf : Gp.Fit zs) :
    SeqStopsK F n Try.prog 45 #[.pointer (some ⟨Bs, 0, none⟩)] (fun x : Gp.I64 => #[Value.int .i64 x.1]) (Below n₀) (fun ys => ys = Gp.firstGaps zs zs.length) (fun pre => ∃ k, k ≤ zs.length ∧ pre = Gp.firstGaps zs k) zs.length w := fun l J Jx W hW _ _ hY h0 => by
  have hc' := (hW.cell (p := ⟨Bs, 0, none⟩) hBs).trans hc
  rcases hI with rfl | ⟨b, off, rfl, hb, hcs⟩
  · exact (between1_none F n hF hro l Bs cap a J W hc' h0).mono fun e W' ⟨he, hj⟩ => ⟨he, .inl ⟨_, rfl, hj⟩⟩
  · exact between1_in F n hF hro hn l Bs n₀ b off cap zs hl hb hu hf J Jx hY W hc' (fun j hj => ((hW.mono hn₀).cell (p := ⟨b, off + j, none⟩) hb).trans (hcs j hj)) h0

theorem keeps_below {W W' : World} (h : Below W.heap.size W W') : KeepsOthers W W' := ⟨h.size, fun k _ hk _ => (h.block k (Array.getElem?_eq_some_iff.1 hk).1).trans hk⟩

theorem keeps_else {B b n₀ : Nat} {l : List UInt8} {W W' : World} (hw : Wrote B b l W) (h : Else b W W') (hb : Below n₀ W W') : KeepsOthers W W' := by
  refine ⟨hb.size, fun k o hk ho => h k o hk ?_ ?_⟩
  · intro e
    obtain rfl : k = b := by simpa using e
    have key : ∀ p, ¬ Lib.BuilderAtF 62 5 B k p (Lib.byteCells l) W := by
      rintro p ⟨_, v, hbk, _⟩
      rw [hbk] at hk
      cases hk
      cases ho
    exact hw.elim (key _) (key _)
  · rintro c fz rfl
    cases ho

theorem encS_yes {zs : List Int} (h : Gp.up (-1) zs = true) : Gp.encS zs = Gp.enc zs := by simp [Gp.encS, h]
theorem encS_no {zs : List Int} (h : Gp.up (-1) zs = false) : Gp.encS zs = [] := by simp [Gp.encS, h]

set_option maxHeartbeats 1000000 in
theorem encode_no (v : Value) (zs : List Int) (w : World) (h : Ints w v zs) (hf : Gp.Fit zs) (hl : zs.length ≤ 1000000000) (hu : Gp.up (-1) zs = false) :
    Calls Try.prog 16 #[v] w fun e w' => e = .returned (.tuple #[.string ⟨#[]⟩, .int .i64 2]) ∧ Below w.heap.size w w' := by
  go_enter Try.func16, Try.ntmps16
  go_wp2_with fail
  refine (check_any v zs _ h hf (by omega)).mono ?_
  rintro e w' ⟨rfl, rfl⟩
  rw [err_no hu]
  go_wp2
  go_ret2
  exact ⟨rfl, Below.refl _ _⟩

set_option maxRecDepth 100000 in
set_option maxHeartbeats 2000000 in
theorem encode_yes (a : Option Addr) (cap : Nat) (zs : List Int) (w : World) (h : zs = [] ∨ ∃ b off, a = some ⟨b, off, none⟩ ∧ b < w.heap.size ∧ ∀ j, j < zs.length → w.cell? ⟨b, off + j, none⟩ = some (.int .i64 (zs.getD j 0))) (hf : Gp.Fit zs) (hl : zs.length ≤ 1000000000) (hu : Gp.up (-1) zs = true) :
    Calls Try.prog 16 #[.slice a zs.length cap] w fun e w' => e = .returned (.tuple #[.string ⟨(Gp.enc zs).toArray⟩, .int .i64 0]) ∧ Below w.heap.size w w' := by
  refine (callsIn_wide (n := 5)).1 ?_
  refine callsIn_of_wp_marks Try.func16 rfl trivial ?_ rfl
  simp only [Try.ntmps16, List.size_toArray, List.length_cons, List.length_nil, Nat.reduceAdd, Nat.reduceSub, Array.replicate_succ, Array.replicate_zero, List.push_toArray, List.append_toArray, List.nil_append, List.cons_append]
  gi_wp2_with fail
  refine ⟨trivial, (callsIn_wide.2 (check_any _ zs _ ⟨a, cap, rfl, h⟩ hf (by omega))).mono ?_⟩
  rintro e w' ⟨rfl, rfl⟩
  rw [err_yes hu]
  gi_wp2_with fail
  refine ⟨trivial, (callsIn_wide.2 (put_any _ _ (by omega) (by omega))).mono ?_⟩
  rintro e w1 ⟨rfl, hb1⟩
  have hw0 : Wrote w'.heap.size w'.heap.size [] (w'.alloc (.cells #[.pointer none, .slice none 0 0] 62)) := Lib.IsBuilderF.of (Lib.fresh_isBuilder 62 5 w')
  have hB1 : Below w'.heap.size w' w1 := ((Below.refl _ w').alloc (Nat.le_refl _) _).trans (hb1.mono (by simp))
  have hw1 := hw0.later hb1
  have hpl := Gp.putL_len zs.length
  gi_wp2_with fail
  refine ⟨trivial, (callsIn_wide.2 (write_str _ _ _ _ _ hw1 (by simp; omega) hB1.size)).mono ?_⟩
  rintro e w2 ⟨⟨v2, rfl⟩, hw2, hb2, hk2⟩
  have hB2 := hB1.trans hb2
  clear hw0 hb1 hw1 hb2 hk2 hB1
  gi_wp2_with fail
  refine ⟨trivial, (between_in Fence.wide _ trivial rfl _ _ _ _).mono ?_⟩
  rintro e w3 ⟨rfl, rfl⟩
  gi_wp2_with fail
  rw [List.nil_append] at hw2
  have bN := Boxed.new w2 44 (.slice a zs.length cap)
  have hB3 : Below w'.heap.size w' (w2.alloc (.cells #[.slice a zs.length cap] 44)) := hB2.alloc hB2.size _
  have hsz := hB2.size
  refine wpIn_rangeFunc_ownG rfl (by omega) (gf := 45) (lb := #[.pointer (some ⟨w2.heap.size, 0, none⟩)]) rfl trivial (enters_of Try.func45 (by kernel_rfl) rfl)
    (between_stops Fence.wide (5 - 1) trivial rfl (by omega) w2.heap.size w'.heap.size cap a zs (by omega) _ (by simp) (by simp; omega) bN.cell
      (by
        rcases h with h | ⟨b, off, h1, h2, h3⟩
        · exact .inl h
        · exact .inr ⟨b, off, h1, h2, fun j hj => (hB3.cell (p := ⟨b, off + j, none⟩) h2).trans (h3 j hj)⟩) hu hf)
    belowK_t (belowK_b (by simp; omega)) (Below.refl _ _) (fun _ => rfl)
    (fun pre W => Wrote w'.heap.size w'.heap.size (Vi.putL zs.length ++ Gp.bytesI pre) W ∧ Below w'.heap.size w' W)
    (fun _ _ _ => False)
    (OwnFrom.and (Own.from (fun s A B row hs hg hr => hs.kept hg hr) _) (ownFrom_below (Nat.le_refl _) (by simp; omega)))
    (fun _ _ _ _ _ hs _ _ => hs)
    ⟨by rw [show Gp.bytesI [] = [] from rfl, List.append_nil]; exact hw2.kept (World.grownBy_alloc _ _ none) (fun r e => by cases e), hB3⟩
    (fun x => { tmps := #[.slice a zs.length cap, undef, .string ⟨#[]⟩, .int .i64 0, .int .i64 0, .pointer (some ⟨w'.heap.size, 0, none⟩), .int .i64 x.1, .slice a zs.length cap, .int .i64 0, .int .i64 0, .bool false, undef, .slice a zs.length cap, .int .i64 zs.length, .string ⟨(Vi.putL zs.length).toArray⟩, v2, .slice a zs.length cap, .func (.func 45) #[] #[.pointer (some ⟨w2.heap.size, 0, none⟩)], .int .i64 x.1, undef, undef, undef, undef], defers := [] }) ?assign ?body ?done ?stop
  case assign =>
    intro l x W K hK
    gi_wp2
    exact hK
  case body =>
    rintro l pre x W ⟨hw, hB⟩ hlt
    have hbl := Gp.bytesI_len pre
    have hxl := Gp.putL_len x.1
    gi_wp2_with fail
    refine ⟨trivial, (CallsIn.inRound l (callsIn_wide.2 (put_any x.1 _ x.2.1 x.2.2))).mono ?_⟩
    rintro e W1 ⟨rfl, hb1⟩
    have hB1 : Below w'.heap.size w' W1 := hB.trans (hb1.mono hB.size)
    gi_wp2_with fail
    refine ⟨trivial, (CallsIn.inRound l (callsIn_wide.2 (write_str _ _ _ _ _ (hw.later hb1) (by simp; omega) hB1.size))).mono ?_⟩
    rintro e W2 ⟨⟨v3, rfl⟩, hw3, hb3, hk3⟩
    gi_wp2
    exact ⟨((keeps_below hb1).trans (keeps_else (hw.later hb1) hk3 hb3)).from _, (hb1.mono hB.size).trans hb3, by rw [Gp.bytesI_snoc, ← List.append_assoc]; exact hw3, hB1.trans hb3⟩
  case done =>
    rintro D ys W hD rfl ⟨hw, hB⟩ hK
    rw [Gp.bytes_all zs hu hf] at hw
    gi_wp2_with fail
    refine ⟨trivial, (callsIn_wide.2 (string_any _ _ _ _ hw hB.size)).mono ?_⟩
    rintro e W2 ⟨rfl, hb3, hk3⟩
    have hK2 := (keeps_else hw hk3 hb3).same D _ hK rfl
    gi_wp2
    refine ⟨by simp, .inl ⟨_, _, rfl, run_takeDeferred hK2, ?_⟩⟩
    exact ⟨_, results_tmp2 rfl _ _ _, rfl, (hB.trans hb3).trans (belowK_b (w := w') (Nat.le_refl _) W2 D _ _ (by simp at hD; omega) hK2 rfl rfl)⟩
  case stop =>
    rintro D c pre W _ _ h _
    exact h.elim

theorem encode_any (v : Value) (zs : List Int) (w : World) (h : Ints w v zs) (hf : Gp.Fit zs) (hl : zs.length ≤ 1000000000) :
    Calls Try.prog 16 #[v] w fun e w' => e = .returned (.tuple #[.string ⟨(Gp.encS zs).toArray⟩, .int .i64 (Gp.err zs)]) ∧ Below w.heap.size w w' := by
  cases hu : Gp.up (-1) zs with
  | false =>
    rw [encS_no hu, err_no hu]
    exact encode_no v zs w h hf hl hu
  | true =>
    rw [encS_yes hu, err_yes hu]
    obtain ⟨a, cap, rfl, h⟩ := h
    exact encode_yes a cap zs w h hf hl hu

end Go.Proofs.Ytmekaofjcjmklaa
