/- The walk of gaps.Decode: for every string and place it tells the list whose bytes stand there and the place behind them, or ErrForm; nothing that was in memory has changed. -/
import Derived.Test.YtmekaofjcjmklaaGEnc
namespace Go.Proofs.Ytmekaofjcjmklaa
open Go.RowKit Go.Shelf
attribute [local go_sem] Oper.semAt_some

/-- The block is as it was. -/
abbrev Stays (B : Nat) (W W' : World) : Prop := W'.heap[B]? = W.heap[B]?

theorem run_stop (s : List UInt8) (k : Nat) (i : Int) (h : (Vi.getS s i).2.2 = false) : Gp.run s k i = [] := by
  cases k with
  | zero => rfl
  | succ k => unfold Gp.run; rw [if_neg (by rw [h]; decide)]
theorem run_more (s : List UInt8) (k : Nat) (i g x : Int) (h : Vi.getS s i = (g, x, true)) : Gp.run s (k + 1) i = Gp.mk g x :: Gp.run s k x := by
  rw [Gp.run, h, if_pos rfl]

set_option maxRecDepth 100000 in
set_option maxHeartbeats 2000000 in
/-- The closure that written makes, whatever the loop's body does that leaves the box of s as it is. -/
theorem written1_in (n : Nat) (hn : 1 ≤ n) (l Ba Bc Bs c : Nat) (s : ByteArray) (i0 : Int) (hs : s.size ≤ 1000000000000) (hc : (c : Int) ≤ 9223372036854775807) (J Jx : List Gp.Gap → World → Prop)
    (hY : ∀ pre x W, J pre W → pre.length < c → YieldAt Fence.wide (n - 1) Try.prog l #[.int .i64 x.1.1, .int .i64 x.1.2] W fun e W' =>
      (e = .returned (.bool true) ∧ J (pre ++ [x]) W' ∧ Stays Bs W W') ∨ (e = .returned (.bool false) ∧ Jx (pre ++ [x]) W'))
    (W : World) (hBa : W.cell? ⟨Ba, 0, none⟩ = some (.int .i64 i0)) (hBc : W.cell? ⟨Bc, 0, none⟩ = some (.int .i64 c)) (hBs : W.cell? ⟨Bs, 0, none⟩ = some (.string s)) (h0 : J [] W) :
    CallsIn Fence.wide n Try.prog 56 #[.func (.yield l) #[] #[], .pointer (some ⟨Ba, 0, none⟩), .pointer (some ⟨Bc, 0, none⟩), .pointer (some ⟨Bs, 0, none⟩)] W fun e W' => (∃ v, e = .returned v) ∧
      ((∃ ys, ys = Gp.run s.data.toList c i0 ∧ J ys W') ∨ (∃ pre, pre <+: Gp.run s.data.toList c i0 ∧ Jx pre W')) := by
  have HY : Hid _ := hY
  clear hY
  refine callsIn_of_wp Try.func56 rfl trivial ?_ rfl
  simp only [Try.ntmps56, List.size_toArray, List.length_cons, List.length_nil, Nat.reduceAdd, Nat.reduceSub, Array.replicate_succ, Array.replicate_zero, List.push_toArray, List.append_toArray, List.nil_append, List.cons_append]
  gi_wp2
  gi_loopw [5, 11] (fun p i wr => ∃ (k : Nat) (pre : List Gp.Gap), k ≤ c ∧ i = .int .i64 k ∧ p = .int .i64 (Gp.place i0 pre) ∧ pre.length = k ∧ Gp.run s.data.toList c i0 = pre ++ Gp.run s.data.toList (c - k) (Gp.place i0 pre) ∧ J pre wr ∧ Stays Bs W wr)
    (fun _ i _ => c - (intOf i).toNat)
  case atStart => exact ⟨0, [], Nat.zero_le _, rfl, rfl, rfl, rfl, h0, rfl⟩
  case round =>
    obtain ⟨k, pre, hk, rfl, rfl, hpl, hrun, hJs, hst⟩ := hrel
    have HR : Hid _ := hrun
    clear hrun
    have hBs' : wr.cell? ⟨Bs, 0, none⟩ = some (.string s) := (World.cell?_of_block (w := W) hst).trans hBs
    by_cases hlt : k < c
    · have HP : Hid _ := (rfl : Gp.place i0 pre = Gp.place i0 pre)
      gi_wp2_with fail
      refine ⟨trivial, (callsIn_wide.2 (get_any s (Gp.place i0 pre) _ (by omega))).mono ?_⟩
      rintro e w' ⟨g, x, ok, rfl, hg, rfl⟩
      clear HP
      cases ok with
      | false =>
        have hend : Gp.run s.data.toList c i0 = pre := by
          rw [HR.out, run_stop _ _ _ (by rw [hg.out]), List.append_nil]
        have HE : Hid _ := hend
        clear hend
        gi_wp2
        refine ⟨fun _ h => (by cases h), ?_⟩
        gi_wp2
        refine bodyPost_ret (results_none rfl _ _ _) rfl ?_
        exact ⟨⟨_, rfl⟩, .inl ⟨_, HE.out.symm, hJs⟩⟩
      | true =>
        have hgs := Gp.getS_some s.data.toList (Gp.place i0 pre) (by rw [hg.out])
        rw [hg.out] at hgs
        have HG : Hid (0 ≤ g ∧ g ≤ 9223372036854775807) := ⟨hgs.2.1, hgs.2.2.1⟩
        clear hgs
        have hmk : Gp.mk g x = ⟨(g, x), HG.out⟩ := Subtype.ext (Gp.mk_val g x HG.out)
        have hrun2 : Gp.run s.data.toList c i0 = (pre ++ [⟨(g, x), HG.out⟩]) ++ Gp.run s.data.toList (c - (k + 1)) x := by
          rw [HR.out, show c - k = (c - (k + 1)) + 1 by omega, run_more _ _ _ _ _ hg.out, hmk, List.append_assoc]
          rfl
        have HR2 : Hid _ := hrun2
        clear hrun2 hmk
        have hps := Gp.place_snoc i0 pre ⟨(g, x), HG.out⟩
        have HPS : Hid _ := hps
        clear hps
        obtain ⟨fn, tmps, assign, body, hy, hR⟩ := HY.out pre ⟨(g, x), HG.out⟩ w' hJs (by omega)
        dsimp only at hy
        gi_wp2
        refine hR.mono ?_
        rintro e W3 (⟨rfl, hJ3, hk3⟩ | ⟨rfl, hJx3⟩)
        · gi_wp2
          go_roundw
          case rel => exact ⟨k + 1, _, by omega, by simp, by rw [HPS.out], by simp; omega, by rw [HPS.out]; exact HR2.out, hJ3, hk3.trans hst⟩
          case measure => simp [intOf]; omega
        · gi_wp2
          refine bodyPost_ret (results_none rfl _ _ _) rfl ?_
          exact ⟨⟨_, rfl⟩, .inr ⟨_, ⟨_, HR2.out.symm⟩, hJx3⟩⟩
    · obtain rfl : k = c := by omega
      have hend : Gp.run s.data.toList k i0 = pre := by rw [HR.out, Nat.sub_self]; exact List.append_nil _
      have HE : Hid _ := hend
      clear hend
      gi_wp2
      go_end0
      exact ⟨⟨_, rfl⟩, .inl ⟨_, HE.out.symm, hJs⟩⟩

set_option maxHeartbeats 1000000 in
theorem written_in (n : Nat) (s : ByteArray) (i c : Int) (w : World) :
    CallsIn Fence.wide n Try.prog 50 #[.string s, .int .i64 i, .int .i64 c] w fun e w' => e = .returned (.func (.func 56) #[] #[.pointer (some ⟨w.heap.size + 1, 0, none⟩), .pointer (some ⟨w.heap.size + 2, 0, none⟩), .pointer (some ⟨w.heap.size, 0, none⟩)]) ∧
      w' = ((w.alloc (.cells #[.string s] 9)).alloc (.cells #[.int .i64 i] 3)).alloc (.cells #[.int .i64 c] 3) := by
  refine callsIn_of_wp Try.func50 rfl trivial ?_ rfl
  simp only [Try.ntmps50, List.size_toArray, List.length_cons, List.length_nil, Nat.reduceAdd, Nat.reduceSub, Array.replicate_succ, Array.replicate_zero, List.push_toArray, List.append_toArray, List.nil_append, List.cons_append]
  gi_wp2
  go_ret
  exact ⟨rfl, rfl⟩

/-- The value that written tells: all gaps that stand there, in order, or the first ones. -/
theorem written_stops (n : Nat) (hn : 1 ≤ n) (Ba Bc Bs c : Nat) (s : ByteArray) (i0 : Int) (hs : s.size ≤ 1000000000000) (hc : (c : Int) ≤ 9223372036854775807) (w : World)
    (hBa : Boxed w Ba 3 (.int .i64 i0)) (hBc : Boxed w Bc 3 (.int .i64 c)) (hBs : Boxed w Bs 9 (.string s)) :
    SeqStopsK Fence.wide n Try.prog 56 #[.pointer (some ⟨Ba, 0, none⟩), .pointer (some ⟨Bc, 0, none⟩), .pointer (some ⟨Bs, 0, none⟩)] (fun x : Gp.Gap => #[Value.int .i64 x.1.1, Value.int .i64 x.1.2]) (Stays Bs) (fun ys => ys = Gp.run s.data.toList c i0) (fun pre => pre <+: Gp.run s.data.toList c i0) c w := fun l J Jx W hW _ _ hY h0 =>
  written1_in n hn l Ba Bc Bs c s i0 hs hc J Jx hY W ((hW.cell (p := ⟨Ba, 0, none⟩) hBa.lt).trans hBa.cell) ((hW.cell (p := ⟨Bc, 0, none⟩) hBc.lt).trans hBc.cell) ((hW.cell (p := ⟨Bs, 0, none⟩) hBs.lt).trans hBs.cell) h0

end Go.Proofs.Ytmekaofjcjmklaa
