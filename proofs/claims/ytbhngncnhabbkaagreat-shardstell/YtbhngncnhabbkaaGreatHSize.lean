/- The walk of the statements' helper made: the normal list of some edges, and the shard of a part of it. -/
import Derived.Test.YtbhngncnhabbkaaGreatHOpen
namespace Go.Proofs.YtbhngncnhabbkaaGreat
open Go.RowKit

theorem results_tct {fn : Func} {p q r : Tmp} {ty : TypeId} (h : fn.results = #[.tmp p, .cell q ty, .tmp r]) (tmps : Array Value) (P : Program) (w : World) :
    (results fn tmps).run P w = ((asAddr (tmps.getD q undef)).run P w).andThen fun a w₁ => ((loadVar ty a).run P w₁).andThen fun v w₂ => .ok (.tuple #[tmps.getD p undef, v, tmps.getD r undef]) w₂ := by
  simp only [results, h]
  simp [Sem.run_bind, Result.andThen]

namespace Sh
theorem nrm_of_some {n : Nat} (h : 2 ≤ n) (hn : n ≤ 256) (l : List (Nat × Nat)) : ∀ x ∈ Ed.nrm (someE n l), (0 ≤ x.1 ∧ x.1 < (n : Int)) ∧ 0 ≤ x.2 ∧ x.2 < 256 ∧ x.1 ≠ x.2 := by
  intro x hx
  rw [Ed.mem_nrm] at hx
  obtain ⟨a, b, rfl, h1, h2, h3⟩ := some_ok h x hx
  dsimp only
  omega
end Sh

set_option maxHeartbeats 2000000 in
set_option maxRecDepth 100000 in
theorem smade_any (n k : Nat) (v : Value) (l : List (Nat × Nat)) (w : World) (hn : n < 256) (hk : k < 256) (h : Prs w v l) (hs : Small l) (hl : l.length ≤ 400) :
    Calls Tryz.prog 19 #[.int .u8 n, .int .u8 k, v] w fun e w' => ∃ u s x, e = .returned (.tuple #[u, .agg (scells s x), .bool true]) ∧ Sh.may s = true ∧ Lists w' x s.2 ∧ Below w.heap.size w w' := by
  obtain ⟨N, hN, hN1, hN2⟩ : ∃ N : Nat, (2 : Int) + (n : Int) % 255 = (N : Int) ∧ 2 ≤ N ∧ N ≤ 256 := ⟨2 + n % 255, by omega, by omega, by omega⟩
  obtain ⟨m, hm, hm1, hm2, hm3⟩ : ∃ m : Nat, min (N : Int) 16 = (m : Int) ∧ 1 ≤ m ∧ m ≤ 16 ∧ m ≤ N := ⟨min N 16, by omega, by omega, by omega, by omega⟩
  obtain ⟨r, hr, hr1⟩ : ∃ r : Nat, (k : Int) % (m : Int) = (r : Int) ∧ r < m := ⟨k % m, by simp, Nat.mod_lt _ (by omega)⟩
  obtain ⟨K, hK, hK1, hK2, hK3⟩ : ∃ K : Nat, (1 : Int) + (r : Int) = (K : Int) ∧ 1 ≤ K ∧ K ≤ 16 ∧ K ≤ N := ⟨1 + r, by omega, by omega, by omega, by omega⟩
  obtain ⟨i, hi, hi1⟩ : ∃ i : Nat, (k : Int) % (K : Int) = (i : Int) ∧ i < K := ⟨k % K, by simp, Nat.mod_lt _ (by omega)⟩
  obtain ⟨wa, hwa⟩ : ∃ wa, w.alloc (.cells #[.int .i64 0, .int .i64 0, .slice none 0 0] 26) = wa := ⟨_, rfl⟩
  have hba : Below w.heap.size w wa := by rw [← hwa]; exact (Below.refl _ w).alloc (Nat.le_refl _) _
  have HP : Hid (wa.heap[w.heap.size]? = some (.cells #[.int .i64 0, .int .i64 0, .slice none 0 0] 26 (0, 0))) := by rw [Hid, ← hwa]; exact heap_alloc_new _ _
  have HB : Hid (Below w.heap.size w wa) := hba
  have HSO := some_any N v l wa hN1 hN2 (h.later hba) hs (by omega)
  have hmany : Ed.many (N : Int) = true := by simp [Ed.many]; omega
  have hlen : (someE N l).length ≤ 400 := by rw [someE_len]; exact hl
  have hnl := Ed.nrm_len (someE N l)
  have hnor : Ed.nor (N : Int) (someE N l) = (Ed.nrm (someE N l), 0) := nor_yes hmany (some_good hN1 l) (by omega)
  have HNO : Hid (∀ W u, Edg W u (someE N l) → Calls Tryz.prog 20 #[.int .i64 N, u] W fun e w' => ∃ u, e = .returned (.tuple #[u, .int .i64 0]) ∧ Edg w' u (Ed.nrm (someE N l)) ∧ Below W.heap.size W w') := fun W u hE => by
    have := normal_any u (someE N l) N W hE (by omega)
    rwa [hnor] at this
  have HOK : Hid (∀ p, Sh.mayP p = true → Sh.may (Sh.mk (Ed.nrm (someE N l)) p) = true) := fun p hp => Sh.mk_may hp (fun x hx => (Sh.nrm_of_some hN1 hN2 l x hx).2) (by omega)
  have HMK : Hid (∀ W u p, Sh.mayP p = true → Edg W u (Ed.nrm (someE N l)) → Calls Tryz.prog 23 #[u, .agg #[.int .i64 p.1, .int .i64 p.2]] W fun e w' => ∃ x, e = .returned (.agg (scells (Sh.mk (Ed.nrm (someE N l)) p) x)) ∧ ListsF W.heap.size w' x (Sh.mk (Ed.nrm (someE N l)) p).2 ∧ Below W.heap.size W w') := fun W u p hp hE => by
    have := Sh.mayP_iff.1 hp
    exact smakeF_any u _ p W hE (by omega) ⟨⟨by omega, by omega⟩, by omega, by omega⟩
  generalize someE N l = E at *
  generalize Ed.nrm E = L at *
  have HCU : Hid (∀ W, Calls Tryz.prog 22 #[.int .i64 N, .int .i64 K] W fun e w' => ∃ u, e = .returned (.tuple #[u, .int .i64 0]) ∧ w'.ownsRow W.heap.size 23 2 u K (pcells (Pt.cuts N K)) ∧ Below W.heap.size W w') := fun W => by
    have := cut_any N K W
    rw [cut_yes (by unfold Pt.can Pt.many; simp; omega)] at this
    dsimp only at this
    rwa [Pt.cuts_len] at this
  have HGE : Hid ((Pt.cuts N K).getD i p0 = Pt.one N K i ∧ (Pt.cuts N K).length = K) := ⟨Pt.cuts_get hi1, Pt.cuts_len N K⟩
  have HMP : Hid (Sh.mayP (Pt.one N K i) = true) := Sh.one_may hK1 hK3 hN2 hi1
  generalize Pt.cuts N K = C at *
  generalize Pt.one N K i = q at *
  obtain ⟨q1, q2⟩ := q
  replace HSO : Hid _ := HSO
  clear hba h hs hnor hmany hr1 hm3
  go_enter Tryz.func19, Tryz.ntmps19
  go_wp2_with fail
  refine Calls.mono HSO.out ?_
  rintro e w1 ⟨u1, rfl, hu1, hb1⟩
  replace HP : Hid _ := blk_later HP.out hb1
  replace HB : Hid (Below w.heap.size w w1) := bnext HB.out hb1
  have HNO1 : Hid _ := HNO.out w1 u1 (Edg.of_own hu1)
  clear hu1 hb1 HSO HNO
  go_wp2_with fail
  refine Calls.mono HNO1.out ?_
  rintro e w2 ⟨u2, rfl, hu2, hb2⟩
  replace HP : Hid _ := blk_later HP.out hb2
  replace HB : Hid (Below w.heap.size w w2) := bnext HB.out hb2
  have HE2 : Hid (Edg w2 u2 L) := hu2
  have HCU2 : Hid _ := HCU.out w2
  clear hu2 hb2 HNO1 HCU
  go_wp2_with fail
  refine Calls.mono HCU2.out ?_
  rintro e w3 ⟨u3, rfl, hu3, hb3⟩
  replace HP : Hid _ := blk_later HP.out hb3
  replace HB : Hid (Below w.heap.size w w3) := bnext HB.out hb3
  replace HE2 : Hid (Edg w3 u2 L) := HE2.out.later hb3
  have hp3 : Prt w3 u3 C := Prt.of_own hu3
  obtain ⟨g, cap, rfl, _, _⟩ := hu3.form (by omega)
  have hcell : w3.cell? ⟨g, i * 2, none⟩ = some (.int .i64 q1) ∧ w3.cell? ⟨g, i * 2 + 1, none⟩ = some (.int .i64 q2) := by
    obtain ⟨a', cap', e, _, h⟩ := hp3
    rcases h with h | ⟨b', off', rfl, h⟩
    · have := congrArg List.length h
      rw [HGE.out.2] at this
      have : K = 0 := this
      omega
    · simp only [Value.slice.injEq, Option.some.injEq, Addr.mk.injEq, and_true] at e
      obtain ⟨⟨rfl, rfl⟩, _⟩ := e
      have := h i (by rw [HGE.out.2]; exact hi1)
      rw [HGE.out.1, Nat.zero_add] at this
      exact this
  obtain ⟨c1, c2⟩ := hcell
  have HMK3 : Hid _ := HMK.out w3 u2 (q1, q2) HMP.out HE2.out
  have HOK3 : Hid _ := HOK.out (q1, q2) HMP.out
  have hKz : ((K : Int) == 0) = false := by rw [beq_eq_false_iff_ne]; omega
  clear hu3 hb3 HCU2 HMK HOK hp3 hN hm hr hK
  obtain ⟨s, hs⟩ : ∃ s, Sh.mk L (q1, q2) = s := ⟨_, rfl⟩
  rw [hs] at HMK3 HOK3
  obtain ⟨⟨p1, p2⟩, o⟩ := s
  unfold scells at HMK3
  dsimp only at HMK3
  clear hs
  obtain ⟨au2, cu2, rfl, _, _⟩ := id HE2.out
  go_wp2_with fail
  refine Calls.mono HMK3.out ?_
  rintro e w4 ⟨x, rfl, hx, hb4⟩
  obtain ⟨xa, xc, rfl, _, _⟩ := id hx.lists
  have HX : Hid (ListsF (w.heap.size + 1) w4 (.slice xa o.length xc) o) := hx.mono (Array.getElem?_eq_some_iff.1 HP.out).1
  have HP4 : Hid _ := blk_later HP.out hb4
  obtain ⟨a0, a1, a2, f0, f1, f2⟩ := three_cells HP4.out
  have HB4 : Hid (Below w.heap.size w w4) := bnext HB.out hb4
  clear hx hb4 HP4 HP HB HMK3
  go_wp2
  refine bodyPost_ret (v := .tuple #[.slice au2 L.length cu2, .agg #[.int .i64 p1, .int .i64 p2, .slice xa o.length xc], .bool true]) ?r rfl ⟨_, ((p1, p2), o), _, rfl, HOK3.out, (((HX.out.past (Nat.lt_succ_self _) (oth_set _ _ _ _)).past (Nat.lt_succ_self _) (oth_set _ _ _ _)).past (Nat.lt_succ_self _) (oth_set _ _ _ _)).lists, ?b⟩
  case r =>
    rw [results_tct rfl]
    go_simp
  case b => exact ((HB4.out.setCell (Nat.le_refl _) _).setCell (Nat.le_refl _) _).setCell (Nat.le_refl _) _

end Go.Proofs.YtbhngncnhabbkaaGreat

/- How many bytes a shard has at most; what Encode, Decode, Check tell of one that may be, in one word each. -/
namespace Go.Proofs.YtbhngncnhabbkaaGreat
open Go.RowKit

namespace Sh
theorem enc_size {s : Shard} (h : may s = true) : (enc s).length ≤ 1000000 := by
  obtain ⟨h1, h2, h3, h4⟩ := may_iff.1 h
  rw [mayP_iff] at h1
  rw [(enc_len s).2]
  unfold raw
  have e1 := Gp.putL_len s.1.1
  have e2 := Gp.putL_len s.1.2
  have e3 := Gp.putL_len (many s.2)
  have e4 := lists_len s.2
  have e5 : (Pk.pk (deg s.2) (wd s.2)).length ≤ 100000 := by
    rw [Pk.pk_length, deg_len]
    unfold Pk.size
    have : s.2.length * wd s.2 ≤ 256 * 13 := Nat.mul_le_mul (by omega) (wd_le h4)
    omega
  simp only [List.length_cons, List.length_append]
  omega
end Sh

/-- Encode of a shard that may be. -/
theorem senc_yes {s : Sh.Shard} (hs : Sh.may s = true) {b : ByteArray} (hb : (⟨(Sh.enc s).toArray⟩ : ByteArray) = b) (W : World) (u : Value) (h : Lists W u s.2) :
    Calls Tryz.prog 8 #[.agg (scells s u)] W fun e w' => e = .returned (.tuple #[.string b, .int .i64 0]) ∧ Below W.heap.size W w' := by
  obtain ⟨hf, hp⟩ := Sh.may_fit hs
  have := senc_any s u W h hf hp
  rwa [Sh.encS_enc hs, Sh.chk_yes hs, hb] at this
/-- Decode of its bytes. -/
theorem sdec_yes {s : Sh.Shard} (hs : Sh.may s = true) {b : ByteArray} (hb : (⟨(Sh.enc s).toArray⟩ : ByteArray) = b) (W : World) :
    Calls Tryz.prog 10 #[.string b] W fun e w' => ∃ v, e = .returned (.tuple #[.agg (scells s v), .int .i64 0]) ∧ Lists w' v s.2 ∧ Below W.heap.size W w' := by
  subst hb
  obtain ⟨h1, h2⟩ := Sh.dec_yes hs
  refine (sdec_any ⟨(Sh.enc s).toArray⟩ W (by rw [size_of]; exact Sh.enc_size hs)).mono ?_
  rintro e w' ⟨u, rfl, hu, hbl⟩
  rw [show (⟨(Sh.enc s).toArray⟩ : ByteArray).data.toList = Sh.enc s from rfl] at hu ⊢
  rw [h1]
  rw [h2] at hu
  obtain ⟨v, rfl, hv⟩ := hu
  exact ⟨v, rfl, hv, hbl⟩
/-- Same of two shards whose lists are small. -/
theorem ssame_yes (s t : Sh.Shard) (fs : FitS s.2) (ft : FitS t.2) {b : Bool} (hb : decide (s = t) = b) (W : World) (u v : Value) (h1 : Lists W u s.2) (h2 : Lists W v t.2) :
    Calls Tryz.prog 14 #[.agg (scells s u), .agg (scells t v)] W fun e w' => e = .returned (.bool b) ∧ Below W.heap.size W w' := by
  have := ssame_any s t u v W h1 h2 (small_of fs) (small_of ft)
  rwa [hb] at this

end Go.Proofs.YtbhngncnhabbkaaGreat
