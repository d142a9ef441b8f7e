/- The walk of the document's own Edges of a shard. -/
import Derived.Test.YtbhngncnhabbkaaGreatHRefA
import Derived.Deep.OwnRows
import Derived.Deep.RegionLaw
import Derived.Maps.AppendAt
namespace Go.Proofs.YtbhngncnhabbkaaGreat
open Go.RowKit Go.Deep

theorem step_append_own {P : Program} {w : World} {ops : Array Oper} {o : Oper} {a : Act} {K : Act → World → Prop} {Q : Exit → Act → World → Prop} {E : Prop} (hgd : o.guard = none) (s x : Operand) (t : TypeId)
    (ho : o.op = .call { callee := .builtin .append, args := #[s, x], argTypes := #[t, t] })
    (base : Nat) (e : TypeId) (i : TypeInfo) (z : Value) (size bytes : Nat) (ht : P.underlying t = some (.slice e)) (hi : P.info? e = some i) (hz : i.zero = some z)
    (hsize : i.size = size) (hby : i.bytes = bytes) (hzs : z.cells.size = size) (hsz : 0 < size)
    (v : Value) (n : Nat) (xs : List Value) (hs : a.eval s = v) (hown : w.ownsRow base e size v n xs)
    (adr : Option Addr) (ad : Addr) (hadr : adr = some ad) (m c : Nat) (news : List Value) (hx : a.eval x = .slice adr m c) (hl : news.length = m * size) (hnews : ∀ j u, news[j]? = some u → w.cell? (ad.add j) = some u) (h1 : ∀ u ∈ news, u.oneCell' = true)
    (h63 : n + m ≤ maxLen) (hbytes : (n + m) * bytes ≤ 140737488355328) (hbase : base ≤ w.heap.size)
    (h : ∀ v' w', w'.ownsRow base e size v' (n + m) (xs ++ news) → w.grownBy w' v.ownBlock → K (a.put o.dst v') w') :
    if Region.wanted o (yielded ops a.tmps) = true then Oper.wp P o a w K Q else E := by
  have hw : Region.wanted o (yielded ops a.tmps) = true := by simp [Region.wanted, hgd]
  rw [if_pos hw]
  rw [hadr] at hx
  exact wp_append_own w s x t ho base e i z size bytes ht hi hz hsize hby hzs hsz v n xs hs hown ad m c news hx hl hnews h1 h63 hbytes hbase fun v' w' h2 h3 _ => h v' w' h2 h3

theorem own_base {w : World} {base base' e size n : Nat} {v : Value} {xs : List Value} (h : w.ownsRow base e size v n xs) (hb : base' ≤ base) : w.ownsRow base' e size v n xs := by
  refine ⟨h.1, ?_⟩
  rcases h.2 with h | ⟨g, cap, cur, hv, hg, h⟩
  · exact .inl h
  · exact .inr ⟨g, cap, cur, hv, Nat.le_trans hb hg, h⟩
theorem edsF_take (a : Int) (o : List (List Int)) (k : Nat) (h : k < o.length) : Sh.edsF a 0 (o.take (k + 1)) = Sh.edsF a 0 (o.take k) ++ (o.getD k []).map fun x => (IntKind.i64.wrap (a + k), x) := by
  rw [Sh.take_snoc_o o k h, Sh.edsF_app, List.length_take]
  rw [show 0 + min k o.length = k by omega]
  simp [Sh.edsF]

set_option maxHeartbeats 1000000 in
set_option maxRecDepth 100000 in
theorem sreds_any (s : Sh.Shard) (v : Value) (w : World) (h : Lists w v s.2) (hl : Less s.2) :
    Calls Tryz.prog 17 #[.agg (scells s v)] w fun e w' => ∃ u, e = .returned u ∧ w'.ownsRow w.heap.size 56 2 u (Sh.eds s).length (ecells (Sh.eds s)) ∧ Below w.heap.size w w' := by
  obtain ⟨i0, hi0, hz0, hz1, hz2⟩ := info_parts Tryz.edgeInfo
  obtain ⟨p, o⟩ := s
  unfold scells Sh.eds
  dsimp only at h hl ⊢
  obtain ⟨a, cap, rfl, hcap, _⟩ := id h
  obtain ⟨wa, hwa⟩ : ∃ wa, w.alloc (.cells #[.int .i64 p.1, .int .i64 p.2, .slice a o.length cap] 26) = wa := ⟨_, rfl⟩
  have c0 : wa.cell? ⟨w.heap.size, 0, none⟩ = some (.int .i64 p.1) := by rw [← hwa]; simp
  have c2 : wa.cell? ⟨w.heap.size, 2, none⟩ = some (.slice a o.length cap) := by rw [← hwa]; simp
  have hba : Hid (Below w.heap.size w wa) := by rw [← hwa]; exact (Below.refl _ w).alloc (Nat.le_refl _) _
  have hsz : wa.heap.size = w.heap.size + 1 := by rw [← hwa]; simp
  have HL : Hid (Lists wa (.slice a o.length cap) o) := h.later hba.out
  have hol := hl.1
  have HLL : Hid (∀ l ∈ o, l.length ≤ 300) := hl.2.2
  have HMB : Hid (Sh.many o ≤ 5000) := hl.2.1
  have HEL : Hid ((Sh.edsF p.1 0 o).length = Sh.many o) := Sh.eds_len _ _ _
  clear h hl
  go_enter Tryz.func17, Tryz.ntmps17
  go_wp2
  go_loopw [3, 4] (fun u i wr => ∃ k : Nat, k ≤ o.length ∧ i = .int .i64 k ∧ Hid (wr.ownsRow wa.heap.size 56 2 u (Sh.many (o.take k)) (ecells (Sh.edsF p.1 0 (o.take k)))) ∧ Hid (Below wa.heap.size wa wr)) (fun _ i _ => o.length - (intOf i).toNat)
  case atStart => exact ⟨0, Nat.zero_le _, rfl, World.ownsRow_nil _ _ _ _, Below.refl _ _⟩
  case round =>
    obtain ⟨k, hk, rfl, HO, HB⟩ := hrel
    have e2 := cell_after HB.out c2
    by_cases hlt : k < o.length
    · obtain ⟨b, off, rfl, x, hx, hi⟩ := HL.out.at_ hlt
      obtain ⟨ax, cx, rfl, _⟩ := id hi
      have HX : Hid (wa.cell? _ = some _) := hx
      have HI : Hid (Ints wa _ (o.getD k [])) := hi
      have hl3 := HLL.out _ (getD_mem_o hlt)
      have HM1 : Hid (Sh.many (o.take (k + 1)) = Sh.many (o.take k) + (o.getD k []).length) := many_step hlt
      have HM2 : Hid (Sh.many (o.take (k + 1)) ≤ Sh.many o) := many_mono _
      obtain ⟨f, hf⟩ : ∃ f, IntKind.i64.wrap (p.1 + (k : Int)) = f := ⟨_, rfl⟩
      have HE1 : Hid (Sh.edsF p.1 0 (o.take (k + 1)) = Sh.edsF p.1 0 (o.take k) ++ (o.getD k []).map fun x => (f, x)) := by rw [Hid, edsF_take _ _ _ hlt, hf]
      clear hx hi
      generalize o.getD k [] = l at *
      have hmk : Sh.many (o.take k) + l.length ≤ 5000 := by have := HM1.out; have := HM2.out; have := HMB.out; omega
      generalize Sh.many (o.take k) = m at *
      generalize Sh.edsF p.1 0 (o.take k) = D at *
      go_wp2_with fail
      go_loopw [3, 5] (fun u j wr => ∃ q : Nat, q ≤ l.length ∧ j = .int .i64 q ∧ Hid (wr.ownsRow wa.heap.size 56 2 u (m + q) (ecells (D ++ (l.take q).map fun x => (f, x)))) ∧ Hid (Below wa.heap.size wa wr)) (fun _ j _ => l.length - (intOf j).toNat)
      case atStart => exact ⟨0, Nat.zero_le _, rfl, by have h := HO.out; simpa [Hid] using h, HB⟩
      case round =>
        obtain ⟨q, hq, rfl, HO2, HB2⟩ := hrel
        have f2 := cell_after HB2.out c2
        have fx := cell_after HB2.out HX.out
        by_cases hlt2 : q < l.length
        · obtain ⟨bl, ol, rfl, hcl⟩ := HI.out.at_.resolve_left (by rintro rfl; simp at hlt2)
          have fl := cell_after HB2.out (hcl q hlt2)
          have f0 := cell_after HB2.out c0
          have HT : Hid (D ++ (l.take (q + 1)).map (fun x => (f, x)) = (D ++ (l.take q).map fun x => (f, x)) ++ [(f, l.getD q 0)]) := by
            rw [Hid, take_succ l q hlt2]; simp
          clear hcl
          generalize l.getD q 0 = z at *
          have HO3 : Hid ((wr.drew.alloc (.cells #[.int .i64 f, .int .i64 z] 56)).ownsRow wa.heap.size 56 2 u3 (m + q) (ecells (D ++ (l.take q).map fun x => (f, x)))) := HO2.out.drew.alloc _
          have HB3 : Hid (Below wa.heap.size wa (wr.drew.alloc (.cells #[.int .i64 f, .int .i64 z] 56))) := HB2.out.drew.alloc HB2.out.size _
          generalize D ++ (l.take q).map (fun x => (f, x)) = E at *
          have f2d : wr.drew.cell? _ = some _ := f2
          have fxd : wr.drew.cell? _ = some _ := fx
          have fld : wr.drew.cell? _ = some _ := fl
          have f0d : wr.drew.cell? _ = some _ := f0
          go_wp2_with fail
          go_region_law
            (first
            | (refine step_append_own (w := wr.drew.alloc (.cells #[.int .i64 f, .int .i64 z] 56)) (by rfl) _ _ 36 (by rfl) wa.heap.size 56 i0 (.agg #[.int .i64 0, .int .i64 0]) 2 16 Tryz.underlying36 hi0 hz0 hz1 hz2 rfl (by omega) u3 (m + q) (ecells E) (by simp [Act.eval]) HO3.out (some ⟨wr.drew.heap.size, 0, none⟩) _ rfl 1 1 [.int .i64 f, .int .i64 z] (by simp [Act.eval]) rfl (cell_two_new _ _ _ _) (by simp [Value.oneCell']) (by unfold maxLen; omega) (by omega) HB3.out.size ?_; intro v5 w5 hown5 hgrow5)
            | fail)
          all_goals
            have HO5 : Hid (w5.ownsRow wa.heap.size 56 2 v5 (m + (q + 1)) (ecells (D ++ (l.take (q + 1)).map fun x => (f, x)))) := by
              rw [Hid, HT.out, ← ecells_snoc]; exact hown5
            have HB5 : Hid (Below wa.heap.size wa w5) := HB3.out.grown hgrow5 HB3.out.size (fun q e => (HO3.out.lt q e).1)
            clear hown5 hgrow5 HO3 HB3 f2d fxd fld f0d
            go_wp2_with fail
            go_roundw
            case rel => exact ⟨q + 1, by omega, by go_num, HO5, HB5⟩
            case measure => simp [intOf]; omega
        · obtain rfl : q = l.length := by omega
          have HO3 : Hid (wr.ownsRow wa.heap.size 56 2 u3 (Sh.many (o.take (k + 1))) (ecells (Sh.edsF p.1 0 (o.take (k + 1))))) := by
            rw [Hid, HM1.out, HE1.out]
            have h := HO2.out
            rwa [List.take_length] at h
          go_wp2
          go_roundw
          case rel => exact ⟨k + 1, by omega, by go_num, HO3, HB2⟩
          case measure => simp [intOf]; omega
    · obtain rfl : k = o.length := by omega
      have HO1 := HO.out
      rw [List.take_length, ← HEL.out] at HO1
      have HO2 : Hid _ := HO1
      clear HO1
      go_wp2
      go_ret
      exact ⟨_, rfl, own_base HO2.out (by omega), hba.out.trans (HB.out.mono hba.out.size)⟩

end Go.Proofs.YtbhngncnhabbkaaGreat
