/- Graphs made of parts of such sizes: in plain words, and the walk of the statements' helper made. -/
import Derived.Test.YtmekaofjcjmklaaAOpen
import Derived.Deep.AppendLies
namespace Go.Proofs.Ytmekaofjcjmklaa
open Go.RowKit Go.Deep

namespace Mf
/-- The graph of so many edges, whose parts are as large as the first sixteen bytes say. -/
def mkG (l : List UInt8) (x : Nat) : Graph := (((Pt.tot (l.take 16) : Int), ((x % 4097 : Nat) : Int)), Pt.lay 0 (l.take 16))
theorem mkG_chk (l : List UInt8) (x : Nat) : chk (mkG l x) = if l = [] then 2 else 0 := by
  have h1 : Pt.chk (Pt.tot (l.take 16)) (Pt.lay 0 (l.take 16)) = if 0 < Pt.tot (l.take 16) then 0 else 2 := Pt.lay_chk (by rw [List.length_take]; omega)
  have h2 : okE ((x % 4097 : Nat) : Int) = true := by
    have := Nat.mod_lt x (show 0 < 4097 by decide)
    simp [okE]; omega
  unfold chk mkG
  dsimp only
  rw [if_pos h2, h1]
  by_cases c : l = []
  · subst c; rfl
  · rw [if_neg c]
    have h3 := Pt.tot_ge (l.take 16)
    rw [List.length_take] at h3
    have : 0 < l.length := List.length_pos_iff.2 c
    rw [if_pos (by omega)]
theorem mkG_len (l : List UInt8) (x : Nat) : (mkG l x).2.length ≤ 16 := by
  show (Pt.lay 0 (l.take 16)).length ≤ 16
  rw [Pt.lay_len, List.length_take]; omega
end Mf

theorem Bts.later {w w' : World} {v : Value} {l : List UInt8} (h : Bts w v l) (hb : Below w.heap.size w w') : Bts w' v l := by
  obtain ⟨a, cap, rfl, hc, h⟩ := h
  refine ⟨a, cap, rfl, hc, ?_⟩
  rcases h with h | ⟨b, off, rfl, hh⟩
  · exact .inl h
  · exact .inr ⟨b, off, rfl, fun j hj => cell_after hb (hh j hj)⟩
theorem take_succ_b (l : List UInt8) (k : Nat) (h : k < l.length) : l.take (k + 1) = l.take k ++ [l.getD k 0] := by
  rw [List.take_add_one, List.getElem?_eq_getElem h]
  simp [List.getD, h]

set_option maxHeartbeats 2000000 in
set_option maxRecDepth 100000 in
theorem made_any (v0 : Value) (l0 : List UInt8) (x : Nat) (w : World) (h : Bts w v0 l0) (hx : x < 65536) :
    Calls Try.prog 15 #[v0, .int .u16 x] w fun e w' => ∃ u, e = .returned (.agg (gcells (Mf.mkG l0 x) u)) ∧ PrtF w.heap.size w' u (Mf.mkG l0 x).2 ∧ Below w.heap.size w w' := by
  obtain ⟨i0, hi0, hz0, hz1, hz2'⟩ := info_parts Try.partInfo
  obtain ⟨a, cap, rfl, _, h⟩ := h
  obtain ⟨S, hS⟩ : ∃ S, l0.take 16 = S := ⟨_, rfl⟩
  have hSl : S.length = min 16 l0.length := by rw [← hS, List.length_take]
  have hS16 : S.length ≤ 16 := by omega
  have hSle : S.length ≤ l0.length := by omega
  have hSor : S.length = l0.length ∨ S.length = 16 := by omega
  have HC : Hid (∀ {j}, j < S.length → ∃ b off, a = some ⟨b, off, none⟩ ∧ w.cell? ⟨b, off + j, none⟩ = some (.int .u8 (S.getD j 0).toNat)) := fun {j} hj => by
    rcases h with rfl | ⟨b, off, rfl, hc⟩
    · simp at hSle; rw [hSle] at hj; simp at hj
    · refine ⟨b, off, rfl, ?_⟩
      have e : S.getD j 0 = l0.getD j 0 := by rw [← hS]; simp [List.getD, show j < 16 by omega]
      rw [e]
      exact hc j (by omega)
  unfold Mf.mkG gcells
  dsimp only
  rw [hS]
  clear h hS hSl
  obtain ⟨E, hE⟩ : ∃ E, x % 4097 = E := ⟨_, rfl⟩
  have hEi : (x : Int) % 4097 = (E : Int) := by omega
  rw [hE]
  have hE2 : E < 4097 := by rw [← hE]; exact Nat.mod_lt _ (by decide)
  clear hE
  obtain ⟨wa, hwa⟩ : ∃ wa, w.alloc (.cells #[.int .i64 0, .int .i64 0, .slice none 0 0] 24) = wa := ⟨_, rfl⟩
  obtain ⟨wb, hwb⟩ : ∃ wb, wa.alloc (.cells #[.int .i64 0, .int .i64 E, .slice none 0 0] 24) = wb := ⟨_, rfl⟩
  have hba : Below w.heap.size w wa := by rw [← hwa]; exact (Below.refl _ w).alloc (Nat.le_refl _) _
  have hab : Below wa.heap.size wa wb := by rw [← hwb]; exact (Below.refl _ wa).alloc (Nat.le_refl _) _
  have RX : Hid (GBlk wb w.heap.size 0 0 (.slice none 0 0)) := blk_later (by rw [← hwa]; exact heap_alloc_new _ _) hab
  have SX : Hid (GBlk wb wa.heap.size 0 E (.slice none 0 0)) := by rw [Hid, ← hwb]; exact heap_alloc_new _ _
  have HSZ : Hid (wa.heap.size + 1 = wb.heap.size) := by rw [Hid, ← hwb]; simp
  have HRA : Hid (w.heap.size < wa.heap.size) := by rw [Hid, ← hwa]; simp
  have HBB : Hid (Below w.heap.size w wb) := bnext hba hab
  clear hba hab
  subst hwb
  go_enter Try.func15, Try.ntmps15
  go_wp2
  obtain ⟨wb, hwb⟩ : ∃ wb, wa.alloc (.cells #[.int .i64 0, .int .i64 E, .slice none 0 0] 24) = wb := ⟨_, rfl⟩
  rw [hwb] at RX SX HSZ HBB ⊢
  clear hwb hEi
  go_loopw [6] (fun i wr => ∃ k : Nat, k ≤ S.length ∧ i = .int .i64 k ∧ Hid (∃ v, GBlk wr wa.heap.size (Pt.tot (S.take k)) E v ∧ wr.ownsRow (wa.heap.size + 1) 49 2 v k (pcells (Pt.lay 0 (S.take k)))) ∧ Hid (Below wa.heap.size wb wr)) (fun i _ => S.length - (intOf i).toNat)
  case atStart => exact ⟨0, Nat.zero_le _, rfl, ⟨_, SX.out, World.ownsRow_nil _ _ _ _⟩, Below.refl _ _⟩
  case round =>
    obtain ⟨k, hk, rfl, HST, HB⟩ := hrel
    obtain ⟨wo, rfl⟩ : ∃ wo, wo = wr := ⟨wr, rfl⟩
    obtain ⟨vo, hso, hoo⟩ := HST.out
    have HSO : Hid (GBlk wo wa.heap.size (Pt.tot (S.take k)) E vo) := hso
    have HOO : Hid (wo.ownsRow (wa.heap.size + 1) 49 2 vo k (pcells (Pt.lay 0 (S.take k)))) := hoo
    clear HST hso hoo
    by_cases hlt : k < S.length
    · obtain ⟨b, off, rfl, hcs⟩ := HC.out hlt
      have HBW : Hid (Below w.heap.size w wo) := HBB.out.trans (HB.out.mono (Nat.le_of_lt HRA.out))
      have c1 := Later.cell (cell_after HBW.out hcs)
      obtain ⟨s0, s1, s2, _, _, _⟩ := three_cells HSO.out
      have c2 := Later.cell s0
      have hsome := Later.some wo
      clear hcs
      have hka : (k : Int) < l0.length := by omega
      have hkb : (k : Int) < 16 := by omega
      have HT : Hid (S.take (k + 1) = S.take k ++ [S.getD k 0]) := take_succ_b S k hlt
      have HB8 : (S.getD k 0).toNat < 256 := UInt8.toNat_lt _
      have htot : Pt.tot (S.take k) ≤ 256 := by
        have := Pt.tot_le (S.take k)
        rw [List.length_take] at this
        omega
      have HZ : Hid (Pt.sz (S.getD k 0) = 1 + (S.getD k 0).toNat % 16) := rfl
      have HL2 : Hid (Pt.lay 0 (S.take (k + 1)) = Pt.lay 0 (S.take k) ++ [((Pt.tot (S.take k) : Int), ((Pt.tot (S.take k) + Pt.sz (S.getD k 0) : Nat) : Int))]) := by
        rw [Hid, HT.out, Pt.lay_app, Nat.zero_add]; rfl
      have HT2 : Hid (Pt.tot (S.take (k + 1)) = Pt.tot (S.take k) + Pt.sz (S.getD k 0)) := by rw [Hid, HT.out, Pt.tot_app]; rfl
      generalize Pt.tot (S.take k) = n at *
      generalize Pt.sz (S.getD k 0) = z at *
      generalize (S.getD k 0).toNat = y at *
      have hy : (y : Int) % 16 = ((y % 16 : Nat) : Int) := by omega
      have hym : y % 16 < 16 := Nat.mod_lt _ (by omega)
      generalize y % 16 = m at *
      have hz : z = 1 + m := HZ.out
      have hnz : (n : Int) + 1 + (m : Int) = ((n + z : Nat) : Int) := by omega
      have ht : n + z ≤ 272 := by omega
      generalize n + z = t at *
      go_wp2_with fail
      refine wp_region_later (by kernel_rfl) (by kernel_rfl) ?_
      repeat (go_big_quiet_step (fail))
      refine wpQuiet_nil ?_
      intro w2 hw2
      obtain ⟨⟨w3, hb3⟩, rfl⟩ := hw2
      have HO3 : Hid (w2.ownsRow (wa.heap.size + 1) 49 2 vo k (pcells (Pt.lay 0 (S.take k)))) := own_later HOO.out hb3
      have HS3 : Hid (GBlk w2 wa.heap.size n E vo) := blk_later HSO.out hb3
      have HB3 : Hid (Below wa.heap.size wb w2) := HB.out.trans (hb3.mono (Nat.le_trans (by have := HSZ.out; omega) HB.out.size))
      obtain ⟨t0, t1, t2, g0, g1, g2⟩ := three_cells HS3.out
      have HGE : Hid (wa.heap.size + 1 ≤ w2.heap.size) := by rw [Hid, HSZ.out]; exact HB3.out.size
      clear hb3 c1 c2 s0 s1 s2 HOO HSO hsome
      go_wp2_with (at_builtin; refine wpList_append_own _ rfl _ _ 22 rfl (wa.heap.size + 1) 49 i0 (.agg #[.int .i64 0, .int .i64 0]) 2 16 Try.underlying22 hi0 hz0 hz1 hz2' rfl (by decide) vo k _ rfl (HO3.out.alloc _) ⟨w2.heap.size, 0, none⟩ 1 1 [.int .i64 n, .int .i64 t] rfl rfl (cell_two_new _ _ _ _) (by simp [Value.oneCell']) (by unfold maxLen; omega) (by omega) (by have := HGE.out; (try simp); (try omega)) ?_)
      intro v' w7 hown hgrow _
      obtain ⟨g7, c7, rfl, _, _⟩ := hown.form (by omega)
      have HS7 : Hid (GBlk w7 wa.heap.size n E vo) := (hgrow.block _ (by have := HGE.out; (try simp); (try omega)) (fun e => by have := (HO3.out.lt _ e.symm).1; omega)).trans (blk_later HS3.out ((Below.refl _ w2).alloc (Nat.le_refl _) _))
      have HB7 : Hid (Below wa.heap.size wb w7) := (HB3.out.alloc (by have := HGE.out; omega) _).grown hgrow (by have := HGE.out; (try simp); (try omega)) (fun q e => by have := (HO3.out.lt q e).1; omega)
      obtain ⟨y0, y1, y2, f0, f1, f2⟩ := three_cells HS7.out
      have HO7 : Hid (w7.ownsRow (wa.heap.size + 1) 49 2 (.slice (some ⟨g7, 0, none⟩) (k + 1) c7) (k + 1) (pcells (Pt.lay 0 (S.take (k + 1))))) := by rw [Hid, HL2.out, ← pcells_snoc]; exact hown
      clear hown hgrow
      have HP8 : Hid (PrtF (wa.heap.size + 1) ((w7.setCell ⟨wa.heap.size, 2, none⟩ (.slice (some ⟨g7, 0, none⟩) (k + 1) c7)).setCell ⟨wa.heap.size, 0, none⟩ (.int .i64 t)) (.slice (some ⟨g7, 0, none⟩) (k + 1) c7) (Pt.lay 0 (S.take (k + 1)))) := ((PrtF.set ⟨_, HO7.out⟩ (Nat.lt_succ_self _)).set (Nat.lt_succ_self _))
      have HS8 : Hid (GBlk ((w7.setCell ⟨wa.heap.size, 2, none⟩ (.slice (some ⟨g7, 0, none⟩) (k + 1) c7)).setCell ⟨wa.heap.size, 0, none⟩ (.int .i64 t)) wa.heap.size t E (.slice (some ⟨g7, 0, none⟩) (k + 1) c7)) := blk_set (blk_set HS7.out)
      have HB8 : Hid (Below wa.heap.size wb ((w7.setCell ⟨wa.heap.size, 2, none⟩ (.slice (some ⟨g7, 0, none⟩) (k + 1) c7)).setCell ⟨wa.heap.size, 0, none⟩ (.int .i64 t))) := (HB7.out.setCell (Nat.le_refl _) _).setCell (Nat.le_refl _) _
      have HE8 : Hid (∃ v, GBlk ((w7.setCell ⟨wa.heap.size, 2, none⟩ (.slice (some ⟨g7, 0, none⟩) (k + 1) c7)).setCell ⟨wa.heap.size, 0, none⟩ (.int .i64 t)) wa.heap.size (Pt.tot (S.take (k + 1))) E v ∧ ((w7.setCell ⟨wa.heap.size, 2, none⟩ (.slice (some ⟨g7, 0, none⟩) (k + 1) c7)).setCell ⟨wa.heap.size, 0, none⟩ (.int .i64 t)).ownsRow (wa.heap.size + 1) 49 2 v (k + 1) (pcells (Pt.lay 0 (S.take (k + 1))))) := by
        refine ⟨_, by rw [HT2.out]; exact HS8.out, ?_⟩
        have hlen : (Pt.lay 0 (S.take (k + 1))).length = k + 1 := by rw [Pt.lay_len, List.length_take]; omega
        obtain ⟨nn, hh⟩ := HP8.out
        have h1 := hh.1
        rw [pcells_len, hlen] at h1
        obtain rfl : nn = k + 1 := by omega
        exact hh
      clear HO7 HS7 HB7 y1
      go_wp2
      go_roundw
      case rel => exact ⟨k + 1, by omega, by go_num, HE8, HB8⟩
      case measure => simp [intOf]; omega
    · obtain rfl : k = S.length := by omega
      rw [List.take_length] at HSO HOO
      have HRX : Hid (GBlk wo w.heap.size 0 0 (.slice none 0 0)) := blk_below RX.out HB.out HRA.out
      have HBW : Hid (Below w.heap.size w wo) := HBB.out.trans (HB.out.mono (Nat.le_of_lt HRA.out))
      have HP : Hid (PrtF (wa.heap.size + 1) wo vo (Pt.lay 0 S)) := ⟨_, HOO.out⟩
      obtain ⟨va, vn, vc, rfl⟩ : ∃ a n c, vo = .slice a n c := by
        obtain ⟨a, c, e, _⟩ := HP.out.prt
        exact ⟨a, _, c, e⟩
      have hend : ((S.length : Int) < l0.length ∧ ¬ (S.length : Int) < 16) ∨ ¬ (S.length : Int) < l0.length := by omega
      have HLT : Hid (w.heap.size < wa.heap.size + 1) := Nat.lt_succ_of_lt HRA.out
      obtain ⟨s0, s1, s2, _, _, _⟩ := three_cells HSO.out
      obtain ⟨r0, r1, r2, r3, r4, r5⟩ := three_cells HRX.out
      clear HOO HC HB hk hlt
      rcases hend with ⟨hend1, hend2⟩ | hend1
      all_goals
        go_wp2
        refine bodyPost_ret (v := .agg #[.int .i64 (Pt.tot S), .int .i64 E, .slice va vn vc]) ?rw rfl ⟨.slice va vn vc, rfl, (HP.out.stored HLT.out).from_ (Nat.le_of_lt HLT.out), below_stored HBW.out⟩
        case rw =>
          rw [results_cell rfl]
          go_simp

end Go.Proofs.Ytmekaofjcjmklaa
