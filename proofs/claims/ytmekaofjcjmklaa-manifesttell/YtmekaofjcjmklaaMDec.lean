/- The walks of what reads a graph, and of Decode. -/
import Derived.Test.YtmekaofjcjmklaaMEnc
namespace Go.Proofs.Ytmekaofjcjmklaa
open Go.RowKit

namespace Mf
def readB (s : List UInt8) : Bool := (read s).isSome
def readS (s : List UInt8) : Graph := (read s).getD none_
theorem readS_none {s : List UInt8} (h : read s = none) : readB s = false ∧ readS s = none_ := by unfold readB readS; rw [h]; exact ⟨rfl, rfl⟩
theorem readS_some {s : List UInt8} {g : Graph} (h : read s = some g) : readB s = true ∧ readS s = g := by unfold readB readS; rw [h]; exact ⟨rfl, rfl⟩
end Mf

set_option maxHeartbeats 1000000 in
set_option maxRecDepth 100000 in
theorem mread_any (b : ByteArray) (w : World) (hs : b.size ≤ 1000000) :
    Calls Try.prog 23 #[.string b] w fun e w' => ∃ u, e = .returned (.tuple #[.agg (gcells (Mf.readS b.data.toList) u), .bool (Mf.readB b.data.toList)]) ∧ PrtF w.heap.size w' u (Mf.readS b.data.toList).2 ∧ (Mf.readS b.data.toList).2.length ≤ b.size ∧ Below w.heap.size w w' := by
  obtain ⟨wa, hwa⟩ : ∃ wa, w.alloc (.cells #[.int .i64 0, .int .i64 0, .slice none 0 0] 24) = wa := ⟨_, rfl⟩
  have RX : Hid (GBlk wa w.heap.size 0 0 (.slice none 0 0)) := by rw [Hid, ← hwa]; exact heap_alloc_new _ _
  have hba : Hid (Below w.heap.size w wa) := by rw [← hwa]; exact (Below.refl _ w).alloc (Nat.le_refl _) _
  have hbl : b.data.toList.length = b.size := Array.length_toList
  have hsz : Hid (w.heap.size < wa.heap.size) := by rw [Hid, ← hwa]; simp
  unfold gcells
  have HNO : Hid (Mf.read b.data.toList = none → ∀ W, Below w.heap.size w W → ∃ u, Ending.returned (.tuple #[.agg #[.int .i64 0, .int .i64 0, .slice none 0 0], .bool false]) = Ending.returned (.tuple #[.agg #[.int .i64 (Mf.readS b.data.toList).1.1, .int .i64 (Mf.readS b.data.toList).1.2, u], .bool (Mf.readB b.data.toList)]) ∧ PrtF w.heap.size (((W.setCell ⟨w.heap.size, 0, none⟩ (.int .i64 0)).setCell ⟨w.heap.size, 1, none⟩ (.int .i64 0)).setCell ⟨w.heap.size, 2, none⟩ (.slice none 0 0)) u (Mf.readS b.data.toList).2 ∧ (Mf.readS b.data.toList).2.length ≤ b.size ∧ Below w.heap.size w (((W.setCell ⟨w.heap.size, 0, none⟩ (.int .i64 0)).setCell ⟨w.heap.size, 1, none⟩ (.int .i64 0)).setCell ⟨w.heap.size, 2, none⟩ (.slice none 0 0))) := fun h W hb => by
    obtain ⟨h1, h2⟩ := Mf.readS_none h
    rw [h1, h2]
    exact ⟨_, rfl, prtF_nil _ _, Nat.zero_le _, below_stored hb⟩
  have HGT := get_any b 3 wa (by omega)
  replace HGT : Hid _ := HGT
  go_enter Try.func23, Try.ntmps23
  go_wp2_with fail
  refine Calls.mono HGT.out ?_
  rintro e w1 ⟨n1, x1, o1, rfl, HG1, rfl⟩
  clear HGT
  cases o1 with
  | false =>
    obtain ⟨r0, r1, r2, r3, r4, r5⟩ := three_cells RX.out
    have HN := Mf.read_first HG1.out
    replace HN : Hid _ := HN
    go_wp2
    refine bodyPost_ret (v := .tuple #[.agg #[.int .i64 0, .int .i64 0, .slice none 0 0], .bool false]) ?_ rfl (HNO.out HN.out _ hba.out)
    rw [results_cell_tmp rfl]
    go_simp
  | true =>
    go_wp2_with fail
    refine (get_any b x1 w1 (by omega)).mono ?_
    rintro e w2 ⟨n2, x2, o2, rfl, HG2, rfl⟩
    cases o2 with
    | false =>
      obtain ⟨r0, r1, r2, r3, r4, r5⟩ := three_cells RX.out
      have HN := Mf.read_second HG1.out HG2.out
      replace HN : Hid _ := HN
      go_wp2
      refine bodyPost_ret (v := .tuple #[.agg #[.int .i64 0, .int .i64 0, .slice none 0 0], .bool false]) ?_ rfl (HNO.out HN.out _ hba.out)
      rw [results_cell_tmp rfl]
      go_simp
    | true =>
      go_wp2_with fail
      refine (decode_any b x2 w2 (by omega)).mono ?_
      rintro e w3 ⟨v, nx, er, rfl, HT, hb3⟩
      replace RX : Hid (GBlk w3 w.heap.size 0 0 (.slice none 0 0)) := blk_later RX.out hb3
      have HB3 : Hid (Below w.heap.size w w3) := bnext hba.out hb3
      have HS3 : Hid (w.heap.size < w3.heap.size) := Nat.lt_of_lt_of_le hsz.out hb3.size
      clear hb3 hba hsz hwa
      cases hd : Gp.dec b.data.toList x2 with
      | none =>
        rw [hd] at HT
        obtain ⟨rfl, rfl, rfl⟩ := HT
        obtain ⟨r0, r1, r2, r3, r4, r5⟩ := three_cells RX.out
        have HN := Mf.read_ends HG1.out HG2.out hd
        replace HN : Hid _ := HN
        clear hd
        go_wp2
        refine bodyPost_ret (v := .tuple #[.agg #[.int .i64 0, .int .i64 0, .slice none 0 0], .bool false]) ?_ rfl (HNO.out HN.out _ HB3.out)
        rw [results_cell_tmp rfl]
        go_simp
      | some lx =>
        obtain ⟨l, x'⟩ := lx
        rw [hd] at HT
        obtain ⟨hi, rfl, rfl⟩ := HT
        obtain ⟨-, -, -, -, -, -, -, g8⟩ := Gp.enc_dec _ _ _ _ hd
        have HN := Mf.readS_some (Mf.read_all HG1.out HG2.out hd)
        replace HN : Hid _ := HN
        have HLL : Hid (l.length ≤ b.size) := by rw [Hid]; omega
        clear hd HNO
        go_wp2_with fail
        refine (partsTo_any v l w3 hi (by omega)).mono ?_
        rintro e w4 ⟨u, rfl, hown, hb4⟩
        obtain ⟨r0, r1, r2, r3, r4, r5⟩ := three_cells (blk_later RX.out hb4)
        have HO : Hid (PrtF (w.heap.size + 1) w4 u (Mf.fro 0 l)) := PrtF.from_ ⟨_, hown⟩ HS3.out
        have HB4 : Hid (Below w.heap.size w w4) := bnext HB3.out hb4
        obtain ⟨ua, un, uc, rfl⟩ : ∃ a n c, u = .slice a n c := by
          obtain ⟨a, c, e, _⟩ := Prt.of_own hown
          exact ⟨a, _, c, e⟩
        clear hown hb4 RX
        go_wp2
        refine bodyPost_ret (v := .tuple #[.agg #[.int .i64 n1, .int .i64 n2, .slice ua un uc], .bool true]) ?rw rfl ⟨.slice ua un uc, by rw [HN.out.1, HN.out.2], by rw [HN.out.2]; exact (HO.out.stored (Nat.lt_succ_self _)).from_ (Nat.le_succ _), by rw [HN.out.2]; show (Mf.fro 0 l).length ≤ _; rw [Mf.fro_len]; exact HLL.out, below_stored HB4.out⟩
        case rw =>
          rw [results_cell_tmp rfl]
          go_simp

end Go.Proofs.Ytmekaofjcjmklaa
