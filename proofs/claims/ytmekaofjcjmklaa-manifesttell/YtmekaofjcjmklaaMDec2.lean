/- The walk of Decode of graphs. -/
import Derived.Test.YtmekaofjcjmklaaMDec
namespace Go.Proofs.Ytmekaofjcjmklaa
open Go.RowKit

namespace Mf
theorem dec_unreadB {s : List UInt8} (h : readB s = false) : decE s = 10 ∧ decS s = none_ := by
  refine told_no (dec_unread ?_)
  unfold readB at h
  simpa using h
theorem readB_some {s : List UInt8} (h : readB s = true) : read s = some (readS s) := by
  unfold readB at h
  unfold readS
  obtain ⟨g, hg⟩ := Option.isSome_iff_exists.1 h
  rw [hg]; rfl
theorem dec_refused {s : List UInt8} (h : readB s = true) (hc : chk (readS s) = 2) : decE s = 10 ∧ decS s = none_ := by
  refine told_no ?_
  rw [dec_read (readB_some h), if_neg]
  rintro ⟨h1, _⟩
  omega
theorem dec_unlike {s : List UInt8} (h : readB s = true) (hc : enc (readS s) ≠ s) : decE s = 10 ∧ decS s = none_ := by
  refine told_no ?_
  rw [dec_read (readB_some h), if_neg]
  rintro ⟨_, h1⟩
  exact hc h1
theorem dec_alike {s : List UInt8} (h : readB s = true) (hc : chk (readS s) = 0) (he : enc (readS s) = s) : decE s = 0 ∧ decS s = readS s := by
  refine told_yes ?_
  rw [dec_read (readB_some h), if_pos ⟨hc, he⟩]
end Mf

set_option maxHeartbeats 1000000 in
set_option maxRecDepth 100000 in
theorem mdec_any (b : ByteArray) (w : World) (hs : b.size ≤ 1000000) :
    Calls Try.prog 9 #[.string b] w fun e w' => ∃ u, e = .returned (.tuple #[.agg (gcells (Mf.decS b.data.toList) u), .int .i64 (Mf.decE b.data.toList)]) ∧ PrtF w.heap.size w' u (Mf.decS b.data.toList).2 ∧ (Mf.decS b.data.toList).2.length ≤ 16 ∧ Below w.heap.size w w' := by
  obtain ⟨wa, hwa⟩ : ∃ wa, w.alloc (.cells #[.int .i64 0, .int .i64 0, .slice none 0 0] 24) = wa := ⟨_, rfl⟩
  have RX : Hid (GBlk wa w.heap.size 0 0 (.slice none 0 0)) := by rw [Hid, ← hwa]; exact heap_alloc_new _ _
  have hba : Hid (Below w.heap.size w wa) := by rw [← hwa]; exact (Below.refl _ w).alloc (Nat.le_refl _) _
  have hsz : Hid (w.heap.size + 1 = wa.heap.size) := by rw [Hid, ← hwa]; simp
  have hmax : (Mf.decS b.data.toList).2.length ≤ 16 := by
    cases hd : Mf.dec b.data.toList with
    | none => rw [(Mf.told_no hd).2]; exact Nat.zero_le _
    | some g => rw [(Mf.told_yes hd).2]; exact (Mf.chk_iff.1 (Mf.dec_some hd).1).2.2.1
  unfold gcells
  have HNO : Hid (Mf.decE b.data.toList = 10 ∧ Mf.decS b.data.toList = Mf.none_ → ∀ W, Below w.heap.size w W → ∃ u, Ending.returned (.tuple #[.agg #[.int .i64 0, .int .i64 0, .slice none 0 0], .int .i64 10]) = Ending.returned (.tuple #[.agg #[.int .i64 (Mf.decS b.data.toList).1.1, .int .i64 (Mf.decS b.data.toList).1.2, u], .int .i64 (Mf.decE b.data.toList)]) ∧ PrtF w.heap.size (((W.setCell ⟨w.heap.size, 0, none⟩ (.int .i64 0)).setCell ⟨w.heap.size, 1, none⟩ (.int .i64 0)).setCell ⟨w.heap.size, 2, none⟩ (.slice none 0 0)) u (Mf.decS b.data.toList).2 ∧ (Mf.decS b.data.toList).2.length ≤ 16 ∧ Below w.heap.size w (((W.setCell ⟨w.heap.size, 0, none⟩ (.int .i64 0)).setCell ⟨w.heap.size, 1, none⟩ (.int .i64 0)).setCell ⟨w.heap.size, 2, none⟩ (.slice none 0 0))) := fun h W hb => by
    rw [h.1, h.2]
    exact ⟨_, rfl, prtF_nil _ _, Nat.zero_le _, below_stored hb⟩
  have HMX : Hid _ := hmax
  have HRD := mread_any b wa hs
  unfold gcells at HRD
  have HUB : Hid (Mf.readB b.data.toList = false → Mf.decE b.data.toList = 10 ∧ Mf.decS b.data.toList = Mf.none_) := Mf.dec_unreadB
  have HREF : Hid (Mf.readB b.data.toList = true → Mf.chk (Mf.readS b.data.toList) = 2 → Mf.decE b.data.toList = 10 ∧ Mf.decS b.data.toList = Mf.none_) := Mf.dec_refused
  have HUNL : Hid (Mf.readB b.data.toList = true → Mf.enc (Mf.readS b.data.toList) ≠ b.data.toList → Mf.decE b.data.toList = 10 ∧ Mf.decS b.data.toList = Mf.none_) := Mf.dec_unlike
  have HALI : Hid (Mf.readB b.data.toList = true → Mf.chk (Mf.readS b.data.toList) = 0 → Mf.enc (Mf.readS b.data.toList) = b.data.toList → Mf.decE b.data.toList = 0 ∧ Mf.decS b.data.toList = Mf.readS b.data.toList) := Mf.dec_alike
  clear hmax
  generalize Mf.decE b.data.toList = DE at *
  generalize Mf.decS b.data.toList = DS at *
  generalize Mf.readS b.data.toList = g at *
  obtain ⟨⟨n, m⟩, l⟩ := g
  dsimp only at HRD
  cases hb : Mf.readB b.data.toList with
  | false =>
    rw [hb] at HRD
    have HN : Hid (DE = 10 ∧ DS = Mf.none_) := HUB.out hb
    replace HRD : Hid _ := HRD
    clear hb HUB HREF HUNL HALI
    go_enter Try.func9, Try.ntmps9
    go_wp2_with fail
    refine Calls.mono HRD.out ?_
    rintro e w1 ⟨u, rfl, hu, -, hb1⟩
    obtain ⟨wq, hwq⟩ : ∃ wq, w1.alloc (.cells #[.int .i64 n, .int .i64 m, u] 24) = wq := ⟨_, rfl⟩
    have hb1q : Below wa.heap.size wa wq := by rw [← hwq]; exact hb1.alloc hb1.size _
    obtain ⟨r0, r1, r2, r3, r4, r5⟩ := three_cells (blk_later RX.out hb1q)
    have HBQ : Hid (Below w.heap.size w wq) := bnext hba.out hb1q
    obtain ⟨ua, un, uc, rfl⟩ : ∃ a n c, u = .slice a n c := by
      obtain ⟨a, c, e, _⟩ := hu.prt
      exact ⟨a, _, c, e⟩
    clear hu hb1 hb1q HRD RX hba
    go_wp2
    refine bodyPost_ret (v := .tuple #[.agg #[.int .i64 0, .int .i64 0, .slice none 0 0], .int .i64 10]) ?_ rfl (HNO.out HN.out _ HBQ.out)
    rw [results_cell_tmp rfl]
    go_simp
  | true =>
    rw [hb] at HRD
    replace HRD : Hid _ := HRD
    have HB : Hid (Mf.readB b.data.toList = true) := hb
    have HEN : Hid (∀ u W, Prt W u l → l.length ≤ b.size → Calls Try.prog 7 #[.agg #[.int .i64 n, .int .i64 m, u]] W fun e w' => e = .returned (.tuple #[.string ⟨(Mf.encS ((n, m), l)).toArray⟩, .int .i64 (Mf.chk ((n, m), l))]) ∧ Below W.heap.size W w') := fun u W hp hl => menc_any ((n, m), l) u W hp (by dsimp only; omega)
    have HES : Hid (Mf.chk ((n, m), l) = 0 → Mf.encS ((n, m), l) = Mf.enc ((n, m), l)) := Mf.encS_yes
    clear hb HUB
    go_enter Try.func9, Try.ntmps9
    go_wp2_with fail
    refine Calls.mono HRD.out ?_
    rintro e w1 ⟨u, rfl, hu, hll, hb1⟩
    obtain ⟨wq, hwq⟩ : ∃ wq, w1.alloc (.cells #[.int .i64 n, .int .i64 m, u] 24) = wq := ⟨_, rfl⟩
    have hbq : Below w1.heap.size w1 wq := by rw [← hwq]; exact (Below.refl _ w1).alloc (Nat.le_refl _) _
    have hb1q : Below wa.heap.size wa wq := bnext hb1 hbq
    have SQ : Hid (GBlk wq w1.heap.size n m u) := by rw [Hid, ← hwq]; exact heap_alloc_new _ _
    have RQ : Hid (GBlk wq w.heap.size 0 0 (.slice none 0 0)) := blk_later RX.out hb1q
    have HBQ : Hid (Below w.heap.size w wq) := bnext hba.out hb1q
    have HU : Hid (PrtF (w.heap.size + 1) wq u l) := by rw [Hid, hsz.out]; exact hu.later hbq
    obtain ⟨ua, un, uc, rfl⟩ : ∃ a n c, u = .slice a n c := by
      obtain ⟨a, c, e, _⟩ := hu.prt
      exact ⟨a, _, c, e⟩
    have HEN2 := HEN.out _ wq HU.out.prt hll
    obtain ⟨s0, s1, s2, _, _, _⟩ := three_cells SQ.out
    rcases Mf.chk_cases ((n, m), l) with hc | hc
    · rw [HES.out hc, hc] at HEN2
      by_cases he : Mf.enc ((n, m), l) = b.data.toList
      · have HD : Hid (DE = 0 ∧ DS = ((n, m), l)) := HALI.out HB.out hc he
        rw [he, show (⟨b.data.toList.toArray⟩ : ByteArray) = b by simp] at HEN2
        replace HEN2 : Hid _ := HEN2
        clear hc he hu hb1 hbq hb1q HRD RX hba HEN HES HREF HUNL HALI hll
        go_wp2_with fail
        refine Calls.mono HEN2.out ?_
        rintro e w2 ⟨rfl, hb2⟩
        obtain ⟨r0, r1, r2, r3, r4, r5⟩ := three_cells (blk_later RQ.out hb2)
        obtain ⟨q0, q1, q2, _, _, _⟩ := three_cells (blk_later SQ.out hb2)
        have HB2 : Hid (Below w.heap.size w w2) := bnext HBQ.out hb2
        have HU2 : Hid (PrtF (w.heap.size + 1) w2 (.slice ua un uc) l) := HU.out.later hb2
        have HM2 : Hid (l.length ≤ 16) := by have := HMX.out; rw [HD.out.2] at this; exact this
        clear hb2 HEN2 s0 s1 s2
        go_wp2
        refine bodyPost_ret (v := .tuple #[.agg #[.int .i64 n, .int .i64 m, .slice ua un uc], .int .i64 0]) ?rw rfl ⟨.slice ua un uc, by rw [HD.out.1, HD.out.2], by rw [HD.out.2]; exact (HU2.out.stored (Nat.lt_succ_self _)).from_ (Nat.le_succ _), by rw [HD.out.2]; exact HM2.out, below_stored HB2.out⟩
        case rw =>
          rw [results_cell_tmp rfl]
          go_simp
      · have HN : Hid (DE = 10 ∧ DS = Mf.none_) := HUNL.out HB.out he
        have hne : ((ByteArray.toList ⟨(Mf.enc ((n, m), l)).toArray⟩) == b.toList) = false := by
          rw [ByteArray.toList_eq, ByteArray.toList_eq]
          simpa using he
        generalize (⟨(Mf.enc ((n, m), l)).toArray⟩ : ByteArray) = f at *
        replace HEN2 : Hid _ := HEN2
        clear hc he hu hb1 hbq hb1q HRD RX hba HEN HES HREF HUNL HALI hll
        go_wp2_with fail
        refine Calls.mono HEN2.out ?_
        rintro e w2 ⟨rfl, hb2⟩
        obtain ⟨r0, r1, r2, r3, r4, r5⟩ := three_cells (blk_later RQ.out hb2)
        have HB2 : Hid (Below w.heap.size w w2) := bnext HBQ.out hb2
        clear hb2 HEN2 s0 s1 s2
        go_wp2
        refine bodyPost_ret (v := .tuple #[.agg #[.int .i64 0, .int .i64 0, .slice none 0 0], .int .i64 10]) ?_ rfl (HNO.out HN.out _ HB2.out)
        rw [results_cell_tmp rfl]
        go_simp
    · rw [hc] at HEN2
      have HN : Hid (DE = 10 ∧ DS = Mf.none_) := HREF.out HB.out hc
      generalize (⟨(Mf.encS ((n, m), l)).toArray⟩ : ByteArray) = f at *
      replace HEN2 : Hid _ := HEN2
      clear hc hu hb1 hbq hb1q HRD RX hba HEN HES HREF HUNL HALI hll
      go_wp2_with fail
      refine Calls.mono HEN2.out ?_
      rintro e w2 ⟨rfl, hb2⟩
      obtain ⟨r0, r1, r2, r3, r4, r5⟩ := three_cells (blk_later RQ.out hb2)
      have HB2 : Hid (Below w.heap.size w w2) := bnext HBQ.out hb2
      clear hb2 HEN2 s0 s1 s2
      go_wp2
      refine bodyPost_ret (v := .tuple #[.agg #[.int .i64 0, .int .i64 0, .slice none 0 0], .int .i64 10]) ?_ rfl (HNO.out HN.out _ HB2.out)
      rw [results_cell_tmp rfl]
      go_simp

end Go.Proofs.Ytmekaofjcjmklaa
