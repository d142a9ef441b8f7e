/- The walk of Encode of graphs. -/
import Derived.Test.YtmekaofjcjmklaaMBlk
import Derived.Deep.RegionHeld3
namespace Go.Proofs.Ytmekaofjcjmklaa
open Go.RowKit

/-- A later world, in which two cells stand. -/
abbrev Two (w : World) (b : Nat) (x y : Value) (W : World) : Prop := Below w.heap.size w W ∧ W.cell? ⟨b, 0, none⟩ = some x ∧ W.cell? ⟨b, 1, none⟩ = some y
theorem two_later {w W W' : World} {b : Nat} {x y : Value} (h : Two w b x y W) (hb : Below W.heap.size W W') : Two w b x y W' := ⟨bnext h.1 hb, cell_after hb h.2.1, cell_after hb h.2.2⟩
theorem two_alloc {w W : World} {b : Nat} {x y : Value} (o : Obj) (h : Two w b x y W) : Two w b x y (W.alloc o) := two_later h ((Below.refl _ W).alloc (Nat.le_refl _) _)
theorem strs_new (W : World) (a b c d : ByteArray) : ∀ (j : Nat) x, [a, b, c, d][j]? = some x → (W.alloc (.cells #[.string a, .string b, .string c, .string d] 9)).cell? ⟨W.heap.size, j, none⟩ = some (.string x) := by
  intro j x h
  match j, h with
  | 0, h => simp at h; subst h; simp
  | 1, h => simp at h; subst h; simp
  | 2, h => simp at h; subst h; simp
  | 3, h => simp at h; subst h; simp
  | j + 4, h => simp at h

set_option maxHeartbeats 1000000 in
set_option maxRecDepth 100000 in
theorem menc_any (g : Mf.Graph) (u : Value) (w : World) (h : Prt w u g.2) (hl : g.2.length ≤ 1000000000000) :
    Calls Try.prog 7 #[.agg (gcells g u)] w fun e w' => e = .returned (.tuple #[.string ⟨(Mf.encS g).toArray⟩, .int .i64 (Mf.chk g)]) ∧ Below w.heap.size w w' := by
  have HCK0 := fun wa (hb : Below w.heap.size w wa) => mchk_any g u wa (h.later hb) hl
  obtain ⟨⟨n, m⟩, l⟩ := g
  unfold gcells at HCK0 ⊢
  dsimp only at h hl HCK0 ⊢
  obtain ⟨a, cap, rfl, _⟩ := id h
  obtain ⟨wa, hwa⟩ : ∃ wa, w.alloc (.cells #[.int .i64 n, .int .i64 m, .slice a l.length cap] 24) = wa := ⟨_, rfl⟩
  have c0 : wa.cell? ⟨w.heap.size, 0, none⟩ = some (.int .i64 n) := by rw [← hwa]; simp
  have c1 : wa.cell? ⟨w.heap.size, 1, none⟩ = some (.int .i64 m) := by rw [← hwa]; simp
  have c2 : wa.cell? ⟨w.heap.size, 2, none⟩ = some (.slice a l.length cap) := by rw [← hwa]; simp
  have hba : Hid (Below w.heap.size w wa) := by rw [← hwa]; exact (Below.refl _ w).alloc (Nat.le_refl _) _
  have HCK := HCK0 wa hba.out
  have HPR : Hid (Prt wa (.slice a l.length cap) l) := h.later hba.out
  clear h HCK0
  rcases Mf.chk_cases ((n, m), l) with hc | hc
  · obtain ⟨⟨e1, e2⟩, ⟨v1, v2⟩, hl16, _⟩ := Mf.chk_iff.1 hc
    obtain ⟨hup, hfit, hlen, _, _⟩ := Mf.chk_ends hc
    dsimp only at e1 e2 v1 v2 hl16 hup hfit hlen
    have HR : Hid ((Mf.encS ((n, m), l)) = Mf.sealB (Mf.raw ((n, m), l))) := Mf.encS_yes hc
    rw [hc] at HCK ⊢
    rw [HR.out]
    have HEN : Hid (∀ v W, Ints W v (Mf.ends l) → Calls Try.prog 16 #[v] W fun e w' => e = .returned (.tuple #[.string ⟨(Gp.enc (Mf.ends l)).toArray⟩, .int .i64 0]) ∧ Below W.heap.size W w') := fun v W hi => by
      have := encode_any v (Mf.ends l) W hi hfit (by omega)
      rwa [show Gp.encS (Mf.ends l) = Gp.enc (Mf.ends l) by unfold Gp.encS; rw [if_pos hup], err_yes hup] at this
    have HP1 : Hid (∀ W : World, Calls Try.prog 19 #[.int .i64 n] W fun e w' => e = .returned (.string ⟨(Vi.putL n).toArray⟩) ∧ Below W.heap.size W w') := fun W => put_any n W (by omega) (by omega)
    have HP2 : Hid (∀ W : World, Calls Try.prog 19 #[.int .i64 m] W fun e w' => e = .returned (.string ⟨(Vi.putL m).toArray⟩) ∧ Below W.heap.size W w') := fun W => put_any m W (by omega) (by omega)
    have HSE : Hid (∀ W : World, Calls Try.prog 18 #[.slice (some ⟨W.heap.size, 0, none⟩) 4 4] (W.alloc (.cells #[.string ⟨#[99, 97, 114]⟩, .string ⟨(Vi.putL n).toArray⟩, .string ⟨(Vi.putL m).toArray⟩, .string ⟨(Gp.enc (Mf.ends l)).toArray⟩] 9)) fun e w' => e = .returned (.string ⟨(Mf.sealB (Mf.raw ((n, m), l))).toArray⟩) ∧ Below (W.alloc (.cells #[.string ⟨#[99, 97, 114]⟩, .string ⟨(Vi.putL n).toArray⟩, .string ⟨(Vi.putL m).toArray⟩, .string ⟨(Gp.enc (Mf.ends l)).toArray⟩] 9)).heap.size (W.alloc (.cells #[.string ⟨#[99, 97, 114]⟩, .string ⟨(Vi.putL n).toArray⟩, .string ⟨(Vi.putL m).toArray⟩, .string ⟨(Gp.enc (Mf.ends l)).toArray⟩] 9)) w') := fun W =>
      sealed_any W.heap.size 4 4 [⟨#[99, 97, 114]⟩, ⟨(Vi.putL n).toArray⟩, ⟨(Vi.putL m).toArray⟩, ⟨(Gp.enc (Mf.ends l)).toArray⟩] _ (strs_new W _ _ _ _) (by simp) rfl (by omega) (by omega) (Mf.raw ((n, m), l)) (by simp [Mf.raw]) (by
        have := Mf.raw_size ((n, m), l)
        dsimp only at this
        omega)
    obtain ⟨r, hr⟩ : ∃ r, (⟨(Mf.sealB (Mf.raw ((n, m), l))).toArray⟩ : ByteArray) = r := ⟨_, rfl⟩
    rw [hr] at HSE ⊢
    replace HCK : Hid _ := HCK
    clear hr HR hc hfit hup
    generalize (⟨(Vi.putL n).toArray⟩ : ByteArray) = P1 at *
    generalize (⟨(Vi.putL m).toArray⟩ : ByteArray) = P2 at *
    generalize (⟨(Gp.enc (Mf.ends l)).toArray⟩ : ByteArray) = T at *
    go_enter Try.func7, Try.ntmps7
    go_wp2_with fail
    refine Calls.mono HCK.out ?_
    rintro e w1 ⟨rfl, hb1⟩
    replace c0 := cell_after hb1 c0
    replace c1 := cell_after hb1 c1
    replace c2 := cell_after hb1 c2
    have hp1 := HPR.out.later hb1
    replace hb1 : Hid (Below w.heap.size w w1) := bnext hba.out hb1
    clear HCK hba hwa
    go_wp2_with fail
    refine (endsOf_any _ l w1 hp1 (by omega)).mono ?_
    rintro e w2 ⟨v, rfl, hi, hb2⟩
    go_wp2_with fail
    refine Calls.mono (HEN.out v w2 hi) ?_
    rintro e w3 ⟨rfl, hb3⟩
    have d0 : w3.drew.cell? ⟨w.heap.size, 0, none⟩ = some (.int .i64 n) := cell_after (bnext hb2 hb3).drew c0
    have d1 : w3.drew.cell? ⟨w.heap.size, 1, none⟩ = some (.int .i64 m) := cell_after (bnext hb2 hb3).drew c1
    have hdr : Below w3.heap.size w3 w3.drew := (Below.refl _ _).drew
    have HB3 : Hid (Below w.heap.size w w3) := bnext hb1.out (bnext hb2 hb3)
    clear c0 c1 c2 hp1 hb1 hi hb2 hb3 HEN HPR
    go_wp2_with fail
    go_region_held3 (fun W => Below w3.heap.size w3 W ∧ W.cell? ⟨w.heap.size, 0, none⟩ = some (.int .i64 n) ∧ W.cell? ⟨w.heap.size, 1, none⟩ = some (.int .i64 m)) (first | assumption | exact ⟨hdr, d0, d1⟩ | exact two_alloc _ (by assumption))
      (first
      | (go_at_call_of 19 n; refine Calls.mono (HP1.out _) ?_; rintro e w' ⟨rfl, hb'⟩; have B' := two_later (by assumption) hb')
      | (go_at_call_of 19 m; refine Calls.mono (HP2.out _) ?_; rintro e w' ⟨rfl, hb'⟩; have B' := two_later (by assumption) hb')
      | (go_at_call 18; refine Calls.mono (HSE.out _) ?_; rintro e w' ⟨rfl, hb'⟩; have B' := two_later (two_alloc _ (by assumption)) hb')
      | fail)
    all_goals
      go_wp2
      go_ret2
      exact ⟨rfl, bnext HB3.out (by assumption : Below w3.heap.size w3 _ ∧ _ ∧ _).1⟩
  · have HR : Hid ((Mf.encS ((n, m), l)) = []) := Mf.encS_no hc
    rw [hc] at HCK ⊢
    rw [HR.out]
    replace HCK : Hid _ := HCK
    clear hc HR
    go_enter Try.func7, Try.ntmps7
    go_wp2_with fail
    refine Calls.mono HCK.out ?_
    rintro e w1 ⟨rfl, hb1⟩
    replace hb1 : Hid (Below w.heap.size w w1) := bnext hba.out hb1
    clear HCK
    go_wp2
    go_ret2
    exact ⟨rfl, hb1.out⟩

end Go.Proofs.Ytmekaofjcjmklaa
