/- What reads a shard's bytes, in plain words; the shard whose bytes they are, if there is one. -/
import Derived.Test.YtbhngncnhabbkaaGreatHMath
namespace Go.Proofs.YtbhngncnhabbkaaGreat
namespace Sh

/-- What reads: what is left, and whether it has failed. -/
abbrev Rd := List UInt8 × Bool
def wantR (r : Rd) (ok : Bool) : Rd := if ok = true then r else ([], true)
def textR (r : Rd) (n : Nat) : Rd × List UInt8 := if r.1.length < n then (([], true), []) else ((r.1.drop n, r.2), r.1.take n)
def octR (r : Rd) : Rd × Nat := ((textR r 1).1, ((textR r 1).2.headD 0).toNat)
def numR (r : Rd) : Rd × Int := (if (Vi.getS r.1 0).2.2 = true then (r.1.drop (Vi.getS r.1 0).2.1.toNat, r.2) else ([], true), (Vi.getS r.1 0).1)
def listR (r : Rd) : Rd × List Int := match Gp.dec r.1 0 with
  | some x => ((r.1.drop x.2.toNat, r.2), x.1)
  | none => (([], true), [])
def tabR (r : Rd) (m w : Nat) : Rd × List Int :=
  (wantR (textR r ((m * w + 7) / 8)).1 (decide ((Pk.unpack (textR r ((m * w + 7) / 8)).2 m w).2 = 0)), (Pk.unpack (textR r ((m * w + 7) / 8)).2 m w).1)
def partR (r : Rd) : Rd × (Int × Int) :=
  if mayP ((numR r).2, (numR (numR r).1).2) = true then ((numR (numR r).1).1, ((numR r).2, (numR (numR r).1).2)) else (([], true), (0, 0))
def degR (r : Rd) (m : Nat) : Rd × List Int :=
  (wantR (tabR (octR r).1 m (octR r).2).1 (decide (Pk.wid (tabR (octR r).1 m (octR r).2).2 = (octR r).2)), (tabR (octR r).1 m (octR r).2).2)
/-- One list, of that length. -/
def oneR (r : Rd) (d : Int) : Rd × List Int := (wantR (listR r).1 (decide (((listR r).2.length : Int) = d)), (listR r).2)
def lstsR : Rd → List Int → Rd × List (List Int)
  | r, [] => (r, [])
  | r, d :: ds => ((lstsR (oneR r d).1 ds).1, (oneR r d).2 :: (lstsR (oneR r d).1 ds).2)
/-- What stands ahead of the lists. -/
def headR (r : Rd) : Rd × (Int × Int) := partR (wantR (textR r 2).1 (decide ((textR r 2).2 = [115, 104])))
def outR (r : Rd) : Rd × Shard :=
  let p := headR r
  let d := degR p.1 (p.2.2 - p.2.1).toNat
  let o := lstsR d.1 d.2
  (o.1, (p.2, o.2))
def shR (r : Rd) : Rd × Shard :=
  let o := outR r
  (wantR (numR o.1).1 (decide ((numR o.1).2 = (many o.2.2 : Int))), o.2)

theorem wantR_ok {r : Rd} {ok : Bool} (h : (wantR r ok).2 = false) : ok = true ∧ wantR r ok = r := by
  cases ok with
  | true => exact ⟨rfl, rfl⟩
  | false => simp [wantR] at h
theorem textR_ok {r : Rd} {n : Nat} (h : (textR r n).1.2 = false) : r.2 = false ∧ r.1 = (textR r n).2 ++ (textR r n).1.1 ∧ (textR r n).2.length = n := by
  unfold textR at *
  by_cases hl : r.1.length < n
  · rw [if_pos hl] at h; cases h
  · rw [if_neg hl] at h ⊢
    dsimp only at h ⊢
    refine ⟨h, (List.take_append_drop n r.1).symm, ?_⟩
    rw [List.length_take]; omega
theorem octR_ok {r : Rd} (h : (octR r).1.2 = false) : r.2 = false ∧ r.1 = UInt8.ofNat (octR r).2 :: (octR r).1.1 ∧ (octR r).2 < 256 := by
  unfold octR at *
  obtain ⟨h1, h2, h3⟩ := textR_ok h
  generalize textR r 1 = t at *
  dsimp only
  match ht : t.2, h3 with
  | [x], _ =>
    rw [ht] at h2
    refine ⟨h1, ?_, UInt8.toNat_lt _⟩
    rw [h2]; simp
theorem numR_ok {r : Rd} (h : (numR r).1.2 = false) : r.2 = false ∧ r.1 = Vi.putL (numR r).2 ++ (numR r).1.1 ∧ 0 ≤ (numR r).2 ∧ (numR r).2 ≤ 9223372036854775807 := by
  unfold numR at *
  dsimp only at *
  by_cases hb : (Vi.getS r.1 0).2.2 = true
  · rw [if_pos hb] at h ⊢
    obtain ⟨_, h2, h3, h4, h5, h6, h7⟩ := Gp.getS_some r.1 0 hb
    rw [h4]
    have e : (0 + ((Vi.putL (Vi.getS r.1 0).1).length : Int)).toNat = (Vi.putL (Vi.getS r.1 0).1).length := by omega
    rw [e]
    refine ⟨h, ?_, h2, h3⟩
    have h8 : r.1.take (Vi.putL (Vi.getS r.1 0).1).length = Vi.putL (Vi.getS r.1 0).1 := by simpa using h6
    conv => lhs; rw [← List.take_append_drop (Vi.putL (Vi.getS r.1 0).1).length r.1, h8]
  · rw [if_neg hb] at h; cases h
theorem listR_ok {r : Rd} (h : (listR r).1.2 = false) : r.2 = false ∧ r.1 = Gp.enc (listR r).2 ++ (listR r).1.1 := by
  unfold listR at *
  cases hd : Gp.dec r.1 0 with
  | none => rw [hd] at h; cases h
  | some x =>
    obtain ⟨l, x⟩ := x
    rw [hd] at h
    obtain ⟨_, _, _, h4, _, h6, _, _⟩ := Gp.enc_dec r.1 0 l x hd
    dsimp only at h ⊢
    rw [h4]
    have e : (0 + ((Gp.enc l).length : Int)).toNat = (Gp.enc l).length := by omega
    rw [e]
    have h8 : r.1.take (Gp.enc l).length = Gp.enc l := by simpa using h6
    exact ⟨h, by conv => lhs; rw [← List.take_append_drop (Gp.enc l).length r.1, h8]⟩
theorem unpack_zero {s : List UInt8} {m w : Nat} (h : (Pk.unpack s m w).2 = 0) : Pk.pk (Pk.unpack s m w).1 w = s ∧ (Pk.unpack s m w).1.length = m ∧ w ≤ 32 := by
  unfold Pk.unpack at *
  by_cases h1 : ¬ (0 ≤ (w : Int) ∧ (w : Int) ≤ 32) ∨ (m : Int) < 0
  · rw [if_pos h1] at h; cases h
  · by_cases h2 : (65536 : Int) < m
    · rw [if_neg h1, if_pos h2] at h; cases h
    · rw [if_neg h1, if_neg h2] at h ⊢
      simp only [Int.toNat_natCast] at h ⊢
      by_cases h3 : Pk.Ok s w m
      · rw [if_pos h3]
        exact ⟨Pk.pk_un h3, Pk.un_length _ _ _, by omega⟩
      · rw [if_neg h3] at h; cases h
theorem tabR_ok {r : Rd} {m w : Nat} (h : (tabR r m w).1.2 = false) : r.2 = false ∧ r.1 = Pk.pk (tabR r m w).2 w ++ (tabR r m w).1.1 ∧ (tabR r m w).2.length = m := by
  unfold tabR at *
  dsimp only at *
  obtain ⟨h1, h2⟩ := wantR_ok h
  rw [h2] at h ⊢
  obtain ⟨h3, h4, _⟩ := textR_ok h
  obtain ⟨h5, h6, _⟩ := unpack_zero (of_decide_eq_true h1)
  rw [h5]
  exact ⟨h3, h4, h6⟩
theorem partR_ok {r : Rd} (h : (partR r).1.2 = false) : r.2 = false ∧ r.1 = Vi.putL (partR r).2.1 ++ (Vi.putL (partR r).2.2 ++ (partR r).1.1) := by
  unfold partR at *
  by_cases hm : mayP ((numR r).2, (numR (numR r).1).2) = true
  · rw [if_pos hm] at h ⊢
    dsimp only at h ⊢
    obtain ⟨h1, h2, _⟩ := numR_ok h
    obtain ⟨h3, h4, _⟩ := numR_ok h1
    exact ⟨h3, by rw [← h2]; exact h4⟩
  · rw [if_neg hm] at h; cases h
theorem degR_ok {r : Rd} {m : Nat} (h : (degR r m).1.2 = false) : r.2 = false ∧ r.1 = UInt8.ofNat (Pk.wid (degR r m).2) :: (Pk.pk (degR r m).2 (Pk.wid (degR r m).2) ++ (degR r m).1.1) ∧ (degR r m).2.length = m := by
  unfold degR at *
  dsimp only at *
  obtain ⟨h1, h2⟩ := wantR_ok h
  rw [h2] at h ⊢
  obtain ⟨h3, h4, h5⟩ := tabR_ok h
  obtain ⟨h6, h7, _⟩ := octR_ok h3
  rw [of_decide_eq_true h1]
  exact ⟨h6, by rw [← h4]; exact h7, h5⟩
theorem oneR_ok {r : Rd} {d : Int} (h : (oneR r d).1.2 = false) : r.2 = false ∧ r.1 = Gp.enc (oneR r d).2 ++ (oneR r d).1.1 ∧ ((oneR r d).2.length : Int) = d := by
  unfold oneR at *
  dsimp only at *
  obtain ⟨h1, h2⟩ := wantR_ok h
  rw [h2] at h ⊢
  obtain ⟨h3, h4⟩ := listR_ok h
  exact ⟨h3, h4, of_decide_eq_true h1⟩
theorem lstsR_ok : ∀ {ds : List Int} {r : Rd}, (lstsR r ds).1.2 = false → r.2 = false ∧ r.1 = lists (lstsR r ds).2 ++ (lstsR r ds).1.1 ∧ deg (lstsR r ds).2 = ds
  | [], r, h => ⟨h, rfl, rfl⟩
  | d :: ds, r, h => by
    obtain ⟨h1, h2, h3⟩ := lstsR_ok (ds := ds) (r := (oneR r d).1) h
    obtain ⟨h4, h5, h6⟩ := oneR_ok h1
    refine ⟨h4, ?_, ?_⟩
    · show r.1 = lists ((oneR r d).2 :: (lstsR (oneR r d).1 ds).2) ++ (lstsR (oneR r d).1 ds).1.1
      rw [show lists ((oneR r d).2 :: (lstsR (oneR r d).1 ds).2) = Gp.enc (oneR r d).2 ++ lists (lstsR (oneR r d).1 ds).2 by simp [lists], List.append_assoc, ← h2]
      exact h5
    · show deg ((oneR r d).2 :: (lstsR (oneR r d).1 ds).2) = d :: ds
      rw [show deg ((oneR r d).2 :: (lstsR (oneR r d).1 ds).2) = ((oneR r d).2.length : Int) :: deg (lstsR (oneR r d).1 ds).2 by simp [deg], h3, h6]
theorem headR_ok {r : Rd} (h : (headR r).1.2 = false) : r.2 = false ∧ r.1 = 115 :: 104 :: (Vi.putL (headR r).2.1 ++ (Vi.putL (headR r).2.2 ++ (headR r).1.1)) := by
  unfold headR at *
  obtain ⟨h1, h2⟩ := partR_ok h
  obtain ⟨h3, h4⟩ := wantR_ok h1
  rw [h4] at h1
  obtain ⟨h5, h6, _⟩ := textR_ok h1
  rw [h4] at h2 ⊢
  rw [of_decide_eq_true h3, h2] at h6
  exact ⟨h5, h6⟩
theorem shR_ok {b : List UInt8} (h : (shR (b, false)).1 = ([], false)) : b = raw (shR (b, false)).2 := by
  have hf : (shR (b, false)).1.2 = false := by rw [h]
  unfold shR outR at *
  dsimp only at *
  generalize hp : headR (b, false) = p at *
  generalize hd : degR p.1 (p.2.2 - p.2.1).toNat = d at *
  generalize ho : lstsR d.1 d.2 = o at *
  obtain ⟨h1, h2⟩ := wantR_ok hf
  rw [h2] at h hf
  obtain ⟨h3, h4, _⟩ := numR_ok hf
  have h5 := lstsR_ok (ds := d.2) (r := d.1) (by rw [ho]; exact h3)
  rw [ho] at h5
  have h6 := degR_ok (r := p.1) (m := (p.2.2 - p.2.1).toNat) (by rw [hd]; exact h5.1)
  rw [hd] at h6
  have h7 := headR_ok (r := (b, false)) (by rw [hp]; exact h6.1)
  rw [hp] at h7
  have h8 := h7.2
  rw [h6.2.1, h5.2.1, h4, h, of_decide_eq_true h1] at h8
  unfold raw wd
  dsimp only at h8 ⊢
  rw [h5.2.2]
  simpa using h8

theorem textR_of (s q : List UInt8) (f : Bool) : textR (s ++ q, f) s.length = ((q, f), s) := by
  unfold textR
  rw [if_neg (by simp)]
  simp
theorem wantR_of {r : Rd} {ok : Bool} (h : ok = true) : wantR r ok = r := by rw [h]; rfl
theorem numR_of (q : List UInt8) (f : Bool) {n : Int} (h0 : 0 ≤ n) (h1 : n ≤ 9223372036854775807) : numR (Vi.putL n ++ q, f) = ((q, f), n) := by
  have h := Gp.getS_put [] q n h0 h1
  rw [List.nil_append, show ((([] : List UInt8).length : Nat) : Int) = 0 from rfl] at h
  unfold numR
  dsimp only
  rw [h]
  dsimp only
  rw [if_pos rfl, show (0 + ((Vi.putL n).length : Int)).toNat = (Vi.putL n).length by omega, List.drop_left]
theorem listR_of (q : List UInt8) (f : Bool) {l : List Int} (hu : Gp.up (-1) l = true) (hf : Gp.Fit l) (hl : l.length ≤ 9223372036854775807) : listR (Gp.enc l ++ q, f) = ((q, f), l) := by
  have h := Gp.dec_enc [] q l hu hf hl
  rw [List.nil_append, show ((([] : List UInt8).length : Nat) : Int) = 0 from rfl] at h
  unfold listR
  dsimp only
  rw [h]
  dsimp only
  rw [show (0 + ((Gp.enc l).length : Int)).toNat = (Gp.enc l).length by omega, List.drop_left]
theorem octR_of (q : List UInt8) (f : Bool) {n : Nat} (h : n < 256) : octR (UInt8.ofNat n :: q, f) = ((q, f), n) := by
  unfold octR
  have := textR_of [UInt8.ofNat n] q f
  rw [show ([UInt8.ofNat n] ++ q) = UInt8.ofNat n :: q from rfl, show [UInt8.ofNat n].length = 1 from rfl] at this
  rw [this]
  simp [Nat.mod_eq_of_lt h]
theorem tabR_of (q : List UInt8) (f : Bool) {l : List Int} {w : Nat} (hm : Pk.May l w) (hw : w ≤ 32) (hl : l.length ≤ 65536) : tabR (Pk.pk l w ++ q, f) l.length w = ((q, f), l) := by
  unfold tabR
  have h := textR_of (Pk.pk l w) q f
  rw [Pk.pk_length] at h
  rw [show (l.length * w + 7) / 8 = Pk.size l.length w from rfl, h]
  dsimp only
  rw [Pk.unpack_ok hw hl (Pk.ok_pk l w), Pk.un_pk hm, wantR_of (by simp)]
theorem degR_of (q : List UInt8) (f : Bool) {l : List Int} (hm : Pk.May l (Pk.wid l)) (hw : Pk.wid l ≤ 32) (hl : l.length ≤ 65536) : degR (UInt8.ofNat (Pk.wid l) :: (Pk.pk l (Pk.wid l) ++ q), f) l.length = ((q, f), l) := by
  unfold degR
  rw [octR_of _ f (by omega)]
  dsimp only
  rw [tabR_of q f hm hw hl]
  dsimp only
  rw [wantR_of (by simp)]
theorem lstsR_of : ∀ (o : List (List Int)) (q : List UInt8) (f : Bool), Good o → lstsR (lists o ++ q, f) (deg o) = ((q, f), o)
  | [], q, f, _ => rfl
  | l :: o, q, f, g => by
    obtain ⟨g1, g2, g3⟩ := g l List.mem_cons_self
    have h1 : oneR (lists (l :: o) ++ q, f) (l.length : Int) = ((lists o ++ q, f), l) := by
      rw [show lists (l :: o) ++ q = Gp.enc l ++ (lists o ++ q) by simp [lists]]
      unfold oneR
      rw [listR_of _ f g1 g2 g3]
      dsimp only
      rw [wantR_of (by simp)]
    show lstsR (lists (l :: o) ++ q, f) ((l.length : Int) :: deg o) = _
    rw [lstsR, h1]
    dsimp only
    rw [lstsR_of o q f fun x hx => g x (List.mem_cons_of_mem _ hx)]
theorem headR_of (q : List UInt8) (f : Bool) {p : Int × Int} (hp : mayP p = true) : headR (115 :: 104 :: (Vi.putL p.1 ++ (Vi.putL p.2 ++ q)), f) = ((q, f), p) := by
  have hm := mayP_iff.1 hp
  have h := textR_of [115, 104] (Vi.putL p.1 ++ (Vi.putL p.2 ++ q)) f
  unfold headR
  rw [show (115 :: 104 :: (Vi.putL p.1 ++ (Vi.putL p.2 ++ q)) : List UInt8) = [115, 104] ++ (Vi.putL p.1 ++ (Vi.putL p.2 ++ q)) from rfl]
  rw [show (2 : Nat) = ([115, 104] : List UInt8).length from rfl, h]
  dsimp only
  rw [wantR_of (by simp)]
  unfold partR
  rw [numR_of _ f (by omega) (by omega)]
  dsimp only
  rw [numR_of _ f (by omega) (by omega)]
  dsimp only
  rw [if_pos hp]
theorem shR_of {s : Shard} (hs : may s = true) : shR (raw s, false) = (([], false), s) := by
  obtain ⟨s1, s2, s3, s4⟩ := may_iff.1 hs
  have gs := may_good hs
  obtain ⟨p, o⟩ := s
  dsimp only at *
  have hm := mayP_iff.1 s1
  have h1 := headR_of (UInt8.ofNat (wd o) :: (Pk.pk (deg o) (wd o) ++ (lists o ++ Vi.putL (many o)))) false s1
  have h2 := degR_of (lists o ++ Vi.putL (many o)) false (l := deg o) (deg_may s4) (by have := wd_le s4; unfold wd at this; omega) (by rw [deg_len]; omega)
  have h3 := lstsR_of o (Vi.putL (many o)) false gs
  have h4 := numR_of [] false (n := (many o : Int)) (by omega) (by omega)
  rw [List.append_nil] at h4
  unfold shR outR raw
  rw [h1]
  dsimp only
  rw [show (p.2 - p.1).toNat = (deg o).length by rw [deg_len]; omega]
  unfold wd
  rw [h2]
  dsimp only
  rw [h3]
  dsimp only
  rw [h4]
  dsimp only
  rw [wantR_of (by simp)]

/-- The text behind which its sum stands, if it does. -/
def bodyOf (b : List UInt8) : Option (List UInt8) := if 4 ≤ b.length ∧ b.drop (b.length - 4) = Cr.four (Cr.sum (b.take (b.length - 4))) then some (b.take (b.length - 4)) else none
theorem bodyOf_seal (b : List UInt8) : bodyOf (sealB b) = some b := by
  have h : (sealB b).length = b.length + 4 := by unfold sealB; rw [List.length_append, four_len]
  unfold bodyOf
  rw [h, Nat.add_sub_cancel]
  have e1 : (sealB b).take b.length = b := by unfold sealB; exact List.take_left
  have e2 : (sealB b).drop b.length = Cr.four (Cr.sum b) := by unfold sealB; exact List.drop_left
  rw [e1, e2, if_pos ⟨by omega, rfl⟩]
theorem bodyOf_some {b t : List UInt8} (h : bodyOf b = some t) : b = sealB t := by
  unfold bodyOf at h
  by_cases hc : 4 ≤ b.length ∧ b.drop (b.length - 4) = Cr.four (Cr.sum (b.take (b.length - 4)))
  · rw [if_pos hc] at h
    cases h
    unfold sealB
    rw [← hc.2, List.take_append_drop]
  · rw [if_neg hc] at h; cases h
/-- The shard whose bytes they are, if there is one. -/
def dec (b : List UInt8) : Option Shard := match bodyOf b with
  | none => none
  | some t => if (shR (t, false)).1 = ([], false) ∧ may (shR (t, false)).2 = true then some (shR (t, false)).2 else none
theorem dec_enc {s : Shard} (hs : may s = true) : dec (enc s) = some s := by
  unfold dec enc
  rw [bodyOf_seal]
  dsimp only
  rw [shR_of hs, if_pos ⟨rfl, hs⟩]
theorem dec_some {s : Shard} {b : List UInt8} (h : dec b = some s) : may s = true ∧ enc s = b := by
  unfold dec at h
  cases hb : bodyOf b with
  | none => rw [hb] at h; cases h
  | some t =>
    rw [hb] at h
    dsimp only at h
    by_cases hc : (shR (t, false)).1 = ([], false) ∧ may (shR (t, false)).2 = true
    · rw [if_pos hc] at h
      cases h
      refine ⟨hc.2, ?_⟩
      rw [bodyOf_some hb]
      unfold enc
      rw [← shR_ok hc.1]
    · rw [if_neg hc] at h; cases h
theorem dec_none {b : List UInt8} (h : ∀ s, may s = true → enc s ≠ b) : dec b = none := by
  cases hd : dec b with
  | none => rfl
  | some s => exact absurd (dec_some hd).2 (h s (dec_some hd).1)
/-- What Decode tells. -/
def decS (b : List UInt8) : Shard := (dec b).getD none_
def decE (b : List UInt8) : Int := if (dec b).isSome then 0 else 10

end Sh

end Go.Proofs.YtbhngncnhabbkaaGreat
