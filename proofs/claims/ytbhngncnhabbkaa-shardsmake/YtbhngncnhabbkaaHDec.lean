/- What stands where in a shard's bytes. -/
import Derived.Test.YtbhngncnhabbkaaHMk
namespace Go.Proofs.Ytbhngncnhabbkaa
namespace Sh

/-- Where the width stands. -/
def atW (p : Int × Int) : Nat := 2 + (Vi.putL p.1).length + (Vi.putL p.2).length
/-- Where the lists begin. -/
def atL (p : Int × Int) (w : Nat) : Nat := atW p + 1 + ((p.2 - p.1).toNat * w + 7) / 8

theorem enc_at {s : Shard} (hs : may s = true) :
    Vi.getS (enc s) 2 = (s.1.1, (2 : Int) + (Vi.putL s.1.1).length, true) ∧ Vi.getS (enc s) (2 + (Vi.putL s.1.1).length) = (s.1.2, (atW s.1 : Int), true) ∧ atW s.1 < (enc s).length ∧ (enc s).getD (atW s.1) 0 = UInt8.ofNat (wd s.2) ∧
      ∀ k, k < s.2.length → Gp.dec (enc s) ((atL s.1 (wd s.2) + (lists (s.2.take k)).length : Nat) : Int) = some (s.2.getD k [], ((atL s.1 (wd s.2) + (lists (s.2.take (k + 1))).length : Nat) : Int)) := by
  obtain ⟨s1, s2, s3, s4⟩ := may_iff.1 hs
  have gs := may_good hs
  obtain ⟨p, o⟩ := s
  rw [mayP_iff] at s1
  dsimp only at *
  have e0 : enc (p, o) = [115, 104] ++ (Vi.putL p.1 ++ (Vi.putL p.2 ++ (UInt8.ofNat (wd o) :: (Pk.pk (deg o) (wd o) ++ (lists o ++ (Vi.putL (many o) ++ Cr.four (Cr.sum (raw (p, o))))))))) := by
    unfold enc sealB
    conv => lhs; lhs; unfold raw
    simp only [List.cons_append, List.append_assoc, List.nil_append]
  refine ⟨?_, ?_, ?_, ?_, ?_⟩
  · rw [e0]
    have := Gp.getS_put [115, 104] (Vi.putL p.2 ++ (UInt8.ofNat (wd o) :: (Pk.pk (deg o) (wd o) ++ (lists o ++ (Vi.putL (many o) ++ Cr.four (Cr.sum (raw (p, o)))))))) p.1 (by omega) (by omega)
    simpa using this
  · rw [e0, ← List.append_assoc]
    have := Gp.getS_put ([115, 104] ++ Vi.putL p.1) (UInt8.ofNat (wd o) :: (Pk.pk (deg o) (wd o) ++ (lists o ++ (Vi.putL (many o) ++ Cr.four (Cr.sum (raw (p, o))))))) p.2 (by omega) (by omega)
    have e1 : (([115, 104] ++ Vi.putL p.1 : List UInt8).length : Int) = 2 + (Vi.putL p.1).length := by simp; omega
    rw [e1] at this
    rw [this]
    unfold atW
    simp only [Int.natCast_add]
    rfl
  · rw [e0]; unfold atW; simp; omega
  · rw [e0]
    have e1 : [115, 104] ++ (Vi.putL p.1 ++ (Vi.putL p.2 ++ (UInt8.ofNat (wd o) :: (Pk.pk (deg o) (wd o) ++ (lists o ++ (Vi.putL (many o) ++ Cr.four (Cr.sum (raw (p, o))))))))) = ([115, 104] ++ Vi.putL p.1 ++ Vi.putL p.2) ++ UInt8.ofNat (wd o) :: (Pk.pk (deg o) (wd o) ++ (lists o ++ (Vi.putL (many o) ++ Cr.four (Cr.sum (raw (p, o)))))) := by simp
    have e2 : atW p = ([115, 104] ++ Vi.putL p.1 ++ Vi.putL p.2 : List UInt8).length := by unfold atW; simp; omega
    rw [e1, e2, List.getD_eq_getElem?_getD, List.getElem?_append_right (Nat.le_refl _), Nat.sub_self]
    rfl
  · intro k hk
    obtain ⟨g1, g2, g3⟩ := gs _ (show o.getD k [] ∈ o by rw [List.getD_eq_getElem?_getD, List.getElem?_eq_getElem hk]; exact List.getElem_mem hk)
    have ho : lists o = lists (o.take k) ++ (Gp.enc (o.getD k []) ++ lists (o.drop (k + 1))) := by
      have h1 : o = o.take (k + 1) ++ o.drop (k + 1) := (List.take_append_drop _ _).symm
      conv => lhs; rw [h1]
      have h2 : lists (o.take (k + 1) ++ o.drop (k + 1)) = lists (o.take (k + 1)) ++ lists (o.drop (k + 1)) := by unfold lists; rw [List.flatMap_append]
      rw [h2, lists_take o k hk, List.append_assoc]
    have hpk : (Pk.pk (deg o) (wd o)).length = ((p.2 - p.1).toNat * wd o + 7) / 8 := by
      rw [Pk.pk_length, deg_len]; unfold Pk.size
      rw [show (p.2 - p.1).toNat = o.length by omega]
    have e1 : enc (p, o) = ([115, 104] ++ Vi.putL p.1 ++ Vi.putL p.2 ++ UInt8.ofNat (wd o) :: Pk.pk (deg o) (wd o) ++ lists (o.take k)) ++ (Gp.enc (o.getD k []) ++ (lists (o.drop (k + 1)) ++ (Vi.putL (many o) ++ Cr.four (Cr.sum (raw (p, o)))))) := by
      rw [e0, ho]; simp
    have e2 : atL p (wd o) + (lists (o.take k)).length = ([115, 104] ++ Vi.putL p.1 ++ Vi.putL p.2 ++ UInt8.ofNat (wd o) :: Pk.pk (deg o) (wd o) ++ lists (o.take k) : List UInt8).length := by
      unfold atL atW; simp [hpk]; omega
    rw [e1, e2, Gp.dec_enc _ _ _ g1 g2 g3, lists_take o k hk, ← e2, List.length_append]
    simp only [Option.some.injEq, Prod.mk.injEq, true_and]
    omega
theorem dec_no {b : List UInt8} (h : ∀ s, may s = true → enc s ≠ b) : decE b = 10 ∧ decS b = none_ := by
  unfold decE decS
  rw [dec_none h]
  exact ⟨rfl, rfl⟩
theorem dec_yes {s : Shard} (h : may s = true) : decE (enc s) = 0 ∧ decS (enc s) = s := by
  unfold decE decS
  rw [dec_enc h]
  exact ⟨rfl, rfl⟩
end Sh

end Go.Proofs.Ytbhngncnhabbkaa
