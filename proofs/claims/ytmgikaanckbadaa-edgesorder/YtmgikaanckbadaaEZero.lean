/- The zero of [256][256]bool, as the program's table types it out: 65536 times false. -/
import Derived.Test.YtmgikaanckbadaaERow
namespace Go.Proofs.Ytmgikaanckbadaa

/-- So many times false. -/
def Fs (l : List Value) (n : Nat) : Prop := l = List.replicate n (.bool false)
theorem Fs.app {a b : List Value} {m n : Nat} (h : Fs a m) (k : Fs b n) : Fs (a.append b) (m + n) := by
  unfold Fs at *
  rw [h, k]
  exact List.replicate_append_replicate
def allF : List Value → Bool
  | [] => true
  | .bool false :: l => allF l
  | _ => false
theorem Fs.leaf (l : List Value) (h : allF l = true) : Fs l l.length := by
  unfold Fs
  induction l with
  | nil => rfl
  | cons x l ih =>
    match x, h with
    | .bool false, h => rw [List.length_cons, List.replicate_succ, ← ih h]

set_option maxRecDepth 1000000 in
set_option maxHeartbeats 4000000 in
theorem zero_parts : ∃ l n, Try.prog.info? 41 = some Try.t41 ∧ Try.t41.zero = some (.agg l.toArray) ∧ Fs l n ∧ n = 65536 := by
  refine ⟨_, ?n, by kernel_rfl, rfl, ?f, ?e⟩
  case f => repeat' (first | apply Fs.app | exact Fs.leaf _ (by kernel_rfl))
  case e => kernel_rfl

end Go.Proofs.Ytmgikaanckbadaa
