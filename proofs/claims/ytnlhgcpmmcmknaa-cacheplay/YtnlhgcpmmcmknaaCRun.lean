/- Acts, one behind the other, on a cache that the call has made. -/
import Derived.Test.YtnlhgcpmmcmknaaCOpen
namespace Go.Proofs.Ytnlhgcpmmcmknaa
open Go.RowKit Go.Maps

section
variable {w W : World} {c p u : Nat} {o : Nat → Prop} {st : Ca.St}
theorem CIn.done (h : CIn w W c p o st u) (d : Cd) (hok : CdOk d) (hs : d.name.size ≤ 40 ∧ d.data.size ≤ 400) (hu : u < 9223372036854775800) :
    Calls Try.prog 14 #[at_ c, .agg d.cells] W fun e w' => ∃ o' u', u' ≤ u + 1 ∧ e = .returned (.tuple #[.string (actC st d).1, .int .i64 (actC st d).2.1]) ∧ CIn w w' c p o' (actC st d).2.2 u' := by
  refine (done_c d h.sys hok hs.1 hs.2 hu).mono ?_
  rintro e w' ⟨o', u', hu', rfl, h1, h2⟩
  exact ⟨o', u', hu', rfl, h.turn h1 h2⟩
theorem CIn.fsCall (h : CIn w W c p o st u) : Calls Try.prog 24 #[at_ c] W fun e w' => e = .returned (at_ p) ∧ w' = W := cfs_sys h.sys
end

/-! ### What stays so, whatever is done -/
theorem fetch_l (st : Ca.St) (n : ByteArray) (i : Int) : (Ca.fetch st n i).e ≠ 0 → (Ca.fetch st n i).l = st.l := by
  intro h
  cases hl : Ca.look st.l n i with
  | some f => rw [fetch_hit hl] at h; exact absurd rfl h
  | none =>
    cases hs : Ca.stuck st.most st.l with
    | true => rw [fetch_full hl hs]
    | false =>
      by_cases he : (Fi.read st.fs n i).2.1 = 0
      · by_cases hd : (Ca.dec (Fi.read st.fs n i).1).2 = 0
        · rw [fetch_new hl hs (s := (Fi.read st.fs n i).1) (fs := (Fi.read st.fs n i).2.2) (by rw [← he]) (d := (Ca.dec (Fi.read st.fs n i).1).1) (by rw [← hd])] at h
          exact absurd rfl h
        · rw [fetch_spoilt hl hs he hd]
      · rw [fetch_fails hl hs he]
theorem get_most (st : Ca.St) (n : ByteArray) (i : Int) : (Ca.get st n i).2.2.most = st.most := by unfold Ca.get; split <;> rfl
theorem pin_most (st : Ca.St) (n : ByteArray) (i : Int) : (Ca.pin st n i).2.2.most = st.most := by unfold Ca.pin; split <;> rfl
theorem unpin_most (st : Ca.St) (n : ByteArray) (i : Int) : (Ca.unpin st n i).2.most = st.most := by
  unfold Ca.unpin
  cases Ca.look st.l n i with
  | none => rfl
  | some f => simp only; split <;> rfl
theorem put_most (st : Ca.St) (n : ByteArray) (i : Int) (d : ByteArray) : (Ca.put st n i d).2.most = st.most := by
  unfold Ca.put
  split
  · rfl
  · split
    · rfl
    · split <;> rfl
theorem act_most (st : Ca.St) (d : Cd) : (actC st d).2.2.most = st.most := by
  unfold actC
  split
  · exact pin_most _ _ _
  split
  · exact unpin_most _ _ _
  split
  · exact put_most _ _ _ _
  split
  · rfl
  split
  · rfl
  split
  · rfl
  split
  · rfl
  split
  · rfl
  · exact get_most _ _ _

end Go.Proofs.Ytnlhgcpmmcmknaa
