/- A region that draws its order and in which one operation makes memory, whose place hangs on the order, and one other operation alone reads it: one walk, in the order of the text, serves every order. -/
import Derived.Test.YtbhngncnhabbkaaGreatHRefC
namespace Go.Proofs.YtbhngncnhabbkaaGreat
open Go.RowKit

/-- The operation with a value in the place of what it does. -/
def vblank (o : Oper) (v : Value) : Oper := ⟨o.dst, .move (.const v), o.type, o.pos, o.after, o.guard⟩
theorem act_put_at {a : Act} {dst : Option Tmp} {v : Value} {t : Tmp} (h : dst ≠ some t) : (a.put dst v).tmps[t]? = a.tmps[t]? := by
  cases dst with
  | none => rfl
  | some d =>
    have hne : d ≠ t := fun e => h (e ▸ rfl)
    simp [Act.put, Array.getElem?_setIfInBounds_ne hne]
theorem act_put_size (a : Act) (dst : Option Tmp) (v : Value) : (a.put dst v).tmps.size = a.tmps.size := by
  cases dst <;> simp [Act.put]
theorem act_put_two (a : Act) (d : Tmp) (u v : Value) : (a.put (some d) u).put (some d) v = a.put (some d) v := by
  simp [Act.put]
theorem act_put_self (a : Act) (d : Tmp) : a.put (some d) (a.tmps.getD d undef) = a := by
  by_cases hd : d < a.tmps.size
  · have e : a.tmps.setIfInBounds d (a.tmps.getD d undef) = a.tmps := by
      apply Array.ext_getElem?
      intro i
      by_cases hi : d = i
      · subst hi; simp [hd]
      · simp [Array.getElem?_setIfInBounds_ne hi]
    simp only [Act.put, e]
  · have e : a.tmps.setIfInBounds d (a.tmps.getD d undef) = a.tmps := Array.setIfInBounds_eq_of_size_le (Nat.le_of_not_lt hd)
    simp only [Act.put, e]
theorem act_put_eq {a : Act} {d : Tmp} {u v : Value} (h : (a.put (some d) u).tmps[d]? = (a.put (some d) v).tmps[d]?) : a.put (some d) u = a.put (some d) v := by
  by_cases hd : d < a.tmps.size
  · simp [Act.put, hd] at h; rw [h]
  · have e : ∀ x : Value, a.tmps.setIfInBounds d x = a.tmps := fun x => Array.setIfInBounds_eq_of_size_le (Nat.le_of_not_lt hd)
    simp only [Act.put, e]
theorem unlisted_set {listed : Array Bool} {i j : Nat} (h : (listed.setIfInBounds i true).getD j true = false) : i ≠ j ∧ listed.getD j true = false := by
  by_cases e : i = j
  · subst e
    by_cases hi : i < listed.size <;> simp [hi] at h
  · exact ⟨e, by rw [getD_set_ne true e] at h; exact h⟩
theorem listed_of {listed : Array Bool} {j : Nat} (h : listed.getD j false = true) : listed.getD j true = true := by
  by_cases hj : j < listed.size <;> simp [hj] at h ⊢
  exact h

section
variable {P : Program} {md : Region.Mode} {ops : Array Oper}

theorem vague_settled {C : World → Prop} {F : Act} : ∀ (fuel : Nat) (listed : Array Bool) (α : Act), wpAnyQ P md ops C (fun α => α = F) fuel listed α →
    ∀ t, (∀ j o, ops[j]? = some o → listed.getD j true = false → o.dst ≠ some t) → F.tmps[t]? = α.tmps[t]?
  | 0, _, α, h, t, _ => by rw [h.2]
  | fuel + 1, listed, α, h, t, hn => by
    cases hr : Region.ready md ops listed with
    | nil => rw [h.1 hr]
    | cons i rs =>
      have hi : i ∈ Region.ready md ops listed := by rw [hr]; simp
      obtain ⟨h0, o, ho, _⟩ := mem_ready.1 hi
      obtain ⟨v, _, hk⟩ := yieldsIn_of_qOp ho (h.2 i hi)
      rw [vague_settled fuel _ _ hk t (fun j o' hj hl => hn j o' hj (unlisted_set hl).2), act_put_at (hn i o ho h0)]
theorem vague_size {C : World → Prop} {F : Act} : ∀ (fuel : Nat) (listed : Array Bool) (α : Act), wpAnyQ P md ops C (fun α => α = F) fuel listed α → F.tmps.size = α.tmps.size
  | 0, _, α, h => by rw [h.2]
  | fuel + 1, listed, α, h => by
    cases hr : Region.ready md ops listed with
    | nil => rw [h.1 hr]
    | cons i rs =>
      have hi : i ∈ Region.ready md ops listed := by rw [hr]; simp
      obtain ⟨h0, o, ho, _⟩ := mem_ready.1 hi
      obtain ⟨v, _, hk⟩ := yieldsIn_of_qOp ho (h.2 i hi)
      rw [vague_size fuel _ _ hk, act_put_size]

/-- What the region must be like: operation m makes, operation c alone reads what it made, no two write one temporary, and both wait for all that they look at. -/
structure Vague (md : Region.Mode) (ops ops2 : Array Oper) (m c : Nat) (om oc : Oper) (dm : Tmp) (vc : Value) : Prop where
  size : ops2.size = ops.size
  atM : ops[m]? = some om
  atC : ops[c]? = some oc
  unlike : m ≠ c
  atM2 : ops2[m]? = some (vblank om undef)
  atC2 : ops2[c]? = some (vblank oc vc)
  other : ∀ j, j ≠ m → j ≠ c → ops2[j]? = ops[j]?
  dst : om.dst = some dm
  plain : ∀ j o, ops[j]? = some o → j ≠ m → j ≠ c → dm ∉ o.looksAt ops
  one : ∀ (i j : Nat) (oi oj : Oper) (d : Tmp), ops[i]? = some oi → ops[j]? = some oj → oi.dst = some d → oj.dst = some d → i = j
  guardM : om.guard = none
  guardC : oc.guard = none
  select : ∀ (j : Nat) (o : Oper) cs b, ops[j]? = some o → o.op ≠ .select cs b
  after : ∃ e ∈ oc.after, Region.binds md e = true ∧ e.on = m
  waitM : ∀ t ∈ om.looksAt ops, ∀ j o, ops[j]? = some o → o.dst = some t → ∃ e ∈ om.after, Region.binds md e = true ∧ e.on = j
  waitC : ∀ t ∈ oc.looksAt ops, ∀ j o, ops[j]? = some o → o.dst = some t → ∃ e ∈ oc.after, Region.binds md e = true ∧ e.on = j

section
variable {ops2 : Array Oper} {m c : Nat} {om oc : Oper} {dm : Tmp} {vc : Value}
theorem Vague.dst2 (h : Vague md ops ops2 m c om oc dm vc) (j : Nat) : (ops2[j]?).bind (·.dst) = (ops[j]?).bind (·.dst) := by
  by_cases e : j = m
  · subst e; rw [h.atM, h.atM2]; rfl
  · by_cases e2 : j = c
    · subst e2; rw [h.atC, h.atC2]; rfl
    · rw [h.other j e e2]
theorem Vague.ready (h : Vague md ops ops2 m c om oc dm vc) (listed : Array Bool) : Region.ready md ops2 listed = Region.ready md ops listed := by
  unfold Region.ready
  rw [h.size]
  refine List.filter_congr fun i _ => ?_
  have e : ∀ f : Array Edge → Bool, (ops2[i]?).map (fun o => f o.after) = (ops[i]?).map (fun o => f o.after) := fun f => by
    by_cases e : i = m
    · subst e; rw [h.atM, h.atM2]; rfl
    · by_cases e2 : i = c
      · subst e2; rw [h.atC, h.atC2]; rfl
      · rw [h.other i e e2]
  rw [e (fun a => a.all fun e => !Region.binds md e || listed.getD e.on false)]
theorem Vague.yielded (h : Vague md ops ops2 m c om oc dm vc) (t : Array Value) : Go.yielded ops2 t = Go.yielded ops t := by
  funext j
  unfold Go.yielded
  rw [h.dst2]
theorem Vague.settled (h : Vague md ops ops2 m c om oc dm vc) {C : World → Prop} {F : Act} {fuel : Nat} {listed : Array Bool} {α : Act} (hq : wpAnyQ P md ops2 C (fun α => α = F) fuel listed α) {t : Tmp}
    (ht : ∀ j o, ops[j]? = some o → o.dst = some t → listed.getD j true = true) : F.tmps[t]? = α.tmps[t]? := by
  refine vague_settled fuel listed α hq t fun j o ho hl hd => ?_
  have hb := h.dst2 j
  rw [ho] at hb
  simp only [Option.bind_some, hd] at hb
  obtain ⟨o', ho', hd'⟩ := Option.bind_eq_some_iff.1 hb.symm
  rw [ht j o' ho' hd'] at hl
  cases hl
theorem Vague.same_put (h : Vague md ops ops2 m c om oc dm vc) {C C' : World → Prop} {F : Act} {fuel : Nat} {listed : Array Bool} {α : Act} {i : Nat} {o : Oper} {u v : Value} (hi : ops[i]? = some o) (hl : i < listed.size)
    (h1 : wpAnyQ P md ops2 C (fun α => α = F) fuel (listed.setIfInBounds i true) (α.put o.dst u)) (h2 : wpAnyQ P md ops2 C' (fun α => α = F) fuel (listed.setIfInBounds i true) (α.put o.dst v)) : α.put o.dst u = α.put o.dst v := by
  cases hd : o.dst with
  | none => rfl
  | some d =>
    rw [hd] at h1 h2
    have hw : ∀ j o', ops[j]? = some o' → o'.dst = some d → (listed.setIfInBounds i true).getD j true = true := fun j o' ho' hd' => by
      have := h.one j i o' o d ho' hi hd' hd
      subst this
      simp [hl]
    exact act_put_eq ((h.settled h1 hw).symm.trans (h.settled h2 hw))

theorem eval_same {a b : Act} {x : Operand} (h : ∀ t, x = .tmp t → a.tmps[t]? = b.tmps[t]?) : a.eval x = b.eval x := by
  cases x with
  | tmp t => simp [Act.eval, h t rfl]
  | _ => rfl
theorem mem_looks {o : Oper} {t : Tmp} (h : Operand.tmp t ∈ o.op.operands) : t ∈ o.looksAt ops :=
  List.mem_append_left _ (List.mem_filterMap.2 ⟨.tmp t, by simpa using h, rfl⟩)
theorem run_blank {a : Act} {o : Oper} {v : Value} {w : World} : (execOp a.eval (vblank o v)).run P w = .ok (.value v) w := rfl
theorem blank_put {C : World → Prop} {o : Oper} {a : Act} {v u : Value} {w : World} (hw : C w) (hg : o.guard = none) (h : YieldsIn P ops C (vblank o v) u a) : u = v := by
  rcases h with ⟨_, h⟩ | ⟨h, _⟩
  · have := h w hw
    unfold Oper.quietAt at this
    rw [run_blank] at this
    exact this.2.symm
  · simp [Region.wanted, vblank, hg] at h

theorem vague_any {F : Act} {R : Value → World → Prop} {w0 : World} {Q : Exit → Act → World → Prop} (h : Vague md ops ops2 m c om oc dm vc)
    (hR : ∀ x w w', R x w → Below w.heap.size w w' → R x w')
    (hmake : ∀ b : Later w0, ∃ x w', (execOp F.eval om).run P b.world = .ok (.value x) w' ∧ R x w' ∧ Below b.world.heap.size b.world w')
    (hread : ∀ x w, R x w → (execOp (F.put (some dm) x).eval oc).run P w = .ok (.value vc) w)
    (hQ : ∀ x (b : Later w0), Q .normal (F.put (some dm) x) b.world) :
    ∀ (fuel : Nat) (listed : Array Bool) (α : Act) (x : Value) (w : World), listed.size = ops.size → Below w0.heap.size w0 w → (listed.getD m true = true → R x w) →
      (∀ b, Below w.heap.size w b → wpAnyQ P md ops2 (fun w' => ∃ y : Later b, w' = y.world) (fun α => α = F) fuel listed α) → wpAny P md ops Q fuel listed (α.put (some dm) x) w := by
  intro fuel
  induction fuel with
  | zero =>
    intro listed α x w _ hw _ hq
    have h1 := hq w (Below.refl _ _)
    exact ⟨by rw [← h.ready]; exact h1.1, by rw [h1.2]; exact hQ x ⟨w, hw⟩⟩
  | succ fuel ih =>
    intro listed α x w hs hw hx hq
    have h1 := hq w (Below.refl _ _)
    refine ⟨fun h0 => by rw [h1.1 (by rw [h.ready]; exact h0)]; exact hQ x ⟨w, hw⟩, fun i hi => ?_⟩
    obtain ⟨hun, o, ho, hall⟩ := mem_ready.1 hi
    have hlt : i < listed.size := by rw [hs]; exact (Array.getElem?_eq_some_iff.1 ho).1
    have hs2 : (listed.setIfInBounds i true).size = ops.size := by rw [Array.size_setIfInBounds]; exact hs
    have hi2 : i ∈ Region.ready md ops2 listed := by rw [h.ready]; exact hi
    by_cases em : i = m
    · subst em
      rw [h.atM] at ho
      obtain rfl : om = o := Option.some.inj ho
      have hex : execOp (α.put (some dm) x).eval om = execOp F.eval om := execOp_congr om (h.select i om · · h.atM) fun y hy => eval_same fun t ht => by
        subst ht
        have hwr : ∀ j o', ops[j]? = some o' → o'.dst = some t → listed.getD j true = true := fun j o' ho' hd => by
          obtain ⟨e, he, hb, rfl⟩ := h.waitM t (mem_looks hy) j o' ho' hd
          exact listed_of (hall e he hb)
        have hne : some dm ≠ some t := fun e => by
          have := hwr i om h.atM (by rw [h.dst]; exact e)
          rw [this] at hun; cases hun
        rw [act_put_at hne]
        exact (h.settled h1 hwr).symm
      obtain ⟨x', w', hrun, hRx, hb⟩ := hmake ⟨w, hw⟩
      unfold wpOp
      simp only [h.atM]
      rw [if_pos (by simp [Region.wanted, h.guardM])]
      left
      unfold Oper.wp
      rw [hex]
      dsimp only at hrun hb
      rw [hrun]
      simp only [Oper.upon, h.dst]
      rw [act_put_two, ← act_put_two α dm undef x']
      refine ih _ _ x' w' hs2 (hw.trans (hb.mono hw.size)) (fun _ => hRx) fun b hbb => ?_
      have h2 := (hq b ((hb.trans (hbb.mono hb.size)))).2 i hi2
      obtain ⟨v, hy, hk⟩ := yieldsIn_of_qOp h.atM2 h2
      have := blank_put (w := b) ⟨⟨b, Below.refl _ _⟩, rfl⟩ h.guardM hy
      subst this
      have e : (vblank om undef).dst = some dm := h.dst
      rw [e] at hk
      exact hk
    · by_cases ec : i = c
      · subst ec
        rw [h.atC] at ho
        obtain rfl : oc = o := Option.some.inj ho
        have hRx : R x w := by
          obtain ⟨e, he, hb, hon⟩ := h.after
          refine hx ?_
          rw [← hon]
          exact listed_of (hall e he hb)
        have hsz := vague_size _ _ _ h1
        have hcd : oc.dst ≠ some dm := fun e => em (h.one i m oc om dm h.atC h.atM e h.dst)
        have hex : execOp (α.put (some dm) x).eval oc = execOp (F.put (some dm) x).eval oc := execOp_congr oc (h.select i oc · · h.atC) fun y hy => eval_same fun t ht => by
          subst ht
          by_cases et : dm = t
          · subst et
            simp [Act.put, Array.getElem?_setIfInBounds_self, hsz]
          · have hne : some dm ≠ some t := fun e => et (Option.some.inj e)
            rw [act_put_at hne, act_put_at hne]
            refine (h.settled h1 fun j o' ho' hd => ?_).symm
            obtain ⟨e, he, hb, rfl⟩ := h.waitC t (mem_looks hy) j o' ho' hd
            exact listed_of (hall e he hb)
        unfold wpOp
        simp only [h.atC]
        rw [if_pos (by simp [Region.wanted, h.guardC])]
        left
        unfold Oper.wp
        rw [hex, hread x w hRx]
        simp only [Oper.upon]
        rw [← Act.put_comm α vc x (fun d hd e => hcd (by rw [hd]; exact e.symm ▸ rfl))]
        refine ih _ _ x w hs2 hw (fun _ => hRx) fun b hbb => ?_
        have h2 := (hq b hbb).2 i hi2
        obtain ⟨v, hy, hk⟩ := yieldsIn_of_qOp h.atC2 h2
        have := blank_put (w := b) ⟨⟨b, Below.refl _ _⟩, rfl⟩ h.guardC hy
        subst this
        exact hk
      · have hlk := h.plain i o ho em ec
        have hod : o.dst ≠ some dm := fun e => em (h.one i m o om dm ho h.atM e h.dst)
        have ho2 : ops2[i]? = some o := by rw [h.other i em ec]; exact ho
        obtain ⟨v, hy, hk⟩ := yieldsIn_of_qOp ho2 (h1.2 i hi2)
        have hput : (α.put (some dm) x).put o.dst v = (α.put o.dst v).put (some dm) x := Act.put_comm α x v (fun d hd e => hod (by rw [← hd] at e; exact e))
        have hgo : ∀ w', Below w.heap.size w w' → wpAny P md ops Q fuel (listed.setIfInBounds i true) ((α.put (some dm) x).put o.dst v) w' := fun w' hb => by
          rw [hput]
          refine ih _ _ x w' hs2 (hw.trans (hb.mono hw.size)) (fun hl => hR x w w' (hx (by rwa [getD_set_ne true em] at hl)) hb) fun b hbb => ?_
          obtain ⟨u, _, hk2⟩ := yieldsIn_of_qOp ho2 ((hq b (hb.trans (hbb.mono hb.size))).2 i hi2)
          rw [h.same_put ho hlt hk hk2]
          exact hk2
        unfold wpOp
        simp only [ho]
        rw [wanted_put o α (some dm) x (ops := ops) (fun d hd => by cases hd; exact hlk)]
        rcases hy with ⟨hwant, hy⟩ | ⟨hwant, rfl⟩
        · rw [h.yielded] at hwant
          rw [if_pos hwant]
          left
          have hy1 := hy w ⟨⟨w, Below.refl _ _⟩, rfl⟩
          unfold Oper.quietAt at hy1
          unfold Oper.wp
          rw [execOp_put (ops := ops) o (h.select i o · · ho) α (some dm) x (fun d hd => by cases hd; exact hlk)]
          generalize (execOp α.eval o).run P w = r at *
          cases r with
          | ok n w' =>
            cases n <;> simp only [Oper.quietUpon] at hy1 <;> simp only [Oper.upon]
            case value u =>
              obtain ⟨rfl, rfl⟩ := hy1
              exact hgo _ (Below.refl _ _)
            case skip =>
              obtain ⟨rfl, rfl⟩ := hy1
              exact hgo _ (Below.refl _ _)
            case enter f args =>
              obtain ⟨rfl, hc⟩ := hy1
              exact hc.mono fun e w'' ⟨he, y, hy⟩ => by subst he; subst hy; exact hgo _ y.below
          | halt x w' => simp only [Oper.quietUpon] at hy1
        · rw [h.yielded] at hwant
          rw [if_neg (by rw [hwant]; exact Bool.false_ne_true)]
          exact hgo _ (Below.refl _ _)
end

/-- The same, asked of a region that is written out. -/
def vagueB (ops : Array Oper) (m c : Nat) (om oc : Oper) (dm : Tmp) : Bool :=
  let n := ops.size
  (m != c) && (om.dst == some dm) && om.guard.isNone && oc.guard.isNone && (oc.after.any fun e => Region.binds .any e && e.on == m) &&
  Region.noSelect ops &&
  ((List.range n).all fun j => match ops[j]? with
    | none => true
    | some o => (j == m || j == c || !(o.looksAt ops).contains dm) &&
      ((List.range n).all fun i => match ops[i]? with
        | none => true
        | some p => i == j || p.dst.isNone || p.dst != o.dst)) &&
  ((om.looksAt ops).all fun t => (List.range n).all fun j => match ops[j]? with
    | none => true
    | some o => o.dst != some t || om.after.any fun e => Region.binds .any e && e.on == j) &&
  ((oc.looksAt ops).all fun t => (List.range n).all fun j => match ops[j]? with
    | none => true
    | some o => o.dst != some t || oc.after.any fun e => Region.binds .any e && e.on == j)
theorem all_ops {ops : Array Oper} {f : Nat → Oper → Bool} (h : ((List.range ops.size).all fun j => match ops[j]? with | none => true | some o => f j o) = true) {j : Nat} {o : Oper} (ho : ops[j]? = some o) : f j o = true := by
  rw [List.all_eq_true] at h
  have := h j (List.mem_range.2 (Array.getElem?_eq_some_iff.1 ho).1)
  rw [ho] at this
  exact this
theorem any_edge {es : Array Edge} {j : Nat} (h : (es.any fun e => Region.binds .any e && e.on == j) = true) : ∃ e ∈ es, Region.binds .any e = true ∧ e.on = j := by
  obtain ⟨k, hk, h2⟩ := Array.any_eq_true.1 h
  simp only [Bool.and_eq_true, beq_iff_eq] at h2
  refine ⟨es[k], Array.getElem_mem hk, h2⟩
theorem vague_spec {l : List Oper} {m c : Nat} {om oc : Oper} {dm : Tmp} {vc : Value} (hm : l[m]? = some om) (hc : l[c]? = some oc) (h : vagueB l.toArray m c om oc dm = true) :
    Vague .any l.toArray ((l.set m (vblank om undef)).set c (vblank oc vc)).toArray m c om oc dm vc := by
  unfold vagueB at h
  simp only [Bool.and_eq_true] at h
  obtain ⟨⟨⟨⟨⟨⟨⟨⟨h1, h2⟩, h3⟩, h4⟩, h5⟩, h6⟩, h7⟩, h8⟩, h9⟩ := h
  have hml : m < l.length := (List.getElem?_eq_some_iff.1 hm).1
  have hcl : c < l.length := (List.getElem?_eq_some_iff.1 hc).1
  have hne : m ≠ c := by simpa using h1
  have p1 : ∀ (i j : Nat) (oi oj : Oper) (d : Tmp), l.toArray[i]? = some oi → l.toArray[j]? = some oj → oi.dst = some d → oj.dst = some d → i = j := fun i j oi oj d hi hj hdi hdj => by
    have := all_ops h7 hj
    simp only [Bool.and_eq_true] at this
    have := all_ops this.2 hi
    simpa [hdi, hdj] using this
  exact {
    size := by simp
    atM := by simpa using hm
    atC := by simpa using hc
    unlike := hne
    atM2 := by simp [hml, Ne.symm hne]
    atC2 := by simp [hcl]
    other := fun j e1 e2 => by simp [Ne.symm e1, Ne.symm e2]
    dst := by simpa using h2
    plain := fun j o ho e1 e2 => by
      have := all_ops h7 ho
      simp only [Bool.and_eq_true] at this
      simpa [e1, e2] using this.1
    one := p1
    guardM := by simpa using h3
    guardC := by simpa using h4
    select := Region.noSelect_spec h6
    after := any_edge h5
    waitM := fun t ht j o ho hd => by
      have := all_ops ((List.all_eq_true.1 h8) t ht) ho
      simp only [hd, bne_self_eq_false, Bool.false_or] at this
      exact any_edge this
    waitC := fun t ht j o ho hd => by
      have := all_ops ((List.all_eq_true.1 h9) t ht) ho
      simp only [hd, bne_self_eq_false, Bool.false_or] at this
      exact any_edge this }

theorem wp_region_vague {id : Nat} {Q : Exit → Act → World → Prop} {a F : Act} {w : World} {l l2 : List Oper} (m c : Nat) (om oc : Oper) (dm : Tmp) (vc : Value) (R : Value → World → Prop)
    (hmo : P.follows .mixedOrders = true) (hm : l[m]? = some om) (hc : l[c]? = some oc) (hl : (l.set m (vblank om undef)).set c (vblank oc vc) = l2)
    (hB : Region.lexB .any l2.toArray = true) (hV : vagueB l.toArray m c om oc dm = true) (hR : ∀ x w w', R x w → Below w.heap.size w w' → R x w')
    (hwalk : ∀ b : Later w, wpQuiet P l2.toArray (fun w' => ∃ x : Later b.world, w' = x.world) (fun α => α = F) l2 a)
    (hmake : ∀ b : Later w, ∃ x w', (execOp F.eval om).run P b.world = .ok (.value x) w' ∧ R x w' ∧ Below b.world.heap.size b.world w')
    (hread : ∀ x w, R x w → (execOp (F.put (some dm) x).eval oc).run P w = .ok (.value vc) w)
    (hQ : ∀ x (b : Later w), Q .normal (F.put (some dm) x) b.world) : (Code.region id l.toArray true).wp P Q a w := by
  subst hl
  have hv := vague_spec (vc := vc) hm hc hV
  simp only [Region.lexB, Bool.and_eq_true] at hB
  refine wp_region_any hmo ?_
  have hml : m < l.length := (List.getElem?_eq_some_iff.1 hm).1
  have := vague_any hv hR hmake hread hQ l.length (Array.replicate l.length false) a (a.tmps.getD dm undef) w.drew (by simp) (Below.refl _ _).drew (by simp [hml]) fun b hb => by
    have hb2 : Below w.heap.size w b := (Below.refl _ w).drew.trans hb
    have hq := wpAnyQ_lex (C := fun w' => ∃ x : Later b, w' = x.world) (md := .any) hB.1 _ 0 (Array.replicate ((l.set m (vblank om undef)).set c (vblank oc vc)).toArray.size false) a (by simp) (by simpa using hB.2) (hwalk ⟨b, hb2⟩)
    simpa using hq
  rw [act_put_self] at this
  simpa using this
end

end Go.Proofs.YtbhngncnhabbkaaGreat

/- The walks of the document's own Sealed and Encode of shards. -/
namespace Go.Proofs.YtbhngncnhabbkaaGreat
open Go.RowKit

set_option maxHeartbeats 400000 in
set_option maxRecDepth 100000 in
theorem rsealed_any (s : ByteArray) (w : World) (hs : s.size ≤ 100000000) :
    Calls Tryz.prog 32 #[.string s] w fun e w' => e = .returned (.string ⟨(Sh.sealB s.data.toList).toArray⟩) ∧ Below w.heap.size w w' := by
  have HS := rsum_any s w (by omega)
  have hlt := Cr.sum_lt s.data.toList
  have HF : Hid (Sh.sealB s.data.toList = s.data.toList ++ Cr.four (Cr.sum s.data.toList)) := rfl
  generalize Cr.sum s.data.toList = n at *
  replace HS : Hid _ := HS
  go_enter Tryz.func32, Tryz.ntmps32
  go_wp2_with fail
  refine Calls.mono HS.out ?_
  rintro e w1 ⟨rfl, rfl⟩
  clear HS
  have hc := conv_four w1 n hlt
  have hb : Hid (Below w1.heap.size w1 (w1.alloc (.cells #[.int .u8 ((n : Int) % 256), .int .u8 ((n : Int) / 256 % 256), .int .u8 ((n : Int) / 65536 % 256), .int .u8 ((n : Int) / 16777216)] 5))) := (Below.refl _ w1).alloc (Nat.le_refl _) _
  have HE : Hid ((⟨(Sh.sealB s.data.toList).toArray⟩ : ByteArray) = s ++ ⟨(Cr.four n).toArray⟩) := by
    rw [Hid, HF.out]
    apply ByteArray.ext
    apply Array.ext'
    simp
  have hz : (⟨(Cr.four n).toArray⟩ : ByteArray).size = 4 := rfl
  generalize (⟨(Cr.four n).toArray⟩ : ByteArray) = f at *
  go_wp2
  go_ret
  exact ⟨congrArg (fun x => Ending.returned (.string x)) HE.out.symm, hb.out⟩

theorem deg_take (o : List (List Int)) (k : Nat) (h : k < o.length) : (Sh.deg (o.take (k + 1))).map (Value.int .i64) = (Sh.deg (o.take k)).map (Value.int .i64) ++ [.int .i64 ((o.getD k []).length : Int)] := by
  rw [Sh.take_snoc_o o k h]
  simp [Sh.deg]


end Go.Proofs.YtbhngncnhabbkaaGreat
