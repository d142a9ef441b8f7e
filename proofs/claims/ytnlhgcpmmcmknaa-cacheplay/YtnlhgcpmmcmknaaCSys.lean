/- A cache in memory: its block, its map of pages, the pages; the file system beside it; what turns, and what stays. -/
import Derived.Test.YtnlhgcpmmcmknaaCKey
namespace Go.Proofs.Ytnlhgcpmmcmknaa
open Go.RowKit Go.Maps Go.WideShapes

/-- A page that is there: where its block is, and the number of its last use. -/
structure Ke where
  f : Ca.Fr
  b : Nat
  u : Nat

def ent (x : Ke) : Lit × DataW Value := (key x.f.n x.f.i, .held (at_ x.b))
def Ke.cells (x : Ke) : Array Value := #[.string x.f.d, .int .i64 x.f.p, .int .i64 x.u]

theorem same_key {n m : ByteArray} {i j : Int} (h : KeyOk n i) (h' : KeyOk m j) : (key n i).sameKey (key m j) = decide (n = m ∧ i = j) := by
  by_cases e : n = m ∧ i = j
  · obtain ⟨rfl, rfl⟩ := e
    simp [key, Lit.sameKey]
  · rw [decide_eq_false e]
    unfold key Lit.sameKey
    rw [beq_eq_false_iff_ne]
    intro e2
    exact e (key_inj h h' (by unfold key; rw [e2]))

structure CSits (W : World) (c mb p most u : Nat) (K : List Ke) : Prop where
  block : W.heap[c]? = some (.cells #[at_ p, .int .i64 most, .map (some mb), .int .i64 u] 58 (0, 0))
  map : ∃ D, W.ownsMap Try.prog 84 heldR mb K.length (.map D) ∧ D.Perm (K.map ent)
  each : ∀ x ∈ K, W.heap[x.b]? = some (.cells x.cells 87 (0, 0))
  blocks : K.Pairwise fun x y => x.b ≠ y.b
  keys : ∀ x ∈ K, KeyOk x.f.n x.f.i

/-- The blocks that are the cache's own, its file system's apart. -/
def COwn (c mb : Nat) (K : List Ke) (i : Nat) : Prop := i = c ∨ i = mb ∨ ∃ x ∈ K, x.b = i

section
variable {W W' : World} {c mb p most u : Nat} {K R : List Ke} {x : Ke}

theorem CSits.perm {K' : List Ke} (h : CSits W c mb p most u K) (hp : K.Perm K') : CSits W c mb p most u K' := by
  obtain ⟨D, h1, h2⟩ := h.map
  refine ⟨h.block, ⟨D, ?_, h2.trans (hp.map _)⟩, fun x hx => h.each x (hp.mem_iff.2 hx), ?_, fun x hx => h.keys x (hp.mem_iff.2 hx)⟩
  · rw [← hp.length_eq]; exact h1
  · exact (hp.pairwise_iff (fun {a b} (h : a.b ≠ b.b) => Ne.symm h)).1 h.blocks
theorem COwn.perm {K' : List Ke} (hp : K.Perm K') : COwn c mb K = COwn c mb K' := by
  funext i
  unfold COwn
  have : (∃ x ∈ K, x.b = i) = (∃ x ∈ K', x.b = i) := by
    simp only [eq_iff_iff]
    exact ⟨fun ⟨x, hx, e⟩ => ⟨x, hp.mem_iff.1 hx, e⟩, fun ⟨x, hx, e⟩ => ⟨x, hp.mem_iff.2 hx, e⟩⟩
  rw [this]

theorem CSits.apart (h : CSits W c mb p most u K) : K.Pairwise fun x y => ¬ (x.f.n = y.f.n ∧ x.f.i = y.f.i) := by
  obtain ⟨D, h1, h2⟩ := h.map
  obtain ⟨es, he, hd, _⟩ := h1.entries Try.placeKeyed
  cases he
  have h3 := (h2.pairwise_iff (fun {a b} (h : a.1 ≠ b.1) => Ne.symm h)).1 hd
  rw [List.pairwise_map] at h3
  exact h3.imp fun {x y} hne e => hne (by simp [ent, e.1, e.2])

theorem CSits.cell0 (h : CSits W c mb p most u K) : W.cell? ⟨c, 0, none⟩ = some (at_ p) := by simp [World.cell?, h.block]
theorem CSits.cell1 (h : CSits W c mb p most u K) : W.cell? ⟨c, 1, none⟩ = some (.int .i64 most) := by simp [World.cell?, h.block]
theorem CSits.cell2 (h : CSits W c mb p most u K) : W.cell? ⟨c, 2, none⟩ = some (.map (some mb)) := by simp [World.cell?, h.block]
theorem CSits.cell3 (h : CSits W c mb p most u K) : W.cell? ⟨c, 3, none⟩ = some (.int .i64 u) := by simp [World.cell?, h.block]
theorem CSits.free3 (h : CSits W c mb p most u K) : W.frozen? ⟨c, 3, none⟩ = false := by simp [World.frozen?, h.block]
theorem CSits.data (h : CSits W c mb p most u K) (hx : x ∈ K) : W.cell? ⟨x.b, 0, none⟩ = some (.string x.f.d) := by simp [World.cell?, h.each x hx, Ke.cells]
theorem CSits.pins (h : CSits W c mb p most u K) (hx : x ∈ K) : W.cell? ⟨x.b, 1, none⟩ = some (.int .i64 x.f.p) := by simp [World.cell?, h.each x hx, Ke.cells]
theorem CSits.used (h : CSits W c mb p most u K) (hx : x ∈ K) : W.cell? ⟨x.b, 2, none⟩ = some (.int .i64 x.u) := by simp [World.cell?, h.each x hx, Ke.cells]
theorem CSits.free (h : CSits W c mb p most u K) (hx : x ∈ K) (j : Nat) : W.frozen? ⟨x.b, j, none⟩ = false := by simp [World.frozen?, h.each x hx]
theorem CSits.clt (h : CSits W c mb p most u K) : c < W.heap.size := World.block_lt_of_cell? _ _ h.cell0
theorem CSits.mlt (h : CSits W c mb p most u K) : mb < W.heap.size := by obtain ⟨D, h1, _⟩ := h.map; exact h1.lt
theorem CSits.klt (h : CSits W c mb p most u K) (hx : x ∈ K) : x.b < W.heap.size := World.block_lt_of_cell? _ _ (h.data hx)
theorem CSits.ownLt (h : CSits W c mb p most u K) : ∀ i, COwn c mb K i → i < W.heap.size := by
  rintro i (rfl | rfl | ⟨x, hx, rfl⟩)
  · exact h.clt
  · exact h.mlt
  · exact h.klt hx
theorem CSits.mapBlock (h : CSits W c mb p most u K) : ∃ es clock, W.heap[mb]? = some (.map es clock) := by
  obtain ⟨D, ⟨es, clock, hb, _⟩, _⟩ := h.map
  exact ⟨es, clock, hb⟩
theorem CSits.cm (h : CSits W c mb p most u K) : c ≠ mb := by
  rintro rfl
  obtain ⟨es, clock, hb⟩ := h.mapBlock
  rw [h.block] at hb
  cases hb
theorem CSits.km (h : CSits W c mb p most u K) (hx : x ∈ K) : x.b ≠ mb := by
  rintro rfl
  obtain ⟨es, clock, hb⟩ := h.mapBlock
  rw [h.each x hx] at hb
  cases hb
theorem CSits.kc (h : CSits W c mb p most u K) (hx : x ∈ K) : x.b ≠ c := by
  rintro rfl
  have hb := h.block
  rw [h.each x hx] at hb
  simp [Ke.cells] at hb

theorem CSits.stays (h : CSits W c mb p most u K) (hb : ∀ i, COwn c mb K i → W'.heap[i]? = W.heap[i]?) : CSits W' c mb p most u K where
  block := (hb c (.inl rfl)).trans h.block
  map := by
    obtain ⟨D, h1, h2⟩ := h.map
    exact ⟨D, ownsMap_blocks h1 (hb mb (.inr (.inl rfl))), h2⟩
  each := fun x hx => (hb x.b (.inr (.inr ⟨x, hx, rfl⟩))).trans (h.each x hx)
  blocks := h.blocks
  keys := h.keys
theorem CSits.later (h : CSits W c mb p most u K) (hb : Below W.heap.size W W') : CSits W' c mb p most u K := h.stays fun i hi => hb.block i (h.ownLt i hi)

/-- The page that a place tells. -/
def findK (K : List Ke) (n : ByteArray) (i : Int) : Option Ke := K.find? fun x => x.f.is n i
def ptrAt (K : List Ke) (n : ByteArray) (i : Int) : Value := match findK K n i with | some x => at_ x.b | none => .pointer none
theorem findK_some {n : ByteArray} {i : Int} (h : findK K n i = some x) : x ∈ K ∧ x.f.n = n ∧ x.f.i = i :=
  ⟨List.mem_of_find?_eq_some h, Ca.is_iff.1 (List.find?_some (p := fun y : Ke => y.f.is n i) h)⟩
theorem findK_none {n : ByteArray} {i : Int} (h : findK K n i = none) : ∀ x ∈ K, ¬ (x.f.n = n ∧ x.f.i = i) := fun x hx hk => List.find?_eq_none.1 h x hx (Ca.is_iff.2 hk)
theorem findK_look (K : List Ke) (n : ByteArray) (i : Int) : Ca.look (K.map (·.f)) n i = (findK K n i).map (·.f) := by
  unfold Ca.look findK
  rw [List.find?_map]
  rfl

theorem pairwise_ne {α : Type} {r : α → α → Prop} {l : List α} (h : l.Pairwise r) (hs : ∀ a b, r a b → r b a) {x y : α} (hx : x ∈ l) (hy : y ∈ l) (hne : x ≠ y) : r x y := by
  induction l with
  | nil => simp at hx
  | cons a l ih =>
    obtain ⟨h1, h2⟩ := List.pairwise_cons.1 h
    rcases List.mem_cons.1 hx with rfl | hx'
    · rcases List.mem_cons.1 hy with rfl | hy'
      · exact absurd rfl hne
      · exact h1 y hy'
    · rcases List.mem_cons.1 hy with rfl | hy'
      · exact hs _ _ (h1 x hx')
      · exact ih h2 hx' hy'
theorem CSits.findK_mem (h : CSits W c mb p most u K) (hx : x ∈ K) : findK K x.f.n x.f.i = some x := by
  cases hfk : findK K x.f.n x.f.i with
  | none => exact absurd ⟨rfl, rfl⟩ (findK_none hfk x hx)
  | some y =>
    obtain ⟨hy, e⟩ := findK_some hfk
    by_cases exy : x = y
    · rw [exy]
    · exact absurd ⟨e.1.symm, e.2.symm⟩ (pairwise_ne h.apart (fun _ _ hn e => hn ⟨e.1.symm, e.2.symm⟩) hx hy exy)
theorem CSits.atKey (h : CSits W c mb p most u K) {D : List (Lit × DataW Value)} (h2 : D.Perm (K.map ent)) {n : ByteArray} {i : Int} (hk : KeyOk n i) (z : DataW Value) : (DataW.map D).atKey (key n i) z = (match findK K n i with | some x => .held (at_ x.b) | none => z) := by
  unfold DataW.atKey
  cases hf : D.find? (fun q => q.1.sameKey (key n i)) with
  | none =>
    have hno := List.find?_eq_none.1 hf
    have : findK K n i = none := List.find?_eq_none.2 fun x hx hxk => by
      have hm := h2.mem_iff.2 (List.mem_map.2 ⟨x, hx, rfl⟩)
      have := hno _ hm
      have hxk := Ca.is_iff.1 hxk
      simp only [ent] at this
      rw [same_key (h.keys x hx) hk, decide_eq_true hxk] at this
      exact this rfl
    simp [hf, this]
  | some q =>
    have hq := List.mem_of_find?_eq_some hf
    have hs := List.find?_some hf
    obtain ⟨x, hx, rfl⟩ := List.mem_map.1 (h2.mem_iff.1 hq)
    simp only [ent] at hs
    rw [same_key (h.keys x hx) hk, decide_eq_true_eq] at hs
    have : findK K n i = some x := by rw [← hs.1, ← hs.2]; exact h.findK_mem hx
    simp [hf, this, ent]
theorem CSits.look (h : CSits W c mb p most u K) {n : ByteArray} {i : Int} (hk : KeyOk n i) : (Instr.lookup 51 (.map (some mb)) (spot n i) false).run Try.prog W = .ok (ptrAt K n i) W := by
  obtain ⟨D, h1, h2⟩ := h.map
  obtain ⟨v, ps, hrun, hv⟩ := h1.lookup Try.placeKeyed Try.underlying51 (Try.zeroKept W) (zd := .held (.pointer none)) (zp := []) rfl (place_key hk)
  have hat : (DataW.map D).atKey (key n i) (.held (.pointer none)) = .held (ptrAt K n i) := by
    rw [h.atKey h2 hk]
    unfold ptrAt
    cases findK K n i <;> rfl
  rw [hat] at hv
  simp [heldR] at hv
  rw [← hv.1]; exact hrun
/-- What a range over the map hands out is one of the pages. -/
theorem CSits.held (h : CSits W c mb p most u K) {D : List (Lit × DataW Value)} (h2 : D.Perm (K.map ent)) {n : ByteArray} {i : Int} (hk : KeyOk n i) {v : Value} (ha : ∀ zd, (DataW.map D).atKey (key n i) zd = .held v) : ∃ x ∈ K, x.f.n = n ∧ x.f.i = i ∧ v = at_ x.b := by
  have := ha .nil
  rw [h.atKey h2 hk] at this
  cases hf : findK K n i with
  | none => rw [hf] at this; cases this
  | some x =>
    rw [hf] at this
    simp at this
    obtain ⟨h3, h4, h5⟩ := findK_some hf
    exact ⟨x, h3, h4, h5, this.symm⟩

theorem CSits.len (h : CSits W c mb p most u K) (ty : TypeId) : (Builtin.len_ #[51] ty #[.map (some mb)]).run Try.prog W = .ok (.int .i64 K.length) W := by
  obtain ⟨D, h1, h2⟩ := h.map
  have := h1.len Try.underlying51 ty
  rw [this, show Maps.size (DataW.map D) = K.length from (by have := h2.length_eq; simpa [Maps.size] using this)]

/-- A page's block is written. -/
theorem CSits.put (h : CSits W c mb p most u (R ++ [x])) (x' : Ke) (hb : x'.b = x.b) (hk : x'.f.n = x.f.n ∧ x'.f.i = x.f.i) (hW : W'.heap[x.b]? = some (.cells x'.cells 87 (0, 0))) (ho : ∀ i, i ≠ x.b → W'.heap[i]? = W.heap[i]?) : CSits W' c mb p most u (R ++ [x']) := by
  have hx : x ∈ R ++ [x] := by simp
  obtain ⟨D, h1, h2⟩ := h.map
  have hne : ∀ y ∈ R, y.b ≠ x.b := fun y hy => (List.pairwise_append.1 h.blocks).2.2 y hy x (by simp)
  refine ⟨?_, ⟨D, ?_, ?_⟩, ?_, ?_, ?_⟩
  · exact (ho c (fun e => h.kc hx e.symm)).trans h.block
  · have := ownsMap_blocks h1 (ho mb (fun e => h.km hx e.symm))
    simpa using this
  · simpa [ent, hb, hk.1, hk.2] using h2
  · intro y hy
    rcases List.mem_append.1 hy with hy | hy
    · exact (ho y.b (hne y hy)).trans (h.each y (by simp [hy]))
    · simp at hy; subst hy; rw [hb]; exact hW
  · have := h.blocks
    rw [List.pairwise_append] at this ⊢
    refine ⟨this.1, by simp, fun a ha b hb' => ?_⟩
    simp at hb'; subst hb'; rw [hb]; exact hne a ha
  · intro y hy
    rcases List.mem_append.1 hy with hy | hy
    · exact h.keys y (by simp [hy])
    · simp at hy; subst hy; rw [hk.1, hk.2]; exact h.keys x hx

theorem CSits.setData (h : CSits W c mb p most u (R ++ [x])) (d : ByteArray) : CSits (W.setCell ⟨x.b, 0, none⟩ (.string d)) c mb p most u (R ++ [{ x with f := { x.f with d := d } }]) :=
  h.put { x with f := { x.f with d := d } } rfl ⟨rfl, rfl⟩ (heap_setCell_same W x.b 0 _ _ _ (h.each x (by simp))) fun _ hi => Below.heap_setCell _ _ _ _ hi
theorem CSits.setPins (h : CSits W c mb p most u (R ++ [x])) (k : Nat) : CSits (W.setCell ⟨x.b, 1, none⟩ (.int .i64 k)) c mb p most u (R ++ [{ x with f := { x.f with p := k } }]) :=
  h.put { x with f := { x.f with p := k } } rfl ⟨rfl, rfl⟩ (heap_setCell_same W x.b 1 _ _ _ (h.each x (by simp))) fun _ hi => Below.heap_setCell _ _ _ _ hi
theorem CSits.setUsed (h : CSits W c mb p most u (R ++ [x])) (k : Nat) : CSits (W.setCell ⟨x.b, 2, none⟩ (.int .i64 k)) c mb p most u (R ++ [{ x with u := k }]) :=
  h.put { x with u := k } rfl ⟨rfl, rfl⟩ (heap_setCell_same W x.b 2 _ _ _ (h.each x (by simp))) fun _ hi => Below.heap_setCell _ _ _ _ hi
theorem CSits.count (h : CSits W c mb p most u K) (k : Nat) : CSits (W.setCell ⟨c, 3, none⟩ (.int .i64 k)) c mb p most k K where
  block := heap_setCell_same W c 3 _ _ _ h.block
  map := by
    obtain ⟨D, h1, h2⟩ := h.map
    exact ⟨D, h1.setCell (a := ⟨c, 3, none⟩) (fun e => h.cm e.symm) _, h2⟩
  each := fun y hy => (Below.heap_setCell _ _ _ _ (h.kc hy)).trans (h.each y hy)
  blocks := h.blocks
  keys := h.keys

theorem perm_filter {D : List (Lit × DataW Value)} {n : ByteArray} {i : Int} (hp : D.Perm (K.map ent)) (hks : ∀ x ∈ K, KeyOk x.f.n x.f.i) (hk : KeyOk n i) : (D.filter fun q => !q.1.sameKey (key n i)).Perm ((K.filter fun x => !x.f.is n i).map ent) := by
  refine (hp.filter _).trans ?_
  rw [List.filter_map]
  refine List.Perm.of_eq (congrArg _ (List.filter_congr fun x hx => ?_))
  simp only [Function.comp, ent]
  rw [same_key (hks x hx) hk]
  simp [Ca.Fr.is]

/-- A page is taken out. -/
theorem CSits.drop (h : CSits W c mb p most u K) {n : ByteArray} {i : Int} (hk : KeyOk n i) {D : List (Lit × DataW Value)} (hp : D.Perm (K.map ent)) {m : Nat} (hm : W'.ownsMap Try.prog 84 heldR mb m ((DataW.map D).del (key n i))) (ht : W.mapTurned W' mb) :
    CSits W' c mb p most u (K.filter fun x => !x.f.is n i) ∧ Turn (COwn c mb K) W (COwn c mb (K.filter fun x => !x.f.is n i)) W' := by
  have hg := ht.grown
  have hpf := perm_filter hp h.keys hk
  refine ⟨⟨?_, ⟨_, ?_, hpf⟩, ?_, h.blocks.filter _, fun x hx => h.keys x (List.mem_filter.1 hx).1⟩, ?_⟩
  · exact (hg.block c h.clt (by simp [h.cm])).trans h.block
  · rw [DataW.del] at hm
    exact owns_tight hm (by have := hpf.length_eq; simpa [Maps.size] using this)
  · intro x hx
    have hx := (List.mem_filter.1 hx).1
    exact (hg.block x.b (h.klt hx) (by simp [h.km hx])).trans (h.each x hx)
  · refine ⟨hg.os, hg.tape, hg.output, hg.size, fun j hj ho => hg.block j hj (fun e => ho (.inr (.inl (by simpa using e)))), ?_⟩
    rintro j (rfl | rfl | ⟨x, hx, rfl⟩)
    · exact .inl (.inl rfl)
    · exact .inl (.inr (.inl rfl))
    · exact .inl (.inr (.inr ⟨x, (List.mem_filter.1 hx).1, rfl⟩))

/-- A new page is laid. -/
theorem CSits.add {W1 W2 : World} (h : CSits W c mb p most u K) {n : ByteArray} {i : Int} (hk : KeyOk n i) (hno : ∀ x ∈ K, ¬ (x.f.n = n ∧ x.f.i = i)) {b : Nat} {x : Ke} (hx : x = ⟨⟨n, i, ByteArray.empty, 0⟩, b, 0⟩)
    (hb1 : Below W.heap.size W W1) (hnew : W.heap.size ≤ b) (hblk : W1.heap[b]? = some (.cells x.cells 87 (0, 0)))
    {D : List (Lit × DataW Value)} (hp : D.Perm (K.map ent)) {m : Nat} (hm : W2.ownsMap Try.prog 84 heldR mb m ((DataW.map D).put (key n i) (.held (at_ b)))) (ht : W1.mapTurned W2 mb) :
    CSits W2 c mb p most u (K ++ [x]) ∧ Turn (COwn c mb K) W (COwn c mb (K ++ [x])) W2 := by
  have hg := ht.grown
  have hpf := perm_filter hp h.keys hk
  have hfil : (K.filter fun x => !x.f.is n i) = K := List.filter_eq_self.2 fun y hy => by
    rw [Bool.not_eq_true', ← Bool.not_eq_true, Ca.is_iff]; exact hno y hy
  rw [hfil] at hpf
  have h1 := h.later hb1
  have hbm : b ≠ mb := by have := h.mlt; omega
  have hxb : x.b = b := by rw [hx]
  have hent : ent x = (key n i, .held (at_ b)) := by rw [hx]; rfl
  have hperm : (DataW.insert (key n i, .held (at_ b)) (D.filter fun q => !q.1.sameKey (key n i))).Perm ((K ++ [x]).map ent) := by
    refine (insert_perm _ _).trans ?_
    rw [List.map_append, List.map_cons, List.map_nil, hent]
    exact (hpf.cons _).trans (List.perm_append_singleton _ _).symm
  refine ⟨⟨?_, ⟨_, ?_, hperm⟩, ?_, ?_, ?_⟩, ?_⟩
  · exact (hg.block c h1.clt (by simp [h.cm])).trans h1.block
  · rw [DataW.put] at hm
    exact owns_tight hm (by have := hperm.length_eq; simpa [Maps.size] using this)
  · intro y hy
    rcases List.mem_append.1 hy with hy | hy
    · exact (hg.block y.b (h1.klt hy) (by simp [h.km hy])).trans (h1.each y hy)
    · simp at hy; subst hy
      rw [hxb]
      exact (hg.block b (Array.getElem?_eq_some_iff.1 hblk).1 (by simp [hbm])).trans hblk
  · rw [List.pairwise_append]
    refine ⟨h.blocks, by simp, fun a ha y hy => ?_⟩
    simp at hy; subst hy
    have := h.klt ha
    rw [hxb]; omega
  · intro y hy
    rcases List.mem_append.1 hy with hy | hy
    · exact h.keys y hy
    · simp at hy; subst hy; rw [hx]; exact hk
  · refine ⟨hg.os.trans hb1.os, hg.tape.trans hb1.tape, hg.output.trans hb1.output, Nat.le_trans hb1.size hg.size, fun j hj ho => (hg.block j (Nat.lt_of_lt_of_le hj hb1.size) (fun e => ho (.inr (.inl (by simpa using e))))).trans (hb1.block j hj), ?_⟩
    rintro j (rfl | rfl | ⟨y, hy, rfl⟩)
    · exact .inl (.inl rfl)
    · exact .inl (.inr (.inl rfl))
    · rcases List.mem_append.1 hy with hy | hy
      · exact .inl (.inr (.inr ⟨y, hy, rfl⟩))
      · simp at hy; subst hy; rw [hxb]; exact .inr hnew

end

end Go.Proofs.Ytnlhgcpmmcmknaa
