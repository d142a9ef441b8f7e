/- The walk of the statements' helper Done. -/
import Derived.Test.YtnlhgcpmmcmknaaCActs
namespace Go.Proofs.Ytnlhgcpmmcmknaa
open Go.RowKit Go.Maps

/-- The pages that data is parted into. -/
def splitOf (d : ByteArray) : List ByteArray := (Pg.split d.data.toList).map text
theorem splitOf_length (d : ByteArray) (h : d.size ≤ 400) : (splitOf d).length ≤ 4 := by
  unfold splitOf
  rw [List.length_map, Pg.split_length, Pg.parts_count]
  have : d.data.toList.length = d.size := by simp
  omega

/-- What an act answers, and what it makes of the cache. -/
def actC (st : Ca.St) (d : Cd) : ByteArray × Int × Ca.St :=
  if d.kind % 10 = 2 then Ca.pin st d.name d.i
  else if d.kind % 10 = 3 then (⟨#[]⟩, Ca.unpin st d.name d.i)
  else if d.kind % 10 = 4 then (⟨#[]⟩, Ca.put st d.name d.i d.data)
  else if d.kind % 10 = 5 then (⟨#[]⟩, 0, Ca.drop st d.name)
  else if d.kind % 10 = 6 then (⟨#[]⟩, (Fi.write st.fs d.name (splitOf d.data)).1, { st with fs := (Fi.write st.fs d.name (splitOf d.data)).2 })
  else if d.kind % 10 = 7 then (⟨#[]⟩, (Fi.fail st.fs d.i).1, { st with fs := (Fi.fail st.fs d.i).2 })
  else if d.kind % 10 = 8 then (⟨#[]⟩, (Fi.flip st.fs d.name d.i 2 d.x).1, { st with fs := (Fi.flip st.fs d.name d.i 2 d.x).2 })
  else if d.kind % 10 = 9 then (⟨#[]⟩, (Fi.remove st.fs d.name).1, { st with fs := (Fi.remove st.fs d.name).2 })
  else Ca.get st d.name d.i

theorem boxC (w : World) (d : Cd) : Below w.heap.size w (w.alloc (.cells d.cells 42)) := (Below.refl _ w).alloc (Nat.le_refl _) _

section
variable {w : World} {c p u : Nat} {o : Nat → Prop} {st : Ca.St}

theorem cfs_sys (h : CSys w c p o st u) : Calls Try.prog 24 #[at_ c] w fun e w' => e = .returned (at_ p) ∧ w' = w := by
  obtain ⟨mb, of, K, h1, _⟩ := h
  exact cfs_any w h1.sits

/-- What Done leaves. -/
def DoneC (w w' : World) (e : Ending) (c p : Nat) (o : Nat → Prop) (u : Nat) (r : ByteArray × Int × Ca.St) : Prop :=
  ∃ o' u', u' ≤ u + 1 ∧ e = .returned (.tuple #[.string r.1, .int .i64 r.2.1]) ∧ CSys w' c p o' r.2.2 u' ∧ Turn o w o' w'

set_option maxRecDepth 100000 in
set_option maxHeartbeats 2000000 in
theorem done_get (d : Cd) (h : CSys w c p o st u) (hok : CdOk d) (hnm : d.name.size ≤ 40) (hdt : d.data.size ≤ 400) (hu : u < 9223372036854775800) (hkk : d.kind % 10 = 0 ∨ d.kind % 10 = 1) :
    Calls Try.prog 14 #[at_ c, .agg d.cells] w fun e w' => DoneC w w' e c p o u (Ca.get st d.name d.i) := by
  obtain ⟨kind, name, i, data, x⟩ := d
  simp only at *
  have hbx := boxC w ⟨kind, name, i, data, x⟩
  have h1 := h.later hbx
  have HT : Hid (Turn o w o (w.alloc (.cells (Cd.cells ⟨kind, name, i, data, x⟩) 42))) := Turn.below hbx
  have hkey : KeyOk name i := ⟨by unfold maxLen; omega, hok.i1, hok.i2⟩
  have hkd := hok.kind
  have hi2 := hok.i2
  simp only at hkd hi2
  rcases hkk with hkk | hkk
  · have hr : (kind : Int) % 10 = 0 := by omega
    have HC : Hid (Calls _ _ _ _ _) := cget_any name i h1 hu hkey (by omega)
    clear hbx h1 h hok
    unfold Cd.cells at *
    unfold at_ at *
    generalize (x.toNat : Int) = X at *
    go_enter Try.func14, Try.ntmps14
    go_wp2_with fail
    refine Calls.mono HC.out ?_
    rintro e w2 ⟨o2, u2, hu2, rfl, hs2, ht2⟩
    have H2 : Hid (_ ∧ _) := And.intro hs2 (HT.out.trans ht2)
    clear hs2 ht2
    go_wp2
    go_ret2
    exact ⟨o2, u2, hu2, rfl, H2.out⟩
  · have hr : (kind : Int) % 10 = 1 := by omega
    have HC : Hid (Calls _ _ _ _ _) := cget_any name i h1 hu hkey (by omega)
    clear hbx h1 h hok
    unfold Cd.cells at *
    unfold at_ at *
    generalize (x.toNat : Int) = X at *
    go_enter Try.func14, Try.ntmps14
    go_wp2_with fail
    refine Calls.mono HC.out ?_
    rintro e w2 ⟨o2, u2, hu2, rfl, hs2, ht2⟩
    have H2 : Hid (_ ∧ _) := And.intro hs2 (HT.out.trans ht2)
    clear hs2 ht2
    go_wp2
    go_ret2
    exact ⟨o2, u2, hu2, rfl, H2.out⟩

set_option maxRecDepth 100000 in
set_option maxHeartbeats 2000000 in
theorem done_pin (d : Cd) (h : CSys w c p o st u) (hok : CdOk d) (hnm : d.name.size ≤ 40) (hdt : d.data.size ≤ 400) (hu : u < 9223372036854775800) (hkk : d.kind % 10 = 2) :
    Calls Try.prog 14 #[at_ c, .agg d.cells] w fun e w' => DoneC w w' e c p o u (Ca.pin st d.name d.i) := by
  obtain ⟨kind, name, i, data, x⟩ := d
  simp only at *
  have hbx := boxC w ⟨kind, name, i, data, x⟩
  have h1 := h.later hbx
  have HT : Hid (Turn o w o (w.alloc (.cells (Cd.cells ⟨kind, name, i, data, x⟩) 42))) := Turn.below hbx
  have hkey : KeyOk name i := ⟨by unfold maxLen; omega, hok.i1, hok.i2⟩
  have hkd := hok.kind
  have hi2 := hok.i2
  simp only at hkd hi2
  have hr : (kind : Int) % 10 = 2 := by omega
  have HC : Hid (Calls _ _ _ _ _) := cpin_any name i h1 hu hkey (by omega)
  clear hbx h1 h hok
  unfold Cd.cells at *
  unfold at_ at *
  generalize (x.toNat : Int) = X at *
  go_enter Try.func14, Try.ntmps14
  go_wp2_with fail
  refine Calls.mono HC.out ?_
  rintro e w2 ⟨o2, u2, hu2, rfl, hs2, ht2⟩
  have H2 : Hid (_ ∧ _) := And.intro hs2 (HT.out.trans ht2)
  clear hs2 ht2
  go_wp2
  go_ret2
  exact ⟨o2, u2, hu2, rfl, H2.out⟩

set_option maxRecDepth 100000 in
set_option maxHeartbeats 2000000 in
theorem done_unpin (d : Cd) (h : CSys w c p o st u) (hok : CdOk d) (hnm : d.name.size ≤ 40) (hdt : d.data.size ≤ 400) (hu : u < 9223372036854775800) (hkk : d.kind % 10 = 3) :
    Calls Try.prog 14 #[at_ c, .agg d.cells] w fun e w' => DoneC w w' e c p o u (((⟨#[]⟩ : ByteArray), Ca.unpin st d.name d.i)) := by
  obtain ⟨kind, name, i, data, x⟩ := d
  simp only at *
  have hbx := boxC w ⟨kind, name, i, data, x⟩
  have h1 := h.later hbx
  have HT : Hid (Turn o w o (w.alloc (.cells (Cd.cells ⟨kind, name, i, data, x⟩) 42))) := Turn.below hbx
  have hkey : KeyOk name i := ⟨by unfold maxLen; omega, hok.i1, hok.i2⟩
  have hkd := hok.kind
  have hi2 := hok.i2
  simp only at hkd hi2
  have hr : (kind : Int) % 10 = 3 := by omega
  have HC : Hid (Calls _ _ _ _ _) := cunpin_any name i h1 hu hkey
  clear hbx h1 h hok
  unfold Cd.cells at *
  unfold at_ at *
  generalize (x.toNat : Int) = X at *
  go_enter Try.func14, Try.ntmps14
  go_wp2_with fail
  refine Calls.mono HC.out ?_
  rintro e w2 ⟨o2, rfl, hs2, ht2⟩
  have H2 : Hid (_ ∧ _) := And.intro hs2 (HT.out.trans ht2)
  clear hs2 ht2
  go_wp2
  go_ret2
  exact ⟨o2, u, Nat.le_succ _, rfl, H2.out⟩

set_option maxRecDepth 100000 in
set_option maxHeartbeats 2000000 in
theorem done_put (d : Cd) (h : CSys w c p o st u) (hok : CdOk d) (hnm : d.name.size ≤ 40) (hdt : d.data.size ≤ 400) (hu : u < 9223372036854775800) (hkk : d.kind % 10 = 4) :
    Calls Try.prog 14 #[at_ c, .agg d.cells] w fun e w' => DoneC w w' e c p o u (((⟨#[]⟩ : ByteArray), Ca.put st d.name d.i d.data)) := by
  obtain ⟨kind, name, i, data, x⟩ := d
  simp only at *
  have hbx := boxC w ⟨kind, name, i, data, x⟩
  have h1 := h.later hbx
  have HT : Hid (Turn o w o (w.alloc (.cells (Cd.cells ⟨kind, name, i, data, x⟩) 42))) := Turn.below hbx
  have hkey : KeyOk name i := ⟨by unfold maxLen; omega, hok.i1, hok.i2⟩
  have hkd := hok.kind
  have hi2 := hok.i2
  simp only at hkd hi2
  have hr : (kind : Int) % 10 = 4 := by omega
  have HC : Hid (Calls _ _ _ _ _) := cput_any name i data h1 hu hkey (by omega) (by omega)
  clear hbx h1 h hok
  unfold Cd.cells at *
  unfold at_ at *
  generalize (x.toNat : Int) = X at *
  go_enter Try.func14, Try.ntmps14
  go_wp2_with fail
  refine Calls.mono HC.out ?_
  rintro e w2 ⟨o2, u2, hu2, rfl, hs2, ht2⟩
  have H2 : Hid (_ ∧ _) := And.intro hs2 (HT.out.trans ht2)
  clear hs2 ht2
  go_wp2
  go_ret2
  exact ⟨o2, u2, hu2, rfl, H2.out⟩

set_option maxRecDepth 100000 in
set_option maxHeartbeats 2000000 in
theorem done_drop (d : Cd) (h : CSys w c p o st u) (hok : CdOk d) (hnm : d.name.size ≤ 40) (hdt : d.data.size ≤ 400) (hkk : d.kind % 10 = 5) :
    Calls Try.prog 14 #[at_ c, .agg d.cells] w fun e w' => DoneC w w' e c p o u (((⟨#[]⟩ : ByteArray), 0, Ca.drop st d.name)) := by
  obtain ⟨kind, name, i, data, x⟩ := d
  simp only at *
  have hbx := boxC w ⟨kind, name, i, data, x⟩
  have h1 := h.later hbx
  have HT : Hid (Turn o w o (w.alloc (.cells (Cd.cells ⟨kind, name, i, data, x⟩) 42))) := Turn.below hbx
  have hkey : KeyOk name i := ⟨by unfold maxLen; omega, hok.i1, hok.i2⟩
  have hkd := hok.kind
  have hi2 := hok.i2
  simp only at hkd hi2
  have hr : (kind : Int) % 10 = 5 := by omega
  have HC : Hid (Calls _ _ _ _ _) := cdrop_any name h1
  clear hbx h1 h hok
  unfold Cd.cells at *
  unfold at_ at *
  generalize (x.toNat : Int) = X at *
  go_enter Try.func14, Try.ntmps14
  go_wp2_with fail
  refine Calls.mono HC.out ?_
  rintro e w2 ⟨o2, rfl, hs2, ht2⟩
  have H2 : Hid (_ ∧ _) := And.intro hs2 (HT.out.trans ht2)
  clear hs2 ht2
  go_wp2
  go_ret2
  exact ⟨o2, u, Nat.le_succ _, rfl, H2.out⟩

set_option maxRecDepth 100000 in
set_option maxHeartbeats 2000000 in
theorem done_fail (d : Cd) (h : CSys w c p o st u) (hok : CdOk d) (hnm : d.name.size ≤ 40) (hdt : d.data.size ≤ 400) (hkk : d.kind % 10 = 7) :
    Calls Try.prog 14 #[at_ c, .agg d.cells] w fun e w' => DoneC w w' e c p o u (((⟨#[]⟩ : ByteArray), (Fi.fail st.fs d.i).1, { st with fs := (Fi.fail st.fs d.i).2 })) := by
  obtain ⟨kind, name, i, data, x⟩ := d
  simp only at *
  have hbx := boxC w ⟨kind, name, i, data, x⟩
  have h1 := h.later hbx.drew
  have HT : Hid (Turn o w o (w.alloc (.cells (Cd.cells ⟨kind, name, i, data, x⟩) 42)).drew) := Turn.below hbx.drew
  have hkey : KeyOk name i := ⟨by unfold maxLen; omega, hok.i1, hok.i2⟩
  have hkd := hok.kind
  have hi2 := hok.i2
  simp only at hkd hi2
  have hr : (kind : Int) % 10 = 7 := by omega
  have HFS : Hid (Calls _ _ _ _ _) := cfs_sys h1
  obtain ⟨of, hs, hgo⟩ := h1.file
  have HC : Hid (Calls _ _ _ _ _) := fail_any i _ hs hi2
  have HG : Hid _ := hgo
  clear hs hgo
  clear hbx h1 h hok
  unfold Cd.cells at *
  unfold at_ at *
  generalize (x.toNat : Int) = X at *
  go_enter Try.func14, Try.ntmps14
  go_wp2_with fail
  go_region_law
    (first
    | (go_simp; go_at_call 24; refine Calls.mono HFS.out ?_; rintro e w1 ⟨rfl, rfl⟩)
    | (go_simp; go_at_call 26; refine Calls.mono HC.out ?_; rintro e w2 ⟨rfl, hs2, ht2⟩; obtain ⟨o2, hs3, ht3⟩ := HG.out _ _ _ hs2 ht2; have H2 : Hid (_ ∧ _) := And.intro hs3 (HT.out.trans ht3); clear hs2 ht2 hs3 ht3)
    | fail)
  all_goals
    go_wp2
    go_ret2
    exact ⟨o2, u, Nat.le_succ _, rfl, H2.out⟩

set_option maxRecDepth 100000 in
set_option maxHeartbeats 2000000 in
theorem done_flip (d : Cd) (h : CSys w c p o st u) (hok : CdOk d) (hnm : d.name.size ≤ 40) (hdt : d.data.size ≤ 400) (hkk : d.kind % 10 = 8) :
    Calls Try.prog 14 #[at_ c, .agg d.cells] w fun e w' => DoneC w w' e c p o u (((⟨#[]⟩ : ByteArray), (Fi.flip st.fs d.name d.i 2 d.x).1, { st with fs := (Fi.flip st.fs d.name d.i 2 d.x).2 })) := by
  obtain ⟨kind, name, i, data, x⟩ := d
  simp only at *
  have hbx := boxC w ⟨kind, name, i, data, x⟩
  have h1 := h.later hbx.drew
  have HT : Hid (Turn o w o (w.alloc (.cells (Cd.cells ⟨kind, name, i, data, x⟩) 42)).drew) := Turn.below hbx.drew
  have hkey : KeyOk name i := ⟨by unfold maxLen; omega, hok.i1, hok.i2⟩
  have hkd := hok.kind
  have hi2 := hok.i2
  simp only at hkd hi2
  have hr : (kind : Int) % 10 = 8 := by omega
  have HFS : Hid (Calls _ _ _ _ _) := cfs_sys h1
  obtain ⟨of, hs, hgo⟩ := h1.file
  have HC : Hid (Calls _ _ _ _ _) := flip_any name i 2 x _ hs hkey.n
  have HG : Hid _ := hgo
  clear hs hgo
  clear hbx h1 h hok
  unfold Cd.cells at *
  unfold at_ at *
  generalize (x.toNat : Int) = X at *
  go_enter Try.func14, Try.ntmps14
  go_wp2_with fail
  go_region_law
    (first
    | (go_simp; go_at_call 24; refine Calls.mono HFS.out ?_; rintro e w1 ⟨rfl, rfl⟩)
    | (go_simp; go_at_call 37; refine Calls.mono HC.out ?_; rintro e w2 ⟨of2, rfl, hs2, ht2⟩; obtain ⟨o2, hs3, ht3⟩ := HG.out _ _ _ hs2 ht2; have H2 : Hid (_ ∧ _) := And.intro hs3 (HT.out.trans ht3); clear hs2 ht2 hs3 ht3)
    | fail)
  all_goals
    go_wp2
    go_ret2
    exact ⟨o2, u, Nat.le_succ _, rfl, H2.out⟩

set_option maxRecDepth 100000 in
set_option maxHeartbeats 2000000 in
theorem done_remove (d : Cd) (h : CSys w c p o st u) (hok : CdOk d) (hnm : d.name.size ≤ 40) (hdt : d.data.size ≤ 400) (hkk : d.kind % 10 = 9) :
    Calls Try.prog 14 #[at_ c, .agg d.cells] w fun e w' => DoneC w w' e c p o u (((⟨#[]⟩ : ByteArray), (Fi.remove st.fs d.name).1, { st with fs := (Fi.remove st.fs d.name).2 })) := by
  obtain ⟨kind, name, i, data, x⟩ := d
  simp only at *
  have hbx := boxC w ⟨kind, name, i, data, x⟩
  have h1 := h.later hbx.drew
  have HT : Hid (Turn o w o (w.alloc (.cells (Cd.cells ⟨kind, name, i, data, x⟩) 42)).drew) := Turn.below hbx.drew
  have hkey : KeyOk name i := ⟨by unfold maxLen; omega, hok.i1, hok.i2⟩
  have hkd := hok.kind
  have hi2 := hok.i2
  simp only at hkd hi2
  have hr : (kind : Int) % 10 = 9 := by omega
  have HFS : Hid (Calls _ _ _ _ _) := cfs_sys h1
  obtain ⟨of, hs, hgo⟩ := h1.file
  have HC : Hid (Calls _ _ _ _ _) := remove_any name _ hs hkey.n
  have HG : Hid _ := hgo
  clear hs hgo
  clear hbx h1 h hok
  unfold Cd.cells at *
  unfold at_ at *
  generalize (x.toNat : Int) = X at *
  go_enter Try.func14, Try.ntmps14
  go_wp2_with fail
  go_region_law
    (first
    | (go_simp; go_at_call 24; refine Calls.mono HFS.out ?_; rintro e w1 ⟨rfl, rfl⟩)
    | (go_simp; go_at_call 38; refine Calls.mono HC.out ?_; rintro e w2 ⟨of2, rfl, hs2, ht2⟩; obtain ⟨o2, hs3, ht3⟩ := HG.out _ _ _ hs2 ht2; have H2 : Hid (_ ∧ _) := And.intro hs3 (HT.out.trans ht3); clear hs2 ht2 hs3 ht3)
    | fail)
  all_goals
    go_wp2
    go_ret2
    exact ⟨o2, u, Nat.le_succ _, rfl, H2.out⟩

set_option maxRecDepth 100000 in
set_option maxHeartbeats 2000000 in
theorem done_write (d : Cd) (h : CSys w c p o st u) (hok : CdOk d) (hnm : d.name.size ≤ 40) (hdt : d.data.size ≤ 400) (hkk : d.kind % 10 = 6) :
    Calls Try.prog 14 #[at_ c, .agg d.cells] w fun e w' => DoneC w w' e c p o u (((⟨#[]⟩ : ByteArray), (Fi.write st.fs d.name (splitOf d.data)).1, { st with fs := (Fi.write st.fs d.name (splitOf d.data)).2 })) := by
  obtain ⟨kind, name, i, data, x⟩ := d
  simp only at *
  have hbx := boxC w ⟨kind, name, i, data, x⟩
  have h1 := h.later hbx.drew
  have HT : Hid (Turn o w o (w.alloc (.cells (Cd.cells ⟨kind, name, i, data, x⟩) 42)).drew) := Turn.below hbx.drew
  have hkey : KeyOk name i := ⟨by unfold maxLen; omega, hok.i1, hok.i2⟩
  have hkd := hok.kind
  have hi2 := hok.i2
  simp only at hkd hi2
  have hr : (kind : Int) % 10 = 6 := by omega
  have HFS : Hid (Calls _ _ _ _ _) := cfs_sys h1
  have HSP : Hid (Calls _ _ _ _ _) := split_any data (w.alloc (.cells (Cd.cells ⟨kind, name, i, data, x⟩) 42)).drew (by omega)
  have HW : Hid (∀ W v, Below (w.alloc (.cells (Cd.cells ⟨kind, name, i, data, x⟩) 42)).drew.heap.size (w.alloc (.cells (Cd.cells ⟨kind, name, i, data, x⟩) 42)).drew W → Strs W v (splitOf data) → Calls Try.prog 34 #[at_ p, .string name, v] W fun e w' => ∃ o', e = .returned (.int .i64 (Fi.write st.fs name (splitOf data)).1) ∧ CSys w' c p o' { st with fs := (Fi.write st.fs name (splitOf data)).2 } u ∧ Turn o w o' w') := fun W v hb hv => by
    obtain ⟨of, hs, hgo⟩ := (h1.later hb).file
    refine (write_any name v (splitOf data) W hs hkey.n hv (by have := splitOf_length data hdt; omega)).mono ?_
    rintro e w' ⟨of2, rfl, hs2, ht2⟩
    obtain ⟨o2, hs3, ht3⟩ := hgo _ _ _ hs2 ht2
    exact ⟨o2, rfl, hs3, (HT.out.trans (Turn.below hb)).trans ht3⟩
  have cb1 : (w.alloc (.cells (Cd.cells ⟨kind, name, i, data, x⟩) 42)).drew.cell? ⟨w.heap.size, 1, none⟩ = some (.string name) := by
    have := heap_alloc_new w (.cells (Cd.cells ⟨kind, name, i, data, x⟩) 42)
    show World.cell? (w.alloc _) _ = _
    unfold World.cell?
    simp only []
    rw [this]
    rfl
  have HCB : Hid _ := cb1
  unfold splitOf at HSP HW ⊢
  generalize (Pg.split data.data.toList).map text = pl at *
  clear hbx h hok h1 cb1
  unfold Cd.cells at *
  unfold at_ at *
  generalize (x.toNat : Int) = X at *
  go_enter Try.func14, Try.ntmps14
  go_wp2_with fail
  go_region_law
    (first
    | (go_simp; go_at_call 24; refine Calls.mono HFS.out ?_; rintro e w1 ⟨rfl, rfl⟩)
    | (go_simp; go_at_call 35; refine Calls.mono HSP.out ?_; rintro e w2 ⟨v, rfl, hv, hb2⟩; have cb2 := cell_after hb2 HCB.out; have HW2 : Hid (Calls _ _ _ _ _) := HW.out w2 v hb2 hv; clear hv hb2)
    | (go_simp; go_at_call 34; refine Calls.mono HW2.out ?_; rintro e w3 ⟨o2, rfl, hs3, ht3⟩; have H2 : Hid (_ ∧ _) := And.intro hs3 ht3; clear hs3 ht3)
    | fail)
  all_goals
    go_wp2
    go_ret2
    exact ⟨o2, u, Nat.le_succ _, rfl, H2.out⟩

theorem done_c (d : Cd) (h : CSys w c p o st u) (hok : CdOk d) (hnm : d.name.size ≤ 40) (hdt : d.data.size ≤ 400) (hu : u < 9223372036854775800) :
    Calls Try.prog 14 #[at_ c, .agg d.cells] w fun e w' => DoneC w w' e c p o u (actC st d) := by
  unfold actC
  have hcases : d.kind % 10 = 0 ∨ d.kind % 10 = 1 ∨ d.kind % 10 = 2 ∨ d.kind % 10 = 3 ∨ d.kind % 10 = 4 ∨ d.kind % 10 = 5 ∨ d.kind % 10 = 6 ∨ d.kind % 10 = 7 ∨ d.kind % 10 = 8 ∨ d.kind % 10 = 9 := by omega
  rcases hcases with hk | hk | hk | hk | hk | hk | hk | hk | hk | hk
  · simp only [hk]; exact done_get d h hok hnm hdt hu (.inl hk)
  · simp only [hk]; exact done_get d h hok hnm hdt hu (.inr hk)
  · simp only [hk]; exact done_pin d h hok hnm hdt hu hk
  · simp only [hk]; exact done_unpin d h hok hnm hdt hu hk
  · simp only [hk]; exact done_put d h hok hnm hdt hu hk
  · simp only [hk]; exact done_drop d h hok hnm hdt hk
  · simp only [hk]; exact done_write d h hok hnm hdt hk
  · simp only [hk]; exact done_fail d h hok hnm hdt hk
  · simp only [hk]; exact done_flip d h hok hnm hdt hk
  · simp only [hk]; exact done_remove d h hok hnm hdt hk

end
end Go.Proofs.Ytnlhgcpmmcmknaa
