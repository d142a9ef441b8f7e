/- PagesWay: for every list of strings and every string the call returns true: what is decoded was encoded so, what is joined was split so (P5.3). No conditions. -/
import Derived.Test.YtnlglmloineapaaQDoes
namespace Go.Proofs.Ytnlglmloineapaa
open Go.ChangeShapes Go.WideShapes Go.ChangeAt Go.RowKit
open Go.ChangeMaps (open_string shut_string)

theorem text_lists (l : List ByteArray) : (lists l).map text = l := by
  unfold lists
  rw [List.map_map]
  conv => rhs; rw [← List.map_id l]
  exact List.map_congr_left fun _ _ => rfl
theorem flat_bound : ∀ l : List (List UInt8), (∀ d ∈ l, d.length ≤ 122) → l.flatten.length ≤ 122 * l.length
  | [], _ => by simp
  | d :: l, h => by
    have h1 := flat_bound l fun x hx => h x (List.mem_cons_of_mem _ hx)
    have h2 := h d (by simp)
    rw [List.flatten_cons, List.length_append, List.length_cons]
    omega
theorem flat_small (l : List ByteArray) {n : Nat} (h : Few l n) (hok : ∀ p ∈ lists l, Pg.Ok p) : ((lists l).map Pg.tell).flatten.length ≤ 122 * n := by
  have h1 := flat_bound ((lists l).map Pg.tell) (by
    intro d hd
    obtain ⟨p, hp, rfl⟩ := List.mem_map.1 hd
    exact Pg.tell_le (hok p hp))
  rw [List.length_map, lists_length] at h1
  have h2 := Nat.mul_le_mul_left 122 h.1
  omega

set_option maxRecDepth 100000 in
set_option maxHeartbeats 2000000 in
theorem pagesWay_walk (a : Option Addr) (cap : Nat) (l : List ByteArray) (s : ByteArray) (w : World) (hlen : l.length ≤ maxLen) (hk : Strs w (.slice a l.length cap) l) (hz : ∀ s ∈ l, s.size ≤ maxLen) (hs : s.size ≤ maxLen) :
    Calls Try.prog 6 #[.slice a l.length cap, .string s] w fun e w' => e = .returned (.bool true) ∧ Below w.heap.size w w' := by
  unfold maxLen at hlen hz hs
  have HG : Hid (Calls _ _ _ _ _) := great_any _ l 30 w hk hlen (by decide) hz
  have HK : Hid (Strs w (.slice a l.length cap) l) := hk
  clear hk
  by_cases hfew : Few l 30
  · rw [decide_eq_true hfew] at HG
    by_cases h3 : 300 < s.size
    · clear HK hz
      go_enter Try.func6, Try.ntmps6
      go_wp2_with fail
      refine Calls.mono HG.out ?_
      rintro e w1 ⟨rfl, rfl⟩
      go_wp2
      go_ret
      exact ⟨rfl, Below.refl _ _⟩
    · have HZ : Hid _ := hz
      have HD : Hid (Calls _ _ _ _ _) := decode_any s w hs
      clear hz
      by_cases hok : Pg.Ok s.data.toList
      · rw [Pg.dec_yes hok] at HD
        have HE : Hid (∀ W, Calls Try.prog 9 #[.string ⟨(Pg.tell s.data.toList).toArray⟩] W fun e w' => e = .returned (.tuple #[.string s, .int .i64 0]) ∧ Below W.heap.size W w') := fun W => by
          have h1 := Pg.tell_le hok
          have := encode_any ⟨(Pg.tell s.data.toList).toArray⟩ W (by show (Pg.tell s.data.toList).length ≤ _; omega)
          rw [show (⟨(Pg.tell s.data.toList).toArray⟩ : ByteArray).data.toList = Pg.tell s.data.toList from rfl, Pg.enc_yes (by omega), Pg.page_tell hok] at this
          exact this
        generalize (⟨(Pg.tell s.data.toList).toArray⟩ : ByteArray) = t at HD HE
        generalize Pg.tell s.data.toList = t2 at HD
        clear hok
        go_enter Try.func6, Try.ntmps6
        go_wp2_with fail
        refine Calls.mono HG.out ?_
        rintro e w1 ⟨rfl, rfl⟩
        clear HG
        go_wp2_with fail
        refine Calls.mono HD.out ?_
        rintro e w2 ⟨rfl, hb2⟩
        have HB2 : Hid (Below w1.heap.size w1 w2) := hb2
        clear hb2 HD
        go_wp2_with fail
        refine (HE.out _).mono ?_
        rintro e w3 ⟨rfl, hb3⟩
        have HBJ : Hid (Below w1.heap.size w1 w3) := bnext HB2.out hb3
        have HKJ : Hid (Strs w3 (.slice a l.length cap) l) := HK.out.later HBJ.out
        clear hb3 HE HB2
        go_wp2_with fail
        have HJ : Hid (Calls _ _ _ _ _) := join_any _ l w3 HKJ.out (by have := hfew.1; omega) HZ.out
        by_cases hf : Pg.Fits (lists l)
        · rw [Pg.join_yes hf] at HJ
          have hsp := (Pg.fits_iff _).1 hf
          have HSP : Hid (∀ W, Calls _ _ _ _ _) := fun W => split_any (text ((lists l).map Pg.tell).flatten) W (by
            show ((lists l).map Pg.tell).flatten.length ≤ _
            have := flat_small l hfew hsp.1
            omega)
          have hsl : (Pg.split (text ((lists l).map Pg.tell).flatten).data.toList).map text = l := by
            rw [text_toList, hsp.2, text_lists]
          simp only [hsl] at HSP
          have HTX : Hid (∀ W v u, Strs W v l → Strs W u l → Calls Try.prog 11 #[v, u] W fun e w' => e = .returned (.bool true) ∧ Below W.heap.size W w') := fun W v u h1 h2 => by
            have := texts_any v u l l W h1 h2 (by have := hfew.1; omega) (by have := hfew.1; omega)
            rw [decide_eq_true rfl] at this
            exact this
          replace HJ : Hid (Calls Try.prog 18 #[.slice a l.length cap] w3 fun e w' => e = .returned (.tuple #[.string (text ((lists l).map Pg.tell).flatten), .int .i64 0]) ∧ Below w3.heap.size w3 w') := HJ
          generalize text ((lists l).map Pg.tell).flatten = D at HJ HSP
          clear hf hsp hsl
          refine Calls.mono HJ.out ?_
          rintro e w4 ⟨rfl, hb4⟩
          have HB4 : Hid (Below w1.heap.size w1 w4) := bnext HBJ.out hb4
          have HK4 : Hid (Strs w4 (.slice a l.length cap) l) := HKJ.out.later hb4
          clear hb4 HJ HBJ HKJ
          go_wp2_with fail
          refine (HSP.out _).mono ?_
          rintro e w5 ⟨v5, rfl, hs5, hb5⟩
          have HB5 : Hid (Below w1.heap.size w1 w5) := bnext HB4.out hb5
          have HK5 : Hid (Strs w5 (.slice a l.length cap) l) := HK4.out.later hb5
          have HS5 : Hid (Strs w5 v5 l) := hs5
          obtain ⟨a5, cap5, rfl, _, _⟩ := hs5
          clear hb5 HSP HB4 HK4
          go_wp2_with fail
          refine (HTX.out _ _ _ HS5.out HK5.out).mono ?_
          rintro e w6 ⟨rfl, hb6⟩
          have HB6 : Hid (Below w1.heap.size w1 w6) := bnext HB5.out hb6
          clear hb6 HTX HB5 HK5 HS5
          go_wp2_with fail
          refine (does_any _).mono ?_
          rintro e w7 ⟨rfl, hb7⟩
          have HB7 : Hid (Below w1.heap.size w1 w7) := bnext HB6.out hb7
          clear hb7 HB6
          go_wp2
          go_ret
          exact ⟨rfl, HB7.out⟩
        · rw [Pg.join_no hf] at HJ
          clear hf
          refine Calls.mono HJ.out ?_
          rintro e w4 ⟨rfl, hb4⟩
          have HB4 : Hid (Below w1.heap.size w1 w4) := bnext HBJ.out hb4
          clear hb4 HJ HBJ HKJ
          go_wp2_with fail
          refine (does_any _).mono ?_
          rintro e w7 ⟨rfl, hb7⟩
          have HB7 : Hid (Below w1.heap.size w1 w7) := bnext HB4.out hb7
          clear hb7 HB4
          go_wp2
          go_ret
          exact ⟨rfl, HB7.out⟩
      · rw [Pg.dec_no hok] at HD
        clear hok
        go_enter Try.func6, Try.ntmps6
        go_wp2_with fail
        refine Calls.mono HG.out ?_
        rintro e w1 ⟨rfl, rfl⟩
        clear HG
        go_wp2_with fail
        refine Calls.mono HD.out ?_
        rintro e w3 ⟨rfl, hb3⟩
        have HBJ : Hid (Below w1.heap.size w1 w3) := hb3
        have HKJ : Hid (Strs w3 (.slice a l.length cap) l) := HK.out.later HBJ.out
        clear hb3 HD
        go_wp2_with fail
        have HJ : Hid (Calls _ _ _ _ _) := join_any _ l w3 HKJ.out (by have := hfew.1; omega) HZ.out
        by_cases hf : Pg.Fits (lists l)
        · rw [Pg.join_yes hf] at HJ
          have hsp := (Pg.fits_iff _).1 hf
          have HSP : Hid (∀ W, Calls _ _ _ _ _) := fun W => split_any (text ((lists l).map Pg.tell).flatten) W (by
            show ((lists l).map Pg.tell).flatten.length ≤ _
            have := flat_small l hfew hsp.1
            omega)
          have hsl : (Pg.split (text ((lists l).map Pg.tell).flatten).data.toList).map text = l := by
            rw [text_toList, hsp.2, text_lists]
          simp only [hsl] at HSP
          have HTX : Hid (∀ W v u, Strs W v l → Strs W u l → Calls Try.prog 11 #[v, u] W fun e w' => e = .returned (.bool true) ∧ Below W.heap.size W w') := fun W v u h1 h2 => by
            have := texts_any v u l l W h1 h2 (by have := hfew.1; omega) (by have := hfew.1; omega)
            rw [decide_eq_true rfl] at this
            exact this
          replace HJ : Hid (Calls Try.prog 18 #[.slice a l.length cap] w3 fun e w' => e = .returned (.tuple #[.string (text ((lists l).map Pg.tell).flatten), .int .i64 0]) ∧ Below w3.heap.size w3 w') := HJ
          generalize text ((lists l).map Pg.tell).flatten = D at HJ HSP
          clear hf hsp hsl
          refine Calls.mono HJ.out ?_
          rintro e w4 ⟨rfl, hb4⟩
          have HB4 : Hid (Below w1.heap.size w1 w4) := bnext HBJ.out hb4
          have HK4 : Hid (Strs w4 (.slice a l.length cap) l) := HKJ.out.later hb4
          clear hb4 HJ HBJ HKJ
          go_wp2_with fail
          refine (HSP.out _).mono ?_
          rintro e w5 ⟨v5, rfl, hs5, hb5⟩
          have HB5 : Hid (Below w1.heap.size w1 w5) := bnext HB4.out hb5
          have HK5 : Hid (Strs w5 (.slice a l.length cap) l) := HK4.out.later hb5
          have HS5 : Hid (Strs w5 v5 l) := hs5
          obtain ⟨a5, cap5, rfl, _, _⟩ := hs5
          clear hb5 HSP HB4 HK4
          go_wp2_with fail
          refine (HTX.out _ _ _ HS5.out HK5.out).mono ?_
          rintro e w6 ⟨rfl, hb6⟩
          have HB6 : Hid (Below w1.heap.size w1 w6) := bnext HB5.out hb6
          clear hb6 HTX HB5 HK5 HS5
          go_wp2_with fail
          refine (does_any _).mono ?_
          rintro e w7 ⟨rfl, hb7⟩
          have HB7 : Hid (Below w1.heap.size w1 w7) := bnext HB6.out hb7
          clear hb7 HB6
          go_wp2
          go_ret
          exact ⟨rfl, HB7.out⟩
        · rw [Pg.join_no hf] at HJ
          clear hf
          refine Calls.mono HJ.out ?_
          rintro e w4 ⟨rfl, hb4⟩
          have HB4 : Hid (Below w1.heap.size w1 w4) := bnext HBJ.out hb4
          clear hb4 HJ HBJ HKJ
          go_wp2_with fail
          refine (does_any _).mono ?_
          rintro e w7 ⟨rfl, hb7⟩
          have HB7 : Hid (Below w1.heap.size w1 w7) := bnext HB4.out hb7
          clear hb7 HB4
          go_wp2
          go_ret
          exact ⟨rfl, HB7.out⟩
  · rw [decide_eq_false hfew] at HG
    clear HK hz hfew
    go_enter Try.func6, Try.ntmps6
    go_wp2_with fail
    refine Calls.mono HG.out ?_
    rintro e w1 ⟨rfl, rfl⟩
    go_wp2
    go_ret
    exact ⟨rfl, Below.refl _ _⟩

set_option maxRecDepth 100000 in
theorem pagesWay_lifted (os : Os) (started : os.Started) (H : Type) (enc : TypeId × Value → H) :
    ReturnsInHanded {} Try.checked os 6 .any (Rows.pagesWaySpec.pre6 enc Try.prog Try.f6 Rows.pagesWayRow.domain false) (Rows.pagesWaySpec.post enc Try.prog Try.f6 false true false false) := by
  refine returnsInHanded_of_change (C := Try.checked) Try.own started (by kernel_rfl) Try.func6
    (ChangeSpec.witness6 (enc := enc) (C := Try.checked) false ⟨#[], #[.slice none 0 0, .string ByteArray.empty], []⟩ 8 (by kernel_rfl) (by kernel_rfl) (by kernel_rfl) (by kernel_rfl)) ?_
  intro W base args ds gs before hval0 hW hcnd _
  have hval : ∀ (j : Nat) t v, Try.f6.params[j]? = some t → args[j]? = some v → Value.okWide Try.prog W .any base t v := hval0
  have hW' := hW
  obtain ⟨p, q, hA0, hV, rfl, hfz, hnd⟩ := hW
  have hA : DataW.TrodAll enc Try.prog W 0 (fun _ => true) true Try.f6.params.toList args.toList ds p := hA0
  rw [Try.params6] at hA hval
  obtain ⟨v0, vs0, d0, ds0, p0, q0, hargs, rfl, rfl, h0, r0⟩ := trodAll_cons hA
  obtain ⟨v1, vs1, d1, ds1, p1, q1, rfl, rfl, rfl, h1, r1⟩ := trodAll_cons r0
  obtain ⟨rfl, rfl, rfl⟩ := trodAll_nil r1
  obtain rfl : args = #[v0, v1] := by cases args; simp_all
  obtain ⟨rfl, rfl⟩ := trodVars_none hV
  obtain ⟨a0, len0, cap0, rfl⟩ := okWide_slice Try.underlying26 (hval 0 26 v0 rfl rfl)
  have lt0 : ∀ x ∈ p0, x.block < W.heap.size := by obtain ⟨m, hm⟩ := h0; exact DataW.trod_lt m _ _ _ hm
  obtain ⟨z0, w0⟩ : ∃ zs, IsStrs W a0 len0 cap0 zs := by
    obtain ⟨fuel, hf⟩ := h0
    rcases open_strings Try.underlying26 Try.underlying9 (by kernel_rfl) hf with ⟨hcs, _⟩ | ⟨x, l, c, zs, hcs, _, hl, hm, hz, _, hcell, hwz⟩
    · simp [Value.cells] at hcs
      obtain ⟨rfl, rfl, rfl⟩ := hcs
      exact ⟨[], .inl ⟨rfl, rfl, rfl, rfl⟩⟩
    · simp [Value.cells] at hcs
      obtain ⟨rfl, rfl, rfl⟩ := hcs
      exact ⟨zs, .inr ⟨_, rfl, hl, hm, by simpa using hz, hcell, hwz⟩⟩
  obtain ⟨l0, rfl, n0, k0, f0⟩ := strs_of_row w0
  obtain ⟨a1, rfl, rfl, rfl, w1⟩ := open_string Try.underlying9 (hval 1 9 v1 rfl rfl) h1
  clear hA0 hval0
  refine (pagesWay_walk a0 cap0 l0 a1 W n0 k0 f0 w1).mono fun e W' ⟨he, bel⟩ => ?_
  subst he
  exact ⟨_, rfl, _, _, _, [], _, [], hW', trodAll_mk1 (shut_bool Try.underlying4 _), (trodAll_cons_mk (Below.trod Try.laidOut (by kernel_rfl) (of_decide_eq_true (by kernel_rfl)) h0 bel lt0) (trodAll_cons_mk (shut_string Try.underlying9 w1) trodAll_mk0)), rfl, bel.frame _, fun h => by cases h⟩

theorem pagesWay_holds : Rows.PagesWaySaid :=
  OpenClaim.holds_of_wide 6 Try.f6 rfl rfl rfl rfl rfl rfl rfl ⟨rfl, rfl, rfl, rfl, rfl⟩ rfl rfl rfl rfl rfl (by kernel_rfl) Try.func6 (by kernel_rfl)
    (of_decide_eq_true (by kernel_rfl)) (by unfold Func.isWrapper; first | (rw [if_pos (by decide +kernel)]; kernel_rfl) | (rw [if_neg (by decide +kernel)]; exact ⟨rfl, rfl⟩))
    (fun os started H enc _ => pagesWay_lifted os started H enc)

end Go.Proofs.Ytnlglmloineapaa
