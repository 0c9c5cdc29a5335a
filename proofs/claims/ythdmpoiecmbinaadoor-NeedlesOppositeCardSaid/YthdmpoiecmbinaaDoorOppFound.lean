import Derived.Test.YthdmpoiecmbinaaDoorSpots
import Derived.Test.YthdmpoiecmbinaaDoorOrder
import Derived.Deep.LoopGhost
import Derived.RegionTactic
import Derived.IntWalk
namespace Go.Proofs.YthdmpoiecmbinaaDoor
open Go.RowKit Go.Sort

theorem Own.drew {w : World} {k : Nat} {b a : Int} (h : Own w k b a) : Own w.drew k b a := Own.below ((Below.refl _ _).drew) h
theorem opp_front_is (a r o : Int) (w : World) (h1 : 1 ≤ a) (h2 : a ≤ 40) (h3 : -4 ≤ r) (h4 : r ≤ 4) (ho : a - r = o) (g1 : 1 ≤ o) (g2 : o ≤ 40) :
    Calls Tryd.prog 16 #[.agg #[.int .u8 0, .int .i64 a], .int .i64 r] w fun e w' => e = .returned (.tuple #[.agg #[.int .u8 1, .int .i64 o], .int .i64 0]) ∧ Below w.heap.size w w' := by
  subst ho
  exact opp_front a r w h1 h2 h3 h4 g1 g2
theorem opp_front_none_is (a r o : Int) (w : World) (h1 : 1 ≤ a) (h2 : a ≤ 40) (h3 : -4 ≤ r) (h4 : r ≤ 4) (ho : a - r = o) (g : ¬ (1 ≤ o ∧ o ≤ 40)) :
    Calls Tryd.prog 16 #[.agg #[.int .u8 0, .int .i64 a], .int .i64 r] w fun e w' => e = .returned (.tuple #[.agg #[.int .u8 0, .int .i64 0], .int .i64 11]) ∧ Below w.heap.size w w' := by
  subst ho
  exact opp_front_none a r w h1 h2 h3 h4 (by omega)
theorem opp_back_none_is (a r o : Int) (w : World) (h1 : 1 ≤ a) (h2 : a ≤ 40) (h3 : -4 ≤ r) (h4 : r ≤ 4) (ho : a + r = o) (g : ¬ (1 ≤ o ∧ o ≤ 40)) :
    Calls Tryd.prog 16 #[.agg #[.int .u8 1, .int .i64 a], .int .i64 r] w fun e w' => e = .returned (.tuple #[.agg #[.int .u8 0, .int .i64 0], .int .i64 11]) ∧ Below w.heap.size w w' := by
  subst ho
  exact opp_back_none a r w h1 h2 h3 h4 (by omega)
theorem opp_back_is (a r o : Int) (w : World) (h1 : 1 ≤ a) (h2 : a ≤ 40) (h3 : -4 ≤ r) (h4 : r ≤ 4) (ho : a + r = o) (g1 : 1 ≤ o) (g2 : o ≤ 40) :
    Calls Tryd.prog 16 #[.agg #[.int .u8 1, .int .i64 a], .int .i64 r] w fun e w' => e = .returned (.tuple #[.agg #[.int .u8 0, .int .i64 o], .int .i64 0]) ∧ Below w.heap.size w w' := by
  subst ho
  exact opp_back a r w h1 h2 h3 h4 g1 g2

set_option maxRecDepth 100000 in
set_option maxHeartbeats 1000000 in
theorem opplaw_invalid (b a r : Int) (h : ¬ (b ≤ 1 ∧ 1 ≤ a ∧ a ≤ 40)) (w : World) :
    Calls Tryd.prog 5 #[.agg #[.int .u8 b, .int .i64 a], .int .i64 r] w fun e w' => e = .returned (.bool true) ∧ Below w.heap.size w w' := by
  have HV := Lib.hid h
  clear h
  go_enter Tryd.func5, Tryd.ntmps5
  go_wp2_with (go_at_call 16; refine (opp_arg _ _ _ _ HV.out).mono ?_; rintro e w1 ⟨rfl, hb⟩; refine Hid.out ?_)
  have z1 := hb.size
  simp at z1
  have B1 : Below w.heap.size w w1 := ((Below.refl _ _).alloc (Nat.le_refl _) _).trans (hb.mono (by simp <;> omega))
  have o2 : Own w1 w.heap.size b a := Own.below hb (Own.new b a rfl)
  clear hb
  obtain ⟨-, -, -, -, c20, c21⟩ := o2.facts
  refine Lib.hid ?_
  go_wp2_with (go_at_call 9; refine (lvalid_bad _ _ _ HV.out).mono ?_; rintro e w2 ⟨rfl, hb⟩; refine Hid.out ?_)
  have z2 := hb.size
  simp at z2
  have B2 : Below w.heap.size w w2 := (B1.alloc (by omega) _).trans (hb.mono (by simp <;> omega))
  replace o2 := Own.below hb (o2.alloc _)
  have o5 : Own w2 w1.heap.size 0 0 := Own.below hb (Own.new 0 0 rfl)
  clear hb c20 c21
  obtain ⟨c50, c51, -, -, -, -⟩ := o5.facts
  refine Lib.hid ?_
  go_wp2_with (go_at_call 12; refine (lives _).mono ?_; rintro e w3 ⟨rfl, hb⟩; refine Hid.out ?_)
  have z3 := hb.size
  have B3 : Below w.heap.size w w3 := (B2).trans (hb.mono (by omega))
  clear hb c50 c51
  refine Lib.hid ?_
  go_wp2
  go_ret
  exact ⟨rfl, B3⟩

set_option maxRecDepth 100000 in
set_option maxHeartbeats 1000000 in
theorem opplaw_low (b a r : Int) (hb1 : b ≤ 1) (h1 : 1 ≤ a) (h2 : a ≤ 40) (hr : r < -4) (w : World) :
    Calls Tryd.prog 5 #[.agg #[.int .u8 b, .int .i64 a], .int .i64 r] w fun e w' => e = .returned (.bool true) ∧ Below w.heap.size w w' := by
  have HV := Lib.hid (show ¬ (-4 ≤ r ∧ r ≤ 4) by omega)
  go_enter Tryd.func5, Tryd.ntmps5
  go_wp2_with (go_at_call 16; refine (opp_rack _ _ _ _ hb1 h1 h2 HV.out).mono ?_; rintro e w1 ⟨rfl, hb⟩; refine Hid.out ?_)
  have z1 := hb.size
  simp at z1
  have B1 : Below w.heap.size w w1 := ((Below.refl _ _).alloc (Nat.le_refl _) _).trans (hb.mono (by simp <;> omega))
  have o2 : Own w1 w.heap.size b a := Own.below hb (Own.new b a rfl)
  clear hb
  obtain ⟨-, -, -, -, c20, c21⟩ := o2.facts
  refine Lib.hid ?_
  go_wp2_with (go_at_call 9; refine (lvalid_ok _ _ _ hb1 h1 h2).mono ?_; rintro e w2 ⟨rfl, hb⟩; refine Hid.out ?_)
  have z2 := hb.size
  simp at z2
  have B2 : Below w.heap.size w w2 := (B1.alloc (by omega) _).trans (hb.mono (by simp <;> omega))
  replace o2 := Own.below hb (o2.alloc _)
  have o5 : Own w2 w1.heap.size 0 0 := Own.below hb (Own.new 0 0 rfl)
  clear hb c20 c21
  obtain ⟨c50, c51, -, -, -, -⟩ := o5.facts
  refine Lib.hid ?_
  go_wp2_with (go_at_call 12; refine (lives _).mono ?_; rintro e w3 ⟨rfl, hb⟩; refine Hid.out ?_)
  have z3 := hb.size
  have B3 : Below w.heap.size w w3 := (B2).trans (hb.mono (by omega))
  clear hb c50 c51
  refine Lib.hid ?_
  go_wp2
  go_ret
  exact ⟨rfl, B3⟩

set_option maxRecDepth 100000 in
set_option maxHeartbeats 1000000 in
theorem opplaw_high (b a r : Int) (hb1 : b ≤ 1) (h1 : 1 ≤ a) (h2 : a ≤ 40) (hl : -4 ≤ r) (hr : 4 < r) (w : World) :
    Calls Tryd.prog 5 #[.agg #[.int .u8 b, .int .i64 a], .int .i64 r] w fun e w' => e = .returned (.bool true) ∧ Below w.heap.size w w' := by
  have HV := Lib.hid (show ¬ (-4 ≤ r ∧ r ≤ 4) by omega)
  go_enter Tryd.func5, Tryd.ntmps5
  go_wp2_with (go_at_call 16; refine (opp_rack _ _ _ _ hb1 h1 h2 HV.out).mono ?_; rintro e w1 ⟨rfl, hb⟩; refine Hid.out ?_)
  have z1 := hb.size
  simp at z1
  have B1 : Below w.heap.size w w1 := ((Below.refl _ _).alloc (Nat.le_refl _) _).trans (hb.mono (by simp <;> omega))
  have o2 : Own w1 w.heap.size b a := Own.below hb (Own.new b a rfl)
  clear hb
  obtain ⟨-, -, -, -, c20, c21⟩ := o2.facts
  refine Lib.hid ?_
  go_wp2_with (go_at_call 9; refine (lvalid_ok _ _ _ hb1 h1 h2).mono ?_; rintro e w2 ⟨rfl, hb⟩; refine Hid.out ?_)
  have z2 := hb.size
  simp at z2
  have B2 : Below w.heap.size w w2 := (B1.alloc (by omega) _).trans (hb.mono (by simp <;> omega))
  replace o2 := Own.below hb (o2.alloc _)
  have o5 : Own w2 w1.heap.size 0 0 := Own.below hb (Own.new 0 0 rfl)
  clear hb c20 c21
  obtain ⟨c50, c51, -, -, -, -⟩ := o5.facts
  refine Lib.hid ?_
  go_wp2_with (go_at_call 12; refine (lives _).mono ?_; rintro e w3 ⟨rfl, hb⟩; refine Hid.out ?_)
  have z3 := hb.size
  have B3 : Below w.heap.size w w3 := (B2).trans (hb.mono (by omega))
  clear hb c50 c51
  refine Lib.hid ?_
  go_wp2
  go_ret
  exact ⟨rfl, B3⟩

set_option maxRecDepth 100000 in
set_option maxHeartbeats 4000000 in
theorem opplaw_found0 (a r o : Int) (J : Nat) (hJ : (J : Int) % 80 / 40 = 1 ∧ 1 + (J : Int) % 40 = o) (hJ80 : J < 80) (h1 : 1 ≤ a) (h2 : a ≤ 40) (h3 : -4 ≤ r) (h4 : r ≤ 4) (ho : a - r = o) (g1 : 1 ≤ o) (g2 : o ≤ 40) (w : World) :
    Calls Tryd.prog 5 #[.agg #[.int .u8 0, .int .i64 a], .int .i64 r] w fun e w' => e = .returned (.bool true) ∧ Below w.heap.size w w' := by
  have HJ := Lib.hid hJ
  have HO := Lib.hid ho
  have HB := Lib.hid (show o + r = a by omega)
  clear hJ ho
  have hd1 : decide (r < -4) = false := by simp; omega
  have hd2 : decide (4 < r) = false := by simp; omega
  go_enter Tryd.func5, Tryd.ntmps5
  go_wp2_with (go_at_call 16; refine (opp_front_is a r o _ h1 h2 h3 h4 HO.out g1 g2).mono ?_; rintro e w1 ⟨rfl, hb⟩; refine Hid.out ?_)
  have z1 := hb.size
  simp at z1
  have B1 : Below w.heap.size w w1 := ((Below.refl _ _).alloc (Nat.le_refl _) _).trans (hb.mono (by simp <;> omega))
  have o2 : Own w1 w.heap.size 0 a := Own.below hb (Own.new 0 a rfl)
  clear hb
  obtain ⟨-, -, -, -, c20, c21⟩ := o2.facts
  refine Lib.hid ?_
  go_wp2_with (go_at_call 9; refine (lvalid_ok _ _ _ (by omega) h1 h2).mono ?_; rintro e w2 ⟨rfl, hb⟩; refine Hid.out ?_)
  have z2 := hb.size
  simp at z2
  have B2 : Below w.heap.size w w2 := (B1.alloc (by omega) _).trans (hb.mono (by simp <;> omega))
  replace o2 := Own.below hb (o2.alloc _)
  have o5 : Own w2 w1.heap.size 1 o := Own.below hb (Own.new 1 o rfl)
  clear hb c20 c21
  refine Lib.hid ?_
  go_wp2_with fail
  go_loopg [7] 81 (fun g i wr => ∃ k : Nat, k ≤ J ∧ g = 81 - k ∧ i = .int .i64 k ∧ Own wr w.heap.size 0 a ∧ Own wr w1.heap.size 1 o ∧ Below w.heap.size w wr)
  case atStart => exact ⟨0, by omega, rfl, rfl, o2, o5, B2⟩
  case round =>
    obtain ⟨k, hk, hg, rfl, o2', o5', hB⟩ := hrel
    clear o2 o5
    have HG := Lib.hid hg
    clear hg
    have zr : w1.heap.size < wr.heap.size := o5'.2.2.2.2
    obtain ⟨nb, hnb⟩ : ∃ nb : Int, (k : Int) % 80 / 40 = nb := ⟨_, rfl⟩
    obtain ⟨na, hna⟩ : ∃ na : Int, 1 + (k : Int) % 40 = na := ⟨_, rfl⟩
    obtain ⟨p1, p2, p3⟩ := needle_parts k
    have hp : nb = 0 ∨ nb = 1 := by rw [← hnb]; exact p1
    rw [hna] at p2 p3
    have HNB := Lib.hid hnb
    have HNA := Lib.hid hna
    have HP := Lib.hid hp
    clear hnb hna hp p1
    go_wp2_with (go_at_call 15; refine (lneedle_is k nb na _ (by omega) (by omega) HNB.out HNA.out).mono ?_; rintro e v1 ⟨rfl, hb⟩; refine Hid.out ?_)
    have y1 := hb.size
    replace o2' := Own.below hb o2'
    replace o5' := Own.below hb o5'
    have C1 : Below w.heap.size w v1 := hB.trans (hb.mono (by omega))
    clear hb
    obtain ⟨-, -, -, -, q20, q21⟩ := o2'.facts
    refine Lib.hid ?_
    rcases HP.out with rfl | rfl
    · go_wp2_with fail
      go_roundg (gk - 1)
      case measure => have := HG.out; omega
      case rel => exact ⟨k + 1, by have := HNB.out; have := HJ.out; omega, by have := HG.out; omega, by go_num, o2'.alloc _, o5'.alloc _, C1.alloc (by omega) _⟩
    · go_wp2_with fail
      obtain ⟨W, hW⟩ : ∃ W : World, W = v1.alloc (Obj.cells #[Value.int IntKind.u8 1, Value.int IntKind.i64 na] 24) := ⟨_, rfl⟩
      rw [← hW]
      have zW : v1.heap.size + 1 ≤ W.heap.size := by rw [hW]; simp
      have o8 : Own W v1.heap.size 1 na := by rw [hW]; exact Own.new _ _ rfl
      replace o2' : Own W w.heap.size 0 a := by rw [hW]; exact o2'.alloc _
      replace o5' : Own W w1.heap.size 1 o := by rw [hW]; exact o5'.alloc _
      have CW : Below w.heap.size w W := by rw [hW]; exact C1.alloc (by omega) _
      clear hW q20 q21 C1
      obtain ⟨c20, c21, -, -, q20, q21⟩ := o2'.facts
      obtain ⟨c80, c81, -, -, q80, q81⟩ := o8.facts
      have r20 := fun o o' => ((o2'.alloc o).alloc o').1
      have r21 := fun o o' => ((o2'.alloc o).alloc o').2.1
      have r80 := fun o o' => ((o8.alloc o).alloc o').1
      have r81 := fun o o' => ((o8.alloc o).alloc o').2.1
      go_region
      · obtain ⟨V, hV⟩ : ∃ V : World, V = ((W.alloc (Obj.cells #[Value.int IntKind.u8 0, Value.int IntKind.i64 a] 24)).alloc (Obj.cells #[Value.int IntKind.u8 1, Value.int IntKind.i64 na] 24)).drew := ⟨_, rfl⟩
        rw [← hV]
        have o9 : Own V (W.heap.size) 0 a := by rw [hV]; exact Own.drew (Own.alloc (Own.new _ _ rfl) _)
        have o10 : Own V (W.heap.size + 1) 1 na := by rw [hV]; exact Own.drew (Own.new _ _ (by simp))
        replace o2' : Own V w.heap.size 0 a := by rw [hV]; exact Own.drew ((o2'.alloc _).alloc _)
        replace o5' : Own V w1.heap.size 1 o := by rw [hV]; exact Own.drew ((o5'.alloc _).alloc _)
        replace o8 : Own V v1.heap.size 1 na := by rw [hV]; exact Own.drew ((o8.alloc _).alloc _)
        have CV : Below w.heap.size w V := by rw [hV]; exact ((CW.alloc (by omega) _).alloc (by simp; omega) _).drew
        clear hV CW c20 c21 q20 q21 c80 c81 q80 q81 r20 r21 r80 r81
        obtain ⟨k9, hk9⟩ : ∃ k : Nat, k = W.heap.size := ⟨_, rfl⟩
        obtain ⟨k10, hk10⟩ : ∃ k : Nat, k = W.heap.size + 1 := ⟨_, rfl⟩
        have hkk : k9 ≠ k10 ∧ W.heap.size ≤ k9 ∧ W.heap.size ≤ k10 := by omega
        rw [← hk10, ← hk9]
        rw [← hk9] at o9
        rw [← hk10] at o10
        clear hk9 hk10
        obtain ⟨d20, d21, -, -, -, -⟩ := o2'.facts
        obtain ⟨d80, d81, -, -, -, -⟩ := o8.facts
        obtain ⟨d90, d91, f90, f91, -, -⟩ := o9.facts
        obtain ⟨da0, da1, fa0, fa1, -, -⟩ := o10.facts
        obtain ⟨d50, d51, -, -, -, -⟩ := o5'.facts
        by_cases hno : na = o
        · subst hno
          have hT := HB.out
          go_wp2_with (go_at_call 16; refine (opp_back_is na r a _ g1 g2 h3 h4 HB.out h1 h2).mono ?_; rintro e v2 ⟨rfl, hb⟩; refine Hid.out ?_)
          have zc := hb.size
          replace o2' := Own.below hb o2'
          replace o5' := Own.below hb o5'
          replace o8 := Own.below hb o8
          replace o9 := Own.below hb o9
          replace o10 := Own.below hb o10
          have C2 : Below w.heap.size w v2 := CV.trans (hb.mono CV.size)
          clear hb hT d50 d51 d90 d91 da0 da1 d20 d21 d80 d81 f90 f91 fa0 fa1
          refine Lib.hid ?_
          go_wp2_with fail
          obtain ⟨U, hU⟩ : ∃ U : World, U = v2.alloc (Obj.cells #[Value.int IntKind.u8 0, Value.int IntKind.i64 a] 24) := ⟨_, rfl⟩
          rw [← hU]
          have o11 : Own U v2.heap.size 0 a := by rw [hU]; exact Own.new _ _ rfl
          replace o2' : Own U w.heap.size 0 a := by rw [hU]; exact o2'.alloc _
          replace o5' : Own U w1.heap.size 1 na := by rw [hU]; exact o5'.alloc _
          replace o8 : Own U v1.heap.size 1 na := by rw [hU]; exact o8.alloc _
          replace o9 : Own U k9 0 a := by rw [hU]; exact o9.alloc _
          replace o10 : Own U k10 1 na := by rw [hU]; exact o10.alloc _
          have CU : Below w.heap.size w U := by rw [hU]; exact C2.alloc (by have := C2.size; omega) _
          clear hU C2
          obtain ⟨s1, hs1⟩ : ∃ s : Int, spt 0 a r = s := ⟨_, rfl⟩
          obtain ⟨s2, hs2⟩ : ∃ s : Int, spt 1 na r = s := ⟨_, rfl⟩
          have hsw : IntKind.i64.wrap (s2 + 2) = s1 := by rw [IntWalk.i64_in _ (by have := HB.out; rw [← hs2]; simp [spt]; omega)]; have := HB.out; rw [← hs1, ← hs2]; simp [spt]; omega
          have e20 := fun d os => cell_regrown (d := d) (os := os) o2'.1
          have e21 := fun d os => cell_regrown (d := d) (os := os) o2'.2.1
          have e50 := fun d os => cell_regrown (d := d) (os := os) o5'.1
          have e51 := fun d os => cell_regrown (d := d) (os := os) o5'.2.1
          have e80 := fun d os => cell_regrown (d := d) (os := os) o8.1
          have e81 := fun d os => cell_regrown (d := d) (os := os) o8.2.1
          have e90 := fun d os => cell_regrown (d := d) (os := os) o9.1
          have e91 := fun d os => cell_regrown (d := d) (os := os) o9.2.1
          have ea0 := fun d os => cell_regrown (d := d) (os := os) o10.1
          have ea1 := fun d os => cell_regrown (d := d) (os := os) o10.2.1
          have eb0 := fun d os => cell_regrown (d := d) (os := os) o11.1
          have eb1 := fun d os => cell_regrown (d := d) (os := os) o11.2.1
          have K1 := Lib.hid (show ∀ d os, Calls Tryd.prog 11 #[.agg #[.int .u8 0, .int .i64 a], .int .i64 r] (grow (redrawn U d) os) fun e w'' => e = .returned (.int .i64 s1) ∧ ∃ p : Regrown, w'' = grow (redrawn U p.d) p.os from
            fun d os => Calls.regrown_of (spot_is _ _ _ _ _ (by omega) h1 h2 h3 h4 hs1))
          have K2 := Lib.hid (show ∀ d os, Calls Tryd.prog 11 #[.agg #[.int .u8 1, .int .i64 na], .int .i64 r] (grow (redrawn U d) os) fun e w'' => e = .returned (.int .i64 s2) ∧ ∃ p : Regrown, w'' = grow (redrawn U p.d) p.os from
            fun d os => Calls.regrown_of (spot_is _ _ _ _ _ (by omega) g1 g2 h3 h4 hs2))
          have K3 := Lib.hid (show ∀ d os, Calls Tryd.prog 12 #[] (grow (redrawn U d) os) fun e w'' => e = .returned (.bool true) ∧ ∃ p : Regrown, w'' = grow (redrawn U p.d) p.os from
            fun d os => Calls.regrown_of (lives _))
          clear hs1 hs2
          refine wp_region_quiet_below (by kernel_rfl) (by kernel_rfl) ?_
          iterate 20 (quiet_step (exact K1.out _ _))
          iterate 3 (quiet_step (exact K2.out _ _))
          repeat (quiet_step (exact K3.out _ _))
          refine wpQuiet_nil ?_
          intro _ hw'
          obtain ⟨⟨dq, osq⟩, hw''⟩ := hw'
          subst hw''
          go_wp2
          go_ret
          exact ⟨rfl, CU.trans ((below_regrown U dq osq).mono CU.size)⟩
        · have hne : (a == na + r) = false := by have := HO.out; simp; omega
          have HNO := Lib.hid hno
          clear hno
          go_wp2
          go_roundg (gk - 1)
          case measure => have := HG.out; omega
          case rel => exact ⟨k + 1, by have := HNB.out; have := HNA.out; have := HNO.out; have := HJ.out; omega, by have := HG.out; omega, by go_num, o2', o5', CV⟩
      · obtain ⟨V, hV⟩ : ∃ V : World, V = ((W.alloc (Obj.cells #[Value.int IntKind.u8 1, Value.int IntKind.i64 na] 24)).alloc (Obj.cells #[Value.int IntKind.u8 0, Value.int IntKind.i64 a] 24)).drew := ⟨_, rfl⟩
        rw [← hV]
        have o9 : Own V (W.heap.size + 1) 0 a := by rw [hV]; exact Own.drew (Own.new _ _ (by simp))
        have o10 : Own V (W.heap.size) 1 na := by rw [hV]; exact Own.drew (Own.alloc (Own.new _ _ rfl) _)
        replace o2' : Own V w.heap.size 0 a := by rw [hV]; exact Own.drew ((o2'.alloc _).alloc _)
        replace o5' : Own V w1.heap.size 1 o := by rw [hV]; exact Own.drew ((o5'.alloc _).alloc _)
        replace o8 : Own V v1.heap.size 1 na := by rw [hV]; exact Own.drew ((o8.alloc _).alloc _)
        have CV : Below w.heap.size w V := by rw [hV]; exact ((CW.alloc (by omega) _).alloc (by simp; omega) _).drew
        clear hV CW c20 c21 q20 q21 c80 c81 q80 q81 r20 r21 r80 r81
        obtain ⟨k9, hk9⟩ : ∃ k : Nat, k = W.heap.size + 1 := ⟨_, rfl⟩
        obtain ⟨k10, hk10⟩ : ∃ k : Nat, k = W.heap.size := ⟨_, rfl⟩
        have hkk : k9 ≠ k10 ∧ W.heap.size ≤ k9 ∧ W.heap.size ≤ k10 := by omega
        rw [← hk9, ← hk10]
        rw [← hk9] at o9
        rw [← hk10] at o10
        clear hk9 hk10
        obtain ⟨d20, d21, -, -, -, -⟩ := o2'.facts
        obtain ⟨d80, d81, -, -, -, -⟩ := o8.facts
        obtain ⟨d90, d91, f90, f91, -, -⟩ := o9.facts
        obtain ⟨da0, da1, fa0, fa1, -, -⟩ := o10.facts
        obtain ⟨d50, d51, -, -, -, -⟩ := o5'.facts
        by_cases hno : na = o
        · subst hno
          have hT := HB.out
          go_wp2_with (go_at_call 16; refine (opp_back_is na r a _ g1 g2 h3 h4 HB.out h1 h2).mono ?_; rintro e v2 ⟨rfl, hb⟩; refine Hid.out ?_)
          have zc := hb.size
          replace o2' := Own.below hb o2'
          replace o5' := Own.below hb o5'
          replace o8 := Own.below hb o8
          replace o9 := Own.below hb o9
          replace o10 := Own.below hb o10
          have C2 : Below w.heap.size w v2 := CV.trans (hb.mono CV.size)
          clear hb hT d50 d51 d90 d91 da0 da1 d20 d21 d80 d81 f90 f91 fa0 fa1
          refine Lib.hid ?_
          go_wp2_with fail
          obtain ⟨U, hU⟩ : ∃ U : World, U = v2.alloc (Obj.cells #[Value.int IntKind.u8 0, Value.int IntKind.i64 a] 24) := ⟨_, rfl⟩
          rw [← hU]
          have o11 : Own U v2.heap.size 0 a := by rw [hU]; exact Own.new _ _ rfl
          replace o2' : Own U w.heap.size 0 a := by rw [hU]; exact o2'.alloc _
          replace o5' : Own U w1.heap.size 1 na := by rw [hU]; exact o5'.alloc _
          replace o8 : Own U v1.heap.size 1 na := by rw [hU]; exact o8.alloc _
          replace o9 : Own U k9 0 a := by rw [hU]; exact o9.alloc _
          replace o10 : Own U k10 1 na := by rw [hU]; exact o10.alloc _
          have CU : Below w.heap.size w U := by rw [hU]; exact C2.alloc (by have := C2.size; omega) _
          clear hU C2
          obtain ⟨s1, hs1⟩ : ∃ s : Int, spt 0 a r = s := ⟨_, rfl⟩
          obtain ⟨s2, hs2⟩ : ∃ s : Int, spt 1 na r = s := ⟨_, rfl⟩
          have hsw : IntKind.i64.wrap (s2 + 2) = s1 := by rw [IntWalk.i64_in _ (by have := HB.out; rw [← hs2]; simp [spt]; omega)]; have := HB.out; rw [← hs1, ← hs2]; simp [spt]; omega
          have e20 := fun d os => cell_regrown (d := d) (os := os) o2'.1
          have e21 := fun d os => cell_regrown (d := d) (os := os) o2'.2.1
          have e50 := fun d os => cell_regrown (d := d) (os := os) o5'.1
          have e51 := fun d os => cell_regrown (d := d) (os := os) o5'.2.1
          have e80 := fun d os => cell_regrown (d := d) (os := os) o8.1
          have e81 := fun d os => cell_regrown (d := d) (os := os) o8.2.1
          have e90 := fun d os => cell_regrown (d := d) (os := os) o9.1
          have e91 := fun d os => cell_regrown (d := d) (os := os) o9.2.1
          have ea0 := fun d os => cell_regrown (d := d) (os := os) o10.1
          have ea1 := fun d os => cell_regrown (d := d) (os := os) o10.2.1
          have eb0 := fun d os => cell_regrown (d := d) (os := os) o11.1
          have eb1 := fun d os => cell_regrown (d := d) (os := os) o11.2.1
          have K1 := Lib.hid (show ∀ d os, Calls Tryd.prog 11 #[.agg #[.int .u8 0, .int .i64 a], .int .i64 r] (grow (redrawn U d) os) fun e w'' => e = .returned (.int .i64 s1) ∧ ∃ p : Regrown, w'' = grow (redrawn U p.d) p.os from
            fun d os => Calls.regrown_of (spot_is _ _ _ _ _ (by omega) h1 h2 h3 h4 hs1))
          have K2 := Lib.hid (show ∀ d os, Calls Tryd.prog 11 #[.agg #[.int .u8 1, .int .i64 na], .int .i64 r] (grow (redrawn U d) os) fun e w'' => e = .returned (.int .i64 s2) ∧ ∃ p : Regrown, w'' = grow (redrawn U p.d) p.os from
            fun d os => Calls.regrown_of (spot_is _ _ _ _ _ (by omega) g1 g2 h3 h4 hs2))
          have K3 := Lib.hid (show ∀ d os, Calls Tryd.prog 12 #[] (grow (redrawn U d) os) fun e w'' => e = .returned (.bool true) ∧ ∃ p : Regrown, w'' = grow (redrawn U p.d) p.os from
            fun d os => Calls.regrown_of (lives _))
          clear hs1 hs2
          refine wp_region_quiet_below (by kernel_rfl) (by kernel_rfl) ?_
          iterate 20 (quiet_step (exact K1.out _ _))
          iterate 3 (quiet_step (exact K2.out _ _))
          repeat (quiet_step (exact K3.out _ _))
          refine wpQuiet_nil ?_
          intro _ hw'
          obtain ⟨⟨dq, osq⟩, hw''⟩ := hw'
          subst hw''
          go_wp2
          go_ret
          exact ⟨rfl, CU.trans ((below_regrown U dq osq).mono CU.size)⟩
        · have hne : (a == na + r) = false := by have := HO.out; simp; omega
          have HNO := Lib.hid hno
          clear hno
          go_wp2
          go_roundg (gk - 1)
          case measure => have := HG.out; omega
          case rel => exact ⟨k + 1, by have := HNB.out; have := HNA.out; have := HNO.out; have := HJ.out; omega, by have := HG.out; omega, by go_num, o2', o5', CV⟩


set_option maxRecDepth 100000 in
set_option maxHeartbeats 4000000 in
theorem opplaw_found1 (a r o : Int) (J : Nat) (hJ : (J : Int) % 80 / 40 = 0 ∧ 1 + (J : Int) % 40 = o) (hJ80 : J < 80) (h1 : 1 ≤ a) (h2 : a ≤ 40) (h3 : -4 ≤ r) (h4 : r ≤ 4) (ho : a + r = o) (g1 : 1 ≤ o) (g2 : o ≤ 40) (w : World) :
    Calls Tryd.prog 5 #[.agg #[.int .u8 1, .int .i64 a], .int .i64 r] w fun e w' => e = .returned (.bool true) ∧ Below w.heap.size w w' := by
  have HJ := Lib.hid hJ
  have HO := Lib.hid ho
  have HB := Lib.hid (show o - r = a by omega)
  clear hJ ho
  have hd1 : decide (r < -4) = false := by simp; omega
  have hd2 : decide (4 < r) = false := by simp; omega
  go_enter Tryd.func5, Tryd.ntmps5
  go_wp2_with (go_at_call 16; refine (opp_back_is a r o _ h1 h2 h3 h4 HO.out g1 g2).mono ?_; rintro e w1 ⟨rfl, hb⟩; refine Hid.out ?_)
  have z1 := hb.size
  simp at z1
  have B1 : Below w.heap.size w w1 := ((Below.refl _ _).alloc (Nat.le_refl _) _).trans (hb.mono (by simp <;> omega))
  have o2 : Own w1 w.heap.size 1 a := Own.below hb (Own.new 1 a rfl)
  clear hb
  obtain ⟨-, -, -, -, c20, c21⟩ := o2.facts
  refine Lib.hid ?_
  go_wp2_with (go_at_call 9; refine (lvalid_ok _ _ _ (by omega) h1 h2).mono ?_; rintro e w2 ⟨rfl, hb⟩; refine Hid.out ?_)
  have z2 := hb.size
  simp at z2
  have B2 : Below w.heap.size w w2 := (B1.alloc (by omega) _).trans (hb.mono (by simp <;> omega))
  replace o2 := Own.below hb (o2.alloc _)
  have o5 : Own w2 w1.heap.size 0 o := Own.below hb (Own.new 0 o rfl)
  clear hb c20 c21
  refine Lib.hid ?_
  go_wp2_with fail
  go_loopg [7] 81 (fun g i wr => ∃ k : Nat, k ≤ J ∧ g = 81 - k ∧ i = .int .i64 k ∧ Own wr w.heap.size 1 a ∧ Own wr w1.heap.size 0 o ∧ Below w.heap.size w wr)
  case atStart => exact ⟨0, by omega, rfl, rfl, o2, o5, B2⟩
  case round =>
    obtain ⟨k, hk, hg, rfl, o2', o5', hB⟩ := hrel
    clear o2 o5
    have HG := Lib.hid hg
    clear hg
    have zr : w1.heap.size < wr.heap.size := o5'.2.2.2.2
    obtain ⟨nb, hnb⟩ : ∃ nb : Int, (k : Int) % 80 / 40 = nb := ⟨_, rfl⟩
    obtain ⟨na, hna⟩ : ∃ na : Int, 1 + (k : Int) % 40 = na := ⟨_, rfl⟩
    obtain ⟨p1, p2, p3⟩ := needle_parts k
    have hp : nb = 0 ∨ nb = 1 := by rw [← hnb]; exact p1
    rw [hna] at p2 p3
    have HNB := Lib.hid hnb
    have HNA := Lib.hid hna
    have HP := Lib.hid hp
    clear hnb hna hp p1
    go_wp2_with (go_at_call 15; refine (lneedle_is k nb na _ (by omega) (by omega) HNB.out HNA.out).mono ?_; rintro e v1 ⟨rfl, hb⟩; refine Hid.out ?_)
    have y1 := hb.size
    replace o2' := Own.below hb o2'
    replace o5' := Own.below hb o5'
    have C1 : Below w.heap.size w v1 := hB.trans (hb.mono (by omega))
    clear hb
    obtain ⟨-, -, -, -, q20, q21⟩ := o2'.facts
    refine Lib.hid ?_
    rcases HP.out with rfl | rfl
    · go_wp2_with fail
      obtain ⟨W, hW⟩ : ∃ W : World, W = v1.alloc (Obj.cells #[Value.int IntKind.u8 0, Value.int IntKind.i64 na] 24) := ⟨_, rfl⟩
      rw [← hW]
      have zW : v1.heap.size + 1 ≤ W.heap.size := by rw [hW]; simp
      have o8 : Own W v1.heap.size 0 na := by rw [hW]; exact Own.new _ _ rfl
      replace o2' : Own W w.heap.size 1 a := by rw [hW]; exact o2'.alloc _
      replace o5' : Own W w1.heap.size 0 o := by rw [hW]; exact o5'.alloc _
      have CW : Below w.heap.size w W := by rw [hW]; exact C1.alloc (by omega) _
      clear hW q20 q21 C1
      obtain ⟨c20, c21, -, -, q20, q21⟩ := o2'.facts
      obtain ⟨c80, c81, -, -, q80, q81⟩ := o8.facts
      have r20 := fun o o' => ((o2'.alloc o).alloc o').1
      have r21 := fun o o' => ((o2'.alloc o).alloc o').2.1
      have r80 := fun o o' => ((o8.alloc o).alloc o').1
      have r81 := fun o o' => ((o8.alloc o).alloc o').2.1
      go_region
      · obtain ⟨V, hV⟩ : ∃ V : World, V = ((W.alloc (Obj.cells #[Value.int IntKind.u8 1, Value.int IntKind.i64 a] 24)).alloc (Obj.cells #[Value.int IntKind.u8 0, Value.int IntKind.i64 na] 24)).drew := ⟨_, rfl⟩
        rw [← hV]
        have o9 : Own V (W.heap.size) 1 a := by rw [hV]; exact Own.drew (Own.alloc (Own.new _ _ rfl) _)
        have o10 : Own V (W.heap.size + 1) 0 na := by rw [hV]; exact Own.drew (Own.new _ _ (by simp))
        replace o2' : Own V w.heap.size 1 a := by rw [hV]; exact Own.drew ((o2'.alloc _).alloc _)
        replace o5' : Own V w1.heap.size 0 o := by rw [hV]; exact Own.drew ((o5'.alloc _).alloc _)
        replace o8 : Own V v1.heap.size 0 na := by rw [hV]; exact Own.drew ((o8.alloc _).alloc _)
        have CV : Below w.heap.size w V := by rw [hV]; exact ((CW.alloc (by omega) _).alloc (by simp; omega) _).drew
        clear hV CW c20 c21 q20 q21 c80 c81 q80 q81 r20 r21 r80 r81
        obtain ⟨k9, hk9⟩ : ∃ k : Nat, k = W.heap.size := ⟨_, rfl⟩
        obtain ⟨k10, hk10⟩ : ∃ k : Nat, k = W.heap.size + 1 := ⟨_, rfl⟩
        have hkk : k9 ≠ k10 ∧ W.heap.size ≤ k9 ∧ W.heap.size ≤ k10 := by omega
        rw [← hk10, ← hk9]
        rw [← hk9] at o9
        rw [← hk10] at o10
        clear hk9 hk10
        obtain ⟨d20, d21, -, -, -, -⟩ := o2'.facts
        obtain ⟨d80, d81, -, -, -, -⟩ := o8.facts
        obtain ⟨d90, d91, f90, f91, -, -⟩ := o9.facts
        obtain ⟨da0, da1, fa0, fa1, -, -⟩ := o10.facts
        go_wp2_with fail
        go_region
        obtain ⟨U, hU⟩ : ∃ U : World, U = (((((V.setCell ⟨k9, 0, none⟩ (.int .u8 0)).setCell ⟨k9, 1, none⟩ (.int .i64 na)).setCell ⟨k10, 0, none⟩ (.int .u8 1)).setCell ⟨k10, 1, none⟩ (.int .i64 a)).drew) := ⟨_, rfl⟩
        rw [← hU]
        replace o9 : Own U k9 0 na := by rw [hU]; exact Own.drew ((o9.store 0 na).set hkk.1.symm _ _)
        replace o10 : Own U k10 1 a := by rw [hU]; exact Own.drew ((o10.set hkk.1 _ _).store 1 a)
        replace o2' : Own U w.heap.size 1 a := by rw [hU]; exact Own.drew ((o2'.set (by omega) _ _).set (by omega) _ _)
        replace o5' : Own U w1.heap.size 0 o := by rw [hU]; exact Own.drew ((o5'.set (by omega) _ _).set (by omega) _ _)
        replace o8 : Own U v1.heap.size 0 na := by rw [hU]; exact Own.drew ((o8.set (by omega) _ _).set (by omega) _ _)
        replace CV : Below w.heap.size w U := by rw [hU]; exact ((((CV.setCell (by simp; omega) _).setCell (by simp; omega) _).setCell (by simp; omega) _).setCell (by simp; omega) _).drew
        clear hU d20 d21 d80 d81 d90 d91 f90 f91 da0 da1 fa0 fa1
        obtain ⟨d90, d91, -, -, -, -⟩ := o9.facts
        obtain ⟨da0, da1, -, -, -, -⟩ := o10.facts
        obtain ⟨d50, d51, -, -, -, -⟩ := o5'.facts
        by_cases hno : na = o
        · subst hno
          have hT := HB.out
          go_wp2_with (go_at_call 16; refine (opp_front_is na r a _ g1 g2 h3 h4 HB.out h1 h2).mono ?_; rintro e v2 ⟨rfl, hb⟩; refine Hid.out ?_)
          have zc := hb.size
          replace o2' := Own.below hb o2'
          replace o5' := Own.below hb o5'
          replace o8 := Own.below hb o8
          replace o9 := Own.below hb o9
          replace o10 := Own.below hb o10
          have C2 : Below w.heap.size w v2 := CV.trans (hb.mono CV.size)
          clear hb hT d50 d51 d90 d91 da0 da1 
          refine Lib.hid ?_
          go_wp2_with fail
          obtain ⟨U, hU⟩ : ∃ U : World, U = v2.alloc (Obj.cells #[Value.int IntKind.u8 1, Value.int IntKind.i64 a] 24) := ⟨_, rfl⟩
          rw [← hU]
          have o11 : Own U v2.heap.size 1 a := by rw [hU]; exact Own.new _ _ rfl
          replace o2' : Own U w.heap.size 1 a := by rw [hU]; exact o2'.alloc _
          replace o5' : Own U w1.heap.size 0 na := by rw [hU]; exact o5'.alloc _
          replace o8 : Own U v1.heap.size 0 na := by rw [hU]; exact o8.alloc _
          replace o9 : Own U k9 0 na := by rw [hU]; exact o9.alloc _
          replace o10 : Own U k10 1 a := by rw [hU]; exact o10.alloc _
          have CU : Below w.heap.size w U := by rw [hU]; exact C2.alloc (by have := C2.size; omega) _
          clear hU C2
          obtain ⟨s1, hs1⟩ : ∃ s : Int, spt 0 na r = s := ⟨_, rfl⟩
          obtain ⟨s2, hs2⟩ : ∃ s : Int, spt 1 a r = s := ⟨_, rfl⟩
          have hsw : IntKind.i64.wrap (s2 + 2) = s1 := by rw [IntWalk.i64_in _ (by have := HB.out; rw [← hs2]; simp [spt]; omega)]; have := HB.out; rw [← hs1, ← hs2]; simp [spt]; omega
          have e20 := fun d os => cell_regrown (d := d) (os := os) o2'.1
          have e21 := fun d os => cell_regrown (d := d) (os := os) o2'.2.1
          have e50 := fun d os => cell_regrown (d := d) (os := os) o5'.1
          have e51 := fun d os => cell_regrown (d := d) (os := os) o5'.2.1
          have e80 := fun d os => cell_regrown (d := d) (os := os) o8.1
          have e81 := fun d os => cell_regrown (d := d) (os := os) o8.2.1
          have e90 := fun d os => cell_regrown (d := d) (os := os) o9.1
          have e91 := fun d os => cell_regrown (d := d) (os := os) o9.2.1
          have ea0 := fun d os => cell_regrown (d := d) (os := os) o10.1
          have ea1 := fun d os => cell_regrown (d := d) (os := os) o10.2.1
          have eb0 := fun d os => cell_regrown (d := d) (os := os) o11.1
          have eb1 := fun d os => cell_regrown (d := d) (os := os) o11.2.1
          have K1 := Lib.hid (show ∀ d os, Calls Tryd.prog 11 #[.agg #[.int .u8 0, .int .i64 na], .int .i64 r] (grow (redrawn U d) os) fun e w'' => e = .returned (.int .i64 s1) ∧ ∃ p : Regrown, w'' = grow (redrawn U p.d) p.os from
            fun d os => Calls.regrown_of (spot_is _ _ _ _ _ (by omega) g1 g2 h3 h4 hs1))
          have K2 := Lib.hid (show ∀ d os, Calls Tryd.prog 11 #[.agg #[.int .u8 1, .int .i64 a], .int .i64 r] (grow (redrawn U d) os) fun e w'' => e = .returned (.int .i64 s2) ∧ ∃ p : Regrown, w'' = grow (redrawn U p.d) p.os from
            fun d os => Calls.regrown_of (spot_is _ _ _ _ _ (by omega) h1 h2 h3 h4 hs2))
          have K3 := Lib.hid (show ∀ d os, Calls Tryd.prog 12 #[] (grow (redrawn U d) os) fun e w'' => e = .returned (.bool true) ∧ ∃ p : Regrown, w'' = grow (redrawn U p.d) p.os from
            fun d os => Calls.regrown_of (lives _))
          clear hs1 hs2
          refine wp_region_quiet_below (by kernel_rfl) (by kernel_rfl) ?_
          iterate 20 (quiet_step (exact K1.out _ _))
          iterate 3 (quiet_step (exact K2.out _ _))
          repeat (quiet_step (exact K3.out _ _))
          refine wpQuiet_nil ?_
          intro _ hw'
          obtain ⟨⟨dq, osq⟩, hw''⟩ := hw'
          subst hw''
          go_wp2
          go_ret
          exact ⟨rfl, CU.trans ((below_regrown U dq osq).mono CU.size)⟩
        · have hne : (na == a + r) = false := by have := HO.out; simp; omega
          have HNO := Lib.hid hno
          clear hno
          go_wp2
          go_roundg (gk - 1)
          case measure => have := HG.out; omega
          case rel => exact ⟨k + 1, by have := HNB.out; have := HNA.out; have := HNO.out; have := HJ.out; omega, by have := HG.out; omega, by go_num, o2', o5', CV⟩
      · obtain ⟨V, hV⟩ : ∃ V : World, V = ((W.alloc (Obj.cells #[Value.int IntKind.u8 0, Value.int IntKind.i64 na] 24)).alloc (Obj.cells #[Value.int IntKind.u8 1, Value.int IntKind.i64 a] 24)).drew := ⟨_, rfl⟩
        rw [← hV]
        have o9 : Own V (W.heap.size + 1) 1 a := by rw [hV]; exact Own.drew (Own.new _ _ (by simp))
        have o10 : Own V (W.heap.size) 0 na := by rw [hV]; exact Own.drew (Own.alloc (Own.new _ _ rfl) _)
        replace o2' : Own V w.heap.size 1 a := by rw [hV]; exact Own.drew ((o2'.alloc _).alloc _)
        replace o5' : Own V w1.heap.size 0 o := by rw [hV]; exact Own.drew ((o5'.alloc _).alloc _)
        replace o8 : Own V v1.heap.size 0 na := by rw [hV]; exact Own.drew ((o8.alloc _).alloc _)
        have CV : Below w.heap.size w V := by rw [hV]; exact ((CW.alloc (by omega) _).alloc (by simp; omega) _).drew
        clear hV CW c20 c21 q20 q21 c80 c81 q80 q81 r20 r21 r80 r81
        obtain ⟨k9, hk9⟩ : ∃ k : Nat, k = W.heap.size + 1 := ⟨_, rfl⟩
        obtain ⟨k10, hk10⟩ : ∃ k : Nat, k = W.heap.size := ⟨_, rfl⟩
        have hkk : k9 ≠ k10 ∧ W.heap.size ≤ k9 ∧ W.heap.size ≤ k10 := by omega
        rw [← hk9, ← hk10]
        rw [← hk9] at o9
        rw [← hk10] at o10
        clear hk9 hk10
        obtain ⟨d20, d21, -, -, -, -⟩ := o2'.facts
        obtain ⟨d80, d81, -, -, -, -⟩ := o8.facts
        obtain ⟨d90, d91, f90, f91, -, -⟩ := o9.facts
        obtain ⟨da0, da1, fa0, fa1, -, -⟩ := o10.facts
        go_wp2_with fail
        go_region
        obtain ⟨U, hU⟩ : ∃ U : World, U = (((((V.setCell ⟨k9, 0, none⟩ (.int .u8 0)).setCell ⟨k9, 1, none⟩ (.int .i64 na)).setCell ⟨k10, 0, none⟩ (.int .u8 1)).setCell ⟨k10, 1, none⟩ (.int .i64 a)).drew) := ⟨_, rfl⟩
        rw [← hU]
        replace o9 : Own U k9 0 na := by rw [hU]; exact Own.drew ((o9.store 0 na).set hkk.1.symm _ _)
        replace o10 : Own U k10 1 a := by rw [hU]; exact Own.drew ((o10.set hkk.1 _ _).store 1 a)
        replace o2' : Own U w.heap.size 1 a := by rw [hU]; exact Own.drew ((o2'.set (by omega) _ _).set (by omega) _ _)
        replace o5' : Own U w1.heap.size 0 o := by rw [hU]; exact Own.drew ((o5'.set (by omega) _ _).set (by omega) _ _)
        replace o8 : Own U v1.heap.size 0 na := by rw [hU]; exact Own.drew ((o8.set (by omega) _ _).set (by omega) _ _)
        replace CV : Below w.heap.size w U := by rw [hU]; exact ((((CV.setCell (by simp; omega) _).setCell (by simp; omega) _).setCell (by simp; omega) _).setCell (by simp; omega) _).drew
        clear hU d20 d21 d80 d81 d90 d91 f90 f91 da0 da1 fa0 fa1
        obtain ⟨d90, d91, -, -, -, -⟩ := o9.facts
        obtain ⟨da0, da1, -, -, -, -⟩ := o10.facts
        obtain ⟨d50, d51, -, -, -, -⟩ := o5'.facts
        by_cases hno : na = o
        · subst hno
          have hT := HB.out
          go_wp2_with (go_at_call 16; refine (opp_front_is na r a _ g1 g2 h3 h4 HB.out h1 h2).mono ?_; rintro e v2 ⟨rfl, hb⟩; refine Hid.out ?_)
          have zc := hb.size
          replace o2' := Own.below hb o2'
          replace o5' := Own.below hb o5'
          replace o8 := Own.below hb o8
          replace o9 := Own.below hb o9
          replace o10 := Own.below hb o10
          have C2 : Below w.heap.size w v2 := CV.trans (hb.mono CV.size)
          clear hb hT d50 d51 d90 d91 da0 da1 
          refine Lib.hid ?_
          go_wp2_with fail
          obtain ⟨U, hU⟩ : ∃ U : World, U = v2.alloc (Obj.cells #[Value.int IntKind.u8 1, Value.int IntKind.i64 a] 24) := ⟨_, rfl⟩
          rw [← hU]
          have o11 : Own U v2.heap.size 1 a := by rw [hU]; exact Own.new _ _ rfl
          replace o2' : Own U w.heap.size 1 a := by rw [hU]; exact o2'.alloc _
          replace o5' : Own U w1.heap.size 0 na := by rw [hU]; exact o5'.alloc _
          replace o8 : Own U v1.heap.size 0 na := by rw [hU]; exact o8.alloc _
          replace o9 : Own U k9 0 na := by rw [hU]; exact o9.alloc _
          replace o10 : Own U k10 1 a := by rw [hU]; exact o10.alloc _
          have CU : Below w.heap.size w U := by rw [hU]; exact C2.alloc (by have := C2.size; omega) _
          clear hU C2
          obtain ⟨s1, hs1⟩ : ∃ s : Int, spt 0 na r = s := ⟨_, rfl⟩
          obtain ⟨s2, hs2⟩ : ∃ s : Int, spt 1 a r = s := ⟨_, rfl⟩
          have hsw : IntKind.i64.wrap (s2 + 2) = s1 := by rw [IntWalk.i64_in _ (by have := HB.out; rw [← hs2]; simp [spt]; omega)]; have := HB.out; rw [← hs1, ← hs2]; simp [spt]; omega
          have e20 := fun d os => cell_regrown (d := d) (os := os) o2'.1
          have e21 := fun d os => cell_regrown (d := d) (os := os) o2'.2.1
          have e50 := fun d os => cell_regrown (d := d) (os := os) o5'.1
          have e51 := fun d os => cell_regrown (d := d) (os := os) o5'.2.1
          have e80 := fun d os => cell_regrown (d := d) (os := os) o8.1
          have e81 := fun d os => cell_regrown (d := d) (os := os) o8.2.1
          have e90 := fun d os => cell_regrown (d := d) (os := os) o9.1
          have e91 := fun d os => cell_regrown (d := d) (os := os) o9.2.1
          have ea0 := fun d os => cell_regrown (d := d) (os := os) o10.1
          have ea1 := fun d os => cell_regrown (d := d) (os := os) o10.2.1
          have eb0 := fun d os => cell_regrown (d := d) (os := os) o11.1
          have eb1 := fun d os => cell_regrown (d := d) (os := os) o11.2.1
          have K1 := Lib.hid (show ∀ d os, Calls Tryd.prog 11 #[.agg #[.int .u8 0, .int .i64 na], .int .i64 r] (grow (redrawn U d) os) fun e w'' => e = .returned (.int .i64 s1) ∧ ∃ p : Regrown, w'' = grow (redrawn U p.d) p.os from
            fun d os => Calls.regrown_of (spot_is _ _ _ _ _ (by omega) g1 g2 h3 h4 hs1))
          have K2 := Lib.hid (show ∀ d os, Calls Tryd.prog 11 #[.agg #[.int .u8 1, .int .i64 a], .int .i64 r] (grow (redrawn U d) os) fun e w'' => e = .returned (.int .i64 s2) ∧ ∃ p : Regrown, w'' = grow (redrawn U p.d) p.os from
            fun d os => Calls.regrown_of (spot_is _ _ _ _ _ (by omega) h1 h2 h3 h4 hs2))
          have K3 := Lib.hid (show ∀ d os, Calls Tryd.prog 12 #[] (grow (redrawn U d) os) fun e w'' => e = .returned (.bool true) ∧ ∃ p : Regrown, w'' = grow (redrawn U p.d) p.os from
            fun d os => Calls.regrown_of (lives _))
          clear hs1 hs2
          refine wp_region_quiet_below (by kernel_rfl) (by kernel_rfl) ?_
          iterate 20 (quiet_step (exact K1.out _ _))
          iterate 3 (quiet_step (exact K2.out _ _))
          repeat (quiet_step (exact K3.out _ _))
          refine wpQuiet_nil ?_
          intro _ hw'
          obtain ⟨⟨dq, osq⟩, hw''⟩ := hw'
          subst hw''
          go_wp2
          go_ret
          exact ⟨rfl, CU.trans ((below_regrown U dq osq).mono CU.size)⟩
        · have hne : (na == a + r) = false := by have := HO.out; simp; omega
          have HNO := Lib.hid hno
          clear hno
          go_wp2
          go_roundg (gk - 1)
          case measure => have := HG.out; omega
          case rel => exact ⟨k + 1, by have := HNB.out; have := HNA.out; have := HNO.out; have := HJ.out; omega, by have := HG.out; omega, by go_num, o2', o5', CV⟩

    · go_wp2_with fail
      go_roundg (gk - 1)
      case measure => have := HG.out; omega
      case rel => exact ⟨k + 1, by have := HNB.out; have := HJ.out; omega, by have := HG.out; omega, by go_num, o2'.alloc _, o5'.alloc _, C1.alloc (by omega) _⟩

end Go.Proofs.YthdmpoiecmbinaaDoor
