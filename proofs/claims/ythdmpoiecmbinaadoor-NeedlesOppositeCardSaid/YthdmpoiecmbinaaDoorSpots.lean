import Derived.Test.YthdmpoiecmbinaaDoorLives
namespace Go.Proofs.YthdmpoiecmbinaaDoor
open Go.RowKit

theorem lspot_is (b a r s : Int) (w : World) (h0 : b = 0 ∨ b = 1) (h1 : 1 ≤ a) (h2 : a ≤ 40) (h3 : -4 ≤ r) (h4 : r ≤ 4) (h : spt b a r = s) :
    Calls Tryd.prog 14 #[.agg #[.int .u8 b, .int .i64 a], .int .i64 r] w fun e w' => e = .returned (.int .i64 s) ∧ Below w.heap.size w w' := by
  subst h
  exact lspot_ok b a r w h0 h1 h2 h3 h4

set_option maxRecDepth 100000 in
set_option maxHeartbeats 1000000 in
theorem spots_invalid (b a r : Int) (h : ¬ (b ≤ 1 ∧ 1 ≤ a ∧ a ≤ 40)) (w : World) :
    Calls Tryd.prog 3 #[.agg #[.int .u8 b, .int .i64 a], .int .i64 r] w fun e w' => e = .returned (.bool true) ∧ Below w.heap.size w w' := by
  have HV := Lib.hid h
  clear h
  go_enter Tryd.func3, Tryd.ntmps3
  go_wp2_with (go_at_call 9; refine (lvalid_bad _ _ _ HV.out).mono ?_; rintro e w1 ⟨rfl, hb⟩; refine Hid.out ?_)
  have z1 := hb.size
  simp at z1
  have B1 : Below w.heap.size w w1 := ((Below.refl _ _).alloc (Nat.le_refl _) _).trans (hb.mono (by simp <;> omega))
  have o0 : Own w1 w.heap.size b a := Own.below hb (Own.new b a rfl)
  clear hb
  obtain ⟨c00, c01, -, -, -, -⟩ := o0.facts
  refine Lib.hid ?_
  go_wp2_with (go_at_call 10; refine (check_bad _ _ _ HV.out).mono ?_; rintro e w2 ⟨rfl, hb⟩; refine Hid.out ?_)
  have z2 := hb.size
  have B2 : Below w.heap.size w w2 := (B1).trans (hb.mono (by omega))
  replace o0 := Own.below hb (o0)
  clear hb c00 c01
  obtain ⟨c00, c01, -, -, -, -⟩ := o0.facts
  refine Lib.hid ?_
  go_wp2_with (go_at_call 11; refine (spot_bad _ _ _ _ (fun h => HV.out h.1)).mono ?_; rintro e w3 ⟨rfl, hb⟩; refine Hid.out ?_)
  have z3 := hb.size
  have B3 : Below w.heap.size w w3 := (B2).trans (hb.mono (by omega))
  replace o0 := Own.below hb (o0)
  clear hb c00 c01
  refine Lib.hid ?_
  go_wp2_with (go_at_call 12; refine (lives _).mono ?_; rintro e w4 ⟨rfl, hb⟩; refine Hid.out ?_)
  have z4 := hb.size
  have B4 : Below w.heap.size w w4 := (B3).trans (hb.mono (by omega))
  clear hb
  refine Lib.hid ?_
  go_wp2
  go_ret
  exact ⟨rfl, B4⟩

set_option maxRecDepth 100000 in
set_option maxHeartbeats 1000000 in
theorem spots_low (b a r : Int) (hb1 : b ≤ 1) (h1 : 1 ≤ a) (h2 : a ≤ 40) (hr : r < -4) (w : World) :
    Calls Tryd.prog 3 #[.agg #[.int .u8 b, .int .i64 a], .int .i64 r] w fun e w' => e = .returned (.bool true) ∧ Below w.heap.size w w' := by
  have HV := Lib.hid (show ¬ (-4 ≤ r ∧ r ≤ 4) by omega)
  go_enter Tryd.func3, Tryd.ntmps3
  go_wp2_with (go_at_call 9; refine (lvalid_ok _ _ _ hb1 h1 h2).mono ?_; rintro e w1 ⟨rfl, hb⟩; refine Hid.out ?_)
  have z1 := hb.size
  simp at z1
  have B1 : Below w.heap.size w w1 := ((Below.refl _ _).alloc (Nat.le_refl _) _).trans (hb.mono (by simp <;> omega))
  have o0 : Own w1 w.heap.size b a := Own.below hb (Own.new b a rfl)
  clear hb
  obtain ⟨c00, c01, -, -, -, -⟩ := o0.facts
  refine Lib.hid ?_
  go_wp2_with (go_at_call 10; refine (check_ok _ _ _ hb1 h1 h2).mono ?_; rintro e w2 ⟨rfl, hb⟩; refine Hid.out ?_)
  have z2 := hb.size
  have B2 : Below w.heap.size w w2 := (B1).trans (hb.mono (by omega))
  replace o0 := Own.below hb (o0)
  clear hb c00 c01
  obtain ⟨c00, c01, -, -, -, -⟩ := o0.facts
  refine Lib.hid ?_
  go_wp2_with (go_at_call 11; refine (spot_bad _ _ _ _ (fun h => HV.out h.2)).mono ?_; rintro e w3 ⟨rfl, hb⟩; refine Hid.out ?_)
  have z3 := hb.size
  have B3 : Below w.heap.size w w3 := (B2).trans (hb.mono (by omega))
  replace o0 := Own.below hb (o0)
  clear hb c00 c01
  refine Lib.hid ?_
  go_wp2_with (go_at_call 12; refine (lives _).mono ?_; rintro e w4 ⟨rfl, hb⟩; refine Hid.out ?_)
  have z4 := hb.size
  have B4 : Below w.heap.size w w4 := (B3).trans (hb.mono (by omega))
  clear hb
  refine Lib.hid ?_
  go_wp2
  go_ret
  exact ⟨rfl, B4⟩

set_option maxRecDepth 100000 in
set_option maxHeartbeats 1000000 in
theorem spots_high (b a r : Int) (hb1 : b ≤ 1) (h1 : 1 ≤ a) (h2 : a ≤ 40) (hl : -4 ≤ r) (hr : 4 < r) (w : World) :
    Calls Tryd.prog 3 #[.agg #[.int .u8 b, .int .i64 a], .int .i64 r] w fun e w' => e = .returned (.bool true) ∧ Below w.heap.size w w' := by
  have HV := Lib.hid (show ¬ (-4 ≤ r ∧ r ≤ 4) by omega)
  go_enter Tryd.func3, Tryd.ntmps3
  go_wp2_with (go_at_call 9; refine (lvalid_ok _ _ _ hb1 h1 h2).mono ?_; rintro e w1 ⟨rfl, hb⟩; refine Hid.out ?_)
  have z1 := hb.size
  simp at z1
  have B1 : Below w.heap.size w w1 := ((Below.refl _ _).alloc (Nat.le_refl _) _).trans (hb.mono (by simp <;> omega))
  have o0 : Own w1 w.heap.size b a := Own.below hb (Own.new b a rfl)
  clear hb
  obtain ⟨c00, c01, -, -, -, -⟩ := o0.facts
  refine Lib.hid ?_
  go_wp2_with (go_at_call 10; refine (check_ok _ _ _ hb1 h1 h2).mono ?_; rintro e w2 ⟨rfl, hb⟩; refine Hid.out ?_)
  have z2 := hb.size
  have B2 : Below w.heap.size w w2 := (B1).trans (hb.mono (by omega))
  replace o0 := Own.below hb (o0)
  clear hb c00 c01
  obtain ⟨c00, c01, -, -, -, -⟩ := o0.facts
  refine Lib.hid ?_
  go_wp2_with (go_at_call 11; refine (spot_bad _ _ _ _ (fun h => HV.out h.2)).mono ?_; rintro e w3 ⟨rfl, hb⟩; refine Hid.out ?_)
  have z3 := hb.size
  have B3 : Below w.heap.size w w3 := (B2).trans (hb.mono (by omega))
  replace o0 := Own.below hb (o0)
  clear hb c00 c01
  refine Lib.hid ?_
  go_wp2_with (go_at_call 12; refine (lives _).mono ?_; rintro e w4 ⟨rfl, hb⟩; refine Hid.out ?_)
  have z4 := hb.size
  have B4 : Below w.heap.size w w4 := (B3).trans (hb.mono (by omega))
  clear hb
  refine Lib.hid ?_
  go_wp2
  go_ret
  exact ⟨rfl, B4⟩

set_option maxRecDepth 100000 in
set_option maxHeartbeats 1000000 in
theorem spots_good (b a r s : Int) (hb0 : b = 0 ∨ b = 1) (h1 : 1 ≤ a) (h2 : a ≤ 40) (h3 : -4 ≤ r) (h4 : r ≤ 4) (hs : spt b a r = s) (w : World) :
    Calls Tryd.prog 3 #[.agg #[.int .u8 b, .int .i64 a], .int .i64 r] w fun e w' => e = .returned (.bool true) ∧ Below w.heap.size w w' := by
  have HB := Lib.hid hb0
  have hb1 : b ≤ 1 := by omega
  have hm : s.tmod 2 = 0 := Int.tmod_eq_zero_of_dvd (by rw [← hs]; unfold spt; split <;> omega)
  have hg : -13 < s := by rw [← hs]; unfold spt; split <;> omega
  have hl : s < 179 := by rw [← hs]; unfold spt; split <;> omega
  have HS := Lib.hid hs
  clear hb0 hs
  go_enter Tryd.func3, Tryd.ntmps3
  go_wp2_with (go_at_call 9; refine (lvalid_ok _ _ _ hb1 h1 h2).mono ?_; rintro e w1 ⟨rfl, hb⟩; refine Hid.out ?_)
  have z1 := hb.size
  simp at z1
  have B1 : Below w.heap.size w w1 := ((Below.refl _ _).alloc (Nat.le_refl _) _).trans (hb.mono (by simp <;> omega))
  have o0 : Own w1 w.heap.size b a := Own.below hb (Own.new b a rfl)
  clear hb
  obtain ⟨c00, c01, -, -, -, -⟩ := o0.facts
  refine Lib.hid ?_
  go_wp2_with (go_at_call 10; refine (check_ok _ _ _ hb1 h1 h2).mono ?_; rintro e w2 ⟨rfl, hb⟩; refine Hid.out ?_)
  have z2 := hb.size
  have B2 : Below w.heap.size w w2 := (B1).trans (hb.mono (by omega))
  replace o0 := Own.below hb (o0)
  clear hb c00 c01
  obtain ⟨c00, c01, -, -, -, -⟩ := o0.facts
  refine Lib.hid ?_
  go_wp2_with (go_at_call 11; refine (spot_is b a r s _ HB.out h1 h2 h3 h4 HS.out).mono ?_; rintro e w3 ⟨rfl, hb⟩; refine Hid.out ?_)
  have z3 := hb.size
  have B3 : Below w.heap.size w w3 := (B2).trans (hb.mono (by omega))
  replace o0 := Own.below hb (o0)
  clear hb c00 c01
  refine Lib.hid ?_
  go_wp2_with (go_at_call 13; refine (at_found s b a r _ HB.out h1 h2 h3 h4 HS.out).mono ?_; rintro e w4 ⟨rfl, hb⟩; refine Hid.out ?_)
  have z4 := hb.size
  have B4 : Below w.heap.size w w4 := (B3).trans (hb.mono (by omega))
  replace o0 := Own.below hb (o0)
  clear hb
  obtain ⟨-, -, -, -, c00, c01⟩ := o0.facts
  refine Lib.hid ?_
  go_wp2_with (go_at_call 14; refine (lspot_is b a r s _ HB.out h1 h2 h3 h4 HS.out).mono ?_; rintro e w5 ⟨rfl, hb⟩; refine Hid.out ?_)
  have z5 := hb.size
  simp at z5
  have B5 : Below w.heap.size w w5 := (B4.alloc (by omega) _).trans (hb.mono (by simp <;> omega))
  replace o0 := Own.below hb (o0.alloc _)
  have o7 : Own w5 w4.heap.size b a := Own.below hb (Own.new b a rfl)
  clear hb c00 c01
  obtain ⟨c00, c01, -, -, -, -⟩ := o0.facts
  obtain ⟨c70, c71, -, -, -, -⟩ := o7.facts
  refine Lib.hid ?_
  go_wp2_with (go_at_call 12; refine (lives _).mono ?_; rintro e w6 ⟨rfl, hb⟩; refine Hid.out ?_)
  have z6 := hb.size
  have B6 : Below w.heap.size w w6 := (B5).trans (hb.mono (by omega))
  clear hb c00 c01 c70 c71
  refine Lib.hid ?_
  go_wp2
  go_ret
  exact ⟨rfl, B6⟩

theorem spots_all (b a r : Int) (hb : 0 ≤ b) (w : World) :
    Calls Tryd.prog 3 #[.agg #[.int .u8 b, .int .i64 a], .int .i64 r] w fun e w' => e = .returned (.bool true) ∧ Below w.heap.size w w' := by
  by_cases hv : b ≤ 1 ∧ 1 ≤ a ∧ a ≤ 40
  · obtain ⟨v1, v2, v3⟩ := hv
    by_cases h3 : -4 ≤ r
    · by_cases h4 : r ≤ 4
      · exact spots_good b a r _ (by omega) v2 v3 h3 h4 rfl w
      · exact spots_high b a r v1 v2 v3 h3 (by omega) w
    · exact spots_low b a r v1 v2 v3 (by omega) w
  · exact spots_invalid b a r hv w

end Go.Proofs.YthdmpoiecmbinaaDoor
