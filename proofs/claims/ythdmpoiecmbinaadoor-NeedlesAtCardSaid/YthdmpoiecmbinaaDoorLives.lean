import Derived.Test.YthdmpoiecmbinaaDoorAt
import Derived.Test.YthdmpoiecmbinaaDoorText
namespace Go.Proofs.YthdmpoiecmbinaaDoor
open Go.RowKit

/-- Block k holds a needle, and may be written. -/
def Own (w : World) (k : Nat) (b a : Int) : Prop :=
  w.cell? ⟨k, 0, none⟩ = some (.int .u8 b) ∧ w.cell? ⟨k, 1, none⟩ = some (.int .i64 a) ∧ w.frozen? ⟨k, 0, none⟩ = false ∧ w.frozen? ⟨k, 1, none⟩ = false ∧ k < w.heap.size

theorem Own.below {w w' : World} {k : Nat} {b a : Int} (hb : Below w.heap.size w w') (h : Own w k b a) : Own w' k b a := by
  obtain ⟨h0, h1, h2, h3, h4⟩ := h
  have hz := hb.size
  exact ⟨by rw [hb.cell (p := ⟨k, 0, none⟩) h4]; exact h0, by rw [hb.cell (p := ⟨k, 1, none⟩) h4]; exact h1, by rw [hb.frozen (p := ⟨k, 0, none⟩) h4]; exact h2, by rw [hb.frozen (p := ⟨k, 1, none⟩) h4]; exact h3, by omega⟩
theorem Own.alloc {w : World} {k : Nat} {b a : Int} (h : Own w k b a) (o : Obj) : Own (w.alloc o) k b a :=
  Own.below ((Below.refl _ _).alloc (Nat.le_refl _) o) h
theorem Own.new {w : World} {k : Nat} (b a : Int) (hk : k = w.heap.size) : Own (w.alloc (Obj.cells #[Value.int IntKind.u8 b, Value.int IntKind.i64 a] 24)) k b a := by
  subst hk
  refine ⟨?_, ?_, ?_, ?_, by simp⟩ <;> go_simp
theorem Own.set {w : World} {k j : Nat} {b a : Int} (h : Own w k b a) (hj : j ≠ k) (x y : Value) : Own ((w.setCell ⟨j, 0, none⟩ x).setCell ⟨j, 1, none⟩ y) k b a := by
  obtain ⟨h0, h1, h2, h3, h4⟩ := h
  have n0 : ∀ o o' : Nat, (⟨j, o, none⟩ : Addr) ≠ ⟨k, o', none⟩ := fun o o' e => hj (by injection e)
  refine ⟨?_, ?_, ?_, ?_, by simpa using h4⟩
  · rw [World.cell?_setCell_other _ _ _ _ (n0 _ _), World.cell?_setCell_other _ _ _ _ (n0 _ _)]; exact h0
  · rw [World.cell?_setCell_other _ _ _ _ (n0 _ _), World.cell?_setCell_other _ _ _ _ (n0 _ _)]; exact h1
  · simpa using h2
  · simpa using h3
theorem Own.store {w : World} {k : Nat} {b a : Int} (h : Own w k b a) (b' a' : Int) : Own ((w.setCell ⟨k, 0, none⟩ (.int .u8 b')).setCell ⟨k, 1, none⟩ (.int .i64 a')) k b' a' := by
  obtain ⟨h0, h1, h2, h3, h4⟩ := h
  have n0 : (⟨k, 1, none⟩ : Addr) ≠ ⟨k, 0, none⟩ := fun e => by injection e with _ e; cases e
  refine ⟨?_, ?_, ?_, ?_, by simpa using h4⟩
  · rw [World.cell?_setCell_other _ _ _ _ n0]; exact World.cell?_setCell_same _ _ _ h0
  · exact World.cell?_setCell_same _ _ _ (by rw [World.cell?_setCell_other _ _ _ _ n0.symm]; exact h1)
  · simpa using h2
  · simpa using h3
theorem Own.facts {w : World} {k : Nat} {b a : Int} (h : Own w k b a) :
    w.cell? ⟨k, 0, none⟩ = some (.int .u8 b) ∧ w.cell? ⟨k, 1, none⟩ = some (.int .i64 a) ∧ w.frozen? ⟨k, 0, none⟩ = false ∧ w.frozen? ⟨k, 1, none⟩ = false ∧
    (∀ o, (w.alloc o).cell? ⟨k, 0, none⟩ = some (.int .u8 b)) ∧ (∀ o, (w.alloc o).cell? ⟨k, 1, none⟩ = some (.int .i64 a)) :=
  ⟨h.1, h.2.1, h.2.2.1, h.2.2.2.1, fun o => (h.alloc o).1, fun o => (h.alloc o).2.1⟩
theorem parse_b3 (w : World) : Calls Tryd.prog 18 #[.string ⟨#[98, 51]⟩] w fun e w' => e = .returned (.tuple #[.agg #[.int .u8 1, .int .i64 3], .int .i64 0]) ∧ Below w.heap.size w w' :=
  parse_same 98 [51] (by decide) w 1 (by omega) (by omega) (by decide +kernel) 3 (by decide +kernel) (by omega) (by omega) (by decide +kernel)
theorem parse_f0 (w : World) : Calls Tryd.prog 18 #[.string ⟨#[102, 48]⟩] w fun e w' => e = .returned (.tuple #[.agg #[.int .u8 0, .int .i64 0], .int .i64 4]) ∧ Below w.heap.size w w' :=
  parse_invalid 102 [48] (by decide) w 0 (by omega) (by omega) (by decide +kernel) 0 (by decide +kernel) (by omega)
theorem parse_f07 (w : World) : Calls Tryd.prog 18 #[.string ⟨#[102, 48, 55]⟩] w fun e w' => e = .returned (.tuple #[.agg #[.int .u8 0, .int .i64 0], .int .i64 4]) ∧ Below w.heap.size w w' :=
  parse_other 102 [48, 55] (by decide) w 0 (by omega) (by omega) (by decide +kernel) 7 (by decide +kernel) (by omega) (by omega) [102, 55] (by decide +kernel) (by decide)
theorem text_f12 (w : World) : Calls Tryd.prog 17 #[.agg #[.int .u8 0, .int .i64 12]] w fun e w' => e = .returned (.string ⟨#[102, 49, 50]⟩) ∧ Below w.heap.size w w' :=
  text_eq 0 12 w (by omega) (by omega) (by omega) [102, 49, 50] (by decide +kernel)

theorem spot_is (b a r s : Int) (w : World) (h0 : b = 0 ∨ b = 1) (h1 : 1 ≤ a) (h2 : a ≤ 40) (h3 : -4 ≤ r) (h4 : r ≤ 4) (h : spt b a r = s) :
    Calls Tryd.prog 11 #[.agg #[.int .u8 b, .int .i64 a], .int .i64 r] w fun e w' => e = .returned (.int .i64 s) ∧ Below w.heap.size w w' := by
  subst h
  exact spot_ok b a r w h0 h1 h2 h3 h4
theorem opp_f4 (w : World) : Calls Tryd.prog 16 #[.agg #[.int .u8 0, .int .i64 4], .int .i64 3] w fun e w' => e = .returned (.tuple #[.agg #[.int .u8 1, .int .i64 1], .int .i64 0]) ∧ Below w.heap.size w w' :=
  opp_front 4 3 w (by omega) (by omega) (by omega) (by omega) (by omega) (by omega)
theorem opp_b40 (w : World) : Calls Tryd.prog 16 #[.agg #[.int .u8 1, .int .i64 40], .int .i64 0] w fun e w' => e = .returned (.tuple #[.agg #[.int .u8 0, .int .i64 40], .int .i64 0]) ∧ Below w.heap.size w w' :=
  opp_back 40 0 w (by omega) (by omega) (by omega) (by omega) (by omega) (by omega)
theorem opp_b40_1 (w : World) : Calls Tryd.prog 16 #[.agg #[.int .u8 1, .int .i64 40], .int .i64 1] w fun e w' => e = .returned (.tuple #[.agg #[.int .u8 0, .int .i64 0], .int .i64 11]) ∧ Below w.heap.size w w' :=
  opp_back_none 40 1 w (by omega) (by omega) (by omega) (by omega) (by omega)

set_option maxRecDepth 100000 in
set_option maxHeartbeats 2000000 in
theorem lives (w : World) : Calls Tryd.prog 12 #[] w fun e w' => e = .returned (.bool true) ∧ Below w.heap.size w w' := by
  go_enter Tryd.func12, Tryd.ntmps12
  go_wp2_with (go_at_call 13; refine (at_found 6 0 1 3 _ (by omega) (by omega) (by omega) (by omega) (by omega) rfl).mono ?_; rintro e w1 ⟨rfl, hb⟩; refine Hid.out ?_)
  have o1 : Own w1 w.heap.size 0 1 := Own.below hb (Own.alloc (Own.new 0 1 rfl) _)
  have o2 : Own w1 (w.heap.size + 1) 1 1 := Own.below hb (Own.new 1 1 (by simp))
  have B1 : Below w.heap.size w w1 := (((Below.refl _ _).alloc (Nat.le_refl _) _).alloc (by simp) _).trans (hb.mono (by simp; omega))
  have z1 := hb.size
  simp at z1
  clear hb
  refine Lib.hid ?_
  go_wp2_with (go_at_call 13; refine (at_found 16 1 1 3 _ (by omega) (by omega) (by omega) (by omega) (by omega) rfl).mono ?_; rintro e w2 ⟨rfl, hb⟩; refine Hid.out ?_)
  have z2 := hb.size
  simp at z2
  have B2 : Below w.heap.size w w2 := (B1.alloc (by omega) _).trans (hb.mono (by simp; omega))
  replace o1 := Own.below hb (o1.alloc _)
  replace o2 := Own.below hb (o2.alloc _)
  have o3 : Own w2 w1.heap.size 0 1 := Own.below hb (Own.new 0 1 rfl)
  clear hb 
  refine Lib.hid ?_
  go_wp2_with (go_at_call 13; refine (at_none 4 3 _ (by omega) (by omega) (fun a h1 h2 h => by simp [spt] at h; omega) (fun a h1 h2 h => by simp [spt] at h; omega)).mono ?_; rintro e w3 ⟨rfl, hb⟩; refine Hid.out ?_)
  have z3 := hb.size
  simp at z3
  have B3 : Below w.heap.size w w3 := (B2.alloc (by omega) _).trans (hb.mono (by simp; omega))
  replace o1 := Own.below hb (o1.alloc _)
  replace o2 := Own.below hb (o2.alloc _)
  replace o3 := Own.below hb (o3.alloc _)
  have o5 : Own w3 w2.heap.size 1 1 := Own.below hb (Own.new 1 1 rfl)
  clear hb 
  obtain ⟨-, -, -, -, c10, c11⟩ := o1.facts
  refine Lib.hid ?_
  go_wp2_with (go_at_call 11; refine (spot_is 0 1 0 6 _ (by omega) (by omega) (by omega) (by omega) (by omega) rfl).mono ?_; rintro e w4 ⟨rfl, hb⟩; refine Hid.out ?_)
  have z4 := hb.size
  simp at z4
  have B4 : Below w.heap.size w w4 := (B3.alloc (by omega) _).trans (hb.mono (by simp; omega))
  replace o1 := Own.below hb (o1.alloc _)
  replace o2 := Own.below hb (o2.alloc _)
  replace o3 := Own.below hb (o3.alloc _)
  replace o5 := Own.below hb (o5.alloc _)
  clear hb c10 c11
  obtain ⟨c20, c21, -, -, -, -⟩ := o2.facts
  refine Lib.hid ?_
  go_wp2_with (go_at_call 11; refine (spot_is 1 1 0 4 _ (by omega) (by omega) (by omega) (by omega) (by omega) rfl).mono ?_; rintro e w5 ⟨rfl, hb⟩; refine Hid.out ?_)
  have z5 := hb.size
  have B5 : Below w.heap.size w w5 := (B4).trans (hb.mono (by omega))
  replace o1 := Own.below hb o1
  replace o2 := Own.below hb o2
  replace o3 := Own.below hb o3
  replace o5 := Own.below hb o5
  clear hb c20 c21
  refine Lib.hid ?_
  go_wp2_with (go_at_call 11; refine (spot_is 1 40 0 160 _ (by omega) (by omega) (by omega) (by omega) (by omega) rfl).mono ?_; rintro e w6 ⟨rfl, hb⟩; refine Hid.out ?_)
  have z6 := hb.size
  have B6 : Below w.heap.size w w6 := (B5).trans (hb.mono (by omega))
  replace o1 := Own.below hb o1
  replace o2 := Own.below hb o2
  replace o3 := Own.below hb o3
  replace o5 := Own.below hb o5
  clear hb 
  obtain ⟨c20, c21, -, -, -, -⟩ := o2.facts
  refine Lib.hid ?_
  go_wp2_with (go_at_call 11; refine (spot_is 1 1 (-4) (-12) _ (by omega) (by omega) (by omega) (by omega) (by omega) rfl).mono ?_; rintro e w7 ⟨rfl, hb⟩; refine Hid.out ?_)
  have z7 := hb.size
  have B7 : Below w.heap.size w w7 := (B6).trans (hb.mono (by omega))
  replace o1 := Own.below hb o1
  replace o2 := Own.below hb o2
  replace o3 := Own.below hb o3
  replace o5 := Own.below hb o5
  clear hb c20 c21
  obtain ⟨c10, c11, -, -, -, -⟩ := o1.facts
  obtain ⟨c20, c21, -, -, -, -⟩ := o2.facts
  obtain ⟨c30, c31, -, -, -, -⟩ := o3.facts
  obtain ⟨c50, c51, -, -, -, -⟩ := o5.facts
  refine Lib.hid ?_
  go_wp2_with (go_at_call 16; refine (opp_f4 _).mono ?_; rintro e w8 ⟨rfl, hb⟩; refine Hid.out ?_)
  have z8 := hb.size
  have B8 : Below w.heap.size w w8 := (B7).trans (hb.mono (by omega))
  replace o2 := Own.below hb o2
  replace o3 := Own.below hb o3
  replace o5 := Own.below hb o5
  clear hb c10 c11 c20 c21 c30 c31 c50 c51
  obtain ⟨c30, c31, f30, f31, -, -⟩ := o3.facts
  refine Lib.hid ?_
  go_wp2_with (go_at_call 16; refine (opp_b40 _).mono ?_; rintro e w9 ⟨rfl, hb⟩; refine Hid.out ?_)
  have z9 := hb.size
  simp at z9
  have B9 : Below w.heap.size w w9 := ((B8.setCell (by simp; omega) _).setCell (by simp; omega) _).trans (hb.mono (by simp; omega))
  replace o2 := Own.below hb (o2.set (by omega) _ _)
  replace o3 := Own.below hb (o3.store 1 1)
  replace o5 := Own.below hb (o5.set (by omega) _ _)
  clear hb c30 c31 f30 f31
  obtain ⟨c50, c51, f50, f51, -, -⟩ := o5.facts
  refine Lib.hid ?_
  go_wp2_with (go_at_call 16; refine (opp_b40_1 _).mono ?_; rintro e w10 ⟨rfl, hb⟩; refine Hid.out ?_)
  have z10 := hb.size
  simp at z10
  have B10 : Below w.heap.size w w10 := ((B9.setCell (by simp; omega) _).setCell (by simp; omega) _).trans (hb.mono (by simp; omega))
  replace o2 := Own.below hb (o2.set (by omega) _ _)
  replace o3 := Own.below hb (o3.set (by omega) _ _)
  replace o5 := Own.below hb (o5.store 0 40)
  clear hb c50 c51 f50 f51
  refine Lib.hid ?_
  go_wp2_with (go_at_call 18; refine (parse_b3 _).mono ?_; rintro e w11 ⟨rfl, hb⟩; refine Hid.out ?_)
  have z11 := hb.size
  have B11 : Below w.heap.size w w11 := (B10).trans (hb.mono (by omega))
  replace o2 := Own.below hb o2
  replace o3 := Own.below hb o3
  replace o5 := Own.below hb o5
  clear hb 
  refine Lib.hid ?_
  go_wp2_with (go_at_call 18; refine (parse_f0 _).mono ?_; rintro e w12 ⟨rfl, hb⟩; refine Hid.out ?_)
  have z12 := hb.size
  simp at z12
  have B12 : Below w.heap.size w w12 := (B11.alloc (by omega) _).trans (hb.mono (by simp; omega))
  replace o2 := Own.below hb (o2.alloc _)
  replace o3 := Own.below hb (o3.alloc _)
  replace o5 := Own.below hb (o5.alloc _)
  have o9 : Own w12 w11.heap.size 1 3 := Own.below hb (Own.new 1 3 rfl)
  clear hb 
  refine Lib.hid ?_
  go_wp2_with (go_at_call 18; refine (parse_f07 _).mono ?_; rintro e w13 ⟨rfl, hb⟩; refine Hid.out ?_)
  have z13 := hb.size
  simp at z13
  have B13 : Below w.heap.size w w13 := (B12.alloc (by omega) _).trans (hb.mono (by simp; omega))
  replace o2 := Own.below hb (o2.alloc _)
  replace o3 := Own.below hb (o3.alloc _)
  replace o5 := Own.below hb (o5.alloc _)
  replace o9 := Own.below hb (o9.alloc _)
  clear hb 
  obtain ⟨-, -, -, -, c20, c21⟩ := o2.facts
  obtain ⟨-, -, -, -, c30, c31⟩ := o3.facts
  obtain ⟨-, -, -, -, c50, c51⟩ := o5.facts
  refine Lib.hid ?_
  go_wp2_with (go_at_call 17; refine (text_f12 _).mono ?_; rintro e w14 ⟨rfl, hb⟩; refine Hid.out ?_)
  have z14 := hb.size
  simp at z14
  have B14 : Below w.heap.size w w14 := (B13.alloc (by omega) _).trans (hb.mono (by simp; omega))
  replace o2 := Own.below hb (o2.alloc _)
  replace o3 := Own.below hb (o3.alloc _)
  replace o5 := Own.below hb (o5.alloc _)
  replace o9 := Own.below hb (o9.alloc _)
  clear hb c20 c21 c30 c31 c50 c51
  obtain ⟨c90, c91, -, -, -, -⟩ := o9.facts
  refine Lib.hid ?_
  go_wp2
  go_ret
  exact ⟨rfl, B14⟩

end Go.Proofs.YthdmpoiecmbinaaDoor
