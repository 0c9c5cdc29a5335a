import Derived.Test.YtgkgmikkfbbfgaaBackA
import Derived.Test.YtgkgmikkfbbfgaaRg7
import Derived.Test.YtgkgmikkfbbfgaaLvB
namespace Go.Proofs.Ytgkgmikkfbbfgaa
open Go.RowKit Go.Sort
section
variable {o : Oper} {a : Act} {w : World} {K : Act → World → Prop} {Q : Exit → Act → World → Prop} {x y : Operand}
theorem st_rem5 {X : Int} (hop : o.op = .binOp .rem 5 x y 5) (hx : a.eval x = .int .u8 X) (hy : a.eval y = .int .u8 5) (hK : K (a.put o.dst (.int .u8 (X.tmod 5))) w) : o.wp Try.prog a w K Q := by
  exact step_val (by simp only [execOp, hop, hx, hy]; go_simp) hK
theorem st_conv53 {X Z : Int} (hop : o.op = .convert 5 3 x) (hx : a.eval x = .int .u8 X) (hz : IntKind.i64.wrap X = Z) (hK : K (a.put o.dst (.int .i64 Z)) w) : o.wp Try.prog a w K Q := by
  exact step_val (by simp only [execOp, hop, hx, hz]; go_simp) hK
end
def psiBk1 (N : Nat) (y0 : Nat) (y1 : Nat) (i1 : Nat) (i2 : Nat) (q2 : Nat) : Nat → Value → World → Prop
  | 0, v9, _ => v9 = .pointer (some ⟨N + 1, 0, none⟩)
  | 1, v9, _ => v9 = .int .u8 y0
  | 2, v9, _ => v9 = .int .u8 i1
  | 3, v9, _ => v9 = .agg #[.int .u8 0, .int .i64 ((i1 : Int) + 1)]
  | 4, v9, _ => v9 = .pointer (some ⟨N + 1, 1, none⟩)
  | 5, v9, _ => v9 = .int .u8 y1
  | 6, v9, _ => v9 = .int .u8 i2
  | 7, v9, _ => v9 = .int .u8 q2
  | 8, v9, _ => v9 = .agg #[.int .u8 1, .int .i64 ((i2 : Int) + 1)]
  | 9, v9, w9 => ∃ b, v9 = .pointer (some ⟨b, 0, none⟩) ∧ N ≤ b ∧ Boxed2 w9 b 26 (.int .u8 0) (.int .i64 0)
  | 10, v9, w9 => ∃ b, v9 = .pointer (some ⟨b, 0, none⟩) ∧ N ≤ b ∧ Boxed2 w9 b 26 (.int .u8 0) (.int .i64 0)
  | _, _, _ => True
theorem psiBk1_stab (N : Nat) (y0 : Nat) (y1 : Nat) (i1 : Nat) (i2 : Nat) (q2 : Nat) (i9 : Nat) (v9 : Value) (w9 w9' : World) (h : psiBk1 N y0 y1 i1 i2 q2 i9 v9 w9) (_hb : Below w9.heap.size w9 w9') : psiBk1 N y0 y1 i1 i2 q2 i9 v9 w9' := by
  match i9, h with
  | 0, h => exact h
  | 1, h => exact h
  | 2, h => exact h
  | 3, h => exact h
  | 4, h => exact h
  | 5, h => exact h
  | 6, h => exact h
  | 7, h => exact h
  | 8, h => exact h
  | 9, h => exact (by obtain ⟨b, h1, h2, h3⟩ := h; exact ⟨b, h1, h2, h3.below _hb h3.lt⟩)
  | 10, h => exact (by obtain ⟨b, h1, h2, h3⟩ := h; exact ⟨b, h1, h2, h3.below _hb h3.lt⟩)
  | i9 + 11, _ => exact trivial
def psiBk4 (N : Nat) (x0 : Nat) (x1 : Nat) (m1 : Nat) (m2 : Nat) : Nat → Value → World → Prop
  | 0, v9, _ => v9 = .pointer (some ⟨N, 0, none⟩)
  | 1, v9, _ => v9 = .int .u8 x0
  | 2, v9, _ => v9 = .int .u8 m1
  | 3, v9, _ => v9 = .int .i64 m1
  | 4, v9, _ => v9 = .pointer (some ⟨N, 1, none⟩)
  | 5, v9, _ => v9 = .int .u8 x1
  | 6, v9, _ => v9 = .int .u8 m2
  | 7, v9, _ => v9 = .int .i64 m2
  | 8, v9, _ => v9 = .int .i64 m1
  | _, _, _ => True
theorem psiBk4_stab (N : Nat) (x0 : Nat) (x1 : Nat) (m1 : Nat) (m2 : Nat) (i9 : Nat) (v9 : Value) (w9 w9' : World) (h : psiBk4 N x0 x1 m1 m2 i9 v9 w9) (_hb : Below w9.heap.size w9 w9') : psiBk4 N x0 x1 m1 m2 i9 v9 w9' := by
  match i9, h with
  | 0, h => exact h
  | 1, h => exact h
  | 2, h => exact h
  | 3, h => exact h
  | 4, h => exact h
  | 5, h => exact h
  | 6, h => exact h
  | 7, h => exact h
  | 8, h => exact h
  | i9 + 9, _ => exact trivial

theorem ix1_back (i : Nat) : ixOf 0 ((i : Int) + 1) = i := by unfold ixOf; omega
theorem ix2_back (i : Nat) : ixOf 1 ((i : Int) + 1) = 40 + i := by unfold ixOf; omega
section
variable {i1 i2 m1 m2 : Nat}
theorem back_err (h1 : i1 < 40) (h2 : i2 < 40) : joinErr (backT i1 i2 m1 m2) 0 ((i1 : Int) + 1) 1 ((i2 : Int) + 1) = if m1 = 0 then 13 else if 4 < m2 + m1 then 9 else 0 := by
  unfold joinErr
  rw [if_neg (by rw [isN_mk (by omega), isN_mk (by omega)]; simp), ix1_back, ix2_back, backT_1 h1 h2, backT_2 h1 h2, nms_length, nms_length]
theorem back_join (h1 : i1 < 40) (h2 : i2 < 40) : joinT (backT i1 i2 m1 m2) 0 ((i1 : Int) + 1) 1 ((i2 : Int) + 1) = thereT i1 i2 m1 m2 := by
  unfold joinT thereT
  rw [if_neg (by decide), ix1_back, ix2_back, backT_1 h1 h2, backT_2 h1 h2]
theorem there_1 (h1 : i1 < 40) (h2 : i2 < 40) : (thereT i1 i2 m1 m2).getD i1 [] = [] := by
  unfold thereT
  rw [getD_set_ne _ (by omega), getD_set_eq _ (by simp [backT]; omega)]
theorem there_2 (h1 : i1 < 40) (h2 : i2 < 40) : (thereT i1 i2 m1 m2).getD (40 + i2) [] = nms m1 m2 ++ nms 0 m1 := by
  unfold thereT
  rw [getD_set_eq _ (by simp [backT]; omega)]
theorem again_1 (h1 : i1 < 40) (h2 : i2 < 40) : (againT i1 i2 m1 m2).getD i1 [] = nms m1 m2 ++ nms 0 m1 := by
  unfold againT
  rw [getD_set_eq _ (by simp [thereT, backT]; omega)]
theorem again_join (h1 : i1 < 40) (h2 : i2 < 40) : joinT (thereT i1 i2 m1 m2) 1 ((i2 : Int) + 1) 0 ((i1 : Int) + 1) = againT i1 i2 m1 m2 := by
  unfold joinT againT
  rw [if_pos rfl, ix1_back, ix2_back, there_1 h1 h2, there_2 h1 h2, List.append_nil]
theorem again_err (h1 : i1 < 40) (h2 : i2 < 40) (h3 : m1 ≠ 0) (h4 : m2 + m1 ≤ 4) : joinErr (thereT i1 i2 m1 m2) 1 ((i2 : Int) + 1) 0 ((i1 : Int) + 1) = 0 := by
  unfold joinErr
  rw [if_neg (by rw [isN_mk (by omega), isN_mk (by omega)]; simp), ix1_back, ix2_back, there_1 h1 h2, there_2 h1 h2, List.length_append, nms_length, nms_length, if_neg (by omega), if_neg (by simp; omega)]
end
set_option maxRecDepth 100000 in
set_option maxHeartbeats 4000000 in
theorem back_any (x0 x1 y0 y1 : Nat) (h0 : x0 ≤ 255) (h1 : x1 ≤ 255) (h2 : y0 ≤ 255) (h3 : y1 ≤ 255) (w : World) :
    Calls Try.prog 7 #[.agg #[.int .u8 x0, .int .u8 x1], .agg #[.int .u8 y0, .int .u8 y1]] w fun e w' => e = .returned (.bool true) ∧ Below w.heap.size w w' := by
  go_enter Try.func7, Try.ntmps7
  go_wp2_with fail
  obtain ⟨W0, hW0⟩ : ∃ W, (w.alloc (.cells #[.int .u8 x0, .int .u8 x1] 52)).alloc (.cells #[.int .u8 y0, .int .u8 y1] 52) = W := ⟨_, rfl⟩
  have hB0 : Below w.heap.size w W0 := by rw [← hW0]; exact below2 _ _ _
  have HBX : Hid (Boxed2 W0 w.heap.size 52 (.int .u8 x0) (.int .u8 x1)) := Lib.hid (by rw [← hW0]; exact (Boxed2.new w 52 _ _).alloc _)
  have HBY : Hid (Boxed2 W0 (w.heap.size + 1) 52 (.int .u8 y0) (.int .u8 y1)) := Lib.hid (by
    rw [← hW0]; have := Boxed2.new (w.alloc (.cells #[.int .u8 x0, .int .u8 x1] 52)) 52 (.int .u8 y0) (.int .u8 y1)
    simp only [World.size_alloc] at this; exact this)
  rw [hW0]
  clear hW0
  have HN0 : Hid (w.heap.size ≤ W0.heap.size) := Lib.hid hB0.size
  obtain ⟨i1, hi1⟩ : ∃ i : Nat, i = y0 % 40 := ⟨_, rfl⟩
  obtain ⟨i2, hi2⟩ : ∃ i : Nat, i = y1 % 40 := ⟨_, rfl⟩
  obtain ⟨q2, hq2⟩ : ∃ q : Nat, q = 40 + i2 := ⟨_, rfl⟩
  have HR1 : Hid (Int.tmod (y0 : Int) 40 = (i1 : Int)) := Lib.hid (by rw [hi1]; rfl)
  have HR2 : Hid (Int.tmod (y1 : Int) 40 = (i2 : Int)) := Lib.hid (by rw [hi2]; rfl)
  have HI1 : Hid (i1 < 40) := Lib.hid (by omega)
  have HI2 : Hid (i2 < 40) := Lib.hid (by omega)
  have HQ2 : Hid (q2 = 40 + i2) := Lib.hid hq2
  have HW2 : Hid (IntKind.u8.wrap (40 + (i2 : Int)) = (q2 : Int)) := Lib.hid (by rw [hq2]; exact IntWalk.u8_in _ (by omega))
  have HND1 : Hid (Value.agg #[.int .u8 ((i1 / 40 : Nat) : Int), .int .i64 ((i1 % 40 : Nat) + 1 : Int)] = .agg #[.int .u8 0, .int .i64 ((i1 : Int) + 1)]) := Lib.hid (by
    rw [show i1 / 40 = 0 by omega, show i1 % 40 = i1 by omega]; rfl)
  have HND2 : Hid (Value.agg #[.int .u8 ((q2 / 40 : Nat) : Int), .int .i64 ((q2 % 40 : Nat) + 1 : Int)] = .agg #[.int .u8 1, .int .i64 ((i2 : Int) + 1)]) := Lib.hid (by
    rw [show q2 / 40 = 1 by omega, show q2 % 40 = i2 by omega]; rfl)
  clear hi1 hi2 hq2
  refine rgT4 11 [some 14, some 15, some 16, some 17, some 18, some 19, some 20, some 21, some 22, some 5, some 6, none, none] (fun i9 _ => psiBk1 w.heap.size y0 y1 i1 i2 q2 i9) (fun w' => Below W0.heap.size W0 w') (fun _ w w' => Below w.heap.size w w') (XTwo 9 10 5 6) (by kernel_rfl) (by kernel_rfl) (by kernel_rfl) (by kernel_rfl) (fun _ _ _ _ _ _ _ j9 v9 u9 u9' _ _ h hb => by
      rcases hb with rfl | hb
      · exact h
      · exact psiBk1_stab w.heap.size y0 y1 i1 i2 q2 j9 v9 u9 u9' h hb) (fun _ _ _ h hb => h.trans (hb.mono h.size)) (fun i9 o9 hi9 ho9 L9 hL9 hLi9 hcl9 aq9 w1 hs hout hI hX hdep => ?_) ?_ ((Below.refl _ _).drew) (fun L9 hL9 => XTwo.start hL9 (of_decide_eq_true (by kernel_rfl)) (of_decide_eq_true (by kernel_rfl)))
  · skip
    match i9, hi9, ho9 with
    | 0, _, ho9 =>
      obtain rfl := Option.some.inj ho9
      refine .inl ⟨rfl, fun K hK0 => ?_⟩
      have hK := fun (v : Value) (w' : World) (hb : Below w1.heap.size w1 w') hp => hK0 v w' hb hp (hX.keep (by decide) (by decide) (by decide) (by decide) hb.size)
      exact st_idx52 (k := 0) rfl ((hout 3 rfl).trans rfl) rfl (by decide) (hK _ _ (Below.refl _ _) rfl)
    | 1, _, ho9 =>
      obtain rfl := Option.some.inj ho9
      have dq0 : (aq9.tmps.getD 14 undef) = .pointer (some ⟨w.heap.size + 1, 0, none⟩) := hdep ⟨0, .data⟩ (by simp) rfl _ rfl
      refine .inl ⟨rfl, fun K hK0 => ?_⟩
      have hK := fun (v : Value) (w' : World) (hb : Below w1.heap.size w1 w') hp => hK0 v w' hb hp (hX.keep (by decide) (by decide) (by decide) (by decide) hb.size)
      exact ld5 rfl dq0 (HBY.out.below hI HBY.out.lt).cell0 (hK _ _ (Below.refl _ _) rfl)
    | 2, _, ho9 =>
      obtain rfl := Option.some.inj ho9
      have dq1 : (aq9.tmps.getD 15 undef) = .int .u8 y0 := hdep ⟨1, .data⟩ (by simp) rfl _ rfl
      refine .inl ⟨rfl, fun K hK0 => ?_⟩
      have hK := fun (v : Value) (w' : World) (hb : Below w1.heap.size w1 w') hp => hK0 v w' hb hp (hX.keep (by decide) (by decide) (by decide) (by decide) hb.size)
      exact st_rem40 rfl dq1 rfl (hK _ _ (Below.refl _ _) (congrArg (Value.int .u8) HR1.out))
    | 3, _, ho9 =>
      obtain rfl := Option.some.inj ho9
      have dq2 : (aq9.tmps.getD 16 undef) = .int .u8 i1 := hdep ⟨2, .data⟩ (by simp) rfl _ rfl
      refine .inl ⟨rfl, fun K hK0 => ?_⟩
      have hK := fun (v : Value) (w' : World) (hb : Below w1.heap.size w1 w') hp => hK0 v w' hb hp (hX.keep (by decide) (by decide) (by decide) (by decide) hb.size)
      exact step_calls rfl enter13 (vs := #[.int .u8 i1]) (vals1 dq2) ((needle_any i1 w1 (by have := HI1.out; have := HI2.out; have := HQ2.out; omega)).mono fun e w' hh => by
        obtain ⟨rfl, hb⟩ := hh
        exact ⟨_, rfl, hK _ _ hb (HND1.out)⟩)
    | 4, _, ho9 =>
      obtain rfl := Option.some.inj ho9
      refine .inl ⟨rfl, fun K hK0 => ?_⟩
      have hK := fun (v : Value) (w' : World) (hb : Below w1.heap.size w1 w') hp => hK0 v w' hb hp (hX.keep (by decide) (by decide) (by decide) (by decide) hb.size)
      exact st_idx52 (k := 1) rfl ((hout 3 rfl).trans rfl) rfl (by decide) (hK _ _ (Below.refl _ _) rfl)
    | 5, _, ho9 =>
      obtain rfl := Option.some.inj ho9
      have dq4 : (aq9.tmps.getD 18 undef) = .pointer (some ⟨w.heap.size + 1, 1, none⟩) := hdep ⟨4, .data⟩ (by simp) rfl _ rfl
      refine .inl ⟨rfl, fun K hK0 => ?_⟩
      have hK := fun (v : Value) (w' : World) (hb : Below w1.heap.size w1 w') hp => hK0 v w' hb hp (hX.keep (by decide) (by decide) (by decide) (by decide) hb.size)
      exact ld5 rfl dq4 (HBY.out.below hI HBY.out.lt).cell1 (hK _ _ (Below.refl _ _) rfl)
    | 6, _, ho9 =>
      obtain rfl := Option.some.inj ho9
      have dq5 : (aq9.tmps.getD 19 undef) = .int .u8 y1 := hdep ⟨5, .data⟩ (by simp) rfl _ rfl
      refine .inl ⟨rfl, fun K hK0 => ?_⟩
      have hK := fun (v : Value) (w' : World) (hb : Below w1.heap.size w1 w') hp => hK0 v w' hb hp (hX.keep (by decide) (by decide) (by decide) (by decide) hb.size)
      exact st_rem40 rfl dq5 rfl (hK _ _ (Below.refl _ _) (congrArg (Value.int .u8) HR2.out))
    | 7, _, ho9 =>
      obtain rfl := Option.some.inj ho9
      have dq6 : (aq9.tmps.getD 20 undef) = .int .u8 i2 := hdep ⟨6, .data⟩ (by simp) rfl _ rfl
      refine .inl ⟨rfl, fun K hK0 => ?_⟩
      have hK := fun (v : Value) (w' : World) (hb : Below w1.heap.size w1 w') hp => hK0 v w' hb hp (hX.keep (by decide) (by decide) (by decide) (by decide) hb.size)
      exact st_add_5 rfl rfl dq6 HW2.out (hK _ _ (Below.refl _ _) rfl)
    | 8, _, ho9 =>
      obtain rfl := Option.some.inj ho9
      have dq7 : (aq9.tmps.getD 21 undef) = .int .u8 q2 := hdep ⟨7, .data⟩ (by simp) rfl _ rfl
      refine .inl ⟨rfl, fun K hK0 => ?_⟩
      have hK := fun (v : Value) (w' : World) (hb : Below w1.heap.size w1 w') hp => hK0 v w' hb hp (hX.keep (by decide) (by decide) (by decide) (by decide) hb.size)
      exact step_calls rfl enter13 (vs := #[.int .u8 q2]) (vals1 dq7) ((needle_any q2 w1 (by have := HI1.out; have := HI2.out; have := HQ2.out; omega)).mono fun e w' hh => by
        obtain ⟨rfl, hb⟩ := hh
        exact ⟨_, rfl, hK _ _ hb (HND2.out)⟩)
    | 9, _, ho9 =>
      obtain rfl := Option.some.inj ho9
      refine .inl ⟨rfl, fun K hK0 => ?_⟩
      exact step_valw (v := .pointer (some ⟨w1.heap.size, 0, none⟩)) (w' := w1.alloc (.cells #[.int .u8 0, .int .i64 0] 26)) (by simp only [execOp]; go_simp) (hK0 _ _ (below1 _ _) ⟨_, rfl, by have := hI.size; have := HN0.out; omega, Boxed2.new w1 26 (.int .u8 0) (.int .i64 0)⟩ (hX.one (by decide) (by decide) (by simp)))
    | 10, _, ho9 =>
      obtain rfl := Option.some.inj ho9
      refine .inl ⟨rfl, fun K hK0 => ?_⟩
      exact step_valw (v := .pointer (some ⟨w1.heap.size, 0, none⟩)) (w' := w1.alloc (.cells #[.int .u8 0, .int .i64 0] 26)) (by simp only [execOp]; go_simp) (hK0 _ _ (below1 _ _) ⟨_, rfl, by have := hI.size; have := HN0.out; omega, Boxed2.new w1 26 (.int .u8 0) (.int .i64 0)⟩ (hX.two (by decide) (by decide) (by simp)))
    | i9 + 11, hi9, _ => exact absurd hi9 (by omega)
  · intro a2 w2 hs hd hout hI hXf hall
    obtain ⟨tmps, defers⟩ := a2
    obtain ⟨Lf, hLf, hXf⟩ := hXf
    have e_5 : ∃ b, (tmps.getD 5 undef) = .pointer (some ⟨b, 0, none⟩) ∧ w.heap.size ≤ b ∧ Boxed2 w2 b 26 (.int .u8 0) (.int .i64 0) := (hall 9 _ (by decide) rfl).elim fun _ h => h.2
    obtain ⟨bA, e_5, hbA, xA⟩ := e_5
    have e_6 : ∃ b, (tmps.getD 6 undef) = .pointer (some ⟨b, 0, none⟩) ∧ w.heap.size ≤ b ∧ Boxed2 w2 b 26 (.int .u8 0) (.int .i64 0) := (hall 10 _ (by decide) rfl).elim fun _ h => h.2
    obtain ⟨bB, e_6, hbB, xB⟩ := e_6
    have e_17 : (tmps.getD 17 undef) = .agg #[.int .u8 0, .int .i64 ((i1 : Int) + 1)] := (hall 3 _ (by decide) rfl).elim fun _ h => h.2
    have e_22 : (tmps.getD 22 undef) = .agg #[.int .u8 1, .int .i64 ((i2 : Int) + 1)] := (hall 8 _ (by decide) rfl).elim fun _ h => h.2
    have hAB : bA ≠ bB := by
      rintro rfl
      exact hXf.2.2.2 (by rw [hLf]; rfl) (by rw [hLf]; rfl) (e_5.trans e_6.symm)
    simp only at hs hd hout
    have ef := frameAt [some 14, some 15, some 16, some 17, some 18, some 19, some 20, some 21, some 22, some 5, some 6, none, none] _ tmps hs hout
    obtain ⟨sv1, hu⟩ : ∃ u : Nat → Value, u = fun s => tmps.getD s undef := ⟨_, rfl⟩
    have eu_5 : sv1 5 = .pointer (some ⟨bA, 0, none⟩) := by rw [hu]; exact e_5
    have eu_6 : sv1 6 = .pointer (some ⟨bB, 0, none⟩) := by rw [hu]; exact e_6
    have eu_17 : sv1 17 = .agg #[.int .u8 0, .int .i64 ((i1 : Int) + 1)] := by rw [hu]; exact e_17
    have eu_22 : sv1 22 = .agg #[.int .u8 1, .int .i64 ((i2 : Int) + 1)] := by rw [hu]; exact e_22
    rw [← hu] at ef
    have ef2 : tmps = #[Value.agg #[Value.int IntKind.u8 x0, Value.int IntKind.u8 x1], Value.agg #[Value.int IntKind.u8 y0, Value.int IntKind.u8 y1], Value.pointer (some { block := w.heap.size, off := 0 }), Value.pointer (some { block := w.heap.size + 1, off := 0 }), Value.bool false, (sv1 5), (sv1 6), undef, undef, undef, undef, undef, undef, undef, (sv1 14), (sv1 15), (sv1 16), (sv1 17), (sv1 18), (sv1 19), (sv1 20), (sv1 21), (sv1 22), undef, undef, undef, undef, undef, undef, undef, undef, undef, undef, undef, undef, undef, undef, undef, undef, undef, undef, undef, undef, undef, undef, undef, undef, undef, undef, undef, undef, undef, undef, undef, undef, undef, undef, undef, undef, undef, undef, undef, undef, undef, undef, undef, undef, undef, undef, undef, undef, undef, undef, undef, undef, undef, undef, undef, undef, undef, undef, undef, undef, undef, undef, undef, undef, undef, undef, undef, undef, undef, undef, undef, undef, undef, undef, undef, undef, undef, undef, undef, undef, undef, undef, undef, undef, undef, undef, undef, undef, undef, undef, undef, undef, undef, undef, undef, undef, undef, undef, undef, undef] := ef
    subst hd
    rw [eu_5, eu_6, eu_17, eu_22] at ef2
    rw [ef2]
    clear ef ef2 hu hs hout hall e_5 eu_5 e_6 eu_6 e_17 eu_17 e_22 eu_22
    simp only [List.drop_succ_cons, List.drop_zero]
    have xA0 := xA.cell0
    have fA := xA.frozen
    have fB := xB.frozen
    have xA1 := xA.set0 (.int .u8 0)
    have xB1 := (xB.other (o := 0) (x := .int .u8 0) hAB.symm)
    have xB2 := (xB1.other (o := 1) (x := .int .i64 ((i1 : Int) + 1)) hAB.symm)
    have xB3 := xB2.set0 (.int .u8 1)
    have fA1 := xA1.frozen
    have fB1 := xB1.frozen
    have fB2 := xB2.frozen
    have fB3 := xB3.frozen
    have xA1c := xA1.cell1
    have xA0c := xA.cell1
    have xB2c := xB2.cell0
    have xB3c := xB3.cell1
    have lA := xA.lt
    have lB := xB.lt
    have aX := box_ne (HBX.out.below hI HBX.out.lt) xA (by decide)
    have aY := box_ne (HBY.out.below hI HBY.out.lt) xA (by decide)
    have bX := box_ne (HBX.out.below hI HBX.out.lt) xB (by decide)
    have bY := box_ne (HBY.out.below hI HBY.out.lt) xB (by decide)
    have wAB : RowKit.Below w.heap.size w w2 := hB0.trans (hI.mono hB0.size)
    obtain ⟨W3, hW3⟩ : ∃ W, (((w2.setCell ⟨bA, 0, none⟩ (.int .u8 0)).setCell ⟨bA, 1, none⟩ (.int .i64 ((i1 : Int) + 1))).setCell ⟨bB, 0, none⟩ (.int .u8 1)).setCell ⟨bB, 1, none⟩ (.int .i64 ((i2 : Int) + 1)) = W := ⟨_, rfl⟩
    have HX3 : Hid (Boxed2 W3 w.heap.size 52 (.int .u8 x0) (.int .u8 x1)) := Lib.hid (by rw [← hW3]; exact ((((HBX.out.below hI HBX.out.lt).other aX).other aX).other bX).other bX)
    have HY3 : Hid (Boxed2 W3 (w.heap.size + 1) 52 (.int .u8 y0) (.int .u8 y1)) := Lib.hid (by rw [← hW3]; exact ((((HBY.out.below hI HBY.out.lt).other aY).other aY).other bY).other bY)
    have HA3 : Hid (Boxed2 W3 bA 26 (.int .u8 0) (.int .i64 ((i1 : Int) + 1))) := Lib.hid (by rw [← hW3]; exact (((xA.set0 _).set1 _).other hAB).other hAB)
    have HB3 : Hid (Boxed2 W3 bB 26 (.int .u8 1) (.int .i64 ((i2 : Int) + 1))) := Lib.hid (by rw [← hW3]; exact (((xB.other hAB.symm).other hAB.symm).set0 _).set1 _)
    have hB3 : RowKit.Below w.heap.size w W3 := by
      rw [← hW3]
      exact (((wAB.setCell (p := ⟨bA, 0, none⟩) hbA _).setCell (p := ⟨bA, 1, none⟩) hbA _).setCell (p := ⟨bB, 0, none⟩) hbB _).setCell (p := ⟨bB, 1, none⟩) hbB _
    obtain ⟨m1, hm1⟩ : ∃ m : Nat, m = x0 % 5 := ⟨_, rfl⟩
    obtain ⟨m2, hm2⟩ : ∃ m : Nat, m = x1 % 5 := ⟨_, rfl⟩
    have r1 := HR1.out
    have r2 := HR2.out
    have r3 : Int.tmod (x0 : Int) 5 = (m1 : Int) := by rw [hm1]; rfl
    have r4 : Int.tmod (x1 : Int) 5 = (m2 : Int) := by rw [hm2]; rfl
    have hw2 := HW2.out
    have c0 := HX3.out.cell0
    have c1 := HX3.out.cell1
    have d0' := HY3.out.cell0
    have d1' := HY3.out.cell1
    have HM1 : Hid (m1 < 5) := Lib.hid (by omega)
    have HM2 : Hid (m2 < 5) := Lib.hid (by omega)
    clear hm1 hm2 xA xB xA1 xB1 xB2 xB3 hXf hLf hI HBX HBY hB0 aX aY bX bY HN0 HND1 HND2
    have HTM : Hid (ofM [(i1, m1), (q2, m2)] = backT i1 i2 m1 m2) := Lib.hid (by rw [HQ2.out]; exact ofM_two HI1.out HI2.out HM1.out HM2.out)
    have HLP : Hid (LieP (W3.alloc (.cells #[.int .u8 i1, .int .u8 m1, .int .u8 q2, .int .u8 m2] 56)) (some ⟨W3.heap.size, 0, none⟩) [(i1, m1), (q2, m2)]) := Lib.hid (by
      have hn := heap_alloc_new W3 (.cells #[.int .u8 i1, .int .u8 m1, .int .u8 q2, .int .u8 m2] 56)
      refine .inr ⟨_, 0, rfl, by simp, fun i x hx => ?_⟩
      generalize (W3.alloc (.cells #[.int .u8 i1, .int .u8 m1, .int .u8 q2, .int .u8 m2] 56)) = W at hn
      match i, hx with
      | 0, hx => cases hx; exact ⟨by simp [World.cell?, hn], by simp [World.cell?, hn]⟩
      | 1, hx => cases hx; exact ⟨by simp [World.cell?, hn], by simp [World.cell?, hn]⟩
      | i + 2, hx => simp at hx)
    have hB4 := hB3.alloc hB3.size (.cells #[.int .u8 i1, .int .u8 m1, .int .u8 q2, .int .u8 m2] 56)
    have HX4 := Lib.hid (HX3.out.alloc (.cells #[.int .u8 i1, .int .u8 m1, .int .u8 q2, .int .u8 m2] 56))
    have HA4 := Lib.hid (HA3.out.alloc (.cells #[.int .u8 i1, .int .u8 m1, .int .u8 q2, .int .u8 m2] 56))
    have HB4 := Lib.hid (HB3.out.alloc (.cells #[.int .u8 i1, .int .u8 m1, .int .u8 q2, .int .u8 m2] 56))
    go_wp2_with (go_at_call 21; refine (Of_any (some ⟨W3.heap.size, 0, none⟩) [(i1, m1), (q2, m2)] 2 _ HLP.out).mono ?_; rw [HTM.out]; rintro e w5 ⟨⟨⟨fa, fs, fc⟩, ⟨ga, gs, gc⟩⟩, rfl, hbd, hb⟩; simp only [Bds.v, Bed.v]; have hB5 : RowKit.Below w.heap.size w w5 := hB4.trans (hb.mono hB4.size))
    obtain ⟨W6, hW6⟩ : ∃ W, w5.alloc (.cells #[.slice fa fs.length fc, .slice ga gs.length gc] 35) = W := ⟨_, rfl⟩
    have h56 : RowKit.Below w5.heap.size w5 W6 := by rw [← hW6]; exact below1 _ _
    have hB6 : RowKit.Below w.heap.size w W6 := hB5.trans (h56.mono hB5.size)
    have HX6 := Lib.hid ((HX4.out.below hb HX4.out.lt).below h56 (HX4.out.below hb HX4.out.lt).lt)
    have HA6 := Lib.hid ((HA4.out.below hb HA4.out.lt).below h56 (HA4.out.below hb HA4.out.lt).lt)
    have HB6 := Lib.hid ((HB4.out.below hb HB4.out.lt).below h56 (HB4.out.below hb HB4.out.lt).lt)
    have HC6 : Hid (Boxed2 W6 w5.heap.size 35 (.slice fa fs.length fc) (.slice ga gs.length gc)) := Lib.hid (by rw [← hW6]; exact Boxed2.new _ _ _ _)
    have HD6 : Hid (Bds.ok W6.heap.size W6 ⟨⟨fa, fs, fc⟩, ⟨ga, gs, gc⟩⟩) := Lib.hid (hbd.out.2.2.1.onw h56)
    have HRD : Hid (Reads (backT i1 i2 m1 m2) ⟨⟨fa, fs, fc⟩, ⟨ga, gs, gc⟩⟩) := Lib.hid hbd.out.1
    have HTO : Hid (TOk (backT i1 i2 m1 m2)) := Lib.hid (by rw [← HTM.out]; exact ofM_ok _)
    rw [hW6]
    clear hW6 hb hbd h56 hB5 hB4 hB3 HX3 HA3 HB3 HX4 HA4 HB4 HY3 HTM HLP c0 c1 d0' d1' wAB fA1 fB1 fB2 fB3 xA1c xA0c xB2c xB3c xA0 fA fB lA lB
    have HR3 := Lib.hid r3
    have HR4 := Lib.hid r4
    have HV1 : Hid (IntKind.i64.wrap (m1 : Int) = (m1 : Int)) := Lib.hid (IntWalk.i64_in _ (by have := HM1.out; omega))
    have HV2 : Hid (IntKind.i64.wrap (m2 : Int) = (m2 : Int)) := Lib.hid (IntWalk.i64_in _ (by have := HM2.out; omega))
    clear r1 r2 r3 r4 hw2
    refine rgT2 9 [some 41, some 42, some 43, some 44, some 45, some 46, some 47, some 48, some 9, some 10] (psiBk4 w.heap.size x0 x1 m1 m2) (fun w' => RowKit.Below W6.heap.size W6 w') (by kernel_rfl) (by kernel_rfl) (by kernel_rfl) (by kernel_rfl) (psiBk4_stab w.heap.size x0 x1 m1 m2) (fun _ _ h hb => h.trans (hb.mono h.size)) (fun i9 o9 hi9 ho9 aq9 w1 hs hout hI hdep => ?_) ?_ ((Below.refl _ _).drew)
    · skip
      match i9, hi9, ho9 with
      | 0, _, ho9 =>
        obtain rfl := Option.some.inj ho9
        refine .inl ⟨rfl, fun K hK => ?_⟩
        exact st_idx52 (k := 0) rfl ((hout 2 rfl).trans rfl) rfl (by decide) (hK _ _ (Below.refl _ _) rfl)
      | 1, _, ho9 =>
        obtain rfl := Option.some.inj ho9
        have dq0 : (aq9.tmps.getD 41 undef) = .pointer (some ⟨w.heap.size, 0, none⟩) := hdep ⟨0, .data⟩ (by simp) rfl _ rfl
        refine .inl ⟨rfl, fun K hK => ?_⟩
        exact ld5 rfl dq0 (HX6.out.below hI HX6.out.lt).cell0 (hK _ _ (Below.refl _ _) rfl)
      | 2, _, ho9 =>
        obtain rfl := Option.some.inj ho9
        have dq1 : (aq9.tmps.getD 42 undef) = .int .u8 x0 := hdep ⟨1, .data⟩ (by simp) rfl _ rfl
        refine .inl ⟨rfl, fun K hK => ?_⟩
        exact st_rem5 rfl dq1 rfl (hK _ _ (Below.refl _ _) (congrArg (Value.int .u8) HR3.out))
      | 3, _, ho9 =>
        obtain rfl := Option.some.inj ho9
        have dq2 : (aq9.tmps.getD 43 undef) = .int .u8 m1 := hdep ⟨2, .data⟩ (by simp) rfl _ rfl
        refine .inl ⟨rfl, fun K hK => ?_⟩
        exact st_conv53 rfl dq2 HV1.out (hK _ _ (Below.refl _ _) rfl)
      | 4, _, ho9 =>
        obtain rfl := Option.some.inj ho9
        refine .inl ⟨rfl, fun K hK => ?_⟩
        exact st_idx52 (k := 1) rfl ((hout 2 rfl).trans rfl) rfl (by decide) (hK _ _ (Below.refl _ _) rfl)
      | 5, _, ho9 =>
        obtain rfl := Option.some.inj ho9
        have dq4 : (aq9.tmps.getD 45 undef) = .pointer (some ⟨w.heap.size, 1, none⟩) := hdep ⟨4, .data⟩ (by simp) rfl _ rfl
        refine .inl ⟨rfl, fun K hK => ?_⟩
        exact ld5 rfl dq4 (HX6.out.below hI HX6.out.lt).cell1 (hK _ _ (Below.refl _ _) rfl)
      | 6, _, ho9 =>
        obtain rfl := Option.some.inj ho9
        have dq5 : (aq9.tmps.getD 46 undef) = .int .u8 x1 := hdep ⟨5, .data⟩ (by simp) rfl _ rfl
        refine .inl ⟨rfl, fun K hK => ?_⟩
        exact st_rem5 rfl dq5 rfl (hK _ _ (Below.refl _ _) (congrArg (Value.int .u8) HR4.out))
      | 7, _, ho9 =>
        obtain rfl := Option.some.inj ho9
        have dq6 : (aq9.tmps.getD 47 undef) = .int .u8 m2 := hdep ⟨6, .data⟩ (by simp) rfl _ rfl
        refine .inl ⟨rfl, fun K hK => ?_⟩
        exact st_conv53 rfl dq6 HV2.out (hK _ _ (Below.refl _ _) rfl)
      | 8, _, ho9 =>
        obtain rfl := Option.some.inj ho9
        have dq3 : (aq9.tmps.getD 44 undef) = .int .i64 m1 := hdep ⟨3, .data⟩ (by simp) rfl _ rfl
        refine .inl ⟨rfl, fun K hK => ?_⟩
        exact st_assign rfl dq3 (hK _ _ (Below.refl _ _) rfl)
      | i9 + 9, hi9, _ => exact absurd hi9 (by omega)
    · intro a2 w7 hs hd hout hI hall
      obtain ⟨tmps, defers⟩ := a2
      have e_44 : (tmps.getD 44 undef) = .int .i64 m1 := hall 3 _ (by decide) rfl
      have e_48 : (tmps.getD 48 undef) = .int .i64 m2 := hall 7 _ (by decide) rfl
      have e_9 : (tmps.getD 9 undef) = .int .i64 m1 := hall 8 _ (by decide) rfl
      simp only at hs hd hout
      have ef := frameAt [some 41, some 42, some 43, some 44, some 45, some 46, some 47, some 48, some 9, some 10] _ tmps hs hout
      obtain ⟨sv4, hu⟩ : ∃ u : Nat → Value, u = fun s => tmps.getD s undef := ⟨_, rfl⟩
      have eu_44 : sv4 44 = .int .i64 m1 := by rw [hu]; exact e_44
      have eu_48 : sv4 48 = .int .i64 m2 := by rw [hu]; exact e_48
      have eu_9 : sv4 9 = .int .i64 m1 := by rw [hu]; exact e_9
      rw [← hu] at ef
      have ef2 : tmps = #[Value.agg #[Value.int IntKind.u8 x0, Value.int IntKind.u8 x1], Value.agg #[Value.int IntKind.u8 y0, Value.int IntKind.u8 y1], Value.pointer (some { block := w.heap.size, off := 0 }), Value.pointer (some { block := w.heap.size + 1, off := 0 }), Value.bool false, Value.pointer (some { block := bA, off := 0 }), Value.pointer (some { block := bB, off := 0 }), Value.slice (some { block := W3.heap.size, off := 0 }) 2 2, Value.pointer (some { block := w5.heap.size, off := 0 }), (sv4 9), (sv4 10), undef, undef, undef, sv1 14, sv1 15, sv1 16, Value.agg #[Value.int IntKind.u8 0, Value.int IntKind.i64 (i1 + 1)], sv1 18, sv1 19, sv1 20, sv1 21, Value.agg #[Value.int IntKind.u8 1, Value.int IntKind.i64 (i2 + 1)], Value.pointer (some { block := w.heap.size + 1, off := 0 }), Value.int IntKind.u8 y0, Value.int IntKind.u8 i1, Value.pointer (some { block := w.heap.size, off := 0 }), Value.int IntKind.u8 x0, Value.int IntKind.u8 m1, Value.agg #[Value.int IntKind.u8 i1, Value.int IntKind.u8 m1], Value.pointer (some { block := w.heap.size + 1, off := 1 }), Value.int IntKind.u8 y1, Value.int IntKind.u8 i2, Value.int IntKind.u8 q2, Value.pointer (some { block := w.heap.size, off := 1 }), Value.int IntKind.u8 x1, Value.int IntKind.u8 m2, Value.agg #[Value.int IntKind.u8 q2, Value.int IntKind.u8 m2], Value.slice (some { block := W3.heap.size, off := 0 }) 2 2, Value.slice (some { block := W3.heap.size, off := 0 }) 2 2, Value.agg #[Value.slice fa fs.length fc, Value.slice ga gs.length gc], (sv4 41), (sv4 42), (sv4 43), (sv4 44), (sv4 45), (sv4 46), (sv4 47), (sv4 48), undef, undef, undef, undef, undef, undef, undef, undef, undef, undef, undef, undef, undef, undef, undef, undef, undef, undef, undef, undef, undef, undef, undef, undef, undef, undef, undef, undef, undef, undef, undef, undef, undef, undef, undef, undef, undef, undef, undef, undef, undef, undef, undef, undef, undef, undef, undef, undef, undef, undef, undef, undef, undef, undef, undef, undef, undef, undef, undef, undef, undef, undef, undef, undef, undef, undef, undef, undef, undef, undef, undef, undef, undef, undef] := ef
      subst hd
      rw [eu_44, eu_48, eu_9] at ef2
      rw [ef2]
      clear ef ef2 hu hs hout hall e_44 eu_44 e_48 eu_48 e_9 eu_9
      simp only [List.drop_succ_cons, List.drop_zero]
      have hB7 : RowKit.Below w.heap.size w w7 := hB6.trans (hI.mono hB6.size)
      have HA7 := Lib.hid (HA6.out.below hI HA6.out.lt)
      have HB7 := Lib.hid (HB6.out.below hI HB6.out.lt)
      have HC7 := Lib.hid (HC6.out.below hI HC6.out.lt)
      have HD7 := Lib.hid (HD6.out.onw hI)
      have a0 := HA7.out.cell0
      have a1 := HA7.out.cell1
      have b0 := HB7.out.cell0
      have b1 := HB7.out.cell1
      have e0 := HC7.out.cell0
      have e1 := HC7.out.cell1
      have n1 := HM1.out
      have n2 := HM2.out
      have hJ := Lib.hid (join_any ⟨⟨fa, fs, fc⟩, ⟨ga, gs, gc⟩⟩ (backT i1 i2 m1 m2) 0 ((i1 : Int) + 1) 1 ((i2 : Int) + 1) (by omega) (by omega) w7.heap.size w7 (Nat.le_refl _) HD7.out HRD.out HTO.out)
      have hER := back_err (m1 := m1) (m2 := m2) HI1.out HI2.out
      clear HX6 HA6 HB6 HC6 HD6 hI hB6 HR3 HR4 HV1 HV2
      by_cases hm0 : m1 = 0
      · rw [if_pos hm0] at hER
        have g1 : ((m1 : Int) == 0) = true := by simp; omega
        have HE := Lib.hid hER
        clear hm0 hER
        go_wp2_with (first
          | (go_at_call 19; refine hJ.out.mono ?_; intro e w8 hch; have hch := hch.not (by rw [HE.out]; decide); rw [HE.out] at hch; obtain ⟨rfl, hb⟩ := hch; have hB8 := hB7.trans (hb.mono hB7.size); simp only [zBeds]; have hB9 := hB8.alloc hB8.size (.cells #[.slice none 0 0, .slice none 0 0] 35))
          | (go_at_call 16; refine (lives_any _).mono ?_; rintro e w9 ⟨rfl, hb9⟩; have hBF := hB9.trans (hb9.mono hB9.size)))
        go_ret
        exact ⟨rfl, hBF⟩
      · rw [if_neg hm0] at hER
        have g1 : ((m1 : Int) == 0) = false := by simp; omega
        by_cases hm4 : 4 < m2 + m1
        · rw [if_pos hm4] at hER
          have g2 : (4 : Int) < (m1 : Int) + (m2 : Int) := by omega
          have HE := Lib.hid hER
          clear hm0 hER hm4
          go_wp2_with (first
            | (go_at_call 19; refine hJ.out.mono ?_; intro e w8 hch; have hch := hch.not (by rw [HE.out]; decide); rw [HE.out] at hch; obtain ⟨rfl, hb⟩ := hch; have hB8 := hB7.trans (hb.mono hB7.size); simp only [zBeds]; have hB9 := hB8.alloc hB8.size (.cells #[.slice none 0 0, .slice none 0 0] 35))
            | (go_at_call 16; refine (lives_any _).mono ?_; rintro e w9 ⟨rfl, hb9⟩; have hBF := hB9.trans (hb9.mono hB9.size)))
          go_ret
          exact ⟨rfl, hBF⟩
        · rw [if_neg hm4] at hER
          have g2 : ¬ ((4 : Int) < (m1 : Int) + (m2 : Int)) := by omega
          have HE := Lib.hid hER
          have HJT : Hid (joinT (backT i1 i2 m1 m2) 0 ((i1 : Int) + 1) 1 ((i2 : Int) + 1) = thereT i1 i2 m1 m2) := Lib.hid (back_join HI1.out HI2.out)
          have HTH : Hid (TOk (thereT i1 i2 m1 m2)) := Lib.hid (by
            have h := HTO.out.join (by omega) (by omega) HE.out
            rw [HJT.out] at h; exact h)
          have HAE : Hid (joinErr (thereT i1 i2 m1 m2) 1 ((i2 : Int) + 1) 0 ((i1 : Int) + 1) = 0) := Lib.hid (again_err HI1.out HI2.out hm0 (by omega))
          have HAJ : Hid (joinT (thereT i1 i2 m1 m2) 1 ((i2 : Int) + 1) 0 ((i1 : Int) + 1) = againT i1 i2 m1 m2) := Lib.hid (again_join HI1.out HI2.out)
          obtain ⟨z, hz⟩ : ∃ z : Bool, z = decide (m2 = 0) := ⟨_, rfl⟩
          have HSB : Hid (decide (againT i1 i2 m1 m2 = backT i1 i2 m1 m2) = z) := Lib.hid (by rw [hz]; exact decide_eq_decide.2 (again_iff HI1.out HI2.out))
          have g5 : ((m2 : Int) == 0) = z := by
            rw [hz]
            by_cases h : m2 = 0
            · simp [h]
            · simp [h]
          have tkJ : True := trivial
          have tkA : True := trivial
          have tkB : True := trivial
          have tkC : True := trivial
          have tkK : True := trivial
          clear hz hm0 hER hm4
          go_wp2_with (first
            | (go_at_call 19; clear tkJ; refine hJ.out.mono ?_; intro e w8 hch; have hch := hch.done HE.out; rw [HJT.out] at hch; obtain ⟨⟨⟨ja, js, jc⟩, ⟨ka, ks, kc⟩⟩, rfl, hbd, hb⟩ := hch; simp only [Bds.v, Bed.v]; have h89 := hb.trans ((below1 w8 (.cells #[.slice ja js.length jc, .slice ka ks.length kc] 35)).mono hb.size); have hB9 := hB7.trans (h89.mono hB7.size); have HA9 := Lib.hid (HA7.out.below h89 HA7.out.lt); have HB9 := Lib.hid (HB7.out.below h89 HB7.out.lt); have HC9 := Lib.hid (HC7.out.below h89 HC7.out.lt); have HD9 := Lib.hid (HD7.out.onw h89); have HJ9 := Lib.hid (Boxed2.new w8 35 (.slice ja js.length jc) (.slice ka ks.length kc)); have HE9 : Hid (Bds.ok _ _ ⟨⟨ja, js, jc⟩, ⟨ka, ks, kc⟩⟩) := Lib.hid (hbd.out.2.2.1.onw (below1 w8 (.cells #[.slice ja js.length jc, .slice ka ks.length kc] 35))); have HR1 := Lib.hid hbd.out.1; clear a0 a1 b0 b1 e0 e1 HA7 HB7 HC7 HD7 hb hbd hJ h89; have a0 := HA9.out.cell0; have a1 := HA9.out.cell1; have b0 := HB9.out.cell0; have b1 := HB9.out.cell1; have j0 := HJ9.out.cell0; have j1 := HJ9.out.cell1)
            | (go_at_call 12; clear tkA; refine (at_any ⟨⟨ja, js, jc⟩, ⟨ka, ks, kc⟩⟩ 0 ((i1 : Int) + 1) (by omega) _ (w8.alloc (.cells #[.slice ja js.length jc, .slice ka ks.length kc] 35)) (Nat.le_refl _) HE9.out).mono ?_; rintro e w10 ⟨⟨pa, pl, pc⟩, rfl, hc, hb⟩; have hl := hc.out.1.trans ((HR1.out.atM (k := 0) (i := i1) (by omega) HI1.out).trans (by rw [show 0 * 40 + i1 = i1 by omega, there_1 HI1.out HI2.out])); simp only at hl; subst hl; simp only [Cel.v, List.length_nil]; have hB10 := hB9.trans (hb.mono hB9.size); have HA10 := Lib.hid (HA9.out.below hb HA9.out.lt); have HB10 := Lib.hid (HB9.out.below hb HB9.out.lt); have HC10 := Lib.hid (HC9.out.below hb HC9.out.lt); have HJ10 := Lib.hid (HJ9.out.below hb HJ9.out.lt); have HD10 := Lib.hid (HD9.out.onw hb); have HE10 := Lib.hid (HE9.out.onw hb); clear a0 a1 b0 b1 j0 j1 HA9 HB9 HC9 HJ9 HD9 HE9 hb hc; have a0 := HA10.out.cell0; have a1 := HA10.out.cell1; have b0 := HB10.out.cell0; have b1 := HB10.out.cell1; have j0 := HJ10.out.cell0; have j1 := HJ10.out.cell1)
            | (go_at_call 12; clear tkB; refine (at_any ⟨⟨ja, js, jc⟩, ⟨ka, ks, kc⟩⟩ 1 ((i2 : Int) + 1) (by omega) _ w10 (Nat.le_refl _) HE10.out).mono ?_; rintro e w11 ⟨⟨qa, ql, qc⟩, rfl, hc, hb⟩; have hl := congrArg List.length (hc.out.1.trans ((HR1.out.atM (k := 1) (i := i2) (by omega) HI2.out).trans (by rw [show 1 * 40 + i2 = 40 + i2 by omega, there_2 HI1.out HI2.out]))); rw [List.length_append, nms_length, nms_length] at hl; simp only at hl; have g3 : ((ql.length : Int) != (m1 : Int) + (m2 : Int)) = false := (by rw [bne_eq_false_iff_eq]; omega); simp only [Cel.v]; have hB11 := hB10.trans (hb.mono hB10.size); have HA11 := Lib.hid (HA10.out.below hb HA10.out.lt); have HB11 := Lib.hid (HB10.out.below hb HB10.out.lt); have HC11 := Lib.hid (HC10.out.below hb HC10.out.lt); have HJ11 := Lib.hid (HJ10.out.below hb HJ10.out.lt); have HD11 := Lib.hid (HD10.out.onw hb); have HE11 := Lib.hid (HE10.out.onw hb); clear a0 a1 b0 b1 j0 j1 HA10 HB10 HC10 HJ10 HD10 HE10 hb hc hl; have a0 := HA11.out.cell0; have a1 := HA11.out.cell1; have b0 := HB11.out.cell0; have b1 := HB11.out.cell1; have j0 := HJ11.out.cell0; have j1 := HJ11.out.cell1)
            | (go_at_call 19; clear tkK; refine (join_any ⟨⟨ja, js, jc⟩, ⟨ka, ks, kc⟩⟩ (thereT i1 i2 m1 m2) 1 ((i2 : Int) + 1) 0 ((i1 : Int) + 1) (by omega) (by omega) _ w11 (Nat.le_refl _) HE11.out HR1.out HTH.out).mono ?_; intro e w12 hch; have hch := hch.done HAE.out; rw [HAJ.out] at hch; obtain ⟨⟨⟨la, ls, lc⟩, ⟨na, ns, nc⟩⟩, rfl, hbd, hb⟩ := hch; simp only [Bds.v, Bed.v]; have h89 := hb.trans ((below1 w12 (.cells #[.slice la ls.length lc, .slice na ns.length nc] 35)).mono hb.size); have hB13 := hB11.trans (h89.mono hB11.size); have HA13 := Lib.hid (HA11.out.below h89 HA11.out.lt); have HC13 := Lib.hid (HC11.out.below h89 HC11.out.lt); have HD13 := Lib.hid (HD11.out.onw h89); have HK13 := Lib.hid (Boxed2.new w12 35 (.slice la ls.length lc) (.slice na ns.length nc)); have HE13 : Hid (Bds.ok _ _ ⟨⟨la, ls, lc⟩, ⟨na, ns, nc⟩⟩) := Lib.hid (hbd.out.2.2.1.onw (below1 w12 (.cells #[.slice la ls.length lc, .slice na ns.length nc] 35))); have HR2 := Lib.hid hbd.out.1; clear a0 a1 b0 b1 j0 j1 HA11 HB11 HC11 HD11 HJ11 HE11 hb hbd h89; have a0 := HA13.out.cell0; have a1 := HA13.out.cell1; have e0 := HC13.out.cell0; have e1 := HC13.out.cell1; have k0 := HK13.out.cell0; have k1 := HK13.out.cell1)
            | (go_at_call 12; clear tkC; refine (at_any ⟨⟨la, ls, lc⟩, ⟨na, ns, nc⟩⟩ 0 ((i1 : Int) + 1) (by omega) _ (w12.alloc (.cells #[.slice la ls.length lc, .slice na ns.length nc] 35)) (Nat.le_refl _) HE13.out).mono ?_; rintro e w14 ⟨⟨ra, rl, rc⟩, rfl, hc, hb⟩; have hl := congrArg List.length (hc.out.1.trans ((HR2.out.atM (k := 0) (i := i1) (by omega) HI1.out).trans (by rw [show 0 * 40 + i1 = i1 by omega, again_1 HI1.out HI2.out]))); rw [List.length_append, nms_length, nms_length] at hl; simp only at hl; have g4 : ((rl.length : Int) == (m1 : Int) + (m2 : Int)) = true := (by rw [beq_iff_eq]; omega); simp only [Cel.v]; have hB14 := hB13.trans (hb.mono hB13.size); have HC14 := Lib.hid (HC13.out.below hb HC13.out.lt); have HK14 := Lib.hid (HK13.out.below hb HK13.out.lt); have HD14 := Lib.hid (HD13.out.onw hb); have HE14 := Lib.hid (HE13.out.onw hb); clear a0 a1 e0 e1 k0 k1 HA13 HC13 HK13 HD13 HE13 hb hc hl; have e0 := HC14.out.cell0; have e1 := HC14.out.cell1; have k0 := HK14.out.cell0; have k1 := HK14.out.cell1)
            | (go_at_call 18; refine (same_beds ⟨⟨la, ls, lc⟩, ⟨na, ns, nc⟩⟩ ⟨⟨fa, fs, fc⟩, ⟨ga, gs, gc⟩⟩ (againT i1 i2 m1 m2) (backT i1 i2 m1 m2) _ w14 (Nat.le_refl _) HE14.out HD14.out HR2.out.zero HRD.out.zero).mono ?_; rw [HSB.out]; rintro e w15 ⟨rfl, hb⟩; have hB15 := hB14.trans (hb.mono hB14.size))
            | (go_at_call 16; refine (lives_any _).mono ?_; rintro e w16 ⟨rfl, hb9⟩; have hBF := hB15.trans (hb9.mono hB15.size)))
          go_ret
          exact ⟨rfl, hBF⟩
end Go.Proofs.Ytgkgmikkfbbfgaa
