import Derived.Test.YthdmpoiecmbinaaDoorLives
import Derived.Lib.QuietBelow
namespace Go.Proofs.YthdmpoiecmbinaaDoor
open Go.RowKit Go.Sort

theorem lneedle_is (i b a : Int) (w : World) (h0 : 0 ≤ i) (h1 : i ≤ 255) (hb : i % 80 / 40 = b) (ha : 1 + i % 40 = a) :
    Calls Tryd.prog 15 #[.int .u8 i] w fun e w' => e = .returned (.agg #[.int .u8 b, .int .i64 a]) ∧ Below w.heap.size w w' := by
  subst hb ha
  exact lneedle_any i w h0 h1

theorem ret_bool {a b : Bool} (h : a = b) : Ending.returned (.bool a) = .returned (.bool b) := by rw [h]

set_option maxRecDepth 100000 in
set_option maxHeartbeats 2000000 in
theorem order_core (x y z bn an bm am r s1 s2 : Int) (w : World) (x0 : 0 ≤ x) (x1 : x ≤ 255) (y0 : 0 ≤ y) (y1 : y ≤ 255) (z0 : 0 ≤ z)
    (hx : x % 80 / 40 = bn ∧ 1 + x % 40 = an) (hy : y % 80 / 40 = bm ∧ 1 + y % 40 = am) (hr : z % 9 - 4 = r)
    (hbn : bn = 0 ∨ bn = 1) (hbm : bm = 0 ∨ bm = 1) (an0 : 1 ≤ an) (an1 : an ≤ 40) (am0 : 1 ≤ am) (am1 : am ≤ 40) (r0 : -4 ≤ r) (r1 : r ≤ 4)
    (h1 : spt bn an r = s1) (h2 : spt bm am r = s2) :
    Calls Tryd.prog 8 #[.int .u8 x, .int .u8 y, .int .u8 z] w fun e w' => e = .returned (.bool true) ∧ Below w.heap.size w w' := by
  have HX := Lib.hid hx
  have HY := Lib.hid hy
  have H1 := Lib.hid h1
  have H2 := Lib.hid h2
  have HBN := Lib.hid hbn
  have HBM := Lib.hid hbm
  have H1' := h1
  have H2' := h2
  unfold spt at H1' H2'
  have E1 := Lib.hid H1'
  have E2 := Lib.hid H2'
  clear hx hy h1 h2 hbn hbm H1' H2'
  go_enter Tryd.func8, Tryd.ntmps8
  go_wp2_with (go_at_call 15; refine (lneedle_is x bn an _ x0 x1 HX.out.1 HX.out.2).mono ?_; rintro e w1 ⟨rfl, hb⟩; refine Hid.out ?_)
  have B1 := hb
  have z1 := hb.size
  clear hb
  refine Lib.hid ?_
  go_wp2_with (go_at_call 15; refine (lneedle_is y bm am _ y0 y1 HY.out.1 HY.out.2).mono ?_; rintro e w2 ⟨rfl, hb⟩; refine Hid.out ?_)
  have z2 := hb.size
  have B2 : Below w.heap.size w w2 := B1.trans (hb.mono (by omega))
  clear hb
  refine Lib.hid ?_
  go_wp2_with fail
  obtain ⟨W, hW⟩ : ∃ W : World, W = (w2.alloc (Obj.cells #[Value.int IntKind.u8 bn, Value.int IntKind.i64 an] 24)).alloc (Obj.cells #[Value.int IntKind.u8 bm, Value.int IntKind.i64 am] 24) := ⟨_, rfl⟩
  rw [← hW]
  have oA : Own W w2.heap.size bn an := by rw [hW]; exact Own.alloc (Own.new bn an rfl) _
  have oB : Own W (w2.heap.size + 1) bm am := by rw [hW]; exact Own.new bm am (by simp)
  have BW : Below w.heap.size w W := by rw [hW]; exact (B2.alloc (by omega) _).alloc (by simp; omega) _
  clear hW
  obtain ⟨cA0, cA1, -, -, -, -⟩ := oA.facts
  obtain ⟨cB0, cB1, -, -, -, -⟩ := oB.facts
  go_quiet (fail)
  obtain ⟨V, hV⟩ : ∃ V : World, V = W.drewN nq := ⟨_, rfl⟩
  rw [← hV]
  have oA' : Own V w2.heap.size bn an := by rw [hV]; exact Own.below (below_drewN (Below.refl _ _) _) oA
  have oB' : Own V (w2.heap.size + 1) bm am := by rw [hV]; exact Own.below (below_drewN (Below.refl _ _) _) oB
  have BV : Below w.heap.size w V := by rw [hV]; exact below_drewN BW _
  clear hV oA oB BW cA0 cA1 cB0 cB1 B1 B2 z1 z2
  obtain ⟨cA0, cA1, -, -, -, -⟩ := oA'.facts
  obtain ⟨cB0, cB1, -, -, -, -⟩ := oB'.facts
  have gA0 := fun d os => cell_regrown (d := d) (os := os) cA0
  have gA1 := fun d os => cell_regrown (d := d) (os := os) cA1
  have gB0 := fun d os => cell_regrown (d := d) (os := os) cB0
  have gB1 := fun d os => cell_regrown (d := d) (os := os) cB1
  have k1 : ∀ d os, Calls Tryd.prog 11 #[.agg #[.int .u8 bn, .int .i64 an], .int .i64 r] (grow (redrawn V d) os) fun e w'' => e = .returned (.int .i64 s1) ∧ ∃ p : Regrown, w'' = grow (redrawn V p.d) p.os :=
    fun d os => Calls.regrown_of (spot_is _ _ _ _ _ HBN.out an0 an1 r0 r1 H1.out)
  have k2 : ∀ d os, Calls Tryd.prog 11 #[.agg #[.int .u8 bm, .int .i64 am], .int .i64 r] (grow (redrawn V d) os) fun e w'' => e = .returned (.int .i64 s2) ∧ ∃ p : Regrown, w'' = grow (redrawn V p.d) p.os :=
    fun d os => Calls.regrown_of (spot_is _ _ _ _ _ HBM.out am0 am1 r0 r1 H2.out)
  have k3 : ∀ d os, Calls Tryd.prog 12 #[] (grow (redrawn V d) os) fun e w'' => e = .returned (.bool true) ∧ ∃ p : Regrown, w'' = grow (redrawn V p.d) p.os :=
    fun d os => Calls.regrown_of (lives _)
  have K1 := Lib.hid k1
  have K2 := Lib.hid k2
  have K3 := Lib.hid k3
  clear k1 k2 k3 H1 H2
  rcases HBN.out with rfl | rfl <;> rcases HBM.out with rfl | rfl
  · rcases Int.lt_trichotomy an am with h | rfl | h
    · have hd : decide (s1 < s2) = true := by have := E1.out; have := E2.out; simp at *; omega
      go_wp2_with fail
      refine wp_region_quiet_below (by kernel_rfl) (by kernel_rfl) ?_
      iterate 3 (quiet_step (exact K1.out _ _))
      iterate 3 (quiet_step (exact K2.out _ _))
      repeat (quiet_step (exact K3.out _ _))
      refine wpQuiet_nil ?_
      intro _ hw'
      obtain ⟨⟨dq, osq⟩, hw''⟩ := hw'
      subst hw''
      go_wp2
      go_ret
      exact ⟨rfl, BV.trans ((below_regrown V dq osq).mono BV.size)⟩
    · have hd : decide (s1 < s2) = false := by have := E1.out; have := E2.out; simp at *; omega
      go_wp2_with fail
      refine wp_region_quiet_below (by kernel_rfl) (by kernel_rfl) ?_
      iterate 3 (quiet_step (exact K1.out _ _))
      iterate 3 (quiet_step (exact K2.out _ _))
      repeat (quiet_step (exact K3.out _ _))
      refine wpQuiet_nil ?_
      intro _ hw'
      obtain ⟨⟨dq, osq⟩, hw''⟩ := hw'
      subst hw''
      go_wp2
      go_ret
      exact ⟨rfl, BV.trans ((below_regrown V dq osq).mono BV.size)⟩
    · have hd : decide (s1 < s2) = false := by have := E1.out; have := E2.out; simp at *; omega
      go_wp2_with fail
      refine wp_region_quiet_below (by kernel_rfl) (by kernel_rfl) ?_
      iterate 3 (quiet_step (exact K1.out _ _))
      iterate 3 (quiet_step (exact K2.out _ _))
      repeat (quiet_step (exact K3.out _ _))
      refine wpQuiet_nil ?_
      intro _ hw'
      obtain ⟨⟨dq, osq⟩, hw''⟩ := hw'
      subst hw''
      go_wp2
      go_ret
      exact ⟨ret_bool (by simp; omega), BV.trans ((below_regrown V dq osq).mono BV.size)⟩
  · rcases Int.lt_trichotomy an (am + r) with h | rfl | h
    · have hd : decide (s1 < s2) = true := by have := E1.out; have := E2.out; simp at *; omega
      go_wp2_with fail
      refine wp_region_quiet_below (by kernel_rfl) (by kernel_rfl) ?_
      iterate 3 (quiet_step (exact K1.out _ _))
      iterate 3 (quiet_step (exact K2.out _ _))
      repeat (quiet_step (exact K3.out _ _))
      refine wpQuiet_nil ?_
      intro _ hw'
      obtain ⟨⟨dq, osq⟩, hw''⟩ := hw'
      subst hw''
      go_wp2
      go_ret
      exact ⟨rfl, BV.trans ((below_regrown V dq osq).mono BV.size)⟩
    · have hd : decide (s1 < s2) = false := by have := E1.out; have := E2.out; simp at *; omega
      go_wp2_with fail
      refine wp_region_quiet_below (by kernel_rfl) (by kernel_rfl) ?_
      iterate 3 (quiet_step (exact K1.out _ _))
      iterate 3 (quiet_step (exact K2.out _ _))
      repeat (quiet_step (exact K3.out _ _))
      refine wpQuiet_nil ?_
      intro _ hw'
      obtain ⟨⟨dq, osq⟩, hw''⟩ := hw'
      subst hw''
      go_wp2
      go_ret
      exact ⟨rfl, BV.trans ((below_regrown V dq osq).mono BV.size)⟩
    · have hd : decide (s1 < s2) = false := by have := E1.out; have := E2.out; simp at *; omega
      go_wp2_with fail
      refine wp_region_quiet_below (by kernel_rfl) (by kernel_rfl) ?_
      iterate 3 (quiet_step (exact K1.out _ _))
      iterate 3 (quiet_step (exact K2.out _ _))
      repeat (quiet_step (exact K3.out _ _))
      refine wpQuiet_nil ?_
      intro _ hw'
      obtain ⟨⟨dq, osq⟩, hw''⟩ := hw'
      subst hw''
      go_wp2
      go_ret
      exact ⟨ret_bool (by simp; omega), BV.trans ((below_regrown V dq osq).mono BV.size)⟩
  · rcases Int.lt_trichotomy (an + r) am with h | rfl | h
    · have hd : decide (s1 < s2) = true := by have := E1.out; have := E2.out; simp at *; omega
      go_wp2_with fail
      refine wp_region_quiet_below (by kernel_rfl) (by kernel_rfl) ?_
      iterate 3 (quiet_step (exact K1.out _ _))
      iterate 3 (quiet_step (exact K2.out _ _))
      repeat (quiet_step (exact K3.out _ _))
      refine wpQuiet_nil ?_
      intro _ hw'
      obtain ⟨⟨dq, osq⟩, hw''⟩ := hw'
      subst hw''
      go_wp2
      go_ret
      exact ⟨rfl, BV.trans ((below_regrown V dq osq).mono BV.size)⟩
    · have hd : decide (s1 < s2) = true := by have := E1.out; have := E2.out; simp at *; omega
      go_wp2_with fail
      refine wp_region_quiet_below (by kernel_rfl) (by kernel_rfl) ?_
      iterate 3 (quiet_step (exact K1.out _ _))
      iterate 3 (quiet_step (exact K2.out _ _))
      repeat (quiet_step (exact K3.out _ _))
      refine wpQuiet_nil ?_
      intro _ hw'
      obtain ⟨⟨dq, osq⟩, hw''⟩ := hw'
      subst hw''
      go_wp2
      go_ret
      exact ⟨rfl, BV.trans ((below_regrown V dq osq).mono BV.size)⟩
    · have hd : decide (s1 < s2) = false := by have := E1.out; have := E2.out; simp at *; omega
      go_wp2_with fail
      refine wp_region_quiet_below (by kernel_rfl) (by kernel_rfl) ?_
      iterate 3 (quiet_step (exact K1.out _ _))
      iterate 3 (quiet_step (exact K2.out _ _))
      repeat (quiet_step (exact K3.out _ _))
      refine wpQuiet_nil ?_
      intro _ hw'
      obtain ⟨⟨dq, osq⟩, hw''⟩ := hw'
      subst hw''
      go_wp2
      go_ret
      exact ⟨ret_bool (by simp; omega), BV.trans ((below_regrown V dq osq).mono BV.size)⟩
  · rcases Int.lt_trichotomy an am with h | rfl | h
    · have hd : decide (s1 < s2) = true := by have := E1.out; have := E2.out; simp at *; omega
      go_wp2_with fail
      refine wp_region_quiet_below (by kernel_rfl) (by kernel_rfl) ?_
      iterate 3 (quiet_step (exact K1.out _ _))
      iterate 3 (quiet_step (exact K2.out _ _))
      repeat (quiet_step (exact K3.out _ _))
      refine wpQuiet_nil ?_
      intro _ hw'
      obtain ⟨⟨dq, osq⟩, hw''⟩ := hw'
      subst hw''
      go_wp2
      go_ret
      exact ⟨rfl, BV.trans ((below_regrown V dq osq).mono BV.size)⟩
    · have hd : decide (s1 < s2) = false := by have := E1.out; have := E2.out; simp at *; omega
      go_wp2_with fail
      refine wp_region_quiet_below (by kernel_rfl) (by kernel_rfl) ?_
      iterate 3 (quiet_step (exact K1.out _ _))
      iterate 3 (quiet_step (exact K2.out _ _))
      repeat (quiet_step (exact K3.out _ _))
      refine wpQuiet_nil ?_
      intro _ hw'
      obtain ⟨⟨dq, osq⟩, hw''⟩ := hw'
      subst hw''
      go_wp2
      go_ret
      exact ⟨rfl, BV.trans ((below_regrown V dq osq).mono BV.size)⟩
    · have hd : decide (s1 < s2) = false := by have := E1.out; have := E2.out; simp at *; omega
      go_wp2_with fail
      refine wp_region_quiet_below (by kernel_rfl) (by kernel_rfl) ?_
      iterate 3 (quiet_step (exact K1.out _ _))
      iterate 3 (quiet_step (exact K2.out _ _))
      repeat (quiet_step (exact K3.out _ _))
      refine wpQuiet_nil ?_
      intro _ hw'
      obtain ⟨⟨dq, osq⟩, hw''⟩ := hw'
      subst hw''
      go_wp2
      go_ret
      exact ⟨ret_bool (by simp; omega), BV.trans ((below_regrown V dq osq).mono BV.size)⟩

theorem needle_parts (i : Int) : (i % 80 / 40 = 0 ∨ i % 80 / 40 = 1) ∧ 1 ≤ 1 + i % 40 ∧ 1 + i % 40 ≤ 40 := by omega

theorem order_all (x y z : Int) (w : World) (hx : 0 ≤ x ∧ x ≤ 255) (hy : 0 ≤ y ∧ y ≤ 255) (hz : 0 ≤ z ∧ z ≤ 255) :
    Calls Tryd.prog 8 #[.int .u8 x, .int .u8 y, .int .u8 z] w fun e w' => e = .returned (.bool true) ∧ Below w.heap.size w w' := by
  obtain ⟨n1, n2, n3⟩ := needle_parts x
  obtain ⟨m1, m2, m3⟩ := needle_parts y
  exact order_core x y z _ _ _ _ _ _ _ w hx.1 hx.2 hy.1 hy.2 hz.1 ⟨rfl, rfl⟩ ⟨rfl, rfl⟩ rfl n1 m1 n2 n3 m2 m3 (by omega) (by omega) rfl rfl

end Go.Proofs.YthdmpoiecmbinaaDoor
