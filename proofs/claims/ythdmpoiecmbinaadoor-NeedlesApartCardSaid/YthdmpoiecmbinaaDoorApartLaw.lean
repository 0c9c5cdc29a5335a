import Derived.Test.YthdmpoiecmbinaaDoorOrder
import Derived.Deep.LoopGhost
namespace Go.Proofs.YthdmpoiecmbinaaDoor
open Go.RowKit Go.Sort

set_option maxRecDepth 100000 in
set_option maxHeartbeats 4000000 in
theorem apart_same0
    (x y z an r s1 : Int) (w : World) (x0 : 0 ≤ x) (x1 : x ≤ 255) (y0 : 0 ≤ y) (y1 : y ≤ 255) (z0 : 0 ≤ z)
    (hx : x % 80 / 40 = 0 ∧ 1 + x % 40 = an) (hy : y % 80 / 40 = 0 ∧ 1 + y % 40 = an) (hr : z % 8 - 4 = r)
    (an0 : 1 ≤ an) (an1 : an ≤ 40) (r0 : -4 ≤ r) (_ : r ≤ 3)
    (h1 : spt 0 an r = s1) :
    Calls Tryd.prog 7 #[.int .u8 x, .int .u8 y, .int .u8 z] w fun e w' => e = .returned (.bool true) ∧ Below w.heap.size w w' := by
  have hs1 : -12 ≤ s1 ∧ s1 ≤ 176 := by rw [← h1]; simp [spt]; omega
  obtain ⟨l1, u1⟩ := hs1
  have H3 := Lib.hid (show spt 0 an (r + 1) = s1 by rw [← h1]; simp [spt])
  have HX := Lib.hid hx
  have HY := Lib.hid hy
  have H1 := Lib.hid h1
  clear hx hy h1
  go_enter Tryd.func7, Tryd.ntmps7
  go_wp2_with (go_at_call 15; refine (lneedle_is x 0 an _ x0 x1 HX.out.1 HX.out.2).mono ?_; rintro e w1 ⟨rfl, hb⟩; refine Hid.out ?_)
  have B1 := hb
  have z1 := hb.size
  clear hb
  refine Lib.hid ?_
  go_wp2_with (go_at_call 15; refine (lneedle_is y 0 an _ y0 y1 HY.out.1 HY.out.2).mono ?_; rintro e w2 ⟨rfl, hb⟩; refine Hid.out ?_)
  have z2 := hb.size
  have B2 : Below w.heap.size w w2 := B1.trans (hb.mono (by omega))
  clear hb
  refine Lib.hid ?_
  go_wp2_with fail
  obtain ⟨W, hW⟩ : ∃ W : World, W = (w2.alloc (Obj.cells #[Value.int IntKind.u8 0, Value.int IntKind.i64 an] 24)).alloc (Obj.cells #[Value.int IntKind.u8 0, Value.int IntKind.i64 an] 24) := ⟨_, rfl⟩
  rw [← hW]
  have oA : Own W w2.heap.size 0 an := by rw [hW]; exact Own.alloc (Own.new 0 an rfl) _
  have oB : Own W (w2.heap.size + 1) 0 an := by rw [hW]; exact Own.new 0 an (by simp)
  have BW : Below w.heap.size w W := by rw [hW]; exact (B2.alloc (by omega) _).alloc (by simp; omega) _
  clear hW B1 B2
  have gA0 := fun d os => cell_regrown (d := d) (os := os) oA.1
  have gA1 := fun d os => cell_regrown (d := d) (os := os) oA.2.1
  have gB0 := fun d os => cell_regrown (d := d) (os := os) oB.1
  have gB1 := fun d os => cell_regrown (d := d) (os := os) oB.2.1
  have K1 := Lib.hid (show ∀ d os, Calls Tryd.prog 11 #[.agg #[.int .u8 0, .int .i64 an], .int .i64 r] (grow (redrawn W d) os) fun e w'' => e = .returned (.int .i64 s1) ∧ ∃ p : Regrown, w'' = grow (redrawn W p.d) p.os from
    fun d os => Calls.regrown_of (spot_is _ _ _ _ _ (by omega) an0 an1 r0 (by omega) H1.out))
  have K2 := Lib.hid (show ∀ d os, Calls Tryd.prog 11 #[.agg #[.int .u8 0, .int .i64 an], .int .i64 r] (grow (redrawn W d) os) fun e w'' => e = .returned (.int .i64 s1) ∧ ∃ p : Regrown, w'' = grow (redrawn W p.d) p.os from
    fun d os => Calls.regrown_of (spot_is _ _ _ _ _ (by omega) an0 an1 r0 (by omega) H1.out))
  refine wp_region_quiet_below (by kernel_rfl) (by kernel_rfl) ?_
  iterate 3 (quiet_step (exact K1.out _ _))
  iterate 3 (quiet_step (exact K2.out _ _))
  repeat (quiet_step (fail))
  refine wpQuiet_nil ?_
  intro _ hw'
  obtain ⟨⟨dq, osq⟩, hw''⟩ := hw'
  subst hw''
  obtain ⟨V, hV⟩ : ∃ V : World, V = grow (redrawn W dq) osq := ⟨_, rfl⟩
  rw [← hV]
  have oA' : Own V w2.heap.size 0 an := by rw [hV]; exact Own.below (below_regrown W dq osq) oA
  have oB' : Own V (w2.heap.size + 1) 0 an := by rw [hV]; exact Own.below (below_regrown W dq osq) oB
  have BV : Below w.heap.size w V := by rw [hV]; exact BW.trans ((below_regrown W dq osq).mono BW.size)
  clear hV oA oB BW gA0 gA1 gB0 gB1 K1 K2
  obtain ⟨cA0, cA1, -, -, -, -⟩ := oA'.facts
  obtain ⟨cB0, cB1, -, -, -, -⟩ := oB'.facts
  go_wp2_with (go_at_call 11; refine (spot_is 0 an (r + 1) _ _ (by omega) an0 an1 (by omega) (by omega) H3.out).mono ?_; rintro e w3 ⟨rfl, hb⟩; refine Hid.out ?_)
  have B3 : Below w.heap.size w w3 := BV.trans (hb.mono BV.size)
  replace oA' := Own.below hb oA'
  clear hb cA0 cA1 cB0 cB1
  obtain ⟨cA0, cA1, -, -, -, -⟩ := oA'.facts
  refine Lib.hid ?_
  go_wp2_with (go_at_call 12; refine (lives _).mono ?_; rintro e w4 ⟨rfl, hb⟩; refine Hid.out ?_)
  have B4 : Below w.heap.size w w4 := B3.trans (hb.mono B3.size)
  clear hb
  refine Lib.hid ?_
  go_wp2
  go_ret
  exact ⟨rfl, B4⟩

set_option maxRecDepth 100000 in
set_option maxHeartbeats 4000000 in
theorem apart_diff0
    (x y z an am r s1 s2 : Int) (w : World) (x0 : 0 ≤ x) (x1 : x ≤ 255) (y0 : 0 ≤ y) (y1 : y ≤ 255) (z0 : 0 ≤ z)
    (hx : x % 80 / 40 = 0 ∧ 1 + x % 40 = an) (hy : y % 80 / 40 = 0 ∧ 1 + y % 40 = am) (hr : z % 8 - 4 = r)
    (an0 : 1 ≤ an) (an1 : an ≤ 40) (am0 : 1 ≤ am) (am1 : am ≤ 40) (r0 : -4 ≤ r) (_ : r ≤ 3)
    (h1 : spt 0 an r = s1) (h2 : spt 0 am r = s2) (hne : ¬ an = am) :
    Calls Tryd.prog 7 #[.int .u8 x, .int .u8 y, .int .u8 z] w fun e w' => e = .returned (.bool true) ∧ Below w.heap.size w w' := by
  have hns : (s1 == s2) = false := by
    have : s1 ≠ s2 := by rw [← h1, ← h2]; simp [spt]; omega
    simpa using this
  have hs1 : -12 ≤ s1 ∧ s1 ≤ 176 := by rw [← h1]; simp [spt]; omega
  obtain ⟨l1, u1⟩ := hs1
  have H3 := Lib.hid (show spt 0 an (r + 1) = s1 by rw [← h1]; simp [spt])
  have HX := Lib.hid hx
  have HY := Lib.hid hy
  have H1 := Lib.hid h1
  have H2 := Lib.hid h2
  clear hx hy h1 h2
  go_enter Tryd.func7, Tryd.ntmps7
  go_wp2_with (go_at_call 15; refine (lneedle_is x 0 an _ x0 x1 HX.out.1 HX.out.2).mono ?_; rintro e w1 ⟨rfl, hb⟩; refine Hid.out ?_)
  have B1 := hb
  have z1 := hb.size
  clear hb
  refine Lib.hid ?_
  go_wp2_with (go_at_call 15; refine (lneedle_is y 0 am _ y0 y1 HY.out.1 HY.out.2).mono ?_; rintro e w2 ⟨rfl, hb⟩; refine Hid.out ?_)
  have z2 := hb.size
  have B2 : Below w.heap.size w w2 := B1.trans (hb.mono (by omega))
  clear hb
  refine Lib.hid ?_
  go_wp2_with fail
  obtain ⟨W, hW⟩ : ∃ W : World, W = (w2.alloc (Obj.cells #[Value.int IntKind.u8 0, Value.int IntKind.i64 an] 24)).alloc (Obj.cells #[Value.int IntKind.u8 0, Value.int IntKind.i64 am] 24) := ⟨_, rfl⟩
  rw [← hW]
  have oA : Own W w2.heap.size 0 an := by rw [hW]; exact Own.alloc (Own.new 0 an rfl) _
  have oB : Own W (w2.heap.size + 1) 0 am := by rw [hW]; exact Own.new 0 am (by simp)
  have BW : Below w.heap.size w W := by rw [hW]; exact (B2.alloc (by omega) _).alloc (by simp; omega) _
  clear hW B1 B2
  have gA0 := fun d os => cell_regrown (d := d) (os := os) oA.1
  have gA1 := fun d os => cell_regrown (d := d) (os := os) oA.2.1
  have gB0 := fun d os => cell_regrown (d := d) (os := os) oB.1
  have gB1 := fun d os => cell_regrown (d := d) (os := os) oB.2.1
  have K1 := Lib.hid (show ∀ d os, Calls Tryd.prog 11 #[.agg #[.int .u8 0, .int .i64 an], .int .i64 r] (grow (redrawn W d) os) fun e w'' => e = .returned (.int .i64 s1) ∧ ∃ p : Regrown, w'' = grow (redrawn W p.d) p.os from
    fun d os => Calls.regrown_of (spot_is _ _ _ _ _ (by omega) an0 an1 r0 (by omega) H1.out))
  have K2 := Lib.hid (show ∀ d os, Calls Tryd.prog 11 #[.agg #[.int .u8 0, .int .i64 am], .int .i64 r] (grow (redrawn W d) os) fun e w'' => e = .returned (.int .i64 s2) ∧ ∃ p : Regrown, w'' = grow (redrawn W p.d) p.os from
    fun d os => Calls.regrown_of (spot_is _ _ _ _ _ (by omega) am0 am1 r0 (by omega) H2.out))
  refine wp_region_quiet_below (by kernel_rfl) (by kernel_rfl) ?_
  iterate 3 (quiet_step (exact K1.out _ _))
  iterate 3 (quiet_step (exact K2.out _ _))
  repeat (quiet_step (fail))
  refine wpQuiet_nil ?_
  intro _ hw'
  obtain ⟨⟨dq, osq⟩, hw''⟩ := hw'
  subst hw''
  obtain ⟨V, hV⟩ : ∃ V : World, V = grow (redrawn W dq) osq := ⟨_, rfl⟩
  rw [← hV]
  have oA' : Own V w2.heap.size 0 an := by rw [hV]; exact Own.below (below_regrown W dq osq) oA
  have oB' : Own V (w2.heap.size + 1) 0 am := by rw [hV]; exact Own.below (below_regrown W dq osq) oB
  have BV : Below w.heap.size w V := by rw [hV]; exact BW.trans ((below_regrown W dq osq).mono BW.size)
  clear hV oA oB BW gA0 gA1 gB0 gB1 K1 K2
  obtain ⟨cA0, cA1, -, -, -, -⟩ := oA'.facts
  obtain ⟨cB0, cB1, -, -, -, -⟩ := oB'.facts
  go_wp2_with (go_at_call 11; refine (spot_is 0 an (r + 1) _ _ (by omega) an0 an1 (by omega) (by omega) H3.out).mono ?_; rintro e w3 ⟨rfl, hb⟩; refine Hid.out ?_)
  have B3 : Below w.heap.size w w3 := BV.trans (hb.mono BV.size)
  replace oA' := Own.below hb oA'
  clear hb cA0 cA1 cB0 cB1
  obtain ⟨cA0, cA1, -, -, -, -⟩ := oA'.facts
  refine Lib.hid ?_
  go_wp2_with (go_at_call 12; refine (lives _).mono ?_; rintro e w4 ⟨rfl, hb⟩; refine Hid.out ?_)
  have B4 : Below w.heap.size w w4 := B3.trans (hb.mono B3.size)
  clear hb
  refine Lib.hid ?_
  go_wp2
  go_ret
  exact ⟨rfl, B4⟩

set_option maxRecDepth 100000 in
set_option maxHeartbeats 4000000 in
theorem apart_other0
    (x y z an am r s1 s2 : Int) (w : World) (x0 : 0 ≤ x) (x1 : x ≤ 255) (y0 : 0 ≤ y) (y1 : y ≤ 255) (z0 : 0 ≤ z)
    (hx : x % 80 / 40 = 0 ∧ 1 + x % 40 = an) (hy : y % 80 / 40 = 1 ∧ 1 + y % 40 = am) (hr : z % 8 - 4 = r)
    (an0 : 1 ≤ an) (an1 : an ≤ 40) (am0 : 1 ≤ am) (am1 : am ≤ 40) (r0 : -4 ≤ r) (_ : r ≤ 3)
    (h1 : spt 0 an r = s1) (h2 : spt 1 am r = s2) :
    Calls Tryd.prog 7 #[.int .u8 x, .int .u8 y, .int .u8 z] w fun e w' => e = .returned (.bool true) ∧ Below w.heap.size w w' := by
  have hns : (s1 == s2) = false := by
    have : s1 ≠ s2 := by rw [← h1, ← h2]; simp [spt]; omega
    simpa using this
  have hs1 : -12 ≤ s1 ∧ s1 ≤ 176 := by rw [← h1]; simp [spt]; omega
  obtain ⟨l1, u1⟩ := hs1
  have H3 := Lib.hid (show spt 0 an (r + 1) = s1 by rw [← h1]; simp [spt])
  have HX := Lib.hid hx
  have HY := Lib.hid hy
  have H1 := Lib.hid h1
  have H2 := Lib.hid h2
  clear hx hy h1 h2
  go_enter Tryd.func7, Tryd.ntmps7
  go_wp2_with (go_at_call 15; refine (lneedle_is x 0 an _ x0 x1 HX.out.1 HX.out.2).mono ?_; rintro e w1 ⟨rfl, hb⟩; refine Hid.out ?_)
  have B1 := hb
  have z1 := hb.size
  clear hb
  refine Lib.hid ?_
  go_wp2_with (go_at_call 15; refine (lneedle_is y 1 am _ y0 y1 HY.out.1 HY.out.2).mono ?_; rintro e w2 ⟨rfl, hb⟩; refine Hid.out ?_)
  have z2 := hb.size
  have B2 : Below w.heap.size w w2 := B1.trans (hb.mono (by omega))
  clear hb
  refine Lib.hid ?_
  go_wp2_with fail
  obtain ⟨W, hW⟩ : ∃ W : World, W = (w2.alloc (Obj.cells #[Value.int IntKind.u8 0, Value.int IntKind.i64 an] 24)).alloc (Obj.cells #[Value.int IntKind.u8 1, Value.int IntKind.i64 am] 24) := ⟨_, rfl⟩
  rw [← hW]
  have oA : Own W w2.heap.size 0 an := by rw [hW]; exact Own.alloc (Own.new 0 an rfl) _
  have oB : Own W (w2.heap.size + 1) 1 am := by rw [hW]; exact Own.new 1 am (by simp)
  have BW : Below w.heap.size w W := by rw [hW]; exact (B2.alloc (by omega) _).alloc (by simp; omega) _
  clear hW B1 B2
  have gA0 := fun d os => cell_regrown (d := d) (os := os) oA.1
  have gA1 := fun d os => cell_regrown (d := d) (os := os) oA.2.1
  have gB0 := fun d os => cell_regrown (d := d) (os := os) oB.1
  have gB1 := fun d os => cell_regrown (d := d) (os := os) oB.2.1
  have K1 := Lib.hid (show ∀ d os, Calls Tryd.prog 11 #[.agg #[.int .u8 0, .int .i64 an], .int .i64 r] (grow (redrawn W d) os) fun e w'' => e = .returned (.int .i64 s1) ∧ ∃ p : Regrown, w'' = grow (redrawn W p.d) p.os from
    fun d os => Calls.regrown_of (spot_is _ _ _ _ _ (by omega) an0 an1 r0 (by omega) H1.out))
  have K2 := Lib.hid (show ∀ d os, Calls Tryd.prog 11 #[.agg #[.int .u8 1, .int .i64 am], .int .i64 r] (grow (redrawn W d) os) fun e w'' => e = .returned (.int .i64 s2) ∧ ∃ p : Regrown, w'' = grow (redrawn W p.d) p.os from
    fun d os => Calls.regrown_of (spot_is _ _ _ _ _ (by omega) am0 am1 r0 (by omega) H2.out))
  refine wp_region_quiet_below (by kernel_rfl) (by kernel_rfl) ?_
  iterate 3 (quiet_step (exact K1.out _ _))
  iterate 3 (quiet_step (exact K2.out _ _))
  repeat (quiet_step (fail))
  refine wpQuiet_nil ?_
  intro _ hw'
  obtain ⟨⟨dq, osq⟩, hw''⟩ := hw'
  subst hw''
  obtain ⟨V, hV⟩ : ∃ V : World, V = grow (redrawn W dq) osq := ⟨_, rfl⟩
  rw [← hV]
  have oA' : Own V w2.heap.size 0 an := by rw [hV]; exact Own.below (below_regrown W dq osq) oA
  have oB' : Own V (w2.heap.size + 1) 1 am := by rw [hV]; exact Own.below (below_regrown W dq osq) oB
  have BV : Below w.heap.size w V := by rw [hV]; exact BW.trans ((below_regrown W dq osq).mono BW.size)
  clear hV oA oB BW gA0 gA1 gB0 gB1 K1 K2
  obtain ⟨cA0, cA1, -, -, -, -⟩ := oA'.facts
  obtain ⟨cB0, cB1, -, -, -, -⟩ := oB'.facts
  go_wp2_with (go_at_call 11; refine (spot_is 0 an (r + 1) _ _ (by omega) an0 an1 (by omega) (by omega) H3.out).mono ?_; rintro e w3 ⟨rfl, hb⟩; refine Hid.out ?_)
  have B3 : Below w.heap.size w w3 := BV.trans (hb.mono BV.size)
  replace oA' := Own.below hb oA'
  clear hb cA0 cA1 cB0 cB1
  obtain ⟨cA0, cA1, -, -, -, -⟩ := oA'.facts
  refine Lib.hid ?_
  go_wp2_with (go_at_call 12; refine (lives _).mono ?_; rintro e w4 ⟨rfl, hb⟩; refine Hid.out ?_)
  have B4 : Below w.heap.size w w4 := B3.trans (hb.mono B3.size)
  clear hb
  refine Lib.hid ?_
  go_wp2
  go_ret
  exact ⟨rfl, B4⟩

set_option maxRecDepth 100000 in
set_option maxHeartbeats 4000000 in
theorem apart_same1
    (x y z an r s1 : Int) (w : World) (x0 : 0 ≤ x) (x1 : x ≤ 255) (y0 : 0 ≤ y) (y1 : y ≤ 255) (z0 : 0 ≤ z)
    (hx : x % 80 / 40 = 1 ∧ 1 + x % 40 = an) (hy : y % 80 / 40 = 1 ∧ 1 + y % 40 = an) (hr : z % 8 - 4 = r)
    (an0 : 1 ≤ an) (an1 : an ≤ 40) (r0 : -4 ≤ r) (_ : r ≤ 3)
    (h1 : spt 1 an r = s1) :
    Calls Tryd.prog 7 #[.int .u8 x, .int .u8 y, .int .u8 z] w fun e w' => e = .returned (.bool true) ∧ Below w.heap.size w w' := by
  have hs1 : -12 ≤ s1 ∧ s1 ≤ 176 := by rw [← h1]; simp [spt]; omega
  obtain ⟨l1, u1⟩ := hs1
  obtain ⟨q, hq⟩ : ∃ q : Int, an + r = q := ⟨_, rfl⟩
  have E1 : 4 * q = s1 := by rw [← h1, ← hq]; simp [spt]
  have H3 := Lib.hid (show spt 1 an (r + 1) = s1 + 4 by rw [← h1]; simp [spt]; omega)
  have HE := Lib.hid E1
  clear E1
  have HX := Lib.hid hx
  have HY := Lib.hid hy
  have H1 := Lib.hid h1
  clear hx hy h1
  go_enter Tryd.func7, Tryd.ntmps7
  go_wp2_with (go_at_call 15; refine (lneedle_is x 1 an _ x0 x1 HX.out.1 HX.out.2).mono ?_; rintro e w1 ⟨rfl, hb⟩; refine Hid.out ?_)
  have B1 := hb
  have z1 := hb.size
  clear hb
  refine Lib.hid ?_
  go_wp2_with (go_at_call 15; refine (lneedle_is y 1 an _ y0 y1 HY.out.1 HY.out.2).mono ?_; rintro e w2 ⟨rfl, hb⟩; refine Hid.out ?_)
  have z2 := hb.size
  have B2 : Below w.heap.size w w2 := B1.trans (hb.mono (by omega))
  clear hb
  refine Lib.hid ?_
  go_wp2_with fail
  obtain ⟨W, hW⟩ : ∃ W : World, W = (w2.alloc (Obj.cells #[Value.int IntKind.u8 1, Value.int IntKind.i64 an] 24)).alloc (Obj.cells #[Value.int IntKind.u8 1, Value.int IntKind.i64 an] 24) := ⟨_, rfl⟩
  rw [← hW]
  have oA : Own W w2.heap.size 1 an := by rw [hW]; exact Own.alloc (Own.new 1 an rfl) _
  have oB : Own W (w2.heap.size + 1) 1 an := by rw [hW]; exact Own.new 1 an (by simp)
  have BW : Below w.heap.size w W := by rw [hW]; exact (B2.alloc (by omega) _).alloc (by simp; omega) _
  clear hW B1 B2
  have gA0 := fun d os => cell_regrown (d := d) (os := os) oA.1
  have gA1 := fun d os => cell_regrown (d := d) (os := os) oA.2.1
  have gB0 := fun d os => cell_regrown (d := d) (os := os) oB.1
  have gB1 := fun d os => cell_regrown (d := d) (os := os) oB.2.1
  have K1 := Lib.hid (show ∀ d os, Calls Tryd.prog 11 #[.agg #[.int .u8 1, .int .i64 an], .int .i64 r] (grow (redrawn W d) os) fun e w'' => e = .returned (.int .i64 s1) ∧ ∃ p : Regrown, w'' = grow (redrawn W p.d) p.os from
    fun d os => Calls.regrown_of (spot_is _ _ _ _ _ (by omega) an0 an1 r0 (by omega) H1.out))
  have K2 := Lib.hid (show ∀ d os, Calls Tryd.prog 11 #[.agg #[.int .u8 1, .int .i64 an], .int .i64 r] (grow (redrawn W d) os) fun e w'' => e = .returned (.int .i64 s1) ∧ ∃ p : Regrown, w'' = grow (redrawn W p.d) p.os from
    fun d os => Calls.regrown_of (spot_is _ _ _ _ _ (by omega) an0 an1 r0 (by omega) H1.out))
  refine wp_region_quiet_below (by kernel_rfl) (by kernel_rfl) ?_
  iterate 3 (quiet_step (exact K1.out _ _))
  iterate 3 (quiet_step (exact K2.out _ _))
  repeat (quiet_step (fail))
  refine wpQuiet_nil ?_
  intro _ hw'
  obtain ⟨⟨dq, osq⟩, hw''⟩ := hw'
  subst hw''
  obtain ⟨V, hV⟩ : ∃ V : World, V = grow (redrawn W dq) osq := ⟨_, rfl⟩
  rw [← hV]
  have oA' : Own V w2.heap.size 1 an := by rw [hV]; exact Own.below (below_regrown W dq osq) oA
  have oB' : Own V (w2.heap.size + 1) 1 an := by rw [hV]; exact Own.below (below_regrown W dq osq) oB
  have BV : Below w.heap.size w V := by rw [hV]; exact BW.trans ((below_regrown W dq osq).mono BW.size)
  clear hV oA oB BW gA0 gA1 gB0 gB1 K1 K2
  obtain ⟨cA0, cA1, -, -, -, -⟩ := oA'.facts
  obtain ⟨cB0, cB1, -, -, -, -⟩ := oB'.facts
  go_wp2_with (go_at_call 11; refine (spot_is 1 an (r + 1) _ _ (by omega) an0 an1 (by omega) (by omega) H3.out).mono ?_; rintro e w3 ⟨rfl, hb⟩; refine Hid.out ?_)
  have B3 : Below w.heap.size w w3 := BV.trans (hb.mono BV.size)
  replace oA' := Own.below hb oA'
  clear hb cA0 cA1 cB0 cB1
  obtain ⟨cA0, cA1, -, -, -, -⟩ := oA'.facts
  refine Lib.hid ?_
  clear cA0 cA1
  go_wp2_with fail
  go_loopg [12, 13] 41 (fun g pm i wr => ∃ (k : Nat) (m : Int), k ≤ 40 ∧ g = 41 - k ∧ pm = .int .i64 m ∧ i = .int .i64 k ∧ ((m = 0 ∧ ¬ (1 ≤ q ∧ q ≤ k)) ∨ (m = 1 ∧ 1 ≤ q ∧ q ≤ k)) ∧ Own wr w2.heap.size 1 an ∧ Below w.heap.size w wr)
  case atStart => exact ⟨0, 0, by omega, rfl, rfl, rfl, by omega, oA', B3⟩
  case round =>
    obtain ⟨k, m, hk, hg, rfl, rfl, hm, oA, hB⟩ := hrel
    clear oA'
    have HG := Lib.hid hg
    have HM := Lib.hid hm
    clear hg hm
    by_cases hk40 : k < 40
    · obtain ⟨s', hs'⟩ : ∃ s : Int, spt 0 (1 + k) r = s := ⟨_, rfl⟩
      have E2 : 4 * (k : Int) + 6 = s' := by rw [← hs']; simp [spt]; omega
      have F2 := Lib.hid E2
      have HS := Lib.hid hs'
      clear hs' E2
      rcases Int.lt_trichotomy q (k + 1) with h | h | h
      · have t1 : s1 < s' := by have := F2.out; have := HE.out; omega
        have t2 : s1 + 4 ≤ s' := by have := F2.out; have := HE.out; omega
        have HH := Lib.hid h
        clear h
        go_wp2_with (go_at_call 15; refine (lneedle_is k 0 (1 + k) _ (by omega) (by omega) (by omega) (by omega)).mono ?_; rintro e v1 ⟨rfl, hb⟩; refine Hid.out ?_)
        replace oA := Own.below hb oA
        have C1 : Below w.heap.size w v1 := hB.trans (hb.mono hB.size)
        clear hb
        refine Lib.hid ?_
        go_wp2_with (go_at_call 11; refine (spot_is 0 (1 + k) r s' _ (by omega) (by omega) (by omega) (by omega) (by omega) HS.out).mono ?_; rintro e v2 ⟨rfl, hb⟩; refine Hid.out ?_)
        replace oA := Own.below hb oA
        have C2 : Below w.heap.size w v2 := C1.trans (hb.mono C1.size)
        clear hb
        refine Lib.hid ?_
        go_wp2
        go_roundg (gk - 1)
        case measure => have := HG.out; omega
        case rel => exact ⟨k + 1, m, by omega, by have := HG.out; omega, rfl, by go_num, by have := HM.out; have := HH.out; omega, oA, C2⟩
      · have t1 : s1 < s' := by have := F2.out; have := HE.out; omega
        have t2 : s' < s1 + 4 := by have := F2.out; have := HE.out; omega
        have HH := Lib.hid h
        obtain rfl : m = 0 := by have := HM.out; omega
        clear h
        go_wp2_with (go_at_call 15; refine (lneedle_is k 0 (1 + k) _ (by omega) (by omega) (by omega) (by omega)).mono ?_; rintro e v1 ⟨rfl, hb⟩; refine Hid.out ?_)
        replace oA := Own.below hb oA
        have C1 : Below w.heap.size w v1 := hB.trans (hb.mono hB.size)
        clear hb
        refine Lib.hid ?_
        go_wp2_with (go_at_call 11; refine (spot_is 0 (1 + k) r s' _ (by omega) (by omega) (by omega) (by omega) (by omega) HS.out).mono ?_; rintro e v2 ⟨rfl, hb⟩; refine Hid.out ?_)
        replace oA := Own.below hb oA
        have C2 : Below w.heap.size w v2 := C1.trans (hb.mono C1.size)
        clear hb
        refine Lib.hid ?_
        go_wp2
        go_roundg (gk - 1)
        case measure => have := HG.out; omega
        case rel => exact ⟨k + 1, 1, by omega, by have := HG.out; omega, rfl, by go_num, by have := HM.out; have := HH.out; omega, oA, C2⟩
      · have t1 : s' ≤ s1 := by have := F2.out; have := HE.out; omega
        have HH := Lib.hid h
        clear h
        go_wp2_with (go_at_call 15; refine (lneedle_is k 0 (1 + k) _ (by omega) (by omega) (by omega) (by omega)).mono ?_; rintro e v1 ⟨rfl, hb⟩; refine Hid.out ?_)
        replace oA := Own.below hb oA
        have C1 : Below w.heap.size w v1 := hB.trans (hb.mono hB.size)
        clear hb
        refine Lib.hid ?_
        go_wp2_with (go_at_call 11; refine (spot_is 0 (1 + k) r s' _ (by omega) (by omega) (by omega) (by omega) (by omega) HS.out).mono ?_; rintro e v2 ⟨rfl, hb⟩; refine Hid.out ?_)
        replace oA := Own.below hb oA
        have C2 : Below w.heap.size w v2 := C1.trans (hb.mono C1.size)
        clear hb
        refine Lib.hid ?_
        go_wp2
        go_roundg (gk - 1)
        case measure => have := HG.out; omega
        case rel => exact ⟨k + 1, m, by omega, by have := HG.out; omega, rfl, by go_num, by have := HM.out; have := HH.out; omega, oA, C2⟩
    · obtain rfl : k = 40 := by omega
      obtain ⟨cA0, cA1, -, -, -, -⟩ := oA.facts
      by_cases q1 : 1 ≤ q
      · by_cases q2 : q ≤ 40
        · obtain rfl : m = 1 := by have := HM.out; omega
          go_wp2_with (go_at_call 12; refine (lives _).mono ?_; rintro e w4 ⟨rfl, hb⟩; refine Hid.out ?_)
          have B4 : Below w.heap.size w w4 := hB.trans (hb.mono hB.size)
          clear hb
          refine Lib.hid ?_
          go_wp2
          go_ret
          exact ⟨rfl, B4⟩
        · obtain rfl : m = 0 := by have := HM.out; omega
          have qd : decide (q ≤ 40) = false := by simpa using q2
          go_wp2_with (go_at_call 12; refine (lives _).mono ?_; rintro e w4 ⟨rfl, hb⟩; refine Hid.out ?_)
          have B4 : Below w.heap.size w w4 := hB.trans (hb.mono hB.size)
          clear hb
          refine Lib.hid ?_
          go_wp2
          go_ret
          exact ⟨rfl, B4⟩
      · obtain rfl : m = 0 := by have := HM.out; omega
        have qd : decide (1 ≤ q) = false := by simpa using q1
        go_wp2_with (go_at_call 12; refine (lives _).mono ?_; rintro e w4 ⟨rfl, hb⟩; refine Hid.out ?_)
        have B4 : Below w.heap.size w w4 := hB.trans (hb.mono hB.size)
        clear hb
        refine Lib.hid ?_
        go_wp2
        go_ret
        exact ⟨rfl, B4⟩

set_option maxRecDepth 100000 in
set_option maxHeartbeats 4000000 in
theorem apart_diff1
    (x y z an am r s1 s2 : Int) (w : World) (x0 : 0 ≤ x) (x1 : x ≤ 255) (y0 : 0 ≤ y) (y1 : y ≤ 255) (z0 : 0 ≤ z)
    (hx : x % 80 / 40 = 1 ∧ 1 + x % 40 = an) (hy : y % 80 / 40 = 1 ∧ 1 + y % 40 = am) (hr : z % 8 - 4 = r)
    (an0 : 1 ≤ an) (an1 : an ≤ 40) (am0 : 1 ≤ am) (am1 : am ≤ 40) (r0 : -4 ≤ r) (_ : r ≤ 3)
    (h1 : spt 1 an r = s1) (h2 : spt 1 am r = s2) (hne : ¬ an = am) :
    Calls Tryd.prog 7 #[.int .u8 x, .int .u8 y, .int .u8 z] w fun e w' => e = .returned (.bool true) ∧ Below w.heap.size w w' := by
  have hns : (s1 == s2) = false := by
    have : s1 ≠ s2 := by rw [← h1, ← h2]; simp [spt]; omega
    simpa using this
  have hs1 : -12 ≤ s1 ∧ s1 ≤ 176 := by rw [← h1]; simp [spt]; omega
  obtain ⟨l1, u1⟩ := hs1
  obtain ⟨q, hq⟩ : ∃ q : Int, an + r = q := ⟨_, rfl⟩
  have E1 : 4 * q = s1 := by rw [← h1, ← hq]; simp [spt]
  have H3 := Lib.hid (show spt 1 an (r + 1) = s1 + 4 by rw [← h1]; simp [spt]; omega)
  have HE := Lib.hid E1
  clear E1
  have HX := Lib.hid hx
  have HY := Lib.hid hy
  have H1 := Lib.hid h1
  have H2 := Lib.hid h2
  clear hx hy h1 h2
  go_enter Tryd.func7, Tryd.ntmps7
  go_wp2_with (go_at_call 15; refine (lneedle_is x 1 an _ x0 x1 HX.out.1 HX.out.2).mono ?_; rintro e w1 ⟨rfl, hb⟩; refine Hid.out ?_)
  have B1 := hb
  have z1 := hb.size
  clear hb
  refine Lib.hid ?_
  go_wp2_with (go_at_call 15; refine (lneedle_is y 1 am _ y0 y1 HY.out.1 HY.out.2).mono ?_; rintro e w2 ⟨rfl, hb⟩; refine Hid.out ?_)
  have z2 := hb.size
  have B2 : Below w.heap.size w w2 := B1.trans (hb.mono (by omega))
  clear hb
  refine Lib.hid ?_
  go_wp2_with fail
  obtain ⟨W, hW⟩ : ∃ W : World, W = (w2.alloc (Obj.cells #[Value.int IntKind.u8 1, Value.int IntKind.i64 an] 24)).alloc (Obj.cells #[Value.int IntKind.u8 1, Value.int IntKind.i64 am] 24) := ⟨_, rfl⟩
  rw [← hW]
  have oA : Own W w2.heap.size 1 an := by rw [hW]; exact Own.alloc (Own.new 1 an rfl) _
  have oB : Own W (w2.heap.size + 1) 1 am := by rw [hW]; exact Own.new 1 am (by simp)
  have BW : Below w.heap.size w W := by rw [hW]; exact (B2.alloc (by omega) _).alloc (by simp; omega) _
  clear hW B1 B2
  have gA0 := fun d os => cell_regrown (d := d) (os := os) oA.1
  have gA1 := fun d os => cell_regrown (d := d) (os := os) oA.2.1
  have gB0 := fun d os => cell_regrown (d := d) (os := os) oB.1
  have gB1 := fun d os => cell_regrown (d := d) (os := os) oB.2.1
  have K1 := Lib.hid (show ∀ d os, Calls Tryd.prog 11 #[.agg #[.int .u8 1, .int .i64 an], .int .i64 r] (grow (redrawn W d) os) fun e w'' => e = .returned (.int .i64 s1) ∧ ∃ p : Regrown, w'' = grow (redrawn W p.d) p.os from
    fun d os => Calls.regrown_of (spot_is _ _ _ _ _ (by omega) an0 an1 r0 (by omega) H1.out))
  have K2 := Lib.hid (show ∀ d os, Calls Tryd.prog 11 #[.agg #[.int .u8 1, .int .i64 am], .int .i64 r] (grow (redrawn W d) os) fun e w'' => e = .returned (.int .i64 s2) ∧ ∃ p : Regrown, w'' = grow (redrawn W p.d) p.os from
    fun d os => Calls.regrown_of (spot_is _ _ _ _ _ (by omega) am0 am1 r0 (by omega) H2.out))
  refine wp_region_quiet_below (by kernel_rfl) (by kernel_rfl) ?_
  iterate 3 (quiet_step (exact K1.out _ _))
  iterate 3 (quiet_step (exact K2.out _ _))
  repeat (quiet_step (fail))
  refine wpQuiet_nil ?_
  intro _ hw'
  obtain ⟨⟨dq, osq⟩, hw''⟩ := hw'
  subst hw''
  obtain ⟨V, hV⟩ : ∃ V : World, V = grow (redrawn W dq) osq := ⟨_, rfl⟩
  rw [← hV]
  have oA' : Own V w2.heap.size 1 an := by rw [hV]; exact Own.below (below_regrown W dq osq) oA
  have oB' : Own V (w2.heap.size + 1) 1 am := by rw [hV]; exact Own.below (below_regrown W dq osq) oB
  have BV : Below w.heap.size w V := by rw [hV]; exact BW.trans ((below_regrown W dq osq).mono BW.size)
  clear hV oA oB BW gA0 gA1 gB0 gB1 K1 K2
  obtain ⟨cA0, cA1, -, -, -, -⟩ := oA'.facts
  obtain ⟨cB0, cB1, -, -, -, -⟩ := oB'.facts
  go_wp2_with (go_at_call 11; refine (spot_is 1 an (r + 1) _ _ (by omega) an0 an1 (by omega) (by omega) H3.out).mono ?_; rintro e w3 ⟨rfl, hb⟩; refine Hid.out ?_)
  have B3 : Below w.heap.size w w3 := BV.trans (hb.mono BV.size)
  replace oA' := Own.below hb oA'
  clear hb cA0 cA1 cB0 cB1
  obtain ⟨cA0, cA1, -, -, -, -⟩ := oA'.facts
  refine Lib.hid ?_
  clear cA0 cA1
  go_wp2_with fail
  go_loopg [12, 13] 41 (fun g pm i wr => ∃ (k : Nat) (m : Int), k ≤ 40 ∧ g = 41 - k ∧ pm = .int .i64 m ∧ i = .int .i64 k ∧ ((m = 0 ∧ ¬ (1 ≤ q ∧ q ≤ k)) ∨ (m = 1 ∧ 1 ≤ q ∧ q ≤ k)) ∧ Own wr w2.heap.size 1 an ∧ Below w.heap.size w wr)
  case atStart => exact ⟨0, 0, by omega, rfl, rfl, rfl, by omega, oA', B3⟩
  case round =>
    obtain ⟨k, m, hk, hg, rfl, rfl, hm, oA, hB⟩ := hrel
    clear oA'
    have HG := Lib.hid hg
    have HM := Lib.hid hm
    clear hg hm
    by_cases hk40 : k < 40
    · obtain ⟨s', hs'⟩ : ∃ s : Int, spt 0 (1 + k) r = s := ⟨_, rfl⟩
      have E2 : 4 * (k : Int) + 6 = s' := by rw [← hs']; simp [spt]; omega
      have F2 := Lib.hid E2
      have HS := Lib.hid hs'
      clear hs' E2
      rcases Int.lt_trichotomy q (k + 1) with h | h | h
      · have t1 : s1 < s' := by have := F2.out; have := HE.out; omega
        have t2 : s1 + 4 ≤ s' := by have := F2.out; have := HE.out; omega
        have HH := Lib.hid h
        clear h
        go_wp2_with (go_at_call 15; refine (lneedle_is k 0 (1 + k) _ (by omega) (by omega) (by omega) (by omega)).mono ?_; rintro e v1 ⟨rfl, hb⟩; refine Hid.out ?_)
        replace oA := Own.below hb oA
        have C1 : Below w.heap.size w v1 := hB.trans (hb.mono hB.size)
        clear hb
        refine Lib.hid ?_
        go_wp2_with (go_at_call 11; refine (spot_is 0 (1 + k) r s' _ (by omega) (by omega) (by omega) (by omega) (by omega) HS.out).mono ?_; rintro e v2 ⟨rfl, hb⟩; refine Hid.out ?_)
        replace oA := Own.below hb oA
        have C2 : Below w.heap.size w v2 := C1.trans (hb.mono C1.size)
        clear hb
        refine Lib.hid ?_
        go_wp2
        go_roundg (gk - 1)
        case measure => have := HG.out; omega
        case rel => exact ⟨k + 1, m, by omega, by have := HG.out; omega, rfl, by go_num, by have := HM.out; have := HH.out; omega, oA, C2⟩
      · have t1 : s1 < s' := by have := F2.out; have := HE.out; omega
        have t2 : s' < s1 + 4 := by have := F2.out; have := HE.out; omega
        have HH := Lib.hid h
        obtain rfl : m = 0 := by have := HM.out; omega
        clear h
        go_wp2_with (go_at_call 15; refine (lneedle_is k 0 (1 + k) _ (by omega) (by omega) (by omega) (by omega)).mono ?_; rintro e v1 ⟨rfl, hb⟩; refine Hid.out ?_)
        replace oA := Own.below hb oA
        have C1 : Below w.heap.size w v1 := hB.trans (hb.mono hB.size)
        clear hb
        refine Lib.hid ?_
        go_wp2_with (go_at_call 11; refine (spot_is 0 (1 + k) r s' _ (by omega) (by omega) (by omega) (by omega) (by omega) HS.out).mono ?_; rintro e v2 ⟨rfl, hb⟩; refine Hid.out ?_)
        replace oA := Own.below hb oA
        have C2 : Below w.heap.size w v2 := C1.trans (hb.mono C1.size)
        clear hb
        refine Lib.hid ?_
        go_wp2
        go_roundg (gk - 1)
        case measure => have := HG.out; omega
        case rel => exact ⟨k + 1, 1, by omega, by have := HG.out; omega, rfl, by go_num, by have := HM.out; have := HH.out; omega, oA, C2⟩
      · have t1 : s' ≤ s1 := by have := F2.out; have := HE.out; omega
        have HH := Lib.hid h
        clear h
        go_wp2_with (go_at_call 15; refine (lneedle_is k 0 (1 + k) _ (by omega) (by omega) (by omega) (by omega)).mono ?_; rintro e v1 ⟨rfl, hb⟩; refine Hid.out ?_)
        replace oA := Own.below hb oA
        have C1 : Below w.heap.size w v1 := hB.trans (hb.mono hB.size)
        clear hb
        refine Lib.hid ?_
        go_wp2_with (go_at_call 11; refine (spot_is 0 (1 + k) r s' _ (by omega) (by omega) (by omega) (by omega) (by omega) HS.out).mono ?_; rintro e v2 ⟨rfl, hb⟩; refine Hid.out ?_)
        replace oA := Own.below hb oA
        have C2 : Below w.heap.size w v2 := C1.trans (hb.mono C1.size)
        clear hb
        refine Lib.hid ?_
        go_wp2
        go_roundg (gk - 1)
        case measure => have := HG.out; omega
        case rel => exact ⟨k + 1, m, by omega, by have := HG.out; omega, rfl, by go_num, by have := HM.out; have := HH.out; omega, oA, C2⟩
    · obtain rfl : k = 40 := by omega
      obtain ⟨cA0, cA1, -, -, -, -⟩ := oA.facts
      by_cases q1 : 1 ≤ q
      · by_cases q2 : q ≤ 40
        · obtain rfl : m = 1 := by have := HM.out; omega
          go_wp2_with (go_at_call 12; refine (lives _).mono ?_; rintro e w4 ⟨rfl, hb⟩; refine Hid.out ?_)
          have B4 : Below w.heap.size w w4 := hB.trans (hb.mono hB.size)
          clear hb
          refine Lib.hid ?_
          go_wp2
          go_ret
          exact ⟨rfl, B4⟩
        · obtain rfl : m = 0 := by have := HM.out; omega
          have qd : decide (q ≤ 40) = false := by simpa using q2
          go_wp2_with (go_at_call 12; refine (lives _).mono ?_; rintro e w4 ⟨rfl, hb⟩; refine Hid.out ?_)
          have B4 : Below w.heap.size w w4 := hB.trans (hb.mono hB.size)
          clear hb
          refine Lib.hid ?_
          go_wp2
          go_ret
          exact ⟨rfl, B4⟩
      · obtain rfl : m = 0 := by have := HM.out; omega
        have qd : decide (1 ≤ q) = false := by simpa using q1
        go_wp2_with (go_at_call 12; refine (lives _).mono ?_; rintro e w4 ⟨rfl, hb⟩; refine Hid.out ?_)
        have B4 : Below w.heap.size w w4 := hB.trans (hb.mono hB.size)
        clear hb
        refine Lib.hid ?_
        go_wp2
        go_ret
        exact ⟨rfl, B4⟩

set_option maxRecDepth 100000 in
set_option maxHeartbeats 4000000 in
theorem apart_other1
    (x y z an am r s1 s2 : Int) (w : World) (x0 : 0 ≤ x) (x1 : x ≤ 255) (y0 : 0 ≤ y) (y1 : y ≤ 255) (z0 : 0 ≤ z)
    (hx : x % 80 / 40 = 1 ∧ 1 + x % 40 = an) (hy : y % 80 / 40 = 0 ∧ 1 + y % 40 = am) (hr : z % 8 - 4 = r)
    (an0 : 1 ≤ an) (an1 : an ≤ 40) (am0 : 1 ≤ am) (am1 : am ≤ 40) (r0 : -4 ≤ r) (_ : r ≤ 3)
    (h1 : spt 1 an r = s1) (h2 : spt 0 am r = s2) :
    Calls Tryd.prog 7 #[.int .u8 x, .int .u8 y, .int .u8 z] w fun e w' => e = .returned (.bool true) ∧ Below w.heap.size w w' := by
  have hns : (s1 == s2) = false := by
    have : s1 ≠ s2 := by rw [← h1, ← h2]; simp [spt]; omega
    simpa using this
  have hs1 : -12 ≤ s1 ∧ s1 ≤ 176 := by rw [← h1]; simp [spt]; omega
  obtain ⟨l1, u1⟩ := hs1
  obtain ⟨q, hq⟩ : ∃ q : Int, an + r = q := ⟨_, rfl⟩
  have E1 : 4 * q = s1 := by rw [← h1, ← hq]; simp [spt]
  have H3 := Lib.hid (show spt 1 an (r + 1) = s1 + 4 by rw [← h1]; simp [spt]; omega)
  have HE := Lib.hid E1
  clear E1
  have HX := Lib.hid hx
  have HY := Lib.hid hy
  have H1 := Lib.hid h1
  have H2 := Lib.hid h2
  clear hx hy h1 h2
  go_enter Tryd.func7, Tryd.ntmps7
  go_wp2_with (go_at_call 15; refine (lneedle_is x 1 an _ x0 x1 HX.out.1 HX.out.2).mono ?_; rintro e w1 ⟨rfl, hb⟩; refine Hid.out ?_)
  have B1 := hb
  have z1 := hb.size
  clear hb
  refine Lib.hid ?_
  go_wp2_with (go_at_call 15; refine (lneedle_is y 0 am _ y0 y1 HY.out.1 HY.out.2).mono ?_; rintro e w2 ⟨rfl, hb⟩; refine Hid.out ?_)
  have z2 := hb.size
  have B2 : Below w.heap.size w w2 := B1.trans (hb.mono (by omega))
  clear hb
  refine Lib.hid ?_
  go_wp2_with fail
  obtain ⟨W, hW⟩ : ∃ W : World, W = (w2.alloc (Obj.cells #[Value.int IntKind.u8 1, Value.int IntKind.i64 an] 24)).alloc (Obj.cells #[Value.int IntKind.u8 0, Value.int IntKind.i64 am] 24) := ⟨_, rfl⟩
  rw [← hW]
  have oA : Own W w2.heap.size 1 an := by rw [hW]; exact Own.alloc (Own.new 1 an rfl) _
  have oB : Own W (w2.heap.size + 1) 0 am := by rw [hW]; exact Own.new 0 am (by simp)
  have BW : Below w.heap.size w W := by rw [hW]; exact (B2.alloc (by omega) _).alloc (by simp; omega) _
  clear hW B1 B2
  have gA0 := fun d os => cell_regrown (d := d) (os := os) oA.1
  have gA1 := fun d os => cell_regrown (d := d) (os := os) oA.2.1
  have gB0 := fun d os => cell_regrown (d := d) (os := os) oB.1
  have gB1 := fun d os => cell_regrown (d := d) (os := os) oB.2.1
  have K1 := Lib.hid (show ∀ d os, Calls Tryd.prog 11 #[.agg #[.int .u8 1, .int .i64 an], .int .i64 r] (grow (redrawn W d) os) fun e w'' => e = .returned (.int .i64 s1) ∧ ∃ p : Regrown, w'' = grow (redrawn W p.d) p.os from
    fun d os => Calls.regrown_of (spot_is _ _ _ _ _ (by omega) an0 an1 r0 (by omega) H1.out))
  have K2 := Lib.hid (show ∀ d os, Calls Tryd.prog 11 #[.agg #[.int .u8 0, .int .i64 am], .int .i64 r] (grow (redrawn W d) os) fun e w'' => e = .returned (.int .i64 s2) ∧ ∃ p : Regrown, w'' = grow (redrawn W p.d) p.os from
    fun d os => Calls.regrown_of (spot_is _ _ _ _ _ (by omega) am0 am1 r0 (by omega) H2.out))
  refine wp_region_quiet_below (by kernel_rfl) (by kernel_rfl) ?_
  iterate 3 (quiet_step (exact K1.out _ _))
  iterate 3 (quiet_step (exact K2.out _ _))
  repeat (quiet_step (fail))
  refine wpQuiet_nil ?_
  intro _ hw'
  obtain ⟨⟨dq, osq⟩, hw''⟩ := hw'
  subst hw''
  obtain ⟨V, hV⟩ : ∃ V : World, V = grow (redrawn W dq) osq := ⟨_, rfl⟩
  rw [← hV]
  have oA' : Own V w2.heap.size 1 an := by rw [hV]; exact Own.below (below_regrown W dq osq) oA
  have oB' : Own V (w2.heap.size + 1) 0 am := by rw [hV]; exact Own.below (below_regrown W dq osq) oB
  have BV : Below w.heap.size w V := by rw [hV]; exact BW.trans ((below_regrown W dq osq).mono BW.size)
  clear hV oA oB BW gA0 gA1 gB0 gB1 K1 K2
  obtain ⟨cA0, cA1, -, -, -, -⟩ := oA'.facts
  obtain ⟨cB0, cB1, -, -, -, -⟩ := oB'.facts
  go_wp2_with (go_at_call 11; refine (spot_is 1 an (r + 1) _ _ (by omega) an0 an1 (by omega) (by omega) H3.out).mono ?_; rintro e w3 ⟨rfl, hb⟩; refine Hid.out ?_)
  have B3 : Below w.heap.size w w3 := BV.trans (hb.mono BV.size)
  replace oA' := Own.below hb oA'
  clear hb cA0 cA1 cB0 cB1
  obtain ⟨cA0, cA1, -, -, -, -⟩ := oA'.facts
  refine Lib.hid ?_
  clear cA0 cA1
  go_wp2_with fail
  go_loopg [12, 13] 41 (fun g pm i wr => ∃ (k : Nat) (m : Int), k ≤ 40 ∧ g = 41 - k ∧ pm = .int .i64 m ∧ i = .int .i64 k ∧ ((m = 0 ∧ ¬ (1 ≤ q ∧ q ≤ k)) ∨ (m = 1 ∧ 1 ≤ q ∧ q ≤ k)) ∧ Own wr w2.heap.size 1 an ∧ Below w.heap.size w wr)
  case atStart => exact ⟨0, 0, by omega, rfl, rfl, rfl, by omega, oA', B3⟩
  case round =>
    obtain ⟨k, m, hk, hg, rfl, rfl, hm, oA, hB⟩ := hrel
    clear oA'
    have HG := Lib.hid hg
    have HM := Lib.hid hm
    clear hg hm
    by_cases hk40 : k < 40
    · obtain ⟨s', hs'⟩ : ∃ s : Int, spt 0 (1 + k) r = s := ⟨_, rfl⟩
      have E2 : 4 * (k : Int) + 6 = s' := by rw [← hs']; simp [spt]; omega
      have F2 := Lib.hid E2
      have HS := Lib.hid hs'
      clear hs' E2
      rcases Int.lt_trichotomy q (k + 1) with h | h | h
      · have t1 : s1 < s' := by have := F2.out; have := HE.out; omega
        have t2 : s1 + 4 ≤ s' := by have := F2.out; have := HE.out; omega
        have HH := Lib.hid h
        clear h
        go_wp2_with (go_at_call 15; refine (lneedle_is k 0 (1 + k) _ (by omega) (by omega) (by omega) (by omega)).mono ?_; rintro e v1 ⟨rfl, hb⟩; refine Hid.out ?_)
        replace oA := Own.below hb oA
        have C1 : Below w.heap.size w v1 := hB.trans (hb.mono hB.size)
        clear hb
        refine Lib.hid ?_
        go_wp2_with (go_at_call 11; refine (spot_is 0 (1 + k) r s' _ (by omega) (by omega) (by omega) (by omega) (by omega) HS.out).mono ?_; rintro e v2 ⟨rfl, hb⟩; refine Hid.out ?_)
        replace oA := Own.below hb oA
        have C2 : Below w.heap.size w v2 := C1.trans (hb.mono C1.size)
        clear hb
        refine Lib.hid ?_
        go_wp2
        go_roundg (gk - 1)
        case measure => have := HG.out; omega
        case rel => exact ⟨k + 1, m, by omega, by have := HG.out; omega, rfl, by go_num, by have := HM.out; have := HH.out; omega, oA, C2⟩
      · have t1 : s1 < s' := by have := F2.out; have := HE.out; omega
        have t2 : s' < s1 + 4 := by have := F2.out; have := HE.out; omega
        have HH := Lib.hid h
        obtain rfl : m = 0 := by have := HM.out; omega
        clear h
        go_wp2_with (go_at_call 15; refine (lneedle_is k 0 (1 + k) _ (by omega) (by omega) (by omega) (by omega)).mono ?_; rintro e v1 ⟨rfl, hb⟩; refine Hid.out ?_)
        replace oA := Own.below hb oA
        have C1 : Below w.heap.size w v1 := hB.trans (hb.mono hB.size)
        clear hb
        refine Lib.hid ?_
        go_wp2_with (go_at_call 11; refine (spot_is 0 (1 + k) r s' _ (by omega) (by omega) (by omega) (by omega) (by omega) HS.out).mono ?_; rintro e v2 ⟨rfl, hb⟩; refine Hid.out ?_)
        replace oA := Own.below hb oA
        have C2 : Below w.heap.size w v2 := C1.trans (hb.mono C1.size)
        clear hb
        refine Lib.hid ?_
        go_wp2
        go_roundg (gk - 1)
        case measure => have := HG.out; omega
        case rel => exact ⟨k + 1, 1, by omega, by have := HG.out; omega, rfl, by go_num, by have := HM.out; have := HH.out; omega, oA, C2⟩
      · have t1 : s' ≤ s1 := by have := F2.out; have := HE.out; omega
        have HH := Lib.hid h
        clear h
        go_wp2_with (go_at_call 15; refine (lneedle_is k 0 (1 + k) _ (by omega) (by omega) (by omega) (by omega)).mono ?_; rintro e v1 ⟨rfl, hb⟩; refine Hid.out ?_)
        replace oA := Own.below hb oA
        have C1 : Below w.heap.size w v1 := hB.trans (hb.mono hB.size)
        clear hb
        refine Lib.hid ?_
        go_wp2_with (go_at_call 11; refine (spot_is 0 (1 + k) r s' _ (by omega) (by omega) (by omega) (by omega) (by omega) HS.out).mono ?_; rintro e v2 ⟨rfl, hb⟩; refine Hid.out ?_)
        replace oA := Own.below hb oA
        have C2 : Below w.heap.size w v2 := C1.trans (hb.mono C1.size)
        clear hb
        refine Lib.hid ?_
        go_wp2
        go_roundg (gk - 1)
        case measure => have := HG.out; omega
        case rel => exact ⟨k + 1, m, by omega, by have := HG.out; omega, rfl, by go_num, by have := HM.out; have := HH.out; omega, oA, C2⟩
    · obtain rfl : k = 40 := by omega
      obtain ⟨cA0, cA1, -, -, -, -⟩ := oA.facts
      by_cases q1 : 1 ≤ q
      · by_cases q2 : q ≤ 40
        · obtain rfl : m = 1 := by have := HM.out; omega
          go_wp2_with (go_at_call 12; refine (lives _).mono ?_; rintro e w4 ⟨rfl, hb⟩; refine Hid.out ?_)
          have B4 : Below w.heap.size w w4 := hB.trans (hb.mono hB.size)
          clear hb
          refine Lib.hid ?_
          go_wp2
          go_ret
          exact ⟨rfl, B4⟩
        · obtain rfl : m = 0 := by have := HM.out; omega
          have qd : decide (q ≤ 40) = false := by simpa using q2
          go_wp2_with (go_at_call 12; refine (lives _).mono ?_; rintro e w4 ⟨rfl, hb⟩; refine Hid.out ?_)
          have B4 : Below w.heap.size w w4 := hB.trans (hb.mono hB.size)
          clear hb
          refine Lib.hid ?_
          go_wp2
          go_ret
          exact ⟨rfl, B4⟩
      · obtain rfl : m = 0 := by have := HM.out; omega
        have qd : decide (1 ≤ q) = false := by simpa using q1
        go_wp2_with (go_at_call 12; refine (lives _).mono ?_; rintro e w4 ⟨rfl, hb⟩; refine Hid.out ?_)
        have B4 : Below w.heap.size w w4 := hB.trans (hb.mono hB.size)
        clear hb
        refine Lib.hid ?_
        go_wp2
        go_ret
        exact ⟨rfl, B4⟩

theorem apart_all (x y z : Int) (w : World) (hx : 0 ≤ x ∧ x ≤ 255) (hy : 0 ≤ y ∧ y ≤ 255) (hz : 0 ≤ z ∧ z ≤ 255) :
    Calls Tryd.prog 7 #[.int .u8 x, .int .u8 y, .int .u8 z] w fun e w' => e = .returned (.bool true) ∧ Below w.heap.size w w' := by
  obtain ⟨n1, n2, n3⟩ := needle_parts x
  obtain ⟨m1, m2, m3⟩ := needle_parts y
  rcases n1 with n1 | n1 <;> rcases m1 with m1 | m1
  · by_cases h : 1 + x % 40 = 1 + y % 40
    · exact apart_same0 x y z _ _ _ w hx.1 hx.2 hy.1 hy.2 hz.1 ⟨n1, h⟩ ⟨m1, rfl⟩ rfl m2 m3 (by omega) (by omega) rfl
    · exact apart_diff0 x y z _ _ _ _ _ w hx.1 hx.2 hy.1 hy.2 hz.1 ⟨n1, rfl⟩ ⟨m1, rfl⟩ rfl n2 n3 m2 m3 (by omega) (by omega) rfl rfl h
  · exact apart_other0 x y z _ _ _ _ _ w hx.1 hx.2 hy.1 hy.2 hz.1 ⟨n1, rfl⟩ ⟨m1, rfl⟩ rfl n2 n3 m2 m3 (by omega) (by omega) rfl rfl
  · exact apart_other1 x y z _ _ _ _ _ w hx.1 hx.2 hy.1 hy.2 hz.1 ⟨n1, rfl⟩ ⟨m1, rfl⟩ rfl n2 n3 m2 m3 (by omega) (by omega) rfl rfl
  · by_cases h : 1 + x % 40 = 1 + y % 40
    · exact apart_same1 x y z _ _ _ w hx.1 hx.2 hy.1 hy.2 hz.1 ⟨n1, h⟩ ⟨m1, rfl⟩ rfl m2 m3 (by omega) (by omega) rfl
    · exact apart_diff1 x y z _ _ _ _ _ w hx.1 hx.2 hy.1 hy.2 hz.1 ⟨n1, rfl⟩ ⟨m1, rfl⟩ rfl n2 n3 m2 m3 (by omega) (by omega) rfl rfl h

end Go.Proofs.YthdmpoiecmbinaaDoor
