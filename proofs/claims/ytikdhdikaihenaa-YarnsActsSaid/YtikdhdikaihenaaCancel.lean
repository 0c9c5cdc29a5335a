import Derived.Test.YtikdhdikaihenaaBase
namespace Go.Proofs.Ytikdhdikaihenaa
open Go.RowKit Go.Sort

theorem cancel_core (y n : Int) (f : Bool) (d y' n' : Int) (f' : Bool) (d' e e' : Int) (w : World) (he : (bck ⟨y', n', f', d'⟩).d = e) (he' : (bck ⟨y, n, f, d⟩).d = e') :
    Calls Try.prog 31 #[.agg #[.int .u8 y, .int .i64 n, .bool f, .int .u8 d], .agg #[.int .u8 y', .int .i64 n', .bool f', .int .u8 d']] w fun x w' => x = .returned (.bool (decide (y = y' ∧ n = n' ∧ f = f' ∧ d = e ∧ d' = e'))) ∧ Below w.heap.size w w' := by
  have HE := Lib.hid he
  have HE' := Lib.hid he'
  clear he he'
  obtain ⟨B, hB⟩ : ∃ B : Bool, B = decide (y = y' ∧ n = n' ∧ f = f' ∧ d = e ∧ d' = e') := ⟨_, rfl⟩
  rw [← hB]
  have HB := Lib.hid hB
  clear hB
  go_enter Try.func31, Try.ntmps31
  go_wp2_with fail
  obtain ⟨W, hW⟩ : ∃ W : World, W = (w.alloc (.cells #[.int .u8 y, .int .i64 n, .bool f, .int .u8 d] 33)).alloc (.cells #[.int .u8 y', .int .i64 n', .bool f', .int .u8 d'] 33) := ⟨_, rfl⟩
  rw [← hW]
  have BW : Below w.heap.size w W := by rw [hW]; exact below2 _ _ _
  obtain ⟨⟨c0, c1, c2, c3⟩, ⟨c4, c5, c6, c7⟩⟩ := new2 w y n f d y' n' f' d'
  rw [← hW] at c0 c1 c2 c3 c4 c5 c6 c7
  clear hW
  have g0 := fun d os => cell_regrown (d := d) (os := os) c0
  have g1 := fun d os => cell_regrown (d := d) (os := os) c1
  have g2 := fun d os => cell_regrown (d := d) (os := os) c2
  have g3 := fun d os => cell_regrown (d := d) (os := os) c3
  have g4 := fun d os => cell_regrown (d := d) (os := os) c4
  have g5 := fun d os => cell_regrown (d := d) (os := os) c5
  have g6 := fun d os => cell_regrown (d := d) (os := os) c6
  have g7 := fun d os => cell_regrown (d := d) (os := os) c7
  have k1 : ∀ m os, Calls Try.prog 25 #[.agg #[.int .u8 y', .int .i64 n', .bool f', .int .u8 d']] (grow (redrawn W m) os) fun x w'' => x = .returned (.agg #[.int .u8 y', .int .i64 n', .bool f', .int .u8 e]) ∧ ∃ p : Regrown, w'' = grow (redrawn W p.d) p.os :=
    fun m os => by rw [← HE.out]; exact Calls.regrown_of (back_any _ _ _ _ _)
  have k2 : ∀ m os, Calls Try.prog 25 #[.agg #[.int .u8 y, .int .i64 n, .bool f, .int .u8 d]] (grow (redrawn W m) os) fun x w'' => x = .returned (.agg #[.int .u8 y, .int .i64 n, .bool f, .int .u8 e']) ∧ ∃ p : Regrown, w'' = grow (redrawn W p.d) p.os :=
    fun m os => by rw [← HE'.out]; exact Calls.regrown_of (back_any _ _ _ _ _)
  have K1 := Lib.hid k1
  have K2 := Lib.hid k2
  clear k1 k2 HE HE'
  by_cases h1 : y = y'
  · subst h1
    by_cases h2 : n = n'
    · subst h2
      by_cases h3 : f = f'
      · subst h3
        by_cases h4 : d = e
        · subst h4
          by_cases h5 : d' = e'
          · subst h5
            refine wp_region_quiet_below (by kernel_rfl) (by kernel_rfl) ?_
            iterate 3 (quiet_step (exact K1.out _ _))
            repeat (quiet_step (exact K2.out _ _))
            rintro w1 ⟨p, rfl⟩
            have hb := below_regrown W p.d p.os
            go_wp2
            go_ret
            exact ⟨ret_bool (by rw [HB.out]; simp []), BW.trans (hb.mono BW.size)⟩
          · refine wp_region_quiet_below (by kernel_rfl) (by kernel_rfl) ?_
            iterate 3 (quiet_step (exact K1.out _ _))
            repeat (quiet_step (exact K2.out _ _))
            rintro w1 ⟨p, rfl⟩
            have hb := below_regrown W p.d p.os
            go_wp2
            go_ret
            exact ⟨ret_bool (by rw [HB.out]; simp [h5]), BW.trans (hb.mono BW.size)⟩
        · refine wp_region_quiet_below (by kernel_rfl) (by kernel_rfl) ?_
          iterate 3 (quiet_step (exact K1.out _ _))
          repeat (quiet_step (exact K2.out _ _))
          rintro w1 ⟨p, rfl⟩
          have hb := below_regrown W p.d p.os
          go_wp2
          go_ret
          exact ⟨ret_bool (by rw [HB.out]; simp [h4]), BW.trans (hb.mono BW.size)⟩
      · refine wp_region_quiet_below (by kernel_rfl) (by kernel_rfl) ?_
        iterate 3 (quiet_step (exact K1.out _ _))
        repeat (quiet_step (exact K2.out _ _))
        rintro w1 ⟨p, rfl⟩
        have hb := below_regrown W p.d p.os
        go_wp2
        go_ret
        exact ⟨ret_bool (by rw [HB.out]; simp [h3]), BW.trans (hb.mono BW.size)⟩
    · refine wp_region_quiet_below (by kernel_rfl) (by kernel_rfl) ?_
      iterate 3 (quiet_step (exact K1.out _ _))
      repeat (quiet_step (exact K2.out _ _))
      rintro w1 ⟨p, rfl⟩
      have hb := below_regrown W p.d p.os
      go_wp2
      go_ret
      exact ⟨ret_bool (by rw [HB.out]; simp [h2]), BW.trans (hb.mono BW.size)⟩
  · refine wp_region_quiet_below (by kernel_rfl) (by kernel_rfl) ?_
    iterate 3 (quiet_step (exact K1.out _ _))
    repeat (quiet_step (exact K2.out _ _))
    rintro w1 ⟨p, rfl⟩
    have hb := below_regrown W p.d p.os
    go_wp2
    go_ret
    exact ⟨ret_bool (by rw [HB.out]; simp [h1]), BW.trans (hb.mono BW.size)⟩

theorem cancel_any (y n : Int) (f : Bool) (d y' n' : Int) (f' : Bool) (d' : Int) (w : World) :
    Calls Try.prog 31 #[.agg #[.int .u8 y, .int .i64 n, .bool f, .int .u8 d], .agg #[.int .u8 y', .int .i64 n', .bool f', .int .u8 d']] w fun x w' => x = .returned (.bool (canc ⟨y, n, f, d⟩ ⟨y', n', f', d'⟩)) ∧ Below w.heap.size w w' := by
  refine (cancel_core y n f d y' n' f' d' _ _ w rfl rfl).mono fun x w' h => ⟨h.1.trans (ret_bool ?_), h.2⟩
  rw [Bool.eq_iff_iff, canc_iff]
  constructor
  · intro h
    obtain ⟨a, b, c, g1, g2⟩ := of_decide_eq_true h
    refine ⟨a, b, c, ?_⟩
    by_cases e1 : d' = 1 <;> by_cases e2 : d = 1 <;> simp [bck, e1, e2] at g1 g2 ⊢ <;> omega
  · rintro ⟨a, b, c, ⟨g1, g2⟩ | ⟨g1, g2⟩⟩ <;> simp only at a b c g1 g2 <;> exact decide_eq_true ⟨a, b, c, by simp [bck, g1, g2], by simp [bck, g1, g2]⟩

end Go.Proofs.Ytikdhdikaihenaa
