import Derived.Test.YtjjnhmbgffdenaaSetA
namespace Go.Proofs.Ytjjnhmbgffdenaa
open Go.RowKit Go.Sort

def ixOf (b a : Int) : Nat := b.toNat * 40 + (a - 1).toNat
/-- The table in which the loops of one needle are joined to those of another. -/
def joinT (T : List (List Nm)) (b1 a1 b2 a2 : Int) : List (List Nm) :=
  (T.set (ixOf b1 a1) []).set (ixOf b2 a2) (if b1 = 1 then T.getD (ixOf b1 a1) [] ++ T.getD (ixOf b2 a2) [] else T.getD (ixOf b2 a2) [] ++ T.getD (ixOf b1 a1) [])
def joinErr (T : List (List Nm)) (b1 a1 b2 a2 : Int) : Int :=
  if isN b1 a1 = false ∨ isN b2 a2 = false ∨ b1 = b2 then 1 else if (T.getD (ixOf b1 a1) []).length = 0 then 13 else
    if 4 < (T.getD (ixOf b2 a2) []).length + (T.getD (ixOf b1 a1) []).length then 9 else 0
theorem joinErr_1 {T : List (List Nm)} {b1 a1 b2 a2 : Int} (h : isN b1 a1 = false ∨ isN b2 a2 = false ∨ b1 = b2) : joinErr T b1 a1 b2 a2 = 1 := if_pos h

set_option maxRecDepth 100000 in
set_option maxHeartbeats 2000000 in
theorem join_a (d : Bds) (T : List (List Nm)) (b1 a1 b2 a2 : Int) (B : Nat) (w : World) (hB : B ≤ w.heap.size) (hd : d.ok B w) (hr : Reads T d) (hT : TOk T) (hn : isN b1 a1 = false) :
    Calls Try.prog 19 #[d.v, .agg #[.int .u8 b1, .int .i64 a1], .agg #[.int .u8 b2, .int .i64 a2]] w (Changed (joinT T b1 a1 b2 a2) (joinErr T b1 a1 b2 a2) w) := by
  rw [joinErr_1 (.inl hn)]
  have HN := Lib.hid hn
  have HM := Lib.hid hn
  have HD := Lib.hid (hd.mono hB)
  have HG := Lib.hid (hr.good hT)
  obtain ⟨⟨fa, fs, fc⟩, ⟨ba, bs, bc⟩⟩ := d
  clear hn hd hr hT
  simp only [Bds.v, Bed.v]
  go_enter Try.func19, Try.ntmps19
  go_wp2_with fail
  obtain ⟨W0, hW0⟩ : ∃ W0, ((((w.alloc (.cells #[.slice fa fs.length fc, .slice ba bs.length bc] 35)).alloc (.cells #[.int .u8 b1, .int .i64 a1] 26)).alloc (.cells #[.int .u8 b2, .int .i64 a2] 26)).alloc (.cells #[.slice none 0 0, .slice none 0 0] 35)) = W0 := ⟨_, rfl⟩
  have bD : Boxed2 W0 (w.heap.size) 35 (.slice fa fs.length fc) (.slice ba bs.length bc) := by
    rw [← hW0]; exact ((((Boxed2.new w 35 (.slice fa fs.length fc) (.slice ba bs.length bc)).alloc (.cells #[.int .u8 b1, .int .i64 a1] 26)).alloc (.cells #[.int .u8 b2, .int .i64 a2] 26)).alloc (.cells #[.slice none 0 0, .slice none 0 0] 35))
  have bN : Boxed2 W0 (w.heap.size + 1) 26 (.int .u8 b1) (.int .i64 a1) := by
    rw [← hW0]; have := (((Boxed2.new (w.alloc (.cells #[.slice fa fs.length fc, .slice ba bs.length bc] 35)) 26 (.int .u8 b1) (.int .i64 a1)).alloc (.cells #[.int .u8 b2, .int .i64 a2] 26)).alloc (.cells #[.slice none 0 0, .slice none 0 0] 35))
    simp only [World.size_alloc] at this; exact this
  have bM : Boxed2 W0 (w.heap.size + 1 + 1) 26 (.int .u8 b2) (.int .i64 a2) := by
    rw [← hW0]; have := ((Boxed2.new ((w.alloc (.cells #[.slice fa fs.length fc, .slice ba bs.length bc] 35)).alloc (.cells #[.int .u8 b1, .int .i64 a1] 26)) 26 (.int .u8 b2) (.int .i64 a2)).alloc (.cells #[.slice none 0 0, .slice none 0 0] 35))
    simp only [World.size_alloc] at this; exact this
  have bR : Boxed2 W0 (w.heap.size + 1 + 1 + 1) 35 (.slice none 0 0) (.slice none 0 0) := by
    rw [← hW0]; have := (Boxed2.new (((w.alloc (.cells #[.slice fa fs.length fc, .slice ba bs.length bc] 35)).alloc (.cells #[.int .u8 b1, .int .i64 a1] 26)).alloc (.cells #[.int .u8 b2, .int .i64 a2] 26)) 35 (.slice none 0 0) (.slice none 0 0))
    simp only [World.size_alloc] at this; exact this
  have hB0 : Below w.heap.size w W0 := by rw [← hW0]; exact (below3 _ _ _ _).alloc (by simp; omega) _
  rw [hW0]
  clear hW0
  go_wp2_with (first
    | (go_at_call 10; refine (check_ok ⟨⟨fa, fs, fc⟩, ⟨ba, bs, bc⟩⟩ w.heap.size _ hB0.size (HD.out.below hB0) HG.out).mono ?_; rintro e w1 ⟨rfl, hb1⟩; have hB1 : Below w.heap.size w w1 := hB0.trans (hb1.mono hB0.size); have bD1 := bD.below hb1 bD.lt; have bN1 := bN.below hb1 bN.lt; have bM1 := bM.below hb1 bM.lt; have bR1 := bR.below hb1 bR.lt; have d01 := bD1.cell0; have d11 := bD1.cell1; have n01 := bN1.cell0; have n11 := bN1.cell1; have m01 := bM1.cell0; have m11 := bM1.cell1; have r01 := bR1.cell0; have r11 := bR1.cell1; have fR1 := bR1.frozen)
    | (go_at_call 23; refine (isNeedle_any _ _ _ _ HN.out).mono ?_; rintro e w2 ⟨rfl, hb2⟩; have HN2 := HM; clear HN; have hB2 : Below w.heap.size w w2 := hB1.trans (hb2.mono hB1.size); have bD2 := bD1.below hb2 bD1.lt; have bN2 := bN1.below hb2 bN1.lt; have bM2 := bM1.below hb2 bM1.lt; have bR2 := bR1.below hb2 bR1.lt; have d02 := bD2.cell0; have d12 := bD2.cell1; have n02 := bN2.cell0; have n12 := bN2.cell1; have m02 := bM2.cell0; have m12 := bM2.cell1; have r02 := bR2.cell0; have r12 := bR2.cell1; have fR2 := bR2.frozen))
  have b4 := (bR2.set0 (.slice none 0 0)).set1 (.slice none 0 0)
  have b40 := b4.cell0
  have b41 := b4.cell1
  exact bodyPost_ret (v := .tuple #[zBeds, .int .i64 1]) (by simp [results, Try.results19, go_sem, b40, b41, zBeds]) rfl (changed_no (by decide) ((hB2.setCell (p := ⟨w.heap.size + 1 + 1 + 1, 0, none⟩) (by simp; omega) _).setCell (p := ⟨w.heap.size + 1 + 1 + 1, 1, none⟩) (by simp; omega) _))
set_option maxRecDepth 100000 in
set_option maxHeartbeats 2000000 in
theorem join_b (d : Bds) (T : List (List Nm)) (b1 a1 b2 a2 : Int) (B : Nat) (w : World) (hB : B ≤ w.heap.size) (hd : d.ok B w) (hr : Reads T d) (hT : TOk T) (hn : isN b1 a1 = true) (hm : isN b2 a2 = false) :
    Calls Try.prog 19 #[d.v, .agg #[.int .u8 b1, .int .i64 a1], .agg #[.int .u8 b2, .int .i64 a2]] w (Changed (joinT T b1 a1 b2 a2) (joinErr T b1 a1 b2 a2) w) := by
  rw [joinErr_1 (.inr (.inl hm))]
  have HN := Lib.hid hn
  have HM := Lib.hid hm
  have HD := Lib.hid (hd.mono hB)
  have HG := Lib.hid (hr.good hT)
  obtain ⟨⟨fa, fs, fc⟩, ⟨ba, bs, bc⟩⟩ := d
  clear hn hm hd hr hT
  simp only [Bds.v, Bed.v]
  go_enter Try.func19, Try.ntmps19
  go_wp2_with fail
  obtain ⟨W0, hW0⟩ : ∃ W0, ((((w.alloc (.cells #[.slice fa fs.length fc, .slice ba bs.length bc] 35)).alloc (.cells #[.int .u8 b1, .int .i64 a1] 26)).alloc (.cells #[.int .u8 b2, .int .i64 a2] 26)).alloc (.cells #[.slice none 0 0, .slice none 0 0] 35)) = W0 := ⟨_, rfl⟩
  have bD : Boxed2 W0 (w.heap.size) 35 (.slice fa fs.length fc) (.slice ba bs.length bc) := by
    rw [← hW0]; exact ((((Boxed2.new w 35 (.slice fa fs.length fc) (.slice ba bs.length bc)).alloc (.cells #[.int .u8 b1, .int .i64 a1] 26)).alloc (.cells #[.int .u8 b2, .int .i64 a2] 26)).alloc (.cells #[.slice none 0 0, .slice none 0 0] 35))
  have bN : Boxed2 W0 (w.heap.size + 1) 26 (.int .u8 b1) (.int .i64 a1) := by
    rw [← hW0]; have := (((Boxed2.new (w.alloc (.cells #[.slice fa fs.length fc, .slice ba bs.length bc] 35)) 26 (.int .u8 b1) (.int .i64 a1)).alloc (.cells #[.int .u8 b2, .int .i64 a2] 26)).alloc (.cells #[.slice none 0 0, .slice none 0 0] 35))
    simp only [World.size_alloc] at this; exact this
  have bM : Boxed2 W0 (w.heap.size + 1 + 1) 26 (.int .u8 b2) (.int .i64 a2) := by
    rw [← hW0]; have := ((Boxed2.new ((w.alloc (.cells #[.slice fa fs.length fc, .slice ba bs.length bc] 35)).alloc (.cells #[.int .u8 b1, .int .i64 a1] 26)) 26 (.int .u8 b2) (.int .i64 a2)).alloc (.cells #[.slice none 0 0, .slice none 0 0] 35))
    simp only [World.size_alloc] at this; exact this
  have bR : Boxed2 W0 (w.heap.size + 1 + 1 + 1) 35 (.slice none 0 0) (.slice none 0 0) := by
    rw [← hW0]; have := (Boxed2.new (((w.alloc (.cells #[.slice fa fs.length fc, .slice ba bs.length bc] 35)).alloc (.cells #[.int .u8 b1, .int .i64 a1] 26)).alloc (.cells #[.int .u8 b2, .int .i64 a2] 26)) 35 (.slice none 0 0) (.slice none 0 0))
    simp only [World.size_alloc] at this; exact this
  have hB0 : Below w.heap.size w W0 := by rw [← hW0]; exact (below3 _ _ _ _).alloc (by simp; omega) _
  rw [hW0]
  clear hW0
  go_wp2_with (first
    | (go_at_call 10; refine (check_ok ⟨⟨fa, fs, fc⟩, ⟨ba, bs, bc⟩⟩ w.heap.size _ hB0.size (HD.out.below hB0) HG.out).mono ?_; rintro e w1 ⟨rfl, hb1⟩; have hB1 : Below w.heap.size w w1 := hB0.trans (hb1.mono hB0.size); have bD1 := bD.below hb1 bD.lt; have bN1 := bN.below hb1 bN.lt; have bM1 := bM.below hb1 bM.lt; have bR1 := bR.below hb1 bR.lt; have d01 := bD1.cell0; have d11 := bD1.cell1; have n01 := bN1.cell0; have n11 := bN1.cell1; have m01 := bM1.cell0; have m11 := bM1.cell1; have r01 := bR1.cell0; have r11 := bR1.cell1; have fR1 := bR1.frozen)
    | (go_at_call 23; refine (isNeedle_any _ _ _ _ HN.out).mono ?_; rintro e w2 ⟨rfl, hb2⟩; have HN2 := HM; clear HN; have hB2 : Below w.heap.size w w2 := hB1.trans (hb2.mono hB1.size); have bD2 := bD1.below hb2 bD1.lt; have bN2 := bN1.below hb2 bN1.lt; have bM2 := bM1.below hb2 bM1.lt; have bR2 := bR1.below hb2 bR1.lt; have d02 := bD2.cell0; have d12 := bD2.cell1; have n02 := bN2.cell0; have n12 := bN2.cell1; have m02 := bM2.cell0; have m12 := bM2.cell1; have r02 := bR2.cell0; have r12 := bR2.cell1; have fR2 := bR2.frozen)
    | (go_at_call 23; refine (isNeedle_any _ _ _ _ HN2.out).mono ?_; rintro e w3 ⟨rfl, hb3⟩; have hB3 : Below w.heap.size w w3 := hB2.trans (hb3.mono hB2.size); have bD3 := bD2.below hb3 bD2.lt; have bN3 := bN2.below hb3 bN2.lt; have bM3 := bM2.below hb3 bM2.lt; have bR3 := bR2.below hb3 bR2.lt; have d03 := bD3.cell0; have d13 := bD3.cell1; have n03 := bN3.cell0; have n13 := bN3.cell1; have m03 := bM3.cell0; have m13 := bM3.cell1; have r03 := bR3.cell0; have r13 := bR3.cell1; have fR3 := bR3.frozen))
  have b4 := (bR3.set0 (.slice none 0 0)).set1 (.slice none 0 0)
  have b40 := b4.cell0
  have b41 := b4.cell1
  exact bodyPost_ret (v := .tuple #[zBeds, .int .i64 1]) (by simp [results, Try.results19, go_sem, b40, b41, zBeds]) rfl (changed_no (by decide) ((hB3.setCell (p := ⟨w.heap.size + 1 + 1 + 1, 0, none⟩) (by simp; omega) _).setCell (p := ⟨w.heap.size + 1 + 1 + 1, 1, none⟩) (by simp; omega) _))
set_option maxRecDepth 100000 in
set_option maxHeartbeats 2000000 in
theorem join_c (d : Bds) (T : List (List Nm)) (b1 a1 b2 a2 : Int) (B : Nat) (w : World) (hB : B ≤ w.heap.size) (hd : d.ok B w) (hr : Reads T d) (hT : TOk T) (hn : isN b1 a1 = true) (hm : isN b2 a2 = true) (he : b2 = b1) :
    Calls Try.prog 19 #[d.v, .agg #[.int .u8 b1, .int .i64 a1], .agg #[.int .u8 b2, .int .i64 a2]] w (Changed (joinT T b1 a1 b2 a2) (joinErr T b1 a1 b2 a2) w) := by
  rw [joinErr_1 (.inr (.inr he.symm))]
  subst he
  have HN := Lib.hid hn
  have HM := Lib.hid hm
  have HD := Lib.hid (hd.mono hB)
  have HG := Lib.hid (hr.good hT)
  obtain ⟨⟨fa, fs, fc⟩, ⟨ba, bs, bc⟩⟩ := d
  clear hn hm hd hr hT
  simp only [Bds.v, Bed.v]
  go_enter Try.func19, Try.ntmps19
  go_wp2_with fail
  obtain ⟨W0, hW0⟩ : ∃ W0, ((((w.alloc (.cells #[.slice fa fs.length fc, .slice ba bs.length bc] 35)).alloc (.cells #[.int .u8 b2, .int .i64 a1] 26)).alloc (.cells #[.int .u8 b2, .int .i64 a2] 26)).alloc (.cells #[.slice none 0 0, .slice none 0 0] 35)) = W0 := ⟨_, rfl⟩
  have bD : Boxed2 W0 (w.heap.size) 35 (.slice fa fs.length fc) (.slice ba bs.length bc) := by
    rw [← hW0]; exact ((((Boxed2.new w 35 (.slice fa fs.length fc) (.slice ba bs.length bc)).alloc (.cells #[.int .u8 b2, .int .i64 a1] 26)).alloc (.cells #[.int .u8 b2, .int .i64 a2] 26)).alloc (.cells #[.slice none 0 0, .slice none 0 0] 35))
  have bN : Boxed2 W0 (w.heap.size + 1) 26 (.int .u8 b2) (.int .i64 a1) := by
    rw [← hW0]; have := (((Boxed2.new (w.alloc (.cells #[.slice fa fs.length fc, .slice ba bs.length bc] 35)) 26 (.int .u8 b2) (.int .i64 a1)).alloc (.cells #[.int .u8 b2, .int .i64 a2] 26)).alloc (.cells #[.slice none 0 0, .slice none 0 0] 35))
    simp only [World.size_alloc] at this; exact this
  have bM : Boxed2 W0 (w.heap.size + 1 + 1) 26 (.int .u8 b2) (.int .i64 a2) := by
    rw [← hW0]; have := ((Boxed2.new ((w.alloc (.cells #[.slice fa fs.length fc, .slice ba bs.length bc] 35)).alloc (.cells #[.int .u8 b2, .int .i64 a1] 26)) 26 (.int .u8 b2) (.int .i64 a2)).alloc (.cells #[.slice none 0 0, .slice none 0 0] 35))
    simp only [World.size_alloc] at this; exact this
  have bR : Boxed2 W0 (w.heap.size + 1 + 1 + 1) 35 (.slice none 0 0) (.slice none 0 0) := by
    rw [← hW0]; have := (Boxed2.new (((w.alloc (.cells #[.slice fa fs.length fc, .slice ba bs.length bc] 35)).alloc (.cells #[.int .u8 b2, .int .i64 a1] 26)).alloc (.cells #[.int .u8 b2, .int .i64 a2] 26)) 35 (.slice none 0 0) (.slice none 0 0))
    simp only [World.size_alloc] at this; exact this
  have hB0 : Below w.heap.size w W0 := by rw [← hW0]; exact (below3 _ _ _ _).alloc (by simp; omega) _
  rw [hW0]
  clear hW0
  go_wp2_with (first
    | (go_at_call 10; refine (check_ok ⟨⟨fa, fs, fc⟩, ⟨ba, bs, bc⟩⟩ w.heap.size _ hB0.size (HD.out.below hB0) HG.out).mono ?_; rintro e w1 ⟨rfl, hb1⟩; have hB1 : Below w.heap.size w w1 := hB0.trans (hb1.mono hB0.size); have bD1 := bD.below hb1 bD.lt; have bN1 := bN.below hb1 bN.lt; have bM1 := bM.below hb1 bM.lt; have bR1 := bR.below hb1 bR.lt; have d01 := bD1.cell0; have d11 := bD1.cell1; have n01 := bN1.cell0; have n11 := bN1.cell1; have m01 := bM1.cell0; have m11 := bM1.cell1; have r01 := bR1.cell0; have r11 := bR1.cell1; have fR1 := bR1.frozen)
    | (go_at_call 23; refine (isNeedle_any _ _ _ _ HN.out).mono ?_; rintro e w2 ⟨rfl, hb2⟩; have HN2 := HM; clear HN; have hB2 : Below w.heap.size w w2 := hB1.trans (hb2.mono hB1.size); have bD2 := bD1.below hb2 bD1.lt; have bN2 := bN1.below hb2 bN1.lt; have bM2 := bM1.below hb2 bM1.lt; have bR2 := bR1.below hb2 bR1.lt; have d02 := bD2.cell0; have d12 := bD2.cell1; have n02 := bN2.cell0; have n12 := bN2.cell1; have m02 := bM2.cell0; have m12 := bM2.cell1; have r02 := bR2.cell0; have r12 := bR2.cell1; have fR2 := bR2.frozen)
    | (go_at_call 23; refine (isNeedle_any _ _ _ _ HN2.out).mono ?_; rintro e w3 ⟨rfl, hb3⟩; have hB3 : Below w.heap.size w w3 := hB2.trans (hb3.mono hB2.size); have bD3 := bD2.below hb3 bD2.lt; have bN3 := bN2.below hb3 bN2.lt; have bM3 := bM2.below hb3 bM2.lt; have bR3 := bR2.below hb3 bR2.lt; have d03 := bD3.cell0; have d13 := bD3.cell1; have n03 := bN3.cell0; have n13 := bN3.cell1; have m03 := bM3.cell0; have m13 := bM3.cell1; have r03 := bR3.cell0; have r13 := bR3.cell1; have fR3 := bR3.frozen))
  have b4 := (bR3.set0 (.slice none 0 0)).set1 (.slice none 0 0)
  have b40 := b4.cell0
  have b41 := b4.cell1
  exact bodyPost_ret (v := .tuple #[zBeds, .int .i64 1]) (by simp [results, Try.results19, go_sem, b40, b41, zBeds]) rfl (changed_no (by decide) ((hB3.setCell (p := ⟨w.heap.size + 1 + 1 + 1, 0, none⟩) (by simp; omega) _).setCell (p := ⟨w.heap.size + 1 + 1 + 1, 1, none⟩) (by simp; omega) _))
end Go.Proofs.Ytjjnhmbgffdenaa
