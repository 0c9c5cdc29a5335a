import Derived.Test.YtjjnhmbgffdenaaSSJ
namespace Go.Proofs.Ytjjnhmbgffdenaa
open Go.RowKit Go.Sort

/-- The table in which a needle holds other loops. -/
def setT (T : List (List Nm)) (b a : Int) (l : List Nm) : List (List Nm) := T.set (b.toNat * 40 + (a - 1).toNat) l
def setErr (T : List (List Nm)) (b a : Int) (l : List Nm) : Int :=
  if isN b a = false ∨ allNamed l = false then 1 else if 4 < l.length then 9 else if (setT T b a l).flatten.Nodup then 0 else 8
def zBeds : Value := .agg #[.slice none 0 0, .slice none 0 0]
/-- What a change of valid beds returns: an error and no beds, or the beds of the new table. -/
def Changed (T' : List (List Nm)) (err : Int) (w : World) (e : Ending) (w' : World) : Prop :=
  ∃ V, e = .returned (.tuple #[V, .int .i64 err]) ∧ Hid ((err ≠ 0 → V = zBeds) ∧ (err = 0 → ∃ bd : Bds, V = bd.v ∧ Reads T' bd ∧ Tight bd ∧ bd.ok w'.heap.size w' ∧ (∀ b o, bd.f.ao = some ⟨b, o, none⟩ → w.heap.size ≤ b) ∧ ∀ b o, bd.b.ao = some ⟨b, o, none⟩ → w.heap.size ≤ b)) ∧ Below w.heap.size w w'
theorem changed_no {T' : List (List Nm)} {err : Int} (h : err ≠ 0) {w w' : World} (hb : Below w.heap.size w w') : Changed T' err w (.returned (.tuple #[zBeds, .int .i64 err])) w' :=
  ⟨_, rfl, Lib.hid ⟨fun _ => rfl, fun h' => absurd h' h⟩, hb⟩
theorem setErr_1 {T : List (List Nm)} {b a : Int} {l : List Nm} (h : isN b a = false ∨ allNamed l = false) : setErr T b a l = 1 := if_pos h
theorem setErr_9 {T : List (List Nm)} {b a : Int} {l : List Nm} (h1 : isN b a = true) (h2 : allNamed l = true) (h : 4 < l.length) : setErr T b a l = 9 := by
  unfold setErr; rw [if_neg (by rw [h1, h2]; simp), if_pos h]
theorem setErr_8 {T : List (List Nm)} {b a : Int} {l : List Nm} (h1 : isN b a = true) (h2 : allNamed l = true) (h : l.length ≤ 4) (h3 : ¬ (setT T b a l).flatten.Nodup) : setErr T b a l = 8 := by
  unfold setErr; rw [if_neg (by rw [h1, h2]; simp), if_neg (by omega), if_neg h3]
theorem setErr_0 {T : List (List Nm)} {b a : Int} {l : List Nm} (h1 : isN b a = true) (h2 : allNamed l = true) (h : l.length ≤ 4) (h3 : (setT T b a l).flatten.Nodup) : setErr T b a l = 0 := by
  unfold setErr; rw [if_neg (by rw [h1, h2]; simp), if_neg (by omega), if_pos h3]
theorem allNamed_iff {l : List Nm} (h : allNamed l = true) : ∀ p ∈ l, Named p := fun p hp => of_decide_eq_true (List.all_eq_true.1 h p hp)
theorem mem_setT {T : List (List Nm)} {b a : Int} {l : List Nm} {x : List Nm} (h : x ∈ setT T b a l) : x ∈ T ∨ x = l := List.mem_or_eq_of_mem_set h

set_option maxRecDepth 100000 in
set_option maxHeartbeats 1000000 in
theorem set_a (d : Bds) (T : List (List Nm)) (b a : Int) (c : Cel) (B : Nat) (w : World) (hB : B ≤ w.heap.size) (hd : d.ok B w) (hr : Reads T d) (hT : TOk T) (hc : c.ok B w) (hn : isN b a = false) :
    Calls Try.prog 17 #[d.v, .agg #[.int .u8 b, .int .i64 a], c.v] w (Changed (setT T b a c.l) (setErr T b a c.l) w) := by
  rw [setErr_1 (.inl hn)]
  have HN := Lib.hid hn
  have HD := Lib.hid (hd.mono hB)
  have HG := Lib.hid (hr.good hT)
  have HC := Lib.hid (hc.mono hB)
  obtain ⟨⟨fa, fs, fc⟩, ⟨ba, bs, bc⟩⟩ := d
  obtain ⟨ca, cl, cc⟩ := c
  have hcl : cl.length ≤ 100 := hc.1
  clear hn hd hr hT hc
  simp only [Bds.v, Bed.v, Cel.v]
  go_enter Try.func17, Try.ntmps17
  go_wp2_with fail
  obtain ⟨W0, hW0⟩ : ∃ W0, ((w.alloc (.cells #[.slice fa fs.length fc, .slice ba bs.length bc] 35)).alloc (.cells #[.int .u8 b, .int .i64 a] 26)).alloc (.cells #[.slice none 0 0, .slice none 0 0] 35) = W0 := ⟨_, rfl⟩
  have bD : Boxed2 W0 w.heap.size 35 (.slice fa fs.length fc) (.slice ba bs.length bc) := by rw [← hW0]; exact ((Boxed2.new w 35 _ _).alloc _).alloc _
  have bN : Boxed2 W0 (w.heap.size + 1) 26 (.int .u8 b) (.int .i64 a) := by
    rw [← hW0]; have := (Boxed2.new (w.alloc (.cells #[.slice fa fs.length fc, .slice ba bs.length bc] 35)) 26 (.int .u8 b) (.int .i64 a)).alloc (.cells #[.slice none 0 0, .slice none 0 0] 35)
    simp only [World.size_alloc] at this; exact this
  have bR : Boxed2 W0 (w.heap.size + 1 + 1) 35 (.slice none 0 0) (.slice none 0 0) := by
    rw [← hW0]; have := Boxed2.new ((w.alloc (.cells #[.slice fa fs.length fc, .slice ba bs.length bc] 35)).alloc (.cells #[.int .u8 b, .int .i64 a] 26)) 35 (.slice none 0 0) (.slice none 0 0)
    simp only [World.size_alloc] at this; exact this
  have hB0 : Below w.heap.size w W0 := by rw [← hW0]; exact below3 _ _ _ _
  rw [hW0]
  clear hW0
  go_wp2_with (first
    | (go_at_call 10; refine (check_ok ⟨⟨fa, fs, fc⟩, ⟨ba, bs, bc⟩⟩ w.heap.size _ hB0.size (HD.out.below hB0) HG.out).mono ?_; rintro e w1 ⟨rfl, hb1⟩; have hB1 : Below w.heap.size w w1 := hB0.trans (hb1.mono hB0.size); have bD1 := bD.below hb1 bD.lt; have bN1 := bN.below hb1 bN.lt; have bR1 := bR.below hb1 bR.lt; have d01 := bD1.cell0; have d11 := bD1.cell1; have n01 := bN1.cell0; have n11 := bN1.cell1; have r01 := bR1.cell0; have r11 := bR1.cell1; have fR1 := bR1.frozen)
    | (go_at_call 23; refine (isNeedle_any _ _ _ _ HN.out).mono ?_; rintro e w2 ⟨rfl, hb2⟩; have hB2 : Below w.heap.size w w2 := hB1.trans (hb2.mono hB1.size); have bD2 := bD1.below hb2 bD1.lt; have bN2 := bN1.below hb2 bN1.lt; have bR2 := bR1.below hb2 bR1.lt; have d02 := bD2.cell0; have d12 := bD2.cell1; have n02 := bN2.cell0; have n12 := bN2.cell1; have r02 := bR2.cell0; have r12 := bR2.cell1; have fR2 := bR2.frozen))
  have b4 := (bR2.set0 (.slice none 0 0)).set1 (.slice none 0 0)
  have b40 := b4.cell0
  have b41 := b4.cell1
  exact bodyPost_ret (v := .tuple #[zBeds, .int .i64 1]) (by simp [results, Try.results17, go_sem, b40, b41, zBeds]) rfl (changed_no (by decide) ((hB2.setCell (p := ⟨w.heap.size + 1 + 1, 0, none⟩) (by simp; omega) _).setCell (p := ⟨w.heap.size + 1 + 1, 1, none⟩) (by simp; omega) _))
set_option maxRecDepth 100000 in
set_option maxHeartbeats 1000000 in
theorem set_b (d : Bds) (T : List (List Nm)) (b a : Int) (c : Cel) (B : Nat) (w : World) (hB : B ≤ w.heap.size) (hd : d.ok B w) (hr : Reads T d) (hT : TOk T) (hc : c.ok B w) (hn : isN b a = true) (ha : allNamed c.l = false) :
    Calls Try.prog 17 #[d.v, .agg #[.int .u8 b, .int .i64 a], c.v] w (Changed (setT T b a c.l) (setErr T b a c.l) w) := by
  rw [setErr_1 (.inr ha)]
  have HN := Lib.hid hn
  have HD := Lib.hid (hd.mono hB)
  have HG := Lib.hid (hr.good hT)
  have HC := Lib.hid (hc.mono hB)
  obtain ⟨⟨fa, fs, fc⟩, ⟨ba, bs, bc⟩⟩ := d
  obtain ⟨ca, cl, cc⟩ := c
  have hcl : cl.length ≤ 100 := hc.1
  have HA : Hid (allNamed cl = false) := Lib.hid ha
  clear hn ha hd hr hT hc
  simp only [Bds.v, Bed.v, Cel.v]
  go_enter Try.func17, Try.ntmps17
  go_wp2_with fail
  obtain ⟨W0, hW0⟩ : ∃ W0, ((w.alloc (.cells #[.slice fa fs.length fc, .slice ba bs.length bc] 35)).alloc (.cells #[.int .u8 b, .int .i64 a] 26)).alloc (.cells #[.slice none 0 0, .slice none 0 0] 35) = W0 := ⟨_, rfl⟩
  have bD : Boxed2 W0 w.heap.size 35 (.slice fa fs.length fc) (.slice ba bs.length bc) := by rw [← hW0]; exact ((Boxed2.new w 35 _ _).alloc _).alloc _
  have bN : Boxed2 W0 (w.heap.size + 1) 26 (.int .u8 b) (.int .i64 a) := by
    rw [← hW0]; have := (Boxed2.new (w.alloc (.cells #[.slice fa fs.length fc, .slice ba bs.length bc] 35)) 26 (.int .u8 b) (.int .i64 a)).alloc (.cells #[.slice none 0 0, .slice none 0 0] 35)
    simp only [World.size_alloc] at this; exact this
  have bR : Boxed2 W0 (w.heap.size + 1 + 1) 35 (.slice none 0 0) (.slice none 0 0) := by
    rw [← hW0]; have := Boxed2.new ((w.alloc (.cells #[.slice fa fs.length fc, .slice ba bs.length bc] 35)).alloc (.cells #[.int .u8 b, .int .i64 a] 26)) 35 (.slice none 0 0) (.slice none 0 0)
    simp only [World.size_alloc] at this; exact this
  have hB0 : Below w.heap.size w W0 := by rw [← hW0]; exact below3 _ _ _ _
  rw [hW0]
  clear hW0
  go_wp2_with (first
    | (go_at_call 10; refine (check_ok ⟨⟨fa, fs, fc⟩, ⟨ba, bs, bc⟩⟩ w.heap.size _ hB0.size (HD.out.below hB0) HG.out).mono ?_; rintro e w1 ⟨rfl, hb1⟩; have hB1 : Below w.heap.size w w1 := hB0.trans (hb1.mono hB0.size); have bD1 := bD.below hb1 bD.lt; have bN1 := bN.below hb1 bN.lt; have bR1 := bR.below hb1 bR.lt; have d01 := bD1.cell0; have d11 := bD1.cell1; have n01 := bN1.cell0; have n11 := bN1.cell1; have r01 := bR1.cell0; have r11 := bR1.cell1; have fR1 := bR1.frozen)
    | (go_at_call 23; refine (isNeedle_any _ _ _ _ HN.out).mono ?_; rintro e w2 ⟨rfl, hb2⟩; have hB2 : Below w.heap.size w w2 := hB1.trans (hb2.mono hB1.size); have bD2 := bD1.below hb2 bD1.lt; have bN2 := bN1.below hb2 bN1.lt; have bR2 := bR1.below hb2 bR1.lt; have d02 := bD2.cell0; have d12 := bD2.cell1; have n02 := bN2.cell0; have n12 := bN2.cell1; have r02 := bR2.cell0; have r12 := bR2.cell1; have fR2 := bR2.frozen)
    | (go_at_call 24; refine (areNamed_any ⟨ca, cl, cc⟩ w.heap.size _ hB2.size (HC.out.below hB2)).mono ?_; simp only [HA.out]; rintro e w3 ⟨rfl, hb3⟩; have hB3 : Below w.heap.size w w3 := hB2.trans (hb3.mono hB2.size); have bD3 := bD2.below hb3 bD2.lt; have bN3 := bN2.below hb3 bN2.lt; have bR3 := bR2.below hb3 bR2.lt; have d03 := bD3.cell0; have d13 := bD3.cell1; have n03 := bN3.cell0; have n13 := bN3.cell1; have r03 := bR3.cell0; have r13 := bR3.cell1; have fR3 := bR3.frozen))
  have b4 := (bR3.set0 (.slice none 0 0)).set1 (.slice none 0 0)
  have b40 := b4.cell0
  have b41 := b4.cell1
  exact bodyPost_ret (v := .tuple #[zBeds, .int .i64 1]) (by simp [results, Try.results17, go_sem, b40, b41, zBeds]) rfl (changed_no (by decide) ((hB3.setCell (p := ⟨w.heap.size + 1 + 1, 0, none⟩) (by simp; omega) _).setCell (p := ⟨w.heap.size + 1 + 1, 1, none⟩) (by simp; omega) _))
set_option maxRecDepth 100000 in
set_option maxHeartbeats 1000000 in
theorem set_c (d : Bds) (T : List (List Nm)) (b a : Int) (c : Cel) (B : Nat) (w : World) (hB : B ≤ w.heap.size) (hd : d.ok B w) (hr : Reads T d) (hT : TOk T) (hc : c.ok B w) (hn : isN b a = true) (ha : allNamed c.l = true) (h4 : 4 < c.l.length) :
    Calls Try.prog 17 #[d.v, .agg #[.int .u8 b, .int .i64 a], c.v] w (Changed (setT T b a c.l) (setErr T b a c.l) w) := by
  rw [setErr_9 hn ha h4]
  have HN := Lib.hid hn
  have HD := Lib.hid (hd.mono hB)
  have HG := Lib.hid (hr.good hT)
  have HC := Lib.hid (hc.mono hB)
  obtain ⟨⟨fa, fs, fc⟩, ⟨ba, bs, bc⟩⟩ := d
  obtain ⟨ca, cl, cc⟩ := c
  have hcl : cl.length ≤ 100 := hc.1
  have HA : Hid (allNamed cl = true) := Lib.hid ha
  have hgt : decide ((4 : Int) < (cl.length : Int)) = true := by have h5 : 4 < cl.length := h4; simp; omega
  clear hn ha hd hr hT hc h4
  simp only [Bds.v, Bed.v, Cel.v]
  go_enter Try.func17, Try.ntmps17
  go_wp2_with fail
  obtain ⟨W0, hW0⟩ : ∃ W0, ((w.alloc (.cells #[.slice fa fs.length fc, .slice ba bs.length bc] 35)).alloc (.cells #[.int .u8 b, .int .i64 a] 26)).alloc (.cells #[.slice none 0 0, .slice none 0 0] 35) = W0 := ⟨_, rfl⟩
  have bD : Boxed2 W0 w.heap.size 35 (.slice fa fs.length fc) (.slice ba bs.length bc) := by rw [← hW0]; exact ((Boxed2.new w 35 _ _).alloc _).alloc _
  have bN : Boxed2 W0 (w.heap.size + 1) 26 (.int .u8 b) (.int .i64 a) := by
    rw [← hW0]; have := (Boxed2.new (w.alloc (.cells #[.slice fa fs.length fc, .slice ba bs.length bc] 35)) 26 (.int .u8 b) (.int .i64 a)).alloc (.cells #[.slice none 0 0, .slice none 0 0] 35)
    simp only [World.size_alloc] at this; exact this
  have bR : Boxed2 W0 (w.heap.size + 1 + 1) 35 (.slice none 0 0) (.slice none 0 0) := by
    rw [← hW0]; have := Boxed2.new ((w.alloc (.cells #[.slice fa fs.length fc, .slice ba bs.length bc] 35)).alloc (.cells #[.int .u8 b, .int .i64 a] 26)) 35 (.slice none 0 0) (.slice none 0 0)
    simp only [World.size_alloc] at this; exact this
  have hB0 : Below w.heap.size w W0 := by rw [← hW0]; exact below3 _ _ _ _
  rw [hW0]
  clear hW0
  go_wp2_with (first
    | (go_at_call 10; refine (check_ok ⟨⟨fa, fs, fc⟩, ⟨ba, bs, bc⟩⟩ w.heap.size _ hB0.size (HD.out.below hB0) HG.out).mono ?_; rintro e w1 ⟨rfl, hb1⟩; have hB1 : Below w.heap.size w w1 := hB0.trans (hb1.mono hB0.size); have bD1 := bD.below hb1 bD.lt; have bN1 := bN.below hb1 bN.lt; have bR1 := bR.below hb1 bR.lt; have d01 := bD1.cell0; have d11 := bD1.cell1; have n01 := bN1.cell0; have n11 := bN1.cell1; have r01 := bR1.cell0; have r11 := bR1.cell1; have fR1 := bR1.frozen)
    | (go_at_call 23; refine (isNeedle_any _ _ _ _ HN.out).mono ?_; rintro e w2 ⟨rfl, hb2⟩; have hB2 : Below w.heap.size w w2 := hB1.trans (hb2.mono hB1.size); have bD2 := bD1.below hb2 bD1.lt; have bN2 := bN1.below hb2 bN1.lt; have bR2 := bR1.below hb2 bR1.lt; have d02 := bD2.cell0; have d12 := bD2.cell1; have n02 := bN2.cell0; have n12 := bN2.cell1; have r02 := bR2.cell0; have r12 := bR2.cell1; have fR2 := bR2.frozen)
    | (go_at_call 24; refine (areNamed_any ⟨ca, cl, cc⟩ w.heap.size _ hB2.size (HC.out.below hB2)).mono ?_; simp only [HA.out]; rintro e w3 ⟨rfl, hb3⟩; have hB3 : Below w.heap.size w w3 := hB2.trans (hb3.mono hB2.size); have bD3 := bD2.below hb3 bD2.lt; have bN3 := bN2.below hb3 bN2.lt; have bR3 := bR2.below hb3 bR2.lt; have d03 := bD3.cell0; have d13 := bD3.cell1; have n03 := bN3.cell0; have n13 := bN3.cell1; have r03 := bR3.cell0; have r13 := bR3.cell1; have fR3 := bR3.frozen))
  have b4 := (bR3.set0 (.slice none 0 0)).set1 (.slice none 0 0)
  have b40 := b4.cell0
  have b41 := b4.cell1
  exact bodyPost_ret (v := .tuple #[zBeds, .int .i64 9]) (by simp [results, Try.results17, go_sem, b40, b41, zBeds]) rfl (changed_no (by decide) ((hB3.setCell (p := ⟨w.heap.size + 1 + 1, 0, none⟩) (by simp; omega) _).setCell (p := ⟨w.heap.size + 1 + 1, 1, none⟩) (by simp; omega) _))
set_option maxRecDepth 100000 in
set_option maxHeartbeats 1000000 in
theorem set_d (d : Bds) (T : List (List Nm)) (b a : Int) (c : Cel) (B : Nat) (w : World) (hB : B ≤ w.heap.size) (hd : d.ok B w) (hr : Reads T d) (hT : TOk T) (hc : c.ok B w) (b' a' : Nat) (hbb : b = b') (haa : a = (a' : Int) + 1) (hb2' : b' < 2) (ha40 : a' < 40) (hn : isN b a = true) (ha : allNamed c.l = true) (h4 : c.l.length ≤ 4) :
    Calls Try.prog 17 #[d.v, .agg #[.int .u8 b, .int .i64 a], c.v] w (Changed (setT T b a c.l) (setErr T b a c.l) w) := by
  obtain ⟨E9, hE9⟩ : ∃ E9, E9 = setErr T b a c.l := ⟨_, rfl⟩
  obtain ⟨T9, hT9⟩ : ∃ T9, T9 = setT T b a c.l := ⟨_, rfl⟩
  have HSE : Hid (E9 = if T9.flatten.Nodup then 0 else 8) := Lib.hid (by
    rw [hE9, hT9]; split
    · rename_i h; exact setErr_0 hn ha h4 h
    · rename_i h; exact setErr_8 hn ha h4 h)
  have HT9 : Hid (T9 = T.set (b' * 40 + a') c.l) := Lib.hid (by
    rw [hT9, hbb, haa]; unfold setT; congr 1; simp)
  rw [← hE9, ← hT9]
  clear hE9 hT9
  subst hbb
  subst haa
  have HN := Lib.hid hn
  have HFL := Lib.hid hr.fill
  have H40 : Hid (∀ x ∈ d.els, x.i < 40) := Lib.hid fun x hx => hr.i40 hx
  have HST : Hid (∀ l ∈ T9, ∀ p ∈ l, Named p) := Lib.hid fun l hl p hp => by
    rw [HT9.out] at hl
    rcases List.mem_or_eq_of_mem_set hl with h | h
    · exact (hT.st l h).2 p hp
    · rw [h] at hp; exact allNamed_iff ha p hp
  have HLT : Hid (T.length = 80) := Lib.hid hT.len
  have HD := Lib.hid (hd.mono hB)
  have HG := Lib.hid (hr.good hT)
  have HC := Lib.hid (hc.mono hB)
  obtain ⟨⟨fa, fs, fc⟩, ⟨ba, bs, bc⟩⟩ := d
  obtain ⟨ca, cl, cc⟩ := c
  have hcl : cl.length ≤ 100 := hc.1
  have HA : Hid (allNamed cl = true) := Lib.hid ha
  have hgt : decide ((4 : Int) < (cl.length : Int)) = false := by have h5 : cl.length ≤ 4 := h4; simp; omega
  clear hn ha hd hr hT hc h4
  simp only [Bds.v, Bed.v, Cel.v]
  go_enter Try.func17, Try.ntmps17
  go_wp2_with fail
  obtain ⟨W0, hW0⟩ : ∃ W0, ((w.alloc (.cells #[.slice fa fs.length fc, .slice ba bs.length bc] 35)).alloc (.cells #[.int .u8 b', .int .i64 ((a' : Int) + 1)] 26)).alloc (.cells #[.slice none 0 0, .slice none 0 0] 35) = W0 := ⟨_, rfl⟩
  have bD : Boxed2 W0 w.heap.size 35 (.slice fa fs.length fc) (.slice ba bs.length bc) := by rw [← hW0]; exact ((Boxed2.new w 35 _ _).alloc _).alloc _
  have bN : Boxed2 W0 (w.heap.size + 1) 26 (.int .u8 b') (.int .i64 ((a' : Int) + 1)) := by
    rw [← hW0]; have := (Boxed2.new (w.alloc (.cells #[.slice fa fs.length fc, .slice ba bs.length bc] 35)) 26 (.int .u8 b') (.int .i64 ((a' : Int) + 1))).alloc (.cells #[.slice none 0 0, .slice none 0 0] 35)
    simp only [World.size_alloc] at this; exact this
  have bR : Boxed2 W0 (w.heap.size + 1 + 1) 35 (.slice none 0 0) (.slice none 0 0) := by
    rw [← hW0]; have := Boxed2.new ((w.alloc (.cells #[.slice fa fs.length fc, .slice ba bs.length bc] 35)).alloc (.cells #[.int .u8 b', .int .i64 ((a' : Int) + 1)] 26)) 35 (.slice none 0 0) (.slice none 0 0)
    simp only [World.size_alloc] at this; exact this
  have hB0 : Below w.heap.size w W0 := by rw [← hW0]; exact below3 _ _ _ _
  rw [hW0]
  clear hW0
  have HNM : ∀ {d9 : Bds}, Reads T9 d9 → ∀ x ∈ d9.els, ∀ p ∈ x.c.l, Named p := fun {d9} h x hx p hp => by
    rw [← h.at_el hx] at hp
    rcases getD_mem_or (l := T9) (x.k * 40 + x.i) with h1 | h1
    · exact HST.out _ h1 p hp
    · rw [h1] at hp; cases hp
  by_cases hnd : T9.flatten.Nodup
  · have hE : E9 = 0 := by rw [HSE.out, if_pos hnd]
    subst hE
    have HTW : ∀ {d9 : Bds}, Reads T9 d9 → decide (¬ (names d9.els).Nodup) = false := fun {d9} h => by rw [h.names]; simp [hnd]
    go_wp2_with (first
      | (go_at_call 10; refine (check_ok ⟨⟨fa, fs, fc⟩, ⟨ba, bs, bc⟩⟩ w.heap.size _ hB0.size (HD.out.below hB0) HG.out).mono ?_; rintro e w1 ⟨rfl, hb1⟩; have hB1 : Below w.heap.size w w1 := hB0.trans (hb1.mono hB0.size); have bD1 := bD.below hb1 bD.lt; have bN1 := bN.below hb1 bN.lt; have bR1 := bR.below hb1 bR.lt; have d01 := bD1.cell0; have d11 := bD1.cell1; have n01 := bN1.cell0; have n11 := bN1.cell1; have r01 := bR1.cell0; have r11 := bR1.cell1; have fR1 := bR1.frozen)
      | (go_at_call 23; refine (isNeedle_any _ _ _ _ HN.out).mono ?_; rintro e w2 ⟨rfl, hb2⟩; have hB2 : Below w.heap.size w w2 := hB1.trans (hb2.mono hB1.size); have bD2 := bD1.below hb2 bD1.lt; have bN2 := bN1.below hb2 bN1.lt; have bR2 := bR1.below hb2 bR1.lt; have d02 := bD2.cell0; have d12 := bD2.cell1; have n02 := bN2.cell0; have n12 := bN2.cell1; have r02 := bR2.cell0; have r12 := bR2.cell1; have fR2 := bR2.frozen)
      | (go_at_call 24; refine (areNamed_any ⟨ca, cl, cc⟩ w.heap.size _ hB2.size (HC.out.below hB2)).mono ?_; simp only [HA.out]; rintro e w3 ⟨rfl, hb3⟩; have hB3 : Below w.heap.size w w3 := hB2.trans (hb3.mono hB2.size); have bD3 := bD2.below hb3 bD2.lt; have bN3 := bN2.below hb3 bN2.lt; have bR3 := bR2.below hb3 bR2.lt; have d03 := bD3.cell0; have d13 := bD3.cell1; have n03 := bN3.cell0; have n13 := bN3.cell1; have r03 := bR3.cell0; have r13 := bR3.cell1; have fR3 := bR3.frozen)
      | (go_at_call 29; refine (spread_any ⟨⟨fa, fs, fc⟩, ⟨ba, bs, bc⟩⟩ w.heap.size _ hB3.size (HD.out.below hB3) H40.out).mono ?_; rintro e w4 ⟨cs, rfl, hcs, hb4⟩; have hB4 : Below w.heap.size w w4 := hB3.trans (hb4.mono hB3.size); have bD4 := bD3.below hb4 bD3.lt; have bN4 := bN3.below hb4 bN3.lt; have bR4 := bR3.below hb4 bR3.lt; have d04 := bD4.cell0; have d14 := bD4.cell1; have n04 := bN4.cell0; have n14 := bN4.cell1; have r04 := bR4.cell0; have r14 := bR4.cell1; have fR4 := bR4.frozen; have hz := zero68)
      | (refine wpList_store_tab rfl rfl (.inr rfl) _ _ rfl rfl rfl (tab_new w4 68) hcs.out.1 ?_; intro w5 hs5; clear hz; have hB5 : Below w.heap.size w w5 := (hB4.alloc hB4.size _).grown hs5.grown (by have := hB4.size; simp; omega) (fun k e => by cases e; exact hB4.size); have bD5 := (bD4.alloc (.cells zA 68)).kept hs5.grown (by have := bD4.lt; simp; omega); have bN5 := (bN4.alloc (.cells zA 68)).kept hs5.grown (by have := bN4.lt; simp; omega); have bR5 := (bR4.alloc (.cells zA 68)).kept hs5.grown (by have := bR4.lt; simp; omega); have d05 := bD5.cell0; have d15 := bD5.cell1; have n05 := bN5.cell0; have n15 := bN5.cell1; have r05 := bR5.cell0; have r15 := bR5.cell1; have fR5 := bR5.frozen)
      | (go_at_call 30; refine (put_any w4.heap.size cs b' a' ⟨ca, cl, cc⟩ w.heap.size w5 hB5.size (by omega) (by omega) hs5.tab (HC.out.below hB5)).mono ?_; rintro e w6 ⟨⟨v6, rfl⟩, ⟨c6, hT6, hl6, hcap6, hok6⟩, hgr6⟩; have hB6 : Below w.heap.size w w6 := hB5.grown hgr6 hB5.size (fun k e => by cases e; exact hB4.size); have bD6 := bD5.kept hgr6 (by have := bD4.lt; simp; omega); have bN6 := bN5.kept hgr6 (by have := bN4.lt; simp; omega); have bR6 := bR5.kept hgr6 (by have := bR4.lt; simp; omega); have d06 := bD6.cell0; have d16 := bD6.cell1; have n06 := bN6.cell0; have n16 := bN6.cell1; have r06 := bR6.cell0; have r16 := bR6.cell1; have fR6 := bR6.frozen; have HT6 := Lib.hid hT6; have HL6 := Lib.hid hl6; have HF6 : Hid (Fine w6 (cs.set (b' * 40 + a') c6)) := Lib.hid ((((hcs.out.2.2.below (below1 w4 (.cells zA 68))).grown_tab (tab_new w4 68) hs5.grown).grown_tab hs5.tab hgr6).set _ ⟨by rw [hcap6, hl6], hok6⟩); clear hT6 hl6 hcap6 hok6)
      | (go_at_call 31; refine (tbeds_any w4.heap.size (cs.set (b' * 40 + a') c6) w6 HT6.out HF6.out).mono ?_; rintro e w7 ⟨⟨⟨ga, gs, gc⟩, ⟨ka, ks, kc⟩⟩, rfl, hbd, hb7⟩; simp only [Bds.v, Bed.v]; have hB7 : Below w.heap.size w w7 := hB6.trans (hb7.mono hB6.size); have bD7 := bD6.below hb7 bD6.lt; have bN7 := bN6.below hb7 bN6.lt; have bR7 := bR6.below hb7 bR6.lt; have d07 := bD7.cell0; have d17 := bD7.cell1; have n07 := bN7.cell0; have n17 := bN7.cell1; have r07 := bR7.cell0; have r17 := bR7.cell1; have fR7 := bR7.frozen; have HRD : Hid (Reads T9 ⟨⟨ga, gs, gc⟩, ⟨ka, ks, kc⟩⟩ ∧ Tight ⟨⟨ga, gs, gc⟩, ⟨ka, ks, kc⟩⟩) := Lib.hid (by have h9 := reads_of HT6.out.2 hbd.out.1; rw [List.map_set, hcs.out.2.1, HFL.out, HL6.out] at h9; rw [HT9.out]; exact h9))
      | (go_at_call 25; refine (twice_any ⟨⟨ga, gs, gc⟩, ⟨ka, ks, kc⟩⟩ w7.heap.size _ (by simp) (hbd.out.2.1.below (below1 _ _)) (HNM HRD.out.1)).mono ?_; rw [HTW HRD.out.1]; rintro e w8 ⟨rfl, hb8⟩; have hb8' : Below w7.heap.size w7 w8 := (below1 _ _).trans (hb8.mono (by simp)); have hB8 : Below w.heap.size w w8 := hB7.trans (hb8'.mono hB7.size); have bD8 := bD7.below hb8' bD7.lt; have bN8 := bN7.below hb8' bN7.lt; have bR8 := bR7.below hb8' bR7.lt; have d08 := bD8.cell0; have d18 := bD8.cell1; have n08 := bN8.cell0; have n18 := bN8.cell1; have r08 := bR8.cell0; have r18 := bR8.cell1; have fR8 := bR8.frozen; have bX8 := (Boxed2.new w7 35 (.slice ga gs.length gc) (.slice ka ks.length kc)).below hb8 (by simp); have x0 := bX8.cell0; have x1 := bX8.cell1; have HB7 := Lib.hid (hbd.out.2.1.below hb8')))
    have hne : ∀ x : Option Addr, (∀ b o, x = some ⟨b, o, none⟩ → w6.heap.size ≤ b) → ∀ b o, x = some ⟨b, o, none⟩ → b ≠ w.heap.size + 1 + 1 := fun x h b o e => by
      have h1 := h b o e
      have h2 := bR6.lt
      omega
    have nF := hne ga hbd.out.2.2.1
    have nB := hne ka hbd.out.2.2.2
    have b9 := bR8.set0 (.slice ga gs.length gc)
    have b4 := b9.set1 (.slice ka ks.length kc)
    have b40 := b4.cell0
    have b41 := b4.cell1
    have okF := (((HB7.out.1.mono hb8'.size).set_box bR8 (isSl_mk _ _ _) (isSl_mk _ _ _) nF 0 (.slice ga gs.length gc)).set_box b9 (isSl_mk _ _ _) (isSl_mk _ _ _) nF 1 (.slice ka ks.length kc))
    have okB := (((HB7.out.2.mono hb8'.size).set_box bR8 (isSl_mk _ _ _) (isSl_mk _ _ _) nB 0 (.slice ga gs.length gc)).set_box b9 (isSl_mk _ _ _) (isSl_mk _ _ _) nB 1 (.slice ka ks.length kc))
    refine bodyPost_ret (v := .tuple #[.agg #[.slice ga gs.length gc, .slice ka ks.length kc], .int .i64 0]) (by simp [results, Try.results17, go_sem, b40, b41]) rfl ⟨_, rfl, Lib.hid ⟨fun h => absurd rfl h, fun _ => ⟨_, rfl, HRD.out.1, HRD.out.2, ⟨okF.mono (by simp), okB.mono (by simp)⟩, fun b o e => Nat.le_trans hB6.size (hbd.out.2.2.1 b o e), fun b o e => Nat.le_trans hB6.size (hbd.out.2.2.2 b o e)⟩⟩, ?_⟩
    exact (hB8.setCell (p := ⟨w.heap.size + 1 + 1, 0, none⟩) (by simp; omega) _).setCell (p := ⟨w.heap.size + 1 + 1, 1, none⟩) (by simp; omega) _
  · have hE : E9 = 8 := by rw [HSE.out, if_neg hnd]
    subst hE
    have HTW : ∀ {d9 : Bds}, Reads T9 d9 → decide (¬ (names d9.els).Nodup) = true := fun {d9} h => by rw [h.names]; simp [hnd]
    go_wp2_with (first
      | (go_at_call 10; refine (check_ok ⟨⟨fa, fs, fc⟩, ⟨ba, bs, bc⟩⟩ w.heap.size _ hB0.size (HD.out.below hB0) HG.out).mono ?_; rintro e w1 ⟨rfl, hb1⟩; have hB1 : Below w.heap.size w w1 := hB0.trans (hb1.mono hB0.size); have bD1 := bD.below hb1 bD.lt; have bN1 := bN.below hb1 bN.lt; have bR1 := bR.below hb1 bR.lt; have d01 := bD1.cell0; have d11 := bD1.cell1; have n01 := bN1.cell0; have n11 := bN1.cell1; have r01 := bR1.cell0; have r11 := bR1.cell1; have fR1 := bR1.frozen)
      | (go_at_call 23; refine (isNeedle_any _ _ _ _ HN.out).mono ?_; rintro e w2 ⟨rfl, hb2⟩; have hB2 : Below w.heap.size w w2 := hB1.trans (hb2.mono hB1.size); have bD2 := bD1.below hb2 bD1.lt; have bN2 := bN1.below hb2 bN1.lt; have bR2 := bR1.below hb2 bR1.lt; have d02 := bD2.cell0; have d12 := bD2.cell1; have n02 := bN2.cell0; have n12 := bN2.cell1; have r02 := bR2.cell0; have r12 := bR2.cell1; have fR2 := bR2.frozen)
      | (go_at_call 24; refine (areNamed_any ⟨ca, cl, cc⟩ w.heap.size _ hB2.size (HC.out.below hB2)).mono ?_; simp only [HA.out]; rintro e w3 ⟨rfl, hb3⟩; have hB3 : Below w.heap.size w w3 := hB2.trans (hb3.mono hB2.size); have bD3 := bD2.below hb3 bD2.lt; have bN3 := bN2.below hb3 bN2.lt; have bR3 := bR2.below hb3 bR2.lt; have d03 := bD3.cell0; have d13 := bD3.cell1; have n03 := bN3.cell0; have n13 := bN3.cell1; have r03 := bR3.cell0; have r13 := bR3.cell1; have fR3 := bR3.frozen)
      | (go_at_call 29; refine (spread_any ⟨⟨fa, fs, fc⟩, ⟨ba, bs, bc⟩⟩ w.heap.size _ hB3.size (HD.out.below hB3) H40.out).mono ?_; rintro e w4 ⟨cs, rfl, hcs, hb4⟩; have hB4 : Below w.heap.size w w4 := hB3.trans (hb4.mono hB3.size); have bD4 := bD3.below hb4 bD3.lt; have bN4 := bN3.below hb4 bN3.lt; have bR4 := bR3.below hb4 bR3.lt; have d04 := bD4.cell0; have d14 := bD4.cell1; have n04 := bN4.cell0; have n14 := bN4.cell1; have r04 := bR4.cell0; have r14 := bR4.cell1; have fR4 := bR4.frozen; have hz := zero68)
      | (refine wpList_store_tab rfl rfl (.inr rfl) _ _ rfl rfl rfl (tab_new w4 68) hcs.out.1 ?_; intro w5 hs5; clear hz; have hB5 : Below w.heap.size w w5 := (hB4.alloc hB4.size _).grown hs5.grown (by have := hB4.size; simp; omega) (fun k e => by cases e; exact hB4.size); have bD5 := (bD4.alloc (.cells zA 68)).kept hs5.grown (by have := bD4.lt; simp; omega); have bN5 := (bN4.alloc (.cells zA 68)).kept hs5.grown (by have := bN4.lt; simp; omega); have bR5 := (bR4.alloc (.cells zA 68)).kept hs5.grown (by have := bR4.lt; simp; omega); have d05 := bD5.cell0; have d15 := bD5.cell1; have n05 := bN5.cell0; have n15 := bN5.cell1; have r05 := bR5.cell0; have r15 := bR5.cell1; have fR5 := bR5.frozen)
      | (go_at_call 30; refine (put_any w4.heap.size cs b' a' ⟨ca, cl, cc⟩ w.heap.size w5 hB5.size (by omega) (by omega) hs5.tab (HC.out.below hB5)).mono ?_; rintro e w6 ⟨⟨v6, rfl⟩, ⟨c6, hT6, hl6, hcap6, hok6⟩, hgr6⟩; have hB6 : Below w.heap.size w w6 := hB5.grown hgr6 hB5.size (fun k e => by cases e; exact hB4.size); have bD6 := bD5.kept hgr6 (by have := bD4.lt; simp; omega); have bN6 := bN5.kept hgr6 (by have := bN4.lt; simp; omega); have bR6 := bR5.kept hgr6 (by have := bR4.lt; simp; omega); have d06 := bD6.cell0; have d16 := bD6.cell1; have n06 := bN6.cell0; have n16 := bN6.cell1; have r06 := bR6.cell0; have r16 := bR6.cell1; have fR6 := bR6.frozen; have HT6 := Lib.hid hT6; have HL6 := Lib.hid hl6; have HF6 : Hid (Fine w6 (cs.set (b' * 40 + a') c6)) := Lib.hid ((((hcs.out.2.2.below (below1 w4 (.cells zA 68))).grown_tab (tab_new w4 68) hs5.grown).grown_tab hs5.tab hgr6).set _ ⟨by rw [hcap6, hl6], hok6⟩); clear hT6 hl6 hcap6 hok6)
      | (go_at_call 31; refine (tbeds_any w4.heap.size (cs.set (b' * 40 + a') c6) w6 HT6.out HF6.out).mono ?_; rintro e w7 ⟨⟨⟨ga, gs, gc⟩, ⟨ka, ks, kc⟩⟩, rfl, hbd, hb7⟩; simp only [Bds.v, Bed.v]; have hB7 : Below w.heap.size w w7 := hB6.trans (hb7.mono hB6.size); have bD7 := bD6.below hb7 bD6.lt; have bN7 := bN6.below hb7 bN6.lt; have bR7 := bR6.below hb7 bR6.lt; have d07 := bD7.cell0; have d17 := bD7.cell1; have n07 := bN7.cell0; have n17 := bN7.cell1; have r07 := bR7.cell0; have r17 := bR7.cell1; have fR7 := bR7.frozen; have HRD : Hid (Reads T9 ⟨⟨ga, gs, gc⟩, ⟨ka, ks, kc⟩⟩ ∧ Tight ⟨⟨ga, gs, gc⟩, ⟨ka, ks, kc⟩⟩) := Lib.hid (by have h9 := reads_of HT6.out.2 hbd.out.1; rw [List.map_set, hcs.out.2.1, HFL.out, HL6.out] at h9; rw [HT9.out]; exact h9))
      | (go_at_call 25; refine (twice_any ⟨⟨ga, gs, gc⟩, ⟨ka, ks, kc⟩⟩ w7.heap.size _ (by simp) (hbd.out.2.1.below (below1 _ _)) (HNM HRD.out.1)).mono ?_; rw [HTW HRD.out.1]; rintro e w8 ⟨rfl, hb8⟩; have hb8' : Below w7.heap.size w7 w8 := (below1 _ _).trans (hb8.mono (by simp)); have hB8 : Below w.heap.size w w8 := hB7.trans (hb8'.mono hB7.size); have bD8 := bD7.below hb8' bD7.lt; have bN8 := bN7.below hb8' bN7.lt; have bR8 := bR7.below hb8' bR7.lt; have d08 := bD8.cell0; have d18 := bD8.cell1; have n08 := bN8.cell0; have n18 := bN8.cell1; have r08 := bR8.cell0; have r18 := bR8.cell1; have fR8 := bR8.frozen; have bX8 := (Boxed2.new w7 35 (.slice ga gs.length gc) (.slice ka ks.length kc)).below hb8 (by simp); have x0 := bX8.cell0; have x1 := bX8.cell1; have HB7 := Lib.hid (hbd.out.2.1.below hb8')))
    have b4 := (bR8.set0 (.slice none 0 0)).set1 (.slice none 0 0)
    have b40 := b4.cell0
    have b41 := b4.cell1
    exact bodyPost_ret (v := .tuple #[zBeds, .int .i64 8]) (by simp [results, Try.results17, go_sem, b40, b41, zBeds]) rfl (changed_no (by decide) ((hB8.setCell (p := ⟨w.heap.size + 1 + 1, 0, none⟩) (by simp; omega) _).setCell (p := ⟨w.heap.size + 1 + 1, 1, none⟩) (by simp; omega) _))

theorem set_any (d : Bds) (T : List (List Nm)) (b a : Int) (hb0 : 0 ≤ b) (c : Cel) (B : Nat) (w : World) (hB : B ≤ w.heap.size) (hd : d.ok B w) (hr : Reads T d) (hT : TOk T) (hc : c.ok B w) :
    Calls Try.prog 17 #[d.v, .agg #[.int .u8 b, .int .i64 a], c.v] w (Changed (setT T b a c.l) (setErr T b a c.l) w) := by
  have hq : isN b a = true ∨ isN b a = false := by cases isN b a <;> simp
  rcases hq with hq | hq
  · have hq2 : allNamed c.l = true ∨ allNamed c.l = false := by cases allNamed c.l <;> simp
    rcases hq2 with hq2 | hq2
    · by_cases h4 : 4 < c.l.length
      · exact set_c d T b a c B w hB hd hr hT hc hq hq2 h4
      · have h1 := isN_true hq
        exact set_d d T b a c B w hB hd hr hT hc b.toNat (a - 1).toNat (by omega) (by omega) (by omega) (by omega) hq hq2 (by omega)
    · exact set_b d T b a c B w hB hd hr hT hc hq hq2
  · exact set_a d T b a c B w hB hd hr hT hc hq
end Go.Proofs.Ytjjnhmbgffdenaa
