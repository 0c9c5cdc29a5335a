import Derived.Test.YtlhgigmpebgjbaaJoR
namespace Go.Proofs.Ytlhgigmpebgjbaa
open Go.RowKit Go.Sort
def psiJl8 (BB : Nat) (k : Nat) (k1 : Nat) (i1 : Nat) (nb : Int) (na : Int) : Nat → Value → World → Prop
  | 0, v9, _ => v9 = .int .i64 k
  | 1, v9, _ => v9 = .int .u8 k
  | 2, v9, _ => v9 = .agg #[.int .u8 k1, .int .i64 ((i1 : Int) + 1)]
  | 3, v9, _ => v9 = .agg #[.int .u8 nb, .int .i64 na]
  | _, _, _ => True
theorem psiJl8_stab (BB : Nat) (k : Nat) (k1 : Nat) (i1 : Nat) (nb : Int) (na : Int) (i9 : Nat) (v9 : Value) (w9 w9' : World) (h : psiJl8 BB k k1 i1 nb na i9 v9 w9) (_hb : Below w9.heap.size w9 w9') : psiJl8 BB k k1 i1 nb na i9 v9 w9' := by
  match i9, h with
  | 0, h => exact h
  | 1, h => exact h
  | 2, h => exact h
  | 3, h => exact h
  | i9 + 4, _ => exact trivial
def psiJl10 (BB : Nat) (k : Nat) (k1 : Nat) (i1 : Nat) (nb : Int) (na : Int) : Nat → Value → World → Prop
  | 0, v9, _ => v9 = .int .i64 k
  | 1, v9, _ => v9 = .int .u8 k
  | 2, v9, _ => v9 = .agg #[.int .u8 k1, .int .i64 ((i1 : Int) + 1)]
  | 3, v9, _ => v9 = .agg #[.int .u8 nb, .int .i64 na]
  | _, _, _ => True
theorem psiJl10_stab (BB : Nat) (k : Nat) (k1 : Nat) (i1 : Nat) (nb : Int) (na : Int) (i9 : Nat) (v9 : Value) (w9 w9' : World) (h : psiJl10 BB k k1 i1 nb na i9 v9 w9) (_hb : Below w9.heap.size w9 w9') : psiJl10 BB k k1 i1 nb na i9 v9 w9' := by
  match i9, h with
  | 0, h => exact h
  | 1, h => exact h
  | 2, h => exact h
  | 3, h => exact h
  | i9 + 4, _ => exact trivial
def psiJl17 (B7 : Nat) (i : Nat) (j : Nat) (xa : Option Addr) (xn : Nat) (xc : Nat) (ya : Option Addr) (yn : Nat) (yc : Nat) : Nat → Value → World → Prop
  | 0, v9, _ => v9 = .int .i64 i
  | 1, v9, _ => v9 = .pointer (some ⟨B7, i, none⟩)
  | 2, v9, _ => v9 = .slice xa xn xc
  | 3, v9, _ => v9 = .int .i64 xn
  | 4, v9, _ => v9 = .int .i64 j
  | 5, v9, _ => v9 = .pointer (some ⟨B7, j, none⟩)
  | 6, v9, _ => v9 = .slice ya yn yc
  | 7, v9, _ => v9 = .int .i64 yn
  | _, _, _ => True
theorem psiJl17_stab (B7 : Nat) (i : Nat) (j : Nat) (xa : Option Addr) (xn : Nat) (xc : Nat) (ya : Option Addr) (yn : Nat) (yc : Nat) (i9 : Nat) (v9 : Value) (w9 w9' : World) (h : psiJl17 B7 i j xa xn xc ya yn yc i9 v9 w9) (_hb : Below w9.heap.size w9 w9') : psiJl17 B7 i j xa xn xc ya yn yc i9 v9 w9' := by
  match i9, h with
  | 0, h => exact h
  | 1, h => exact h
  | 2, h => exact h
  | 3, h => exact h
  | 4, h => exact h
  | 5, h => exact h
  | 6, h => exact h
  | 7, h => exact h
  | i9 + 8, _ => exact trivial
def psiJl26 (N : Nat) (B7 : Nat) (B16 : Nat) (j : Nat) (f : Nat) (s : Nat) (pa : Option Addr) (pl : List Nm) (pc : Nat) (qa : Option Addr) (ql : List Nm) (qc : Nat) (i9i : Nat) : Nat → Array Bool → Value → World → Prop
  | 0, _, v9, _ => v9 = .int .i64 j
  | 1, L9, v9, w9 => L9.getD 9 false = false → ∃ g, v9 = .slice (some ⟨g, 0, none⟩) 0 0 ∧ N ≤ g ∧ w9.heap[g]? = some (.cells #[] 28 (0, 0))
  | 2, _, v9, _ => v9 = .int .i64 j
  | 3, _, v9, _ => v9 = .pointer (some ⟨B7, j, none⟩)
  | 4, _, v9, _ => v9 = .slice pa pl.length pc
  | 5, L9, v9, w9 => L9.getD 9 false = false → World.ownsRow w9 N 28 2 v9 pl.length (cellsOf pl)
  | 6, _, v9, _ => v9 = .int .i64 i9i
  | 7, _, v9, _ => v9 = .pointer (some ⟨B7, i9i, none⟩)
  | 8, _, v9, _ => v9 = .slice qa ql.length qc
  | 9, _, v9, w9 => ∃ c9 : Cel, v9 = c9.v ∧ c9.l = pl ++ ql ∧ c9.ok w9.heap.size w9
  | 10, _, v9, _ => v9 = .pointer (some ⟨B16, j, none⟩)
  | _, _, _, _ => True
theorem psiJl26_stab (N : Nat) (B7 : Nat) (B16 : Nat) (j : Nat) (f : Nat) (s : Nat) (pa : Option Addr) (pl : List Nm) (pc : Nat) (qa : Option Addr) (ql : List Nm) (qc : Nat) (i9i : Nat) (N9 : Nat) (i9 : Nat) (L9 : Array Bool) (hL : i9 < L9.size) (j9 : Nat) (v9 : Value) (w9 w9' : World) (hne : j9 ≠ i9) (h : psiJl26 N B7 B16 j f s pa pl pc qa ql qc i9i j9 L9 v9 w9) (hb : w9' = w9 ∨ RAp N9 9 i9 w9 w9') : psiJl26 N B7 B16 j f s pa pl pc qa ql qc i9i j9 (L9.setIfInBounds i9 true) v9 w9' := by
  have hB : i9 ≠ 9 → Below w9.heap.size w9 w9' := fun hi => by
    rcases hb with rfl | hb
    · exact Below.refl _ _
    · unfold RAp at hb; rw [if_neg hi] at hb; exact hb
  have hV : i9 = 9 → (L9.setIfInBounds i9 true).getD 9 false = true := fun hi => by subst hi; simp [hL]
  have hF : i9 ≠ 9 → (L9.setIfInBounds i9 true).getD 9 false = L9.getD 9 false := fun hi => Go.getD_set_ne false hi
  match j9, h, hne with
  | 0, h, _ => exact h
  | 1, h, _ =>
    intro hL2
    by_cases hi : i9 = 9
    · rw [hV hi] at hL2; cases hL2
    · have hb := hB hi
      rw [hF hi] at hL2
      have h := h hL2
      obtain ⟨g, h1, h2, h3⟩ := h; exact ⟨g, h1, h2, (hb.block g (Array.getElem?_eq_some_iff.1 h3).1).trans h3⟩
  | 2, h, _ => exact h
  | 3, h, _ => exact h
  | 4, h, _ => exact h
  | 5, h, _ =>
    intro hL2
    by_cases hi : i9 = 9
    · rw [hV hi] at hL2; cases hL2
    · have hb := hB hi
      rw [hF hi] at hL2
      have h := h hL2
      exact below_owns h hb
  | 6, h, _ => exact h
  | 7, h, _ => exact h
  | 8, h, _ => exact h
  | 9, h, hne =>
    have hb := hB (fun e => hne e.symm)
    obtain ⟨c9, h1, h2, h3⟩ := h; exact ⟨c9, h1, h2, (h3.below hb).mono hb.size⟩
  | 10, h, _ => exact h
  | j9 + 11, _, _ => exact trivial
def psiJl27 (N : Nat) (B7 : Nat) (B16 : Nat) (j : Nat) (f : Nat) (s : Nat) (pa : Option Addr) (pl : List Nm) (pc : Nat) (qa : Option Addr) (ql : List Nm) (qc : Nat) (i9i : Nat) : Nat → Array Bool → Value → World → Prop
  | 0, _, v9, _ => v9 = .int .i64 j
  | 1, L9, v9, w9 => L9.getD 9 false = false → ∃ g, v9 = .slice (some ⟨g, 0, none⟩) 0 0 ∧ N ≤ g ∧ w9.heap[g]? = some (.cells #[] 28 (0, 0))
  | 2, _, v9, _ => v9 = .int .i64 i9i
  | 3, _, v9, _ => v9 = .pointer (some ⟨B7, i9i, none⟩)
  | 4, _, v9, _ => v9 = .slice pa pl.length pc
  | 5, L9, v9, w9 => L9.getD 9 false = false → World.ownsRow w9 N 28 2 v9 pl.length (cellsOf pl)
  | 6, _, v9, _ => v9 = .int .i64 j
  | 7, _, v9, _ => v9 = .pointer (some ⟨B7, j, none⟩)
  | 8, _, v9, _ => v9 = .slice qa ql.length qc
  | 9, _, v9, w9 => ∃ c9 : Cel, v9 = c9.v ∧ c9.l = pl ++ ql ∧ c9.ok w9.heap.size w9
  | 10, _, v9, _ => v9 = .pointer (some ⟨B16, j, none⟩)
  | _, _, _, _ => True
theorem psiJl27_stab (N : Nat) (B7 : Nat) (B16 : Nat) (j : Nat) (f : Nat) (s : Nat) (pa : Option Addr) (pl : List Nm) (pc : Nat) (qa : Option Addr) (ql : List Nm) (qc : Nat) (i9i : Nat) (N9 : Nat) (i9 : Nat) (L9 : Array Bool) (hL : i9 < L9.size) (j9 : Nat) (v9 : Value) (w9 w9' : World) (hne : j9 ≠ i9) (h : psiJl27 N B7 B16 j f s pa pl pc qa ql qc i9i j9 L9 v9 w9) (hb : w9' = w9 ∨ RAp N9 9 i9 w9 w9') : psiJl27 N B7 B16 j f s pa pl pc qa ql qc i9i j9 (L9.setIfInBounds i9 true) v9 w9' := by
  have hB : i9 ≠ 9 → Below w9.heap.size w9 w9' := fun hi => by
    rcases hb with rfl | hb
    · exact Below.refl _ _
    · unfold RAp at hb; rw [if_neg hi] at hb; exact hb
  have hV : i9 = 9 → (L9.setIfInBounds i9 true).getD 9 false = true := fun hi => by subst hi; simp [hL]
  have hF : i9 ≠ 9 → (L9.setIfInBounds i9 true).getD 9 false = L9.getD 9 false := fun hi => Go.getD_set_ne false hi
  match j9, h, hne with
  | 0, h, _ => exact h
  | 1, h, _ =>
    intro hL2
    by_cases hi : i9 = 9
    · rw [hV hi] at hL2; cases hL2
    · have hb := hB hi
      rw [hF hi] at hL2
      have h := h hL2
      obtain ⟨g, h1, h2, h3⟩ := h; exact ⟨g, h1, h2, (hb.block g (Array.getElem?_eq_some_iff.1 h3).1).trans h3⟩
  | 2, h, _ => exact h
  | 3, h, _ => exact h
  | 4, h, _ => exact h
  | 5, h, _ =>
    intro hL2
    by_cases hi : i9 = 9
    · rw [hV hi] at hL2; cases hL2
    · have hb := hB hi
      rw [hF hi] at hL2
      have h := h hL2
      exact below_owns h hb
  | 6, h, _ => exact h
  | 7, h, _ => exact h
  | 8, h, _ => exact h
  | 9, h, hne =>
    have hb := hB (fun e => hne e.symm)
    obtain ⟨c9, h1, h2, h3⟩ := h; exact ⟨c9, h1, h2, (h3.below hb).mono hb.size⟩
  | 10, h, _ => exact h
  | j9 + 11, _, _ => exact trivial
def psiJl29 (PU : Nat) (PG : Nat) (PB : Nat) (cs2 : List Cel) (ja : Option Addr) (jn : Nat) (jc : Nat) (la : Option Addr) (ln : Nat) (lc : Nat) (ga : Option Addr) (gn : Nat) (gc : Nat) (ka : Option Addr) (kn : Nat) (kc : Nat) (nn : Nat) : Nat → Value → World → Prop
  | 0, v9, _ => v9 = tabV cs2
  | 1, v9, _ => v9 = .agg #[.slice ja jn jc, .slice la ln lc]
  | 2, v9, _ => v9 = .int .i64 0
  | 3, v9, _ => v9 = .bool false
  | 4, v9, _ => v9 = .bool false
  | 5, v9, _ => v9 = .agg #[.slice ja jn jc, .slice la ln lc]
  | 6, v9, _ => v9 = .int .i64 nn
  | 7, v9, _ => v9 = .agg #[.slice ga gn gc, .slice ka kn kc]
  | _, _, _ => True
theorem psiJl29_stab (PU : Nat) (PG : Nat) (PB : Nat) (cs2 : List Cel) (ja : Option Addr) (jn : Nat) (jc : Nat) (la : Option Addr) (ln : Nat) (lc : Nat) (ga : Option Addr) (gn : Nat) (gc : Nat) (ka : Option Addr) (kn : Nat) (kc : Nat) (nn : Nat) (i9 : Nat) (v9 : Value) (w9 w9' : World) (h : psiJl29 PU PG PB cs2 ja jn jc la ln lc ga gn gc ka kn kc nn i9 v9 w9) (_hb : Below w9.heap.size w9 w9') : psiJl29 PU PG PB cs2 ja jn jc la ln lc ga gn gc ka kn kc nn i9 v9 w9' := by
  match i9, h with
  | 0, h => exact h
  | 1, h => exact h
  | 2, h => exact h
  | 3, h => exact h
  | 4, h => exact h
  | 5, h => exact h
  | 6, h => exact h
  | 7, h => exact h
  | i9 + 8, _ => exact trivial
set_option maxRecDepth 100000 in
set_option maxHeartbeats 8000000 in
theorem join_law (ao : Option Addr) (xs : List (Nat × Nat)) (cap : Nat) (b1 a1 b2 a2 : Int) (hb1 : 0 ≤ b1 ∧ b1 ≤ 255) (hb2 : 0 ≤ b2 ∧ b2 ≤ 255) (w : World) (h : LieP w ao xs) :
    Calls Try.prog 5 #[.slice ao xs.length cap, .agg #[.int .u8 b1, .int .i64 a1], .agg #[.int .u8 b2, .int .i64 a2]] w fun e w' => e = .returned (.bool true) ∧ Below w.heap.size w w' := by
  have HL := Lib.hid h
  clear h
  obtain ⟨T9, hT9⟩ : ∃ T9, T9 = ofM xs := ⟨_, rfl⟩
  have HTO : Hid (TOk T9) := Lib.hid (by rw [hT9]; exact ofM_ok _)
  have HT9 := Lib.hid hT9
  clear hT9
  obtain ⟨xn, hN⟩ : ∃ N, N = xs.length := ⟨_, rfl⟩
  rw [← hN]
  have HN := Lib.hid hN
  clear hN
  obtain ⟨er, her⟩ : ∃ e, e = joinErr T9 b1 a1 b2 a2 := ⟨_, rfl⟩
  have HER := Lib.hid her
  have HG1 := Lib.hid hb1
  have HG2 := Lib.hid hb2
  clear her hb1 hb2
  go_enter Try.func5, Try.ntmps5
  go_wp2_with fail
  obtain ⟨W0, hW0⟩ : ∃ W, (w.alloc (.cells #[.int .u8 b1, .int .i64 a1] 26)).alloc (.cells #[.int .u8 b2, .int .i64 a2] 26) = W := ⟨_, rfl⟩
  have hB0 : RowKit.Below w.heap.size w W0 := by rw [← hW0]; exact below2 _ _ _
  have HBN0 : Hid (Boxed2 W0 w.heap.size 26 (.int .u8 b1) (.int .i64 a1)) := Lib.hid (by rw [← hW0]; exact (Boxed2.new w 26 _ _).alloc _)
  have HBM0 : Hid (Boxed2 W0 (w.heap.size + 1) 26 (.int .u8 b2) (.int .i64 a2)) := Lib.hid (by
    rw [← hW0]; have := Boxed2.new (w.alloc (.cells #[.int .u8 b1, .int .i64 a1] 26)) 26 (.int .u8 b2) (.int .i64 a2)
    simp only [World.size_alloc] at this; exact this)
  have HOF : Hid (Calls Try.prog 8 #[.slice ao xn cap] W0 (NewFul T9 W0)) := Lib.hid (by
    rw [HN.out, HT9.out]; exact of_any ao xs cap W0 (HL.out.below hB0))
  rw [hW0]
  clear hW0 HT9 HN HL
  have hz := zero31
  have tkO : True := trivial
  have tkS : True := trivial
  have tkL : True := trivial
  have tkB : True := trivial
  go_upto_region 3 with (first
    | (go_at_call 8; clear tkO; refine HOF.out.mono ?_; rintro e wa ⟨cs, rfl, hcs, hb1⟩; clear HOF; have hB1 : RowKit.Below w.heap.size w wa := hB0.trans (hb1.mono hB0.size); have HBN1 := Lib.hid (HBN0.out.below hb1 HBN0.out.lt); have HBM1 := Lib.hid (HBM0.out.below hb1 HBM0.out.lt); clear hB0 hb1 HBN0 HBM0)
    | (clear tkS; refine wpList_store_tab rfl rfl (.inl rfl) _ _ rfl rfl rfl (tab_new wa 31) hcs.out.1 ?_; intro wb hs2; clear hz; have HT2 := Lib.hid hs2.tab; have hB2 : RowKit.Below w.heap.size w wb := (hB1.alloc hB1.size _).grown hs2.grown (by have := hB1.size; simp; omega) (fun r e => by cases e; exact hB1.size); have HBN2 := Lib.hid ((HBN1.out.alloc (.cells zA 31)).kept hs2.grown (by have := HBN1.out.lt; simp; omega)); have HBM2 := Lib.hid ((HBM1.out.alloc (.cells zA 31)).kept hs2.grown (by have := HBM1.out.lt; simp; omega)); have HOK2 : Hid (∀ c ∈ cs, c.ok wb.heap.size wb) := Lib.hid (fun c hc => Cel.ok.grown_tab (((hcs.out.2.2 c hc).below (below1 wa (.cells zA 31))).mono (below1 wa (.cells zA 31)).size) (tab_new wa 31) hs2.grown); have HLC : Hid (cs.length = 80 ∧ cs.map (fun c => c.l) = T9) := Lib.hid ⟨hcs.out.1, hcs.out.2.1⟩; have HP2 : Hid (w.heap.size ≤ wa.heap.size ∧ wa.heap.size < wb.heap.size) := Lib.hid ⟨hB1.size, HT2.out.lt⟩; clear hs2 hcs hB1 HBN1 HBM1)
    | (clear tkL; refine wpList_load_tab rfl (.inl rfl) _ rfl rfl HT2.out ?_)
    | (go_at_call 9; clear tkB; refine (beds_any cs wb HLC.out.1 HOK2.out).mono ?_; rw [HLC.out.2]; rintro e wd ⟨⟨⟨ga, gs, gc⟩, ⟨ka, ks, kc⟩⟩, rfl, hbd, hb3⟩; simp only [Bds.v, Bed.v]))
  have hB3 : RowKit.Below w.heap.size w wd := hB2.trans (hb3.mono hB2.size)
  obtain ⟨w4, hw4⟩ : ∃ W, wd.alloc (.cells #[.slice ga gs.length gc, .slice ka ks.length kc] 35) = W := ⟨_, rfl⟩
  have h34 : RowKit.Below wd.heap.size wd w4 := by rw [← hw4]; exact below1 _ _
  have h24 : RowKit.Below wb.heap.size wb w4 := hb3.trans (h34.mono hb3.size)
  have hB4 : RowKit.Below w.heap.size w w4 := hB2.trans (h24.mono hB2.size)
  have HBN4 := Lib.hid (HBN2.out.below h24 HBN2.out.lt)
  have HBM4 := Lib.hid (HBM2.out.below h24 HBM2.out.lt)
  have HT4 := Lib.hid (HT2.out.below h24 HT2.out.lt)
  have HOK4 : Hid (∀ c ∈ cs, c.ok w4.heap.size w4) := Lib.hid (fun c hc => ((HOK2.out c hc).below h24).mono h24.size)
  have HBB4 : Hid (Boxed2 w4 wd.heap.size 35 (.slice ga gs.length gc) (.slice ka ks.length kc)) := Lib.hid (by rw [← hw4]; exact Boxed2.new _ _ _ _)
  have HD4 : Hid (Bds.ok w4.heap.size w4 ⟨⟨ga, gs, gc⟩, ⟨ka, ks, kc⟩⟩) := Lib.hid (hbd.out.2.2.1.onw h34)
  have HRD : Hid (Reads T9 ⟨⟨ga, gs, gc⟩, ⟨ka, ks, kc⟩⟩) := Lib.hid hbd.out.1
  have HTI : Hid (Tight ⟨⟨ga, gs, gc⟩, ⟨ka, ks, kc⟩⟩) := Lib.hid hbd.out.2.1
  have HP4 : Hid (w.heap.size ≤ wa.heap.size ∧ wa.heap.size < wd.heap.size ∧ wd.heap.size < w4.heap.size) := Lib.hid ⟨HP2.out.1, Nat.lt_of_lt_of_le HP2.out.2 hb3.size, HBB4.out.lt⟩
  rw [hw4]
  clear hw4 hbd h34 h24 hB3 hb3 hB2 HT2 HOK2 HP2 HBN2 HBM2
  have bb0 := HBB4.out.cell0
  have bb1 := HBB4.out.cell1
  have n0 := HBN4.out.cell0
  have n1 := HBN4.out.cell1
  have m0 := HBM4.out.cell0
  have m1 := HBM4.out.cell1
  have HJN := Lib.hid (join_any ⟨⟨ga, gs, gc⟩, ⟨ka, ks, kc⟩⟩ T9 b1 a1 b2 a2 HG1.out.1 HG2.out.1 w4.heap.size w4 (Nat.le_refl _) HD4.out HRD.out HTO.out)
  rw [← HER.out] at HJN
  have HP4s := HP4.out
  go_wp2_with (go_at_call 19; refine HJN.out.mono ?_; intro e w5 hch; obtain ⟨⟨⟨ja, js, jc⟩, ⟨la, ls, lc⟩⟩, rfl, hjd, hb5⟩ := hch.both; simp only [Bds.v, Bed.v])
  obtain ⟨w6, hw6⟩ : ∃ W, w5.alloc (.cells #[.slice ja js.length jc, .slice la ls.length lc] 35) = W := ⟨_, rfl⟩
  have h56 : RowKit.Below w5.heap.size w5 w6 := by rw [← hw6]; exact below1 _ _
  have h46 : RowKit.Below w4.heap.size w4 w6 := hb5.trans (h56.mono hb5.size)
  have HG6 : Hid (Boxed2 w6 w5.heap.size 35 (.slice ja js.length jc) (.slice la ls.length lc)) := Lib.hid (by rw [← hw6]; exact Boxed2.new _ _ _ _)
  have HE6 : Hid (Bds.ok w6.heap.size w6 ⟨⟨ja, js, jc⟩, ⟨la, ls, lc⟩⟩) := Lib.hid (hjd.out.2.2.onw h56)
  have HBN6 := Lib.hid (HBN4.out.below h46 HBN4.out.lt)
  have HBM6 := Lib.hid (HBM4.out.below h46 HBM4.out.lt)
  have HT6 := Lib.hid (HT4.out.below h46 HT4.out.lt)
  have HBB6 := Lib.hid (HBB4.out.below h46 HBB4.out.lt)
  have HOK6 : Hid (∀ c ∈ cs, c.ok w6.heap.size w6) := Lib.hid (fun c hc => ((HOK4.out c hc).below h46).mono h46.size)
  have HD6 := Lib.hid (HD4.out.onw h46)
  have hB6 : RowKit.Below w.heap.size w w6 := hB4.trans (h46.mono hB4.size)
  have HJD : Hid ((er ≠ 0 → ⟨⟨ja, js, jc⟩, ⟨la, ls, lc⟩⟩ = noBds) ∧ (er = 0 → Reads (joinT T9 b1 a1 b2 a2) ⟨⟨ja, js, jc⟩, ⟨la, ls, lc⟩⟩ ∧ Tight ⟨⟨ja, js, jc⟩, ⟨la, ls, lc⟩⟩)) := Lib.hid ⟨hjd.out.1, hjd.out.2.1⟩
  have HP6 : Hid (wa.heap.size < wd.heap.size ∧ wd.heap.size < w5.heap.size ∧ w5.heap.size < w6.heap.size) := Lib.hid ⟨HP4.out.2.1, Nat.lt_of_lt_of_le HP4.out.2.2 hb5.size, HG6.out.lt⟩
  rw [hw6]
  clear hw6 h56 h46 hb5 hjd HJN HP4 HP4s bb0 bb1 n0 n1 m0 m1 HBN4 HBM4 HT4 HBB4 HOK4 HD4 hB4
  go_wp2_with fail
  go_loopg [11, 12, 13] 81 (fun g s11 s12 i wr => ∃ k : Nat, g = 81 - k ∧ k ≤ 80 ∧ s11 = .int .i64 (atv b1 a1 k) ∧ s12 = .int .i64 (atv b2 a2 k) ∧ i = .int .i64 k ∧ RowKit.Below w6.heap.size w6 wr)
  case atStart => exact ⟨0, by omega, by omega, by rw [atv_zero], by rw [atv_zero], rfl, Below.refl _ _⟩
  case round =>
    obtain ⟨k, hg, hk, rfl, rfl, rfl, hBr⟩ := hrel
    have HM := Lib.hid hg
    clear hg
    obtain ⟨s1, hs1⟩ : ∃ s, s = atv b1 a1 k := ⟨_, rfl⟩
    obtain ⟨s2, hs2⟩ : ∃ s, s = atv b2 a2 k := ⟨_, rfl⟩
    rw [← hs1, ← hs2]
    have HS1 := Lib.hid hs1
    have HS2 := Lib.hid hs2
    clear hs1 hs2
    by_cases hlt : k < 80
    · have gk0 : (k : Int) < 80 := by omega
      obtain ⟨k1, hk1⟩ : ∃ q : Nat, q = k / 40 := ⟨_, rfl⟩
      obtain ⟨i1, hi1⟩ : ∃ q : Nat, q = k % 40 := ⟨_, rfl⟩
      have HND : Hid (Value.agg #[.int .u8 ((k / 40 : Nat) : Int), .int .i64 ((k % 40 : Nat) + 1 : Int)] = .agg #[.int .u8 k1, .int .i64 ((i1 : Int) + 1)]) := Lib.hid (by rw [hk1, hi1])
      have HU : Hid (IntKind.u8.wrap (k : Int) = (k : Int)) := Lib.hid (IntWalk.u8_in _ (by omega))
      have HK80 : Hid (k < 80) := Lib.hid hlt
      have HY1 : Hid (∀ r, sameNm (k1 : Int) ((i1 : Int) + 1) b1 a1 = r → atv b1 a1 (k + 1) = if r = true then (k : Int) else s1) := Lib.hid fun r hr => by
        rw [hk1, hi1] at hr
        cases r
        · rw [atv_no HG1.out.1 hlt hr, HS1.out]; rfl
        · rw [atv_yes HG1.out.1 hlt hr]; rfl
      have HY2 : Hid (∀ r, sameNm (k1 : Int) ((i1 : Int) + 1) b2 a2 = r → atv b2 a2 (k + 1) = if r = true then (k : Int) else s2) := Lib.hid fun r hr => by
        rw [hk1, hi1] at hr
        cases r
        · rw [atv_no HG2.out.1 hlt hr, HS2.out]; rfl
        · rw [atv_yes HG2.out.1 hlt hr]; rfl
      have HCB : Hid (∀ {W : World}, RowKit.Below wr.heap.size wr W → W.cell? ⟨w.heap.size, 0, none⟩ = some (.int .u8 b1) ∧ W.cell? ⟨w.heap.size, 0 + 1, none⟩ = some (.int .i64 a1)) := Lib.hid fun h => by
        have h1 := HBN6.out.below (hBr.trans (h.mono hBr.size)) HBN6.out.lt
        exact ⟨h1.cell0, h1.cell1⟩
      clear hk1 hi1
      go_wp2_with fail
      refine rgT2 4 [some 33, some 34, some 35, some 36, some 37] (psiJl8 w.heap.size k k1 i1 b1 a1) (fun w' => RowKit.Below wr.heap.size wr w') (by kernel_rfl) (by kernel_rfl) (by kernel_rfl) (by kernel_rfl) (psiJl8_stab w.heap.size k k1 i1 b1 a1) (fun _ _ h hb => h.trans (hb.mono h.size)) (fun i9 o9 hi9 ho9 aq9 w1 hs hout hI hdep => ?_) ?_ ((Below.refl _ _).drew)
      · skip
        match i9, hi9, ho9 with
        | 0, _, ho9 =>
          obtain rfl := Option.some.inj ho9
          refine .inl ⟨rfl, fun K hK => ?_⟩
          exact st_move rfl ((hout 13 rfl).trans rfl) (hK _ _ (Below.refl _ _) rfl)
        | 1, _, ho9 =>
          obtain rfl := Option.some.inj ho9
          have dq0 : (aq9.tmps.getD 33 undef) = .int .i64 k := hdep ⟨0, .data⟩ (by simp) rfl _ rfl
          refine .inl ⟨rfl, fun K hK => ?_⟩
          exact st_conv35 rfl dq0 HU.out (hK _ _ (Below.refl _ _) rfl)
        | 2, _, ho9 =>
          obtain rfl := Option.some.inj ho9
          have dq1 : (aq9.tmps.getD 34 undef) = .int .u8 k := hdep ⟨1, .data⟩ (by simp) rfl _ rfl
          refine .inl ⟨rfl, fun K hK => ?_⟩
          exact step_calls rfl enter13 (vs := #[.int .u8 k]) (vals1 dq1) ((needle_any k w1 HK80.out).mono fun e w' hh => by
            obtain ⟨rfl, hb⟩ := hh
            exact ⟨_, rfl, hK _ _ hb HND.out⟩)
        | 3, _, ho9 =>
          obtain rfl := Option.some.inj ho9
          refine .inl ⟨rfl, fun K hK => ?_⟩
          exact ld26 rfl ((hout 4 rfl).trans rfl) (HCB.out hI).1 (HCB.out hI).2 (hK _ _ (Below.refl _ _) rfl)
        | i9 + 4, hi9, _ => exact absurd hi9 (by omega)
      · intro a2 w9 hs hd hout hI hall
        obtain ⟨tmps, defers⟩ := a2
        have e_35 : (tmps.getD 35 undef) = .agg #[.int .u8 k1, .int .i64 ((i1 : Int) + 1)] := hall 2 _ (by decide) rfl
        have e_36 : (tmps.getD 36 undef) = .agg #[.int .u8 b1, .int .i64 a1] := hall 3 _ (by decide) rfl
        simp only at hs hd hout
        have ef := frameAt [some 33, some 34, some 35, some 36, some 37] _ tmps hs hout
        obtain ⟨sv8, hu⟩ : ∃ u : Nat → Value, u = fun s => tmps.getD s undef := ⟨_, rfl⟩
        have eu_35 : sv8 35 = .agg #[.int .u8 k1, .int .i64 ((i1 : Int) + 1)] := by rw [hu]; exact e_35
        have eu_36 : sv8 36 = .agg #[.int .u8 b1, .int .i64 a1] := by rw [hu]; exact e_36
        rw [← hu] at ef
        have ef2 : tmps = #[Value.slice ao xn cap, Value.agg #[Value.int IntKind.u8 b1, Value.int IntKind.i64 a1], Value.agg #[Value.int IntKind.u8 b2, Value.int IntKind.i64 a2], undef, Value.pointer (some { block := w.heap.size, off := 0 }), Value.pointer (some { block := w.heap.size + 1, off := 0 }), Value.bool false, Value.pointer (some { block := wa.heap.size, off := 0 }), Value.pointer (some { block := wd.heap.size, off := 0 }), Value.pointer (some { block := w5.heap.size, off := 0 }), Value.int IntKind.i64 er, Value.int IntKind.i64 s1, Value.int IntKind.i64 s2, Value.int IntKind.i64 k, undef, undef, undef, undef, Value.slice ao xn cap, tabV cs, tabV cs, Value.agg #[Value.slice ga gs.length gc, Value.slice ka ks.length kc], Value.tuple #[Value.agg #[Value.slice ja js.length jc, Value.slice la ls.length lc], Value.int IntKind.i64 er], Value.agg #[Value.slice ga gs.length gc, Value.slice ka ks.length kc], Value.agg #[Value.int IntKind.u8 b1, Value.int IntKind.i64 a1], Value.agg #[Value.int IntKind.u8 b2, Value.int IntKind.i64 a2], Value.tuple #[Value.agg #[Value.slice ja js.length jc, Value.slice la ls.length lc], Value.int IntKind.i64 er], Value.agg #[Value.slice ja js.length jc, Value.slice la ls.length lc], Value.int IntKind.i64 er, Value.int IntKind.i64 k, Value.bool true, u31, u32, (sv8 33), (sv8 34), (sv8 35), (sv8 36), (sv8 37), u38, u39, u40, u41, u42, u43, u44, undef, undef, undef, undef, undef, undef, undef, undef, undef, undef, undef, undef, undef, undef, undef, undef, undef, undef, undef, undef, undef, undef, undef, undef, undef, undef, undef, undef, undef, undef, undef, undef, undef, undef, undef, undef, undef, undef, undef, undef, undef, undef, undef, undef, undef, undef, undef, undef, undef, undef, undef, undef, undef, undef, undef, undef, undef, undef, undef, undef, undef, undef, undef, undef, undef, undef, undef, undef, undef, undef, undef, undef, undef, undef, undef, undef, undef, undef, undef, undef, undef, undef, undef, undef, undef, undef, undef, undef, undef, undef, undef, undef, undef, undef, undef, undef, undef, undef, undef, undef, undef, undef, undef, undef, undef, undef, undef, undef, undef, undef, undef, undef, undef, undef, undef, undef, undef, undef] := ef
        subst hd
        rw [eu_35, eu_36] at ef2
        rw [ef2]
        clear ef ef2 hu hs hout hall e_35 eu_35 e_36 eu_36
        simp only [List.drop_succ_cons, List.drop_zero]
        rcases hr1 : sameNm (k1 : Int) ((i1 : Int) + 1) b1 a1 with _ | _
        · have hB9 : RowKit.Below w6.heap.size w6 w9 := hBr.trans (hI.mono hBr.size)
          have HA1 : Hid (atv b1 a1 (k + 1) = s1) := Lib.hid (by rw [HY1.out false hr1]; rfl)
          have he1 := eql26 hr1
          clear hr1 HCB
          have HCB : Hid (∀ {W : World}, RowKit.Below w9.heap.size w9 W → W.cell? ⟨w.heap.size + 1, 0, none⟩ = some (.int .u8 b2) ∧ W.cell? ⟨w.heap.size + 1, 0 + 1, none⟩ = some (.int .i64 a2)) := Lib.hid fun h => by
            have h1 := HBM6.out.below (hB9.trans (h.mono hB9.size)) HBM6.out.lt
            exact ⟨h1.cell0, h1.cell1⟩
          clear hI
          go_wp2_with fail
          refine rgT2 4 [some 39, some 40, some 41, some 42, some 43] (psiJl10 (w.heap.size + 1) k k1 i1 b2 a2) (fun w' => RowKit.Below w9.heap.size w9 w') (by kernel_rfl) (by kernel_rfl) (by kernel_rfl) (by kernel_rfl) (psiJl10_stab (w.heap.size + 1) k k1 i1 b2 a2) (fun _ _ h hb => h.trans (hb.mono h.size)) (fun i9 o9 hi9 ho9 aq9 w1 hs hout hI hdep => ?_) ?_ ((Below.refl _ _).drew)
          · skip
            match i9, hi9, ho9 with
            | 0, _, ho9 =>
              obtain rfl := Option.some.inj ho9
              refine .inl ⟨rfl, fun K hK => ?_⟩
              exact st_move rfl ((hout 13 rfl).trans rfl) (hK _ _ (Below.refl _ _) rfl)
            | 1, _, ho9 =>
              obtain rfl := Option.some.inj ho9
              have dq0 : (aq9.tmps.getD 39 undef) = .int .i64 k := hdep ⟨0, .data⟩ (by simp) rfl _ rfl
              refine .inl ⟨rfl, fun K hK => ?_⟩
              exact st_conv35 rfl dq0 HU.out (hK _ _ (Below.refl _ _) rfl)
            | 2, _, ho9 =>
              obtain rfl := Option.some.inj ho9
              have dq1 : (aq9.tmps.getD 40 undef) = .int .u8 k := hdep ⟨1, .data⟩ (by simp) rfl _ rfl
              refine .inl ⟨rfl, fun K hK => ?_⟩
              exact step_calls rfl enter13 (vs := #[.int .u8 k]) (vals1 dq1) ((needle_any k w1 HK80.out).mono fun e w' hh => by
                obtain ⟨rfl, hb⟩ := hh
                exact ⟨_, rfl, hK _ _ hb HND.out⟩)
            | 3, _, ho9 =>
              obtain rfl := Option.some.inj ho9
              refine .inl ⟨rfl, fun K hK => ?_⟩
              exact ld26 rfl ((hout 5 rfl).trans rfl) (HCB.out hI).1 (HCB.out hI).2 (hK _ _ (Below.refl _ _) rfl)
            | i9 + 4, hi9, _ => exact absurd hi9 (by omega)
          · intro a2 wz hs hd hout hI hall
            obtain ⟨tmps, defers⟩ := a2
            have e_41 : (tmps.getD 41 undef) = .agg #[.int .u8 k1, .int .i64 ((i1 : Int) + 1)] := hall 2 _ (by decide) rfl
            have e_42 : (tmps.getD 42 undef) = .agg #[.int .u8 b2, .int .i64 a2] := hall 3 _ (by decide) rfl
            simp only at hs hd hout
            have ef := frameAt [some 39, some 40, some 41, some 42, some 43] _ tmps hs hout
            obtain ⟨sv10, hu⟩ : ∃ u : Nat → Value, u = fun s => tmps.getD s undef := ⟨_, rfl⟩
            have eu_41 : sv10 41 = .agg #[.int .u8 k1, .int .i64 ((i1 : Int) + 1)] := by rw [hu]; exact e_41
            have eu_42 : sv10 42 = .agg #[.int .u8 b2, .int .i64 a2] := by rw [hu]; exact e_42
            rw [← hu] at ef
            have ef2 : tmps = #[Value.slice ao xn cap, Value.agg #[Value.int IntKind.u8 b1, Value.int IntKind.i64 a1], Value.agg #[Value.int IntKind.u8 b2, Value.int IntKind.i64 a2], undef, Value.pointer (some { block := w.heap.size, off := 0 }), Value.pointer (some { block := w.heap.size + 1, off := 0 }), Value.bool false, Value.pointer (some { block := wa.heap.size, off := 0 }), Value.pointer (some { block := wd.heap.size, off := 0 }), Value.pointer (some { block := w5.heap.size, off := 0 }), Value.int IntKind.i64 er, Value.int IntKind.i64 s1, Value.int IntKind.i64 s2, Value.int IntKind.i64 k, undef, undef, undef, undef, Value.slice ao xn cap, tabV cs, tabV cs, Value.agg #[Value.slice ga gs.length gc, Value.slice ka ks.length kc], Value.tuple #[Value.agg #[Value.slice ja js.length jc, Value.slice la ls.length lc], Value.int IntKind.i64 er], Value.agg #[Value.slice ga gs.length gc, Value.slice ka ks.length kc], Value.agg #[Value.int IntKind.u8 b1, Value.int IntKind.i64 a1], Value.agg #[Value.int IntKind.u8 b2, Value.int IntKind.i64 a2], Value.tuple #[Value.agg #[Value.slice ja js.length jc, Value.slice la ls.length lc], Value.int IntKind.i64 er], Value.agg #[Value.slice ja js.length jc, Value.slice la ls.length lc], Value.int IntKind.i64 er, Value.int IntKind.i64 k, Value.bool true, u31, u32, sv8 33, sv8 34, Value.agg #[Value.int IntKind.u8 k1, Value.int IntKind.i64 (i1 + 1)], Value.agg #[Value.int IntKind.u8 b1, Value.int IntKind.i64 a1], Value.bool false, u38, (sv10 39), (sv10 40), (sv10 41), (sv10 42), (sv10 43), u44, undef, undef, undef, undef, undef, undef, undef, undef, undef, undef, undef, undef, undef, undef, undef, undef, undef, undef, undef, undef, undef, undef, undef, undef, undef, undef, undef, undef, undef, undef, undef, undef, undef, undef, undef, undef, undef, undef, undef, undef, undef, undef, undef, undef, undef, undef, undef, undef, undef, undef, undef, undef, undef, undef, undef, undef, undef, undef, undef, undef, undef, undef, undef, undef, undef, undef, undef, undef, undef, undef, undef, undef, undef, undef, undef, undef, undef, undef, undef, undef, undef, undef, undef, undef, undef, undef, undef, undef, undef, undef, undef, undef, undef, undef, undef, undef, undef, undef, undef, undef, undef, undef, undef, undef, undef, undef, undef, undef, undef, undef, undef, undef, undef, undef, undef, undef, undef, undef] := ef
            subst hd
            rw [eu_41, eu_42] at ef2
            rw [ef2]
            clear ef ef2 hu hs hout hall e_41 eu_41 e_42 eu_42
            simp only [List.drop_succ_cons, List.drop_zero]
            rcases hr2 : sameNm (k1 : Int) ((i1 : Int) + 1) b2 a2 with _ | _
            · have HA2 : Hid (atv b2 a2 (k + 1) = s2) := Lib.hid (by rw [HY2.out false hr2]; rfl)
              have he2 := eql26 hr2
              clear hr2
              go_wp2_with fail
              go_roundg (gk - 1)
              case measure => have := HM.out; omega
              case rel => exact ⟨k + 1, by have := HM.out; omega, by omega, by rw [HA1.out], by rw [HA2.out], by go_num, hB9.trans (hI.mono hB9.size)⟩
            · have HA2 : Hid (atv b2 a2 (k + 1) = (k : Int)) := Lib.hid (by rw [HY2.out true hr2]; rfl)
              have he2 := eql26 hr2
              clear hr2
              go_wp2_with fail
              go_roundg (gk - 1)
              case measure => have := HM.out; omega
              case rel => exact ⟨k + 1, by have := HM.out; omega, by omega, by rw [HA1.out], by rw [HA2.out], by go_num, hB9.trans (hI.mono hB9.size)⟩
        · have hB9 : RowKit.Below w6.heap.size w6 w9 := hBr.trans (hI.mono hBr.size)
          have HA1 : Hid (atv b1 a1 (k + 1) = (k : Int)) := Lib.hid (by rw [HY1.out true hr1]; rfl)
          have he1 := eql26 hr1
          clear hr1 HCB
          have HCB : Hid (∀ {W : World}, RowKit.Below w9.heap.size w9 W → W.cell? ⟨w.heap.size + 1, 0, none⟩ = some (.int .u8 b2) ∧ W.cell? ⟨w.heap.size + 1, 0 + 1, none⟩ = some (.int .i64 a2)) := Lib.hid fun h => by
            have h1 := HBM6.out.below (hB9.trans (h.mono hB9.size)) HBM6.out.lt
            exact ⟨h1.cell0, h1.cell1⟩
          clear hI
          go_wp2_with fail
          refine rgT2 4 [some 39, some 40, some 41, some 42, some 43] (psiJl10 (w.heap.size + 1) k k1 i1 b2 a2) (fun w' => RowKit.Below w9.heap.size w9 w') (by kernel_rfl) (by kernel_rfl) (by kernel_rfl) (by kernel_rfl) (psiJl10_stab (w.heap.size + 1) k k1 i1 b2 a2) (fun _ _ h hb => h.trans (hb.mono h.size)) (fun i9 o9 hi9 ho9 aq9 w1 hs hout hI hdep => ?_) ?_ ((Below.refl _ _).drew)
          · skip
            match i9, hi9, ho9 with
            | 0, _, ho9 =>
              obtain rfl := Option.some.inj ho9
              refine .inl ⟨rfl, fun K hK => ?_⟩
              exact st_move rfl ((hout 13 rfl).trans rfl) (hK _ _ (Below.refl _ _) rfl)
            | 1, _, ho9 =>
              obtain rfl := Option.some.inj ho9
              have dq0 : (aq9.tmps.getD 39 undef) = .int .i64 k := hdep ⟨0, .data⟩ (by simp) rfl _ rfl
              refine .inl ⟨rfl, fun K hK => ?_⟩
              exact st_conv35 rfl dq0 HU.out (hK _ _ (Below.refl _ _) rfl)
            | 2, _, ho9 =>
              obtain rfl := Option.some.inj ho9
              have dq1 : (aq9.tmps.getD 40 undef) = .int .u8 k := hdep ⟨1, .data⟩ (by simp) rfl _ rfl
              refine .inl ⟨rfl, fun K hK => ?_⟩
              exact step_calls rfl enter13 (vs := #[.int .u8 k]) (vals1 dq1) ((needle_any k w1 HK80.out).mono fun e w' hh => by
                obtain ⟨rfl, hb⟩ := hh
                exact ⟨_, rfl, hK _ _ hb HND.out⟩)
            | 3, _, ho9 =>
              obtain rfl := Option.some.inj ho9
              refine .inl ⟨rfl, fun K hK => ?_⟩
              exact ld26 rfl ((hout 5 rfl).trans rfl) (HCB.out hI).1 (HCB.out hI).2 (hK _ _ (Below.refl _ _) rfl)
            | i9 + 4, hi9, _ => exact absurd hi9 (by omega)
          · intro a2 wz hs hd hout hI hall
            obtain ⟨tmps, defers⟩ := a2
            have e_41 : (tmps.getD 41 undef) = .agg #[.int .u8 k1, .int .i64 ((i1 : Int) + 1)] := hall 2 _ (by decide) rfl
            have e_42 : (tmps.getD 42 undef) = .agg #[.int .u8 b2, .int .i64 a2] := hall 3 _ (by decide) rfl
            simp only at hs hd hout
            have ef := frameAt [some 39, some 40, some 41, some 42, some 43] _ tmps hs hout
            obtain ⟨sv10, hu⟩ : ∃ u : Nat → Value, u = fun s => tmps.getD s undef := ⟨_, rfl⟩
            have eu_41 : sv10 41 = .agg #[.int .u8 k1, .int .i64 ((i1 : Int) + 1)] := by rw [hu]; exact e_41
            have eu_42 : sv10 42 = .agg #[.int .u8 b2, .int .i64 a2] := by rw [hu]; exact e_42
            rw [← hu] at ef
            have ef2 : tmps = #[Value.slice ao xn cap, Value.agg #[Value.int IntKind.u8 b1, Value.int IntKind.i64 a1], Value.agg #[Value.int IntKind.u8 b2, Value.int IntKind.i64 a2], undef, Value.pointer (some { block := w.heap.size, off := 0 }), Value.pointer (some { block := w.heap.size + 1, off := 0 }), Value.bool false, Value.pointer (some { block := wa.heap.size, off := 0 }), Value.pointer (some { block := wd.heap.size, off := 0 }), Value.pointer (some { block := w5.heap.size, off := 0 }), Value.int IntKind.i64 er, Value.int IntKind.i64 k, Value.int IntKind.i64 s2, Value.int IntKind.i64 k, undef, undef, undef, undef, Value.slice ao xn cap, tabV cs, tabV cs, Value.agg #[Value.slice ga gs.length gc, Value.slice ka ks.length kc], Value.tuple #[Value.agg #[Value.slice ja js.length jc, Value.slice la ls.length lc], Value.int IntKind.i64 er], Value.agg #[Value.slice ga gs.length gc, Value.slice ka ks.length kc], Value.agg #[Value.int IntKind.u8 b1, Value.int IntKind.i64 a1], Value.agg #[Value.int IntKind.u8 b2, Value.int IntKind.i64 a2], Value.tuple #[Value.agg #[Value.slice ja js.length jc, Value.slice la ls.length lc], Value.int IntKind.i64 er], Value.agg #[Value.slice ja js.length jc, Value.slice la ls.length lc], Value.int IntKind.i64 er, Value.int IntKind.i64 k, Value.bool true, u31, u32, sv8 33, sv8 34, Value.agg #[Value.int IntKind.u8 k1, Value.int IntKind.i64 (i1 + 1)], Value.agg #[Value.int IntKind.u8 b1, Value.int IntKind.i64 a1], Value.bool true, Value.int IntKind.i64 k, (sv10 39), (sv10 40), (sv10 41), (sv10 42), (sv10 43), u44, undef, undef, undef, undef, undef, undef, undef, undef, undef, undef, undef, undef, undef, undef, undef, undef, undef, undef, undef, undef, undef, undef, undef, undef, undef, undef, undef, undef, undef, undef, undef, undef, undef, undef, undef, undef, undef, undef, undef, undef, undef, undef, undef, undef, undef, undef, undef, undef, undef, undef, undef, undef, undef, undef, undef, undef, undef, undef, undef, undef, undef, undef, undef, undef, undef, undef, undef, undef, undef, undef, undef, undef, undef, undef, undef, undef, undef, undef, undef, undef, undef, undef, undef, undef, undef, undef, undef, undef, undef, undef, undef, undef, undef, undef, undef, undef, undef, undef, undef, undef, undef, undef, undef, undef, undef, undef, undef, undef, undef, undef, undef, undef, undef, undef, undef, undef, undef, undef] := ef
            subst hd
            rw [eu_41, eu_42] at ef2
            rw [ef2]
            clear ef ef2 hu hs hout hall e_41 eu_41 e_42 eu_42
            simp only [List.drop_succ_cons, List.drop_zero]
            rcases hr2 : sameNm (k1 : Int) ((i1 : Int) + 1) b2 a2 with _ | _
            · have HA2 : Hid (atv b2 a2 (k + 1) = s2) := Lib.hid (by rw [HY2.out false hr2]; rfl)
              have he2 := eql26 hr2
              clear hr2
              go_wp2_with fail
              go_roundg (gk - 1)
              case measure => have := HM.out; omega
              case rel => exact ⟨k + 1, by have := HM.out; omega, by omega, by rw [HA1.out], by rw [HA2.out], by go_num, hB9.trans (hI.mono hB9.size)⟩
            · have HA2 : Hid (atv b2 a2 (k + 1) = (k : Int)) := Lib.hid (by rw [HY2.out true hr2]; rfl)
              have he2 := eql26 hr2
              clear hr2
              go_wp2_with fail
              go_roundg (gk - 1)
              case measure => have := HM.out; omega
              case rel => exact ⟨k + 1, by have := HM.out; omega, by omega, by rw [HA1.out], by rw [HA2.out], by go_num, hB9.trans (hI.mono hB9.size)⟩
    · have gk1 : ¬ ((k : Int) < 80) := by omega
      have HK : Hid (k = 80) := Lib.hid (by omega)
      have HBNr := Lib.hid (HBN6.out.below hBr HBN6.out.lt)
      have HBMr := Lib.hid (HBM6.out.below hBr HBM6.out.lt)
      have HTr := Lib.hid (HT6.out.below hBr HT6.out.lt)
      have HBBr := Lib.hid (HBB6.out.below hBr HBB6.out.lt)
      have HGr := Lib.hid (HG6.out.below hBr HG6.out.lt)
      have HOKr : Hid (∀ c ∈ cs, c.ok wr.heap.size wr) := Lib.hid (fun c hc => ((HOK6.out c hc).below hBr).mono hBr.size)
      have HDr := Lib.hid (HD6.out.onw hBr)
      have HEr := Lib.hid (HE6.out.onw hBr)
      have hBr0 : RowKit.Below w.heap.size w wr := hB6.trans (hBr.mono hB6.size)
      clear HBN6 HBM6 HT6 HBB6 HG6 HOK6 HD6 HE6 hB6
      clear hlt hk
      rcases hn1 : isN b1 a1 with _ | _
      · have e1 : s1 = -1 := by rw [HS1.out]; exact atv_bad hn1 k
        subst e1
        obtain rfl : er = 1 := by rw [HER.out]; exact joinErr_1 (.inl hn1)
        have hno := HJD.out.1 (by decide)
        unfold noBds at hno
        cases hno
        have bb0 := HBBr.out.cell0
        have bb1 := HBBr.out.cell1
        have tkL : True := trivial
        have tkD : True := trivial
        simp only [List.length_nil]
        go_wp2_with (first
          | (clear tkL; refine wpList_load_tab_g rfl rfl rfl (of_decide_eq_true (by kernel_rfl)) rfl (.inl rfl) _ rfl rfl HTr.out ?_)
          | (go_at_call 11; clear tkD; refine (differs_any cs ⟨⟨ga, gs, gc⟩, ⟨ka, ks, kc⟩⟩ T9 wr HLC.out.1 HLC.out.2 HOKr.out HDr.out HRD.out HTI.out HTO.out).mono ?_; rintro e w7 ⟨rfl, hb7⟩; have HG7 := Lib.hid (HGr.out.below hb7 HGr.out.lt); have gg0 := HG7.out.cell0; have gg1 := HG7.out.cell1; simp only [List.length_nil] at gg0 gg1; have hB7 : RowKit.Below w.heap.size w w7 := hBr0.trans (hb7.mono hBr0.size))
          | (go_at_call 16; refine (lives_any _).mono ?_; rintro e w8 ⟨rfl, hb8⟩; have hBF := hB7.trans (hb8.mono hB7.size)))
        go_ret
        exact ⟨rfl, hBF⟩
      · obtain ⟨i, hi⟩ : ∃ i : Nat, i = ixOf b1 a1 := ⟨_, rfl⟩
        have e1 : s1 = (i : Int) := by rw [HS1.out, HK.out, hi]; exact atv_end HG1.out.1 hn1
        subst e1
        have li : i < 80 := by rw [hi]; exact ix_lt HG1.out.1 hn1
        rcases hn2 : isN b2 a2 with _ | _
        · have e2 : s2 = -1 := by rw [HS2.out]; exact atv_bad hn2 k
          subst e2
          obtain rfl : er = 1 := by rw [HER.out]; exact joinErr_1 (.inr (.inl hn2))
          have hno := HJD.out.1 (by decide)
          unfold noBds at hno
          cases hno
          have bb0 := HBBr.out.cell0
          have bb1 := HBBr.out.cell1
          have tkL : True := trivial
          have tkD : True := trivial
          simp only [List.length_nil]
          go_wp2_with (first
            | (clear tkL; refine wpList_load_tab_g rfl rfl rfl (of_decide_eq_true (by kernel_rfl)) rfl (.inl rfl) _ rfl rfl HTr.out ?_)
            | (go_at_call 11; clear tkD; refine (differs_any cs ⟨⟨ga, gs, gc⟩, ⟨ka, ks, kc⟩⟩ T9 wr HLC.out.1 HLC.out.2 HOKr.out HDr.out HRD.out HTI.out HTO.out).mono ?_; rintro e w7 ⟨rfl, hb7⟩; have HG7 := Lib.hid (HGr.out.below hb7 HGr.out.lt); have gg0 := HG7.out.cell0; have gg1 := HG7.out.cell1; simp only [List.length_nil] at gg0 gg1; have hB7 : RowKit.Below w.heap.size w w7 := hBr0.trans (hb7.mono hBr0.size))
            | (go_at_call 16; refine (lives_any _).mono ?_; rintro e w8 ⟨rfl, hb8⟩; have hBF := hB7.trans (hb8.mono hB7.size)))
          go_ret
          exact ⟨rfl, hBF⟩
        · obtain ⟨j, hj⟩ : ∃ i : Nat, i = ixOf b2 a2 := ⟨_, rfl⟩
          have e2 : s2 = (j : Int) := by rw [HS2.out, HK.out, hj]; exact atv_end HG2.out.1 hn2
          subst e2
          have lj : j < 80 := by rw [hj]; exact ix_lt HG2.out.1 hn2
          have HIJ : Hid (i = ixOf b1 a1 ∧ j = ixOf b2 a2) := Lib.hid ⟨hi, hj⟩
          clear hi hj
          have gi0 : ¬ ((i : Int) < 0) := by omega
          have gj0 : ¬ ((j : Int) < 0) := by omega
          have n0 := HBNr.out.cell0
          have m0 := HBMr.out.cell0
          by_cases hbb : b1 = b2
          · have gb : (b1 == b2) = true := by rw [hbb]; simp
            obtain rfl : er = 1 := by rw [HER.out]; exact joinErr_1 (.inr (.inr hbb))
            have hno := HJD.out.1 (by decide)
            unfold noBds at hno
            cases hno
            have bb0 := HBBr.out.cell0
            have bb1 := HBBr.out.cell1
            have tkL : True := trivial
            have tkD : True := trivial
            simp only [List.length_nil]
            go_wp2_with (first
              | (clear tkL; refine wpList_load_tab_g rfl rfl rfl (of_decide_eq_true (by kernel_rfl)) rfl (.inl rfl) _ rfl rfl HTr.out ?_)
              | (go_at_call 11; clear tkD; refine (differs_any cs ⟨⟨ga, gs, gc⟩, ⟨ka, ks, kc⟩⟩ T9 wr HLC.out.1 HLC.out.2 HOKr.out HDr.out HRD.out HTI.out HTO.out).mono ?_; rintro e w7 ⟨rfl, hb7⟩; have HG7 := Lib.hid (HGr.out.below hb7 HGr.out.lt); have gg0 := HG7.out.cell0; have gg1 := HG7.out.cell1; simp only [List.length_nil] at gg0 gg1; have hB7 : RowKit.Below w.heap.size w w7 := hBr0.trans (hb7.mono hBr0.size))
              | (go_at_call 16; refine (lives_any _).mono ?_; rintro e w8 ⟨rfl, hb8⟩; have hBF := hB7.trans (hb8.mono hB7.size)))
            go_ret
            exact ⟨rfl, hBF⟩
          · have gb : (b1 == b2) = false := by simp; exact hbb
            have HBB12 : Hid (b1 ≠ b2) := Lib.hid hbb
            clear hbb
            obtain ⟨⟨xa, xl, xc⟩, hx⟩ : ∃ c : Cel, cs[i]? = some c := ⟨_, List.getElem?_eq_getElem (by rw [HLC.out.1]; exact li)⟩
            have HLx : Hid (T9.getD i [] = xl) := Lib.hid (by rw [← HLC.out.2, List.getD_eq_getElem?_getD, List.getElem?_map, hx]; rfl)
            have HTX : Hid (∀ {W : World}, RowKit.Below wr.heap.size wr W → W.cell? ⟨wa.heap.size, i, none⟩ = some (.slice xa xl.length xc)) := Lib.hid fun h => by
              have := (HTr.out.below h HTr.out.lt).cell li
              rw [(List.getElem?_eq_some_iff.1 hx).2] at this
              exact this
            have HCx : Hid (cs[i]? = some ⟨xa, xl, xc⟩) := Lib.hid hx
            clear hx
            obtain ⟨⟨ya, yl, yc⟩, hy⟩ : ∃ c : Cel, cs[j]? = some c := ⟨_, List.getElem?_eq_getElem (by rw [HLC.out.1]; exact lj)⟩
            have HLy : Hid (T9.getD j [] = yl) := Lib.hid (by rw [← HLC.out.2, List.getD_eq_getElem?_getD, List.getElem?_map, hy]; rfl)
            have HTY : Hid (∀ {W : World}, RowKit.Below wr.heap.size wr W → W.cell? ⟨wa.heap.size, j, none⟩ = some (.slice ya yl.length yc)) := Lib.hid fun h => by
              have := (HTr.out.below h HTr.out.lt).cell lj
              rw [(List.getElem?_eq_some_iff.1 hy).2] at this
              exact this
            have HCy : Hid (cs[j]? = some ⟨ya, yl, yc⟩) := Lib.hid hy
            clear hy
            have tx := HTX.out (Below.refl _ _)
            have ty := HTY.out (Below.refl _ _)
            have HNN : Hid (¬ (isN b1 a1 = false ∨ isN b2 a2 = false ∨ b1 = b2)) := Lib.hid (by rw [hn1, hn2]; simp; exact HBB12.out)
            have HN12 : Hid (isN b1 a1 = true ∧ isN b2 a2 = true) := Lib.hid ⟨hn1, hn2⟩
            clear hn1 hn2
            have HX4 : Hid (xl.length ≤ 4) := Lib.hid (by
              rw [← HLx.out]
              rcases getD_mem_or (l := T9) i with h1 | h1
              · exact (HTO.out.st _ h1).1
              · rw [h1]; simp)
            have HY4 : Hid (yl.length ≤ 4) := Lib.hid (by
              rw [← HLy.out]
              rcases getD_mem_or (l := T9) j with h1 | h1
              · exact (HTO.out.st _ h1).1
              · rw [h1]; simp)
            have hx4 := HX4.out
            have hy4 := HY4.out
            by_cases hz : xl.length = 0
            · have gx : ((xl.length : Int) == 0) = true := by simp; exact List.eq_nil_of_length_eq_zero hz
              obtain rfl : er = 13 := by rw [HER.out]; exact (by unfold joinErr; rw [if_neg HNN.out, ← HIJ.out.1, HLx.out, if_pos hz])
              have hno := HJD.out.1 (by decide)
              unfold noBds at hno
              cases hno
              have bb0 := HBBr.out.cell0
              have bb1 := HBBr.out.cell1
              have tkL : True := trivial
              have tkD : True := trivial
              simp only [List.length_nil]
              go_wp2_with (first
                | (clear tkL; refine wpList_load_tab_g rfl rfl rfl (of_decide_eq_true (by kernel_rfl)) rfl (.inl rfl) _ rfl rfl HTr.out ?_)
                | (go_at_call 11; clear tkD; refine (differs_any cs ⟨⟨ga, gs, gc⟩, ⟨ka, ks, kc⟩⟩ T9 wr HLC.out.1 HLC.out.2 HOKr.out HDr.out HRD.out HTI.out HTO.out).mono ?_; rintro e w7 ⟨rfl, hb7⟩; have HG7 := Lib.hid (HGr.out.below hb7 HGr.out.lt); have gg0 := HG7.out.cell0; have gg1 := HG7.out.cell1; simp only [List.length_nil] at gg0 gg1; have hB7 : RowKit.Below w.heap.size w w7 := hBr0.trans (hb7.mono hBr0.size))
                | (go_at_call 16; refine (lives_any _).mono ?_; rintro e w8 ⟨rfl, hb8⟩; have hBF := hB7.trans (hb8.mono hB7.size)))
              go_ret
              exact ⟨rfl, hBF⟩
            · have gx : ((xl.length : Int) == 0) = false := by simp; exact fun h => hz (by rw [h]; rfl)
              have HZ : Hid (xl.length ≠ 0) := Lib.hid hz
              clear hz
              go_wp2_with fail
              refine rgT2 8 [some 66, some 67, some 68, some 69, some 70, some 71, some 72, some 73, some 74, some 75, some 65] (psiJl17 wa.heap.size i j xa xl.length xc ya yl.length yc) (fun w' => RowKit.Below wr.heap.size wr w') (by kernel_rfl) (by kernel_rfl) (by kernel_rfl) (by kernel_rfl) (psiJl17_stab wa.heap.size i j xa xl.length xc ya yl.length yc) (fun _ _ h hb => h.trans (hb.mono h.size)) (fun i9 o9 hi9 ho9 aq9 w1 hs hout hI hdep => ?_) ?_ ((Below.refl _ _).drew)
              · skip
                match i9, hi9, ho9 with
                | 0, _, ho9 =>
                  obtain rfl := Option.some.inj ho9
                  refine .inl ⟨rfl, fun K hK => ?_⟩
                  exact st_move rfl ((hout 11 rfl).trans rfl) (hK _ _ (Below.refl _ _) rfl)
                | 1, _, ho9 =>
                  obtain rfl := Option.some.inj ho9
                  have dq0 : (aq9.tmps.getD 66 undef) = .int .i64 i := hdep ⟨0, .data⟩ (by simp) rfl _ rfl
                  refine .inl ⟨rfl, fun K hK => ?_⟩
                  exact st_idx31 (k := i) rfl ((hout 7 rfl).trans rfl) dq0 (by omega) (hK _ _ (Below.refl _ _) rfl)
                | 2, _, ho9 =>
                  obtain rfl := Option.some.inj ho9
                  have dq1 : (aq9.tmps.getD 67 undef) = .pointer (some ⟨wa.heap.size, i, none⟩) := hdep ⟨1, .data⟩ (by simp) rfl _ rfl
                  refine .inl ⟨rfl, fun K hK => ?_⟩
                  exact ld29 rfl dq1 (HTX.out hI) (hK _ _ (Below.refl _ _) rfl)
                | 3, _, ho9 =>
                  obtain rfl := Option.some.inj ho9
                  have dq2 : (aq9.tmps.getD 68 undef) = .slice xa xl.length xc := hdep ⟨2, .data⟩ (by simp) rfl _ rfl
                  refine .inl ⟨rfl, fun K hK => ?_⟩
                  exact len29 rfl dq2 (hK _ _ (Below.refl _ _) rfl)
                | 4, _, ho9 =>
                  obtain rfl := Option.some.inj ho9
                  refine .inl ⟨rfl, fun K hK => ?_⟩
                  exact st_move rfl ((hout 12 rfl).trans rfl) (hK _ _ (Below.refl _ _) rfl)
                | 5, _, ho9 =>
                  obtain rfl := Option.some.inj ho9
                  have dq4 : (aq9.tmps.getD 70 undef) = .int .i64 j := hdep ⟨4, .data⟩ (by simp) rfl _ rfl
                  refine .inl ⟨rfl, fun K hK => ?_⟩
                  exact st_idx31 (k := j) rfl ((hout 7 rfl).trans rfl) dq4 (by omega) (hK _ _ (Below.refl _ _) rfl)
                | 6, _, ho9 =>
                  obtain rfl := Option.some.inj ho9
                  have dq5 : (aq9.tmps.getD 71 undef) = .pointer (some ⟨wa.heap.size, j, none⟩) := hdep ⟨5, .data⟩ (by simp) rfl _ rfl
                  refine .inl ⟨rfl, fun K hK => ?_⟩
                  exact ld29 rfl dq5 (HTY.out hI) (hK _ _ (Below.refl _ _) rfl)
                | 7, _, ho9 =>
                  obtain rfl := Option.some.inj ho9
                  have dq6 : (aq9.tmps.getD 72 undef) = .slice ya yl.length yc := hdep ⟨6, .data⟩ (by simp) rfl _ rfl
                  refine .inl ⟨rfl, fun K hK => ?_⟩
                  exact len29 rfl dq6 (hK _ _ (Below.refl _ _) rfl)
                | i9 + 8, hi9, _ => exact absurd hi9 (by omega)
              · intro a2 wz hs hd hout hI hall
                obtain ⟨tmps, defers⟩ := a2
                have e_69 : (tmps.getD 69 undef) = .int .i64 xl.length := hall 3 _ (by decide) rfl
                have e_73 : (tmps.getD 73 undef) = .int .i64 yl.length := hall 7 _ (by decide) rfl
                simp only at hs hd hout
                have ef := frameAt [some 66, some 67, some 68, some 69, some 70, some 71, some 72, some 73, some 74, some 75, some 65] _ tmps hs hout
                obtain ⟨sv17, hu⟩ : ∃ u : Nat → Value, u = fun s => tmps.getD s undef := ⟨_, rfl⟩
                have eu_69 : sv17 69 = .int .i64 xl.length := by rw [hu]; exact e_69
                have eu_73 : sv17 73 = .int .i64 yl.length := by rw [hu]; exact e_73
                rw [← hu] at ef
                have ef2 : tmps = #[Value.slice ao xn cap, Value.agg #[Value.int IntKind.u8 b1, Value.int IntKind.i64 a1], Value.agg #[Value.int IntKind.u8 b2, Value.int IntKind.i64 a2], undef, Value.pointer (some { block := w.heap.size, off := 0 }), Value.pointer (some { block := w.heap.size + 1, off := 0 }), Value.bool false, Value.pointer (some { block := wa.heap.size, off := 0 }), Value.pointer (some { block := wd.heap.size, off := 0 }), Value.pointer (some { block := w5.heap.size, off := 0 }), Value.int IntKind.i64 er, Value.int IntKind.i64 i, Value.int IntKind.i64 j, Value.int IntKind.i64 k, Value.int IntKind.i64 0, undef, undef, undef, Value.slice ao xn cap, tabV cs, tabV cs, Value.agg #[Value.slice ga gs.length gc, Value.slice ka ks.length kc], Value.tuple #[Value.agg #[Value.slice ja js.length jc, Value.slice la ls.length lc], Value.int IntKind.i64 er], Value.agg #[Value.slice ga gs.length gc, Value.slice ka ks.length kc], Value.agg #[Value.int IntKind.u8 b1, Value.int IntKind.i64 a1], Value.agg #[Value.int IntKind.u8 b2, Value.int IntKind.i64 a2], Value.tuple #[Value.agg #[Value.slice ja js.length jc, Value.slice la ls.length lc], Value.int IntKind.i64 er], Value.agg #[Value.slice ja js.length jc, Value.slice la ls.length lc], Value.int IntKind.i64 er, Value.int IntKind.i64 k, Value.bool false, u31, u32, u33, u34, u35, u36, u37, u38, u39, u40, u41, u42, u43, u44, Value.bool false, Value.int IntKind.i64 i, Value.bool false, Value.bool false, Value.int IntKind.i64 j, Value.bool false, Value.bool false, Value.bool false, Value.pointer (some { block := w.heap.size, off := 0 }), Value.int IntKind.u8 b1, Value.pointer (some { block := w.heap.size + 1, off := 0 }), Value.int IntKind.u8 b2, Value.bool false, Value.bool false, Value.bool false, Value.int IntKind.i64 i, Value.pointer (some { block := wa.heap.size, off := i }), Value.slice xa xl.length xc, Value.int IntKind.i64 xl.length, Value.bool false, (sv17 65), (sv17 66), (sv17 67), (sv17 68), (sv17 69), (sv17 70), (sv17 71), (sv17 72), (sv17 73), (sv17 74), (sv17 75), undef, undef, undef, undef, undef, undef, undef, undef, undef, undef, undef, undef, undef, undef, undef, undef, undef, undef, undef, undef, undef, undef, undef, undef, undef, undef, undef, undef, undef, undef, undef, undef, undef, undef, undef, undef, undef, undef, undef, undef, undef, undef, undef, undef, undef, undef, undef, undef, undef, undef, undef, undef, undef, undef, undef, undef, undef, undef, undef, undef, undef, undef, undef, undef, undef, undef, undef, undef, undef, undef, undef, undef, undef, undef, undef, undef, undef, undef, undef, undef, undef, undef, undef, undef, undef, undef, undef] := ef
                subst hd
                rw [eu_69, eu_73] at ef2
                rw [ef2]
                clear ef ef2 hu hs hout hall e_69 eu_69 e_73 eu_73
                simp only [List.drop_succ_cons, List.drop_zero]
                have HBNz := Lib.hid (HBNr.out.below hI HBNr.out.lt)
                have HBMz := Lib.hid (HBMr.out.below hI HBMr.out.lt)
                have HTz := Lib.hid (HTr.out.below hI HTr.out.lt)
                have HBBz := Lib.hid (HBBr.out.below hI HBBr.out.lt)
                have HGz := Lib.hid (HGr.out.below hI HGr.out.lt)
                have HOKz : Hid (∀ c ∈ cs, c.ok wz.heap.size wz) := Lib.hid (fun c hc => ((HOKr.out c hc).below hI).mono hI.size)
                have HDz := Lib.hid (HDr.out.onw hI)
                have HEz := Lib.hid (HEr.out.onw hI)
                have hBz : RowKit.Below w.heap.size w wz := hBr0.trans (hI.mono hBr0.size)
                clear HBNr HBMr HTr HBBr HGr HOKr HDr HEr hBr0
                clear HTX HTY n0 m0
                by_cases h4 : 4 < yl.length + xl.length
                · have g4 : (4 : Int) < (xl.length : Int) + (yl.length : Int) := by omega
                  clear tx ty
                  obtain rfl : er = 9 := by rw [HER.out]; exact (by unfold joinErr; rw [if_neg HNN.out, ← HIJ.out.1, ← HIJ.out.2, HLx.out, HLy.out, if_neg HZ.out, if_pos h4])
                  have hno := HJD.out.1 (by decide)
                  unfold noBds at hno
                  cases hno
                  have bb0 := HBBz.out.cell0
                  have bb1 := HBBz.out.cell1
                  have tkL : True := trivial
                  have tkD : True := trivial
                  simp only [List.length_nil]
                  go_wp2_with (first
                    | (clear tkL; refine wpList_load_tab_g rfl rfl rfl (of_decide_eq_true (by kernel_rfl)) rfl (.inl rfl) _ rfl rfl HTz.out ?_)
                    | (go_at_call 11; clear tkD; refine (differs_any cs ⟨⟨ga, gs, gc⟩, ⟨ka, ks, kc⟩⟩ T9 wz HLC.out.1 HLC.out.2 HOKz.out HDz.out HRD.out HTI.out HTO.out).mono ?_; rintro e w7 ⟨rfl, hb7⟩; have HG7 := Lib.hid (HGz.out.below hb7 HGz.out.lt); have gg0 := HG7.out.cell0; have gg1 := HG7.out.cell1; simp only [List.length_nil] at gg0 gg1; have hB7 : RowKit.Below w.heap.size w w7 := hBz.trans (hb7.mono hBz.size))
                    | (go_at_call 16; refine (lives_any _).mono ?_; rintro e w8 ⟨rfl, hb8⟩; have hBF := hB7.trans (hb8.mono hB7.size)))
                  go_ret
                  exact ⟨rfl, hBF⟩
                · have g4 : ¬ ((4 : Int) < (xl.length : Int) + (yl.length : Int)) := by omega
                  obtain rfl : er = 0 := by rw [HER.out]; unfold joinErr; rw [if_neg HNN.out, ← HIJ.out.1, ← HIJ.out.2, HLx.out, HLy.out, if_neg HZ.out, if_neg h4]
                  have HJO : Hid (JOk T9 b1 a1 b2 a2 i j) := Lib.hid (by rw [HIJ.out.1, HIJ.out.2]; exact JOk.of HG1.out.1 HG2.out.1 HER.out.symm)
                  obtain ⟨T8, hT8⟩ : ∃ T, T = joinT T9 b1 a1 b2 a2 := ⟨_, rfl⟩
                  have HT8 := Lib.hid hT8
                  have HRE : Hid (Reads T8 ⟨⟨ja, js, jc⟩, ⟨la, ls, lc⟩⟩ ∧ Tight ⟨⟨ja, js, jc⟩, ⟨la, ls, lc⟩⟩) := Lib.hid (by rw [hT8]; exact HJD.out.2 rfl)
                  have HTO8 : Hid (TOk T8) := Lib.hid (by rw [hT8]; exact HTO.out.join HG1.out.1 HG2.out.1 HER.out.symm)
                  have HX4' : Hid (yl.length + xl.length ≤ 4) := Lib.hid (by omega)
                  obtain ⟨al, hal⟩ : ∃ b : Bool, ((yl.length : Int) == 0) = b := ⟨_, rfl⟩
                  have HAL : Hid (((yl.length : Int) == 0) = al) := Lib.hid hal
                  clear h4 hT8 HJD hx4 hy4 gx HZ
                  have hz := zero31
                  have tkL : True := trivial
                  have tkD : True := trivial
                  have tkM : True := trivial
                  have tkT : True := trivial
                  have n0 := HBNz.out.cell0
                  have n1 := HBNz.out.cell1
                  have m0 := HBMz.out.cell0
                  have m1 := HBMz.out.cell1
                  have bb0 := HBBz.out.cell0
                  have bb1 := HBBz.out.cell1
                  have gg0 := HGz.out.cell0
                  have gg1 := HGz.out.cell1
                  have ty := (HTz.out.cell lj)
                  rw [(List.getElem?_eq_some_iff.1 HCy.out).2] at ty
                  simp only [Cel.v] at ty
                  go_upto_if 108 with (first
                    | (clear tkL; refine wpList_load_tab_g rfl rfl rfl (of_decide_eq_true (by kernel_rfl)) rfl (.inl rfl) _ rfl rfl HTz.out ?_)
                    | (go_at_call 11; clear tkD; refine (differs_any cs ⟨⟨ga, gs, gc⟩, ⟨ka, ks, kc⟩⟩ T9 wz HLC.out.1 HLC.out.2 HOKz.out HDz.out HRD.out HTI.out HTO.out).mono ?_; rintro e w7 ⟨rfl, hb7⟩; clear n0 n1 m0 m1 bb0 bb1 gg0 gg1; clear ty; have HBN7 := Lib.hid (HBNz.out.below hb7 HBNz.out.lt); have HBM7 := Lib.hid (HBMz.out.below hb7 HBMz.out.lt); have HT7 := Lib.hid (HTz.out.below hb7 HTz.out.lt); have HBB7 := Lib.hid (HBBz.out.below hb7 HBBz.out.lt); have HG7 := Lib.hid (HGz.out.below hb7 HGz.out.lt); have HOK7 : Hid (∀ c ∈ cs, c.ok w7.heap.size w7) := Lib.hid (fun c hc => ((HOKz.out c hc).below hb7).mono hb7.size); have HD7 := Lib.hid (HDz.out.onw hb7); have HE7 := Lib.hid (HEz.out.onw hb7); have hB7 : RowKit.Below w.heap.size w w7 := hBz.trans (hb7.mono hBz.size); clear HBNz HBMz HTz HBBz HGz HOKz HDz HEz hBz; have n0 := HBN7.out.cell0; have n1 := HBN7.out.cell1; have m0 := HBM7.out.cell0; have m1 := HBM7.out.cell1; have bb0 := HBB7.out.cell0; have bb1 := HBB7.out.cell1; have gg0 := HG7.out.cell0; have gg1 := HG7.out.cell1; have ty := (HT7.out.cell lj); rw [(List.getElem?_eq_some_iff.1 HCy.out).2] at ty; simp only [Cel.v] at ty)
                    | (clear tkM; refine wpList_load_tab rfl (.inl rfl) _ rfl rfl HT7.out ?_)
                    | (clear tkT; refine wpList_store_tab rfl rfl (.inl rfl) _ _ rfl rfl rfl (tab_new w7 31) HLC.out.1 ?_; intro w8 hs8; clear hz ty; have HLT7 : Hid (w.heap.size < w7.heap.size ∧ w.heap.size + 1 < w7.heap.size ∧ wa.heap.size < w7.heap.size ∧ wd.heap.size < w7.heap.size ∧ w5.heap.size < w7.heap.size) := Lib.hid ⟨HBN7.out.lt, HBM7.out.lt, HT7.out.lt, HBB7.out.lt, HG7.out.lt⟩; have HOKS := HOK7; have HDS := HD7; have HES := HE7; have hb78 : RowKit.Below w7.heap.size w7 w8 := (below1 w7 (.cells zA 31)).grown hs8.grown (by simp) (fun r e => by cases e; exact Nat.le_refl _); have HU8 := Lib.hid hs8.tab; clear n0 n1 m0 m1 bb0 bb1 gg0 gg1; have HBN8 := Lib.hid (HBN7.out.below hb78 HBN7.out.lt); have HBM8 := Lib.hid (HBM7.out.below hb78 HBM7.out.lt); have HTab8 := Lib.hid (HT7.out.below hb78 HT7.out.lt); have HBB8 := Lib.hid (HBB7.out.below hb78 HBB7.out.lt); have HG8 := Lib.hid (HG7.out.below hb78 HG7.out.lt); have HOK8 : Hid (∀ c ∈ cs, c.ok w8.heap.size w8) := Lib.hid (fun c hc => ((HOK7.out c hc).below hb78).mono hb78.size); have HD8 := Lib.hid (HD7.out.onw hb78); have HE8 := Lib.hid (HE7.out.onw hb78); have hB8 : RowKit.Below w.heap.size w w8 := hB7.trans (hb78.mono hB7.size); clear HBN7 HBM7 HT7 HBB7 HG7 HOK7 HD7 HE7 hB7; have n0 := HBN8.out.cell0; have n1 := HBN8.out.cell1; have m0 := HBM8.out.cell0; have m1 := HBM8.out.cell1; have bb0 := HBB8.out.cell0; have bb1 := HBB8.out.cell1; have gg0 := HG8.out.cell0; have gg1 := HG8.out.cell1; have HK7 : Hid ((∀ c ∈ cs, c.ok w7.heap.size w8) ∧ Bds.ok w7.heap.size w8 ⟨⟨ga, gs, gc⟩, ⟨ka, ks, kc⟩⟩ ∧ Bds.ok w7.heap.size w8 ⟨⟨ja, js, jc⟩, ⟨la, ls, lc⟩⟩ ∧ w7.heap.size ≤ w8.heap.size) := Lib.hid ⟨fun c hc => (HOKS.out c hc).below hb78, HDS.out.below hb78, HES.out.below hb78, hb78.size⟩; clear hs8 hb78 HOKS HDS HES))
                  clear n0 n1 m0 m1 bb0 bb1 gg0 gg1
                  go_cut [6] from 105 (fun s wx => s = .bool false ∧ ∃ c9 : Cel, Hid (c9.l = (if b2 = 1 then yl ++ xl else xl ++ yl) ∧ c9.ok wx.heap.size wx ∧ Tab wx w7.heap.size 31 (cs.set j c9)) ∧ RowKit.Below w7.heap.size w8 wx)
                  case first =>
                    by_cases hb21 : b2 = 1
                    · have gb2 : (b2 == 1) = true := by simp; exact hb21
                      have HB21 := Lib.hid hb21
                      clear hb21
                      go_wp2_with fail
                      have HTP : Hid (∀ {W : World}, RowKit.Below w8.heap.size w8 W → W.cell? ⟨wa.heap.size, j, none⟩ = some (.slice ya yl.length yc)) := Lib.hid fun h => by
                        have := (HTab8.out.below h HTab8.out.lt).cell lj
                        rw [(List.getElem?_eq_some_iff.1 HCy.out).2] at this
                        exact this
                      have HPO : Hid (∀ {W : World}, RowKit.Below w8.heap.size w8 W → Cel.ok w8.heap.size W ⟨ya, yl, yc⟩) := Lib.hid fun h => (HOK8.out _ (List.mem_of_getElem? HCy.out)).below h
                      have HTQ : Hid (∀ {W : World}, RowKit.Below w8.heap.size w8 W → W.cell? ⟨wa.heap.size, i, none⟩ = some (.slice xa xl.length xc)) := Lib.hid fun h => by
                        have := (HTab8.out.below h HTab8.out.lt).cell li
                        rw [(List.getElem?_eq_some_iff.1 HCx.out).2] at this
                        exact this
                      have HQO : Hid (∀ {W : World}, RowKit.Below w8.heap.size w8 W → Cel.ok w8.heap.size W ⟨xa, xl, xc⟩) := Lib.hid fun h => (HOK8.out _ (List.mem_of_getElem? HCx.out)).below h
                      have HP4L : Hid (yl.length ≤ 50) := Lib.hid (by have := HX4'.out; omega)
                      have HQ4L : Hid (xl.length ≤ 50) := Lib.hid (by have := HX4'.out; omega)
                      refine rgT3 11 [some 109, some 110, some 111, some 112, some 113, some 114, some 115, some 116, some 117, some 118, some 119, none] (psiJl26 w8.heap.size wa.heap.size w7.heap.size j j i ya yl yc xa xl xc i) (fun w' => RowKit.Below w8.heap.size w8 w') (RAp w8.heap.size 9) (by kernel_rfl) (by kernel_rfl) (by kernel_rfl) (by kernel_rfl) (fun i9 _ _ _ L9 hL9 _ j9 v9 u9 u9' hne _ h hb => psiJl26_stab w8.heap.size wa.heap.size w7.heap.size j j i ya yl yc xa xl xc i w8.heap.size i9 L9 hL9 j9 v9 u9 u9' hne h hb) (fun i9 u9 u9' h hb => RAp.keep hb h (Nat.le_trans (Nat.le_refl _) h.size)) (fun i9 o9 hi9 ho9 L9 hL9 hLi9 hcl9 aq9 w1 hs hout hI hdep => ?_) ?_ ((Below.refl _ _).drew)
                      · skip
                        match i9, hi9, ho9 with
                        | 0, _, ho9 =>
                          obtain rfl := Option.some.inj ho9
                          refine .inl ⟨rfl, fun K hK => ?_⟩
                          exact st_move rfl ((hout 12 rfl).trans rfl) (hK _ _ (show RAp w8.heap.size 9 0 w1 w1 from Below.refl _ _) rfl)
                        | 1, _, ho9 =>
                          obtain rfl := Option.some.inj ho9
                          refine .inl ⟨rfl, fun K hK => ?_⟩
                          exact st_bs0 rfl (hK _ _ (show RAp w8.heap.size 9 1 w1 _ from below1 _ _) (fun _ => ⟨_, rfl, Nat.le_trans (Nat.le_refl _) hI.size, heap_alloc_new _ _⟩))
                        | 2, _, ho9 =>
                          obtain rfl := Option.some.inj ho9
                          refine .inl ⟨rfl, fun K hK => ?_⟩
                          exact st_move rfl ((hout 12 rfl).trans rfl) (hK _ _ (show RAp w8.heap.size 9 2 w1 w1 from Below.refl _ _) rfl)
                        | 3, _, ho9 =>
                          obtain rfl := Option.some.inj ho9
                          have dq2 : (aq9.tmps.getD 111 undef) = .int .i64 j := hdep ⟨2, .data⟩ (by simp) rfl _ rfl
                          refine .inl ⟨rfl, fun K hK => ?_⟩
                          exact st_idx31 (k := j) rfl ((hout 7 rfl).trans rfl) dq2 (by omega) (hK _ _ (show RAp w8.heap.size 9 3 w1 w1 from Below.refl _ _) rfl)
                        | 4, _, ho9 =>
                          obtain rfl := Option.some.inj ho9
                          have dq3 : (aq9.tmps.getD 112 undef) = .pointer (some ⟨wa.heap.size, j, none⟩) := hdep ⟨3, .data⟩ (by simp) rfl _ rfl
                          refine .inl ⟨rfl, fun K hK => ?_⟩
                          exact ld29 rfl dq3 (HTP.out hI) (hK _ _ (show RAp w8.heap.size 9 4 w1 w1 from Below.refl _ _) rfl)
                        | 5, _, ho9 =>
                          obtain rfl := Option.some.inj ho9
                          have dq1 : L9.getD 9 false = false → ∃ g, (aq9.tmps.getD 110 undef) = .slice (some ⟨g, 0, none⟩) 0 0 ∧ w8.heap.size ≤ g ∧ w1.heap[g]? = some (.cells #[] 28 (0, 0)) := hdep ⟨1, .data⟩ (by simp) rfl _ rfl
                          have dq4 : (aq9.tmps.getD 113 undef) = .slice ya yl.length yc := hdep ⟨4, .data⟩ (by simp) rfl _ rfl
                          refine .inl ⟨rfl, fun K hK => ?_⟩
                          have hn9 : L9.getD 9 false = false := by
                            cases h9 : L9.getD 9 false with
                            | false => rfl
                            | true => exact absurd (hcl9 9 _ h9 rfl ⟨5, .data⟩ (by simp) rfl) (by rw [hLi9]; decide)
                          obtain ⟨g9, hv9, hg9, hb9⟩ := dq1 hn9
                          exact step_append0_own rfl hv9 hg9 hb9 ⟨ya, yl, yc⟩ dq4 ((HPO.out hI).mono hI.size) (fun v' w' h1 h2 => hK _ _ (show RAp w8.heap.size 9 5 w1 w' from h2) (fun _ => h1))
                        | 6, _, ho9 =>
                          obtain rfl := Option.some.inj ho9
                          refine .inl ⟨rfl, fun K hK => ?_⟩
                          exact st_move rfl ((hout 11 rfl).trans rfl) (hK _ _ (show RAp w8.heap.size 9 6 w1 w1 from Below.refl _ _) rfl)
                        | 7, _, ho9 =>
                          obtain rfl := Option.some.inj ho9
                          have dq6 : (aq9.tmps.getD 115 undef) = .int .i64 i := hdep ⟨6, .data⟩ (by simp) rfl _ rfl
                          refine .inl ⟨rfl, fun K hK => ?_⟩
                          exact st_idx31 (k := i) rfl ((hout 7 rfl).trans rfl) dq6 (by omega) (hK _ _ (show RAp w8.heap.size 9 7 w1 w1 from Below.refl _ _) rfl)
                        | 8, _, ho9 =>
                          obtain rfl := Option.some.inj ho9
                          have dq7 : (aq9.tmps.getD 116 undef) = .pointer (some ⟨wa.heap.size, i, none⟩) := hdep ⟨7, .data⟩ (by simp) rfl _ rfl
                          refine .inl ⟨rfl, fun K hK => ?_⟩
                          exact ld29 rfl dq7 (HTQ.out hI) (hK _ _ (show RAp w8.heap.size 9 8 w1 w1 from Below.refl _ _) rfl)
                        | 9, _, ho9 =>
                          obtain rfl := Option.some.inj ho9
                          have dq5 : L9.getD 9 false = false → World.ownsRow w1 w8.heap.size 28 2 (aq9.tmps.getD 114 undef) yl.length (cellsOf yl) := hdep ⟨5, .data⟩ (by simp) rfl _ rfl
                          have dq8 : (aq9.tmps.getD 117 undef) = .slice xa xl.length xc := hdep ⟨8, .data⟩ (by simp) rfl _ rfl
                          refine .inl ⟨rfl, fun K hK => ?_⟩
                          have ho5 := dq5 hLi9
                          refine step_append rfl rfl ho5 ⟨xa, xl, xc⟩ dq8 (HQO.out hI) (by have := HP4L.out; omega) hI.size (fun v9 w9 h2 h3 => ?_)
                          rw [show yl.length + (Cel.mk xa xl xc).l.length = (yl ++ xl).length by simp] at h2
                          obtain ⟨c8, rfl, h4', h5', h6'⟩ := ok_of_owns h2 (by have := HP4L.out; have := HQ4L.out; simp only [List.length_append]; omega)
                          exact hK _ _ (show RAp w8.heap.size 9 9 w1 w9 from (by unfold RAp; rw [if_pos rfl]; exact ⟨_, h3, fun b hb => (ho5.lt b hb).1⟩)) ⟨c8, rfl, h4', h6'⟩
                        | 10, _, ho9 =>
                          obtain rfl := Option.some.inj ho9
                          have dq0 : (aq9.tmps.getD 109 undef) = .int .i64 j := hdep ⟨0, .data⟩ (by simp) rfl _ rfl
                          refine .inl ⟨rfl, fun K hK => ?_⟩
                          exact st_idx31 (k := j) rfl ((hout 16 rfl).trans rfl) dq0 (by omega) (hK _ _ (show RAp w8.heap.size 9 10 w1 w1 from Below.refl _ _) rfl)
                        | i9 + 11, hi9, _ => exact absurd hi9 (by omega)
                      · intro a2 w9 hs hd hout hI hall
                        obtain ⟨tmps, defers⟩ := a2
                        have e_118 : ∃ c9 : Cel, (tmps.getD 118 undef) = c9.v ∧ c9.l = yl ++ xl ∧ c9.ok w9.heap.size w9 := (hall 9 _ (by decide) rfl).elim fun _ h => h.2
                        obtain ⟨c9, e_118, hl9, hok9⟩ := e_118
                        have e_119 : (tmps.getD 119 undef) = .pointer (some ⟨w7.heap.size, j, none⟩) := (hall 10 _ (by decide) rfl).elim fun _ h => h.2
                        simp only at hs hd hout
                        have ef := frameAt [some 109, some 110, some 111, some 112, some 113, some 114, some 115, some 116, some 117, some 118, some 119, none] _ tmps hs hout
                        obtain ⟨sv26, hu⟩ : ∃ u : Nat → Value, u = fun s => tmps.getD s undef := ⟨_, rfl⟩
                        have eu_118 : sv26 118 = c9.v := by rw [hu]; exact e_118
                        have eu_119 : sv26 119 = .pointer (some ⟨w7.heap.size, j, none⟩) := by rw [hu]; exact e_119
                        rw [← hu] at ef
                        have ef2 : tmps = #[Value.slice ao xn cap, Value.agg #[Value.int IntKind.u8 b1, Value.int IntKind.i64 a1], Value.agg #[Value.int IntKind.u8 b2, Value.int IntKind.i64 a2], undef, Value.pointer (some { block := w.heap.size, off := 0 }), Value.pointer (some { block := w.heap.size + 1, off := 0 }), Value.bool false, Value.pointer (some { block := wa.heap.size, off := 0 }), Value.pointer (some { block := wd.heap.size, off := 0 }), Value.pointer (some { block := w5.heap.size, off := 0 }), Value.int IntKind.i64 0, Value.int IntKind.i64 i, Value.int IntKind.i64 j, Value.int IntKind.i64 k, Value.int IntKind.i64 0, Value.bool al, Value.pointer (some { block := w7.heap.size, off := 0 }), undef, Value.slice ao xn cap, tabV cs, tabV cs, Value.agg #[Value.slice ga gs.length gc, Value.slice ka ks.length kc], Value.tuple #[Value.agg #[Value.slice ja js.length jc, Value.slice la ls.length lc], Value.int IntKind.i64 0], Value.agg #[Value.slice ga gs.length gc, Value.slice ka ks.length kc], Value.agg #[Value.int IntKind.u8 b1, Value.int IntKind.i64 a1], Value.agg #[Value.int IntKind.u8 b2, Value.int IntKind.i64 a2], Value.tuple #[Value.agg #[Value.slice ja js.length jc, Value.slice la ls.length lc], Value.int IntKind.i64 0], Value.agg #[Value.slice ja js.length jc, Value.slice la ls.length lc], Value.int IntKind.i64 0, Value.int IntKind.i64 k, Value.bool false, u31, u32, u33, u34, u35, u36, u37, u38, u39, u40, u41, u42, u43, u44, Value.bool false, Value.int IntKind.i64 i, Value.bool false, Value.bool false, Value.int IntKind.i64 j, Value.bool false, Value.bool false, Value.bool false, Value.pointer (some { block := w.heap.size, off := 0 }), Value.int IntKind.u8 b1, Value.pointer (some { block := w.heap.size + 1, off := 0 }), Value.int IntKind.u8 b2, Value.bool false, Value.bool false, Value.bool false, Value.int IntKind.i64 i, Value.pointer (some { block := wa.heap.size, off := i }), Value.slice xa xl.length xc, Value.int IntKind.i64 xl.length, Value.bool false, Value.bool false, sv17 66, sv17 67, sv17 68, Value.int IntKind.i64 xl.length, sv17 70, sv17 71, sv17 72, Value.int IntKind.i64 yl.length, Value.int IntKind.i64 (xl.length + yl.length), Value.bool false, Value.int IntKind.i64 0, Value.int IntKind.i64 0, Value.bool false, Value.bool false, tabV cs, Value.agg #[Value.slice ga gs.length gc, Value.slice ka ks.length kc], Value.int IntKind.i64 0, Value.bool false, Value.bool false, Value.int IntKind.i64 0, Value.bool false, undef, undef, undef, undef, undef, undef, undef, undef, undef, undef, undef, undef, undef, Value.int IntKind.i64 j, Value.pointer (some { block := wa.heap.size, off := j }), Value.slice ya yl.length yc, Value.int IntKind.i64 yl.length, Value.bool al, tabV cs, Value.pointer (some { block := w.heap.size + 1, off := 0 }), Value.int IntKind.u8 b2, Value.bool (b2 == 1), (sv26 109), (sv26 110), (sv26 111), (sv26 112), (sv26 113), (sv26 114), (sv26 115), (sv26 116), (sv26 117), (sv26 118), (sv26 119), undef, undef, undef, undef, undef, undef, undef, undef, undef, undef, undef, undef, undef, undef, undef, undef, undef, undef, undef, undef, undef, undef, undef, undef, undef, undef, undef, undef, undef, undef, undef, undef, undef, undef, undef, undef, undef, undef, undef, undef, undef, undef, undef] := ef
                        subst hd
                        rw [eu_118, eu_119] at ef2
                        rw [ef2]
                        clear ef ef2 hu hs hout hall e_118 eu_118 e_119 eu_119
                        simp only [List.drop_succ_cons, List.drop_zero]
                        have HL9 := Lib.hid hl9
                        clear hl9
                        obtain ⟨ca, cl, cc⟩ := c9
                        have hU9 := HU8.out.below hI HU8.out.lt
                        obtain ⟨ra, rn, rc, hrc⟩ := hU9.cellE lj
                        have hrf := hU9.frozen
                        simp only [Cel.v]
                        go_wp2_with fail
                        go_meet
                        exact ⟨rfl, ⟨ca, cl, cc⟩, Lib.hid ⟨by rw [HL9.out, if_pos HB21.out], by simpa using hok9.set_tab hU9 j (.slice ca cl.length cc), hU9.set j ⟨ca, cl, cc⟩⟩, (hI.mono HK7.out.2.2.2).setCell (p := ⟨w7.heap.size, j, none⟩) (Nat.le_refl _) _⟩
                    · have gb2 : (b2 == 1) = false := by simp; exact hb21
                      have HB21 := Lib.hid hb21
                      clear hb21
                      go_wp2_with fail
                      have HTP : Hid (∀ {W : World}, RowKit.Below w8.heap.size w8 W → W.cell? ⟨wa.heap.size, i, none⟩ = some (.slice xa xl.length xc)) := Lib.hid fun h => by
                        have := (HTab8.out.below h HTab8.out.lt).cell li
                        rw [(List.getElem?_eq_some_iff.1 HCx.out).2] at this
                        exact this
                      have HPO : Hid (∀ {W : World}, RowKit.Below w8.heap.size w8 W → Cel.ok w8.heap.size W ⟨xa, xl, xc⟩) := Lib.hid fun h => (HOK8.out _ (List.mem_of_getElem? HCx.out)).below h
                      have HTQ : Hid (∀ {W : World}, RowKit.Below w8.heap.size w8 W → W.cell? ⟨wa.heap.size, j, none⟩ = some (.slice ya yl.length yc)) := Lib.hid fun h => by
                        have := (HTab8.out.below h HTab8.out.lt).cell lj
                        rw [(List.getElem?_eq_some_iff.1 HCy.out).2] at this
                        exact this
                      have HQO : Hid (∀ {W : World}, RowKit.Below w8.heap.size w8 W → Cel.ok w8.heap.size W ⟨ya, yl, yc⟩) := Lib.hid fun h => (HOK8.out _ (List.mem_of_getElem? HCy.out)).below h
                      have HP4L : Hid (xl.length ≤ 50) := Lib.hid (by have := HX4'.out; omega)
                      have HQ4L : Hid (yl.length ≤ 50) := Lib.hid (by have := HX4'.out; omega)
                      refine rgT3 11 [some 120, some 121, some 122, some 123, some 124, some 125, some 126, some 127, some 128, some 129, some 130, none] (psiJl27 w8.heap.size wa.heap.size w7.heap.size j i j xa xl xc ya yl yc i) (fun w' => RowKit.Below w8.heap.size w8 w') (RAp w8.heap.size 9) (by kernel_rfl) (by kernel_rfl) (by kernel_rfl) (by kernel_rfl) (fun i9 _ _ _ L9 hL9 _ j9 v9 u9 u9' hne _ h hb => psiJl27_stab w8.heap.size wa.heap.size w7.heap.size j i j xa xl xc ya yl yc i w8.heap.size i9 L9 hL9 j9 v9 u9 u9' hne h hb) (fun i9 u9 u9' h hb => RAp.keep hb h (Nat.le_trans (Nat.le_refl _) h.size)) (fun i9 o9 hi9 ho9 L9 hL9 hLi9 hcl9 aq9 w1 hs hout hI hdep => ?_) ?_ ((Below.refl _ _).drew)
                      · skip
                        match i9, hi9, ho9 with
                        | 0, _, ho9 =>
                          obtain rfl := Option.some.inj ho9
                          refine .inl ⟨rfl, fun K hK => ?_⟩
                          exact st_move rfl ((hout 12 rfl).trans rfl) (hK _ _ (show RAp w8.heap.size 9 0 w1 w1 from Below.refl _ _) rfl)
                        | 1, _, ho9 =>
                          obtain rfl := Option.some.inj ho9
                          refine .inl ⟨rfl, fun K hK => ?_⟩
                          exact st_bs0 rfl (hK _ _ (show RAp w8.heap.size 9 1 w1 _ from below1 _ _) (fun _ => ⟨_, rfl, Nat.le_trans (Nat.le_refl _) hI.size, heap_alloc_new _ _⟩))
                        | 2, _, ho9 =>
                          obtain rfl := Option.some.inj ho9
                          refine .inl ⟨rfl, fun K hK => ?_⟩
                          exact st_move rfl ((hout 11 rfl).trans rfl) (hK _ _ (show RAp w8.heap.size 9 2 w1 w1 from Below.refl _ _) rfl)
                        | 3, _, ho9 =>
                          obtain rfl := Option.some.inj ho9
                          have dq2 : (aq9.tmps.getD 122 undef) = .int .i64 i := hdep ⟨2, .data⟩ (by simp) rfl _ rfl
                          refine .inl ⟨rfl, fun K hK => ?_⟩
                          exact st_idx31 (k := i) rfl ((hout 7 rfl).trans rfl) dq2 (by omega) (hK _ _ (show RAp w8.heap.size 9 3 w1 w1 from Below.refl _ _) rfl)
                        | 4, _, ho9 =>
                          obtain rfl := Option.some.inj ho9
                          have dq3 : (aq9.tmps.getD 123 undef) = .pointer (some ⟨wa.heap.size, i, none⟩) := hdep ⟨3, .data⟩ (by simp) rfl _ rfl
                          refine .inl ⟨rfl, fun K hK => ?_⟩
                          exact ld29 rfl dq3 (HTP.out hI) (hK _ _ (show RAp w8.heap.size 9 4 w1 w1 from Below.refl _ _) rfl)
                        | 5, _, ho9 =>
                          obtain rfl := Option.some.inj ho9
                          have dq1 : L9.getD 9 false = false → ∃ g, (aq9.tmps.getD 121 undef) = .slice (some ⟨g, 0, none⟩) 0 0 ∧ w8.heap.size ≤ g ∧ w1.heap[g]? = some (.cells #[] 28 (0, 0)) := hdep ⟨1, .data⟩ (by simp) rfl _ rfl
                          have dq4 : (aq9.tmps.getD 124 undef) = .slice xa xl.length xc := hdep ⟨4, .data⟩ (by simp) rfl _ rfl
                          refine .inl ⟨rfl, fun K hK => ?_⟩
                          have hn9 : L9.getD 9 false = false := by
                            cases h9 : L9.getD 9 false with
                            | false => rfl
                            | true => exact absurd (hcl9 9 _ h9 rfl ⟨5, .data⟩ (by simp) rfl) (by rw [hLi9]; decide)
                          obtain ⟨g9, hv9, hg9, hb9⟩ := dq1 hn9
                          exact step_append0_own rfl hv9 hg9 hb9 ⟨xa, xl, xc⟩ dq4 ((HPO.out hI).mono hI.size) (fun v' w' h1 h2 => hK _ _ (show RAp w8.heap.size 9 5 w1 w' from h2) (fun _ => h1))
                        | 6, _, ho9 =>
                          obtain rfl := Option.some.inj ho9
                          refine .inl ⟨rfl, fun K hK => ?_⟩
                          exact st_move rfl ((hout 12 rfl).trans rfl) (hK _ _ (show RAp w8.heap.size 9 6 w1 w1 from Below.refl _ _) rfl)
                        | 7, _, ho9 =>
                          obtain rfl := Option.some.inj ho9
                          have dq6 : (aq9.tmps.getD 126 undef) = .int .i64 j := hdep ⟨6, .data⟩ (by simp) rfl _ rfl
                          refine .inl ⟨rfl, fun K hK => ?_⟩
                          exact st_idx31 (k := j) rfl ((hout 7 rfl).trans rfl) dq6 (by omega) (hK _ _ (show RAp w8.heap.size 9 7 w1 w1 from Below.refl _ _) rfl)
                        | 8, _, ho9 =>
                          obtain rfl := Option.some.inj ho9
                          have dq7 : (aq9.tmps.getD 127 undef) = .pointer (some ⟨wa.heap.size, j, none⟩) := hdep ⟨7, .data⟩ (by simp) rfl _ rfl
                          refine .inl ⟨rfl, fun K hK => ?_⟩
                          exact ld29 rfl dq7 (HTQ.out hI) (hK _ _ (show RAp w8.heap.size 9 8 w1 w1 from Below.refl _ _) rfl)
                        | 9, _, ho9 =>
                          obtain rfl := Option.some.inj ho9
                          have dq5 : L9.getD 9 false = false → World.ownsRow w1 w8.heap.size 28 2 (aq9.tmps.getD 125 undef) xl.length (cellsOf xl) := hdep ⟨5, .data⟩ (by simp) rfl _ rfl
                          have dq8 : (aq9.tmps.getD 128 undef) = .slice ya yl.length yc := hdep ⟨8, .data⟩ (by simp) rfl _ rfl
                          refine .inl ⟨rfl, fun K hK => ?_⟩
                          have ho5 := dq5 hLi9
                          refine step_append rfl rfl ho5 ⟨ya, yl, yc⟩ dq8 (HQO.out hI) (by have := HP4L.out; omega) hI.size (fun v9 w9 h2 h3 => ?_)
                          rw [show xl.length + (Cel.mk ya yl yc).l.length = (xl ++ yl).length by simp] at h2
                          obtain ⟨c8, rfl, h4', h5', h6'⟩ := ok_of_owns h2 (by have := HP4L.out; have := HQ4L.out; simp only [List.length_append]; omega)
                          exact hK _ _ (show RAp w8.heap.size 9 9 w1 w9 from (by unfold RAp; rw [if_pos rfl]; exact ⟨_, h3, fun b hb => (ho5.lt b hb).1⟩)) ⟨c8, rfl, h4', h6'⟩
                        | 10, _, ho9 =>
                          obtain rfl := Option.some.inj ho9
                          have dq0 : (aq9.tmps.getD 120 undef) = .int .i64 j := hdep ⟨0, .data⟩ (by simp) rfl _ rfl
                          refine .inl ⟨rfl, fun K hK => ?_⟩
                          exact st_idx31 (k := j) rfl ((hout 16 rfl).trans rfl) dq0 (by omega) (hK _ _ (show RAp w8.heap.size 9 10 w1 w1 from Below.refl _ _) rfl)
                        | i9 + 11, hi9, _ => exact absurd hi9 (by omega)
                      · intro a2 w9 hs hd hout hI hall
                        obtain ⟨tmps, defers⟩ := a2
                        have e_129 : ∃ c9 : Cel, (tmps.getD 129 undef) = c9.v ∧ c9.l = xl ++ yl ∧ c9.ok w9.heap.size w9 := (hall 9 _ (by decide) rfl).elim fun _ h => h.2
                        obtain ⟨c9, e_129, hl9, hok9⟩ := e_129
                        have e_130 : (tmps.getD 130 undef) = .pointer (some ⟨w7.heap.size, j, none⟩) := (hall 10 _ (by decide) rfl).elim fun _ h => h.2
                        simp only at hs hd hout
                        have ef := frameAt [some 120, some 121, some 122, some 123, some 124, some 125, some 126, some 127, some 128, some 129, some 130, none] _ tmps hs hout
                        obtain ⟨sv27, hu⟩ : ∃ u : Nat → Value, u = fun s => tmps.getD s undef := ⟨_, rfl⟩
                        have eu_129 : sv27 129 = c9.v := by rw [hu]; exact e_129
                        have eu_130 : sv27 130 = .pointer (some ⟨w7.heap.size, j, none⟩) := by rw [hu]; exact e_130
                        rw [← hu] at ef
                        have ef2 : tmps = #[Value.slice ao xn cap, Value.agg #[Value.int IntKind.u8 b1, Value.int IntKind.i64 a1], Value.agg #[Value.int IntKind.u8 b2, Value.int IntKind.i64 a2], undef, Value.pointer (some { block := w.heap.size, off := 0 }), Value.pointer (some { block := w.heap.size + 1, off := 0 }), Value.bool false, Value.pointer (some { block := wa.heap.size, off := 0 }), Value.pointer (some { block := wd.heap.size, off := 0 }), Value.pointer (some { block := w5.heap.size, off := 0 }), Value.int IntKind.i64 0, Value.int IntKind.i64 i, Value.int IntKind.i64 j, Value.int IntKind.i64 k, Value.int IntKind.i64 0, Value.bool al, Value.pointer (some { block := w7.heap.size, off := 0 }), undef, Value.slice ao xn cap, tabV cs, tabV cs, Value.agg #[Value.slice ga gs.length gc, Value.slice ka ks.length kc], Value.tuple #[Value.agg #[Value.slice ja js.length jc, Value.slice la ls.length lc], Value.int IntKind.i64 0], Value.agg #[Value.slice ga gs.length gc, Value.slice ka ks.length kc], Value.agg #[Value.int IntKind.u8 b1, Value.int IntKind.i64 a1], Value.agg #[Value.int IntKind.u8 b2, Value.int IntKind.i64 a2], Value.tuple #[Value.agg #[Value.slice ja js.length jc, Value.slice la ls.length lc], Value.int IntKind.i64 0], Value.agg #[Value.slice ja js.length jc, Value.slice la ls.length lc], Value.int IntKind.i64 0, Value.int IntKind.i64 k, Value.bool false, u31, u32, u33, u34, u35, u36, u37, u38, u39, u40, u41, u42, u43, u44, Value.bool false, Value.int IntKind.i64 i, Value.bool false, Value.bool false, Value.int IntKind.i64 j, Value.bool false, Value.bool false, Value.bool false, Value.pointer (some { block := w.heap.size, off := 0 }), Value.int IntKind.u8 b1, Value.pointer (some { block := w.heap.size + 1, off := 0 }), Value.int IntKind.u8 b2, Value.bool false, Value.bool false, Value.bool false, Value.int IntKind.i64 i, Value.pointer (some { block := wa.heap.size, off := i }), Value.slice xa xl.length xc, Value.int IntKind.i64 xl.length, Value.bool false, Value.bool false, sv17 66, sv17 67, sv17 68, Value.int IntKind.i64 xl.length, sv17 70, sv17 71, sv17 72, Value.int IntKind.i64 yl.length, Value.int IntKind.i64 (xl.length + yl.length), Value.bool false, Value.int IntKind.i64 0, Value.int IntKind.i64 0, Value.bool false, Value.bool false, tabV cs, Value.agg #[Value.slice ga gs.length gc, Value.slice ka ks.length kc], Value.int IntKind.i64 0, Value.bool false, Value.bool false, Value.int IntKind.i64 0, Value.bool false, undef, undef, undef, undef, undef, undef, undef, undef, undef, undef, undef, undef, undef, Value.int IntKind.i64 j, Value.pointer (some { block := wa.heap.size, off := j }), Value.slice ya yl.length yc, Value.int IntKind.i64 yl.length, Value.bool al, tabV cs, Value.pointer (some { block := w.heap.size + 1, off := 0 }), Value.int IntKind.u8 b2, Value.bool (b2 == 1), undef, undef, undef, undef, undef, undef, undef, undef, undef, undef, undef, (sv27 120), (sv27 121), (sv27 122), (sv27 123), (sv27 124), (sv27 125), (sv27 126), (sv27 127), (sv27 128), (sv27 129), (sv27 130), undef, undef, undef, undef, undef, undef, undef, undef, undef, undef, undef, undef, undef, undef, undef, undef, undef, undef, undef, undef, undef, undef, undef, undef, undef, undef, undef, undef, undef, undef, undef, undef] := ef
                        subst hd
                        rw [eu_129, eu_130] at ef2
                        rw [ef2]
                        clear ef ef2 hu hs hout hall e_129 eu_129 e_130 eu_130
                        simp only [List.drop_succ_cons, List.drop_zero]
                        have HL9 := Lib.hid hl9
                        clear hl9
                        obtain ⟨ca, cl, cc⟩ := c9
                        have hU9 := HU8.out.below hI HU8.out.lt
                        obtain ⟨ra, rn, rc, hrc⟩ := hU9.cellE lj
                        have hrf := hU9.frozen
                        simp only [Cel.v]
                        go_wp2_with fail
                        go_meet
                        exact ⟨rfl, ⟨ca, cl, cc⟩, Lib.hid ⟨by rw [HL9.out, if_neg HB21.out], by simpa using hok9.set_tab hU9 j (.slice ca cl.length cc), hU9.set j ⟨ca, cl, cc⟩⟩, (hI.mono HK7.out.2.2.2).setCell (p := ⟨w7.heap.size, j, none⟩) (Nat.le_refl _) _⟩
                  case rest =>
                    obtain ⟨rfl, c9, hc9, hbc⟩ := hcut
                    have hMc : w7.heap.size ≤ wc.heap.size := Nat.le_trans HK7.out.2.2.2 hbc.size
                    have HBNc := Lib.hid (HBN8.out.below hbc HLT7.out.1)
                    have HBMc := Lib.hid (HBM8.out.below hbc HLT7.out.2.1)
                    have HTc := Lib.hid (HTab8.out.below hbc HLT7.out.2.2.1)
                    have HBBc := Lib.hid (HBB8.out.below hbc HLT7.out.2.2.2.1)
                    have HGc := Lib.hid (HG8.out.below hbc HLT7.out.2.2.2.2)
                    have hUc := hc9.out.2.2
                    obtain ⟨ra, rn, rc, hrc⟩ := hUc.cellE li
                    have hrf := hUc.frozen
                    have hBc : RowKit.Below w.heap.size w wc := hB8.trans (hbc.mono (Nat.le_of_lt HLT7.out.1))
                    clear HBN8 HBM8 HTab8 HBB8 HG8 HU8 HOK8 HD8 HE8 hB8
                    go_upto_region 29 with fail
                    obtain ⟨w10, hw10⟩ : ∃ W, wc.setCell ⟨w7.heap.size, i, none⟩ (.slice none 0 0) = W := ⟨_, rfl⟩
                    have h10 : RowKit.Below w7.heap.size wc w10 := by rw [← hw10]; exact (Below.refl _ _).setCell (p := ⟨w7.heap.size, i, none⟩) (Nat.le_refl _) _
                    obtain ⟨cs2, hcs2⟩ : ∃ c, c = (cs.set j c9).set i Cel.nil := ⟨_, rfl⟩
                    have HU10 : Hid (Tab w10 w7.heap.size 31 cs2) := Lib.hid (by rw [← hw10, hcs2]; exact hUc.set i Cel.nil)
                    have hM10 : w7.heap.size ≤ w10.heap.size := Nat.le_trans hMc h10.size
                    have HBN10 := Lib.hid (HBNc.out.below h10 HLT7.out.1)
                    have HBM10 := Lib.hid (HBMc.out.below h10 HLT7.out.2.1)
                    have HT10 := Lib.hid (HTc.out.below h10 HLT7.out.2.2.1)
                    have HBB10 := Lib.hid (HBBc.out.below h10 HLT7.out.2.2.2.1)
                    have HG10 := Lib.hid (HGc.out.below h10 HLT7.out.2.2.2.2)
                    have HOK10 : Hid (∀ c ∈ cs2, c.ok w10.heap.size w10) := Lib.hid (fun c hc => by
                      rw [hcs2] at hc
                      rcases List.mem_or_eq_of_mem_set hc with hc | rfl
                      · rcases List.mem_or_eq_of_mem_set hc with hc | rfl
                        · exact (((HK7.out.1 c hc).below hbc).below h10).mono hM10
                        · rw [← hw10, World.size_setCell]; exact hc9.out.2.1.set_tab hUc i _
                      · exact Cel.nil_ok _ _)
                    have HD10 : Hid (Bds.ok w10.heap.size w10 ⟨⟨ga, gs, gc⟩, ⟨ka, ks, kc⟩⟩) := Lib.hid (((HK7.out.2.1.below hbc).below h10).mono hM10)
                    have HE10 : Hid (Bds.ok w10.heap.size w10 ⟨⟨ja, js, jc⟩, ⟨la, ls, lc⟩⟩) := Lib.hid (((HK7.out.2.2.1.below hbc).below h10).mono hM10)
                    have hB10 : RowKit.Below w.heap.size w w10 := hBc.trans (h10.mono (Nat.le_of_lt HLT7.out.1))
                    have HL2 : Hid (cs2.length = 80 ∧ cs2.map (fun c => c.l) = T8) := Lib.hid ⟨by rw [hcs2]; simp [HLC.out.1], by rw [hcs2, HT8.out]; exact HJO.out.table HLC.out.2 (by rw [HLx.out, HLy.out]; exact hc9.out.1) HG1.out.1 HG2.out.1⟩
                    rw [hw10]
                    clear hw10 hcs2 hUc hc9 hrc hrf h10 hM10 hMc hBc hbc HK7 HBNc HBMc HTc HBBc HGc HLT7
                    obtain ⟨nn, hnn⟩ : ∃ n, n = T8.flatten.length := ⟨_, rfl⟩
                    have HNN8 : Hid (cntM (Bds.els ⟨⟨ja, js, jc⟩, ⟨la, ls, lc⟩⟩) = nn) := Lib.hid (by rw [HRE.out.1.cnt, hnn])
                    have HNN9 : Hid (cntM (Bds.els ⟨⟨ga, gs, gc⟩, ⟨ka, ks, kc⟩⟩) = nn) := Lib.hid (by rw [HRD.out.cnt, hnn, HT8.out, HJO.out.len HTO.out.len])
                    clear hnn
                    have HUT : Hid (∀ {W : World}, RowKit.Below w10.heap.size w10 W → Tab W w7.heap.size 31 cs2) := Lib.hid fun h => HU10.out.below h HU10.out.lt
                    have HGT : Hid (∀ {W : World}, RowKit.Below w10.heap.size w10 W → W.cell? ⟨w5.heap.size, 0, none⟩ = some (.slice ja js.length jc) ∧ W.cell? ⟨w5.heap.size, 0 + 1, none⟩ = some (.slice la ls.length lc)) := Lib.hid fun h => ⟨(HG10.out.below h HG10.out.lt).cell0, (HG10.out.below h HG10.out.lt).cell1⟩
                    have HBT : Hid (∀ {W : World}, RowKit.Below w10.heap.size w10 W → W.cell? ⟨wd.heap.size, 0, none⟩ = some (.slice ga gs.length gc) ∧ W.cell? ⟨wd.heap.size, 0 + 1, none⟩ = some (.slice ka ks.length kc)) := Lib.hid fun h => ⟨(HBB10.out.below h HBB10.out.lt).cell0, (HBB10.out.below h HBB10.out.lt).cell1⟩
                    have HDF : Hid (∀ W, RowKit.Below w10.heap.size w10 W → Calls Try.prog 11 #[tabV cs2, .agg #[.slice ja js.length jc, .slice la ls.length lc]] W fun e w' => e = .returned (.int .i64 0) ∧ RowKit.Below W.heap.size W w') := Lib.hid fun W h => differs_any cs2 ⟨⟨ja, js, jc⟩, ⟨la, ls, lc⟩⟩ T8 W HL2.out.1 HL2.out.2 (fun c hc => ((HOK10.out c hc).below h).mono h.size) (HE10.out.onw h) HRE.out.1 HRE.out.2 HTO8.out
                    have HCT : Hid (∀ W, RowKit.Below w10.heap.size w10 W → Calls Try.prog 15 #[.agg #[.slice ja js.length jc, .slice la ls.length lc]] W fun e w' => e = .returned (.int .i64 nn) ∧ RowKit.Below W.heap.size W w') := Lib.hid fun W h => by
                      have := count_any ⟨⟨ja, js, jc⟩, ⟨la, ls, lc⟩⟩ W.heap.size W (Nat.le_refl _) (HE10.out.onw h)
                      rw [HNN8.out] at this
                      exact this
                    refine rgT2 8 [some 133, some 134, some 135, some 136, some 137, some 138, some 139, some 140, some 141, some 142, some 143] (psiJl29 w7.heap.size w5.heap.size wd.heap.size cs2 ja js.length jc la ls.length lc ga gs.length gc ka ks.length kc nn) (fun w' => RowKit.Below w10.heap.size w10 w') (by kernel_rfl) (by kernel_rfl) (by kernel_rfl) (by kernel_rfl) (psiJl29_stab w7.heap.size w5.heap.size wd.heap.size cs2 ja js.length jc la ls.length lc ga gs.length gc ka ks.length kc nn) (fun _ _ h hb => h.trans (hb.mono h.size)) (fun i9 o9 hi9 ho9 aq9 w1 hs hout hI hdep => ?_) ?_ ((Below.refl _ _).drew)
                    · skip
                      match i9, hi9, ho9 with
                      | 0, _, ho9 =>
                        obtain rfl := Option.some.inj ho9
                        refine .inl ⟨rfl, fun K hK => ?_⟩
                        exact ld_tab (.inl rfl) rfl ((hout 16 rfl).trans rfl) (HUT.out hI) (hK _ _ (Below.refl _ _) rfl)
                      | 1, _, ho9 =>
                        obtain rfl := Option.some.inj ho9
                        refine .inl ⟨rfl, fun K hK => ?_⟩
                        exact ld35 rfl ((hout 9 rfl).trans rfl) (HGT.out hI).1 (HGT.out hI).2 (hK _ _ (Below.refl _ _) rfl)
                      | 2, _, ho9 =>
                        obtain rfl := Option.some.inj ho9
                        have dq0 : (aq9.tmps.getD 133 undef) = tabV cs2 := hdep ⟨0, .data⟩ (by simp) rfl _ rfl
                        have dq1 : (aq9.tmps.getD 134 undef) = .agg #[.slice ja js.length jc, .slice la ls.length lc] := hdep ⟨1, .data⟩ (by simp) rfl _ rfl
                        refine .inl ⟨rfl, fun K hK => ?_⟩
                        exact step_calls rfl enter11 (vs := #[tabV cs2, .agg #[.slice ja js.length jc, .slice la ls.length lc]]) (vals2 dq0 dq1) ((HDF.out w1 hI).mono fun e w' hh => by
                          obtain ⟨rfl, hb⟩ := hh
                          exact ⟨_, rfl, hK _ _ hb rfl⟩)
                      | 3, _, ho9 =>
                        obtain rfl := Option.some.inj ho9
                        have dq2 : (aq9.tmps.getD 135 undef) = .int .i64 0 := hdep ⟨2, .data⟩ (by simp) rfl _ rfl
                        refine .inl ⟨rfl, fun K hK => ?_⟩
                        exact st_neq_3 rfl dq2 rfl (hK _ _ (Below.refl _ _) (congrArg Value.bool rfl))
                      | 4, _, ho9 =>
                        obtain rfl := Option.some.inj ho9
                        have dq3 : (aq9.tmps.getD 136 undef) = .bool false := hdep ⟨3, .data⟩ (by simp) rfl _ rfl
                        refine .inl ⟨rfl, fun K hK => ?_⟩
                        exact st_move rfl dq3 (hK _ _ (Below.refl _ _) rfl)
                      | 5, _, ho9 =>
                        obtain rfl := Option.some.inj ho9
                        have qg : (aq9.tmps.getD 137 undef) = .bool false := hdep ⟨4, .guard⟩ (by simp) rfl _ rfl
                        refine .inl ⟨wanted_of (j := 4) (d := 137) rfl rfl rfl (by rw [hs]; exact of_decide_eq_true (by kernel_rfl)) qg, fun K hK => ?_⟩
                        exact ld35 rfl ((hout 9 rfl).trans rfl) (HGT.out hI).1 (HGT.out hI).2 (hK _ _ (Below.refl _ _) rfl)
                      | 6, _, ho9 =>
                        obtain rfl := Option.some.inj ho9
                        have dq5 : (aq9.tmps.getD 138 undef) = .agg #[.slice ja js.length jc, .slice la ls.length lc] := hdep ⟨5, .data⟩ (by simp) rfl _ rfl
                        have qg : (aq9.tmps.getD 137 undef) = .bool false := hdep ⟨4, .guard⟩ (by simp) rfl _ rfl
                        refine .inl ⟨wanted_of (j := 4) (d := 137) rfl rfl rfl (by rw [hs]; exact of_decide_eq_true (by kernel_rfl)) qg, fun K hK => ?_⟩
                        exact step_calls rfl enter15 (vs := #[.agg #[.slice ja js.length jc, .slice la ls.length lc]]) (vals1 dq5) ((HCT.out w1 hI).mono fun e w' hh => by
                          obtain ⟨rfl, hb⟩ := hh
                          exact ⟨_, rfl, hK _ _ hb rfl⟩)
                      | 7, _, ho9 =>
                        obtain rfl := Option.some.inj ho9
                        have qg : (aq9.tmps.getD 137 undef) = .bool false := hdep ⟨4, .guard⟩ (by simp) rfl _ rfl
                        refine .inl ⟨wanted_of (j := 4) (d := 137) rfl rfl rfl (by rw [hs]; exact of_decide_eq_true (by kernel_rfl)) qg, fun K hK => ?_⟩
                        exact ld35 rfl ((hout 8 rfl).trans rfl) (HBT.out hI).1 (HBT.out hI).2 (hK _ _ (Below.refl _ _) rfl)
                      | i9 + 8, hi9, _ => exact absurd hi9 (by omega)
                    · intro a2 w11 hs hd hout hI hall
                      obtain ⟨tmps, defers⟩ := a2
                      have e_137 : (tmps.getD 137 undef) = .bool false := hall 4 _ (by decide) rfl
                      have e_139 : (tmps.getD 139 undef) = .int .i64 nn := hall 6 _ (by decide) rfl
                      have e_140 : (tmps.getD 140 undef) = .agg #[.slice ga gs.length gc, .slice ka ks.length kc] := hall 7 _ (by decide) rfl
                      simp only at hs hd hout
                      have ef := frameAt [some 133, some 134, some 135, some 136, some 137, some 138, some 139, some 140, some 141, some 142, some 143] _ tmps hs hout
                      obtain ⟨sv29, hu⟩ : ∃ u : Nat → Value, u = fun s => tmps.getD s undef := ⟨_, rfl⟩
                      have eu_137 : sv29 137 = .bool false := by rw [hu]; exact e_137
                      have eu_139 : sv29 139 = .int .i64 nn := by rw [hu]; exact e_139
                      have eu_140 : sv29 140 = .agg #[.slice ga gs.length gc, .slice ka ks.length kc] := by rw [hu]; exact e_140
                      rw [← hu] at ef
                      have ef2 : tmps = #[Value.slice ao xn cap, Value.agg #[Value.int IntKind.u8 b1, Value.int IntKind.i64 a1], Value.agg #[Value.int IntKind.u8 b2, Value.int IntKind.i64 a2], undef, Value.pointer (some { block := w.heap.size, off := 0 }), Value.pointer (some { block := w.heap.size + 1, off := 0 }), Value.bool false, Value.pointer (some { block := wa.heap.size, off := 0 }), Value.pointer (some { block := wd.heap.size, off := 0 }), Value.pointer (some { block := w5.heap.size, off := 0 }), Value.int IntKind.i64 0, Value.int IntKind.i64 i, Value.int IntKind.i64 j, Value.int IntKind.i64 k, Value.int IntKind.i64 0, Value.bool al, Value.pointer (some { block := w7.heap.size, off := 0 }), undef, Value.slice ao xn cap, tabV cs, tabV cs, Value.agg #[Value.slice ga gs.length gc, Value.slice ka ks.length kc], Value.tuple #[Value.agg #[Value.slice ja js.length jc, Value.slice la ls.length lc], Value.int IntKind.i64 0], Value.agg #[Value.slice ga gs.length gc, Value.slice ka ks.length kc], Value.agg #[Value.int IntKind.u8 b1, Value.int IntKind.i64 a1], Value.agg #[Value.int IntKind.u8 b2, Value.int IntKind.i64 a2], Value.tuple #[Value.agg #[Value.slice ja js.length jc, Value.slice la ls.length lc], Value.int IntKind.i64 0], Value.agg #[Value.slice ja js.length jc, Value.slice la ls.length lc], Value.int IntKind.i64 0, Value.int IntKind.i64 k, Value.bool false, u31, u32, u33, u34, u35, u36, u37, u38, u39, u40, u41, u42, u43, u44, Value.bool false, Value.int IntKind.i64 i, Value.bool false, Value.bool false, Value.int IntKind.i64 j, Value.bool false, Value.bool false, Value.bool false, Value.pointer (some { block := w.heap.size, off := 0 }), Value.int IntKind.u8 b1, Value.pointer (some { block := w.heap.size + 1, off := 0 }), Value.int IntKind.u8 b2, Value.bool false, Value.bool false, Value.bool false, Value.int IntKind.i64 i, Value.pointer (some { block := wa.heap.size, off := i }), Value.slice xa xl.length xc, Value.int IntKind.i64 xl.length, Value.bool false, Value.bool false, sv17 66, sv17 67, sv17 68, Value.int IntKind.i64 xl.length, sv17 70, sv17 71, sv17 72, Value.int IntKind.i64 yl.length, Value.int IntKind.i64 (xl.length + yl.length), Value.bool false, Value.int IntKind.i64 0, Value.int IntKind.i64 0, Value.bool false, Value.bool false, tabV cs, Value.agg #[Value.slice ga gs.length gc, Value.slice ka ks.length kc], Value.int IntKind.i64 0, Value.bool false, Value.bool false, Value.int IntKind.i64 0, Value.bool false, undef, undef, undef, undef, undef, undef, undef, undef, undef, undef, undef, undef, undef, Value.int IntKind.i64 j, Value.pointer (some { block := wa.heap.size, off := j }), Value.slice ya yl.length yc, Value.int IntKind.i64 yl.length, Value.bool al, u105, u106, u107, u108, u109, u110, u111, u112, u113, u114, u115, u116, u117, u118, u119, u120, u121, u122, u123, u124, u125, u126, u127, u128, u129, u130, Value.int IntKind.i64 i, Value.pointer (some { block := w7.heap.size, off := i }), (sv29 133), (sv29 134), (sv29 135), (sv29 136), (sv29 137), (sv29 138), (sv29 139), (sv29 140), (sv29 141), (sv29 142), (sv29 143), u144, u145, u146, u147, u148, u149, u150, u151, u152, u153, u154, u155, u156, u157, u158, u159, u160, u161, u162] := ef
                      subst hd
                      rw [eu_137, eu_139, eu_140] at ef2
                      rw [ef2]
                      clear ef ef2 hu hs hout hall e_137 eu_137 e_139 eu_139 e_140 eu_140
                      simp only [List.drop_succ_cons, List.drop_zero]
                      have hB11 : RowKit.Below w.heap.size w w11 := hB10.trans (hI.mono hB10.size)
                      have HBN11 := Lib.hid (HBN10.out.below hI HBN10.out.lt)
                      have HBM11 := Lib.hid (HBM10.out.below hI HBM10.out.lt)
                      have HBB11 := Lib.hid (HBB10.out.below hI HBB10.out.lt)
                      have HG11 := Lib.hid (HG10.out.below hI HG10.out.lt)
                      have HD11 := Lib.hid (HD10.out.onw hI)
                      have HE11 := Lib.hid (HE10.out.onw hI)
                      clear HBN10 HBM10 HT10 HBB10 HG10 HU10 HOK10 HD10 HE10 hB10 HUT HGT HBT HDF HCT hI
                      have hst := HJO.out.back HTO.out.len
                      rw [← HT8.out] at hst
                      have HJB := Lib.hid (hst.err)
                      obtain ⟨T7, hT7⟩ : ∃ T, T = joinT T8 b2 a2 b1 a1 := ⟨_, rfl⟩
                      have HT7 := Lib.hid hT7
                      have tkC : True := trivial
                      have tkS : True := trivial
                      clear hst hT7
                      have n0 := HBN11.out.cell0
                      have n1 := HBN11.out.cell1
                      have m0 := HBM11.out.cell0
                      have m1 := HBM11.out.cell1
                      have bb0 := HBB11.out.cell0
                      have bb1 := HBB11.out.cell1
                      have gg0 := HG11.out.cell0
                      have gg1 := HG11.out.cell1
                      cases al
                      · go_wp2_with (first
                          | (go_at_call 15; clear tkC; refine (count_any ⟨⟨ga, gs, gc⟩, ⟨ka, ks, kc⟩⟩ w11.heap.size w11 (Nat.le_refl _) HD11.out).mono ?_; rw [HNN9.out]; rintro e w12 ⟨rfl, hb12⟩; clear n0 n1 m0 m1 bb0 bb1 gg0 gg1; have HBN12 := Lib.hid (HBN11.out.below hb12 HBN11.out.lt); have HBM12 := Lib.hid (HBM11.out.below hb12 HBM11.out.lt); have HBB12 := Lib.hid (HBB11.out.below hb12 HBB11.out.lt); have HG12 := Lib.hid (HG11.out.below hb12 HG11.out.lt); have HD12 := Lib.hid (HD11.out.onw hb12); have HE12 := Lib.hid (HE11.out.onw hb12); have hB12 : RowKit.Below w.heap.size w w12 := hB11.trans (hb12.mono hB11.size); clear HBN11 HBM11 HBB11 HG11 HD11 HE11 hB11; have n0 := HBN12.out.cell0; have n1 := HBN12.out.cell1; have m0 := HBM12.out.cell0; have m1 := HBM12.out.cell1; have bb0 := HBB12.out.cell0; have bb1 := HBB12.out.cell1; have gg0 := HG12.out.cell0; have gg1 := HG12.out.cell1)
                          | (go_at_call 19; refine (join_any ⟨⟨ja, js, jc⟩, ⟨la, ls, lc⟩⟩ T8 b2 a2 b1 a1 HG2.out.1 HG1.out.1 w12.heap.size w12 (Nat.le_refl _) HE12.out HRE.out.1 HTO8.out).mono ?_; intro e w13 hch; have hch := hch.done HJB.out; rw [← HT7.out] at hch; obtain ⟨⟨⟨pa, ps, pc⟩, ⟨qa, qs, qc⟩⟩, rfl, hbd, hb13⟩ := hch; simp only [Bds.v, Bed.v]; clear n0 n1 m0 m1 bb0 bb1 gg0 gg1; have h2 := hb13.trans ((below1 w13 (.cells #[.slice pa ps.length pc, .slice qa qs.length qc] 35)).mono hb13.size); have HB13 := Lib.hid (HBB12.out.below h2 HBB12.out.lt); have HF13 := Lib.hid (Boxed2.new w13 35 (.slice pa ps.length pc) (.slice qa qs.length qc)); have HD13 := Lib.hid (HD12.out.onw h2); have HFO : Hid (Bds.ok _ _ ⟨⟨pa, ps, pc⟩, ⟨qa, qs, qc⟩⟩) := Lib.hid (hbd.out.2.2.1.onw (below1 w13 (.cells #[.slice pa ps.length pc, .slice qa qs.length qc] 35))); have HRF := Lib.hid hbd.out.1; have hB13 := hB12.trans (h2.mono hB12.size); have bb0 := HB13.out.cell0; have bb1 := HB13.out.cell1; have ff0 := HF13.out.cell0; have ff1 := HF13.out.cell1; clear hbd hb13 h2)
                          | (go_at_call 16; refine (lives_any _).mono ?_; rintro e w16 ⟨rfl, hb16⟩; have hBF := hB13.trans (hb16.mono hB13.size)))
                        go_ret
                        exact ⟨rfl, hBF⟩
                      · have HSB : Hid (decide (T7 = T9) = true) := Lib.hid (decide_eq_true (by
                          rw [HT7.out, HT8.out]
                          refine HJO.out.alone HTO.out.len ?_
                          rw [HLy.out]
                          have := HAL.out
                          simpa using this))
                        go_wp2_with (first
                          | (go_at_call 15; clear tkC; refine (count_any ⟨⟨ga, gs, gc⟩, ⟨ka, ks, kc⟩⟩ w11.heap.size w11 (Nat.le_refl _) HD11.out).mono ?_; rw [HNN9.out]; rintro e w12 ⟨rfl, hb12⟩; clear n0 n1 m0 m1 bb0 bb1 gg0 gg1; have HBN12 := Lib.hid (HBN11.out.below hb12 HBN11.out.lt); have HBM12 := Lib.hid (HBM11.out.below hb12 HBM11.out.lt); have HBB12 := Lib.hid (HBB11.out.below hb12 HBB11.out.lt); have HG12 := Lib.hid (HG11.out.below hb12 HG11.out.lt); have HD12 := Lib.hid (HD11.out.onw hb12); have HE12 := Lib.hid (HE11.out.onw hb12); have hB12 : RowKit.Below w.heap.size w w12 := hB11.trans (hb12.mono hB11.size); clear HBN11 HBM11 HBB11 HG11 HD11 HE11 hB11; have n0 := HBN12.out.cell0; have n1 := HBN12.out.cell1; have m0 := HBM12.out.cell0; have m1 := HBM12.out.cell1; have bb0 := HBB12.out.cell0; have bb1 := HBB12.out.cell1; have gg0 := HG12.out.cell0; have gg1 := HG12.out.cell1)
                          | (go_at_call 19; refine (join_any ⟨⟨ja, js, jc⟩, ⟨la, ls, lc⟩⟩ T8 b2 a2 b1 a1 HG2.out.1 HG1.out.1 w12.heap.size w12 (Nat.le_refl _) HE12.out HRE.out.1 HTO8.out).mono ?_; intro e w13 hch; have hch := hch.done HJB.out; rw [← HT7.out] at hch; obtain ⟨⟨⟨pa, ps, pc⟩, ⟨qa, qs, qc⟩⟩, rfl, hbd, hb13⟩ := hch; simp only [Bds.v, Bed.v]; clear n0 n1 m0 m1 bb0 bb1 gg0 gg1; have h2 := hb13.trans ((below1 w13 (.cells #[.slice pa ps.length pc, .slice qa qs.length qc] 35)).mono hb13.size); have HB13 := Lib.hid (HBB12.out.below h2 HBB12.out.lt); have HF13 := Lib.hid (Boxed2.new w13 35 (.slice pa ps.length pc) (.slice qa qs.length qc)); have HD13 := Lib.hid (HD12.out.onw h2); have HFO : Hid (Bds.ok _ _ ⟨⟨pa, ps, pc⟩, ⟨qa, qs, qc⟩⟩) := Lib.hid (hbd.out.2.2.1.onw (below1 w13 (.cells #[.slice pa ps.length pc, .slice qa qs.length qc] 35))); have HRF := Lib.hid hbd.out.1; have hB13 := hB12.trans (h2.mono hB12.size); have bb0 := HB13.out.cell0; have bb1 := HB13.out.cell1; have ff0 := HF13.out.cell0; have ff1 := HF13.out.cell1; clear hbd hb13 h2)
                          | (go_at_call 18; clear tkS; refine (same_beds ⟨⟨pa, ps, pc⟩, ⟨qa, qs, qc⟩⟩ ⟨⟨ga, gs, gc⟩, ⟨ka, ks, kc⟩⟩ T7 T9 _ _ (Nat.le_refl _) HFO.out HD13.out HRF.out.zero HRD.out.zero).mono ?_; rw [HSB.out]; rintro e w15 ⟨rfl, hb15⟩; have hB15 := hB13.trans (hb15.mono hB13.size))
                          | (go_at_call 16; refine (lives_any _).mono ?_; rintro e w16 ⟨rfl, hb16⟩; have hBF := hB15.trans (hb16.mono hB15.size)))
                        go_ret
                        exact ⟨rfl, hBF⟩
end Go.Proofs.Ytlhgigmpebgjbaa
