import Derived.Test.YtlhgigmpebgjbaaSeX
namespace Go.Proofs.Ytlhgigmpebgjbaa
open Go.RowKit Go.Sort
def psiSl11 (BB : Nat) (k : Nat) (k1 : Nat) (i1 : Nat) (nb : Int) (na : Int) : Nat → Value → World → Prop
  | 0, v9, _ => v9 = .int .i64 k
  | 1, v9, _ => v9 = .int .u8 k
  | 2, v9, _ => v9 = .agg #[.int .u8 k1, .int .i64 ((i1 : Int) + 1)]
  | 3, v9, _ => v9 = .agg #[.int .u8 nb, .int .i64 na]
  | _, _, _ => True
theorem psiSl11_stab (BB : Nat) (k : Nat) (k1 : Nat) (i1 : Nat) (nb : Int) (na : Int) (i9 : Nat) (v9 : Value) (w9 w9' : World) (h : psiSl11 BB k k1 i1 nb na i9 v9 w9) (_hb : Below w9.heap.size w9 w9') : psiSl11 BB k k1 i1 nb na i9 v9 w9' := by
  match i9, h with
  | 0, h => exact h
  | 1, h => exact h
  | 2, h => exact h
  | 3, h => exact h
  | i9 + 4, _ => exact trivial
def psiSl28 (lb : Nat) (lof : Nat) (ln : Nat) (lc : Nat) (q : Nat) (kx : Nat) (ry : Int) (rn : Int) (py : Int) (pn : Int) : Nat → Value → World → Prop
  | 0, v9, _ => v9 = .slice (some ⟨lb, lof, none⟩) ln lc
  | 1, v9, _ => v9 = .int .i64 q
  | 2, v9, _ => v9 = .pointer (some ⟨lb, lof + q * 2, none⟩)
  | 3, v9, _ => v9 = .agg #[.int .u8 ry, .int .i64 rn]
  | 4, v9, _ => v9 = .slice (some ⟨lb, lof, none⟩) ln lc
  | 5, v9, _ => v9 = .int .i64 kx
  | 6, v9, _ => v9 = .pointer (some ⟨lb, lof + kx * 2, none⟩)
  | 7, v9, _ => v9 = .agg #[.int .u8 py, .int .i64 pn]
  | _, _, _ => True
theorem psiSl28_stab (lb : Nat) (lof : Nat) (ln : Nat) (lc : Nat) (q : Nat) (kx : Nat) (ry : Int) (rn : Int) (py : Int) (pn : Int) (i9 : Nat) (v9 : Value) (w9 w9' : World) (h : psiSl28 lb lof ln lc q kx ry rn py pn i9 v9 w9) (_hb : Below w9.heap.size w9 w9') : psiSl28 lb lof ln lc q kx ry rn py pn i9 v9 w9' := by
  match i9, h with
  | 0, h => exact h
  | 1, h => exact h
  | 2, h => exact h
  | 3, h => exact h
  | 4, h => exact h
  | 5, h => exact h
  | 6, h => exact h
  | 7, h => exact h
  | i9 + 8, _ => exact trivial
def psiSl36 (lb : Nat) (lof : Nat) (ln : Nat) (lc : Nat) (B7 : Nat) (jx : Nat) (mx : Nat) (kx : Nat) (xb : Nat) (xo : Nat) (xn : Nat) (xc : Nat) (ry : Int) (rn : Int) (py : Int) (pn : Int) : Nat → Value → World → Prop
  | 0, v9, _ => v9 = .int .i64 jx
  | 1, v9, _ => v9 = .pointer (some ⟨B7, jx, none⟩)
  | 2, v9, _ => v9 = .slice (some ⟨xb, xo, none⟩) xn xc
  | 3, v9, _ => v9 = .int .i64 mx
  | 4, v9, _ => v9 = .pointer (some ⟨xb, xo + mx * 2, none⟩)
  | 5, v9, _ => v9 = .agg #[.int .u8 ry, .int .i64 rn]
  | 6, v9, _ => v9 = .slice (some ⟨lb, lof, none⟩) ln lc
  | 7, v9, _ => v9 = .int .i64 kx
  | 8, v9, _ => v9 = .pointer (some ⟨lb, lof + kx * 2, none⟩)
  | 9, v9, _ => v9 = .agg #[.int .u8 py, .int .i64 pn]
  | _, _, _ => True
theorem psiSl36_stab (lb : Nat) (lof : Nat) (ln : Nat) (lc : Nat) (B7 : Nat) (jx : Nat) (mx : Nat) (kx : Nat) (xb : Nat) (xo : Nat) (xn : Nat) (xc : Nat) (ry : Int) (rn : Int) (py : Int) (pn : Int) (i9 : Nat) (v9 : Value) (w9 w9' : World) (h : psiSl36 lb lof ln lc B7 jx mx kx xb xo xn xc ry rn py pn i9 v9 w9) (_hb : Below w9.heap.size w9 w9') : psiSl36 lb lof ln lc B7 jx mx kx xb xo xn xc ry rn py pn i9 v9 w9' := by
  match i9, h with
  | 0, h => exact h
  | 1, h => exact h
  | 2, h => exact h
  | 3, h => exact h
  | 4, h => exact h
  | 5, h => exact h
  | 6, h => exact h
  | 7, h => exact h
  | 8, h => exact h
  | 9, h => exact h
  | i9 + 10, _ => exact trivial
def psiSl45 (N : Nat) (PG : Nat) (PN : Nat) (ja : Option Addr) (jn : Nat) (jc : Nat) (la : Option Addr) (ln : Nat) (lc2 : Nat) (nb : Int) (na : Int) (ls : List Nm) : Nat → Array Bool → Value → World → Prop
  | 0, _, v9, _ => v9 = .agg #[.slice ja jn jc, .slice la ln lc2]
  | 1, _, v9, _ => v9 = .agg #[.int .u8 nb, .int .i64 na]
  | 2, _, v9, _ => v9 = .agg #[.slice ja jn jc, .slice la ln lc2]
  | 3, _, v9, _ => v9 = .agg #[.int .u8 nb, .int .i64 na]
  | 4, L9, v9, w9 => L9.getD 10 false = false → ∃ c4 : Cel, v9 = c4.v ∧ c4.l = ls ∧ c4.ok w9.heap.size w9
  | 5, L9, v9, _ => L9.getD 5 false = true ∧ ∃ V : Value, v9 = .tuple #[V, .int .i64 0]
  | 6, L9, v9, _ => L9.getD 6 false = true ∧ ∃ V : Value, v9 = .tuple #[V, .int .i64 0]
  | 7, L9, _, _ => L9.getD 7 false = true
  | 8, _, v9, _ => v9 = .int .i64 0
  | 9, L9, _, _ => L9.getD 9 false = true
  | _, _, _, _ => True
theorem psiSl45_stab (N : Nat) (PG : Nat) (PN : Nat) (ja : Option Addr) (jn : Nat) (jc : Nat) (la : Option Addr) (ln : Nat) (lc2 : Nat) (nb : Int) (na : Int) (ls : List Nm) (N9 : Nat) (i9 : Nat) (L9 : Array Bool) (hL : i9 < L9.size) (j9 : Nat) (v9 : Value) (w9 w9' : World) (hne : j9 ≠ i9) (h : psiSl45 N PG PN ja jn jc la ln lc2 nb na ls j9 L9 v9 w9) (hb : w9' = w9 ∨ RAp N9 10 i9 w9 w9') : psiSl45 N PG PN ja jn jc la ln lc2 nb na ls j9 (L9.setIfInBounds i9 true) v9 w9' := by
  have hB : i9 ≠ 10 → Below w9.heap.size w9 w9' := fun hi => by
    rcases hb with rfl | hb
    · exact Below.refl _ _
    · unfold RAp at hb; rw [if_neg hi] at hb; exact hb
  have hV : i9 = 10 → (L9.setIfInBounds i9 true).getD 10 false = true := fun hi => by subst hi; simp [hL]
  have hF : i9 ≠ 10 → (L9.setIfInBounds i9 true).getD 10 false = L9.getD 10 false := fun hi => Go.getD_set_ne false hi
  match j9, h, hne with
  | 0, h, _ => exact h
  | 1, h, _ => exact h
  | 2, h, _ => exact h
  | 3, h, _ => exact h
  | 4, h, _ =>
    intro hL2
    by_cases hi : i9 = 10
    · rw [hV hi] at hL2; cases hL2
    · have hb := hB hi
      rw [hF hi] at hL2
      have h := h hL2
      obtain ⟨c4, h1, h2, h3⟩ := h; exact ⟨c4, h1, h2, (h3.below hb).mono hb.size⟩
  | 5, h, hne =>
    exact ⟨by rw [Go.getD_set_ne false (fun e => hne e.symm)]; exact h.1, h.2⟩
  | 6, h, hne =>
    exact ⟨by rw [Go.getD_set_ne false (fun e => hne e.symm)]; exact h.1, h.2⟩
  | 7, h, hne =>
    show (L9.setIfInBounds i9 true).getD 7 false = true; rw [Go.getD_set_ne false (fun e => hne e.symm)]; exact h
  | 8, h, _ => exact h
  | 9, h, hne =>
    show (L9.setIfInBounds i9 true).getD 9 false = true; rw [Go.getD_set_ne false (fun e => hne e.symm)]; exact h
  | 10, h, _ => exact h
  | j9 + 11, _, _ => exact trivial
set_option maxRecDepth 100000 in
theorem set_long (ao : Option Addr) (n cap : Nat) (nb na : Int) (lo : Option Addr) (ln lc : Nat) (w : World) (h : 6 < ln) :
    Calls Try.prog 4 #[.slice ao n cap, .agg #[.int .u8 nb, .int .i64 na], .slice lo ln lc] w fun e w' => e = .returned (.bool true) ∧ Below w.heap.size w w' := by
  have g1 : (6 : Int) < ln := by omega
  go_enter Try.func4, Try.ntmps4
  go_wp2_with (go_at_call 16; refine (lives_any _).mono ?_; rintro e w8 ⟨rfl, hb⟩)
  go_ret
  exact ⟨rfl, (below1 w _).trans (hb.mono (by simp))⟩
set_option maxRecDepth 100000 in
set_option maxHeartbeats 8000000 in
theorem set_core (ao : Option Addr) (xs : List (Nat × Nat)) (cap : Nat) (nb na : Int) (hnb : 0 ≤ nb ∧ nb ≤ 255) (lo : Option Addr) (ls : List Nm) (lc : Nat) (w : World) (hlc : Cel.ok w.heap.size w ⟨lo, ls, lc⟩) (h6 : ls.length ≤ 6) (h : LieP w ao xs) :
    Calls Try.prog 4 #[.slice ao xs.length cap, .agg #[.int .u8 nb, .int .i64 na], .slice lo ls.length lc] w fun e w' => e = .returned (.bool true) ∧ Below w.heap.size w w' := by
  have HL := Lib.hid h
  have HCL := Lib.hid hlc
  clear h hlc
  obtain ⟨T9, hT9⟩ : ∃ T9, T9 = ofM xs := ⟨_, rfl⟩
  have HTO : Hid (TOk T9) := Lib.hid (by rw [hT9]; exact ofM_ok _)
  have HT9 := Lib.hid hT9
  clear hT9
  obtain ⟨xn, hN⟩ : ∃ N, N = xs.length := ⟨_, rfl⟩
  rw [← hN]
  have HN := Lib.hid hN
  clear hN
  obtain ⟨er, her⟩ : ∃ e, e = setErr T9 nb na ls := ⟨_, rfl⟩
  have HER := Lib.hid her
  have HG1 := Lib.hid hnb
  clear her hnb
  have g6 : ¬ ((6 : Int) < (ls.length : Int)) := by omega
  go_enter Try.func4, Try.ntmps4
  go_upto_region 3 with fail
  clear g6
  obtain ⟨W0, hW0⟩ : ∃ W, w.alloc (.cells #[.int .u8 nb, .int .i64 na] 26) = W := ⟨_, rfl⟩
  have hB0 : RowKit.Below w.heap.size w W0 := by rw [← hW0]; exact below1 _ _
  have HBN0 : Hid (Boxed2 W0 w.heap.size 26 (.int .u8 nb) (.int .i64 na)) := Lib.hid (by rw [← hW0]; exact Boxed2.new w 26 _ _)
  have HOF : Hid (Calls Try.prog 8 #[.slice ao xn cap] W0 (NewFul T9 W0)) := Lib.hid (by
    rw [HN.out, HT9.out]; exact of_any ao xs cap W0 (HL.out.below hB0))
  rw [hW0]
  clear hW0 HT9 HN HL
  have hz := zero31
  have tkO : True := trivial
  have tkS : True := trivial
  have tkL : True := trivial
  have tkB : True := trivial
  go_upto_region 5 with (first
    | (go_at_call 8; clear tkO; refine HOF.out.mono ?_; rintro e wa ⟨cs, rfl, hcs, hb1⟩; clear HOF; have hB1 : RowKit.Below w.heap.size w wa := hB0.trans (hb1.mono hB0.size); have HBN1 := Lib.hid (HBN0.out.below hb1 HBN0.out.lt); clear hB0 hb1 HBN0)
    | (clear tkS; refine wpList_store_tab rfl rfl (.inl rfl) _ _ rfl rfl rfl (tab_new wa 31) hcs.out.1 ?_; intro wb hs2; clear hz; have HT2 := Lib.hid hs2.tab; have hB2 : RowKit.Below w.heap.size w wb := (hB1.alloc hB1.size _).grown hs2.grown (by have := hB1.size; simp; omega) (fun r e => by cases e; exact hB1.size); have HBN2 := Lib.hid ((HBN1.out.alloc (.cells zA 31)).kept hs2.grown (by have := HBN1.out.lt; simp; omega)); have HOK2 : Hid (∀ c ∈ cs, c.ok wb.heap.size wb) := Lib.hid (fun c hc => Cel.ok.grown_tab (((hcs.out.2.2 c hc).below (below1 wa (.cells zA 31))).mono (below1 wa (.cells zA 31)).size) (tab_new wa 31) hs2.grown); have HLC : Hid (cs.length = 80 ∧ cs.map (fun c => c.l) = T9) := Lib.hid ⟨hcs.out.1, hcs.out.2.1⟩; have HP2 : Hid (w.heap.size < wa.heap.size ∧ wa.heap.size < wb.heap.size) := Lib.hid ⟨HBN1.out.lt, HT2.out.lt⟩; clear hs2 hcs hB1 HBN1)
    | (clear tkL; refine wpList_load_tab rfl (.inl rfl) _ rfl rfl HT2.out ?_)
    | (go_at_call 9; clear tkB; refine (beds_any cs wb HLC.out.1 HOK2.out).mono ?_; rw [HLC.out.2]; rintro e wd ⟨⟨⟨ga, gs, gc⟩, ⟨ka, ks, kc⟩⟩, rfl, hbd, hb3⟩; simp only [Bds.v, Bed.v]))
  have hB3 : RowKit.Below w.heap.size w wd := hB2.trans (hb3.mono hB2.size)
  obtain ⟨w4, hw4⟩ : ∃ W, wd.alloc (.cells #[.slice ga gs.length gc, .slice ka ks.length kc] 35) = W := ⟨_, rfl⟩
  have h34 : RowKit.Below wd.heap.size wd w4 := by rw [← hw4]; exact below1 _ _
  have h24 : RowKit.Below wb.heap.size wb w4 := hb3.trans (h34.mono hb3.size)
  have hB4 : RowKit.Below w.heap.size w w4 := hB2.trans (h24.mono hB2.size)
  have HBN4 := Lib.hid (HBN2.out.below h24 HBN2.out.lt)
  have HT4 := Lib.hid (HT2.out.below h24 HT2.out.lt)
  have HOK4 : Hid (∀ c ∈ cs, c.ok w4.heap.size w4) := Lib.hid (fun c hc => ((HOK2.out c hc).below h24).mono h24.size)
  have HBB4 : Hid (Boxed2 w4 wd.heap.size 35 (.slice ga gs.length gc) (.slice ka ks.length kc)) := Lib.hid (by rw [← hw4]; exact Boxed2.new _ _ _ _)
  have HD4 : Hid (Bds.ok w4.heap.size w4 ⟨⟨ga, gs, gc⟩, ⟨ka, ks, kc⟩⟩) := Lib.hid (hbd.out.2.2.1.onw h34)
  have HRD : Hid (Reads T9 ⟨⟨ga, gs, gc⟩, ⟨ka, ks, kc⟩⟩) := Lib.hid hbd.out.1
  have HTI : Hid (Tight ⟨⟨ga, gs, gc⟩, ⟨ka, ks, kc⟩⟩) := Lib.hid hbd.out.2.1
  have HP4 : Hid (w.heap.size < wa.heap.size ∧ wa.heap.size < wd.heap.size ∧ wd.heap.size < w4.heap.size) := Lib.hid ⟨HP2.out.1, Nat.lt_of_lt_of_le HP2.out.2 hb3.size, HBB4.out.lt⟩
  rw [hw4]
  clear hw4 hbd h34 h24 hB3 hb3 hB2 HT2 HOK2 HP2 HBN2
  have bb0 := HBB4.out.cell0
  have bb1 := HBB4.out.cell1
  have n0 := HBN4.out.cell0
  have n1 := HBN4.out.cell1
  have HCL4 : Hid (Cel.ok w4.heap.size w4 ⟨lo, ls, lc⟩) := Lib.hid ((HCL.out.below hB4).mono hB4.size)
  have HJN := Lib.hid (set_any ⟨⟨ga, gs, gc⟩, ⟨ka, ks, kc⟩⟩ T9 nb na HG1.out.1 ⟨lo, ls, lc⟩ w4.heap.size w4 (Nat.le_refl _) HD4.out HRD.out HTO.out HCL4.out)
  simp only at HJN
  rw [← HER.out] at HJN
  go_wp2_with (go_at_call 17; refine HJN.out.mono ?_; intro e w5 hch; obtain ⟨⟨⟨ja, js, jc⟩, ⟨la, ls2, lc2⟩⟩, rfl, hjd, hb5⟩ := hch.both2; simp only [Bds.v, Bed.v])
  obtain ⟨w6, hw6⟩ : ∃ W, w5.alloc (.cells #[.slice ja js.length jc, .slice la ls2.length lc2] 35) = W := ⟨_, rfl⟩
  have h56 : RowKit.Below w5.heap.size w5 w6 := by rw [← hw6]; exact below1 _ _
  have h46 : RowKit.Below w4.heap.size w4 w6 := hb5.trans (h56.mono hb5.size)
  have HG6 : Hid (Boxed2 w6 w5.heap.size 35 (.slice ja js.length jc) (.slice la ls2.length lc2)) := Lib.hid (by rw [← hw6]; exact Boxed2.new _ _ _ _)
  have HE6 : Hid (Bds.ok w6.heap.size w6 ⟨⟨ja, js, jc⟩, ⟨la, ls2, lc2⟩⟩) := Lib.hid (hjd.out.2.2.1.onw h56)
  have HBN6 := Lib.hid (HBN4.out.below h46 HBN4.out.lt)
  have HT6 := Lib.hid (HT4.out.below h46 HT4.out.lt)
  have HBB6 := Lib.hid (HBB4.out.below h46 HBB4.out.lt)
  have HOK6 : Hid (∀ c ∈ cs, c.ok w6.heap.size w6) := Lib.hid (fun c hc => ((HOK4.out c hc).below h46).mono h46.size)
  have HD6 := Lib.hid (HD4.out.onw h46)
  have hB6 : RowKit.Below w.heap.size w w6 := hB4.trans (h46.mono hB4.size)
  have HJD : Hid ((er ≠ 0 → ⟨⟨ja, js, jc⟩, ⟨la, ls2, lc2⟩⟩ = noBds) ∧ (er = 0 → Reads (setT T9 nb na ls) ⟨⟨ja, js, jc⟩, ⟨la, ls2, lc2⟩⟩ ∧ Tight ⟨⟨ja, js, jc⟩, ⟨la, ls2, lc2⟩⟩)) := Lib.hid ⟨hjd.out.1, hjd.out.2.1⟩
  have HPQ : Hid (w.heap.size < wa.heap.size ∧ wa.heap.size < wd.heap.size ∧ wd.heap.size < w5.heap.size) := Lib.hid ⟨HP4.out.1, HP4.out.2.1, Nat.lt_of_lt_of_le HP4.out.2.2 hb5.size⟩
  have HROW : Hid ((∀ b o, ja = some ⟨b, o, none⟩ → wd.heap.size < b) ∧ (∀ b o, la = some ⟨b, o, none⟩ → wd.heap.size < b)) := Lib.hid ⟨fun b o e => by have := hjd.out.2.2.2.1 b o e; have := HP4.out; omega, fun b o e => by have := hjd.out.2.2.2.2 b o e; have := HP4.out; omega⟩
  rw [hw6]
  clear hw6 h56 h46 hb5 hjd HJN HP4 bb0 bb1 n0 n1 HBN4 HT4 HBB4 HOK4 HD4 hB4 HCL4
  go_wp2_with fail
  go_loopg [12, 13] 81 (fun g s12 i wr => ∃ k : Nat, g = 81 - k ∧ k ≤ 80 ∧ s12 = .int .i64 (atv nb na k) ∧ i = .int .i64 k ∧ RowKit.Below w6.heap.size w6 wr)
  case atStart => exact ⟨0, by omega, by omega, by rw [atv_zero], rfl, Below.refl _ _⟩
  case round =>
    obtain ⟨k, hg, hk, rfl, rfl, hBr⟩ := hrel
    have HM := Lib.hid hg
    clear hg
    obtain ⟨s2, hs2⟩ : ∃ s, s = atv nb na k := ⟨_, rfl⟩
    rw [← hs2]
    have HS2 := Lib.hid hs2
    clear hs2
    by_cases hlt : k < 80
    · have gk0 : (k : Int) < 80 := by omega
      obtain ⟨k1, hk1⟩ : ∃ q : Nat, q = k / 40 := ⟨_, rfl⟩
      obtain ⟨i1, hi1⟩ : ∃ q : Nat, q = k % 40 := ⟨_, rfl⟩
      have HND : Hid (Value.agg #[.int .u8 ((k / 40 : Nat) : Int), .int .i64 ((k % 40 : Nat) + 1 : Int)] = .agg #[.int .u8 k1, .int .i64 ((i1 : Int) + 1)]) := Lib.hid (by rw [hk1, hi1])
      have HU : Hid (IntKind.u8.wrap (k : Int) = (k : Int)) := Lib.hid (IntWalk.u8_in _ (by omega))
      have HK80 : Hid (k < 80) := Lib.hid hlt
      have HY2 : Hid (∀ r, sameNm (k1 : Int) ((i1 : Int) + 1) nb na = r → atv nb na (k + 1) = if r = true then (k : Int) else s2) := Lib.hid fun r hr => by
        rw [hk1, hi1] at hr
        cases r
        · rw [atv_no HG1.out.1 hlt hr, HS2.out]; rfl
        · rw [atv_yes HG1.out.1 hlt hr]; rfl
      have HCB : Hid (∀ {W : World}, RowKit.Below wr.heap.size wr W → W.cell? ⟨w.heap.size, 0, none⟩ = some (.int .u8 nb) ∧ W.cell? ⟨w.heap.size, 0 + 1, none⟩ = some (.int .i64 na)) := Lib.hid fun h => by
        have h1 := HBN6.out.below (hBr.trans (h.mono hBr.size)) HBN6.out.lt
        exact ⟨h1.cell0, h1.cell1⟩
      clear hk1 hi1
      go_wp2_with fail
      refine rgT2 4 [some 39, some 40, some 41, some 42, some 43] (psiSl11 w.heap.size k k1 i1 nb na) (fun w' => RowKit.Below wr.heap.size wr w') (by kernel_rfl) (by kernel_rfl) (by kernel_rfl) (by kernel_rfl) (psiSl11_stab w.heap.size k k1 i1 nb na) (fun _ _ h hb => h.trans (hb.mono h.size)) (fun i9 o9 hi9 ho9 aq9 w1 hs hout hI hdep => ?_) ?_ ((Below.refl _ _).drew)
      · skip
        match i9, hi9, ho9 with
        | 0, _, ho9 =>
          obtain rfl := Option.some.inj ho9
          refine .inl ⟨rfl, fun K hK => ?_⟩
          exact st_move rfl ((hout 13 rfl).trans rfl) (hK _ _ (Below.refl _ _) rfl)
        | 1, _, ho9 =>
          obtain rfl := Option.some.inj ho9
          have dq0 : (aq9.tmps.getD 39 undef) = .int .i64 k := hdep ⟨0, .data⟩ (by simp) rfl _ rfl
          refine .inl ⟨rfl, fun K hK => ?_⟩
          exact st_conv35 rfl dq0 HU.out (hK _ _ (Below.refl _ _) rfl)
        | 2, _, ho9 =>
          obtain rfl := Option.some.inj ho9
          have dq1 : (aq9.tmps.getD 40 undef) = .int .u8 k := hdep ⟨1, .data⟩ (by simp) rfl _ rfl
          refine .inl ⟨rfl, fun K hK => ?_⟩
          exact step_calls rfl enter13 (vs := #[.int .u8 k]) (vals1 dq1) ((needle_any k w1 HK80.out).mono fun e w' hh => by
            obtain ⟨rfl, hb⟩ := hh
            exact ⟨_, rfl, hK _ _ hb HND.out⟩)
        | 3, _, ho9 =>
          obtain rfl := Option.some.inj ho9
          refine .inl ⟨rfl, fun K hK => ?_⟩
          exact ld26 rfl ((hout 4 rfl).trans rfl) (HCB.out hI).1 (HCB.out hI).2 (hK _ _ (Below.refl _ _) rfl)
        | i9 + 4, hi9, _ => exact absurd hi9 (by omega)
      · intro a2 wz hs hd hout hI hall
        obtain ⟨tmps, defers⟩ := a2
        have e_41 : (tmps.getD 41 undef) = .agg #[.int .u8 k1, .int .i64 ((i1 : Int) + 1)] := hall 2 _ (by decide) rfl
        have e_42 : (tmps.getD 42 undef) = .agg #[.int .u8 nb, .int .i64 na] := hall 3 _ (by decide) rfl
        simp only at hs hd hout
        have ef := frameAt [some 39, some 40, some 41, some 42, some 43] _ tmps hs hout
        obtain ⟨sv11, hu⟩ : ∃ u : Nat → Value, u = fun s => tmps.getD s undef := ⟨_, rfl⟩
        have eu_41 : sv11 41 = .agg #[.int .u8 k1, .int .i64 ((i1 : Int) + 1)] := by rw [hu]; exact e_41
        have eu_42 : sv11 42 = .agg #[.int .u8 nb, .int .i64 na] := by rw [hu]; exact e_42
        rw [← hu] at ef
        have ef2 : tmps = #[Value.slice ao xn cap, Value.agg #[Value.int IntKind.u8 nb, Value.int IntKind.i64 na], Value.slice lo ls.length lc, undef, Value.pointer (some { block := w.heap.size, off := 0 }), undef, Value.bool false, Value.pointer (some { block := wa.heap.size, off := 0 }), Value.pointer (some { block := wd.heap.size, off := 0 }), Value.pointer (some { block := w5.heap.size, off := 0 }), Value.int IntKind.i64 er, Value.int IntKind.i64 0, Value.int IntKind.i64 s2, Value.int IntKind.i64 k, undef, undef, undef, undef, undef, undef, Value.slice lo ls.length lc, Value.int IntKind.i64 ls.length, Value.bool false, undef, Value.slice ao xn cap, tabV cs, tabV cs, Value.agg #[Value.slice ga gs.length gc, Value.slice ka ks.length kc], Value.tuple #[Value.agg #[Value.slice ja js.length jc, Value.slice la ls2.length lc2], Value.int IntKind.i64 er], Value.agg #[Value.slice ga gs.length gc, Value.slice ka ks.length kc], Value.agg #[Value.int IntKind.u8 nb, Value.int IntKind.i64 na], Value.slice lo ls.length lc, Value.tuple #[Value.agg #[Value.slice ja js.length jc, Value.slice la ls2.length lc2], Value.int IntKind.i64 er], Value.agg #[Value.slice ja js.length jc, Value.slice la ls2.length lc2], Value.int IntKind.i64 er, Value.int IntKind.i64 k, Value.bool true, u37, u38, (sv11 39), (sv11 40), (sv11 41), (sv11 42), (sv11 43), u44, undef, undef, undef, undef, undef, undef, undef, undef, undef, undef, undef, undef, undef, undef, undef, undef, undef, undef, undef, undef, undef, undef, undef, undef, undef, undef, undef, undef, undef, undef, undef, undef, undef, undef, undef, undef, undef, undef, undef, undef, undef, undef, undef, undef, undef, undef, undef, undef, undef, undef, undef, undef, undef, undef, undef, undef, undef, undef, undef, undef, undef, undef, undef, undef, undef, undef, undef, undef, undef, undef, undef, undef, undef, undef, undef, undef, undef, undef, undef, undef, undef, undef, undef, undef, undef, undef, undef, undef, undef, undef, undef, undef, undef, undef, undef, undef, undef, undef, undef, undef, undef, undef, undef, undef, undef, undef, undef, undef, undef, undef, undef, undef, undef, undef, undef, undef, undef, undef, undef, undef, undef, undef, undef, undef, undef, undef, undef, undef, undef, undef, undef, undef, undef, undef, undef, undef, undef, undef, undef, undef, undef, undef, undef, undef, undef, undef, undef, undef, undef] := ef
        subst hd
        rw [eu_41, eu_42] at ef2
        rw [ef2]
        clear ef ef2 hu hs hout hall e_41 eu_41 e_42 eu_42
        simp only [List.drop_succ_cons, List.drop_zero]
        rcases hr2 : sameNm (k1 : Int) ((i1 : Int) + 1) nb na with _ | _
        · have HA2 : Hid (atv nb na (k + 1) = s2) := Lib.hid (by rw [HY2.out false hr2]; rfl)
          have he2 := eql26 hr2
          clear hr2
          go_wp2_with fail
          go_roundg (gk - 1)
          case measure => have := HM.out; omega
          case rel => exact ⟨k + 1, by have := HM.out; omega, by omega, by rw [HA2.out], by go_num, hBr.trans (hI.mono hBr.size)⟩
        · have HA2 : Hid (atv nb na (k + 1) = (k : Int)) := Lib.hid (by rw [HY2.out true hr2]; rfl)
          have he2 := eql26 hr2
          clear hr2
          go_wp2_with fail
          go_roundg (gk - 1)
          case measure => have := HM.out; omega
          case rel => exact ⟨k + 1, by have := HM.out; omega, by omega, by rw [HA2.out], by go_num, hBr.trans (hI.mono hBr.size)⟩
    · have gk1 : ¬ ((k : Int) < 80) := by omega
      have HK : Hid (k = 80) := Lib.hid (by omega)
      have HBNq := Lib.hid (HBN6.out.below hBr HBN6.out.lt)
      have HTq := Lib.hid (HT6.out.below hBr HT6.out.lt)
      have HBBq := Lib.hid (HBB6.out.below hBr HBB6.out.lt)
      have HGq := Lib.hid (HG6.out.below hBr HG6.out.lt)
      have HOKq : Hid (∀ c ∈ cs, c.ok wr.heap.size wr) := Lib.hid (fun c hc => ((HOK6.out c hc).below hBr).mono hBr.size)
      have HDq := Lib.hid (HD6.out.onw hBr)
      have HEq := Lib.hid (HE6.out.onw hBr)
      have hBq : RowKit.Below w.heap.size w wr := hB6.trans (hBr.mono hB6.size)
      clear HBN6 HT6 HBB6 HG6 HOK6 HD6 HE6 hB6
      have HCLq : Hid (Cel.ok wr.heap.size wr ⟨lo, ls, lc⟩) := Lib.hid ((HCL.out.below hBq).mono hBq.size)
      obtain ⟨wq, rfl⟩ : ∃ W, W = wr := ⟨_, rfl⟩
      clear hlt hk
      obtain ⟨v0, hv0⟩ : ∃ v : Int, v = if isN nb na = false then 1 else 0 := ⟨_, rfl⟩
      have HV0 := Lib.hid hv0
      clear hv0
      go_upto_if 46 with fail
      go_cut [11] from 45 (fun s wx => s = .int .i64 v0 ∧ wx = wq)
      case first =>
        rcases hn1 : isN nb na with _ | _
        · have e2 : s2 = -1 := by rw [HS2.out]; exact atv_bad hn1 k
          subst e2
          go_wp2_with fail
          go_meet
          exact ⟨by rw [HV0.out, if_pos hn1], rfl⟩
        · obtain ⟨ix, hix⟩ : ∃ i : Nat, i = ixOf nb na := ⟨_, rfl⟩
          have e2 : s2 = (ix : Int) := by rw [HS2.out, HK.out, hix]; exact atv_end HG1.out.1 hn1
          subst e2
          have gi : ¬ ((ix : Int) < 0) := by omega
          clear hix
          go_wp2_with fail
          go_meet
          exact ⟨by rw [HV0.out, if_neg (by rw [hn1]; decide)], rfl⟩
      case rest =>
        obtain ⟨rfl, hwc⟩ := hcut
        rw [hwc]
        clear hwc
        have HVS : Hid (Vc 1 (UnN ls nb na 0) v0) := Lib.hid (by
          rw [HV0.out]
          by_cases hq : isN nb na = false
          · rw [if_pos hq]; exact .inl ⟨rfl, .inl hq⟩
          · rw [if_neg hq]; exact .inr ⟨rfl, fun h => h.elim hq (fun ⟨i, hi, _⟩ => by omega)⟩)
        clear HV0
        go_wp2_with fail
        go_loopg [11, 14] (ls.length + 1) (fun g s11 i wx => ∃ (k : Nat) (v : Int), g = ls.length + 1 - k ∧ k ≤ ls.length ∧ s11 = .int .i64 v ∧ i = .int .i64 k ∧ Hid (Vc 1 (UnN ls nb na k) v) ∧ wx = wq)
        case atStart => exact ⟨0, v0, by omega, by omega, rfl, rfl, HVS, rfl⟩
        case round =>
          clear HVS
          obtain ⟨k2, v, hg, hk2, rfl, rfl, hv, hwr⟩ := hrel
          rw [hwr]
          clear hwr
          have HM2 := Lib.hid hg
          clear hg
          by_cases hlt : k2 < ls.length
          · have gl : (k2 : Int) < (ls.length : Int) := by omega
            obtain ⟨lb, lof, hlo, hlb, hpc⟩ := HCLq.out.at hlt
            obtain rfl : lo = some ⟨lb, lof, none⟩ := hlo
            obtain ⟨⟨py, pn⟩, hp⟩ : ∃ p : Nm, ls[k2]? = some p := ⟨_, List.getElem?_eq_getElem hlt⟩
            have hp2 := hpc
            simp only [(List.getElem?_eq_some_iff.1 hp).2] at hp2
            have Hp := Lib.hid hp
            obtain ⟨gn, hgn⟩ : ∃ b, b = namedB ⟨py, pn⟩ := ⟨_, rfl⟩
            have HGN := Lib.hid hgn
            have hgn2 : gn = decide (1 ≤ py ∧ py ≤ 6 ∧ 0 ≤ pn ∧ pn ≤ 2047) := by rw [hgn]; unfold namedB Named; rfl
            have HGN2 := Lib.hid hgn2
            clear hgn hgn2 hp hpc
            go_upto_region 18 with fail
            go_cut [82] from 47 to 82 (fun s wx => s = .bool (!gn) ∧ wx = wq)
            case first =>
              have p0 := hp2.1
              have p1 := hp2.2
              by_cases c0 : py < 1
              · have e5 : Hid (gn = false) := Lib.hid (by rw [HGN2.out]; exact decide_eq_false (by omega))
                go_wp2_with fail
                go_meet
                exact ⟨by rw [e5.out]; rfl, rfl⟩
              by_cases c1 : 6 < py
              · have e5 : Hid (gn = false) := Lib.hid (by rw [HGN2.out]; exact decide_eq_false (by omega))
                go_wp2_with fail
                go_meet
                exact ⟨by rw [e5.out]; rfl, rfl⟩
              by_cases c2 : pn < 0
              · have e5 : Hid (gn = false) := Lib.hid (by rw [HGN2.out]; exact decide_eq_false (by omega))
                go_wp2_with fail
                go_meet
                exact ⟨by rw [e5.out]; rfl, rfl⟩
              by_cases c3 : 2047 < pn
              · have e5 : Hid (gn = false) := Lib.hid (by rw [HGN2.out]; exact decide_eq_false (by omega))
                go_wp2_with fail
                go_meet
                exact ⟨by rw [e5.out]; rfl, rfl⟩
              have e5 : Hid (gn = true) := Lib.hid (by rw [HGN2.out]; exact decide_eq_true (by omega))
              go_wp2_with fail
              go_meet
              exact ⟨by rw [e5.out]; rfl, rfl⟩
            case rest =>
              obtain ⟨rfl, hwc⟩ := hcut
              rw [hwc]
              clear hwc hp2
              rcases hgv : gn with _ | _
              · subst hgv
                go_wp2_with fail
                go_roundg (gk - 1)
                case measure => have := HM2.out; omega
                case rel => exact ⟨k2 + 1, 1, by have := HM2.out; omega, by omega, rfl, by go_num, Lib.hid (.inl ⟨rfl, (UnN.succ Hp.out).2 (.inr HGN.out.symm)⟩), rfl⟩
              · subst hgv
                go_wp2_with fail
                go_roundg (gk - 1)
                case measure => have := HM2.out; omega
                case rel => exact ⟨k2 + 1, v, by have := HM2.out; omega, by omega, rfl, by go_num, Lib.hid (hv.out.iff ((UnN.succ Hp.out).trans (by rw [← HGN.out]; simp)).symm), rfl⟩
          · have gl : ¬ ((k2 : Int) < (ls.length : Int)) := by omega
            have HKL2 : Hid (k2 = ls.length) := Lib.hid (by omega)
            obtain ⟨e20, he20⟩ : ∃ v, v = err20 nb na ls := ⟨_, rfl⟩
            have HE20 := Lib.hid he20
            have HUN : Hid (Vc 1 (isN nb na = false ∨ allNamed ls = false) v) := Lib.hid (hv.out.iff (by rw [HKL2.out]; exact UnN.all))
            clear he20 hv hlt hk2
            go_upto_region 20 with fail
            obtain ⟨g20, hg20⟩ : ∃ b : Bool, b = (decide (v = 0) && decide (4 < ls.length)) := ⟨_, rfl⟩
            have HG20 := Lib.hid hg20
            clear hg20
            go_cut [89] from 83 (fun s wx => s = .bool g20 ∧ wx = wq)
            case first =>
              rcases HUN.out with ⟨rfl, hh⟩ | ⟨rfl, hh⟩
              · clear hh
                have e5 : Hid (g20 = false) := Lib.hid (by rw [HG20.out]; rfl)
                go_wp2_with fail
                go_meet
                exact ⟨by rw [e5.out], rfl⟩
              · clear hh
                by_cases h4 : 4 < ls.length
                · have g4 : (4 : Int) < (ls.length : Int) := by omega
                  have e5 : Hid (g20 = true) := Lib.hid (by rw [HG20.out]; simp; omega)
                  go_wp2_with fail
                  go_meet
                  exact ⟨by rw [e5.out], rfl⟩
                · have g4 : ¬ ((4 : Int) < (ls.length : Int)) := by omega
                  have e5 : Hid (g20 = false) := Lib.hid (by rw [HG20.out]; simp; omega)
                  go_wp2_with fail
                  go_meet
                  exact ⟨by rw [e5.out], rfl⟩
            case rest =>
              obtain ⟨rfl, hwc⟩ := hcut
              rw [hwc]
              clear hwc
              go_upto_if 89 with fail
              go_cut [11] from 83 (fun s wx => s = .int .i64 e20 ∧ wx = wq)
              case first =>
                rcases hgv : g20 with _ | _
                · subst hgv
                  have e6 : Hid (v = e20) := Lib.hid (by
                    rw [HE20.out]; unfold err20
                    rcases HUN.out with ⟨h1, h2⟩ | ⟨h1, h2⟩
                    · rw [if_pos h2]; exact h1
                    · rw [if_neg h2, if_neg, h1]
                      intro h4; have := HG20.out; rw [h1] at this; simp at this; omega)
                  go_wp2_with fail
                  go_meet
                  exact ⟨by rw [e6.out], rfl⟩
                · subst hgv
                  have e6 : Hid (e20 = 9) := Lib.hid (by
                    have h9 := HG20.out
                    simp at h9
                    rw [HE20.out]; unfold err20
                    rcases HUN.out with ⟨h1, h2⟩ | ⟨h1, h2⟩
                    · rw [h9.1] at h1; cases h1
                    · rw [if_neg h2, if_pos h9.2])
                  go_wp2_with fail
                  go_meet
                  exact ⟨by rw [e6.out], rfl⟩
              case rest =>
                obtain ⟨rfl, hwc⟩ := hcut
                rw [hwc]
                clear hwc HUN HG20
                go_upto_block 4 with fail
                go_cut [11, 15, 16, 17, 18] from 90 (fun s _ _ _ _ wx => s = .int .i64 er ∧ RowKit.Below wq.heap.size wq wx)
                case first =>
                  by_cases h20 : e20 = 0
                  · subst h20
                    obtain ⟨hn1, hal, hl4⟩ := err20_zero HE20.out.symm
                    obtain ⟨ix, hix⟩ : ∃ i : Nat, i = ixOf nb na := ⟨_, rfl⟩
                    have e2 : s2 = (ix : Int) := by rw [HS2.out, HK.out, hix]; exact atv_end HG1.out.1 hn1
                    subst e2
                    have HIX := Lib.hid hix
                    have lx : ix < 80 := by rw [hix]; exact ix_lt HG1.out.1 hn1
                    clear hix hn1 hal
                    go_wp2_with fail
                    go_loopg [11, 15] (ls.length + 1) (fun g s11 i wx => ∃ (k : Nat) (v : Int), g = ls.length + 1 - k ∧ k ≤ ls.length ∧ s11 = .int .i64 v ∧ i = .int .i64 k ∧ Hid (Vc 8 (Bad T9 ls ix k) v) ∧ RowKit.Below wq.heap.size wq wx)
                    case atStart => exact ⟨0, 0, by omega, by omega, rfl, rfl, Lib.hid (.inr ⟨rfl, Bad.zero⟩), Below.refl _ _⟩
                    case round =>
                      obtain ⟨k3, v, hg, hk3, rfl, rfl, hv, hBw⟩ := hrel
                      have HM3 := Lib.hid hg
                      clear hg
                      by_cases hlt : k3 < ls.length
                      · have gl : (k3 : Int) < (ls.length : Int) := by omega
                        rcases hv.out with ⟨rfl, hb⟩ | ⟨rfl, hb⟩
                        · have e6 : Hid ((8 : Int) = er) := Lib.hid (by rw [HER.out]; exact setErr_v HTO.out HG1.out.1 HE20.out.symm (by rw [← HIX.out]; exact .inl ⟨rfl, hb.mono (by omega)⟩))
                          clear hv hb
                          go_wp2_with fail
                          go_meet
                          exact ⟨by rw [e6.out], hBw⟩
                        · have HNB := Lib.hid hb
                          clear hb hv
                          obtain ⟨lb, lof, hlo, hlb, hpc⟩ := HCLq.out.at hlt
                          obtain rfl : lo = some ⟨lb, lof, none⟩ := hlo
                          obtain ⟨⟨py, pn⟩, hp⟩ : ∃ p : Nm, ls[k3]? = some p := ⟨_, List.getElem?_eq_getElem hlt⟩
                          have hp2 := hpc
                          simp only [(List.getElem?_eq_some_iff.1 hp).2] at hp2
                          have Hp := Lib.hid hp
                          have HPK : Hid (∀ {W : World}, RowKit.Below wq.heap.size wq W → W.cell? ⟨lb, lof + k3 * 2, none⟩ = some (.int .u8 py) ∧ W.cell? ⟨lb, lof + k3 * 2 + 1, none⟩ = some (.int .i64 pn)) := Lib.hid fun h => hp2.below h hlb
                          have HKL : Hid (k3 < ls.length) := Lib.hid hlt
                          clear hp hpc hp2
                          go_wp2_with fail
                          obtain ⟨G3, hG3⟩ : ∃ G, G = gk := ⟨_, rfl⟩
                          have HMG3 : Hid (G3 = ls.length + 1 - k3) := Lib.hid (by rw [hG3]; exact HM3.out)
                          have HGK3 := Lib.hid hG3
                          clear hG3 HM3
                          go_loopg [11, 16] (k3 + 1) (fun g s11 i wx => ∃ (q : Nat) (v : Int), g = k3 + 1 - q ∧ q ≤ k3 ∧ s11 = .int .i64 v ∧ i = .int .i64 q ∧ Hid (Vc 8 (Twc ls ⟨py, pn⟩ q) v) ∧ RowKit.Below wq.heap.size wq wx)
                          case atStart => exact ⟨0, 0, by omega, by omega, rfl, rfl, Lib.hid (.inr ⟨rfl, Twc.zero _⟩), hBw⟩
                          case round =>
                            clear hBw
                            obtain ⟨q, v, hg, hq, rfl, rfl, hv, hBw⟩ := hrel
                            have HM4 := Lib.hid hg
                            clear hg
                            by_cases hlt2 : q < k3
                            · have gl2 : (q : Int) < (k3 : Int) := by omega
                              obtain ⟨⟨ry, rn⟩, hr⟩ : ∃ p : Nm, ls[q]? = some p := ⟨_, List.getElem?_eq_getElem (by omega)⟩
                              have HR := Lib.hid hr
                              have hr2 := (HCLq.out.2.resolve_left (by intro h; rw [show ls = [] from h] at hr; cases hr))
                              obtain ⟨lb', lof', he', _, hr3⟩ := hr2
                              obtain ⟨rfl, rfl⟩ : lb = lb' ∧ lof = lof' := by simpa using he'
                              have hr4 := hr3 q _ hr
                              have HRQ : Hid (∀ {W : World}, RowKit.Below wq.heap.size wq W → W.cell? ⟨lb, lof + q * 2, none⟩ = some (.int .u8 ry) ∧ W.cell? ⟨lb, lof + q * 2 + 1, none⟩ = some (.int .i64 rn)) := Lib.hid fun h => hr4.below h hlb
                              have HQL : Hid (q < ls.length) := Lib.hid (by omega)
                              clear hr he' hr3 hr4
                              go_wp2_with fail
                              refine rgT2 8 [some 105, some 106, some 107, some 108, some 109, some 110, some 111, some 112, some 113] (psiSl28 lb lof ls.length lc q k3 ry rn py pn) (fun w' => RowKit.Below wq.heap.size wq w') (by kernel_rfl) (by kernel_rfl) (by kernel_rfl) (by kernel_rfl) (psiSl28_stab lb lof ls.length lc q k3 ry rn py pn) (fun _ _ h hb => h.trans (hb.mono h.size)) (fun i9 o9 hi9 ho9 aq9 w1 hs hout hI hdep => ?_) ?_ hBw.drew
                              · skip
                                match i9, hi9, ho9 with
                                | 0, _, ho9 =>
                                  obtain rfl := Option.some.inj ho9
                                  refine .inl ⟨rfl, fun K hK => ?_⟩
                                  exact st_move rfl ((hout 2 rfl).trans rfl) (hK _ _ (Below.refl _ _) rfl)
                                | 1, _, ho9 =>
                                  obtain rfl := Option.some.inj ho9
                                  refine .inl ⟨rfl, fun K hK => ?_⟩
                                  exact st_move rfl ((hout 16 rfl).trans rfl) (hK _ _ (Below.refl _ _) rfl)
                                | 2, _, ho9 =>
                                  obtain rfl := Option.some.inj ho9
                                  have dq0 : (aq9.tmps.getD 105 undef) = .slice (some ⟨lb, lof, none⟩) ls.length lc := hdep ⟨0, .data⟩ (by simp) rfl _ rfl
                                  have dq1 : (aq9.tmps.getD 106 undef) = .int .i64 q := hdep ⟨1, .data⟩ (by simp) rfl _ rfl
                                  refine .inl ⟨rfl, fun K hK => ?_⟩
                                  exact st_idx29 (k := q) rfl dq0 dq1 HQL.out (hK _ _ (Below.refl _ _) rfl)
                                | 3, _, ho9 =>
                                  obtain rfl := Option.some.inj ho9
                                  have dq2 : (aq9.tmps.getD 107 undef) = .pointer (some ⟨lb, lof + q * 2, none⟩) := hdep ⟨2, .data⟩ (by simp) rfl _ rfl
                                  refine .inl ⟨rfl, fun K hK => ?_⟩
                                  exact ld28 rfl dq2 (HRQ.out hI).1 (HRQ.out hI).2 (hK _ _ (Below.refl _ _) rfl)
                                | 4, _, ho9 =>
                                  obtain rfl := Option.some.inj ho9
                                  refine .inl ⟨rfl, fun K hK => ?_⟩
                                  exact st_move rfl ((hout 2 rfl).trans rfl) (hK _ _ (Below.refl _ _) rfl)
                                | 5, _, ho9 =>
                                  obtain rfl := Option.some.inj ho9
                                  refine .inl ⟨rfl, fun K hK => ?_⟩
                                  exact st_move rfl ((hout 15 rfl).trans rfl) (hK _ _ (Below.refl _ _) rfl)
                                | 6, _, ho9 =>
                                  obtain rfl := Option.some.inj ho9
                                  have dq4 : (aq9.tmps.getD 109 undef) = .slice (some ⟨lb, lof, none⟩) ls.length lc := hdep ⟨4, .data⟩ (by simp) rfl _ rfl
                                  have dq5 : (aq9.tmps.getD 110 undef) = .int .i64 k3 := hdep ⟨5, .data⟩ (by simp) rfl _ rfl
                                  refine .inl ⟨rfl, fun K hK => ?_⟩
                                  exact st_idx29 (k := k3) rfl dq4 dq5 HKL.out (hK _ _ (Below.refl _ _) rfl)
                                | 7, _, ho9 =>
                                  obtain rfl := Option.some.inj ho9
                                  have dq6 : (aq9.tmps.getD 111 undef) = .pointer (some ⟨lb, lof + k3 * 2, none⟩) := hdep ⟨6, .data⟩ (by simp) rfl _ rfl
                                  refine .inl ⟨rfl, fun K hK => ?_⟩
                                  exact ld28 rfl dq6 (HPK.out hI).1 (HPK.out hI).2 (hK _ _ (Below.refl _ _) rfl)
                                | i9 + 8, hi9, _ => exact absurd hi9 (by omega)
                              · intro a2 wz hs hd hout hI hall
                                obtain ⟨tmps, defers⟩ := a2
                                have e_108 : (tmps.getD 108 undef) = .agg #[.int .u8 ry, .int .i64 rn] := hall 3 _ (by decide) rfl
                                have e_112 : (tmps.getD 112 undef) = .agg #[.int .u8 py, .int .i64 pn] := hall 7 _ (by decide) rfl
                                simp only at hs hd hout
                                have ef := frameAt [some 105, some 106, some 107, some 108, some 109, some 110, some 111, some 112, some 113] _ tmps hs hout
                                obtain ⟨sv28, hu⟩ : ∃ u : Nat → Value, u = fun s => tmps.getD s undef := ⟨_, rfl⟩
                                have eu_108 : sv28 108 = .agg #[.int .u8 ry, .int .i64 rn] := by rw [hu]; exact e_108
                                have eu_112 : sv28 112 = .agg #[.int .u8 py, .int .i64 pn] := by rw [hu]; exact e_112
                                rw [← hu] at ef
                                have ef2 : tmps = #[Value.slice ao xn cap, Value.agg #[Value.int IntKind.u8 nb, Value.int IntKind.i64 na], Value.slice (some { block := lb, off := lof }) ls.length lc, undef, Value.pointer (some { block := w.heap.size, off := 0 }), undef, Value.bool false, Value.pointer (some { block := wa.heap.size, off := 0 }), Value.pointer (some { block := wd.heap.size, off := 0 }), Value.pointer (some { block := w5.heap.size, off := 0 }), Value.int IntKind.i64 er, Value.int IntKind.i64 v, Value.int IntKind.i64 ix, Value.int IntKind.i64 k, Value.int IntKind.i64 k2, Value.int IntKind.i64 k3, Value.int IntKind.i64 q, u17, u18, undef, Value.slice (some { block := lb, off := lof }) ls.length lc, Value.int IntKind.i64 ls.length, Value.bool false, undef, Value.slice ao xn cap, tabV cs, tabV cs, Value.agg #[Value.slice ga gs.length gc, Value.slice ka ks.length kc], Value.tuple #[Value.agg #[Value.slice ja js.length jc, Value.slice la ls2.length lc2], Value.int IntKind.i64 er], Value.agg #[Value.slice ga gs.length gc, Value.slice ka ks.length kc], Value.agg #[Value.int IntKind.u8 nb, Value.int IntKind.i64 na], Value.slice (some { block := lb, off := lof }) ls.length lc, Value.tuple #[Value.agg #[Value.slice ja js.length jc, Value.slice la ls2.length lc2], Value.int IntKind.i64 er], Value.agg #[Value.slice ja js.length jc, Value.slice la ls2.length lc2], Value.int IntKind.i64 er, Value.int IntKind.i64 k, Value.bool false, u37, u38, u39, u40, u41, u42, u43, u44, u45, u46, Value.int IntKind.i64 k2, Value.slice (some { block := lb, off := lof }) ls.length lc, Value.int IntKind.i64 ls.length, Value.bool false, u51, u52, u53, u54, u55, u56, u57, u58, u59, u60, u61, u62, u63, u64, u65, u66, u67, u68, u69, u70, u71, u72, u73, u74, u75, u76, u77, u78, u79, u80, u81, u82, u83, u84, u85, u86, u87, u88, u89, Value.int IntKind.i64 k3, Value.slice (some { block := lb, off := lof }) ls.length lc, Value.int IntKind.i64 ls.length, Value.bool true, Value.bool true, Value.int IntKind.i64 0, Value.bool true, Value.bool true, u98, u99, Value.int IntKind.i64 q, Value.int IntKind.i64 k3, Value.bool true, u103, u104, (sv28 105), (sv28 106), (sv28 107), (sv28 108), (sv28 109), (sv28 110), (sv28 111), (sv28 112), (sv28 113), u114, u115, u116, u117, u118, u119, u120, u121, u122, u123, u124, u125, u126, u127, u128, u129, u130, u131, u132, u133, u134, u135, u136, u137, u138, u139, u140, u141, u142, u143, u144, u145, u146, u147, u148, u149, u150, u151, u152, u153, u154, u155, u156, u157, u158, u159, u160, u161, u162, u163, u164, u165, u166, u167, u168, u169, u170, u171, u172, u173, u174, u175, u176, u177, u178, u179, u180, u181, u182, u183, u184, u185, u186, u187, u188, u189, u190, u191, u192, u193] := ef
                                subst hd
                                rw [eu_108, eu_112] at ef2
                                rw [ef2]
                                clear ef ef2 hu hs hout hall e_108 eu_108 e_112 eu_112
                                simp only [List.drop_succ_cons, List.drop_zero]
                                have hWQ := hI
                                by_cases hre : (⟨ry, rn⟩ : Nm) = ⟨py, pn⟩
                                · have he := eql28 (sameNm_iff.2 hre)
                                  have HRE := Lib.hid hre
                                  clear hre
                                  go_wp2_with fail
                                  go_roundg (gk - 1)
                                  case measure => have := HM4.out; omega
                                  case rel => exact ⟨q + 1, 8, by have := HM4.out; omega, by omega, rfl, by go_num, Lib.hid (.inl ⟨rfl, (Twc.succ HR.out).2 (.inr HRE.out)⟩), hWQ⟩
                                · have hs : sameNm ry rn py pn = false := by
                                    cases h : sameNm ry rn py pn
                                    · rfl
                                    · exact absurd (sameNm_iff.1 h) hre
                                  have he := eql28 hs
                                  have HRE := Lib.hid hre
                                  clear hre hs
                                  go_wp2_with fail
                                  go_roundg (gk - 1)
                                  case measure => have := HM4.out; omega
                                  case rel => exact ⟨q + 1, v, by have := HM4.out; omega, by omega, rfl, by go_num, Lib.hid (hv.out.iff ((Twc.succ HR.out).trans (or_iff_left HRE.out)).symm), hWQ⟩
                            · have gl2 : ¬ ((q : Int) < (k3 : Int)) := by omega
                              have HQK : Hid (q = k3) := Lib.hid (by omega)
                              clear hlt2 hq
                              go_wp2_with fail
                              go_loopg [11, 17] 81 (fun g s11 i wx => ∃ (j : Nat) (v : Int), g = 81 - j ∧ j ≤ 80 ∧ s11 = .int .i64 v ∧ i = .int .i64 j ∧ Hid (Vc 8 (Twc ls ⟨py, pn⟩ k3 ∨ Out T9 ix ⟨py, pn⟩ j) v) ∧ RowKit.Below wq.heap.size wq wx)
                              case atStart => exact ⟨0, v, by omega, by omega, rfl, rfl, Lib.hid (hv.out.iff (by rw [HQK.out]; exact (or_iff_left (Out.zero _)).symm)), hBw⟩
                              case round =>
                                clear hv hBw HQK HM4
                                obtain ⟨j, v, hg, hj, rfl, rfl, hv, hBw⟩ := hrel
                                have HM5 := Lib.hid hg
                                clear hg
                                by_cases hlt3 : j < 80
                                · have gl3 : (j : Int) < 80 := by omega
                                  obtain ⟨⟨xa, xl, xc⟩, hx⟩ : ∃ c : Cel, cs[j]? = some c := ⟨_, List.getElem?_eq_getElem (by rw [HLC.out.1]; exact hlt3)⟩
                                  have HLx : Hid (T9.getD j [] = xl) := Lib.hid (by rw [← HLC.out.2, List.getD_eq_getElem?_getD, List.getElem?_map, hx]; rfl)
                                  have HTX0 : Hid (∀ {W : World}, RowKit.Below wq.heap.size wq W → W.cell? ⟨wa.heap.size, j, none⟩ = some (.slice xa xl.length xc)) := Lib.hid fun h => by
                                    have := (HTq.out.below h HTq.out.lt).cell hlt3
                                    rw [(List.getElem?_eq_some_iff.1 hx).2] at this
                                    exact this
                                  have HOX : Hid (Cel.ok wq.heap.size wq ⟨xa, xl, xc⟩) := Lib.hid (HOKq.out _ (List.mem_of_getElem? hx))
                                  have HX4 : Hid (xl.length ≤ 4) := Lib.hid (by
                                    rw [← HLx.out]
                                    rcases getD_mem_or (l := T9) j with h1 | h1
                                    · exact (HTO.out.st _ h1).1
                                    · rw [h1]; simp)
                                  have hx4 := HX4.out
                                  clear hx
                                  have tx := HTX0.out hBw
                                  go_wp2_with fail
                                  obtain ⟨G5, hG5⟩ : ∃ G, G = gk := ⟨_, rfl⟩
                                  have HMG5 : Hid (G5 = 81 - j) := Lib.hid (by rw [hG5]; exact HM5.out)
                                  have HGK5 := Lib.hid hG5
                                  clear hG5 HM5 tx
                                  go_loopg [11, 18] (xl.length + 1) (fun g s11 i wx => ∃ (m : Nat) (v : Int), g = xl.length + 1 - m ∧ m ≤ xl.length ∧ (j = ix → m = 0) ∧ s11 = .int .i64 v ∧ i = .int .i64 m ∧ Hid (Vc 8 (Twc ls ⟨py, pn⟩ k3 ∨ OutIn T9 ix ⟨py, pn⟩ j m) v) ∧ RowKit.Below wq.heap.size wq wx)
                                  case atStart => exact ⟨0, v, by omega, by omega, fun _ => rfl, rfl, rfl, Lib.hid (hv.out.iff (or_congr Iff.rfl OutIn.zero.symm)), hBw⟩
                                  case round =>
                                    clear hv hBw
                                    obtain ⟨m, v, hg, hm, hjm, rfl, rfl, hv, hBw⟩ := hrel
                                    have HM6 := Lib.hid hg
                                    have HJM := Lib.hid hjm
                                    clear hg hjm
                                    have tx := HTX0.out hBw
                                    by_cases hji : j = ix
                                    · have gj : ((j : Int) != (ix : Int)) = false := by rw [hji]; simp
                                      have HJI := Lib.hid hji
                                      clear hji
                                      by_cases hml : (m : Int) < (xl.length : Int)
                                      · go_wp2_with fail
                                        go_roundg (G5 - 1)
                                        case measure => have := HGK5.out; have := HMG5.out; omega
                                        case rel => exact ⟨j + 1, v, by have := HMG5.out; omega, by omega, rfl, by go_num, Lib.hid (hv.out.iff (or_congr Iff.rfl (by rw [HJM.out HJI.out, HJI.out]; exact OutIn.zero.trans Out.skip.symm))), hBw⟩
                                      · go_wp2_with fail
                                        go_roundg (G5 - 1)
                                        case measure => have := HGK5.out; have := HMG5.out; omega
                                        case rel => exact ⟨j + 1, v, by have := HMG5.out; omega, by omega, rfl, by go_num, Lib.hid (hv.out.iff (or_congr Iff.rfl (by rw [HJM.out HJI.out, HJI.out]; exact OutIn.zero.trans Out.skip.symm))), hBw⟩
                                    · have gj : ((j : Int) != (ix : Int)) = true := by simp; omega
                                      have HJI := Lib.hid hji
                                      clear hji
                                      by_cases hml : m < xl.length
                                      · have gml : (m : Int) < (xl.length : Int) := by omega
                                        obtain ⟨xb, xo, hxa, hxb, hxc⟩ := (HOX.out).at hml
                                        obtain rfl : xa = some ⟨xb, xo, none⟩ := hxa
                                        obtain ⟨⟨ry, rn⟩, hr⟩ : ∃ p : Nm, xl[m]? = some p := ⟨_, List.getElem?_eq_getElem hml⟩
                                        simp only [(List.getElem?_eq_some_iff.1 hr).2] at hxc
                                        have HR : Hid ((T9.getD j [])[m]? = some ⟨ry, rn⟩) := Lib.hid (by rw [HLx.out]; exact hr)
                                        have HRQ : Hid (∀ {W : World}, RowKit.Below wq.heap.size wq W → W.cell? ⟨xb, xo + m * 2, none⟩ = some (.int .u8 ry) ∧ W.cell? ⟨xb, xo + m * 2 + 1, none⟩ = some (.int .i64 rn)) := Lib.hid fun h => hxc.below h hxb
                                        have HTX : Hid (∀ {W : World}, RowKit.Below wq.heap.size wq W → W.cell? ⟨wa.heap.size, j, none⟩ = some (.slice (some ⟨xb, xo, none⟩) xl.length xc)) := Lib.hid fun h => HTX0.out h
                                        have HML : Hid (m < xl.length) := Lib.hid hml
                                        clear hr hxc
                                        go_wp2_with fail
                                        refine rgT2 10 [some 131, some 132, some 133, some 134, some 135, some 136, some 137, some 138, some 139, some 140, some 141] (psiSl36 lb lof ls.length lc wa.heap.size j m k3 xb xo xl.length xc ry rn py pn) (fun w' => RowKit.Below wq.heap.size wq w') (by kernel_rfl) (by kernel_rfl) (by kernel_rfl) (by kernel_rfl) (psiSl36_stab lb lof ls.length lc wa.heap.size j m k3 xb xo xl.length xc ry rn py pn) (fun _ _ h hb => h.trans (hb.mono h.size)) (fun i9 o9 hi9 ho9 aq9 w1 hs hout hI hdep => ?_) ?_ hBw.drew
                                        · skip
                                          match i9, hi9, ho9 with
                                          | 0, _, ho9 =>
                                            obtain rfl := Option.some.inj ho9
                                            refine .inl ⟨rfl, fun K hK => ?_⟩
                                            exact st_move rfl ((hout 17 rfl).trans rfl) (hK _ _ (Below.refl _ _) rfl)
                                          | 1, _, ho9 =>
                                            obtain rfl := Option.some.inj ho9
                                            have dq0 : (aq9.tmps.getD 131 undef) = .int .i64 j := hdep ⟨0, .data⟩ (by simp) rfl _ rfl
                                            refine .inl ⟨rfl, fun K hK => ?_⟩
                                            exact st_idx31 (k := j) rfl ((hout 7 rfl).trans rfl) dq0 (by omega) (hK _ _ (Below.refl _ _) rfl)
                                          | 2, _, ho9 =>
                                            obtain rfl := Option.some.inj ho9
                                            have dq1 : (aq9.tmps.getD 132 undef) = .pointer (some ⟨wa.heap.size, j, none⟩) := hdep ⟨1, .data⟩ (by simp) rfl _ rfl
                                            refine .inl ⟨rfl, fun K hK => ?_⟩
                                            exact ld29 rfl dq1 (HTX.out hI) (hK _ _ (Below.refl _ _) rfl)
                                          | 3, _, ho9 =>
                                            obtain rfl := Option.some.inj ho9
                                            refine .inl ⟨rfl, fun K hK => ?_⟩
                                            exact st_move rfl ((hout 18 rfl).trans rfl) (hK _ _ (Below.refl _ _) rfl)
                                          | 4, _, ho9 =>
                                            obtain rfl := Option.some.inj ho9
                                            have dq2 : (aq9.tmps.getD 133 undef) = .slice (some ⟨xb, xo, none⟩) xl.length xc := hdep ⟨2, .data⟩ (by simp) rfl _ rfl
                                            have dq3 : (aq9.tmps.getD 134 undef) = .int .i64 m := hdep ⟨3, .data⟩ (by simp) rfl _ rfl
                                            refine .inl ⟨rfl, fun K hK => ?_⟩
                                            exact st_idx29 (k := m) rfl dq2 dq3 HML.out (hK _ _ (Below.refl _ _) rfl)
                                          | 5, _, ho9 =>
                                            obtain rfl := Option.some.inj ho9
                                            have dq4 : (aq9.tmps.getD 135 undef) = .pointer (some ⟨xb, xo + m * 2, none⟩) := hdep ⟨4, .data⟩ (by simp) rfl _ rfl
                                            refine .inl ⟨rfl, fun K hK => ?_⟩
                                            exact ld28 rfl dq4 (HRQ.out hI).1 (HRQ.out hI).2 (hK _ _ (Below.refl _ _) rfl)
                                          | 6, _, ho9 =>
                                            obtain rfl := Option.some.inj ho9
                                            refine .inl ⟨rfl, fun K hK => ?_⟩
                                            exact st_move rfl ((hout 2 rfl).trans rfl) (hK _ _ (Below.refl _ _) rfl)
                                          | 7, _, ho9 =>
                                            obtain rfl := Option.some.inj ho9
                                            refine .inl ⟨rfl, fun K hK => ?_⟩
                                            exact st_move rfl ((hout 15 rfl).trans rfl) (hK _ _ (Below.refl _ _) rfl)
                                          | 8, _, ho9 =>
                                            obtain rfl := Option.some.inj ho9
                                            have dq6 : (aq9.tmps.getD 137 undef) = .slice (some ⟨lb, lof, none⟩) ls.length lc := hdep ⟨6, .data⟩ (by simp) rfl _ rfl
                                            have dq7 : (aq9.tmps.getD 138 undef) = .int .i64 k3 := hdep ⟨7, .data⟩ (by simp) rfl _ rfl
                                            refine .inl ⟨rfl, fun K hK => ?_⟩
                                            exact st_idx29 (k := k3) rfl dq6 dq7 HKL.out (hK _ _ (Below.refl _ _) rfl)
                                          | 9, _, ho9 =>
                                            obtain rfl := Option.some.inj ho9
                                            have dq8 : (aq9.tmps.getD 139 undef) = .pointer (some ⟨lb, lof + k3 * 2, none⟩) := hdep ⟨8, .data⟩ (by simp) rfl _ rfl
                                            refine .inl ⟨rfl, fun K hK => ?_⟩
                                            exact ld28 rfl dq8 (HPK.out hI).1 (HPK.out hI).2 (hK _ _ (Below.refl _ _) rfl)
                                          | i9 + 10, hi9, _ => exact absurd hi9 (by omega)
                                        · intro a2 wz hs hd hout hI hall
                                          obtain ⟨tmps, defers⟩ := a2
                                          have e_136 : (tmps.getD 136 undef) = .agg #[.int .u8 ry, .int .i64 rn] := hall 5 _ (by decide) rfl
                                          have e_140 : (tmps.getD 140 undef) = .agg #[.int .u8 py, .int .i64 pn] := hall 9 _ (by decide) rfl
                                          simp only at hs hd hout
                                          have ef := frameAt [some 131, some 132, some 133, some 134, some 135, some 136, some 137, some 138, some 139, some 140, some 141] _ tmps hs hout
                                          obtain ⟨sv36, hu⟩ : ∃ u : Nat → Value, u = fun s => tmps.getD s undef := ⟨_, rfl⟩
                                          have eu_136 : sv36 136 = .agg #[.int .u8 ry, .int .i64 rn] := by rw [hu]; exact e_136
                                          have eu_140 : sv36 140 = .agg #[.int .u8 py, .int .i64 pn] := by rw [hu]; exact e_140
                                          rw [← hu] at ef
                                          have ef2 : tmps = #[Value.slice ao xn cap, Value.agg #[Value.int IntKind.u8 nb, Value.int IntKind.i64 na], Value.slice (some { block := lb, off := lof }) ls.length lc, undef, Value.pointer (some { block := w.heap.size, off := 0 }), undef, Value.bool false, Value.pointer (some { block := wa.heap.size, off := 0 }), Value.pointer (some { block := wd.heap.size, off := 0 }), Value.pointer (some { block := w5.heap.size, off := 0 }), Value.int IntKind.i64 er, Value.int IntKind.i64 v, Value.int IntKind.i64 ix, Value.int IntKind.i64 k, Value.int IntKind.i64 k2, Value.int IntKind.i64 k3, Value.int IntKind.i64 q, Value.int IntKind.i64 j, Value.int IntKind.i64 m, undef, Value.slice (some { block := lb, off := lof }) ls.length lc, Value.int IntKind.i64 ls.length, Value.bool false, undef, Value.slice ao xn cap, tabV cs, tabV cs, Value.agg #[Value.slice ga gs.length gc, Value.slice ka ks.length kc], Value.tuple #[Value.agg #[Value.slice ja js.length jc, Value.slice la ls2.length lc2], Value.int IntKind.i64 er], Value.agg #[Value.slice ga gs.length gc, Value.slice ka ks.length kc], Value.agg #[Value.int IntKind.u8 nb, Value.int IntKind.i64 na], Value.slice (some { block := lb, off := lof }) ls.length lc, Value.tuple #[Value.agg #[Value.slice ja js.length jc, Value.slice la ls2.length lc2], Value.int IntKind.i64 er], Value.agg #[Value.slice ja js.length jc, Value.slice la ls2.length lc2], Value.int IntKind.i64 er, Value.int IntKind.i64 k, Value.bool false, u37, u38, u39, u40, u41, u42, u43, u44, u45, u46, Value.int IntKind.i64 k2, Value.slice (some { block := lb, off := lof }) ls.length lc, Value.int IntKind.i64 ls.length, Value.bool false, u51, u52, u53, u54, u55, u56, u57, u58, u59, u60, u61, u62, u63, u64, u65, u66, u67, u68, u69, u70, u71, u72, u73, u74, u75, u76, u77, u78, u79, u80, u81, u82, u83, u84, u85, u86, u87, u88, u89, Value.int IntKind.i64 k3, Value.slice (some { block := lb, off := lof }) ls.length lc, Value.int IntKind.i64 ls.length, Value.bool true, Value.bool true, Value.int IntKind.i64 0, Value.bool true, Value.bool true, u98, u99, Value.int IntKind.i64 q, Value.int IntKind.i64 k3, Value.bool false, u103, u104, u105, u106, u107, u108, u109, u110, u111, u112, u113, Value.int IntKind.i64 j, Value.bool true, u116, u117, Value.int IntKind.i64 m, Value.int IntKind.i64 j, Value.pointer (some { block := wa.heap.size, off := j }), Value.slice (some { block := xb, off := xo }) xl.length xc, Value.int IntKind.i64 xl.length, Value.bool true, Value.bool true, Value.int IntKind.i64 j, Value.int IntKind.i64 ix, Value.bool true, Value.bool true, u129, u130, (sv36 131), (sv36 132), (sv36 133), (sv36 134), (sv36 135), (sv36 136), (sv36 137), (sv36 138), (sv36 139), (sv36 140), (sv36 141), u142, u143, u144, u145, u146, u147, u148, u149, u150, u151, u152, u153, u154, u155, u156, u157, u158, u159, u160, u161, u162, u163, u164, u165, u166, u167, u168, u169, u170, u171, u172, u173, u174, u175, u176, u177, u178, u179, u180, u181, u182, u183, u184, u185, u186, u187, u188, u189, u190, u191, u192, u193] := ef
                                          subst hd
                                          rw [eu_136, eu_140] at ef2
                                          rw [ef2]
                                          clear ef ef2 hu hs hout hall e_136 eu_136 e_140 eu_140
                                          simp only [List.drop_succ_cons, List.drop_zero]
                                          have hWQ := hI
                                          by_cases hre : (⟨ry, rn⟩ : Nm) = ⟨py, pn⟩
                                          · have he := eql28 (sameNm_iff.2 hre)
                                            have HRE := Lib.hid hre
                                            clear hre
                                            go_wp2_with fail
                                            go_roundg (gk - 1)
                                            case measure => have := HM6.out; omega
                                            case rel => exact ⟨m + 1, 8, by have := HM6.out; omega, by omega, fun h => absurd h HJI.out, rfl, by go_num, Lib.hid (.inl ⟨rfl, .inr ((OutIn.succ HJI.out HR.out).2 (.inr HRE.out))⟩), hWQ⟩
                                          · have hs : sameNm ry rn py pn = false := by
                                              cases h : sameNm ry rn py pn
                                              · rfl
                                              · exact absurd (sameNm_iff.1 h) hre
                                            have he := eql28 hs
                                            have HRE := Lib.hid hre
                                            clear hre hs
                                            go_wp2_with fail
                                            go_roundg (gk - 1)
                                            case measure => have := HM6.out; omega
                                            case rel => exact ⟨m + 1, v, by have := HM6.out; omega, by omega, fun h => absurd h HJI.out, rfl, by go_num, Lib.hid (hv.out.iff (or_congr Iff.rfl ((OutIn.succ HJI.out HR.out).trans (or_iff_left HRE.out)).symm)), hWQ⟩
                                      · have gml : ¬ ((m : Int) < (xl.length : Int)) := by omega
                                        have HML : Hid (m = (T9.getD j []).length) := Lib.hid (by rw [HLx.out]; omega)
                                        go_wp2_with fail
                                        go_roundg (G5 - 1)
                                        case measure => have := HGK5.out; have := HMG5.out; omega
                                        case rel => exact ⟨j + 1, v, by have := HMG5.out; omega, by omega, rfl, by go_num, Lib.hid (hv.out.iff (or_congr Iff.rfl (by rw [HML.out]; exact OutIn.done))), hBw⟩
                                · have gl3 : ¬ ((j : Int) < 80) := by omega
                                  have HJ80 : Hid (j = 80) := Lib.hid (by omega)
                                  clear hlt3 hj
                                  go_wp2_with fail
                                  go_roundg (G3 - 1)
                                  case measure => have := HGK3.out; have := HMG3.out; omega
                                  case rel => exact ⟨k3 + 1, v, by have := HMG3.out; omega, by omega, rfl, by go_num, Lib.hid (hv.out.iff (by rw [HJ80.out]; exact ((Bad.succ Hp.out).trans (or_iff_right HNB.out)).symm)), hBw⟩
                      · have gl : ¬ ((k3 : Int) < (ls.length : Int)) := by omega
                        have e6 : Hid (v = er) := Lib.hid (by rw [HER.out]; exact setErr_v HTO.out HG1.out.1 HE20.out.symm (by rw [← HIX.out]; have h := hv.out; rw [show k3 = ls.length by omega] at h; exact h))
                        clear hv
                        go_wp2_with fail
                        go_meet
                        exact ⟨by rw [e6.out], hBw⟩
                  · have e6 : Hid (er = e20) := Lib.hid (by rw [HER.out, HE20.out]; rw [HE20.out] at h20; exact setErr_20 h20)
                    have g0 : (e20 == 0) = false := by simp; exact h20
                    clear h20
                    go_wp2_with fail
                    go_loopg [11, 15] 1 (fun g s11 i wx => g = 1 ∧ s11 = .int .i64 e20 ∧ i = .int .i64 0 ∧ RowKit.Below wq.heap.size wq wx)
                    case atStart => exact ⟨rfl, rfl, rfl, Below.refl _ _⟩
                    case round =>
                      obtain ⟨hg, rfl, rfl, hBw⟩ := hrel
                      clear hg
                      by_cases hl0 : (0 : Int) < (ls.length : Int)
                      · go_wp2_with fail
                        go_meet
                        exact ⟨by rw [e6.out], hBw⟩
                      · go_wp2_with fail
                        go_meet
                        exact ⟨by rw [e6.out], hBw⟩
                case rest =>
                  obtain ⟨rfl, hBw⟩ := hcut
                  have HCLc : Hid (Cel.ok wc.heap.size wc ⟨lo, ls, lc⟩) := Lib.hid ((HCLq.out.below hBw).mono hBw.size)
                  have HBNc := Lib.hid (HBNq.out.below hBw HBNq.out.lt)
                  have HTc := Lib.hid (HTq.out.below hBw HTq.out.lt)
                  have HBBc := Lib.hid (HBBq.out.below hBw HBBq.out.lt)
                  have HGc := Lib.hid (HGq.out.below hBw HGq.out.lt)
                  have HOKc : Hid (∀ c ∈ cs, c.ok wc.heap.size wc) := Lib.hid (fun c hc => ((HOKq.out c hc).below hBw).mono hBw.size)
                  have HDc := Lib.hid (HDq.out.onw hBw)
                  have HEc := Lib.hid (HEq.out.onw hBw)
                  have hBc : RowKit.Below w.heap.size w wc := hBq.trans (hBw.mono hBq.size)
                  clear HBNq HTq HBBq HGq HOKq HDq HEq hBq
                  have HPT : Hid (w.heap.size < wa.heap.size ∧ wa.heap.size < wd.heap.size ∧ wd.heap.size < w5.heap.size) := HPQ
                  clear HCLq
                  have n0 := HBNc.out.cell0
                  have n1 := HBNc.out.cell1
                  have bb0 := HBBc.out.cell0
                  have bb1 := HBBc.out.cell1
                  have gg0 := HGc.out.cell0
                  have gg1 := HGc.out.cell1
                  have tkL : True := trivial
                  have tkD : True := trivial
                  by_cases h0 : er = 0
                  · subst h0
                    have HST0 := Lib.hid (setT_ok HTO.out HG1.out.1 HER.out.symm)
                    obtain ⟨T8, hT8⟩ : ∃ T, T = setT T9 nb na ls := ⟨_, rfl⟩
                    have HST := Lib.hid HST0.out
                    rw [← hT8] at HST
                    have HRE : Hid (Reads T8 ⟨⟨ja, js, jc⟩, ⟨la, ls2, lc2⟩⟩ ∧ Tight ⟨⟨ja, js, jc⟩, ⟨la, ls2, lc2⟩⟩) := Lib.hid (by rw [hT8]; exact HJD.out.2 rfl)
                    have HT8 := Lib.hid hT8
                    clear hT8 HJD HST0
                    obtain ⟨ix, hix⟩ : ∃ i : Nat, i = ixOf nb na := ⟨_, rfl⟩
                    have e2 : s2 = (ix : Int) := by rw [HS2.out, HK.out, hix]; exact atv_end HG1.out.1 HST.out.2.2.2.2.1
                    subst e2
                    have lx : ix < 80 := by rw [hix]; exact ix_lt HG1.out.1 HST.out.2.2.2.2.1
                    have HIX := Lib.hid hix
                    clear hix
                    go_upto_region 42 with (first
                      | (clear tkL; refine wpList_load_tab_g rfl rfl rfl (of_decide_eq_true (by kernel_rfl)) rfl (.inl rfl) _ rfl rfl HTc.out ?_)
                      | (go_at_call 11; clear tkD; refine (differs_any cs ⟨⟨ga, gs, gc⟩, ⟨ka, ks, kc⟩⟩ T9 wc HLC.out.1 HLC.out.2 HOKc.out HDc.out HRD.out HTI.out HTO.out).mono ?_; rintro e w7 ⟨rfl, hb7⟩; clear n0 n1 bb0 bb1 gg0 gg1; have HBN7 := Lib.hid (HBNc.out.below hb7 HBNc.out.lt); have HT7 := Lib.hid (HTc.out.below hb7 HTc.out.lt); have HBB7 := Lib.hid (HBBc.out.below hb7 HBBc.out.lt); have HG7 := Lib.hid (HGc.out.below hb7 HGc.out.lt); have HOK7 : Hid (∀ c ∈ cs, c.ok w7.heap.size w7) := Lib.hid (fun c hc => ((HOKc.out c hc).below hb7).mono hb7.size); have HD7 := Lib.hid (HDc.out.onw hb7); have HE7 := Lib.hid (HEc.out.onw hb7); have hB7 : RowKit.Below w.heap.size w w7 := hBc.trans (hb7.mono hBc.size); clear HBNc HTc HBBc HGc HOKc HDc HEc hBc; have n0 := HBN7.out.cell0; have n1 := HBN7.out.cell1; have bb0 := HBB7.out.cell0; have bb1 := HBB7.out.cell1; have gg0 := HG7.out.cell0; have gg1 := HG7.out.cell1; have HCL7 : Hid (Cel.ok w7.heap.size w7 ⟨lo, ls, lc⟩) := Lib.hid ((HCLc.out.below hb7).mono hb7.size); clear HCLc hb7))
                    go_wp2_with (refine wpList_append0_own (N := w7.heap.size) rfl rfl rfl (Nat.le_refl _) (heap_alloc_new _ _) ⟨lo, ls, lc⟩ rfl ((HCL7.out.below (below1 w7 (.cells #[] 28))).mono (below1 w7 (.cells #[] 28)).size) ?_; intro c8 w8 hl8 hok8 _ hb78)
                    have h78 : RowKit.Below w7.heap.size w7 w8 := (below1 w7 (.cells #[] 28)).trans (hb78.mono (by simp))
                    clear n0 n1 bb0 bb1 gg0 gg1
                    have HBN8 := Lib.hid (HBN7.out.below h78 HBN7.out.lt)
                    have HTab8 := Lib.hid (HT7.out.below h78 HT7.out.lt)
                    have HBB8 := Lib.hid (HBB7.out.below h78 HBB7.out.lt)
                    have HG8 := Lib.hid (HG7.out.below h78 HG7.out.lt)
                    have HOK8 : Hid (∀ c ∈ cs, c.ok w8.heap.size w8) := Lib.hid (fun c hc => ((HOK7.out c hc).below h78).mono h78.size)
                    have HD8 := Lib.hid (HD7.out.onw h78)
                    have HE8 := Lib.hid (HE7.out.onw h78)
                    have hB8 : RowKit.Below w.heap.size w w8 := hB7.trans (h78.mono hB7.size)
                    clear HBN7 HT7 HBB7 HG7 HOK7 HD7 HE7 hB7
                    have HL8 := Lib.hid hl8
                    have HOK8' := Lib.hid hok8
                    obtain ⟨ca, cl, cc⟩ := c8
                    obtain ⟨ra, rn, rc, hrc⟩ := HTab8.out.cellE lx
                    have hrf := HTab8.out.frozen
                    simp only [Cel.v]
                    clear hb78 h78 hl8 hok8
                    go_upto_region 43 with fail
                    obtain ⟨w10, hw10⟩ : ∃ W, w8.setCell ⟨wa.heap.size, ix, none⟩ (.slice ca cl.length cc) = W := ⟨_, rfl⟩
                    obtain ⟨cs2, hcs2⟩ : ∃ c, c = cs.set ix ⟨ca, cl, cc⟩ := ⟨_, rfl⟩
                    have HT10 : Hid (Tab w10 wa.heap.size 31 cs2) := Lib.hid (by rw [← hw10, hcs2]; exact HTab8.out.set ix ⟨ca, cl, cc⟩)
                    have HBN10 : Hid (Boxed2 w10 w.heap.size 26 (.int .u8 nb) (.int .i64 na)) := Lib.hid (by rw [← hw10]; exact HBN8.out.other (by have := HPT.out; omega))
                    have HG10 : Hid (Boxed2 w10 w5.heap.size 35 (.slice ja js.length jc) (.slice la ls2.length lc2)) := Lib.hid (by rw [← hw10]; exact HG8.out.other (by have := HPT.out; omega))
                    have HOK10 : Hid (∀ c ∈ cs2, c.ok w10.heap.size w10) := Lib.hid (fun c hc => by
                      rw [← hw10, World.size_setCell]
                      rw [hcs2] at hc
                      rcases List.mem_or_eq_of_mem_set hc with hc | rfl
                      · exact (HOK8.out c hc).set_tab HTab8.out ix _
                      · exact HOK8'.out.set_tab HTab8.out ix _)
                    have HE10 : Hid (Bds.ok w10.heap.size w10 ⟨⟨ja, js, jc⟩, ⟨la, ls2, lc2⟩⟩) := Lib.hid (by
                      rw [← hw10, World.size_setCell]
                      exact ⟨HE8.out.1.set_tab HTab8.out (fun b o e => by have := HROW.out.1 b o e; have := HPT.out; omega) ix _, HE8.out.2.set_tab HTab8.out (fun b o e => by have := HROW.out.2 b o e; have := HPT.out; omega) ix _⟩)
                    have hB10 : RowKit.Below w.heap.size w w10 := by rw [← hw10]; exact hB8.setCell (p := ⟨wa.heap.size, ix, none⟩) (show w.heap.size ≤ wa.heap.size from by have := HPT.out; omega) _
                    have HL2 : Hid (cs2.length = 80 ∧ cs2.map (fun c => c.l) = T8) := Lib.hid ⟨by rw [hcs2]; simp [HLC.out.1], by rw [hcs2, HT8.out, List.map_set, HLC.out.2, HIX.out]; unfold setT ixOf; rw [show (⟨ca, cl, cc⟩ : Cel).l = ls from HL8.out]⟩
                    rw [hw10]
                    clear hw10 hcs2 hrc hrf HBN8 HTab8 HBB8 HG8 HOK8 HD8 HE8 hB8 HOK8' HCL7
                    have gg0 := HG10.out.cell0
                    have gg1 := HG10.out.cell1
                    have tkM : True := trivial
                    have tkE : True := trivial
                    go_upto_region 45 with (first
                      | (clear tkM; refine wpList_load_tab rfl (.inl rfl) _ rfl rfl HT10.out ?_)
                      | (go_at_call 11; clear tkE; refine (differs_any cs2 ⟨⟨ja, js, jc⟩, ⟨la, ls2, lc2⟩⟩ T8 w10 HL2.out.1 HL2.out.2 HOK10.out HE10.out HRE.out.1 HRE.out.2 HST.out.1).mono ?_; rintro e w11 ⟨rfl, hb11⟩; have HBN11 := Lib.hid (HBN10.out.below hb11 HBN10.out.lt); have HG11 := Lib.hid (HG10.out.below hb11 HG10.out.lt); have HE11 := Lib.hid (HE10.out.onw hb11); have hB11 : RowKit.Below w.heap.size w w11 := hB10.trans (hb11.mono hB10.size); clear gg0 gg1 HBN10 HG10 HE10 HT10 HOK10 hB10 hb11))
                    have HGT : Hid (∀ {W : World}, RowKit.Below w11.heap.size w11 W → W.cell? ⟨w5.heap.size, 0, none⟩ = some (.slice ja js.length jc) ∧ W.cell? ⟨w5.heap.size, 0 + 1, none⟩ = some (.slice la ls2.length lc2)) := Lib.hid fun h => ⟨(HG11.out.below h HG11.out.lt).cell0, (HG11.out.below h HG11.out.lt).cell1⟩
                    have HNT : Hid (∀ {W : World}, RowKit.Below w11.heap.size w11 W → W.cell? ⟨w.heap.size, 0, none⟩ = some (.int .u8 nb) ∧ W.cell? ⟨w.heap.size, 0 + 1, none⟩ = some (.int .i64 na)) := Lib.hid fun h => ⟨(HBN11.out.below h HBN11.out.lt).cell0, (HBN11.out.below h HBN11.out.lt).cell1⟩
                    have HAT : Hid (∀ W, RowKit.Below w11.heap.size w11 W → Calls Try.prog 12 #[.agg #[.slice ja js.length jc, .slice la ls2.length lc2], .agg #[.int .u8 nb, .int .i64 na]] W (NewCel ls W)) := Lib.hid fun W h => by
                      have := at_any ⟨⟨ja, js, jc⟩, ⟨la, ls2, lc2⟩⟩ nb na HG1.out.1 W.heap.size W (Nat.le_refl _) (HE11.out.onw h)
                      rw [HRE.out.1.at_ix HG1.out.1 HST.out.2.2.2.2.1, HST.out.2.2.2.1] at this
                      exact this
                    have HSTC : Hid (∀ W, RowKit.Below w11.heap.size w11 W → ∀ c4 : Cel, c4.l = ls → c4.ok W.heap.size W → Calls Try.prog 17 #[.agg #[.slice ja js.length jc, .slice la ls2.length lc2], .agg #[.int .u8 nb, .int .i64 na], c4.v] W (Changed T8 0 W)) := Lib.hid fun W h c4 hl hk => by
                      have := set_any ⟨⟨ja, js, jc⟩, ⟨la, ls2, lc2⟩⟩ T8 nb na HG1.out.1 c4 W.heap.size W (Nat.le_refl _) (HE11.out.onw h) HRE.out.1 HST.out.1 hk
                      rw [hl, HST.out.2.1, HST.out.2.2.1] at this
                      exact this
                    refine rgT4 11 [some 176, some 177, some 178, some 179, some 180, some 181, some 175, some 182, some 183, some 19, none, some 10] (psiSl45 w11.heap.size w5.heap.size w.heap.size ja js.length jc la ls2.length lc2 nb na ls) (fun w' => RowKit.Below w11.heap.size w11 w') (RAp w11.heap.size 10) (Y45 T8 w11.heap.size) (by kernel_rfl) (by kernel_rfl) (by kernel_rfl) (by kernel_rfl) (fun i9 _ _ _ L9 hL9 _ j9 v9 u9 u9' hne _ h hb => psiSl45_stab w11.heap.size w5.heap.size w.heap.size ja js.length jc la ls2.length lc2 nb na ls w11.heap.size i9 L9 hL9 j9 v9 u9 u9' hne h hb) (fun i9 u9 u9' h hb => RAp.keep hb h (Nat.le_trans (Nat.le_refl _) h.size)) (fun i9 o9 hi9 ho9 L9 hL9 hLi9 hcl9 aq9 w1 hs hout hI hX hdep => ?_) ?_ ((Below.refl _ _).drew) (fun L9 hL9 => Y45.start hL9 (of_decide_eq_true (by kernel_rfl)))
                    · skip
                      match i9, hi9, ho9 with
                      | 0, _, ho9 =>
                        obtain rfl := Option.some.inj ho9
                        refine .inl ⟨rfl, fun K hK0 => ?_⟩
                        have hK := fun (v : Value) (w' : World) (hR : RAp w11.heap.size 10 0 w1 w') hp => hK0 v w' hR hp (hX.other ⟨by decide, by decide, by decide, by decide, by decide⟩ ⟨by decide, by decide, by decide, by decide⟩ (show RowKit.Below w1.heap.size w1 w' from hR))
                        exact ld35 rfl ((hout 9 rfl).trans rfl) (HGT.out hI).1 (HGT.out hI).2 (hK _ _ (show RAp w11.heap.size 10 0 w1 w1 from Below.refl _ _) rfl)
                      | 1, _, ho9 =>
                        obtain rfl := Option.some.inj ho9
                        refine .inl ⟨rfl, fun K hK0 => ?_⟩
                        have hK := fun (v : Value) (w' : World) (hR : RAp w11.heap.size 10 1 w1 w') hp => hK0 v w' hR hp (hX.other ⟨by decide, by decide, by decide, by decide, by decide⟩ ⟨by decide, by decide, by decide, by decide⟩ (show RowKit.Below w1.heap.size w1 w' from hR))
                        exact ld26 rfl ((hout 4 rfl).trans rfl) (HNT.out hI).1 (HNT.out hI).2 (hK _ _ (show RAp w11.heap.size 10 1 w1 w1 from Below.refl _ _) rfl)
                      | 2, _, ho9 =>
                        obtain rfl := Option.some.inj ho9
                        refine .inl ⟨rfl, fun K hK0 => ?_⟩
                        have hK := fun (v : Value) (w' : World) (hR : RAp w11.heap.size 10 2 w1 w') hp => hK0 v w' hR hp (hX.other ⟨by decide, by decide, by decide, by decide, by decide⟩ ⟨by decide, by decide, by decide, by decide⟩ (show RowKit.Below w1.heap.size w1 w' from hR))
                        exact ld35 rfl ((hout 9 rfl).trans rfl) (HGT.out hI).1 (HGT.out hI).2 (hK _ _ (show RAp w11.heap.size 10 2 w1 w1 from Below.refl _ _) rfl)
                      | 3, _, ho9 =>
                        obtain rfl := Option.some.inj ho9
                        refine .inl ⟨rfl, fun K hK0 => ?_⟩
                        have hK := fun (v : Value) (w' : World) (hR : RAp w11.heap.size 10 3 w1 w') hp => hK0 v w' hR hp (hX.other ⟨by decide, by decide, by decide, by decide, by decide⟩ ⟨by decide, by decide, by decide, by decide⟩ (show RowKit.Below w1.heap.size w1 w' from hR))
                        exact ld26 rfl ((hout 4 rfl).trans rfl) (HNT.out hI).1 (HNT.out hI).2 (hK _ _ (show RAp w11.heap.size 10 3 w1 w1 from Below.refl _ _) rfl)
                      | 4, _, ho9 =>
                        obtain rfl := Option.some.inj ho9
                        have dq2 : (aq9.tmps.getD 178 undef) = .agg #[.slice ja js.length jc, .slice la ls2.length lc2] := hdep ⟨2, .data⟩ (by simp) rfl _ rfl
                        have dq3 : (aq9.tmps.getD 179 undef) = .agg #[.int .u8 nb, .int .i64 na] := hdep ⟨3, .data⟩ (by simp) rfl _ rfl
                        refine .inl ⟨rfl, fun K hK0 => ?_⟩
                        exact step_calls rfl enter12 (vs := #[.agg #[.slice ja js.length jc, .slice la ls2.length lc2], .agg #[.int .u8 nb, .int .i64 na]]) (vals2 dq2 dq3) ((HAT.out w1 hI).mono fun e w' hh => by
                          obtain ⟨c2, rfl, hc, hb⟩ := hh
                          exact ⟨_, rfl, hK0 _ _ (show RAp w11.heap.size 10 4 w1 w' from hb) (fun _ => ⟨c2, rfl, hc.out.1, hc.out.2.2⟩) (hX.other ⟨by decide, by decide, by decide, by decide, by decide⟩ ⟨by decide, by decide, by decide, by decide⟩ hb)⟩)
                      | 5, _, ho9 =>
                        obtain rfl := Option.some.inj ho9
                        have dq0 : (aq9.tmps.getD 176 undef) = .agg #[.slice ja js.length jc, .slice la ls2.length lc2] := hdep ⟨0, .data⟩ (by simp) rfl _ rfl
                        have dq1 : (aq9.tmps.getD 177 undef) = .agg #[.int .u8 nb, .int .i64 na] := hdep ⟨1, .data⟩ (by simp) rfl _ rfl
                        have dq4 : L9.getD 10 false = false → ∃ c4 : Cel, (aq9.tmps.getD 180 undef) = c4.v ∧ c4.l = ls ∧ c4.ok w1.heap.size w1 := hdep ⟨4, .data⟩ (by simp) rfl _ rfl
                        refine .inl ⟨rfl, fun K hK0 => ?_⟩
                        have hn10 : L9.getD 10 false = false := by
                          cases h9 : L9.getD 10 false with
                          | false => rfl
                          | true => exact absurd (hcl9 10 _ h9 rfl ⟨5, .chain⟩ (by simp) rfl) (by rw [hLi9]; decide)
                        obtain ⟨c4, hv4, hl4, hk4⟩ := dq4 hn10
                        have hn6 : L9.getD 6 false = false := by
                          cases h9 : L9.getD 6 false with
                          | false => rfl
                          | true => exact absurd (hcl9 6 _ h9 rfl ⟨5, .data⟩ (by simp) rfl) (by rw [hLi9]; decide)
                        have hn7 : L9.getD 7 false = false := by
                          cases h9 : L9.getD 7 false with
                          | false => rfl
                          | true => exact absurd (hcl9 7 _ h9 rfl ⟨6, .data⟩ (by simp) rfl) (by rw [hn6]; decide)
                        exact step_calls rfl enter17 (vs := #[.agg #[.slice ja js.length jc, .slice la ls2.length lc2], .agg #[.int .u8 nb, .int .i64 na], c4.v]) (vals3 dq0 dq1 hv4) ((HSTC.out w1 hI c4 hl4 hk4).mono fun e w' hh => by
                          obtain ⟨bd, rfl, hh2, hb⟩ := hh.both2
                          exact ⟨_, rfl, hK0 _ _ (show RAp w11.heap.size 10 5 w1 w' from hb) ⟨by simp [hL9], _, rfl⟩ (hX.five hn6 hn7 hn10 (hh2.out.2.1 rfl).1 hh2.out.2.2.1 hh2.out.2.2.2.1 hh2.out.2.2.2.2 hb)⟩)
                      | 6, _, ho9 =>
                        obtain rfl := Option.some.inj ho9
                        have dq5 : L9.getD 5 false = true ∧ ∃ V : Value, (aq9.tmps.getD 181 undef) = .tuple #[V, .int .i64 0] := hdep ⟨5, .data⟩ (by simp) rfl _ rfl
                        refine .inl ⟨rfl, fun K hK0 => ?_⟩
                        have hn10 : L9.getD 10 false = false := by
                          cases h9 : L9.getD 10 false with
                          | false => rfl
                          | true => exact absurd (hcl9 10 _ h9 rfl ⟨6, .phase⟩ (by simp) rfl) (by rw [hLi9]; decide)
                        have h5 : L9.getD 5 false = true := dq5.1
                        exact st_move (v := aq9.tmps.getD 181 undef) rfl rfl (hK0 _ _ (show RAp w11.heap.size 10 6 w1 w1 from Below.refl _ _) ⟨by simp [hL9], dq5.2⟩ (hX.six h5 hn10))
                      | 7, _, ho9 =>
                        obtain rfl := Option.some.inj ho9
                        have dq6 : L9.getD 6 false = true ∧ ∃ V : Value, (aq9.tmps.getD 175 undef) = .tuple #[V, .int .i64 0] := hdep ⟨6, .data⟩ (by simp) rfl _ rfl
                        refine .inl ⟨rfl, fun K hK0 => ?_⟩
                        have hn10 : L9.getD 10 false = false := by
                          cases h9 : L9.getD 10 false with
                          | false => rfl
                          | true => exact absurd (hcl9 10 _ h9 rfl ⟨7, .data⟩ (by simp) rfl) (by rw [hLi9]; decide)
                        obtain ⟨h6, V, hv6⟩ := dq6
                        have h5 : L9.getD 5 false = true := hcl9 6 _ h6 rfl ⟨5, .data⟩ (by simp) rfl
                        exact step_extract rfl hv6 rfl (hK0 V _ (show RAp w11.heap.size 10 7 w1 w1 from Below.refl _ _) (show (L9.setIfInBounds 7 true).getD 7 false = true from by simp [hL9]) (hX.seven h5 h6 hn10 hv6))
                      | 8, _, ho9 =>
                        obtain rfl := Option.some.inj ho9
                        have dq6 : L9.getD 6 false = true ∧ ∃ V : Value, (aq9.tmps.getD 175 undef) = .tuple #[V, .int .i64 0] := hdep ⟨6, .data⟩ (by simp) rfl _ rfl
                        refine .inl ⟨rfl, fun K hK0 => ?_⟩
                        obtain ⟨_, V, hv6⟩ := dq6
                        exact step_extract rfl hv6 rfl (hK0 (.int .i64 0) _ (show RAp w11.heap.size 10 8 w1 w1 from Below.refl _ _) rfl (hX.other ⟨by decide, by decide, by decide, by decide, by decide⟩ ⟨by decide, by decide, by decide, by decide⟩ (Below.refl _ _)))
                      | 9, _, ho9 =>
                        obtain rfl := Option.some.inj ho9
                        refine .inl ⟨rfl, fun K hK0 => ?_⟩
                        have hn10 : L9.getD 10 false = false := by
                          cases h9 : L9.getD 10 false with
                          | false => rfl
                          | true => exact absurd (hcl9 10 _ h9 rfl ⟨9, .data⟩ (by simp) rfl) (by rw [hLi9]; decide)
                        exact step_valw (v := .pointer (some ⟨w1.heap.size, 0, none⟩)) (w' := w1.alloc (.cells #[.slice none 0 0, .slice none 0 0] 35)) (by simp only [execOp]; go_simp) (hK0 _ _ (show RAp w11.heap.size 10 9 w1 _ from below1 _ _) (show (L9.setIfInBounds 9 true).getD 9 false = true from by simp [hL9]) (hX.nine hn10 hI.size))
                      | 10, _, ho9 =>
                        obtain rfl := Option.some.inj ho9
                        have dq5 : L9.getD 5 false = true ∧ ∃ V : Value, (aq9.tmps.getD 181 undef) = .tuple #[V, .int .i64 0] := hdep ⟨5, .chain⟩ (by simp) rfl _ rfl
                        have dq7 : L9.getD 7 false = true := hdep ⟨7, .data⟩ (by simp) rfl _ rfl
                        have dq9 : L9.getD 9 false = true := hdep ⟨9, .data⟩ (by simp) rfl _ rfl
                        refine .inl ⟨rfl, fun K hK0 => ?_⟩
                        have h9 : L9.getD 9 false = true := dq9
                        have h7 : L9.getD 7 false = true := dq7
                        have h5 : L9.getD 5 false = true := dq5.1
                        obtain ⟨b9, hv9, hN9, hx9⟩ := hX.box hLi9 h9
                        obtain ⟨bd, hv5, hr5, hk5, _, h182, hne5⟩ := hX.bds hLi9 h5
                        have hv7 := h182 h7
                        have hne := hne5 h9 b9 hv9
                        refine st_store35 rfl hv9 (show aq9.eval (.tmp 182) = _ from hv7) hx9 ?_
                        exact hK0 undef _ (by
                          show RAp w11.heap.size 10 10 w1 _
                          unfold RAp
                          rw [if_pos rfl]
                          refine ⟨some b9, ⟨rfl, rfl, rfl, by simp, fun k hk hkb => ?_⟩, fun b hb => by cases hb; exact hN9⟩
                          have hkb' : k ≠ b9 := fun e => hkb (by rw [e])
                          rw [heap_set_other _ hkb' (by simpa using hk), heap_set_other _ hkb' hk]) trivial (hX.stored hL9 hv9 hx9 hr5 hk5 hne)
                      | i9 + 11, hi9, _ => exact absurd hi9 (by omega)
                    · intro a2 w12 hs hd hout hI hXf hall
                      obtain ⟨tmps, defers⟩ := a2
                      obtain ⟨Lf, hLf, hXf⟩ := hXf
                      obtain ⟨bb, bd, e_19, hx19, hrd19, hok19⟩ := hXf.fin (by rw [hLf]; rfl)
                      have e_183 : (tmps.getD 183 undef) = .int .i64 0 := (hall 8 _ (by decide) rfl).elim fun _ h => h.2
                      simp only at hs hd hout
                      have ef := frameAt [some 176, some 177, some 178, some 179, some 180, some 181, some 175, some 182, some 183, some 19, none, some 10] _ tmps hs hout
                      obtain ⟨sv45, hu⟩ : ∃ u : Nat → Value, u = fun s => tmps.getD s undef := ⟨_, rfl⟩
                      have eu_19 : sv45 19 = .pointer (some ⟨bb, 0, none⟩) := by rw [hu]; exact e_19
                      have eu_183 : sv45 183 = .int .i64 0 := by rw [hu]; exact e_183
                      rw [← hu] at ef
                      have ef2 : tmps = #[Value.slice ao xn cap, Value.agg #[Value.int IntKind.u8 nb, Value.int IntKind.i64 na], Value.slice lo ls.length lc, undef, Value.pointer (some { block := w.heap.size, off := 0 }), undef, Value.bool false, Value.pointer (some { block := wa.heap.size, off := 0 }), Value.pointer (some { block := wd.heap.size, off := 0 }), Value.pointer (some { block := w5.heap.size, off := 0 }), (sv45 10), Value.int IntKind.i64 0, Value.int IntKind.i64 ix, Value.int IntKind.i64 k, Value.int IntKind.i64 k2, u15, u16, u17, u18, (sv45 19), Value.slice lo ls.length lc, Value.int IntKind.i64 ls.length, Value.bool false, undef, Value.slice ao xn cap, tabV cs, tabV cs, Value.agg #[Value.slice ga gs.length gc, Value.slice ka ks.length kc], Value.tuple #[Value.agg #[Value.slice ja js.length jc, Value.slice la ls2.length lc2], Value.int IntKind.i64 0], Value.agg #[Value.slice ga gs.length gc, Value.slice ka ks.length kc], Value.agg #[Value.int IntKind.u8 nb, Value.int IntKind.i64 na], Value.slice lo ls.length lc, Value.tuple #[Value.agg #[Value.slice ja js.length jc, Value.slice la ls2.length lc2], Value.int IntKind.i64 0], Value.agg #[Value.slice ja js.length jc, Value.slice la ls2.length lc2], Value.int IntKind.i64 0, Value.int IntKind.i64 k, Value.bool false, u37, u38, u39, u40, u41, u42, u43, u44, u45, u46, Value.int IntKind.i64 k2, Value.slice lo ls.length lc, Value.int IntKind.i64 ls.length, Value.bool false, u51, u52, u53, u54, u55, u56, u57, u58, u59, u60, u61, u62, u63, u64, u65, u66, u67, u68, u69, u70, u71, u72, u73, u74, u75, u76, u77, u78, u79, u80, u81, u82, u83, u84, u85, u86, u87, u88, u89, u90, u91, u92, u93, u94, u95, u96, u97, u98, u99, u100, u101, u102, u103, u104, u105, u106, u107, u108, u109, u110, u111, u112, u113, u114, u115, u116, u117, u118, u119, u120, u121, u122, u123, u124, u125, u126, u127, u128, u129, u130, u131, u132, u133, u134, u135, u136, u137, u138, u139, u140, u141, Value.int IntKind.i64 0, Value.int IntKind.i64 0, Value.bool false, Value.bool false, tabV cs, Value.agg #[Value.slice ga gs.length gc, Value.slice ka ks.length kc], Value.int IntKind.i64 0, Value.bool false, Value.bool false, Value.int IntKind.i64 0, Value.bool false, u153, u154, u155, u156, u157, u158, u159, u160, u161, u162, u163, u164, u165, Value.int IntKind.i64 ix, Value.slice (some { block := w7.heap.size, off := 0 }) 0 0, Value.slice lo ls.length lc, Value.slice ca cl.length cc, Value.pointer (some { block := wa.heap.size, off := ix }), tabV cs2, Value.agg #[Value.slice ja js.length jc, Value.slice la ls2.length lc2], Value.int IntKind.i64 0, Value.bool false, (sv45 175), (sv45 176), (sv45 177), (sv45 178), (sv45 179), (sv45 180), (sv45 181), (sv45 182), (sv45 183), u184, u185, u186, u187, u188, u189, u190, u191, u192, u193] := ef
                      subst hd
                      rw [eu_19, eu_183] at ef2
                      rw [ef2]
                      clear ef ef2 hu hs hout hall e_19 e_183 eu_19 eu_183 hXf hLf
                      simp only [List.drop_succ_cons, List.drop_zero]
                      obtain ⟨⟨pa, ps, pc⟩, ⟨qa, qs, qc⟩⟩ := bd
                      simp only [Bed.v] at hx19
                      have a0 := hx19.cell0
                      have a1 := hx19.cell1
                      have HG12 := Lib.hid (HG11.out.below hI HG11.out.lt)
                      have gg0 := HG12.out.cell0
                      have gg1 := HG12.out.cell1
                      have HE12 := Lib.hid (HE11.out.onw hI)
                      have HOKB := Lib.hid hok19
                      have HRB := Lib.hid hrd19
                      have hB12 : RowKit.Below w.heap.size w w12 := hB11.trans (hI.mono hB11.size)
                      clear HBN11 HG11 HE11 hB11 hI HGT HNT HAT HSTC hx19 hok19 hrd19
                      go_wp2_with (first
                        | (go_at_call 18; refine (same_beds ⟨⟨pa, ps, pc⟩, ⟨qa, qs, qc⟩⟩ ⟨⟨ja, js, jc⟩, ⟨la, ls2, lc2⟩⟩ T8 T8 _ w12 (Nat.le_refl _) HOKB.out HE12.out HRB.out.zero HRE.out.1.zero).mono ?_; rw [decide_eq_true (rfl : T8 = T8)]; rintro e w15 ⟨rfl, hb15⟩; have hB7 := hB12.trans (hb15.mono hB12.size))
                        | (go_at_call 16; refine (lives_any _).mono ?_; rintro e w8 ⟨rfl, hb8⟩; have hBF := hB7.trans (hb8.mono hB7.size)))
                      go_ret
                      exact ⟨rfl, hBF⟩
                  · have gne : (er != 0) = true := by simp; exact h0
                    have ges : (er != er) = false := by simp
                    have hno := HJD.out.1 h0
                    unfold noBds at hno
                    cases hno
                    simp only [List.length_nil] at gg0 gg1
                    simp only [List.length_nil]
                    clear h0
                    go_wp2_with (first
                      | (clear tkL; refine wpList_load_tab_g rfl rfl rfl (of_decide_eq_true (by kernel_rfl)) rfl (.inl rfl) _ rfl rfl HTc.out ?_)
                      | (go_at_call 11; clear tkD; refine (differs_any cs ⟨⟨ga, gs, gc⟩, ⟨ka, ks, kc⟩⟩ T9 wc HLC.out.1 HLC.out.2 HOKc.out HDc.out HRD.out HTI.out HTO.out).mono ?_; rintro e w7 ⟨rfl, hb7⟩; clear gg0 gg1 bb0 bb1; have HG7 := Lib.hid (HGc.out.below hb7 HGc.out.lt); have gg0 := HG7.out.cell0; have gg1 := HG7.out.cell1; simp only [List.length_nil] at gg0 gg1; have hB7 : RowKit.Below w.heap.size w w7 := hBc.trans (hb7.mono hBc.size))
                      | (go_at_call 16; refine (lives_any _).mono ?_; rintro e w8 ⟨rfl, hb8⟩; have hBF := hB7.trans (hb8.mono hB7.size)))
                    go_ret
                    exact ⟨rfl, hBF⟩
theorem set_law (ao : Option Addr) (xs : List (Nat × Nat)) (cap : Nat) (nb na : Int) (hnb : 0 ≤ nb ∧ nb ≤ 255) (_hna : -9223372036854775808 ≤ na ∧ na ≤ 9223372036854775807) (lo : Option Addr) (ls : List Nm) (lc : Nat) (_hwf : ∀ p ∈ ls, p.wf)
    (w : World) (hll : ls = [] ∨ ∃ b o, lo = some ⟨b, o, none⟩ ∧ b < w.heap.size ∧ ∀ (i : Nat) (p : Nm), ls[i]? = some p → Two w b (o + i * 2) p) (h : LieP w ao xs) :
    Calls Try.prog 4 #[.slice ao xs.length cap, .agg #[.int .u8 nb, .int .i64 na], .slice lo ls.length lc] w fun e w' => e = .returned (.bool true) ∧ Below w.heap.size w w' := by
  by_cases h6 : ls.length ≤ 6
  · exact set_core ao xs cap nb na hnb lo ls lc w ⟨by simp only; omega, hll⟩ h6 h
  · exact set_long ao xs.length cap nb na lo ls.length lc w (by omega)
end Go.Proofs.Ytlhgigmpebgjbaa
