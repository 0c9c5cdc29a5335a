import Derived.Test.YtlhgigmpebgjbaaAtA
namespace Go.Proofs.Ytlhgigmpebgjbaa
open Go.RowKit Go.Sort
def psiAt18 (N : Nat) (B7 : Nat) (k : Nat) (q : Nat) (xb : Nat) (xo : Nat) (xn : Nat) (xc : Nat) (y9 : Int) (n9 : Int) (py : Int) (pn : Int) : Nat → Value → World → Prop
  | 0, v9, _ => v9 = .int .i64 k
  | 1, v9, _ => v9 = .pointer (some ⟨B7, k, none⟩)
  | 2, v9, _ => v9 = .slice (some ⟨xb, xo, none⟩) xn xc
  | 3, v9, _ => v9 = .int .i64 q
  | 4, v9, _ => v9 = .pointer (some ⟨xb, xo + q * 2, none⟩)
  | 5, v9, _ => v9 = .agg #[.int .u8 y9, .int .i64 n9]
  | 6, v9, _ => v9 = .agg #[.int .u8 py, .int .i64 pn]
  | _, _, _ => True
theorem psiAt18_stab (N : Nat) (B7 : Nat) (k : Nat) (q : Nat) (xb : Nat) (xo : Nat) (xn : Nat) (xc : Nat) (y9 : Int) (n9 : Int) (py : Int) (pn : Int) (i9 : Nat) (v9 : Value) (w9 w9' : World) (h : psiAt18 N B7 k q xb xo xn xc y9 n9 py pn i9 v9 w9) (_hb : Below w9.heap.size w9 w9') : psiAt18 N B7 k q xb xo xn xc y9 n9 py pn i9 v9 w9' := by
  match i9, h with
  | 0, h => exact h
  | 1, h => exact h
  | 2, h => exact h
  | 3, h => exact h
  | 4, h => exact h
  | 5, h => exact h
  | 6, h => exact h
  | i9 + 7, _ => exact trivial
set_option maxRecDepth 100000 in
set_option maxHeartbeats 4000000 in
theorem at_law (ao : Option Addr) (xs : List (Nat × Nat)) (cap : Nat) (nb na : Int) (hnb : 0 ≤ nb) (p : Nm) (w : World) (h : LieP w ao xs) :
    Calls Try.prog 3 #[.slice ao xs.length cap, .agg #[.int .u8 nb, .int .i64 na], .agg #[.int .u8 p.y, .int .i64 p.n]] w fun e w' => e = .returned (.bool true) ∧ Below w.heap.size w w' := by
  have HL := Lib.hid h
  clear h
  obtain ⟨T9, hT9⟩ : ∃ T9, T9 = ofM xs := ⟨_, rfl⟩
  have HTO : Hid (TOk T9) := Lib.hid (by rw [hT9]; exact ofM_ok _)
  have HT9 := Lib.hid hT9
  clear hT9
  obtain ⟨xn, hN⟩ : ∃ N, N = xs.length := ⟨_, rfl⟩
  rw [← hN]
  have HN := Lib.hid hN
  clear hN
  obtain ⟨py, pn⟩ := p
  simp only
  go_enter Try.func3, Try.ntmps3
  go_wp2_with fail
  obtain ⟨W0, hW0⟩ : ∃ W, (w.alloc (.cells #[.int .u8 nb, .int .i64 na] 26)).alloc (.cells #[.int .u8 py, .int .i64 pn] 28) = W := ⟨_, rfl⟩
  have hB0 : Below w.heap.size w W0 := by rw [← hW0]; exact below2 _ _ _
  have HBN0 : Hid (Boxed2 W0 w.heap.size 26 (.int .u8 nb) (.int .i64 na)) := Lib.hid (by rw [← hW0]; exact (Boxed2.new w 26 _ _).alloc _)
  have HBI0 : Hid (Boxed2 W0 (w.heap.size + 1) 28 (.int .u8 py) (.int .i64 pn)) := Lib.hid (by
    rw [← hW0]; have := Boxed2.new (w.alloc (.cells #[.int .u8 nb, .int .i64 na] 26)) 28 (.int .u8 py) (.int .i64 pn)
    simp only [World.size_alloc] at this; exact this)
  have HOF : Hid (Calls Try.prog 8 #[.slice ao xn cap] W0 (NewFul T9 W0)) := Lib.hid (by
    rw [HN.out, HT9.out]; exact of_any ao xs cap W0 (HL.out.below hB0))
  rw [hW0]
  clear hW0 HT9 HN HL
  have hz := zero31
  have tkO : True := trivial
  have tkS : True := trivial
  have tkL : True := trivial
  have tkB : True := trivial
  go_wp2_with (first
    | (go_at_call 8; clear tkO; refine HOF.out.mono ?_; rintro e wa ⟨cs, rfl, hcs, hb1⟩; clear HOF; have hB1 : RowKit.Below w.heap.size w wa := hB0.trans (hb1.mono hB0.size); have HBN1 := Lib.hid (HBN0.out.below hb1 HBN0.out.lt); have HBI1 := Lib.hid (HBI0.out.below hb1 HBI0.out.lt); clear hB0 hb1 HBN0 HBI0)
    | (clear tkS; refine wpList_store_tab rfl rfl (.inl rfl) _ _ rfl rfl rfl (tab_new wa 31) hcs.out.1 ?_; intro wb hs2; clear hz; have HT2 := Lib.hid hs2.tab; have hB2 : RowKit.Below w.heap.size w wb := (hB1.alloc hB1.size _).grown hs2.grown (by have := hB1.size; simp; omega) (fun r e => by cases e; exact hB1.size); have HBN2 := Lib.hid ((HBN1.out.alloc (.cells zA 31)).kept hs2.grown (by have := HBN1.out.lt; simp; omega)); have HBI2 := Lib.hid ((HBI1.out.alloc (.cells zA 31)).kept hs2.grown (by have := HBI1.out.lt; simp; omega)); have HOK2 : Hid (∀ c ∈ cs, c.ok wb.heap.size wb) := Lib.hid (fun c hc => Cel.ok.grown_tab (((hcs.out.2.2 c hc).below (below1 wa (.cells zA 31))).mono (below1 wa (.cells zA 31)).size) (tab_new wa 31) hs2.grown); have HLC : Hid (cs.length = 80 ∧ cs.map (fun c => c.l) = T9) := Lib.hid ⟨hcs.out.1, hcs.out.2.1⟩; have HP2 : Hid (w.heap.size ≤ wa.heap.size ∧ wa.heap.size < wb.heap.size) := Lib.hid ⟨hB1.size, HT2.out.lt⟩; clear hs2 hcs hB1 HBN1 HBI1)
    | (clear tkL; refine wpList_load_tab rfl (.inl rfl) _ rfl rfl HT2.out ?_)
    | (go_at_call 9; clear tkB; refine (beds_any cs wb HLC.out.1 HOK2.out).mono ?_; rw [HLC.out.2]; rintro e wd ⟨⟨⟨ga, gs, gc⟩, ⟨ka, ks, kc⟩⟩, rfl, hbd, hb3⟩; simp only [Bds.v, Bed.v]))
  have hB3 : RowKit.Below w.heap.size w wd := hB2.trans (hb3.mono hB2.size)
  obtain ⟨w4, hw4⟩ : ∃ W, wd.alloc (.cells #[.slice ga gs.length gc, .slice ka ks.length kc] 35) = W := ⟨_, rfl⟩
  have h34 : RowKit.Below wd.heap.size wd w4 := by rw [← hw4]; exact below1 _ _
  have h24 : RowKit.Below wb.heap.size wb w4 := hb3.trans (h34.mono hb3.size)
  have hB4 : RowKit.Below w.heap.size w w4 := hB2.trans (h24.mono hB2.size)
  have HBN4 := Lib.hid (HBN2.out.below h24 HBN2.out.lt)
  have HBI4 := Lib.hid (HBI2.out.below h24 HBI2.out.lt)
  have HT4 := Lib.hid (HT2.out.below h24 HT2.out.lt)
  have HOK4 : Hid (∀ c ∈ cs, c.ok w4.heap.size w4) := Lib.hid (fun c hc => ((HOK2.out c hc).below h24).mono h24.size)
  have HBB4 : Hid (Boxed2 w4 wd.heap.size 35 (.slice ga gs.length gc) (.slice ka ks.length kc)) := Lib.hid (by rw [← hw4]; exact Boxed2.new _ _ _ _)
  have HD4 : Hid (Bds.ok w4.heap.size w4 ⟨⟨ga, gs, gc⟩, ⟨ka, ks, kc⟩⟩) := Lib.hid (hbd.out.2.2.1.onw h34)
  have HRD : Hid (Reads T9 ⟨⟨ga, gs, gc⟩, ⟨ka, ks, kc⟩⟩) := Lib.hid hbd.out.1
  have HTI : Hid (Tight ⟨⟨ga, gs, gc⟩, ⟨ka, ks, kc⟩⟩) := Lib.hid hbd.out.2.1
  have HP4 : Hid (w.heap.size ≤ wa.heap.size ∧ wa.heap.size < wd.heap.size ∧ wd.heap.size < w4.heap.size) := Lib.hid ⟨HP2.out.1, Nat.lt_of_lt_of_le HP2.out.2 hb3.size, HBB4.out.lt⟩
  rw [hw4]
  clear hw4 hbd h34 h24 hB3 hb3 hB2 HT2 HOK2 HP2 HBN2 HBI2
  have b0 := HBB4.out.cell0
  have b1 := HBB4.out.cell1
  have tkC : True := trivial
  have tkL : True := trivial
  have tkD : True := trivial
  go_upto_region 5 with (first
    | (go_at_call 10; clear tkC; refine (check_ok ⟨⟨ga, gs, gc⟩, ⟨ka, ks, kc⟩⟩ w4.heap.size w4 (Nat.le_refl _) HD4.out (HRD.out.good HTO.out)).mono ?_; rintro e w5 ⟨rfl, hb5⟩; have HBN5 := Lib.hid (HBN4.out.below hb5 HBN4.out.lt); have HBI5 := Lib.hid (HBI4.out.below hb5 HBI4.out.lt); have HT5 := Lib.hid (HT4.out.below hb5 HT4.out.lt); have HBB5 := Lib.hid (HBB4.out.below hb5 HBB4.out.lt); have HOK5 : Hid (∀ c ∈ cs, c.ok w5.heap.size w5) := Lib.hid (fun c hc => ((HOK4.out c hc).below hb5).mono hb5.size); have HD5 := Lib.hid (HD4.out.onw hb5); have hB5 : RowKit.Below w.heap.size w w5 := hB4.trans (hb5.mono hB4.size); clear HBN4 HBI4 HT4 HBB4 HOK4 HD4 hB4; clear b0 b1 hb5; have b0 := HBB5.out.cell0; have b1 := HBB5.out.cell1)
    | (clear tkL; refine ld_tab (.inl rfl) rfl rfl HT5.out ?_)
    | (go_at_call 11; clear tkD; refine (differs_any cs ⟨⟨ga, gs, gc⟩, ⟨ka, ks, kc⟩⟩ T9 w5 HLC.out.1 HLC.out.2 HOK5.out HD5.out HRD.out HTI.out HTO.out).mono ?_; rintro e w6 ⟨rfl, hb6⟩; have HBN6 := Lib.hid (HBN5.out.below hb6 HBN5.out.lt); have HBI6 := Lib.hid (HBI5.out.below hb6 HBI5.out.lt); have HT6 := Lib.hid (HT5.out.below hb6 HT5.out.lt); have HBB6 := Lib.hid (HBB5.out.below hb6 HBB5.out.lt); have HOK6 : Hid (∀ c ∈ cs, c.ok w6.heap.size w6) := Lib.hid (fun c hc => ((HOK5.out c hc).below hb6).mono hb6.size); have HD6 := Lib.hid (HD5.out.onw hb6); have hB6 : RowKit.Below w.heap.size w w6 := hB5.trans (hb6.mono hB5.size); clear HBN5 HBI5 HT5 HBB5 HOK5 HD5 hB5; clear b0 b1 hb6; have b0 := HBB6.out.cell0; have b1 := HBB6.out.cell1))
  obtain ⟨g5, hg5⟩ : ∃ b, b = isN nb na := ⟨_, rfl⟩
  have HG5 := Lib.hid hg5
  clear hg5
  go_cut [42] from 30 (fun s wx => s = .bool (!g5) ∧ wx = w6)
  case first =>
    have n0 := HBN6.out.cell0
    have n1 := HBN6.out.cell1
    have hi : Hid (g5 = decide (nb ≤ 1 ∧ 1 ≤ na ∧ na ≤ 40)) := HG5
    clear b0 b1
    by_cases h1 : 1 < nb
    · have e5 : Hid (g5 = false) := Lib.hid (by rw [hi.out]; exact decide_eq_false (by omega))
      go_wp2_with fail
      go_meet
      exact ⟨by rw [e5.out]; rfl, rfl⟩
    by_cases h2 : na < 1
    · have e5 : Hid (g5 = false) := Lib.hid (by rw [hi.out]; exact decide_eq_false (by omega))
      go_wp2_with fail
      go_meet
      exact ⟨by rw [e5.out]; rfl, rfl⟩
    by_cases h3 : 40 < na
    · have e5 : Hid (g5 = false) := Lib.hid (by rw [hi.out]; exact decide_eq_false (by omega))
      go_wp2_with fail
      go_meet
      exact ⟨by rw [e5.out]; rfl, rfl⟩
    · have e5 : Hid (g5 = true) := Lib.hid (by rw [hi.out]; exact decide_eq_true (by omega))
      go_wp2_with fail
      go_meet
      exact ⟨by rw [e5.out]; rfl, rfl⟩
  case rest =>
    obtain ⟨rfl, hwc⟩ := hcut
    rw [hwc]
    clear hwc
    go_upto_if 42 with fail
    go_cut [6] from 43 (fun s wx => s = .bool false ∧ RowKit.Below w6.heap.size w6 wx)
    case first =>
      have n0 := HBN6.out.cell0
      have n1 := HBN6.out.cell1
      rcases Bool.eq_false_or_eq_true g5 with h1 | h1
      · subst h1
        go_wp2_with fail
        go_meet
        exact ⟨rfl, Below.refl _ _⟩
      · have hat : Bds.atM ⟨⟨ga, gs, gc⟩, ⟨ka, ks, kc⟩⟩ nb na = [] := by unfold Bds.atM; rw [← HG5.out, h1]; rfl
        have HAT := Lib.hid (at_any ⟨⟨ga, gs, gc⟩, ⟨ka, ks, kc⟩⟩ nb na hnb w6.heap.size w6 (Nat.le_refl _) HD6.out)
        rw [hat] at HAT
        subst h1
        clear hat
        go_wp2_with (go_at_call 12; refine HAT.out.mono ?_; rintro e w7 ⟨⟨qa, ql, qc⟩, rfl, hc, hb⟩; have hl := hc.out.1; simp only at hl; subst hl; simp only [Cel.v, List.length_nil])
        go_meet
        exact ⟨rfl, hb⟩
    case rest =>
      obtain ⟨rfl, hb7⟩ := hcut
      have hB7 : RowKit.Below w.heap.size w wc := hB6.trans (hb7.mono hB6.size)
      have HBI7 := Lib.hid (HBI6.out.below hb7 HBI6.out.lt)
      have HT7 := Lib.hid (HT6.out.below hb7 HT6.out.lt)
      have HBB7 := Lib.hid (HBB6.out.below hb7 HBB6.out.lt)
      have HOK7 : Hid (∀ c ∈ cs, c.ok wc.heap.size wc) := Lib.hid (fun c hc => ((HOK6.out c hc).below hb7).mono hb7.size)
      have HD7 := Lib.hid (HD6.out.onw hb7)
      clear b0 b1 HBN6 HBI6 HT6 HBB6 HOK6 HD6 hB6 hb7 HG5
      go_wp2_with fail
      obtain ⟨w8, hw8⟩ : ∃ W, wc.alloc (.cells #[.int .u8 0, .int .i64 0] 26) = W := ⟨_, rfl⟩
      have h78 : RowKit.Below wc.heap.size wc w8 := by rw [← hw8]; exact below1 _ _
      have HW8 : Hid (Boxed2 w8 wc.heap.size 26 (.int .u8 0) (.int .i64 0)) := Lib.hid (by rw [← hw8]; exact Boxed2.new _ _ _ _)
      have HBI8 := Lib.hid (HBI7.out.below h78 HBI7.out.lt)
      have HT8 := Lib.hid (HT7.out.below h78 HT7.out.lt)
      have HBB8 := Lib.hid (HBB7.out.below h78 HBB7.out.lt)
      have HOK8 : Hid (∀ c ∈ cs, c.ok wc.heap.size w8) := Lib.hid (fun c hc => (HOK7.out c hc).below h78)
      have HD8 : Hid (Bds.ok wc.heap.size w8 ⟨⟨ga, gs, gc⟩, ⟨ka, ks, kc⟩⟩) := Lib.hid (HD7.out.below h78)
      have HB8 : Hid (RowKit.Below w.heap.size w w8 ∧ w.heap.size ≤ wc.heap.size) := Lib.hid ⟨hB7.trans (h78.mono hB7.size), hB7.size⟩
      have HLT : Hid (w.heap.size + 1 < wc.heap.size ∧ wa.heap.size < wc.heap.size ∧ wd.heap.size < wc.heap.size ∧ wc.heap.size ≤ w8.heap.size) := Lib.hid ⟨HBI7.out.lt, HT7.out.lt, HBB7.out.lt, h78.size⟩
      rw [hw8]
      clear hw8 h78 hB7 HBI7 HT7 HBB7 HOK7 HD7
      go_loopg [9, 11, 12] 81 (fun g m f i wr => ∃ (k c : Nat) (u v : Int), g = 81 - k ∧ k ≤ 80 ∧ m = .int .i64 (manyTo T9 k) ∧ f = .int .i64 c ∧ i = .int .i64 k ∧ Hid (WH T9 ⟨py, pn⟩ k 0 c u v ∧ Boxed2 wr wc.heap.size 26 (.int .u8 u) (.int .i64 v)) ∧ RowKit.Below wc.heap.size w8 wr)
      case atStart => exact ⟨0, 0, 0, 0, by omega, by omega, rfl, rfl, rfl, Lib.hid ⟨WH.start _ _, HW8.out⟩, Below.refl _ _⟩
      case round =>
        clear HW8
        obtain ⟨k, c, u, v, hg, hk, rfl, rfl, rfl, hw, hB⟩ := hrel
        have HM := Lib.hid hg
        clear hg
        by_cases hlt : k < 80
        · have gk0 : (k : Int) < 80 := by omega
          obtain ⟨⟨xa, xl, xc⟩, hx⟩ : ∃ c : Cel, cs[k]? = some c := ⟨_, List.getElem?_eq_getElem (by rw [HLC.out.1]; exact hlt)⟩
          have HTK : Hid (T9.getD k [] = xl) := Lib.hid (by
            rw [← HLC.out.2, List.getD_eq_getElem?_getD, List.getElem?_map, hx]; rfl)
          have HTX : Hid (∀ {W : World}, RowKit.Below wc.heap.size w8 W → W.cell? ⟨wa.heap.size, k, none⟩ = some (.slice xa xl.length xc)) := Lib.hid fun h => by
            have := (HT8.out.below h HLT.out.2.1).cell hlt
            rw [(List.getElem?_eq_some_iff.1 hx).2] at this
            exact this
          have HOX : Hid (Cel.ok wc.heap.size w8 ⟨xa, xl, xc⟩) := Lib.hid (HOK8.out _ (List.mem_of_getElem? hx))
          have HX4 : Hid (xl.length ≤ 4) := Lib.hid (by
            rw [← HTK.out]
            rcases getD_mem_or (l := T9) k with h1 | h1
            · exact (HTO.out.st _ h1).1
            · rw [h1]; simp)
          have HMT : Hid (manyTo T9 (k + 1) = manyTo T9 k + xl.length) := Lib.hid (by
            rw [manyTo_succ (by rw [HTO.out.len]; exact hlt), HTK.out])
          have hml := manyTo_le HTO.out k hk
          have hx4 := HX4.out
          have tx := HTX.out hB
          obtain ⟨m0, hm0⟩ : ∃ m, m = manyTo T9 k := ⟨_, rfl⟩
          have HM0 := Lib.hid hm0
          rw [← hm0] at hml ⊢
          clear hx hm0
          go_wp2_with fail
          obtain ⟨G, hG⟩ : ∃ G, G = gk := ⟨_, rfl⟩
          have HMG : Hid (G = 81 - k) := Lib.hid (by rw [hG]; exact HM.out)
          go_loopg [11, 13] (xl.length + 1) (fun g f i wx => ∃ (q c : Nat) (u v : Int), g = xl.length + 1 - q ∧ q ≤ xl.length ∧ f = .int .i64 c ∧ i = .int .i64 q ∧ Hid (WH T9 ⟨py, pn⟩ k q c u v ∧ Boxed2 wx wc.heap.size 26 (.int .u8 u) (.int .i64 v)) ∧ RowKit.Below wc.heap.size w8 wx)
          case atStart => exact ⟨0, c, u, v, by omega, by omega, rfl, rfl, Lib.hid hw.out, hB⟩
          case round =>
            clear hw hB tx
            obtain ⟨q, c, u, v, hg, hq, rfl, rfl, hw, hBx⟩ := hrel
            have HMI := Lib.hid hg
            clear hg
            have tx := HTX.out hBx
            by_cases hql : q < xl.length
            · have gq : (q : Int) < (xl.length : Int) := by omega
              obtain ⟨xb, xo, hxa, hxb, hxc⟩ := (HOX.out).at hql
              obtain rfl : xa = some ⟨xb, xo, none⟩ := hxa
              obtain ⟨⟨y9, n9⟩, hq9⟩ : ∃ p : Nm, xl[q]? = some p := ⟨_, List.getElem?_eq_getElem hql⟩
              have HQ9 : Hid ((T9.getD k [])[q]? = some ⟨y9, n9⟩) := Lib.hid (by rw [HTK.out]; exact hq9)
              have HWR : Hid (wc.heap.size ≤ wr.heap.size) := Lib.hid (Nat.le_trans HLT.out.2.2.2 hBx.size)
              have HXC : Hid (∀ {W : World}, RowKit.Below wr.heap.size wr W → W.cell? ⟨xb, xo + q * 2, none⟩ = some (.int .u8 y9) ∧ W.cell? ⟨xb, xo + q * 2 + 1, none⟩ = some (.int .i64 n9)) := Lib.hid fun h => by
                have h1 := hxc.below (hBx.trans (h.mono HWR.out)) hxb
                simp only [(List.getElem?_eq_some_iff.1 hq9).2] at h1
                exact h1
              have HID : Hid (∀ {W : World}, RowKit.Below wr.heap.size wr W → W.cell? ⟨w.heap.size + 1, 0, none⟩ = some (.int .u8 py) ∧ W.cell? ⟨w.heap.size + 1, 0 + 1, none⟩ = some (.int .i64 pn)) := Lib.hid fun h => by
                have h1 := HBI8.out.below (hBx.trans (h.mono HWR.out)) HLT.out.1
                exact ⟨h1.cell0, h1.cell1⟩
              have HQX : q < xl.length := hql
              have HQX := Lib.hid HQX
              clear hxc hq9 hxb
              go_wp2_with fail
              refine rgT2 7 [some 66, some 67, some 68, some 69, some 70, some 71, some 72, some 73] (psiAt18 w.heap.size wa.heap.size k q xb xo xl.length xc y9 n9 py pn) (fun w' => RowKit.Below wr.heap.size wr w') (by kernel_rfl) (by kernel_rfl) (by kernel_rfl) (by kernel_rfl) (psiAt18_stab w.heap.size wa.heap.size k q xb xo xl.length xc y9 n9 py pn) (fun _ _ h hb => h.trans (hb.mono h.size)) (fun i9 o9 hi9 ho9 aq9 w1 hs hout hI hdep => ?_) ?_ ((Below.refl _ _).drew)
              · skip
                match i9, hi9, ho9 with
                | 0, _, ho9 =>
                  obtain rfl := Option.some.inj ho9
                  refine .inl ⟨rfl, fun K hK => ?_⟩
                  exact st_move rfl ((hout 12 rfl).trans rfl) (hK _ _ (Below.refl _ _) rfl)
                | 1, _, ho9 =>
                  obtain rfl := Option.some.inj ho9
                  have dq0 : (aq9.tmps.getD 66 undef) = .int .i64 k := hdep ⟨0, .data⟩ (by simp) rfl _ rfl
                  refine .inl ⟨rfl, fun K hK => ?_⟩
                  exact st_idx31 (k := k) rfl ((hout 7 rfl).trans rfl) dq0 (by omega) (hK _ _ (Below.refl _ _) rfl)
                | 2, _, ho9 =>
                  obtain rfl := Option.some.inj ho9
                  have dq1 : (aq9.tmps.getD 67 undef) = .pointer (some ⟨wa.heap.size, k, none⟩) := hdep ⟨1, .data⟩ (by simp) rfl _ rfl
                  refine .inl ⟨rfl, fun K hK => ?_⟩
                  exact ld29 rfl dq1 (HTX.out (hBx.trans (hI.mono HWR.out))) (hK _ _ (Below.refl _ _) rfl)
                | 3, _, ho9 =>
                  obtain rfl := Option.some.inj ho9
                  refine .inl ⟨rfl, fun K hK => ?_⟩
                  exact st_move rfl ((hout 13 rfl).trans rfl) (hK _ _ (Below.refl _ _) rfl)
                | 4, _, ho9 =>
                  obtain rfl := Option.some.inj ho9
                  have dq2 : (aq9.tmps.getD 68 undef) = .slice (some ⟨xb, xo, none⟩) xl.length xc := hdep ⟨2, .data⟩ (by simp) rfl _ rfl
                  have dq3 : (aq9.tmps.getD 69 undef) = .int .i64 q := hdep ⟨3, .data⟩ (by simp) rfl _ rfl
                  refine .inl ⟨rfl, fun K hK => ?_⟩
                  exact st_idx29 (k := q) rfl dq2 dq3 HQX.out (hK _ _ (Below.refl _ _) rfl)
                | 5, _, ho9 =>
                  obtain rfl := Option.some.inj ho9
                  have dq4 : (aq9.tmps.getD 70 undef) = .pointer (some ⟨xb, xo + q * 2, none⟩) := hdep ⟨4, .data⟩ (by simp) rfl _ rfl
                  refine .inl ⟨rfl, fun K hK => ?_⟩
                  exact ld28 rfl dq4 (HXC.out hI).1 (HXC.out hI).2 (hK _ _ (Below.refl _ _) rfl)
                | 6, _, ho9 =>
                  obtain rfl := Option.some.inj ho9
                  refine .inl ⟨rfl, fun K hK => ?_⟩
                  exact ld28 rfl ((hout 5 rfl).trans rfl) (HID.out hI).1 (HID.out hI).2 (hK _ _ (Below.refl _ _) rfl)
                | i9 + 7, hi9, _ => exact absurd hi9 (by omega)
              · intro a2 w9 hs hd hout hI hall
                obtain ⟨tmps, defers⟩ := a2
                have e_71 : (tmps.getD 71 undef) = .agg #[.int .u8 y9, .int .i64 n9] := hall 5 _ (by decide) rfl
                have e_72 : (tmps.getD 72 undef) = .agg #[.int .u8 py, .int .i64 pn] := hall 6 _ (by decide) rfl
                simp only at hs hd hout
                have ef := frameAt [some 66, some 67, some 68, some 69, some 70, some 71, some 72, some 73] _ tmps hs hout
                obtain ⟨sv18, hu⟩ : ∃ u : Nat → Value, u = fun s => tmps.getD s undef := ⟨_, rfl⟩
                have eu_71 : sv18 71 = .agg #[.int .u8 y9, .int .i64 n9] := by rw [hu]; exact e_71
                have eu_72 : sv18 72 = .agg #[.int .u8 py, .int .i64 pn] := by rw [hu]; exact e_72
                rw [← hu] at ef
                have ef2 : tmps = #[Value.slice ao xn cap, Value.agg #[Value.int IntKind.u8 nb, Value.int IntKind.i64 na], Value.agg #[Value.int IntKind.u8 py, Value.int IntKind.i64 pn], undef, Value.pointer (some { block := w.heap.size, off := 0 }), Value.pointer (some { block := w.heap.size + 1, off := 0 }), Value.bool false, Value.pointer (some { block := wa.heap.size, off := 0 }), Value.pointer (some { block := wd.heap.size, off := 0 }), Value.int IntKind.i64 (m0 + xl.length), Value.pointer (some { block := wc.heap.size, off := 0 }), Value.int IntKind.i64 c, Value.int IntKind.i64 k, Value.int IntKind.i64 q, undef, undef, undef, Value.slice ao xn cap, tabV cs, tabV cs, Value.agg #[Value.slice ga gs.length gc, Value.slice ka ks.length kc], Value.agg #[Value.slice ga gs.length gc, Value.slice ka ks.length kc], Value.int IntKind.i64 0, Value.bool false, Value.bool false, tabV cs, Value.agg #[Value.slice ga gs.length gc, Value.slice ka ks.length kc], Value.int IntKind.i64 0, Value.bool false, Value.bool false, u30, u31, u32, u33, u34, u35, u36, u37, u38, u39, u40, u41, Value.bool !g5, u43, u44, u45, u46, u47, Value.int IntKind.i64 k, Value.bool true, u50, u51, Value.int IntKind.i64 m0, Value.int IntKind.i64 k, Value.pointer (some { block := wa.heap.size, off := k }), Value.slice (some { block := xb, off := xo }) xl.length xc, Value.int IntKind.i64 xl.length, Value.int IntKind.i64 (m0 + xl.length), Value.int IntKind.i64 q, Value.int IntKind.i64 k, Value.pointer (some { block := wa.heap.size, off := k }), Value.slice (some { block := xb, off := xo }) xl.length xc, Value.int IntKind.i64 xl.length, Value.bool true, u64, u65, (sv18 66), (sv18 67), (sv18 68), (sv18 69), (sv18 70), (sv18 71), (sv18 72), (sv18 73), u74, u75, u76, u77, u78, u79, u80, u81, u82, u83, u84, u85, u86, u87, u88, u89, u90, u91, u92, u93, u94, u95, u96, u97, u98, u99, u100, u101, u102, u103] := ef
                subst hd
                rw [eu_71, eu_72] at ef2
                rw [ef2]
                clear ef ef2 hu hs hout hall e_71 eu_71 e_72 eu_72
                simp only [List.drop_succ_cons, List.drop_zero]
                have hB9 : RowKit.Below wc.heap.size w8 w9 := hBx.trans (hI.mono HWR.out)
                have HW9 : Hid (wc.heap.size ≤ w9.heap.size) := Lib.hid (Nat.le_trans HWR.out hI.size)
                have hW9 := Lib.hid (hw.out.2.below hI hw.out.2.lt)
                have HWH := Lib.hid hw.out.1
                clear hw tx hBx hI HXC HID
                by_cases hpe : (⟨y9, n9⟩ : Nm) = ⟨py, pn⟩
                · have he := eql28 (sameNm_iff.2 hpe)
                  have HPE := Lib.hid hpe
                  have z0 := hW9.out.cell0
                  have z1 := hW9.out.cell1
                  have zf := hW9.out.frozen
                  have hu : IntKind.u8.wrap (k : Int) = (k : Int) := IntWalk.u8_in _ (by omega)
                  have HN13 := Lib.hid (needle_any k w9 hlt)
                  clear hpe
                  go_wp2_with (go_at_call 13; refine HN13.out.mono ?_; rintro e wy ⟨rfl, hby⟩; clear z0 z1 zf; have z0 := (hW9.out.below hby hW9.out.lt).cell0; have z1 := (hW9.out.below hby hW9.out.lt).cell1; have zf := (hW9.out.below hby hW9.out.lt).frozen; have zf1 := ((hW9.out.below hby hW9.out.lt).set0 (.int .u8 ((k / 40 : Nat) : Int))).frozen; have zz1 := ((hW9.out.below hby hW9.out.lt).set0 (.int .u8 ((k / 40 : Nat) : Int))).cell1)
                  go_roundg (gk - 1)
                  case measure => have := HMI.out; omega
                  case rel =>
                    have hh := HWH.out.hit HTO.out (by rw [HQ9.out, HPE.out])
                    refine ⟨q + 1, 1, ((k / 40 : Nat) : Int), ((k % 40 : Nat) : Int) + 1, by have := HMI.out; omega, by omega, by rw [hh.1]; kernel_rfl, by go_num, Lib.hid ⟨hh.2, ?_⟩, ?_⟩
                    · exact ((hW9.out.below hby hW9.out.lt).set0 _).set1 _
                    · exact ((hB9.trans (hby.mono HW9.out)).setCell (p := ⟨wc.heap.size, 0, none⟩) (by simp) _).setCell (p := ⟨wc.heap.size, 1, none⟩) (by simp) _
                · have hs : sameNm y9 n9 py pn = false := by
                    cases h : sameNm y9 n9 py pn
                    · rfl
                    · exact absurd (sameNm_iff.1 h) hpe
                  have he := eql28 hs
                  have HPE := Lib.hid hpe
                  clear hpe hs
                  go_wp2_with fail
                  go_roundg (gk - 1)
                  case measure => have := HMI.out; omega
                  case rel => exact ⟨q + 1, c, u, v, by have := HMI.out; omega, by omega, rfl, by go_num, Lib.hid ⟨HWH.out.miss HQ9.out HPE.out, hW9.out⟩, hB9⟩
            · have gq : ¬ ((q : Int) < (xl.length : Int)) := by omega
              have HQL : Hid (q = xl.length) := Lib.hid (by omega)
              go_wp2_with fail
              go_roundg (G - 1)
              case measure => have := HMG.out; omega
              case rel => exact ⟨k + 1, c, u, v, by have := HMG.out; omega, by omega, by rw [HMT.out, ← HM0.out]; go_num, rfl, by go_num, Lib.hid ⟨hw.out.1.next (by rw [HQL.out, HTK.out]), hw.out.2⟩, hBx⟩
        · have gk1 : ¬ ((k : Int) < 80) := by omega
          have HK80 : Hid (k = 80) := Lib.hid (by omega)
          have hw80 := hw.out
          rw [HK80.out] at hw80
          have hf := hw80.1.done HTO.out HRD.out
          have HWX := Lib.hid hw80.2
          have HBX := Lib.hid (HBB8.out.below hB HLT.out.2.2.1)
          have HIX := Lib.hid (HBI8.out.below hB HLT.out.1)
          have hcr : wc.heap.size ≤ wr.heap.size := Nat.le_trans HLT.out.2.2.2 hB.size
          have HDR : Hid (Bds.ok wr.heap.size wr ⟨⟨ga, gs, gc⟩, ⟨ka, ks, kc⟩⟩) := Lib.hid ((HD8.out.below hB).mono hcr)
          have hBW : RowKit.Below w.heap.size w wr := HB8.out.1.trans (hB.mono HB8.out.2)
          obtain ⟨m0, hm0⟩ : ∃ m, m = manyTo T9 k := ⟨_, rfl⟩
          have HCN : Hid (cntM (Bds.els ⟨⟨ga, gs, gc⟩, ⟨ka, ks, kc⟩⟩) = m0) := Lib.hid (by rw [HRD.out.cnt, hm0, HK80.out, manyTo_done HTO.out.len])
          rw [← hm0]
          have hc1 := hw80.1.le
          have b0 := HBX.out.cell0
          have b1 := HBX.out.cell1
          have j0 := HIX.out.cell0
          have j1 := HIX.out.cell1
          have e26 := eql26 (sameNm_iff.2 (rfl : (⟨u, v⟩ : Nm) = ⟨u, v⟩))
          clear hm0 hw80 hw hB HM hk hlt HK80
          have hc01 : c = 0 ∨ c = 1 := by omega
          rcases hc01 with rfl | rfl
          · rw [if_pos rfl] at hf
            have HF : Hid (findV ⟨⟨ga, gs, gc⟩, ⟨ka, ks, kc⟩⟩ ⟨py, pn⟩ = .tuple #[.agg #[.int .u8 u, .int .i64 v], .int .i64 7]) := Lib.hid hf
            clear hf
            go_wp2_with (first
              | (go_at_call 14; refine (find_any ⟨⟨ga, gs, gc⟩, ⟨ka, ks, kc⟩⟩ ⟨py, pn⟩ wr.heap.size wr (Nat.le_refl _) HDR.out).mono ?_; rw [HF.out]; rintro e wf ⟨rfl, hbf⟩; have HW1 := Lib.hid ((HWX.out.below hbf HWX.out.lt).alloc (.cells #[.int .u8 u, .int .i64 v] 26)); have HX1 := Lib.hid ((HBX.out.below hbf HBX.out.lt).alloc (.cells #[.int .u8 u, .int .i64 v] 26)); have HMX := Lib.hid (Boxed2.new wf 26 (.int .u8 u) (.int .i64 v)); have h2 := hbf.trans ((below1 wf (.cells #[.int .u8 u, .int .i64 v] 26)).mono hbf.size); have HD1 := Lib.hid (HDR.out.onw h2); have hB2 : RowKit.Below w.heap.size w _ := hBW.trans (h2.mono hBW.size); clear b0 b1 j0 j1; have z0 := HW1.out.cell0; have z1 := HW1.out.cell1; have x0 := HX1.out.cell0; have x1 := HX1.out.cell1; have y0 := HMX.out.cell0; have y1 := HMX.out.cell1)
              | (go_at_call 15; refine (count_any ⟨⟨ga, gs, gc⟩, ⟨ka, ks, kc⟩⟩ _ _ (Nat.le_refl _) HD1.out).mono ?_; rw [HCN.out]; rintro e wg ⟨rfl, hbg⟩; have hB3 := hB2.trans (hbg.mono hB2.size))
              | (go_at_call 16; refine (lives_any _).mono ?_; rintro e wh ⟨rfl, hbh⟩; have hBF := hB3.trans (hbh.mono hB3.size)))
            go_ret
            exact ⟨rfl, hBF⟩
          · rw [if_neg (by decide)] at hf
            have HF : Hid (findV ⟨⟨ga, gs, gc⟩, ⟨ka, ks, kc⟩⟩ ⟨py, pn⟩ = .tuple #[.agg #[.int .u8 u, .int .i64 v], .int .i64 0]) := Lib.hid hf
            clear hf
            go_wp2_with (first
              | (go_at_call 14; refine (find_any ⟨⟨ga, gs, gc⟩, ⟨ka, ks, kc⟩⟩ ⟨py, pn⟩ wr.heap.size wr (Nat.le_refl _) HDR.out).mono ?_; rw [HF.out]; rintro e wf ⟨rfl, hbf⟩; have HW1 := Lib.hid ((HWX.out.below hbf HWX.out.lt).alloc (.cells #[.int .u8 u, .int .i64 v] 26)); have HX1 := Lib.hid ((HBX.out.below hbf HBX.out.lt).alloc (.cells #[.int .u8 u, .int .i64 v] 26)); have HMX := Lib.hid (Boxed2.new wf 26 (.int .u8 u) (.int .i64 v)); have h2 := hbf.trans ((below1 wf (.cells #[.int .u8 u, .int .i64 v] 26)).mono hbf.size); have HD1 := Lib.hid (HDR.out.onw h2); have hB2 : RowKit.Below w.heap.size w _ := hBW.trans (h2.mono hBW.size); clear b0 b1 j0 j1; have z0 := HW1.out.cell0; have z1 := HW1.out.cell1; have x0 := HX1.out.cell0; have x1 := HX1.out.cell1; have y0 := HMX.out.cell0; have y1 := HMX.out.cell1)
              | (go_at_call 15; refine (count_any ⟨⟨ga, gs, gc⟩, ⟨ka, ks, kc⟩⟩ _ _ (Nat.le_refl _) HD1.out).mono ?_; rw [HCN.out]; rintro e wg ⟨rfl, hbg⟩; have hB3 := hB2.trans (hbg.mono hB2.size))
              | (go_at_call 16; refine (lives_any _).mono ?_; rintro e wh ⟨rfl, hbh⟩; have hBF := hB3.trans (hbh.mono hB3.size)))
            go_ret
            exact ⟨rfl, hBF⟩
end Go.Proofs.Ytlhgigmpebgjbaa
