import Derived.Test.YtjjnhmbgffdenaaDoorGar
namespace Go.Proofs.YtjjnhmbgffdenaaDoor
open Go.RowKit Go.Sort
set_option maxRecDepth 100000 in
set_option maxHeartbeats 16000000 in
/-- OrdersBack: true. -/
theorem back_law (ao : Option Addr) (xs : List (Nat × Nat)) (cap : Nat) (x1 x2 : Int) (w : World) (h : LieP w ao xs) (hs : Stp w) (hx1 : 0 ≤ x1 ∧ x1 ≤ 255) (hx2 : 0 ≤ x2 ∧ x2 ≤ 255) :
    Calls Tryd.prog 6 #[.slice ao xs.length cap, .int .u8 x1, .int .u8 x2] w fun e w' => e = .returned (.bool true) ∧ Below w.heap.size w w' := by
  have HOF := Lib.hid (Of_any ao xs cap w h)
  have HTO := Lib.hid (ofM_ok xs)
  have HS := Lib.hid hs
  have HST := Lib.hid (fun (W : World) (hb : RowKit.Below w.heap.size w W) => lives_any W (hs.below hb hs.lt))
  obtain ⟨T, hT⟩ : ∃ T, ofM xs = T := ⟨_, rfl⟩
  rw [hT] at HOF HTO
  obtain ⟨N, hN⟩ : ∃ N, xs.length = N := ⟨_, rfl⟩
  rw [hN] at HOF ⊢
  obtain ⟨q, hq⟩ : ∃ q, Int.tmod x1 8 = q := ⟨_, rfl⟩
  have hq8 : 0 ≤ q ∧ q ≤ 7 := by rw [← hq, Int.tmod_eq_emod_of_nonneg hx1.1]; omega
  obtain ⟨t, ht⟩ : ∃ t, Int.tmod x2 97 = t := ⟨_, rfl⟩
  have ht8 : 0 ≤ t ∧ t ≤ 96 := by rw [← ht, Int.tmod_eq_emod_of_nonneg hx2.1]; omega
  obtain ⟨r, hr⟩ : ∃ r, q - 4 = r := ⟨_, rfl⟩
  obtain ⟨p, hp⟩ : ∃ p, -13 + 2 * t = p := ⟨_, rfl⟩
  have hr4 : -4 ≤ r ∧ r ≤ 3 := by omega
  have HC := Lib.hid (cs_up hr4)
  have hodd : Int.tmod p 2 ≠ 0 := fun h0 => by have := Int.dvd_of_tmod_eq_zero h0; omega
  have HODD := Lib.hid hodd
  have hok : okR r = true ∧ okR (r + 1) = true := by unfold okR; simp; omega
  have hsb := step_back T hok.1 hok.2
  have hmb := meets_back T p hok.1 hok.2
  have hsg := step_sign T r (lstH T r 95)
  obtain ⟨M1, hM1⟩ : ∃ M, stepM T r 1 (lstH T r 95) = M := ⟨_, rfl⟩
  obtain ⟨M2, hM2⟩ : ∃ M, stepM T (r + 1) 0 (lstH T (r + 1) 95) = M := ⟨_, rfl⟩
  obtain ⟨P1, hP1⟩ : ∃ M, meetsM (lstH T r 95) p 1 = M := ⟨_, rfl⟩
  obtain ⟨P2, hP2⟩ : ∃ M, meetsM (lstH T (r + 1) 95) p 0 = M := ⟨_, rfl⟩
  rw [hM1, hM2] at hsb
  rw [hP1, hP2] at hmb
  rw [hM1] at hsg
  obtain ⟨k, hk⟩ : ∃ k, M1.length = k := ⟨_, rfl⟩
  obtain ⟨m, hm⟩ : ∃ m, P1.length = m := ⟨_, rfl⟩
  have hk9 : k ≤ 130000 := by
    have h1 := flat_len HTO.out r 1 (alongM (backs (lstH T r 95)) (oppM 1))
    have h2 : stepM T r 1 (lstH T r 95) = (alongM (backs (lstH T r 95)) (oppM 1)).flatMap (crs T r 1) := rfl
    have h3 := len_along (backs (lstH T r 95)) (oppM 1)
    have h4 := backs_len (lstH T r 95)
    have h5 := lstH_len T HTO.out r 95
    rw [← hk, ← hM1, h2]
    omega
  have hm9 : m ≤ 30400 := by
    rw [← hm, ← hP1]; unfold meetsM; rw [pastM_len]
    exact Nat.le_trans (List.length_filter_le _ _) (Nat.le_trans (backs_len _) (lstH_len T HTO.out r 95))
  have HM1 := Lib.hid hM1
  have HM2 := Lib.hid hM2
  have HQ1 := Lib.hid hP1
  have HQ2 := Lib.hid hP2
  have HK1 := Lib.hid hk
  have HK2 : Hid (M2.length = k) := Lib.hid (by rw [hsb, List.length_reverse, List.length_map]; exact hk)
  have HN1 := Lib.hid hm
  have HN2 : Hid (P2.length = m) := Lib.hid (by rw [hmb, List.length_reverse, List.length_map]; exact hm)
  have HSB := Lib.hid hsb
  have HMB := Lib.hid hmb
  have HSG := Lib.hid hsg
  have HT0 := Lib.hid True.intro
  have HR := Lib.hid (And.intro hr hp)
  clear h hs hT hN hodd hok hsb hmb hsg hM1 hM2 hP1 hP2 hk hm
  go_enter Tryd.func6, Tryd.ntmps6
  go_wp2_with (first
    | (go_at_call 9; refine HOF.out.mono ?_; rintro e w1 ⟨⟨⟨ga, gs, gc⟩, ⟨ka, ks, kc⟩⟩, rfl, hbd, hb1⟩; have HB1 := Lib.hid hb1; have hsW := Lib.hid (fun (W : World) (hb : RowKit.Below w1.heap.size w1 W) => HS.out.below (HB1.out.trans (hb.mono HB1.out.size)) HS.out.lt); have HBD := Lib.hid hbd.out; simp only [Bds.v, Bed.v]; have HA := Lib.hid (fun (W : World) (hb : RowKit.Below w1.heap.size w1 W) => step_good ⟨⟨ga, gs, gc⟩, ⟨ka, ks, kc⟩⟩ T r 1 w1.heap.size W (by decide) hb.size (HBD.out.2.2.1.below hb) HBD.out.1 HTO.out (hsW.out W hb) HC.out.1 M1 HM1.out k HK1.out); simp only [Bds.v, Bed.v] at HA; have HB9 := Lib.hid (fun (W : World) (hb : RowKit.Below w1.heap.size w1 W) => step_good ⟨⟨ga, gs, gc⟩, ⟨ka, ks, kc⟩⟩ T (r + 1) 0 w1.heap.size W (by decide) hb.size (HBD.out.2.2.1.below hb) HBD.out.1 HTO.out (hsW.out W hb) HC.out.2 M2 HM2.out k HK2.out); simp only [Bds.v, Bed.v] at HB9; have HP1 := Lib.hid (fun (W : World) (hb : RowKit.Below w1.heap.size w1 W) => meets_odd ⟨⟨ga, gs, gc⟩, ⟨ka, ks, kc⟩⟩ T r 1 p w1.heap.size W (by decide) hb.size (HBD.out.2.2.1.below hb) HBD.out.1 HTO.out (hsW.out W hb) HC.out.1 HODD.out P1 HQ1.out m HN1.out); simp only [Bds.v, Bed.v] at HP1; have HP2 := Lib.hid (fun (W : World) (hb : RowKit.Below w1.heap.size w1 W) => meets_odd ⟨⟨ga, gs, gc⟩, ⟨ka, ks, kc⟩⟩ T (r + 1) 0 p w1.heap.size W (by decide) hb.size (HBD.out.2.2.1.below hb) HBD.out.1 HTO.out (hsW.out W hb) HC.out.2 HODD.out P2 HQ2.out m HN2.out); simp only [Bds.v, Bed.v] at HP2; have bx := Boxed2.new w1 26 (.slice ga gs.length gc) (.slice ka ks.length kc); have hb0 := below1 w1 (.cells #[.slice ga gs.length gc, .slice ka ks.length kc] 26); obtain ⟨w2, hw2⟩ : ∃ w2, w1.alloc (.cells #[.slice ga gs.length gc, .slice ka ks.length kc] 26) = w2 := ⟨_, rfl⟩; rw [hw2] at bx hb0; have HBX := Lib.hid (fun (W : World) (hb : RowKit.Below w2.heap.size w2 W) => bx.below hb bx.lt); have HB := Lib.hid (Below.refl w2.heap.size w2); have HB0 := Lib.hid hb0; have x0 := bx.cell0; have x1 := bx.cell1; have HUP := Lib.hid (fun (W : World) (hb : RowKit.Below w2.heap.size w2 W) => HB0.out.trans (hb.mono HB0.out.size)); clear bx hb0 hbd hb1)
    | (go_at_call 16; have HQ := HT0; refine (HA.out _ (HUP.out _ HB.out)).mono ?_; rintro e w3 ⟨ac, rfl, HLc, hb⟩; clear HT0 HQ; have HT1 := Lib.hid True.intro; replace HB := Lib.hid (HB.out.trans (hb.mono HB.out.size)); clear x0 x1; have x0 := (HBX.out _ HB.out).cell0; have x1 := (HBX.out _ HB.out).cell1; (try replace HLc := Lib.hid (HLc.out.below hb)); (try replace HLd := Lib.hid (HLd.out.below hb)); (try replace HLp := Lib.hid (HLp.out.below hb)); (try replace HLq := Lib.hid (HLq.out.below hb)); clear hb)
    | (go_at_call 16; have HQ := HT1; refine (HB9.out _ (HUP.out _ HB.out)).mono ?_; rintro e w4 ⟨ad, rfl, HLd, hb⟩; clear HT1 HQ; replace HB := Lib.hid (HB.out.trans (hb.mono HB.out.size)); clear x0 x1; have x0 := (HBX.out _ HB.out).cell0; have x1 := (HBX.out _ HB.out).cell1; (try replace HLc := Lib.hid (HLc.out.below hb)); (try replace HLd := Lib.hid (HLd.out.below hb)); (try replace HLp := Lib.hid (HLp.out.below hb)); (try replace HLq := Lib.hid (HLq.out.below hb)); clear hb))
  clear x0 x1 HA HB9
  go_loopg [13] (k + 1) (fun g s13 wr => ∃ i : Nat, s13 = .int .i64 i ∧ i ≤ k ∧ g = k + 1 - i ∧ RowKit.Below w4.heap.size w4 wr)
  case atStart => exact ⟨0, rfl, by omega, by omega, Below.refl _ _⟩
  case round =>
    obtain ⟨i, rfl, hi, hg, hbr⟩ := hrel
    have HG := Lib.hid hg
    clear hg
    by_cases hlt : i < k
    · have hiz : (i : Int) < (k : Int) := by omega
      obtain ⟨x, hx⟩ : ∃ x, M1[i]? = some x := ⟨M1[i]'(by rw [HK1.out]; exact hlt), List.getElem?_eq_getElem _⟩
      have hsx := HSG.out x (List.mem_of_getElem? hx)
      have hy : M2[k - 1 - i]? = some x.back := by
        rw [HSB.out, List.getElem?_reverse (by rw [List.length_map, HK1.out]; omega), List.length_map, HK1.out, show k - 1 - (k - 1 - i) = i by omega, List.getElem?_map, hx]
        rfl
      obtain ⟨j, hj⟩ : ∃ j, k - 1 - i = j := ⟨_, rfl⟩
      rw [hj] at hy
      have hje : (k : Int) - 1 - (i : Int) = (j : Int) := by omega
      have hjk : j < k := by omega
      have hjz : (j : Int) < (k : Int) := by omega
      obtain ⟨ba, rfl, c0, c1, c2, c3, c4⟩ := (HLc.out.below hbr).cr hx
      obtain ⟨bb, rfl, e0, e1, e2, e3, e4⟩ := (HLd.out.below hbr).cr hy
      obtain ⟨⟨py, pn⟩, ⟨qy, qn⟩, sg⟩ := x
      simp only [Cx.back] at c0 c1 c2 c3 c4 e0 e1 e2 e3 e4 hsx
      subst hsx
      have hlb := World.block_lt_of_cell? _ _ c0
      have hbn := below1 wr (.cells #[.int .u8 qy, .int .i64 qn, .int .u8 py, .int .i64 pn, .int .i64 1] 55)
      have d0 := (hbn.cell (p := ⟨ba, i * 5, none⟩) hlb).trans c0
      have d1 := (hbn.cell (p := ⟨ba, i * 5 + 1, none⟩) hlb).trans c1
      have d2 := (hbn.cell (p := ⟨ba, i * 5 + 2, none⟩) hlb).trans c2
      have d3 := (hbn.cell (p := ⟨ba, i * 5 + 3, none⟩) hlb).trans c3
      have d4 := (hbn.cell (p := ⟨ba, i * 5 + 4, none⟩) hlb).trans c4
      clear hx hy hj
      go_upto_region 11 with fail
      clear c0 c1 c2 c3 c4 e0 e1 e2 e3 e4
      obtain ⟨wn, hwn⟩ : ∃ wn, wr.alloc (.cells #[.int .u8 qy, .int .i64 qn, .int .u8 py, .int .i64 pn, .int .i64 1] 55) = wn := ⟨_, rfl⟩
      have n0 : wn.cell? ⟨wr.heap.size, 0, none⟩ = some (.int .u8 qy) := by rw [← hwn]; simp
      have n1 : wn.cell? ⟨wr.heap.size, 1, none⟩ = some (.int .i64 qn) := by rw [← hwn]; simp
      have n2 : wn.cell? ⟨wr.heap.size, 2, none⟩ = some (.int .u8 py) := by rw [← hwn]; simp
      have n3 : wn.cell? ⟨wr.heap.size, 3, none⟩ = some (.int .i64 pn) := by rw [← hwn]; simp
      have n4 : wn.cell? ⟨wr.heap.size, 4, none⟩ = some (.int .i64 1) := by rw [← hwn]; simp
      rw [hwn] at hbn d0 d1 d2 d3 d4
      rw [hwn]
      clear hwn
      go_quiet (fail)
      go_wp2_with fail
      go_roundg (k + 1 - (i + 1))
      case measure => have := HG.out; omega
      case rel => exact ⟨i + 1, by go_num, by omega, by omega, below_drewN (hbr.trans (hbn.mono hbr.size)) _⟩
    · obtain rfl : i = k := by omega
      have hiz : ¬ ((i : Int) < (i : Int)) := by omega
      replace HB := Lib.hid (HB.out.trans (hbr.mono HB.out.size))
      have x0 := (HBX.out _ HB.out).cell0
      have x1 := (HBX.out _ HB.out).cell1
      have HT5 := Lib.hid True.intro
      clear HLc HLd hbr
      go_wp2_with (first
        | (go_at_call 17; have HQ := HT5; refine (HP1.out _ (HUP.out _ HB.out)).mono ?_; rintro e w5 ⟨ap, rfl, HLp, hb⟩; clear HT5 HQ; have HT6 := Lib.hid True.intro; replace HB := Lib.hid (HB.out.trans (hb.mono HB.out.size)); clear x0 x1; have x0 := (HBX.out _ HB.out).cell0; have x1 := (HBX.out _ HB.out).cell1; (try replace HLc := Lib.hid (HLc.out.below hb)); (try replace HLd := Lib.hid (HLd.out.below hb)); (try replace HLp := Lib.hid (HLp.out.below hb)); (try replace HLq := Lib.hid (HLq.out.below hb)); clear hb)
        | (go_at_call 17; have HQ := HT6; refine (HP2.out _ (HUP.out _ HB.out)).mono ?_; rintro e w6 ⟨aq, rfl, HLq, hb⟩; clear HT6 HQ; replace HB := Lib.hid (HB.out.trans (hb.mono HB.out.size)); clear x0 x1; have x0 := (HBX.out _ HB.out).cell0; have x1 := (HBX.out _ HB.out).cell1; (try replace HLc := Lib.hid (HLc.out.below hb)); (try replace HLd := Lib.hid (HLd.out.below hb)); (try replace HLp := Lib.hid (HLp.out.below hb)); (try replace HLq := Lib.hid (HLq.out.below hb)); clear hb)
        | (go_at_call 18; refine (inverse_M ap P1 m m _ HN1.out (by omega) (HLp.out.mono (Nat.zero_le _))).mono ?_; rintro e w7 ⟨bo, rfl, HLi, hb⟩; replace HB := Lib.hid (HB.out.trans (hb.mono HB.out.size)); clear x0 x1; have x0 := (HBX.out _ HB.out).cell0; have x1 := (HBX.out _ HB.out).cell1; (try replace HLc := Lib.hid (HLc.out.below hb)); (try replace HLd := Lib.hid (HLd.out.below hb)); (try replace HLp := Lib.hid (HLp.out.below hb)); (try replace HLq := Lib.hid (HLq.out.below hb)); clear hb))
      rw [← HMB.out] at HLi
      clear x0 x1 HP1 HP2 HLp
      go_loopg [19] (m + 1) (fun g s19 wx => ∃ j : Nat, s19 = .int .i64 j ∧ j ≤ m ∧ g = m + 1 - j ∧ RowKit.Below w7.heap.size w7 wx)
      case atStart => exact ⟨0, rfl, by omega, by omega, Below.refl _ _⟩
      case round =>
        obtain ⟨j, rfl, hj, hg, hbx⟩ := hrel
        have HG2 := Lib.hid hg
        clear hg
        by_cases hlt2 : j < m
        · have hjz : (j : Int) < (m : Int) := by omega
          obtain ⟨y, hy⟩ : ∃ y, P2[j]? = some y := ⟨P2[j]'(by rw [HN2.out]; exact hlt2), List.getElem?_eq_getElem _⟩
          obtain ⟨ba, rfl, c0, c1, c2, c3⟩ := (HLi.out.below hbx).pa hy
          obtain ⟨bb, rfl, e0, e1, e2, e3⟩ := (HLq.out.below hbx).pa hy
          clear hy
          go_upto_region 22 with fail
          go_quiet (fail)
          go_wp2_with fail
          go_roundg (m + 1 - (j + 1))
          case measure => have := HG2.out; omega
          case rel => exact ⟨j + 1, by go_num, by omega, by omega, below_drewN hbx _⟩
        · obtain rfl : j = m := by omega
          have hjz : ¬ ((j : Int) < (j : Int)) := by omega
          replace HB := Lib.hid (HB.out.trans (hbx.mono HB.out.size))
          clear HLi HLq hbx
          go_wp2_with (go_at_call 11; refine (HST.out _ (HB1.out.trans ((HUP.out _ HB.out).mono HB1.out.size))).mono ?_; rintro e w9 ⟨rfl, hb⟩; replace HB := Lib.hid (HB.out.trans (hb.mono HB.out.size)); clear hb)
          go_ret
          exact ⟨rfl, HB1.out.trans ((HUP.out _ HB.out).mono HB1.out.size)⟩
end Go.Proofs.YtjjnhmbgffdenaaDoor
