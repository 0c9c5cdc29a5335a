import Derived.Test.YtikdhdikaihenaaLawReduce
import Derived.Test.YtikdhdikaihenaaInv
namespace Go.Proofs.Ytikdhdikaihenaa
open Go.RowKit Go.Sort

theorem dirs_of (xs : List Int) (h : Bytes xs) : Dirs (xs.map pOf) := by
  intro p hp
  obtain ⟨x, hx, rfl⟩ := List.mem_map.1 hp
  have := h x hx
  simp [pOf]; omega
theorem inv_length (ps : List Ps) : (inv ps).length = ps.length := by simp [inv]
theorem inv_getD (ps : List Ps) (k : Nat) (h : k < ps.length) : (inv ps).getD k Ps.nil = bck (ps.getD (ps.length - 1 - k) Ps.nil) := by
  have h2 : ps.length - 1 - k < ps.length := by omega
  simp [inv, List.getD, h, h2]

set_option maxRecDepth 100000 in
set_option maxHeartbeats 4000000 in
theorem inverse_core (HLV : LivesSaid) (ao1 ao2 ao3 : Option Addr) (xs ys : List Int) (rs : List Ps) (n1 cap1 n2 cap2 n3 cap3 : Nat) (w : World) (hn1 : n1 = xs.length) (hn2 : n2 = ys.length) (hn3 : n3 = rs.length)
    (hm1 : n1 ≤ 20) (hm2 : n2 ≤ 20) (hm3 : n3 ≤ 20) (h1 : LieB w ao1 xs) (h2 : LieB w ao2 ys) (h3 : Lie w ao3 rs) (hx : Bytes xs) (hy : Bytes ys) :
    Calls Try.prog 4 #[.slice ao1 n1 cap1, .slice ao2 n2 cap2, .slice ao3 n3 cap3] w fun e w' => e = .returned (.bool true) ∧ Below w.heap.size w w' := by
  have HN1 := Lib.hid hn1
  have HN2 := Lib.hid hn2
  have HN3 := Lib.hid hn3
  have HL1 := Lib.hid h1
  have HL2 := Lib.hid h2
  have HL3 := Lib.hid h3
  have HX := Lib.hid hx
  have HY := Lib.hid hy
  clear hn1 hn2 hn3 h1 h2 h3 hx hy
  have g1 : ¬ ((20 : Int) < n1) := by omega
  have g2 : ¬ ((20 : Int) < n2) := by omega
  have g3 : ¬ ((20 : Int) < n3) := by omega
  have hxl : xs.length ≤ 20 := by rw [← HN1.out]; exact hm1
  have hyl : ys.length ≤ 20 := by rw [← HN2.out]; exact hm2
  have e1 : (xs.map pOf).length = xs.length := List.length_map _
  have e2 : (ys.map pOf).length = ys.length := List.length_map _
  have E1 := Lib.hid e1
  have E2 := Lib.hid e2
  clear e1 e2
  obtain ⟨a, ha⟩ : ∃ a, a = xs.map pOf := ⟨_, rfl⟩
  obtain ⟨b, hb⟩ : ∃ b, b = ys.map pOf := ⟨_, rfl⟩
  have HA := Lib.hid ha
  have HB := Lib.hid hb
  have al : a.length ≤ 20 := by rw [ha]; simpa using hxl
  have bl : b.length ≤ 20 := by rw [hb]; simpa using hyl
  have DA : Hid (Dirs a) := by rw [ha]; exact dirs_of xs HX.out
  have of1 : ∀ W, LieB W ao1 xs → Calls Try.prog 10 #[.slice ao1 n1 cap1] W fun e w' => MadeAny W.heap.size W w' e a := fun W h => by rw [ha]; exact of_any _ xs _ _ _ HN1.out (by omega) HX.out h
  have of2 : ∀ W, LieB W ao2 ys → Calls Try.prog 10 #[.slice ao2 n2 cap2] W fun e w' => MadeAny W.heap.size W w' e b := fun W h => by rw [hb]; exact of_any _ ys _ _ _ HN2.out (by omega) HY.out h
  have OF1 := Lib.hid of1
  have OF2 := Lib.hid of2
  clear ha hb of1 of2
  obtain ⟨la, hla⟩ : ∃ la, la = a.length := ⟨_, rfl⟩
  obtain ⟨lb, hlb⟩ : ∃ lb, lb = b.length := ⟨_, rfl⟩
  have HLA := Lib.hid hla
  have HLB := Lib.hid hlb
  rw [← hla] at al
  rw [← hlb] at bl
  clear hla hlb
  go_enter Try.func4, Try.ntmps4
  go_wp2_with (go_at_call 10; refine (OF1.out _ HL1.out).mono ?_; intro e W1 hh; obtain ⟨aoA, cap_aoA, rfl, -, hl, hbc⟩ := hh.out; refine Hid.out ?_)
  rw [← HLA.out]
  have LA := Lib.hid hl
  clear hh hl
  have HL1 := Lib.hid (HL1.out.below hbc)
  have HL2 := Lib.hid (HL2.out.below hbc)
  have HL3 := Lib.hid (HL3.out.below hbc)
  have hb_W1 : Below w.heap.size w W1 := hbc
  clear hbc
  have hz_W1 := hb_W1.size
  refine Lib.hid ?_
  go_wp2_with (go_at_call 10; refine (OF2.out _ HL2.out).mono ?_; intro e W2 hh; obtain ⟨aoB, cap_aoB, rfl, -, hl, hbc⟩ := hh.out; refine Hid.out ?_)
  rw [← HLB.out]
  have LB := Lib.hid hl
  clear hh hl
  have HL2 := Lib.hid (HL2.out.below hbc)
  have HL3 := Lib.hid (HL3.out.below hbc)
  have LA := Lib.hid (LA.out.below hbc)
  have hb_W2 : Below w.heap.size w W2 := hb_W1.trans (hbc.mono hz_W1)
  clear hbc hb_W1 hz_W1
  have hz_W2 := hb_W2.size
  refine Lib.hid ?_
  go_wp2_with (go_at_call 16; refine (inverse_any _ a _ _ _ HLA.out (by omega) LA.out).mono ?_; intro e W3 hh; obtain ⟨aoI, rfl, -, hl, hbc⟩ := hh.out; refine Hid.out ?_)
  rw [inv_length, ← HLA.out]
  have LI := Lib.hid hl
  clear hh hl
  have HL3 := Lib.hid (HL3.out.below hbc)
  have LA := Lib.hid (LA.out.below hbc)
  have LB := Lib.hid (LB.out.below hbc)
  have hb_W3 : Below w.heap.size w W3 := hb_W2.trans (hbc.mono hz_W2)
  clear hbc hb_W2 hz_W2
  have hz_W3 := hb_W3.size
  refine Lib.hid ?_
  go_wp2_with (at_builtin; refine wpList_append_lie rfl (.tmp 35) (.tmp 36) rfl W3.heap.size _ 0 [] rfl (World.ownsRow_lit W3 #[] 0 (Nat.le_refl _) (Nat.zero_le _) rfl) _ _ _ rfl a HLA.out (LA.out.below (below1 _ _)) (by omega) (by simp) ?_)
  intro vW4 W4 ho hg
  have hbx : Below W3.heap.size W3 W4 := (below1 W3 _).grown hg (by simp) (by rintro _ ⟨⟩; exact Nat.le_refl _)
  have HO := Lib.hid ho
  clear ho hg
  go_wp2_with (at_builtin; refine wpList_append_lie rfl (.tmp 37) (.tmp 38) rfl W3.heap.size _ la a rfl HO.out _ la _ rfl (inv a) (by rw [inv_length]; exact HLA.out) (LI.out.below hbx) (by omega) hbx.size ?_)
  intro vW5 W5 ho hg
  have hby : Below W3.heap.size W3 W5 := hbx.grown hg hbx.size (fun j hj => (HO.out.lt j hj).1)
  obtain ⟨hq, aoC, cap_aoC, rfl, -, -, hl⟩ := lie_of_owns ho
  have LC := Lib.hid hl
  have HLC := Lib.hid hq
  clear ho hg hq hl hbx HO
  have HL3 := Lib.hid (HL3.out.below hby)
  have LA := Lib.hid (LA.out.below hby)
  have LB := Lib.hid (LB.out.below hby)
  have LI := Lib.hid (LI.out.below hby)
  have hb_W5 : Below w.heap.size w W5 := hb_W3.trans (hby.mono hz_W3)
  clear hby hb_W3 hz_W3
  have hz_W5 := hb_W5.size
  have RC : Hid (red (a ++ inv a) = []) := by have := red_inv DA.out []; rw [List.nil_append] at this; exact this
  go_wp2_with (go_at_call 11; refine (reduce_any _ (a ++ inv a) _ _ _ (by simpa using HLC.out) (by omega) LC.out).mono ?_; intro e W6 hh; obtain ⟨aoD, rfl, -, hl, hbc⟩ := hh.out; refine Hid.out ?_)
  rw [RC.out]
  have LD := Lib.hid hl
  clear hh hl
  have HL3 := Lib.hid (HL3.out.below hbc)
  have LA := Lib.hid (LA.out.below hbc)
  have LB := Lib.hid (LB.out.below hbc)
  have LI := Lib.hid (LI.out.below hbc)
  have hb_W6 : Below w.heap.size w W6 := hb_W5.trans (hbc.mono hz_W5)
  clear hbc hb_W5 hz_W5
  have hz_W6 := hb_W6.size
  refine Lib.hid ?_
  go_wp2_with (go_at_call 16; refine (inverse_any _ (inv a) _ _ _ (by rw [inv_length]; exact HLA.out) (by omega) LI.out).mono ?_; intro e W7 hh; obtain ⟨aoE, rfl, -, hl, hbc⟩ := hh.out; refine Hid.out ?_)
  rw [inv_inv DA.out, ← HLA.out]
  rw [inv_inv DA.out] at hl
  have LE := Lib.hid hl
  clear hh hl
  have HL3 := Lib.hid (HL3.out.below hbc)
  have LA := Lib.hid (LA.out.below hbc)
  have LB := Lib.hid (LB.out.below hbc)
  have LI := Lib.hid (LI.out.below hbc)
  have hb_W7 : Below w.heap.size w W7 := hb_W6.trans (hbc.mono hz_W6)
  clear hbc hb_W6 hz_W6
  have hz_W7 := hb_W7.size
  refine Lib.hid ?_
  go_wp2_with (go_at_call 13; refine (same_yes _ _ a _ _ _ HLA.out (by omega) LE.out LA.out).mono ?_; rintro e W8 ⟨rfl, hbc⟩; refine Hid.out ?_)
  have HL3 := Lib.hid (HL3.out.below hbc)
  have LA := Lib.hid (LA.out.below hbc)
  have LB := Lib.hid (LB.out.below hbc)
  have LI := Lib.hid (LI.out.below hbc)
  have hb_W8 : Below w.heap.size w W8 := hb_W7.trans (hbc.mono hz_W7)
  clear hbc hb_W7 hz_W7
  have hz_W8 := hb_W8.size
  refine Lib.hid ?_
  go_wp2_with (at_builtin; refine wpList_append_lie rfl (.tmp 50) (.tmp 51) rfl W8.heap.size _ 0 [] rfl (World.ownsRow_lit W8 #[] 0 (Nat.le_refl _) (Nat.zero_le _) rfl) _ _ _ rfl a HLA.out (LA.out.below (below1 _ _)) (by omega) (by simp) ?_)
  intro vW9 W9 ho hg
  have hbx : Below W8.heap.size W8 W9 := (below1 W8 _).grown hg (by simp) (by rintro _ ⟨⟩; exact Nat.le_refl _)
  have HO := Lib.hid ho
  clear ho hg
  go_wp2_with (at_builtin; refine wpList_append_lie rfl (.tmp 52) (.tmp 53) rfl W8.heap.size _ la a rfl HO.out _ _ _ rfl b HLB.out (LB.out.below hbx) (by omega) hbx.size ?_)
  intro vW10 W10 ho hg
  have hby : Below W8.heap.size W8 W10 := hbx.grown hg hbx.size (fun j hj => (HO.out.lt j hj).1)
  obtain ⟨hq, aoF, cap_aoF, rfl, -, -, hl⟩ := lie_of_owns ho
  have LF := Lib.hid hl
  have HLF := Lib.hid hq
  clear ho hg hq hl hbx HO
  have HL3 := Lib.hid (HL3.out.below hby)
  have LA := Lib.hid (LA.out.below hby)
  have LB := Lib.hid (LB.out.below hby)
  have hb_W10 : Below w.heap.size w W10 := hb_W8.trans (hby.mono hz_W8)
  clear hby hb_W8 hz_W8
  have hz_W10 := hb_W10.size
  obtain ⟨R, hR⟩ : ∃ R, R = red (a ++ b) := ⟨_, rfl⟩
  obtain ⟨L, hL⟩ : ∃ L, L = R.length := ⟨_, rfl⟩
  have HR := Lib.hid hR
  have HLL := Lib.hid hL
  have hRL : L ≤ 40 := by rw [hL, hR]; have := length_red (a ++ b); simp at this; have := HLA.out; have := HLB.out; omega
  have hra : (red a).length ≤ 20 := by have := length_red a; have := HLA.out; omega
  have hrb : (red b).length ≤ 20 := by have := length_red b; have := HLB.out; omega
  clear hR hL
  obtain ⟨lra, hlra⟩ : ∃ l, l = (red a).length := ⟨_, rfl⟩
  obtain ⟨lrb, hlrb⟩ : ∃ l, l = (red b).length := ⟨_, rfl⟩
  have HLRA := Lib.hid hlra
  have HLRB := Lib.hid hlrb
  rw [← hlra] at hra
  rw [← hlrb] at hrb
  clear hlra hlrb
  go_wp2_with (go_at_call 11; refine (reduce_any _ (a ++ b) _ _ _ (by simpa using HLF.out) (by omega) LF.out).mono ?_; intro e W11 hh; obtain ⟨aoG, rfl, -, hl, hbc⟩ := hh.out; refine Hid.out ?_)
  rw [← HR.out] at hl ⊢
  rw [← HLL.out]
  have LG := Lib.hid hl
  clear hh hl
  have HL3 := Lib.hid (HL3.out.below hbc)
  have LA := Lib.hid (LA.out.below hbc)
  have LB := Lib.hid (LB.out.below hbc)
  have hb_W11 : Below w.heap.size w W11 := hb_W10.trans (hbc.mono hz_W10)
  clear hbc hb_W10 hz_W10
  have hz_W11 := hb_W11.size
  refine Lib.hid ?_
  have HO0 := Lib.hid (World.ownsRow_lit (e := 33) (size := 4) W11 #[] 0 (Nat.le_refl _) (Nat.zero_le _) rfl)
  have LA1 := Lib.hid (LA.out.below (below1 W11 (.cells #[] 33)))
  go_wp2_with (go_at_call 11; refine (reduce_any _ a _ _ _ HLA.out (by omega) LA1.out).mono ?_; intro e W12 hh; obtain ⟨aoH, rfl, -, hl, hbc⟩ := hh.out; refine Hid.out ?_)
  rw [← HLRA.out]
  have HO := Lib.hid (owns_below HO0.out hbc)
  have LH := Lib.hid hl
  have hbx : Below W11.heap.size W11 W12 := (below1 _ _).trans (hbc.mono (by simp))
  clear hh hl hbc HO0 LA1
  have hbz := hbx.size
  refine Lib.hid ?_
  go_wp2_with (at_builtin; refine wpList_append_lie rfl (.tmp 56) (.tmp 58) rfl W11.heap.size _ 0 [] rfl HO.out _ _ _ rfl (red a) HLRA.out LH.out (by omega) hbz ?_)

  intro v3 W14 ho hg
  have hby : Below W11.heap.size W11 W14 := hbx.grown hg hbz (by rintro _ ⟨⟩; exact Nat.le_refl _)
  have HO := Lib.hid ho
  clear ho hg hbx hbz LH
  go_wp2_with (go_at_call 11; refine (reduce_any _ b _ _ _ HLB.out (by omega) (LB.out.below hby)).mono ?_; intro e W15 hh; obtain ⟨aoJ, rfl, -, hl, hbc⟩ := hh.out; refine Hid.out ?_)
  rw [← HLRB.out]
  have HO := Lib.hid (owns_below HO.out hbc)
  have LJ := Lib.hid hl
  have hbx : Below W11.heap.size W11 W15 := hby.trans (hbc.mono hby.size)
  clear hh hl hbc hby
  have hbz := hbx.size
  refine Lib.hid ?_
  go_wp2_with (at_builtin; refine wpList_append_lie rfl (.tmp 59) (.tmp 61) rfl W11.heap.size _ lra (red a) rfl HO.out _ lrb _ rfl (red b) HLRB.out LJ.out (by omega) hbz ?_)
  intro v5 W16 ho hg
  have hby : Below W11.heap.size W11 W16 := hbx.grown hg hbz (fun j hj => (HO.out.lt j hj).1)
  obtain ⟨hq, aoK, cap_aoK, rfl, -, -, hl⟩ := lie_of_owns ho
  have LK := Lib.hid hl
  have HLK := Lib.hid hq
  clear ho hg hq hl hbx hbz HO LJ
  have HL3 := Lib.hid (HL3.out.below hby)
  have LG := Lib.hid (LG.out.below hby)
  have hb_W16 : Below w.heap.size w W16 := hb_W11.trans (hby.mono hz_W11)
  clear hby hb_W11 hz_W11
  have hz_W16 := hb_W16.size
  go_wp2_with (go_at_call 11; refine (reduce_any _ (red a ++ red b) _ _ _ HLK.out (by omega) LK.out).mono ?_; intro e W17 hh; obtain ⟨aoM, rfl, -, hl, hbc⟩ := hh.out; refine Hid.out ?_)
  rw [red_parts, ← HR.out] at hl ⊢
  rw [← HLL.out]
  have LM := Lib.hid hl
  clear hh hl
  have HL3 := Lib.hid (HL3.out.below hbc)
  have LG := Lib.hid (LG.out.below hbc)
  have hb_W17 : Below w.heap.size w W17 := hb_W16.trans (hbc.mono hz_W16)
  clear hbc hb_W16 hz_W16
  have hz_W17 := hb_W17.size
  refine Lib.hid ?_
  go_wp2_with (go_at_call 13; refine (same_yes _ _ R _ _ _ HLL.out (by omega) LG.out LM.out).mono ?_; rintro e W18 ⟨rfl, hbc⟩; refine Hid.out ?_)
  have HL3 := Lib.hid (HL3.out.below hbc)
  have LG := Lib.hid (LG.out.below hbc)
  have hb_W18 : Below w.heap.size w W18 := hb_W17.trans (hbc.mono hz_W17)
  clear hbc hb_W17 hz_W17
  have hz_W18 := hb_W18.size
  refine Lib.hid ?_
  go_wp2_with (go_at_call 16; refine (inverse_any _ rs _ _ _ HN3.out (by omega) HL3.out).mono ?_; intro e W19 hh; obtain ⟨aoN, rfl, -, hl, hbc⟩ := hh.out; refine Hid.out ?_)
  rw [inv_length, ← HN3.out]
  have LN := Lib.hid hl
  clear hh hl
  have HL3 := Lib.hid (HL3.out.below hbc)
  have hb_W19 : Below w.heap.size w W19 := hb_W18.trans (hbc.mono hz_W18)
  clear hbc hb_W18 hz_W18
  have hz_W19 := hb_W19.size
  refine Lib.hid ?_
  go_wp2_with fail
  have hA := hb_W19
  have hzA := hA.size
  go_loopg [13] (n3 + 1) (fun g x wr => ∃ k : Nat, k ≤ n3 ∧ g = n3 + 1 - k ∧ x = .int .i64 k ∧ Below W19.heap.size W19 wr)
  case atStart => exact ⟨0, by omega, rfl, rfl, Below.refl _ _⟩
  case round =>
    obtain ⟨k, hk, hg, rfl, hb⟩ := hrel
    have HM := Lib.hid hg
    clear hg
    have hsz := hb.size
    by_cases hlt : k < n3
    · obtain ⟨b1, o1, rfl, hbb, hf⟩ := Lie.at (HL3.out.below hb) (i := n3 - 1 - k) (by rw [← HN3.out]; omega)
      obtain ⟨b2, o2, rfl, hbb2, hf2⟩ := Lie.at (LN.out.below hb) (i := k) (by rw [inv_length, ← HN3.out]; exact hlt)
      have hgd : (inv rs).getD k Ps.nil = bck (rs.getD (n3 - 1 - k) Ps.nil) := by
        have := inv_getD rs k (by rw [← HN3.out]; exact hlt)
        rw [← HN3.out] at this
        exact this
      rw [hgd] at hf2
      clear hgd
      obtain ⟨p, hp⟩ : ∃ p, p = rs.getD (n3 - 1 - k) Ps.nil := ⟨_, rfl⟩
      rw [← hp] at hf hf2
      clear hp
      obtain ⟨y, m, f, d⟩ := p
      obtain ⟨c0, c1, c2, c3⟩ := hf
      simp only at c0 c1 c2 c3
      by_cases hd : d = 1
      · subst hd
        have hf3 : Four wr b2 (o2 + k * 4) ⟨y, m, f, 0⟩ := hf2
        have b0 : (0 : Int) ≤ (k : Int) := by omega
        have b9 : (k : Int) < n3 := by omega
        go_wp2_with fail
        obtain ⟨V0, hV0⟩ : ∃ V0 : World, V0 = wr.alloc (.cells #[.int .u8 y, .int .i64 m, .bool f, .int .u8 0] 33) := ⟨_, rfl⟩
        rw [← hV0]
        have f1 : Four V0 wr.heap.size 0 ⟨y, m, f, 0⟩ := by rw [hV0]; exact four_new _ _ _ _ _
        have f2 : Four V0 b2 (o2 + k * 4) ⟨y, m, f, 0⟩ := by rw [hV0]; exact hf3.below (below1 _ _) hbb2
        have hbV0 : Below W19.heap.size W19 V0 := by rw [hV0]; exact hb.alloc hsz _
        clear hV0 hf3 c0 c1 c2 c3
        obtain ⟨c0, c1, c2, c3⟩ := f1.regrown
        obtain ⟨c4, c5, c6, c7⟩ := f2.regrown
        simp only [Nat.zero_add] at c0 c1 c2 c3
        have hsz0 := hbV0.size
        refine wp_region_quiet_below (by kernel_rfl) (by kernel_rfl) ?_
        repeat (quiet_step (fail))
        rintro w2 ⟨⟨dq, osq⟩, rfl⟩
        have hbV : Below W19.heap.size W19 (grow (redrawn V0 dq) osq) := hbV0.trans ((below_regrown V0 dq osq).mono hsz0)
        obtain ⟨V, hV⟩ : ∃ V : World, V = grow (redrawn V0 dq) osq := ⟨_, rfl⟩
        rw [← hV] at hbV ⊢
        clear hV c0 c1 c2 c3 c4 c5 c6 c7 b0 b9
        go_wp2
        go_roundg (gk - 1)
        case measure => have := HM.out; omega
        case rel => exact ⟨k + 1, by omega, by have := HM.out; omega, by go_num, hbV⟩
      · have hf4 : Four wr b2 (o2 + k * 4) ⟨y, m, f, 1⟩ := by
          have := hf2
          simp only [bck, hd, if_false] at this
          exact this
        clear hf2
        have hf3 : Four wr b2 (o2 + k * 4) ⟨y, m, f, 1⟩ := hf4
        have b0 : (0 : Int) ≤ (k : Int) := by omega
        have b9 : (k : Int) < n3 := by omega
        go_wp2_with fail
        obtain ⟨V0, hV0⟩ : ∃ V0 : World, V0 = wr.alloc (.cells #[.int .u8 y, .int .i64 m, .bool f, .int .u8 1] 33) := ⟨_, rfl⟩
        rw [← hV0]
        have f1 : Four V0 wr.heap.size 0 ⟨y, m, f, 1⟩ := by rw [hV0]; exact four_new _ _ _ _ _
        have f2 : Four V0 b2 (o2 + k * 4) ⟨y, m, f, 1⟩ := by rw [hV0]; exact hf3.below (below1 _ _) hbb2
        have hbV0 : Below W19.heap.size W19 V0 := by rw [hV0]; exact hb.alloc hsz _
        clear hV0 hf3 hf4 c0 c1 c2 c3
        obtain ⟨c0, c1, c2, c3⟩ := f1.regrown
        obtain ⟨c4, c5, c6, c7⟩ := f2.regrown
        simp only [Nat.zero_add] at c0 c1 c2 c3
        have hsz0 := hbV0.size
        refine wp_region_quiet_below (by kernel_rfl) (by kernel_rfl) ?_
        repeat (quiet_step (fail))
        rintro w2 ⟨⟨dq, osq⟩, rfl⟩
        have hbV : Below W19.heap.size W19 (grow (redrawn V0 dq) osq) := hbV0.trans ((below_regrown V0 dq osq).mono hsz0)
        obtain ⟨V, hV⟩ : ∃ V : World, V = grow (redrawn V0 dq) osq := ⟨_, rfl⟩
        rw [← hV] at hbV ⊢
        clear hV c0 c1 c2 c3 c4 c5 c6 c7 b0 b9
        go_wp2
        go_roundg (gk - 1)
        case measure => have := HM.out; omega
        case rel => exact ⟨k + 1, by omega, by have := HM.out; omega, by go_num, hbV⟩
    · have e0 : ¬ ((k : Int) < n3) := by omega
      have hbW : Below w.heap.size w wr := hA.trans (hb.mono hzA)
      have hzW := hbW.size
      go_wp2_with (go_at_call 9; refine (HLV _).mono ?_; rintro e w8 ⟨rfl, hbc⟩; refine Hid.out ?_)
      have hb8 : Below w.heap.size w w8 := hbW.trans (hbc.mono hzW)
      clear hbc
      refine Lib.hid ?_
      go_wp2_with fail
      go_ret
      exact ⟨rfl, hb8⟩

end Go.Proofs.Ytikdhdikaihenaa
