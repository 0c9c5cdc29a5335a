import Derived.Test.YtikdhdikaihenaaBackw
import Derived.Test.YtikdhdikaihenaaSame
namespace Go.Proofs.Ytikdhdikaihenaa
open Go.RowKit Go.Sort

def LivesSaid : Prop := ∀ w, Calls Try.prog 9 #[] w fun e w' => e = .returned (.bool true) ∧ Below w.heap.size w w'

theorem MadeAny.out {B : Nat} {w w' : World} {e : Ending} {ps : List Ps} (h : MadeAny B w w' e ps) : ∃ ao cap, e = .returned (.slice ao ps.length cap) ∧ Hid (w'.ownsRow B 33 4 (.slice ao ps.length cap) ps.length (cellsOf ps)) ∧ Lie w' ao ps ∧ Below w.heap.size w w' := by
  obtain ⟨ao, cap, he, ho, hb⟩ := h
  obtain ⟨_, ao2, cap2, hv, _, _, hl⟩ := lie_of_owns ho
  obtain ⟨rfl, rfl⟩ : ao = ao2 ∧ cap = cap2 := by simpa using hv
  exact ⟨ao, cap, he, ho, hl, hb⟩
theorem Made.out {B : Nat} {w w' : World} {e : Ending} {ps : List Ps} (h : Made B w w' e ps) : ∃ ao, e = .returned (.slice ao ps.length ps.length) ∧ Hid (w'.ownsRow B 33 4 (.slice ao ps.length ps.length) ps.length (cellsOf ps)) ∧ Lie w' ao ps ∧ Below w.heap.size w w' := by
  obtain ⟨ao, he, ho, hb⟩ := h
  obtain ⟨_, ao2, cap2, hv, _, _, hl⟩ := lie_of_owns ho
  obtain ⟨rfl, rfl⟩ : ao = ao2 ∧ ps.length = cap2 := by simpa using hv
  exact ⟨ao, he, ho, hl, hb⟩

theorem pos_of (xs : List Int) (h : Bytes xs) : Pos (xs.map pOf) := by
  intro p hp
  obtain ⟨x, hx, rfl⟩ := List.mem_map.1 hp
  have := h x hx
  simp [pOf]; omega

set_option maxRecDepth 100000 in
set_option maxHeartbeats 2000000 in
theorem reduce_core (HLV : LivesSaid) (ao1 ao2 : Option Addr) (xs : List Int) (rs : List Ps) (n1 cap1 n2 cap2 : Nat) (w : World) (hn1 : n1 = xs.length) (hn2 : n2 = rs.length) (hm1 : n1 ≤ 40) (hm2 : n2 ≤ 5)
    (h1 : LieB w ao1 xs) (h2 : Lie w ao2 rs) (hx : Bytes xs) (hp : Pos rs) :
    Calls Try.prog 3 #[.slice ao1 n1 cap1, .slice ao2 n2 cap2] w fun e w' => e = .returned (.bool true) ∧ Below w.heap.size w w' := by
  have HN1 := Lib.hid hn1
  have HN2 := Lib.hid hn2
  have HL1 := Lib.hid h1
  have HL2 := Lib.hid h2
  have HX := Lib.hid hx
  have HP := Lib.hid hp
  clear hn1 hn2 h1 h2 hx hp
  have g1 : ¬ ((40 : Int) < n1) := by omega
  have g2 : ¬ ((5 : Int) < n2) := by omega
  go_enter Try.func3, Try.ntmps3
  go_wp2_with (at_builtin; refine wpList_append_lie rfl _ _ rfl w.heap.size _ 0 [] rfl (World.ownsRow_lit w #[] 0 (Nat.le_refl _) (Nat.zero_le _) rfl) _ _ _ rfl rs HN2.out (HL2.out.below (below1 _ _)) (by omega) (by simp) ?_)
  intro v1 w1 ho1 hg1
  have hb1 : Below w.heap.size w w1 := (below1 w _).grown hg1 (by simp) (by rintro _ ⟨⟩; exact Nat.le_refl _)
  have HO1 := Lib.hid ho1
  clear ho1 hg1
  go_wp2_with (go_at_call 10; refine (of_any _ xs _ _ _ HN1.out hm1 HX.out (HL1.out.below hb1)).mono ?_; intro e w2 hh; obtain ⟨ao, cap, rfl, ho, hl, hb⟩ := hh.out; refine Hid.out ?_)
  have hz1 := hb1.size
  have hb2 : Below w.heap.size w w2 := hb1.trans (hb.mono hz1)
  have HO2 := Lib.hid (owns_below HO1.out hb)
  have HL := Lib.hid hl
  have HBB := Lib.hid hb
  clear hb hl ho HO1
  refine Lib.hid ?_
  have hxl : xs.length ≤ 40 := by rw [← HN1.out]; exact hm1
  have hrl : n2 ≤ 5 := hm2
  have hz2 := hb2.size
  go_wp2_with (at_builtin; (refine wpList_append_lie rfl (.tmp 21) (.tmp 23) rfl w.heap.size _ n2 rs rfl HO2.out _ _ _ rfl (xs.map pOf) (by simp) HL.out (by omega) (by omega) ?_))
  intro v3 w3 ho3 hg3
  have hb3 : Below w.heap.size w w3 := hb2.grown hg3 hb2.size (fun j hj => (HO2.out.lt j hj).1)
  obtain ⟨all, hall⟩ : ∃ all, all = rs ++ xs.map pOf := ⟨_, rfl⟩
  have HPA : Hid (Pos all) := by
    rw [hall]; intro p hp
    rcases List.mem_append.1 hp with h | h
    · exact HP.out p h
    · exact pos_of xs HX.out p h
  rw [← hall] at ho3
  obtain ⟨N, hN⟩ : ∃ N, N = n2 + xs.length := ⟨_, rfl⟩
  rw [← hN] at ho3
  have hN45 : N ≤ 45 := by omega
  obtain ⟨hq, aoA, capA, rfl, hqc, hcm, hlA⟩ := lie_of_owns ho3
  have HLA := Lib.hid hlA
  have HLE := Lib.hid hq
  have HOA := Lib.hid ho3
  clear ho3 hg3 hall hN hq hlA HO2 HL hcm HBB hh hb1 hz1 hb2 HL1 HL2 HP HX
  have hz3 := hb3.size
  have hmk := fun w => run_mk0 (N : Int) N rfl (by omega) w
  have own0 := World.ownsRow_made (base := w.heap.size) (e := 33) (size := 4) w3 (rowNew N) N hz3 (by simp [maxLen]; omega) (rowNew_size _)
  obtain ⟨i0, hi, hz0, hz1, hz2⟩ := info_parts info33
  have HI := Lib.hid (And.intro hi hz1)
  have HW := Lib.hid own0
  clear hi hz0 hz1 hz2 own0
  go_wp2_with (at_builtin; refine wpList_append_fits_any _ rfl (.tmp 27) (.tmp 28) 23 rfl w.heap.size 33 i0 4 Try.underlying23 HI.out.1 HI.out.2 w3.heap.size 0 N [] rfl HW.out aoA N capA (cellsOf all) rfl (by rw [cellsOf_length, ← HLE.out]) (by rintro rfl; exact owns_none HOA.out) ((HLA.out.below (below1 w3 _)).cells) (cellsOf_one _) (by omega) ?_)
  intro w4 ho4 hg4
  have hb43 : Below w3.heap.size w3 w4 := (below1 w3 _).grown hg4 (by simp) (by rintro _ ⟨⟩; exact Nat.le_refl _)
  have hb4 : Below w.heap.size w w4 := hb3.trans (hb43.mono hz3)
  have HLW := Lib.hid (lie_of_owns (ps := all) (by simpa using ho4))
  have HLA := Lib.hid (HLA.out.below hb43)
  clear ho4 hg4 hmk HW HOA hb43 hb3 hz3
  obtain ⟨G, hG⟩ : ∃ G, G = w3.heap.size := ⟨_, rfl⟩
  rw [← hG] at HLW ⊢
  have HLW : Hid (Lie w4 (some ⟨G, 0, none⟩) all) := by
    obtain ⟨_, ao, cp, hv, _, _, hl⟩ := HLW.out
    obtain ⟨rfl, -⟩ : some ⟨G, 0, none⟩ = ao ∧ N = cp := by simpa using hv
    exact hl
  clear hG
  have hz4 := hb4.size
  -- got
  go_wp2_with (go_at_call 11; refine (reduce_any _ all _ _ _ HLE.out (by omega) HLA.out).mono ?_; intro e w5 hh; obtain ⟨aoG, rfl, ho, hl, hb⟩ := hh.out; refine Hid.out ?_)
  have hRL : (red all).length ≤ 45 := by have := length_red all; have := HLE.out; omega
  have HLG := Lib.hid hl
  have HLA := Lib.hid (HLA.out.below hb)
  have HLW := Lib.hid (HLW.out.below hb)
  have hb5 : Below w.heap.size w w5 := hb4.trans (hb.mono hz4)
  obtain ⟨R, hR⟩ : ∃ R, R = red all := ⟨_, rfl⟩
  rw [← hR] at HLG hRL ⊢
  have HR := Lib.hid hR
  obtain ⟨L, hL⟩ : ∃ L, L = R.length := ⟨_, rfl⟩
  rw [← hL] at hRL ⊢
  have HLL := Lib.hid hL
  clear hh ho hl hb hR hL hb4 hz4
  have hz5 := hb5.size
  refine Lib.hid ?_
  -- want
  go_wp2_with (go_at_call 12; refine (reduced_any _ all _ _ _ HLE.out (by omega) HLA.out HPA.out).mono ?_; intro e w6 hh; obtain ⟨aoW, rfl, ho, hl, hb⟩ := hh.out; refine Hid.out ?_)
  rw [← HR.out] at hl ⊢
  rw [← HLL.out]
  have HLQ := Lib.hid hl
  have HLG := Lib.hid (HLG.out.below hb)
  have HLA := Lib.hid (HLA.out.below hb)
  have HLW := Lib.hid (HLW.out.below hb)
  have hb6 : Below w.heap.size w w6 := hb5.trans (hb.mono hz5)
  clear hh ho hl hb hb5 hz5
  have hz6 := hb6.size
  refine Lib.hid ?_
  go_wp2_with (go_at_call 13; refine (same_yes _ _ R _ _ _ HLL.out (by omega) HLG.out HLQ.out).mono ?_; rintro e w7 ⟨rfl, hb⟩; refine Hid.out ?_)
  have HLG := Lib.hid (HLG.out.below hb)
  have HLA := Lib.hid (HLA.out.below hb)
  have HLW := Lib.hid (HLW.out.below hb)
  have hb7 : Below w.heap.size w w7 := hb6.trans (hb.mono hz6)
  clear hb hb6 hz6 HLQ
  have hz7 := hb7.size
  refine Lib.hid ?_
  go_wp2_with (go_at_call 14; refine (backwards_any _ all _ _ _ HLE.out (by omega) HLA.out HPA.out).mono ?_; intro e w8 hh; obtain ⟨aoB, capB, rfl, ho, hl, hb⟩ := hh.out; refine Hid.out ?_)
  rw [← HR.out] at hl ⊢
  rw [← HLL.out]
  have HLQ := Lib.hid hl
  have HLG := Lib.hid (HLG.out.below hb)
  have HLA := Lib.hid (HLA.out.below hb)
  have HLW := Lib.hid (HLW.out.below hb)
  have hb8 : Below w.heap.size w w8 := hb7.trans (hb.mono hz7)
  clear hh ho hl hb hb7 hz7
  have hz8 := hb8.size
  refine Lib.hid ?_
  go_wp2_with (go_at_call 13; refine (same_yes _ _ R _ _ _ HLL.out (by omega) HLG.out HLQ.out).mono ?_; rintro e w9 ⟨rfl, hb⟩; refine Hid.out ?_)
  have HLG := Lib.hid (HLG.out.below hb)
  have HLA := Lib.hid (HLA.out.below hb)
  have HLW := Lib.hid (HLW.out.below hb)
  have hb9 : Below w.heap.size w w9 := hb8.trans (hb.mono hz8)
  clear hb hb8 hz8 HLQ
  have hz9 := hb9.size
  refine Lib.hid ?_
  go_wp2_with (go_at_call 13; refine (same_yes _ _ all _ _ _ HLE.out (by omega) HLW.out HLA.out).mono ?_; rintro e wA ⟨rfl, hb⟩; refine Hid.out ?_)
  have HLG := Lib.hid (HLG.out.below hb)
  have hbA : Below w.heap.size w wA := hb9.trans (hb.mono hz9)
  clear hb hb9 hz9 HLA HLW
  refine Lib.hid ?_
  go_wp2_with fail
  go_loopg [9] (L + 1) (fun g x wr => ∃ k : Nat, k ≤ L ∧ g = L + 1 - k ∧ x = .int .i64 k ∧ Below wA.heap.size wA wr)
  case atStart => exact ⟨0, by omega, rfl, rfl, Below.refl _ _⟩
  case round =>
    obtain ⟨k, hk, hg, rfl, hb⟩ := hrel
    have HM := Lib.hid hg
    clear hg
    have hzA := hbA.size
    have hsz := hb.size
    have HLG := Lib.hid (HLG.out.below hb)
    by_cases hlt : k + 1 < L
    · obtain ⟨b, o, rfl, hbb, hf⟩ := Lie.at HLG.out (i := k) (by rw [← HLL.out]; omega)
      obtain ⟨b', o', hbo, _, hf'⟩ := Lie.at HLG.out (i := k + 1) (by rw [← HLL.out]; omega)
      obtain ⟨rfl, rfl⟩ : b = b' ∧ o = o' := by simpa using hbo
      clear hbo
      have HRR : Hid (Pos R) := by rw [HR.out]; exact fun p hp => HPA.out p (mem_red hp)
      have hc := red_iff.1 (show Red R by rw [HR.out]; exact red_red _) k (by rw [← HLL.out]; exact hlt)
      have d1 := HRR.out.at k
      have d2 := HRR.out.at (k + 1)
      obtain ⟨p1, hp1⟩ : ∃ p, p = R.getD k Ps.nil := ⟨_, rfl⟩
      obtain ⟨p2, hp2⟩ : ∃ p, p = R.getD (k + 1) Ps.nil := ⟨_, rfl⟩
      rw [← hp1] at hf d1 hc
      rw [← hp2] at hf' d2 hc
      clear hp1 hp2
      obtain ⟨y, m, f, d⟩ := p1
      obtain ⟨y', m', f', d'⟩ := p2
      simp only at d1 d2
      obtain ⟨c0, c1, c2, c3⟩ := hf.regrown
      obtain ⟨c4, c5, c6, c7⟩ := hf'.regrown
      have hi1 : IntKind.i64.wrap ((k : Int) + 1) = (k : Int) + 1 := by
        have := wrap_nat (k + 1) (by omega)
        simpa using this
      have b1 : (k : Int) < L := by omega
      have b2 : (k : Int) + 1 < L := by omega
      have b0 : (0 : Int) ≤ (k : Int) := by omega
      have b3 : (0 : Int) ≤ (k : Int) + 1 := by omega
      have t1 : ((k : Int) + 1).toNat = k + 1 := by omega
      have K1 := Lib.hid (lcancel_regrown (c := 0) d1 d2 (by rw [hc]; rfl) wr)
      clear hf hf' hc d1 d2
      go_wp2_with fail
      refine wp_region_quiet_below (by kernel_rfl) (by kernel_rfl) ?_
      repeat (quiet_step (exact K1.out _ _))
      rintro w2 ⟨⟨dq, osq⟩, rfl⟩
      have hbV : Below wA.heap.size wA (grow (redrawn wr dq) osq) := hb.trans ((below_regrown wr dq osq).mono hsz)
      obtain ⟨V, hV⟩ : ∃ V : World, V = grow (redrawn wr dq) osq := ⟨_, rfl⟩
      rw [← hV] at hbV ⊢
      clear hV c0 c1 c2 c3 c4 c5 c6 c7 K1 hi1 b1 b2 b0 b3 t1
      go_wp2
      go_roundg (gk - 1)
      case measure => have := HM.out; omega
      case rel => exact ⟨k + 1, by omega, by have := HM.out; omega, by go_num, hbV⟩
    · have e0 : ¬ ((k : Int) + 1 < L) := by omega
      have HRE : Hid (red R = R) := by rw [HR.out]; exact red_again _
      have hbW : Below w.heap.size w wr := hbA.trans (hb.mono hzA)
      have hzW := hbW.size
      go_wp2_with (go_at_call 11; refine (reduce_any _ R _ _ _ HLL.out (by omega) HLG.out).mono ?_; intro e w5 hh; obtain ⟨aoH, rfl, ho, hl, hb⟩ := hh.out; refine Hid.out ?_)
      rw [HRE.out] at hl ⊢
      rw [← HLL.out]
      have HLQ := Lib.hid hl
      have HLG := Lib.hid (HLG.out.below hb)
      have hb6 : Below w.heap.size w w5 := hbW.trans (hb.mono hzW)
      clear hh ho hl hb hbW hzW
      have hz6 := hb6.size
      refine Lib.hid ?_
      go_wp2_with (go_at_call 13; refine (same_yes _ _ R _ _ _ HLL.out (by omega) HLQ.out HLG.out).mono ?_; rintro e w7 ⟨rfl, hb⟩; refine Hid.out ?_)
      have hb7 : Below w.heap.size w w7 := hb6.trans (hb.mono hz6)
      clear hb
      have hz7 := hb7.size
      refine Lib.hid ?_
      go_wp2_with (go_at_call 9; refine (HLV _).mono ?_; rintro e w8 ⟨rfl, hb⟩; refine Hid.out ?_)
      have hb8 : Below w.heap.size w w8 := hb7.trans (hb.mono hz7)
      clear hb
      refine Lib.hid ?_
      go_wp2_with fail
      go_ret
      exact ⟨rfl, hb8⟩

end Go.Proofs.Ytikdhdikaihenaa
