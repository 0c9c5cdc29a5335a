import Derived.Test.YtikdhdikaihenaaReduced
namespace Go.Proofs.Ytikdhdikaihenaa
open Go.RowKit Go.Sort

set_option maxHeartbeats 2000000 in
theorem backwards_any (ao0 : Option Addr) (ps : List Ps) (n cap0 : Nat) (w : World) (hn : n = ps.length) (hm : n ≤ 400000) (h : Lie w ao0 ps) (hp : Pos ps) :
    Calls Try.prog 14 #[.slice ao0 n cap0] w fun e w' => MadeAny w.heap.size w w' e (red ps) := by
  have HN := Lib.hid hn
  have HL := Lib.hid h
  have HP := Lib.hid hp
  clear hn h hp
  go_enter Try.func14, Try.ntmps14
  go_wp2_with (at_builtin; refine wpList_append_lie rfl _ _ rfl w.heap.size _ 0 [] rfl (World.ownsRow_lit w #[] 0 (Nat.le_refl _) (Nat.zero_le _) rfl) _ _ _ rfl ps HN.out (HL.out.below (below1 _ _)) (by omega) (by simp) ?_)
  intro v1 w1 ho1 hg1
  obtain ⟨hq, ao, cap, rfl, -, -, hl1⟩ := lie_of_owns ho1
  have hb1 : Below w.heap.size w w1 := (below1 w _).grown hg1 (by simp) (by rintro _ ⟨⟩; exact Nat.le_refl _)
  have HK : Hid (Kept w w1 ps ps ao n cap) := ⟨HN.out, by simpa using ho1, hl1, rfl, HP.out, by rw [HN.out]; exact Nat.le_refl _⟩
  clear ho1 hg1 hq hl1
  go_wp2_with fail
  go_loopg [3, 4] (n * (n + 2) + n) (fun g v x wr => ∃ (s : List Ps) (ao : Option Addr) (q cap j : Nat), v = .slice ao q cap ∧ x = .int .i64 ((j : Int) - 2) ∧ j ≤ q ∧ q ≤ n ∧ Hid (g = q * (n + 2) + j) ∧ Hid (Kept w wr ps s ao q cap) ∧
    Hid (∀ t, j ≤ t + 1 → t + 1 < q → canc (s.getD t Ps.nil) (s.getD (t + 1) Ps.nil) = false) ∧ Below w.heap.size w wr)
  case atStart => exact ⟨ps, ao, n, cap, n, rfl, rfl, by omega, Nat.le_refl _, rfl, HK, fun t ht ht2 => absurd ht (by omega), hb1⟩
  case round =>
    clear HK hb1
    obtain ⟨s, ao, q, cap, j, rfl, rfl, hiq, hqn, HM, HK, HF, hb⟩ := hrel
    have hsz := hb.size
    by_cases hj : 2 ≤ j
    · obtain ⟨i, rfl⟩ : ∃ i, j = i + 2 := ⟨j - 2, by omega⟩
      rw [show (((i + 2 : Nat) : Int) - 2) = (i : Int) by omega]
      have hlt : i + 1 < q := by omega
      clear hj
      obtain ⟨b, o, rfl, hbb, hf⟩ := Lie.at HK.out.2.2.1 (i := i) (by rw [← HK.out.1]; omega)
      obtain ⟨b', o', hbo, _, hf'⟩ := Lie.at HK.out.2.2.1 (i := i + 1) (by rw [← HK.out.1]; omega)
      obtain ⟨rfl, rfl⟩ : b = b' ∧ o = o' := by simpa using hbo
      clear hbo
      obtain ⟨p1, hp1⟩ : ∃ p, p = s.getD i Ps.nil := ⟨_, rfl⟩
      obtain ⟨p2, hp2⟩ : ∃ p, p = s.getD (i + 1) Ps.nil := ⟨_, rfl⟩
      have d1 := HK.out.2.2.2.2.1.at i
      have d2 := HK.out.2.2.2.2.1.at (i + 1)
      rw [← hp1] at hf d1
      rw [← hp2] at hf' d2
      have HP1 := Lib.hid hp1
      have HP2 := Lib.hid hp2
      clear hp1 hp2
      obtain ⟨y, m, f, d⟩ := p1
      obtain ⟨y', m', f', d'⟩ := p2
      simp only at d1 d2
      obtain ⟨c0, c1, c2, c3⟩ := hf.regrown
      obtain ⟨c4, c5, c6, c7⟩ := hf'.regrown
      have hi1 : IntKind.i64.wrap ((i : Int) + 1) = (i : Int) + 1 := by
        have := wrap_nat (i + 1) (by omega)
        simpa using this
      have b1 : (i : Int) < q := by omega
      have b2 : (i : Int) + 1 < q := by omega
      have b0 : (0 : Int) ≤ (i : Int) := by omega
      have b3 : (0 : Int) ≤ (i : Int) + 1 := by omega
      have t1 : ((i : Int) + 1).toNat = i + 1 := by omega
      clear hf hf'
      cases hc : canc ⟨y, m, f, d⟩ ⟨y', m', f', d'⟩
      · have K1 := Lib.hid (lcancel_regrown (c := 0) d1 d2 (by rw [hc]; rfl) wr)
        have HC := Lib.hid hc
        clear hc d1 d2
        go_wp2_with fail
        refine wp_region_quiet_below (by kernel_rfl) (by kernel_rfl) ?_
        repeat (quiet_step (exact K1.out _ _))
        rintro w2 ⟨⟨dq, osq⟩, rfl⟩
        have hb2 : Below w.heap.size w (grow (redrawn wr dq) osq) := hb.trans ((below_regrown wr dq osq).mono hsz)
        have HK2 : Hid (Kept w (grow (redrawn wr dq) osq) ps s (some ⟨b, o, none⟩) q cap) := ⟨HK.out.1, owns_below HK.out.2.1 (below_regrown wr dq osq), HK.out.2.2.1.below (below_regrown wr dq osq), HK.out.2.2.2⟩
        obtain ⟨V, hV⟩ : ∃ V : World, V = grow (redrawn wr dq) osq := ⟨_, rfl⟩
        rw [← hV] at hb2 HK2 ⊢
        clear hV c0 c1 c2 c3 c4 c5 c6 c7 K1 hi1 b1 b2 b0 b3 t1
        go_wp2
        go_roundg (gk - 1)
        case measure => have := HM.out; omega
        case rel => 
          refine ⟨s, _, q, cap, i + 1, rfl, by go_num, by omega, hqn, show _ = _ by have := HM.out; omega, HK2, fun t ht ht2 => ?_, hb2⟩
          by_cases e : t = i
          · subst e; rw [← HP1.out, ← HP2.out]; exact HC.out
          · exact HF.out t (by omega) ht2
      · have K1 := Lib.hid (lcancel_regrown (c := 1) d1 d2 (by rw [hc]; rfl) wr)
        have HC := Lib.hid hc
        clear hc d1 d2
        go_wp2_with fail
        refine wp_region_quiet_below (by kernel_rfl) (by kernel_rfl) ?_
        repeat (quiet_step (exact K1.out _ _))
        rintro w2 ⟨⟨dq, osq⟩, rfl⟩
        have hb2 : Below w.heap.size w (grow (redrawn wr dq) osq) := hb.trans ((below_regrown wr dq osq).mono hsz)
        have HK2 : Hid (Kept w (grow (redrawn wr dq) osq) ps s (some ⟨b, o, none⟩) q cap) := ⟨HK.out.1, owns_below HK.out.2.1 (below_regrown wr dq osq), HK.out.2.2.1.below (below_regrown wr dq osq), HK.out.2.2.2⟩
        have hbV : b < (grow (redrawn wr dq) osq).heap.size := Nat.lt_of_lt_of_le hbb (below_regrown wr dq osq).size
        obtain ⟨V, hV⟩ : ∃ V : World, V = grow (redrawn wr dq) osq := ⟨_, rfl⟩
        rw [← hV] at hb2 HK2 hbV ⊢
        clear hV c0 c1 c2 c3 c4 c5 c6 c7 K1 hi1 HK hb hsz hbb
        have hsz := hb2.size
        have hqc : q ≤ cap := owns_room HK2.out.2.1
        have w2 : IntKind.i64.wrap ((i : Int) + 2) = (i : Int) + 2 := by
          have := wrap_nat (i + 2) (by omega)
          simpa using this
        have b4 : (i : Int) ≤ cap := by omega
        have b5 : (i : Int) + 2 ≤ q := by omega
        have b6 : (0 : Int) ≤ (i : Int) + 2 := by omega
        have t2 : ((i : Int) + 2).toNat = i + 2 := by omega
        have c0 : ¬ cap = 0 := by omega
        have HB : Hid (V.heap.size ≠ b) := show V.heap.size ≠ b by omega
        go_wp2_with fail
        go_region_law (first
          | (refine step_append_lie rfl (.tmp 26) (.tmp 29) rfl w.heap.size (.slice (some ⟨V.heap.size, 0, none⟩) 0 0) 0 [] (by simp [Act.eval]) (World.ownsRow_lit V.drew #[] 0 hsz (Nat.zero_le _) rfl) (some ⟨b, o, none⟩) i cap (by simp [Act.eval]) (s.take i) (by rw [List.length_take, ← HK2.out.1]; omega) (lie_take (HK2.out.2.2.1.below (below_own V _)) i) (by omega) (by simp; omega) ?_; intro v2 w2 ho2 hg2; have hl2 : Lie w2 (some ⟨b, o, none⟩) s := (HK2.out.2.2.1.below (below_own V _)).grown hg2 (by rintro _ _ ⟨⟩ ⟨⟩; exact HB.out rfl); have hb3 : Below w.heap.size w w2 := ((hb2.drew).alloc hsz _).grown hg2 (by simp; omega) (by rintro _ ⟨⟩; exact hsz); have hz2 := hb3.size)
          | (refine step_append_lie rfl (.tmp 30) (.tmp 34) rfl w.heap.size _ (0 + i) ([] ++ s.take i) (by simp [Act.eval]) ho2 _ (q - (i + 2)) _ (by simp [Act.eval]; exact ⟨rfl, rfl⟩) (s.drop (i + 2)) (by rw [List.length_drop, ← HK2.out.1]) (lie_drop (cap := cap) hl2 (by rw [← HK2.out.1]; exact hqc) (by intro h; first | rfl | simp [h])) (by omega) hz2 ?_; intro v3 w3 ho3 hg3))
        obtain ⟨hq3, ao3, cap3, rfl, -, -, hl3⟩ := lie_of_owns ho3
        have hq4 : 0 + i + (q - (i + 2)) = q - 2 := by omega
        rw [hq4] at hq3 ho3 ⊢
        rw [List.nil_append] at hq3 ho3 hl3
        have HK3 : Hid (Kept w w3 ps (s.take i ++ s.drop (i + 2)) ao3 (q - 2) cap3) :=
          ⟨hq3, ho3, hl3, (red_removed s i (by rw [← HK2.out.1]; exact hlt) (by rw [← HP1.out, ← HP2.out]; exact HC.out)).trans HK2.out.2.2.2.1, HK2.out.2.2.2.2.1.cut i, by have := HK2.out.2.2.2.2.2; omega⟩
        have hb4 : Below w.heap.size w w3 := hb3.grown hg3 hz2 (fun j hj => (ho2.lt j hj).1)
        clear hq3 ho3 hl3 hq4 hg3 hg2 ho2 hl2 hb3 hz2 b1 b2 b0 b3 t1 b4 b5 b6 t2 c0 hb2
        go_wp2
        all_goals
          go_roundg ((q - 2) * (n + 2) + (q - 2))
          case measure =>
            have h1 := HM.out
            have h2 : q * (n + 2) = (q - 2) * (n + 2) + 2 * (n + 2) := by rw [← Nat.add_mul]; congr 1; omega
            omega
          case rel => exact ⟨_, _, q - 2, _, q - 2, rfl, rfl, Nat.le_refl _, by omega, rfl, HK3, fun t ht ht2 => absurd ht (by omega), hb4⟩
    · have hs : s = red ps := by
        rw [← HK.out.2.2.2.1]
        refine (red_id (red_iff.2 fun t ht => HF.out t (by omega) ?_)).symm
        have := HK.out.1; omega
      subst hs
      have e0 : ¬ ((0 : Int) ≤ (j : Int) - 2) := by omega
      go_wp2
      go_ret
      exact ⟨ao, cap, by rw [← HK.out.1]; rfl, by rw [← HK.out.1]; exact HK.out.2.1, hb⟩

end Go.Proofs.Ytikdhdikaihenaa
