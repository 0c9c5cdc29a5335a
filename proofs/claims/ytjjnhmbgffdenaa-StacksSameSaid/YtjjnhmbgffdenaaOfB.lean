import Derived.Test.YtjjnhmbgffdenaaOfA
namespace Go.Proofs.Ytjjnhmbgffdenaa
open Go.RowKit Go.Sort

/-- Pairs of bytes lie in memory. -/
def LieP (w : World) (ao : Option Addr) (xs : List (Nat × Nat)) : Prop :=
  xs = [] ∨ ∃ b o, ao = some ⟨b, o, none⟩ ∧ b < w.heap.size ∧ ∀ (i : Nat) (x : Nat × Nat), xs[i]? = some x → w.cell? ⟨b, o + i * 2, none⟩ = some (.int .u8 x.1) ∧ w.cell? ⟨b, o + i * 2 + 1, none⟩ = some (.int .u8 x.2)
theorem LieP.below {w w' : World} {ao : Option Addr} {xs : List (Nat × Nat)} (h : LieP w ao xs) (hb : Below w.heap.size w w') : LieP w' ao xs := by
  rcases h with h | ⟨b, o, h1, h2, h3⟩
  · exact .inl h
  · exact .inr ⟨b, o, h1, Nat.lt_of_lt_of_le h2 hb.size, fun i p hp => by rw [hb.cell (p := ⟨b, o + i * 2, none⟩) h2, hb.cell (p := ⟨b, o + i * 2 + 1, none⟩) h2]; exact h3 i p hp⟩
theorem LieP.at {w : World} {ao : Option Addr} {xs : List (Nat × Nat)} (h : LieP w ao xs) {i : Nat} (hi : i < xs.length) :
    ∃ b o, ao = some ⟨b, o, none⟩ ∧ b < w.heap.size ∧ w.cell? ⟨b, o + i * 2, none⟩ = some (.int .u8 xs[i].1) ∧ w.cell? ⟨b, o + i * 2 + 1, none⟩ = some (.int .u8 xs[i].2) := by
  rcases h with rfl | ⟨b, o, h1, h2, h3⟩
  · simp at hi
  · exact ⟨b, o, h1, h2, h3 i _ (List.getElem?_eq_getElem hi)⟩
/-- What a law's filling returns: a table. -/
def NewFul (m : List (List Nm)) (w : World) (e : Ending) (w' : World) : Prop := ∃ cs : List Cel, e = .returned (tabV cs) ∧ Hid (cs.length = 80 ∧ cs.map (fun c => c.l) = m ∧ ∀ c ∈ cs, c.ok w'.heap.size w') ∧ Below w.heap.size w w'

set_option maxRecDepth 100000 in
set_option maxHeartbeats 1000000 in
theorem of_any (ao : Option Addr) (xs : List (Nat × Nat)) (cap : Nat) (w : World) (h : LieP w ao xs) :
    Calls Try.prog 8 #[.slice ao xs.length cap] w (NewFul (ofM xs) w) := by
  have HL := Lib.hid h
  clear h
  obtain ⟨R, hR⟩ : ∃ R, R = ofAll (xs.take 40) (List.replicate 80 [], 0) := ⟨_, rfl⟩
  have HR : Hid (R.1 = ofM xs) := Lib.hid (by rw [hR]; rfl)
  have HR0 : Hid (ofAll ((xs.take 40).drop 0) (List.replicate 80 [], 0) = R) := Lib.hid (by rw [hR]; rfl)
  clear hR
  have hz := zero31
  obtain ⟨N, hN⟩ : ∃ N, N = xs.length := ⟨_, rfl⟩
  rw [← hN]
  have HN := Lib.hid hN
  clear hN
  go_enter Try.func8, Try.ntmps8
  go_wp2_with fail
  obtain ⟨W0, hW0⟩ : ∃ W0, (w.alloc (.cells zA 31)).alloc (.cells zA 31) = W0 := ⟨_, rfl⟩
  have hB0 : Below w.heap.size w W0 := by rw [← hW0]; exact below2 _ _ _
  have hO0 : Ow (w.heap.size + 1) W0 z80 := by
    have t := tab_new (w.alloc (.cells zA 31)) 31
    rw [hW0] at t
    simp only [World.size_alloc] at t
    refine ⟨t, fun i c hc => ?_, fun i j c c' hij hc hc' => .inl ?_⟩
    · obtain rfl : c = Cel.nil := List.eq_of_mem_replicate (List.mem_of_getElem? hc)
      exact ⟨by simp [cellsOf, Cel.nil], .inl ⟨rfl, rfl⟩⟩
    · obtain rfl : c = Cel.nil := List.eq_of_mem_replicate (List.mem_of_getElem? hc)
      rfl
  have tR : Tab W0 w.heap.size 31 z80 := by
    rw [← hW0]; exact (tab_new w 31).alloc _
  have HO0 := Lib.hid hO0
  rw [hW0]
  clear hW0 hz hO0
  go_loopg [4, 5] (N + 1) (fun g n i wr => ∃ (k m : Nat) (cs : List Cel), g = N + 1 - k ∧ k ≤ N ∧ k ≤ 40 ∧ m ≤ 4 * k ∧ i = .int .i64 k ∧ n = .int .i64 m ∧ Hid (Ow (w.heap.size + 1) wr cs ∧ ofAll ((xs.take 40).drop k) (cs.map (fun c => c.l), m) = R ∧ Ofs (4 * k) (cs.map (fun c => c.l), m)) ∧ Tab wr w.heap.size 31 z80 ∧ Below w.heap.size w wr)
  case atStart => exact ⟨0, 0, z80, by omega, by omega, by omega, by omega, rfl, rfl, Lib.hid ⟨HO0.out, by have := HR0.out; simpa [z80, Cel.nil] using this, by have := ofs_zero; simpa [z80, Cel.nil] using this⟩, tR, hB0⟩
  case round =>
    obtain ⟨k, m, cs, hg, hkN, hk40, hm, rfl, rfl, hcs, tR1, hB1⟩ := hrel
    have HM := Lib.hid hg
    clear hg
    have hBs := hB1.size
    have lT := hcs.out.1.tab.lt
    by_cases hgo : k < N ∧ k < 40
    · obtain ⟨hk1, hk2⟩ := hgo
      have hk1' : k < xs.length := by rw [← HN.out]; exact hk1
      obtain ⟨b, o, he, hbb, c0, c1⟩ := (HL.out.below hB1).at hk1'
      obtain rfl : ao = some ⟨b, o, none⟩ := he
      obtain ⟨x1, hx1⟩ : ∃ x1 : Nat, x1 = xs[k].1 := ⟨_, rfl⟩
      obtain ⟨x2, hx2⟩ : ∃ x2 : Nat, x2 = xs[k].2 := ⟨_, rfl⟩
      rw [← hx1] at c0
      rw [← hx2] at c1
      obtain ⟨q, hq⟩ : ∃ q : Nat, q = x1 % 80 := ⟨_, rfl⟩
      obtain ⟨J, hJ⟩ : ∃ J : Nat, J = x2 % 5 := ⟨_, rfl⟩
      have hr1 : Int.tmod (x1 : Int) 80 = (q : Int) := by rw [hq]; rfl
      have hr2 : Int.tmod (x2 : Int) 5 = (J : Int) := by rw [hJ]; rfl
      have hJ4 : J ≤ 4 := by omega
      have hq80 : q < 80 := by omega
      have HST : Hid (∀ s, ofAll ((xs.take 40).drop k) s = ofAll ((xs.take 40).drop (k + 1)) (ofIn J q s)) := Lib.hid fun s => by
        have h1 : (xs.take 40).drop k = xs[k] :: (xs.take 40).drop (k + 1) := by
          rw [List.drop_eq_getElem_cons (by rw [List.length_take]; omega), List.getElem_take]
        rw [h1, hJ, hq, hx1, hx2]; rfl
      have g2 : (k : Int) < 40 := by omega
      have HX2 := Lib.hid hx2
      clear hx1 hx2 hq hJ
      go_wp2_with fail
      clear c0 c1 hr1
      obtain ⟨G, hG⟩ : ∃ G, G = gk := ⟨_, rfl⟩
      have HGK := Lib.hid hG
      clear hG
      go_loopg [4, 7] (J + 1) (fun g n i w2 => ∃ (j m2 : Nat) (cs2 : List Cel), g = J + 1 - j ∧ j ≤ J ∧ m2 ≤ 4 * k + j ∧ i = .int .i64 j ∧ n = .int .i64 m2 ∧ Hid (Ow (w.heap.size + 1) w2 cs2 ∧ ofAll ((xs.take 40).drop (k + 1)) (ofIn (J - j) q (cs2.map (fun c => c.l), m2)) = R ∧ Ofs (4 * k + j) (cs2.map (fun c => c.l), m2)) ∧ Tab w2 w.heap.size 31 z80 ∧ Below w.heap.size w w2)
      case atStart => exact ⟨0, m, cs, by omega, by omega, by omega, rfl, rfl, Lib.hid ⟨hcs.out.1, by rw [Nat.sub_zero, ← HST.out]; exact hcs.out.2.1, hcs.out.2.2⟩, tR1, hB1⟩
      case round =>
        clear hcs tR1 hB1 hBs lT
        obtain ⟨j, m2, cs2, hg2, hj, hm2, rfl, rfl, hcs, tR1, hB1⟩ := hrel
        have HM2 := Lib.hid hg2
        clear hg2
        have hBs := hB1.size
        have HT := hcs.out.1.tab
        have lT := HT.lt
        obtain ⟨b, o, he, hbb, c0, c1⟩ := (HL.out.below hB1).at hk1'
        cases he
        obtain ⟨c, hc⟩ : ∃ c : Cel, cs2[q]? = some c := ⟨_, List.getElem?_eq_getElem (by rw [HT.2]; exact hq80)⟩
        have cT : wr.cell? ⟨w.heap.size + 1, q, none⟩ = some (.slice c.ao c.l.length c.cap) := by
          have := HT.cell hq80
          rw [(List.getElem?_eq_some_iff.1 hc).2] at this
          exact this
        have hD : (cs2.map (fun c => c.l)).getD q [] = c.l := by
          simp [List.getD, List.getElem?_map, hc]
        have hOw := hcs.out.1.own q c hc
        have h4c := (hcs.out.2.2.st c.l (List.mem_map.2 ⟨c, List.mem_of_getElem? hc, rfl⟩)).1
        rw [← HX2.out] at c1
        have hwJ : IntKind.i64.wrap (J : Int) = (J : Int) := IntWalk.i64_in _ (by omega)
        have fT := HT.frozen
        by_cases hgo2 : j < J ∧ c.l.length < 4
        · obtain ⟨hj1, hj2⟩ := hgo2
          have gj1 : (j : Int) < (J : Int) := by omega
          have gj2 : (c.l.length : Int) < 4 := by omega
          obtain ⟨r3, hr3⟩ : ∃ r : Nat, r = m2 % 3 := ⟨_, rfl⟩
          obtain ⟨d3, hd3⟩ : ∃ d : Nat, d = m2 / 3 := ⟨_, rfl⟩
          have e1 : Int.tmod (m2 : Int) 3 = (r3 : Int) := by rw [hr3]; rfl
          have e2 : Int.tdiv (m2 : Int) 3 = (d3 : Int) := by rw [hd3]; rfl
          have e3 : IntKind.u8.wrap (r3 : Int) = (r3 : Int) := IntWalk.u8_in _ (by omega)
          have e4 : IntKind.u8.wrap (1 + (r3 : Int)) = 1 + (r3 : Int) := IntWalk.u8_in _ (by omega)
          have e5 : IntKind.i64.wrap (d3 : Int) = (d3 : Int) := IntWalk.i64_in _ (by omega)
          have HNM : Hid (nmAt m2 = ⟨1 + (r3 : Int), (d3 : Int)⟩) := Lib.hid (by rw [hr3, hd3]; rfl)
          clear hr3 hd3
          go_wp2_with (refine wpList_append_at rfl rfl c rfl (hOw.alloc _) ⟨1 + (r3 : Int), (d3 : Int)⟩ rfl ⟨(Boxed2.new wr 28 _ _).cell0, (Boxed2.new wr 28 _ _).cell1⟩ (by omega) (by simp; omega) ?_; intro c' w' hl' hown' hgr' hat')
          obtain ⟨ca', cl', cc'⟩ := c'
          have hHT : Tab w' (w.heap.size + 1) 31 cs2 := (HT.alloc _).kept hgr' (fun e => by have := (hOw.lt _ e.symm); omega)
          have cT' : w'.cell? ⟨w.heap.size + 1, q, none⟩ = some (.slice c.ao c.l.length c.cap) := by
            have := hHT.cell hq80
            rw [(List.getElem?_eq_some_iff.1 hc).2] at this
            exact this
          have fT' := hHT.frozen
          have HPUT := Lib.hid ((hcs.out.1.alloc _).put hc hgr' hown' hat')
          have HBW : Hid (Below w.heap.size w w') := Lib.hid ((hB1.alloc hBs _).grown hgr' (by simp; omega) (fun r e => by have := hOw.lt r e; omega))
          have HTR : Hid (Tab w' w.heap.size 31 z80) := Lib.hid ((tR1.alloc _).kept hgr' (fun e => by have := (hOw.lt _ e.symm); omega))
          have HCL := Lib.hid hl'
          clear hgr' hown' hat' hl' cT
          simp only [Cel.v] at HPUT ⊢
          go_wp2_with fail
          go_roundg (gk - 1)
          case measure => have := HM2.out; omega
          case rel =>
            refine ⟨j + 1, m2 + 1, cs2.set q ⟨ca', cl', cc'⟩, by have := HM2.out; omega, by omega, by omega, by go_num, by go_num, Lib.hid ⟨HPUT.out, ?_, ?_⟩, HTR.out.other (by omega), HBW.out.setCell (p := ⟨w.heap.size + 1, q, none⟩) (by simp) _⟩
            · have h1 := hcs.out.2.1
              have h2 : J - j = (J - (j + 1)) + 1 := by omega
              rw [h2] at h1
              unfold ofIn at h1
              simp only [hD] at h1
              rw [if_pos hj2, HNM.out, ← HCL.out] at h1
              rw [List.map_set]
              exact h1
            · have h1 := hcs.out.2.2.step hq80 (by simp only [hD]; exact hj2)
              simp only [hD] at h1
              rw [HNM.out, ← HCL.out] at h1
              rw [List.map_set]
              exact h1
        · have hR2 : Hid (ofAll ((xs.take 40).drop (k + 1)) (cs2.map (fun c => c.l), m2) = R) := Lib.hid (by
            have h1 := hcs.out.2.1
            by_cases hj1 : j < J
            · have h2 : J - j = (J - (j + 1)) + 1 := by omega
              rw [h2] at h1
              unfold ofIn at h1
              simp only [hD] at h1
              rwa [if_neg (by omega)] at h1
            · have h2 : J - j = 0 := by omega
              rw [h2] at h1
              exact h1)
          have hofs : Ofs (4 * (k + 1)) (cs2.map (fun c => c.l), m2) := ⟨hcs.out.2.2.len, by have := hcs.out.2.2.cnt; simp only at this ⊢; omega, hcs.out.2.2.st, hcs.out.2.2.once⟩
          have HOFS := Lib.hid hofs
          clear hofs
          by_cases hj1 : j < J
          · have gj1 : (j : Int) < (J : Int) := by omega
            have gj2 : ¬ ((c.l.length : Int) < 4) := by omega
            go_wp2_with fail
            go_roundg (G - 1)
            case measure => have := HGK.out; have := HM.out; omega
            case rel => exact ⟨k + 1, m2, cs2, by have := HGK.out; have := HM.out; omega, by omega, by omega, by omega, by go_num, rfl, Lib.hid ⟨hcs.out.1, hR2.out, HOFS.out⟩, tR1, hB1⟩
          · have gj1 : ¬ ((j : Int) < (J : Int)) := by omega
            go_wp2_with fail
            go_roundg (G - 1)
            case measure => have := HGK.out; have := HM.out; omega
            case rel => exact ⟨k + 1, m2, cs2, by have := HGK.out; have := HM.out; omega, by omega, by omega, by omega, by go_num, rfl, Lib.hid ⟨hcs.out.1, hR2.out, HOFS.out⟩, tR1, hB1⟩
    · have hK : Hid ((xs.take 40).drop k = []) := Lib.hid (List.drop_eq_nil_of_le (by rw [List.length_take, ← HN.out]; omega))
      have HT := hcs.out.1.tab
      have HE : Hid (cs.map (fun c => c.l) = ofM xs) := Lib.hid (by
        have h1 := hcs.out.2.1
        rw [hK.out] at h1
        rw [← HR.out, ← h1]; rfl)
      have HC : Hid (∀ c ∈ cs, c.ok wr.heap.size wr) := Lib.hid (hcs.out.1.ok fun c hc => (hcs.out.2.2.st c.l (List.mem_map.2 ⟨c, hc, rfl⟩)).1)
      clear hK
      by_cases hk1 : k < N
      · have g1 : (k : Int) < (N : Int) := by omega
        have g2 : ¬ ((k : Int) < 40) := by omega
        clear hgo hk1 hkN hk40
        go_wp2_with (first
          | (refine wpList_load_tab rfl (.inl rfl) _ rfl rfl HT ?_)
          | (refine wpList_store_tab rfl rfl (.inl rfl) _ _ rfl rfl rfl tR1 HT.2 ?_; intro w1 hs))
        exact bodyPost_ret (v := tabV cs) (results_tab (.inl rfl) rfl _ rfl hs.tab) rfl ⟨cs, rfl, Lib.hid ⟨HT.2, HE.out, fun c hc => (HC.out c hc).grown_tab tR1 hs.grown⟩, hB1.grown hs.grown hBs (fun r e => by cases e; exact Nat.le_refl _)⟩
      · have g1 : ¬ ((k : Int) < (N : Int)) := by omega
        clear hgo hk1 hkN hk40
        go_wp2_with (first
          | (refine wpList_load_tab rfl (.inl rfl) _ rfl rfl HT ?_)
          | (refine wpList_store_tab rfl rfl (.inl rfl) _ _ rfl rfl rfl tR1 HT.2 ?_; intro w1 hs))
        exact bodyPost_ret (v := tabV cs) (results_tab (.inl rfl) rfl _ rfl hs.tab) rfl ⟨cs, rfl, Lib.hid ⟨HT.2, HE.out, fun c hc => (HC.out c hc).grown_tab tR1 hs.grown⟩, hB1.grown hs.grown hBs (fun r e => by cases e; exact Nat.le_refl _)⟩
end Go.Proofs.Ytjjnhmbgffdenaa
