import Derived.Test.YtikdhdikaihenaaLives
import Derived.Deep.RegionHeld
namespace Go.Proofs.Ytikdhdikaihenaa
open Go.RowKit Go.Sort

/-- The pass at a place of the long list. -/
def alt (i : Nat) : Ps := ⟨1, (i : Int) % 2, false, 1⟩

theorem zero33_at (r : Nat) (hr : r < 4) : zero33.cells[r]? = [Value.int .u8 0, .int .i64 0, .bool false, .int .u8 0][r]? := by
  match r, hr with
  | 0, _ => rfl
  | 1, _ => rfl
  | 2, _ => rfl
  | 3, _ => rfl
theorem rowNew_cells (n : Nat) : (rowNew n).toList = cellsOf (List.replicate n ⟨0, 0, false, 0⟩) := by
  apply List.ext_getElem?
  intro j
  by_cases hj : j < n * 4
  · have hi : j / 4 < n := by omega
    have hp : (List.replicate n (⟨0, 0, false, 0⟩ : Ps))[j / 4]? = some ⟨0, 0, false, 0⟩ := by simp [hi]
    obtain ⟨a0, a1, a2, a3⟩ := cellsOf_at _ _ _ hp
    have e : (rowNew n).toList[j]? = zero33.cells[j % 4]? := by
      have hz : zero33.cells.size = 4 := rfl
      have hm : j % 4 < 4 := Nat.mod_lt _ (by omega)
      have h0 : (rowNew n).toList[j]? = some (zero33.cells[j % zero33.cells.size]!) := by simp [rowNew, madeCells, hj]
      rw [h0, hz, getElem!_pos _ _ (by rw [hz]; exact hm), Array.getElem?_eq_getElem (by rw [hz]; exact hm)]
    rw [e, zero33_at _ (Nat.mod_lt _ (by omega))]
    rcases (by omega : j % 4 = 0 ∨ j % 4 = 1 ∨ j % 4 = 2 ∨ j % 4 = 3) with h | h | h | h
    · rw [h, show j = j / 4 * 4 by omega, a0]; rfl
    · rw [h, show j = j / 4 * 4 + 1 by omega, a1]; rfl
    · rw [h, show j = j / 4 * 4 + 2 by omega, a2]; rfl
    · rw [h, show j = j / 4 * 4 + 3 by omega, a3]; rfl
  · rw [List.getElem?_eq_none (by rw [Array.length_toList, rowNew_size]; omega), List.getElem?_eq_none (by rw [cellsOf_length, List.length_replicate]; omega)]

theorem alt_good (i : Nat) : Good (alt i) := ⟨⟨by simp [alt], by simp [alt], by simp [alt]; omega, by simp [alt]; omega⟩, .inr rfl⟩
theorem alts_red (l : List Ps) (h : ∀ p ∈ l, p.d = 1) : Red l := by
  intro i a b ha hb
  have h1 := h a (List.mem_of_getElem? ha)
  have h2 := h b (List.mem_of_getElem? hb)
  cases hc : canc a b
  · rfl
  · rw [canc_iff] at hc
    omega
/-- The long list. -/
def alts (N : Nat) : List Ps := (List.range N).map alt
theorem alts_length (N : Nat) : (alts N).length = N := by simp [alts]
theorem alts_all (N : Nat) : ∀ p ∈ alts N, Good p ∧ p.d = 1 := by
  intro p hp
  obtain ⟨i, _, rfl⟩ := List.mem_map.1 hp
  exact ⟨alt_good i, rfl⟩
theorem alts_redd (N : Nat) : red ([] ++ alts N) = alts N := by rw [List.nil_append]; exact red_id (alts_red _ fun p hp => (alts_all N p hp).2)
theorem alts_redd' (N : Nat) : red (alts N) = alts N := by have := alts_redd N; rwa [List.nil_append] at this
theorem lie_pair (W : World) (y m : Int) (f : Bool) (d : Int) : Lie (W.alloc (.cells #[.int .u8 1, .int .i64 0, .bool false, .int .u8 1, .int .u8 y, .int .i64 m, .bool f, .int .u8 d] 33)) (some ⟨W.heap.size, 0, none⟩) [⟨1, 0, false, 1⟩, ⟨y, m, f, d⟩] := lie_new W [⟨1, 0, false, 1⟩, ⟨y, m, f, d⟩]
theorem lie_pair2 (W : World) (o : Obj) (y m : Int) (f : Bool) (d : Int) : Lie ((W.alloc o).alloc (.cells #[.int .u8 1, .int .i64 0, .bool false, .int .u8 1, .int .u8 y, .int .i64 m, .bool f, .int .u8 d] 33)).drew (some ⟨W.heap.size + 1, 0, none⟩) [⟨1, 0, false, 1⟩, ⟨y, m, f, d⟩] := by
  have h := (lie_pair (W.alloc o) y m f d).below (Below.refl _ _).drew
  rw [show (W.alloc o).heap.size = W.heap.size + 1 by simp] at h
  exact h
theorem below_next2 {w2 w3 : World} {o p : Obj} (h : Below (((w2.alloc o).alloc p).drew).heap.size (((w2.alloc o).alloc p).drew) w3) : Below w2.heap.size w2 w3 :=
  ((below2 w2 o p).drew).trans (h.mono (by show w2.heap.size ≤ ((w2.alloc o).alloc p).heap.size; simp; omega))
theorem pair_good {p : Ps} (h : Good p) : ∀ q ∈ [(⟨1, 0, false, 1⟩ : Ps), p], Good q := by
  intro q hq
  simp at hq
  rcases hq with rfl | rfl
  · exact ⟨⟨by decide, by decide, by decide, by decide⟩, .inr rfl⟩
  · exact h
theorem alts_zero (N : Nat) (h : 0 < N) : (alts N).getD 0 Ps.nil = alt 0 := by
  simp [alts, List.getD, h]

set_option maxRecDepth 100000 in
set_option maxHeartbeats 4000000 in
theorem limits_core (x y m : Int) (f : Bool) (d : Int) (w : World) (hx0 : 0 ≤ x) (hx1 : x ≤ 255) (hd0 : 0 ≤ d) :
    Calls Try.prog 8 #[.int .u8 x, .agg #[.int .u8 y, .int .i64 m, .bool f, .int .u8 d]] w fun e w' => e = .returned (.bool true) ∧ Below w.heap.size w w' := by
  obtain ⟨N, hN⟩ : ∃ N : Nat, (N : Int) = 4093 + x % 6 := ⟨(4093 + x % 6).toNat, by omega⟩
  have hN1 : 4093 ≤ N := by omega
  have hN2 : N ≤ 4098 := by omega
  have hmk := fun w => run_mk (4093 + x % 6) N hN.symm (by omega) w
  have HN := Lib.hid hN
  clear hN
  go_enter Try.func8, Try.ntmps8
  go_wp2_with fail
  clear hmk
  obtain ⟨W0, hW0⟩ : ∃ W0 : World, W0 = (w.alloc (.cells #[.int .u8 y, .int .i64 m, .bool f, .int .u8 d] 33)).alloc (.cells (rowNew N) 33) := ⟨_, rfl⟩
  obtain ⟨G, hG⟩ : ∃ G, G = w.heap.size + 1 := ⟨_, rfl⟩
  have hO0 : W0.ownsRow G 33 4 (.slice (some ⟨G, 0, none⟩) N N) N (cellsOf (List.replicate N ⟨0, 0, false, 0⟩)) := by
    have h := World.ownsRow_lit (base := G) (e := 33) (size := 4) (w.alloc (.cells #[.int .u8 y, .int .i64 m, .bool f, .int .u8 d] 33)) (rowNew N) N (by rw [hG]; simp) (by simp [maxLen]; omega) (rowNew_size N)
    rw [rowNew_cells, show (w.alloc (.cells #[.int .u8 y, .int .i64 m, .bool f, .int .u8 d] 33)).heap.size = G by rw [hG]; simp] at h
    rw [hW0]; exact h
  have hF0 : Four W0 w.heap.size 0 ⟨y, m, f, d⟩ := by rw [hW0]; exact (four_new _ _ _ _ _).below (below1 _ _) (by simp)
  have hb0 : Below w.heap.size w W0 := by rw [hW0]; exact below2 _ _ _
  rw [← hW0, ← hG]
  have HO0 := Lib.hid hO0
  have HF0 := Lib.hid hF0
  have hGw : w.heap.size < G := by omega
  clear hW0 hG hO0 hF0
  go_loopg [7] (N + 1) (fun g i wr => ∃ k : Nat, k ≤ N ∧ g = N + 1 - k ∧ i = .int .i64 k ∧ (∃ cur : List Ps, Hid (cur.length = N ∧ (∀ i, i < k → cur[i]? = some (alt i)) ∧ wr.ownsRow G 33 4 (.slice (some ⟨G, 0, none⟩) N N) N (cellsOf cur))) ∧ Below G W0 wr)
  case atStart => exact ⟨0, by omega, rfl, rfl, ⟨_, by simp, fun i hi => absurd hi (by omega), HO0.out⟩, Below.refl _ _⟩
  case round =>
    obtain ⟨k, hk, hg, rfl, ⟨cur, HC⟩, hb⟩ := hrel
    have HM := Lib.hid hg
    clear hg
    have hsz := hb.size
    have hN' := HN.out
    have e6 : (4093 + x % 6) = (N : Int) := hN'.symm
    have HE := Lib.hid e6
    clear hN' e6
    by_cases hlt : k < N
    · have hlt2 : (k : Int) < 4093 + x % 6 := by rw [HE.out]; omega
      have x0 := HC.out.2.2.cellAt (k * 4) (by omega)
      have x1 := HC.out.2.2.cellAt (k * 4 + 1) (by omega)
      have x2 := HC.out.2.2.cellAt (k * 4 + 2) (by omega)
      have x3 := HC.out.2.2.cellAt (k * 4 + 3) (by omega)
      obtain ⟨r, hr⟩ : ∃ r, cur[k]? = some r := ⟨_, List.getElem?_eq_getElem (by have := HC.out.1; omega)⟩
      obtain ⟨a0, a1, a2, a3⟩ := cellsOf_at cur _ r hr
      rw [a0] at x0
      rw [a1] at x1
      rw [a2] at x2
      rw [a3] at x3
      have f0 := HC.out.2.2.frozenAt
      clear a0 a1 a2 a3 hr
      go_wp2_with fail
      have s1 := (HC.out.2.2.stored (k * 4) (.int .u8 1)).1
      have s2 := (s1.stored (k * 4 + 1) (.int .i64 ((k : Int) % 2))).1
      have s3 := (s2.stored (k * 4 + 2) (.bool false)).1
      have s4 := (s3.stored (k * 4 + 3) (.int .u8 1)).1
      have hset : ((((cellsOf cur).set (k * 4) (.int .u8 1)).set (k * 4 + 1) (.int .i64 ((k : Int) % 2))).set (k * 4 + 2) (.bool false)).set (k * 4 + 3) (.int .u8 1) = cellsOf (cur.set k (alt k)) := cellsOf_set cur k (alt k) (by have := HC.out.1; omega)
      rw [hset] at s4
      have hb7 := (((hb.setCell (p := ⟨G, k * 4, none⟩) (Nat.le_refl _) (.int .u8 1)).setCell (p := ⟨G, k * 4 + 1, none⟩) (Nat.le_refl _) (.int .i64 ((k : Int) % 2))).setCell (p := ⟨G, k * 4 + 2, none⟩) (Nat.le_refl _) (.bool false)).setCell (p := ⟨G, k * 4 + 3, none⟩) (Nat.le_refl _) (.int .u8 1)
      go_roundg (gk - 1)
      case measure => have := HM.out; omega
      case rel =>
        refine ⟨k + 1, by omega, by have := HM.out; omega, by go_num, ⟨cur.set k (alt k), by simpa using HC.out.1, fun i hi => ?_, s4⟩, hb7⟩
        by_cases e : i = k
        · subst e
          exact List.getElem?_set_self (by have := HC.out.1; omega)
        · rw [List.getElem?_set_ne (by omega)]
          exact HC.out.2.1 i (by omega)
    · obtain rfl : k = N := by omega
      obtain ⟨C1, C2, C3⟩ := HC.out
      have hcur : cur = alts k := by
        apply List.ext_getElem?
        intro i
        by_cases hi : i < k
        · rw [C2 i hi]; simp [alts, hi]
        · rw [List.getElem?_eq_none (by omega), List.getElem?_eq_none (by rw [alts_length]; omega)]
      rw [hcur] at C3
      obtain ⟨-, aoX, capX, hv, -, -, hlX⟩ := lie_of_owns C3
      obtain ⟨rfl, -⟩ : some ⟨G, 0, none⟩ = aoX ∧ k = capX := by simpa using hv
      have HLA := Lib.hid hlX
      have HF := Lib.hid (HF0.out.below hb hGw)
      have hbW : Below w.heap.size w wr := hb0.trans (hb.mono (by omega))
      have hGr : G < wr.heap.size := World.block_lt_of_cell? _ _ (by
        have := hlX.at (i := 0) (by rw [alts_length]; omega)
        obtain ⟨b, o, hbo, hlt', hf⟩ := this
        obtain ⟨rfl, rfl⟩ : G = b ∧ 0 = o := by simpa using hbo
        exact hf.1)
      have hlt3 : ¬ ((k : Int) < 4093 + x % 6) := by rw [HE.out]; omega
      clear C1 C2 C3 hcur hv hlX HC hb0 HO0 HF0
      have hzW := hbW.size
      have VE : Hid (VY false 0 0 false []) := ⟨⟨by omega, by omega⟩, by simp⟩
      have V13 : Hid (VY true (-13) 0 true []) := ⟨⟨by omega, by omega⟩, by simp only [if_true]; exact ⟨⟨by omega, by omega, by decide⟩, by simp, fun _ h => absurd h (by simp), Red.nil⟩⟩
      have P1 : Hid (PlaceOk 1) := ⟨by decide, by decide, by decide⟩
      go_wp2_with (go_at_call 17; refine (enter_ok0 0 0 false none [] 0 0 _ (by rfl) (by decide) (Lie.nil _ _) VE.out).mono ?_; rintro e w1 ⟨rfl, hbc⟩; refine Hid.out ?_)
      have HLA := Lib.hid (HLA.out.below hbc)
      have HF := Lib.hid (HF.out.below hbc (by omega))
      have hb1 : Below w.heap.size w w1 := hbW.trans (hbc.mono hzW)
      have hG1 : G < w1.heap.size := Nat.lt_of_lt_of_le hGr hbc.size
      clear hbc hbW hzW hb
      have hz1 := hb1.size
      refine Lib.hid ?_
      by_cases hk : k ≤ 4096
      · go_wp2_with (go_at_call 19; refine (go_ok (-13) 0 true none [] 0 0 _ (by rfl) (by decide) (Lie.nil _ _) 1 _ (alts k) k _ (alts_length k).symm (by omega) (by exact HLA.out.below (below1 _ _)) V13.out P1.out (fun p hp => (alts_all k p hp).1) (by omega) (by rw [alts_redd, alts_length]; exact hk)).mono ?_; rintro e w2 ⟨bo, rfl, -, hbc⟩; refine Hid.out ?_)
        rw [alts_redd', alts_length]
        have hk2 : ¬ ((4096 : Int) < 4093 + x % 6) := by rw [HE.out]; omega
        have hk3 : ((k : Int) != 4093 + x % 6) = false := by rw [HE.out]; simp
        have hb12 : Below w1.heap.size w1 w2 := (below1 w1 _).trans (hbc.mono (by simp))
        have HLA := Lib.hid (HLA.out.below hb12)
        have F3 := HF.out.below hb12 (by omega)
        have F8 := (five1' w1 true (-13) 0 true (.slice none 0 0)).below hbc (by simp)
        have hz12 : w1.heap.size + 1 ≤ w2.heap.size := by have := hbc.size; simpa using this
        have hb2 : Below w.heap.size w w2 := hb1.trans (hb12.mono hz1)
        clear hbc hb12 HF
        obtain ⟨K8, hK8⟩ : ∃ K, K = w1.heap.size := ⟨_, rfl⟩
        rw [← hK8] at F8 hz12 ⊢
        have hK8G : G < K8 := by rw [hK8]; exact hG1
        clear hK8 hb1 hz1
        have hz2 := hb2.size
        have HF3 := Lib.hid F3
        have HF8 := Lib.hid F8
        have q3 := fun o => F3.below (below1 w2 o) (by omega)
        have q8 := fun o => (F8.alloc (by omega) o).1
        have q30 := fun o => (q3 o).1
        have q31 := fun o => (q3 o).2.1
        have q32 := fun o => (q3 o).2.2.1
        have q33 := fun o => (q3 o).2.2.2
        clear q3 F3 F8
        refine Lib.hid ?_
        obtain ⟨f80, f81, f82, f83, f84⟩ := HF8.out.1
        have q80 := fun o => (q8 o).1
        have q81 := fun o => (q8 o).2.1
        have q82 := fun o => (q8 o).2.2.1
        have q83 := fun o => (q8 o).2.2.2.1
        have q84 := fun o => (q8 o).2.2.2.2
        obtain ⟨bg, og, hbo, hbg, hfg⟩ := HLA.out.at (i := 0) (by rw [alts_length]; omega)
        obtain ⟨rfl, rfl⟩ : G = bg ∧ 0 = og := by simpa using hbo
        rw [alts_zero k (by omega)] at hfg
        have HFG : Hid (Four w2 G 0 ⟨1, 0, false, 1⟩) := hfg
        have qg := fun o => hfg.below (below1 w2 o) hbg
        have qg0 : ∀ o, (w2.alloc o).cell? ⟨G, 0, none⟩ = some (.int .u8 1) := fun o => (qg o).1
        have qg1 : ∀ o, (w2.alloc o).cell? ⟨G, 1, none⟩ = some (.int .i64 0) := fun o => (qg o).2.1
        have qg2 : ∀ o, (w2.alloc o).cell? ⟨G, 2, none⟩ = some (.bool false) := fun o => (qg o).2.2.1
        have qg3 : ∀ o, (w2.alloc o).cell? ⟨G, 3, none⟩ = some (.int .u8 1) := fun o => (qg o).2.2.2
        clear q8 hfg qg hbo
        simp only [Nat.zero_add] at q30 q31 q32 q33
        by_cases hgood : Good ⟨y, m, f, d⟩
        · have HGD := Lib.hid hgood
          clear hgood
          go_wp2_with fail
          go_region_held (fun w' => w'.cell? ⟨K8, 0, none⟩ = some (.bool true) ∧ w'.cell? ⟨K8, 1, none⟩ = some (.int .i64 (-13)) ∧ w'.cell? ⟨K8, 2, none⟩ = some (.int .i64 0) ∧ w'.cell? ⟨K8, 3, none⟩ = some (.bool true) ∧ w'.cell? ⟨K8, 4, none⟩ = some (.slice none 0 0) ∧ w'.cell? ⟨w.heap.size, 0, none⟩ = some (.int .u8 y) ∧ w'.cell? ⟨w.heap.size, 1, none⟩ = some (.int .i64 m) ∧ w'.cell? ⟨w.heap.size, 2, none⟩ = some (.bool f) ∧ w'.cell? ⟨w.heap.size, 3, none⟩ = some (.int .u8 d) ∧ w'.cell? ⟨G, 0, none⟩ = some (.int .u8 1) ∧ w'.cell? ⟨G, 1, none⟩ = some (.int .i64 0) ∧ w'.cell? ⟨G, 2, none⟩ = some (.bool false) ∧ w'.cell? ⟨G, 3, none⟩ = some (.int .u8 1)) (first | (refine ⟨?_, ?_, ?_, ?_, ?_, ?_, ?_, ?_, ?_, ?_, ?_, ?_, ?_⟩ <;> assumption) | go_keep)
            (first | (go_at_call 19; refine (go_ok (-13) 0 true none [] 0 0 _ (by rfl) (by decide) (Lie.nil _ _) 1 _ [⟨1, 0, false, 1⟩, ⟨y, m, f, d⟩] 2 _ (by rfl) (by decide) (by exact lie_pair2 _ _ _ _ _ _) V13.out P1.out (pair_good HGD.out) (by decide) (by have := length_red ([] ++ [(⟨1, 0, false, 1⟩ : Ps), ⟨y, m, f, d⟩]); simp at this ⊢; omega)).mono ?_; rintro e w3 ⟨br, rfl, -, hbe⟩; have hb23 : Below w2.heap.size w2 w3 := below_next2 hbe; obtain ⟨⟨x0, x1, x2, x3, x4⟩, -⟩ := HF8.out.below hb23 (by omega); obtain ⟨y0, y1, y2, y3⟩ := HF3.out.below hb23 (by omega); simp only [Nat.zero_add] at y0 y1 y2 y3; obtain ⟨v0, v1, v2, v3⟩ := HFG.out.below hb23 (by omega); simp only [Nat.zero_add] at v0 v1 v2 v3; clear hbe))
          have hb3 : Below w.heap.size w w3 := hb2.trans (hb23.mono hz2)
          have hz3 := hb3.size
          obtain ⟨⟨z1, z2, z3, z4⟩, z5⟩ := HGD.out
          simp only at z1 z2 z3 z4 z5
          have z6 : d ≤ 1 := by omega
          clear z5
          go_wp2_with (go_at_call 9; refine (lives_any _).mono ?_; rintro e w4 ⟨rfl, hbd⟩)
          go_ret
          exact ⟨ret_bool (by simp; omega), hb3.trans (hbd.mono hz3)⟩
        · have HGD := Lib.hid hgood
          have hcase : y < 1 ∨ (1 ≤ y ∧ 6 < y) ∨ (1 ≤ y ∧ y ≤ 6 ∧ m < 0) ∨ (1 ≤ y ∧ y ≤ 6 ∧ 0 ≤ m ∧ 2047 < m) ∨ (1 ≤ y ∧ y ≤ 6 ∧ 0 ≤ m ∧ m ≤ 2047 ∧ 1 < d) := by
            have : ¬ ((1 ≤ y ∧ y ≤ 6 ∧ 0 ≤ m ∧ m ≤ 2047) ∧ (d = 0 ∨ d = 1)) := hgood
            omega
          have HCS := Lib.hid hcase
          clear hgood hcase
          go_wp2_with fail
          go_region_held (fun w' => w'.cell? ⟨K8, 0, none⟩ = some (.bool true) ∧ w'.cell? ⟨K8, 1, none⟩ = some (.int .i64 (-13)) ∧ w'.cell? ⟨K8, 2, none⟩ = some (.int .i64 0) ∧ w'.cell? ⟨K8, 3, none⟩ = some (.bool true) ∧ w'.cell? ⟨K8, 4, none⟩ = some (.slice none 0 0) ∧ w'.cell? ⟨w.heap.size, 0, none⟩ = some (.int .u8 y) ∧ w'.cell? ⟨w.heap.size, 1, none⟩ = some (.int .i64 m) ∧ w'.cell? ⟨w.heap.size, 2, none⟩ = some (.bool f) ∧ w'.cell? ⟨w.heap.size, 3, none⟩ = some (.int .u8 d) ∧ w'.cell? ⟨G, 0, none⟩ = some (.int .u8 1) ∧ w'.cell? ⟨G, 1, none⟩ = some (.int .i64 0) ∧ w'.cell? ⟨G, 2, none⟩ = some (.bool false) ∧ w'.cell? ⟨G, 3, none⟩ = some (.int .u8 1)) (first | (refine ⟨?_, ?_, ?_, ?_, ?_, ?_, ?_, ?_, ?_, ?_, ?_, ?_, ?_⟩ <;> assumption) | go_keep)
            (first | (go_at_call 19; refine (go_bad3 true (-13) 0 true none [] 0 0 _ (by rfl) (by decide) (Lie.nil _ _) 1 _ [⟨1, 0, false, 1⟩, ⟨y, m, f, d⟩] 2 _ (by rfl) (by decide) (by exact lie_pair2 _ _ _ _ _ _) V13.out P1.out (fun h => HGD.out (h _ (by simp)))).mono ?_; rintro e w3 ⟨rfl, hbe⟩; have hb23 : Below w2.heap.size w2 w3 := below_next2 hbe; obtain ⟨⟨x0, x1, x2, x3, x4⟩, -⟩ := HF8.out.below hb23 (by omega); obtain ⟨y0, y1, y2, y3⟩ := HF3.out.below hb23 (by omega); simp only [Nat.zero_add] at y0 y1 y2 y3; obtain ⟨v0, v1, v2, v3⟩ := HFG.out.below hb23 (by omega); simp only [Nat.zero_add] at v0 v1 v2 v3; clear hbe))
          have hb3 : Below w.heap.size w w3 := hb2.trans (hb23.mono hz2)
          have hz3 := hb3.size
          rcases HCS.out with z | ⟨z, z'⟩ | ⟨z, z', z''⟩ | ⟨z, z', z'', z3⟩ | ⟨z, z', z'', z3, z4⟩
          all_goals
            go_wp2_with (go_at_call 9; refine (lives_any _).mono ?_; rintro e w4 ⟨rfl, hbd⟩)
            go_ret
            exact ⟨rfl, hb3.trans (hbd.mono hz3)⟩
      · go_wp2_with (go_at_call 19; refine (go_limit (-13) 0 true none [] 0 0 _ (by rfl) (by decide) (Lie.nil _ _) 1 _ (alts k) k _ (alts_length k).symm (by omega) (by exact HLA.out.below (below1 _ _)) V13.out P1.out (fun p hp => (alts_all k p hp).1) (by omega) (by rw [alts_redd, alts_length]; omega)).mono ?_; rintro e w2 ⟨rfl, hbc⟩; refine Hid.out ?_)
        have hk2 : (4096 : Int) < 4093 + x % 6 := by rw [HE.out]; omega
        have hb12 : Below w1.heap.size w1 w2 := (below1 w1 _).trans (hbc.mono (by simp))
        have HLA := Lib.hid (HLA.out.below hb12)
        have F3 := HF.out.below hb12 (by omega)
        have F8 := (five1' w1 true (-13) 0 true (.slice none 0 0)).below hbc (by simp)
        have hz12 : w1.heap.size + 1 ≤ w2.heap.size := by have := hbc.size; simpa using this
        have hb2 : Below w.heap.size w w2 := hb1.trans (hb12.mono hz1)
        clear hbc hb12 HF
        obtain ⟨K8, hK8⟩ : ∃ K, K = w1.heap.size := ⟨_, rfl⟩
        rw [← hK8] at F8 hz12 ⊢
        have hK8G : G < K8 := by rw [hK8]; exact hG1
        clear hK8 hb1 hz1
        have hz2 := hb2.size
        have HF3 := Lib.hid F3
        have HF8 := Lib.hid F8
        have q3 := fun o => F3.below (below1 w2 o) (by omega)
        have q8 := fun o => (F8.alloc (by omega) o).1
        have q30 := fun o => (q3 o).1
        have q31 := fun o => (q3 o).2.1
        have q32 := fun o => (q3 o).2.2.1
        have q33 := fun o => (q3 o).2.2.2
        clear q3 F3 F8
        refine Lib.hid ?_
        obtain ⟨f80, f81, f82, f83, f84⟩ := HF8.out.1
        have q80 := fun o => (q8 o).1
        have q81 := fun o => (q8 o).2.1
        have q82 := fun o => (q8 o).2.2.1
        have q83 := fun o => (q8 o).2.2.2.1
        have q84 := fun o => (q8 o).2.2.2.2
        obtain ⟨bg, og, hbo, hbg, hfg⟩ := HLA.out.at (i := 0) (by rw [alts_length]; omega)
        obtain ⟨rfl, rfl⟩ : G = bg ∧ 0 = og := by simpa using hbo
        rw [alts_zero k (by omega)] at hfg
        have HFG : Hid (Four w2 G 0 ⟨1, 0, false, 1⟩) := hfg
        have qg := fun o => hfg.below (below1 w2 o) hbg
        have qg0 : ∀ o, (w2.alloc o).cell? ⟨G, 0, none⟩ = some (.int .u8 1) := fun o => (qg o).1
        have qg1 : ∀ o, (w2.alloc o).cell? ⟨G, 1, none⟩ = some (.int .i64 0) := fun o => (qg o).2.1
        have qg2 : ∀ o, (w2.alloc o).cell? ⟨G, 2, none⟩ = some (.bool false) := fun o => (qg o).2.2.1
        have qg3 : ∀ o, (w2.alloc o).cell? ⟨G, 3, none⟩ = some (.int .u8 1) := fun o => (qg o).2.2.2
        clear q8 hfg qg hbo
        simp only [Nat.zero_add] at q30 q31 q32 q33
        by_cases hgood : Good ⟨y, m, f, d⟩
        · have HGD := Lib.hid hgood
          clear hgood
          go_wp2_with fail
          go_region_held (fun w' => w'.cell? ⟨K8, 0, none⟩ = some (.bool true) ∧ w'.cell? ⟨K8, 1, none⟩ = some (.int .i64 (-13)) ∧ w'.cell? ⟨K8, 2, none⟩ = some (.int .i64 0) ∧ w'.cell? ⟨K8, 3, none⟩ = some (.bool true) ∧ w'.cell? ⟨K8, 4, none⟩ = some (.slice none 0 0) ∧ w'.cell? ⟨w.heap.size, 0, none⟩ = some (.int .u8 y) ∧ w'.cell? ⟨w.heap.size, 1, none⟩ = some (.int .i64 m) ∧ w'.cell? ⟨w.heap.size, 2, none⟩ = some (.bool f) ∧ w'.cell? ⟨w.heap.size, 3, none⟩ = some (.int .u8 d) ∧ w'.cell? ⟨G, 0, none⟩ = some (.int .u8 1) ∧ w'.cell? ⟨G, 1, none⟩ = some (.int .i64 0) ∧ w'.cell? ⟨G, 2, none⟩ = some (.bool false) ∧ w'.cell? ⟨G, 3, none⟩ = some (.int .u8 1)) (first | (refine ⟨?_, ?_, ?_, ?_, ?_, ?_, ?_, ?_, ?_, ?_, ?_, ?_, ?_⟩ <;> assumption) | go_keep)
            (first | (go_at_call 19; refine (go_ok (-13) 0 true none [] 0 0 _ (by rfl) (by decide) (Lie.nil _ _) 1 _ [⟨1, 0, false, 1⟩, ⟨y, m, f, d⟩] 2 _ (by rfl) (by decide) (by exact lie_pair2 _ _ _ _ _ _) V13.out P1.out (pair_good HGD.out) (by decide) (by have := length_red ([] ++ [(⟨1, 0, false, 1⟩ : Ps), ⟨y, m, f, d⟩]); simp at this ⊢; omega)).mono ?_; rintro e w3 ⟨br, rfl, -, hbe⟩; have hb23 : Below w2.heap.size w2 w3 := below_next2 hbe; obtain ⟨⟨x0, x1, x2, x3, x4⟩, -⟩ := HF8.out.below hb23 (by omega); obtain ⟨y0, y1, y2, y3⟩ := HF3.out.below hb23 (by omega); simp only [Nat.zero_add] at y0 y1 y2 y3; obtain ⟨v0, v1, v2, v3⟩ := HFG.out.below hb23 (by omega); simp only [Nat.zero_add] at v0 v1 v2 v3; clear hbe))
          have hb3 : Below w.heap.size w w3 := hb2.trans (hb23.mono hz2)
          have hz3 := hb3.size
          obtain ⟨⟨z1, z2, z3, z4⟩, z5⟩ := HGD.out
          simp only at z1 z2 z3 z4 z5
          have z6 : d ≤ 1 := by omega
          clear z5
          go_wp2_with (go_at_call 9; refine (lives_any _).mono ?_; rintro e w4 ⟨rfl, hbd⟩)
          go_ret
          exact ⟨ret_bool (by simp; omega), hb3.trans (hbd.mono hz3)⟩
        · have HGD := Lib.hid hgood
          have hcase : y < 1 ∨ (1 ≤ y ∧ 6 < y) ∨ (1 ≤ y ∧ y ≤ 6 ∧ m < 0) ∨ (1 ≤ y ∧ y ≤ 6 ∧ 0 ≤ m ∧ 2047 < m) ∨ (1 ≤ y ∧ y ≤ 6 ∧ 0 ≤ m ∧ m ≤ 2047 ∧ 1 < d) := by
            have : ¬ ((1 ≤ y ∧ y ≤ 6 ∧ 0 ≤ m ∧ m ≤ 2047) ∧ (d = 0 ∨ d = 1)) := hgood
            omega
          have HCS := Lib.hid hcase
          clear hgood hcase
          go_wp2_with fail
          go_region_held (fun w' => w'.cell? ⟨K8, 0, none⟩ = some (.bool true) ∧ w'.cell? ⟨K8, 1, none⟩ = some (.int .i64 (-13)) ∧ w'.cell? ⟨K8, 2, none⟩ = some (.int .i64 0) ∧ w'.cell? ⟨K8, 3, none⟩ = some (.bool true) ∧ w'.cell? ⟨K8, 4, none⟩ = some (.slice none 0 0) ∧ w'.cell? ⟨w.heap.size, 0, none⟩ = some (.int .u8 y) ∧ w'.cell? ⟨w.heap.size, 1, none⟩ = some (.int .i64 m) ∧ w'.cell? ⟨w.heap.size, 2, none⟩ = some (.bool f) ∧ w'.cell? ⟨w.heap.size, 3, none⟩ = some (.int .u8 d) ∧ w'.cell? ⟨G, 0, none⟩ = some (.int .u8 1) ∧ w'.cell? ⟨G, 1, none⟩ = some (.int .i64 0) ∧ w'.cell? ⟨G, 2, none⟩ = some (.bool false) ∧ w'.cell? ⟨G, 3, none⟩ = some (.int .u8 1)) (first | (refine ⟨?_, ?_, ?_, ?_, ?_, ?_, ?_, ?_, ?_, ?_, ?_, ?_, ?_⟩ <;> assumption) | go_keep)
            (first | (go_at_call 19; refine (go_bad3 true (-13) 0 true none [] 0 0 _ (by rfl) (by decide) (Lie.nil _ _) 1 _ [⟨1, 0, false, 1⟩, ⟨y, m, f, d⟩] 2 _ (by rfl) (by decide) (by exact lie_pair2 _ _ _ _ _ _) V13.out P1.out (fun h => HGD.out (h _ (by simp)))).mono ?_; rintro e w3 ⟨rfl, hbe⟩; have hb23 : Below w2.heap.size w2 w3 := below_next2 hbe; obtain ⟨⟨x0, x1, x2, x3, x4⟩, -⟩ := HF8.out.below hb23 (by omega); obtain ⟨y0, y1, y2, y3⟩ := HF3.out.below hb23 (by omega); simp only [Nat.zero_add] at y0 y1 y2 y3; obtain ⟨v0, v1, v2, v3⟩ := HFG.out.below hb23 (by omega); simp only [Nat.zero_add] at v0 v1 v2 v3; clear hbe))
          have hb3 : Below w.heap.size w w3 := hb2.trans (hb23.mono hz2)
          have hz3 := hb3.size
          rcases HCS.out with z | ⟨z, z'⟩ | ⟨z, z', z''⟩ | ⟨z, z', z'', z3⟩ | ⟨z, z', z'', z3, z4⟩
          all_goals
            go_wp2_with (go_at_call 9; refine (lives_any _).mono ?_; rintro e w4 ⟨rfl, hbd⟩)
            go_ret
            exact ⟨rfl, hb3.trans (hbd.mono hz3)⟩

end Go.Proofs.Ytikdhdikaihenaa
