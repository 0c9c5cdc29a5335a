import Derived.Test.YtjjnhmbgffdenaaRng
import Derived.Test.YtjjnhmbgffdenaaTwice
namespace Go.Proofs.Ytjjnhmbgffdenaa
open Go.RowKit Go.Shelf
attribute [local go_sem] Oper.semAt_some

/-- Beds that are valid. -/
structure Bds.good (d : Bds) : Prop where
  f : d.f.cs.length ≤ 40
  b : d.b.cs.length ≤ 40
  st : ∀ x ∈ d.els, x.c.l.length ≤ 4 ∧ ∀ p ∈ x.c.l, Named p
  once : (names d.els).Nodup
theorem Bds.good.at {d : Bds} (h : d.good) {x : El} (hx : x ∈ d.els) : x.k ≤ 1 ∧ x.i < 40 := by
  unfold Bds.els at hx
  rcases List.mem_append.1 hx with hx | hx
  · simp only [Bed.els, List.mem_mapIdx] at hx
    obtain ⟨i, hi, rfl⟩ := hx
    exact ⟨by simp, by have := h.f; simp only; omega⟩
  · simp only [Bed.els, List.mem_mapIdx] at hx
    obtain ⟨i, hi, rfl⟩ := hx
    exact ⟨by simp, by have := h.b; simp only; omega⟩
def ElG (n : Nat) (w : World) (x : El) : Prop := ElOk n w x ∧ x.i < 40 ∧ x.c.l.length ≤ 4 ∧ ∀ p ∈ x.c.l, Named p
theorem allNamed_mk {l : List Nm} (h : ∀ p ∈ l, Named p) : allNamed l = true := List.all_eq_true.2 fun p hp => decide_eq_true (h p hp)

set_option maxRecDepth 100000 in
set_option maxHeartbeats 2000000 in
theorem check_ok (d : Bds) (B : Nat) (w : World) (hB : B ≤ w.heap.size) (hd : d.ok B w) (hg : d.good) :
    Calls Try.prog 10 #[d.v] w fun e w' => e = .returned (.int .i64 0) ∧ Below w.heap.size w w' := by
  have HD := Lib.hid (hd.mono hB)
  have HG := Lib.hid hg
  clear hd hg
  refine (callsIn_wide (n := 10)).1 ?_
  have hro : Fence.wide.round = none := rfl
  have h34 : Fence.wide.fn 34 := trivial
  refine callsIn_of_wp_marks Try.func10 rfl trivial ?_ hro
  simp only [Try.ntmps10, List.size_toArray, List.length_cons, List.length_nil, Nat.reduceAdd, Nat.reduceSub, Array.replicate_succ, Array.replicate_zero, List.push_toArray, List.append_toArray, List.nil_append, List.cons_append]
  obtain ⟨⟨fa, fs, fc⟩, ⟨ba, bs, bc⟩⟩ := d
  simp only [Bds.v, Bed.v]
  gi_wp2_with (refine ⟨trivial, ?_⟩; gi_at_call 22; refine (each_in Fence.wide 9 trivial hro _ _ _ _ _ _ _).mono ?_; rintro e w' ⟨rfl, rfl⟩)
  obtain ⟨W0, hW0⟩ : ∃ W0, (((w.alloc (.cells #[.slice fa fs.length fc, .slice ba bs.length bc] 35)).alloc (.cells #[.int .i64 0] 37)).alloc (.cells #[.slice fa fs.length fc, .slice ba bs.length bc] 35)) = W0 := ⟨_, rfl⟩
  have hsz : w.heap.size + 3 ≤ W0.heap.size := by rw [← hW0]; simp
  have bB : Boxed2 W0 (w.heap.size) 35 (.slice fa fs.length fc) (.slice ba bs.length bc) := by
    rw [← hW0]; have := (((Boxed2.new w 35 (.slice fa fs.length fc) (.slice ba bs.length bc)).alloc (.cells #[.int .i64 0] 37)).alloc (.cells #[.slice fa fs.length fc, .slice ba bs.length bc] 35))
    exact this
  have bR : Boxed W0 (w.heap.size + 1) 37 (.int .i64 0) := by
    rw [← hW0]; have := ((Boxed.new (w.alloc (.cells #[.slice fa fs.length fc, .slice ba bs.length bc] 35)) 37 (.int .i64 0)).alloc (.cells #[.slice fa fs.length fc, .slice ba bs.length bc] 35))
    simp only [World.size_alloc] at this; exact this
  have bN : Boxed2 W0 (w.heap.size + 1 + 1) 35 (.slice fa fs.length fc) (.slice ba bs.length bc) := by
    rw [← hW0]; have := (Boxed2.new ((w.alloc (.cells #[.slice fa fs.length fc, .slice ba bs.length bc] 35)).alloc (.cells #[.int .i64 0] 37)) 35 (.slice fa fs.length fc) (.slice ba bs.length bc))
    simp only [World.size_alloc] at this; exact this
  have hB0 : Below w.heap.size w W0 := by
    rw [← hW0]; exact (((Below.refl _ _).alloc (by simp; try omega) _).alloc (by simp; try omega) _).alloc (by simp; try omega) _
  rw [hW0]
  clear hW0
  have HD0 := Lib.hid (HD.out.below hB0)
  obtain ⟨d, hdd⟩ : ∃ d : Bds, d = ⟨⟨fa, fs, fc⟩, ⟨ba, bs, bc⟩⟩ := ⟨_, rfl⟩
  rw [← hdd] at HD HD0 HG
  have HDD := Lib.hid hdd
  clear hdd
  have hlen : d.els.length ≤ 200 := HD0.out.els_len
  have HP : Hid (∀ x ∈ d.els, ElG w.heap.size w x) := Lib.hid fun x hx => ⟨HD.out.els hx, (HG.out.at hx).2, HG.out.st x hx⟩
  have h0 : ElG w.heap.size w El.zero := ⟨El.zero_ok _ _, by simp [El.zero], by simp [El.zero, Cel.nil], fun p hp => by simp [El.zero, Cel.nil] at hp⟩
  refine wpIn_rangeFunc_ownH (α := Ap (ElG w.heap.size w)) hro (by decide) (gf := 34) (lb := #[.pointer (some ⟨w.heap.size + 1 + 1, 0, none⟩)]) rfl h34 (enters_of Try.func34 (by kernel_rfl) rfl)
    (each_stops Fence.wide 9 h34 hro (by decide) (w.heap.size + 1 + 1) w.heap.size d W0 (by omega) (by omega) (fun x => x.1) (Ap.mk h0) (fun x hx => Ap.mk_val h0 (HP.out x hx)) (by rw [HDD.out]; exact bN.cell0) (by rw [HDD.out]; exact bN.cell1) HD0.out)
    belowK_t (belowK_b (by omega)) (Below.refl _ _) (fun _ => rfl)
    (fun (pre : List (Ap (ElG w.heap.size w))) W => (Boxed2 W w.heap.size 35 (.slice fa fs.length fc) (.slice ba bs.length bc) ∧ Boxed W (w.heap.size + 1) 37 (.int .i64 0)) ∧ Below w.heap.size w W)
    (fun c (pre : List (Ap (ElG w.heap.size w))) W => False)
    (OwnFrom.and (OwnFrom.and (Own.from (boxed2_own _ _ _ _) _) (Own.from (boxed_own _ _ _) _)) (ownFrom_below (Nat.le_refl _) (by omega)))
    (fun _ => ownFrom_const _ _)
    ⟨⟨bB, bR⟩, hB0⟩
    (fun x a' W => ∃ Bx, w.heap.size + 1 + 1 ≤ Bx ∧ Boxed2 W Bx 26 (.int .u8 x.1.k) (.int .i64 ((x.1.i : Int) + 1)) ∧ a' = { tmps := #[.agg #[.slice fa fs.length fc, .slice ba bs.length bc], .pointer (some ⟨w.heap.size, 0, none⟩), .pointer (some ⟨w.heap.size + 1, 0, none⟩), .pointer (some ⟨Bx, 0, none⟩), x.1.c.v, undef, undef, .agg #[.slice fa fs.length fc, .slice ba bs.length bc], .func (.func 34) #[] #[.pointer (some ⟨w.heap.size + 1 + 1, 0, none⟩)], x.1.nv, x.1.c.v, undef, undef, undef, undef, undef, undef, undef, undef, undef, undef, undef, undef, undef, undef, undef, undef, undef], defers := [] })
    (fun x a' _ X Y row hs hg hr => by obtain ⟨Bx, h1, h2, h3⟩ := hs; exact ⟨Bx, h1, boxed2_own Bx 26 (fun (_ : Unit) => Value.int .u8 x.1.k) (fun _ => .int .i64 ((x.1.i : Int) + 1)) () X Y row h2 hg (fun r e => (hr r e).2), h3⟩)
    ?assign ?body ?done ?stop
  case assign =>
    rintro l pre ⟨⟨k, i, ⟨ca, cl, cc⟩⟩, hx⟩ W K ⟨⟨bP1, bR1⟩, hB1⟩ hK
    simp only [El.vs, El.nv, Cel.v] at hK ⊢
    gi_wp2
    exact hK _ _ ((KeepsOthers.alloc _ _).from _) ((Below.refl _ W).alloc hB1.size _) ⟨⟨bP1.alloc _, bR1.alloc _⟩, hB1.alloc hB1.size _⟩ ⟨W.heap.size, bR1.lt, Boxed2.new W 26 _ _, rfl⟩
  case body =>
    rintro l pre ⟨⟨k, i, ⟨ca, cl, cc⟩⟩, hx⟩ a' W hl ⟨r, hr⟩ ⟨⟨bP1, bR1⟩, hB1⟩ ⟨Bx, hBx, bX, rfl⟩ hlt
    simp only at bX
    have c0 := bX.cell0
    have c1 := bX.cell1
    have hk1 : k ≤ 1 := hx.1.1
    have hi1 : i < 40 := hx.2.1
    have hcl : cl.length ≤ 4 := hx.2.2.1
    have hgt : decide ((4 : Int) < (cl.length : Int)) = false := by simp; omega
    have hq : isN k ((i : Int) + 1) = true := isN_mk (by omega)
    have HQ := Lib.hid hq
    clear hq
    simp only [El.nv, Cel.v]
    gi_wp2_with (first
        | (refine ⟨trivial, ?_⟩; gi_at_call 23; refine (CallsIn.inRound l (callsIn_wide.2 (isNeedle_any _ _ _ _ HQ.out))).mono ?_; rintro e w1 ⟨rfl, hb1⟩; obtain ⟨hc1, hf1⟩ := bcell hb1; have hz1 := hb1.size))
    have hw1 : Below w.heap.size W w1 := hb1.mono hB1.size
    exact ⟨keepsFrom_below hb1 (Nat.le_refl _), hw1, ⟨bP1.below hb1 bP1.lt, boxed_below bR1 hb1 bR1.lt⟩, hB1.trans hw1⟩
  case stop =>
    rintro D c pre W _ _ h _
    exact h.elim
  case done =>
    rintro D1 ys W1 hD1 - ⟨⟨bP1, bR1⟩, hB1⟩ hK1
    have p0 := bP1.cell0
    have p1 := bP1.cell1
    gi_wp2_with (refine ⟨trivial, ?_⟩; gi_at_call 22; refine (each_in Fence.wide 9 trivial hro _ _ _ _ _ _ _).mono ?_; rintro e w' ⟨rfl, rfl⟩)
    clear bN bB bR HD0
    have hsz2 : w.heap.size + 3 ≤ W1.heap.size := by have := (Array.getElem?_eq_some_iff.1 hK1).1; omega
    have lD : D1 < W1.heap.size := (Array.getElem?_eq_some_iff.1 hK1).1
    have bN := Boxed2.new W1 35 (.slice fa fs.length fc) (.slice ba bs.length bc)
    have bP2 := bP1.alloc (.cells #[.slice fa fs.length fc, .slice ba bs.length bc] 35)
    have bR2 := bR1.alloc (.cells #[.slice fa fs.length fc, .slice ba bs.length bc] 35)
    have hK2 : (W1.alloc (.cells #[.slice fa fs.length fc, .slice ba bs.length bc] 35)).heap[D1]? = some (.deferred (some [])) := (Below.heap_alloc _ _ _ lD).trans hK1
    have hB2 := hB1.alloc hB1.size (.cells #[.slice fa fs.length fc, .slice ba bs.length bc] 35)
    have hsz3 : W1.heap.size + 1 ≤ (W1.alloc (.cells #[.slice fa fs.length fc, .slice ba bs.length bc] 35)).heap.size := by simp
    obtain ⟨Wz, hWz⟩ : ∃ Wz, W1.heap.size = Wz := ⟨_, rfl⟩
    obtain ⟨W2, hW2⟩ : ∃ W2, W1.alloc (.cells #[.slice fa fs.length fc, .slice ba bs.length bc] 35) = W2 := ⟨_, rfl⟩
    rw [hW2] at bN bP2 bR2 hK2 hB2 hsz3 ⊢
    rw [hWz] at bN hsz3 hsz2 lD ⊢
    clear hW2 p0 p1 bP1 bR1 hK1 hWz hB1
    have HD0 := Lib.hid (HD.out.below hB2)
    refine wpIn_rangeFunc_ownG (α := Ap (ElG w.heap.size w)) hro (by decide) (gf := 34) (lb := #[.pointer (some ⟨Wz, 0, none⟩)]) rfl h34 (enters_of Try.func34 (by kernel_rfl) rfl)
      (each_stops Fence.wide 9 h34 hro (by decide) (Wz) w.heap.size d W2 (by omega) (by omega) (fun x => x.1) (Ap.mk h0) (fun x hx => Ap.mk_val h0 (HP.out x hx)) (by rw [HDD.out]; exact bN.cell0) (by rw [HDD.out]; exact bN.cell1) HD0.out)
      belowK_t (belowK_b (by omega)) (Below.refl _ _) (fun _ => rfl)
      (fun (pre : List (Ap (ElG w.heap.size w))) W => ((Boxed2 W w.heap.size 35 (.slice fa fs.length fc) (.slice ba bs.length bc) ∧ Boxed W (w.heap.size + 1) 37 (.int .i64 0)) ∧ Hid (W.heap[D1]? = some (.deferred (some [])))) ∧ Below w.heap.size w W)
      (fun c (pre : List (Ap (ElG w.heap.size w))) W => False)
      (OwnFrom.and (OwnFrom.and (OwnFrom.and (Own.from (boxed2_own _ _ _ _) _) (Own.from (boxed_own _ _ _) _)) (fun s A B row hs hg hr => Lib.hid ((hg.block D1 (Array.getElem?_eq_some_iff.1 hs.out).1 (fun e => by have := (hr _ e.symm).1; omega)).trans hs.out))) (ownFrom_below (Nat.le_refl _) (by omega)))
      (fun _ => ownFrom_const _ _)
      ⟨⟨⟨bP2, bR2⟩, Lib.hid hK2⟩, hB2⟩
      (fun x => { tmps := #[.agg #[.slice fa fs.length fc, .slice ba bs.length bc], .pointer (some ⟨w.heap.size, 0, none⟩), .pointer (some ⟨w.heap.size + 1, 0, none⟩), undef, undef, undef, x.1.c.v, .agg #[.slice fa fs.length fc, .slice ba bs.length bc], .func (.func 34) #[] #[.pointer (some ⟨w.heap.size + 1 + 1, 0, none⟩)], undef, undef, undef, undef, undef, undef, undef, undef, undef, undef, .agg #[.slice fa fs.length fc, .slice ba bs.length bc], .func (.func 34) #[] #[.pointer (some ⟨Wz, 0, none⟩)], x.1.nv, x.1.c.v, undef, undef, undef, undef, undef], defers := [] })
      ?assign2 ?body2 ?done2 ?stop2
    case assign2 =>
      rintro l ⟨⟨k, i, ⟨ca, cl, cc⟩⟩, hx⟩ W K hK
      simp only [El.vs, El.nv, Cel.v] at hK ⊢
      gi_wp2
      exact hK
    case stop2 =>
      rintro D c pre W _ _ h _
      exact h.elim
    case body2 =>
      rintro l pre ⟨⟨k, i, ⟨ca, cl, cc⟩⟩, hx⟩ W ⟨⟨⟨bP1, bR1⟩, hKD⟩, hB1⟩ hlt
      have hok : Cel.ok w.heap.size W ⟨ca, cl, cc⟩ := hx.1.2.2.below hB1
      have HK := Lib.hid hok
      have HA := Lib.hid (allNamed_mk hx.2.2.2)
      clear hok
      simp only [Cel.v]
      gi_wp2_with (first
        | (refine ⟨trivial, ?_⟩; gi_at_call 24; refine (CallsIn.inRound l (callsIn_wide.2 (areNamed_any ⟨ca, cl, cc⟩ w.heap.size W hB1.size HK.out))).mono ?_; rw [HA.out]; rintro e w1 ⟨rfl, hb1⟩; obtain ⟨hc1, hf1⟩ := bcell hb1; have hz1 := hb1.size))
      have hw1 : Below w.heap.size W w1 := hb1.mono hB1.size
      exact ⟨keepsFrom_below hb1 (Nat.le_refl _), hw1, ⟨⟨bP1.below hb1 bP1.lt, boxed_below bR1 hb1 bR1.lt⟩, Lib.hid ((hb1.block D1 (Array.getElem?_eq_some_iff.1 hKD.out).1).trans hKD.out)⟩, hB1.trans hw1⟩
    case done2 =>
      rintro D2 ys2 W hD2 - ⟨⟨⟨bP1, bR1⟩, hKD⟩, hB1⟩ hK
      have p0 := bP1.cell0
      have p1 := bP1.cell1
      have e0 := bR1.cell
      have fE := bR1.frozen
      have lE := bR1.lt
      have HT : Hid (decide (¬ (names (Bds.els ⟨⟨fa, fs, fc⟩, ⟨ba, bs, bc⟩⟩)).Nodup) = false) := Lib.hid (by rw [← HDD.out]; simp [HG.out.once])
      gi_wp2_with (refine ⟨trivial, ?_⟩; gi_at_call 25; refine (callsIn_wide.2 (twice_any ⟨⟨fa, fs, fc⟩, ⟨ba, bs, bc⟩⟩ w.heap.size _ hB1.size (by rw [← HDD.out]; exact HD.out.below hB1) (by rw [← HDD.out]; exact fun x hx => (HG.out.st x hx).2))).mono ?_; rw [HT.out]; rintro e w1 ⟨rfl, hb1⟩; obtain ⟨hc1, hf1⟩ := bcell hb1; have hz1 := hb1.size)
      have hKa := (KeepsOthers.setCell w1 ⟨w.heap.size + 1, 0, none⟩ (.int .i64 0)).same D2 _ ((hb1.block D2 (Array.getElem?_eq_some_iff.1 hK).1).trans hK) rfl
      have hKb := (KeepsOthers.setCell w1 ⟨w.heap.size + 1, 0, none⟩ (.int .i64 0)).same D1 _ ((hb1.block D1 (Array.getElem?_eq_some_iff.1 hKD.out).1).trans hKD.out) rfl
      refine ⟨by simp, .inl ⟨_, _, rfl, run_takeDeferred hKa, ?_⟩⟩
      have lD2 : D1 < D2 := by omega
      have hKc : ((w1.setCell ⟨w.heap.size + 1, 0, none⟩ (.int .i64 0)).putObj D2 (.deferred none)).heap[D1]? = some (.deferred (some [])) := (World.putObj_heap_other (by omega)).trans hKb
      refine ⟨by simp, .inl ⟨_, _, rfl, run_takeDeferred hKc, ?_⟩⟩
      have bE := (boxed_below bR1 hb1 lE).set (.int .i64 0)
      have g1 := cell_kept bE.cell (grownBy_putObj' _ D2 (.deferred none)) (fun r e => by cases e; exact ⟨_, hKa, rfl⟩)
      have g2 := cell_kept g1 (grownBy_putObj' _ D1 (.deferred none)) (fun r e => by cases e; exact ⟨_, hKc, rfl⟩)
      have hw1 : Below w.heap.size W w1 := hb1.mono hB1.size
      have k1 : Below w.heap.size w (w1.setCell ⟨w.heap.size + 1, 0, none⟩ (.int .i64 0)) := (hB1.trans hw1).setCell (p := ⟨w.heap.size + 1, 0, none⟩) (by simp) _
      have k2 := k1.trans (belowK_b (w := w) (Nat.le_refl _) _ D2 _ (.deferred none) (by omega) hKa rfl rfl)
      refine ⟨.int .i64 0, ?_, rfl, k2.trans (belowK_b (w := w) (Nat.le_refl _) _ D1 _ (.deferred none) (by omega) hKc rfl rfl)⟩
      simp [results, Try.f10, go_sem, g2]
end Go.Proofs.Ytjjnhmbgffdenaa
