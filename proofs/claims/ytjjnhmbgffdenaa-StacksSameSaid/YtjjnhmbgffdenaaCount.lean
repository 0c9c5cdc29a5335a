import Derived.Test.YtjjnhmbgffdenaaRng
namespace Go.Proofs.Ytjjnhmbgffdenaa
open Go.RowKit Go.Shelf
attribute [local go_sem] Oper.semAt_some

def cntM (xs : List El) : Nat := (xs.map fun x => if isN x.k ((x.i : Int) + 1) = true then x.c.l.length else 0).sum
theorem cntM_snoc (xs : List El) (x : El) : cntM (xs ++ [x]) = cntM xs + if isN x.k ((x.i : Int) + 1) = true then x.c.l.length else 0 := by simp [cntM]
theorem cntM_le {n : Nat} {w : World} (xs : List (Al n w)) : cntM (xs.map fun x => x.1) ≤ xs.length * 100 := by
  induction xs with
  | nil => simp [cntM]
  | cons x xs ih =>
    have h : x.1.c.l.length ≤ 100 := x.2.2.2.1
    simp only [cntM, List.map_cons, List.sum_cons, List.length_cons] at ih ⊢
    split <;> omega

set_option maxRecDepth 100000 in
set_option maxHeartbeats 2000000 in
theorem count_any (d : Bds) (B : Nat) (w : World) (hB : B ≤ w.heap.size) (hd : d.ok B w) :
    Calls Try.prog 15 #[d.v] w fun e w' => e = .returned (.int .i64 (cntM d.els)) ∧ Below w.heap.size w w' := by
  have HD := Lib.hid (hd.mono hB)
  clear hd
  refine (callsIn_wide (n := 10)).1 ?_
  have hro : Fence.wide.round = none := rfl
  refine callsIn_of_wp_marks Try.func15 rfl trivial ?_ hro
  simp only [Try.ntmps15, List.size_toArray, List.length_cons, List.length_nil, Nat.reduceAdd, Nat.reduceSub, Array.replicate_succ, Array.replicate_zero, List.push_toArray, List.append_toArray, List.nil_append, List.cons_append]
  obtain ⟨⟨fa, fs, fc⟩, ⟨ba, bs, bc⟩⟩ := d
  simp only [Bds.v, Bed.v]
  gi_wp2_with (refine ⟨trivial, ?_⟩; gi_at_call 22; refine (each_in Fence.wide 9 trivial hro _ _ _ _ _ _ _).mono ?_; rintro e w' ⟨rfl, rfl⟩)
  obtain ⟨W0, hW0⟩ : ∃ W0, ((w.alloc (.cells #[.slice fa fs.length fc, .slice ba bs.length bc] 35)).alloc (.cells #[.int .i64 0] 3)).alloc (.cells #[.slice fa fs.length fc, .slice ba bs.length bc] 35) = W0 := ⟨_, rfl⟩
  have bS := (Boxed.new (w.alloc (.cells #[.slice fa fs.length fc, .slice ba bs.length bc] 35)) 3 (.int .i64 0)).alloc (.cells #[.slice fa fs.length fc, .slice ba bs.length bc] 35)
  have bN := Boxed2.new ((w.alloc (.cells #[.slice fa fs.length fc, .slice ba bs.length bc] 35)).alloc (.cells #[.int .i64 0] 3)) 35 (.slice fa fs.length fc) (.slice ba bs.length bc)
  have hB0 := below3 w (.cells #[.slice fa fs.length fc, .slice ba bs.length bc] 35) (.cells #[.int .i64 0] 3) (.cells #[.slice fa fs.length fc, .slice ba bs.length bc] 35)
  have hsz : (((w.alloc (.cells #[.slice fa fs.length fc, .slice ba bs.length bc] 35)).alloc (.cells #[.int .i64 0] 3)).alloc (.cells #[.slice fa fs.length fc, .slice ba bs.length bc] 35)).heap.size = w.heap.size + 3 := by simp
  simp only [World.size_alloc] at bN bS
  rw [hW0] at bS bN hB0 hsz ⊢
  clear hW0
  have h34 : Fence.wide.fn 34 := trivial
  have HD0 := Lib.hid (HD.out.below hB0)
  clear HD
  obtain ⟨d, hdd⟩ : ∃ d : Bds, d = ⟨⟨fa, fs, fc⟩, ⟨ba, bs, bc⟩⟩ := ⟨_, rfl⟩
  rw [← hdd] at HD0
  have HDD := Lib.hid hdd
  clear hdd
  have hlen : d.els.length ≤ 200 := HD0.out.els_len
  refine wpIn_rangeFunc_ownH (α := Al w.heap.size W0) hro (by decide) (gf := 34) (lb := #[.pointer (some ⟨w.heap.size + 1 + 1, 0, none⟩)]) rfl h34 (enters_of Try.func34 (by kernel_rfl) rfl)
    (each_stops Fence.wide 9 h34 hro (by decide) (w.heap.size + 1 + 1) w.heap.size d W0 (by omega) (by omega) (fun x => x.1) (Al.mk w.heap.size W0) (fun x hx => Al.mk_val (HD0.out.els hx)) (by rw [HDD.out]; exact bN.cell0) (by rw [HDD.out]; exact bN.cell1) HD0.out)
    belowK_t (belowK_b (by omega)) (Below.refl _ _) (fun _ => rfl)
    (fun (pre : List (Al w.heap.size W0)) W => Boxed W (w.heap.size + 1) 3 (.int .i64 (cntM (pre.map fun x => x.1))) ∧ Below w.heap.size w W)
    (fun _ _ _ => False)
    (OwnFrom.and (Own.from (boxed_own _ _ _) _) (ownFrom_below (Nat.le_refl _) (by omega)))
    (fun _ _ _ _ _ hs _ _ => hs)
    ⟨bS, hB0⟩
    (fun x a' W => ∃ Bx, w.heap.size + 1 < Bx ∧ Boxed2 W Bx 26 (.int .u8 x.1.k) (.int .i64 ((x.1.i : Int) + 1)) ∧ a' = { tmps := #[.agg #[.slice fa fs.length fc, .slice ba bs.length bc], .pointer (some ⟨w.heap.size, 0, none⟩), .int .i64 0, .pointer (some ⟨w.heap.size + 1, 0, none⟩), .pointer (some ⟨Bx, 0, none⟩), x.1.c.v, .agg #[.slice fa fs.length fc, .slice ba bs.length bc], .func (.func 34) #[] #[.pointer (some ⟨w.heap.size + 1 + 1, 0, none⟩)], x.1.nv, x.1.c.v, undef, undef, undef, undef, undef, undef, undef], defers := [] })
    (fun x a' _ X Y row hs hg hr => by obtain ⟨Bx, h1, h2, h3⟩ := hs; exact ⟨Bx, h1, boxed2_own Bx 26 (fun (_ : Unit) => Value.int .u8 x.1.k) (fun _ => .int .i64 ((x.1.i : Int) + 1)) () X Y row h2 hg (fun r e => (hr r e).2), h3⟩)
    ?assign ?body ?done ?stop
  case assign =>
    rintro l pre ⟨⟨k, i, ⟨ca, cl, cc⟩⟩, hx⟩ W K ⟨bS1, hB1⟩ hK
    simp only [El.vs, El.nv, Cel.v] at hK ⊢
    gi_wp2
    exact hK _ _ ((KeepsOthers.alloc _ _).from _) ((Below.refl _ W).alloc hB1.size _) ⟨bS1.alloc _, hB1.alloc hB1.size _⟩ ⟨W.heap.size, bS1.lt, Boxed2.new W 26 _ _, rfl⟩
  case body =>
    rintro l pre ⟨⟨k, i, ⟨ca, cl, cc⟩⟩, hx⟩ a' W hl ⟨r, hr⟩ ⟨bS1, hB1⟩ ⟨Bx, hBx, bX, rfl⟩ hlt
    simp only at bX
    have cS := bS1.cell
    have fS := bS1.frozen
    have lS := bS1.lt
    have c0 := bX.cell0
    have c1 := bX.cell1
    have hcl : cl.length ≤ 100 := hx.2.2.1
    have hle := cntM_le pre
    have hsn := cntM_snoc (pre.map fun x => x.1) ⟨k, i, ⟨ca, cl, cc⟩⟩
    have HSN := Lib.hid hsn
    clear hsn
    simp only [El.nv, Cel.v]
    obtain ⟨N, hN⟩ : ∃ N, N = cntM (pre.map fun x => x.1) := ⟨_, rfl⟩
    rw [← hN] at cS hle
    have HN := Lib.hid hN
    clear hN
    have hq : isN k ((i : Int) + 1) = true ∨ isN k ((i : Int) + 1) = false := by cases isN k ((i : Int) + 1) <;> simp
    rcases hq with hq | hq
    · have HQ := Lib.hid hq
      clear hq
      gi_wp2_with (refine ⟨trivial, ?_⟩; gi_at_call 23; refine (CallsIn.inRound l (callsIn_wide.2 (isNeedle_any _ _ _ _ HQ.out))).mono ?_; rintro e w1 ⟨rfl, hb1⟩; obtain ⟨hc1, hf1⟩ := bcell hb1; have hz1 := hb1.size)
      have hw1 : Below w.heap.size W w1 := hb1.mono hB1.size
      have e : ((cntM ((pre.map fun x => x.1) ++ [⟨k, i, ⟨ca, cl, cc⟩⟩]) : Nat) : Int) = (N : Int) + (cl.length : Int) := by
        rw [HSN.out, ← HN.out, HQ.out]; simp
      exact ⟨(keepsFrom_below hb1 (Nat.le_refl _)).trans ((KeepsOthers.setCell _ _ _).from _), hw1.setCell (p := ⟨w.heap.size + 1, 0, none⟩) (by simp) _,
        by rw [List.map_append]; show Boxed _ _ _ (.int .i64 ((cntM ((pre.map fun x => x.1) ++ [⟨k, i, ⟨ca, cl, cc⟩⟩]) : Nat) : Int)); rw [e]; exact (boxed_below bS1 hb1 lS).set _, (hB1.trans hw1).setCell (p := ⟨w.heap.size + 1, 0, none⟩) (by simp) _⟩
    · have HQ := Lib.hid hq
      clear hq
      gi_wp2_with (refine ⟨trivial, ?_⟩; gi_at_call 23; refine (CallsIn.inRound l (callsIn_wide.2 (isNeedle_any _ _ _ _ HQ.out))).mono ?_; rintro e w1 ⟨rfl, hb1⟩; obtain ⟨hc1, hf1⟩ := bcell hb1; have hz1 := hb1.size)
      have hw1 : Below w.heap.size W w1 := hb1.mono hB1.size
      have e : cntM ((pre.map fun x => x.1) ++ [⟨k, i, ⟨ca, cl, cc⟩⟩]) = N := by
        rw [HSN.out, ← HN.out, HQ.out]; simp
      exact ⟨keepsFrom_below hb1 (Nat.le_refl _), hw1, by rw [List.map_append]; show Boxed _ _ _ (.int .i64 ((cntM ((pre.map fun x => x.1) ++ [⟨k, i, ⟨ca, cl, cc⟩⟩]) : Nat) : Int)); rw [e, HN.out]; exact boxed_below bS1 hb1 lS, hB1.trans hw1⟩
  case done =>
    rintro D ys W hD rfl ⟨bS1, hB1⟩ hK
    rw [Al.map_val HD0.out] at bS1
    have cS := bS1.cell
    gi_wp2
    refine ⟨by simp, .inl ⟨_, _, rfl, run_takeDeferred hK, ?_⟩⟩
    exact ⟨_, results_tmp rfl _ _ _, by rw [← HDD.out]; rfl, hB1.trans (belowK_b (w := w) (Nat.le_refl _) W D _ _ (by omega) hK rfl rfl)⟩
  case stop =>
    rintro D c pre W _ _ h _
    exact h.elim
end Go.Proofs.Ytjjnhmbgffdenaa
