import Derived.Test.YtjjnhmbgffdenaaDoorGad
import Derived.Sort.LotA
import Derived.Test.YtjjnhmbgffdenaaDoorChecked
import Derived.Shelf.SlSortCmp.KitK
import Derived.Sort.WalkB2
import Derived.Sort.WalkB12
import Derived.Deep.LoopGhost
import Derived.Lib.Hide
import Derived.Deep.Cut
namespace Go.Proofs.YtjjnhmbgffdenaaDoor
open Go.RowKit Go.Shelf
attribute [local go_sem] Oper.semAt_some

/-- A stack that its needle may hold. -/
def okN (x : El) : Bool := isN x.k ((x.i : Int) + 1) && decide (x.c.l.length ≤ 4)
/-- What Check says of any beds. -/
def chkM (d : Bds) : Int := if d.els.all okN = true then (if (d.els.all fun x => allNamed x.c.l) = true then (if (names d.els).Nodup then 0 else 8) else 1) else 9
theorem allNamed_named {l : List Nm} (h : allNamed l = true) : ∀ p ∈ l, Named p := fun p hp => of_decide_eq_true (List.all_eq_true.1 h p hp)
theorem chk_full {d : Bds} {pre : List El} {x : El} (hp : pre ++ [x] <+: d.els) (hx : okN x = false) : chkM d = 9 := by
  unfold chkM
  rw [if_neg]
  intro h
  have := List.all_eq_true.1 h x (hp.subset (by simp))
  rw [hx] at this; cases this
theorem chk_arg {d : Bds} {pre : List El} {x : El} (h0 : ∀ x ∈ d.els, okN x = true) (hp : pre ++ [x] <+: d.els) (hx : allNamed x.c.l = false) : chkM d = 1 := by
  unfold chkM
  rw [if_pos (List.all_eq_true.2 h0), if_neg]
  intro h
  have := List.all_eq_true.1 h x (hp.subset (by simp))
  rw [hx] at this; cases this
theorem chk_rest {d : Bds} (h0 : ∀ x ∈ d.els, okN x = true) (h1 : ∀ x ∈ d.els, allNamed x.c.l = true) : chkM d = if (names d.els).Nodup then 0 else 8 := by
  unfold chkM
  rw [if_pos (List.all_eq_true.2 h0), if_pos (List.all_eq_true.2 h1)]

set_option maxRecDepth 100000 in
set_option maxHeartbeats 4000000 in
theorem check_all (d : Bds) (B : Nat) (w : World) (hB : B ≤ w.heap.size) (hd : d.ok B w) :
    Calls Tryd.prog 19 #[d.v] w fun e w' => e = .returned (.int .i64 (chkM d)) ∧ Below w.heap.size w w' := by
  have HD := Lib.hid (hd.mono hB)
  clear hd
  refine (callsIn_wide (n := 10)).1 ?_
  have hro : Fence.wide.round = none := rfl
  have h34 : Fence.wide.fn 65 := trivial
  refine callsIn_of_wp_marks Tryd.func19 rfl trivial ?_ hro
  simp only [Tryd.ntmps19, List.size_toArray, List.length_cons, List.length_nil, Nat.reduceAdd, Nat.reduceSub, Array.replicate_succ, Array.replicate_zero, List.push_toArray, List.append_toArray, List.nil_append, List.cons_append]
  obtain ⟨⟨fa, fs, fc⟩, ⟨ba, bs, bc⟩⟩ := d
  simp only [Bds.v, Bed.v]
  gi_wp2_with (refine ⟨trivial, ?_⟩; gi_at_call 47; refine (each_in Fence.wide 9 trivial hro _ _ _ _ _ _ _).mono ?_; rintro e w' ⟨rfl, rfl⟩)
  obtain ⟨W0, hW0⟩ : ∃ W0, (((w.alloc (.cells #[.slice fa fs.length fc, .slice ba bs.length bc] 26)).alloc (.cells #[.int .i64 0] 29)).alloc (.cells #[.slice fa fs.length fc, .slice ba bs.length bc] 26)) = W0 := ⟨_, rfl⟩
  have hsz : w.heap.size + 3 ≤ W0.heap.size := by rw [← hW0]; simp
  have bB : Boxed2 W0 (w.heap.size) 26 (.slice fa fs.length fc) (.slice ba bs.length bc) := by
    rw [← hW0]; have := (((Boxed2.new w 26 (.slice fa fs.length fc) (.slice ba bs.length bc)).alloc (.cells #[.int .i64 0] 29)).alloc (.cells #[.slice fa fs.length fc, .slice ba bs.length bc] 26))
    exact this
  have bR : Boxed W0 (w.heap.size + 1) 29 (.int .i64 0) := by
    rw [← hW0]; have := ((Boxed.new (w.alloc (.cells #[.slice fa fs.length fc, .slice ba bs.length bc] 26)) 29 (.int .i64 0)).alloc (.cells #[.slice fa fs.length fc, .slice ba bs.length bc] 26))
    simp only [World.size_alloc] at this; exact this
  have bN : Boxed2 W0 (w.heap.size + 1 + 1) 26 (.slice fa fs.length fc) (.slice ba bs.length bc) := by
    rw [← hW0]; have := (Boxed2.new ((w.alloc (.cells #[.slice fa fs.length fc, .slice ba bs.length bc] 26)).alloc (.cells #[.int .i64 0] 29)) 26 (.slice fa fs.length fc) (.slice ba bs.length bc))
    simp only [World.size_alloc] at this; exact this
  have hB0 : Below w.heap.size w W0 := by
    rw [← hW0]; exact (((Below.refl _ _).alloc (by simp; try omega) _).alloc (by simp; try omega) _).alloc (by simp; try omega) _
  rw [hW0]
  clear hW0
  have HD0 := Lib.hid (HD.out.below hB0)
  obtain ⟨d, hdd⟩ : ∃ d : Bds, d = ⟨⟨fa, fs, fc⟩, ⟨ba, bs, bc⟩⟩ := ⟨_, rfl⟩
  rw [← hdd] at HD HD0
  have HDD := Lib.hid hdd
  clear hdd
  have hlen : d.els.length ≤ 200 := HD0.out.els_len
  have HP : Hid (∀ x ∈ d.els, ElOk w.heap.size w x) := Lib.hid fun x hx => HD.out.els hx
  have h0 : ElOk w.heap.size w El.zero := El.zero_ok _ _
  refine wpIn_rangeFunc_ownH (α := Ap (ElOk w.heap.size w)) hro (by decide) (gf := 65) (lb := #[.pointer (some ⟨w.heap.size + 1 + 1, 0, none⟩)]) rfl h34 (enters_of Tryd.func65 (by kernel_rfl) rfl)
    (each_stops Fence.wide 9 h34 hro (by decide) (w.heap.size + 1 + 1) w.heap.size d W0 (by omega) (by omega) (fun x => x.1) (Ap.mk h0) (fun x hx => Ap.mk_val h0 (HP.out x hx)) (by rw [HDD.out]; exact bN.cell0) (by rw [HDD.out]; exact bN.cell1) HD0.out)
    belowK_t (belowK_b (by omega)) (Below.refl _ _) (fun _ => rfl)
    (fun (pre : List (Ap (ElOk w.heap.size w))) W => ((Boxed2 W w.heap.size 26 (.slice fa fs.length fc) (.slice ba bs.length bc) ∧ Boxed W (w.heap.size + 1) 29 (.int .i64 0)) ∧ Hid (∀ x ∈ pre, okN x.1 = true)) ∧ Below w.heap.size w W)
    (fun c (pre : List (Ap (ElOk w.heap.size w))) W => (Boxed W (w.heap.size + 1) 29 (.int .i64 9) ∧ c = .ret ∧ Hid (∃ ini x, pre = ini ++ [x] ∧ okN x.1 = false)) ∧ Below w.heap.size w W)
    (OwnFrom.and (OwnFrom.and (OwnFrom.and (Own.from (boxed2_own _ _ _ _) _) (Own.from (boxed_own _ _ _) _)) (ownFrom_const _ _)) (ownFrom_below (Nat.le_refl _) (by omega)))
    (fun _ => OwnFrom.and (OwnFrom.and (Own.from (boxed_own _ _ _) _) (ownFrom_const _ _)) (ownFrom_below (Nat.le_refl _) (by omega)))
    ⟨⟨⟨bB, bR⟩, Lib.hid (fun x hx => by cases hx)⟩, hB0⟩
    (fun x a' W => ∃ Bx, w.heap.size + 1 + 1 ≤ Bx ∧ Boxed2 W Bx 38 (.int .u8 x.1.k) (.int .i64 ((x.1.i : Int) + 1)) ∧ a' = { tmps := #[.agg #[.slice fa fs.length fc, .slice ba bs.length bc], .pointer (some ⟨w.heap.size, 0, none⟩), .pointer (some ⟨w.heap.size + 1, 0, none⟩), .pointer (some ⟨Bx, 0, none⟩), x.1.c.v, undef, undef, .agg #[.slice fa fs.length fc, .slice ba bs.length bc], .func (.func 65) #[] #[.pointer (some ⟨w.heap.size + 1 + 1, 0, none⟩)], x.1.nv, x.1.c.v, undef, undef, undef, undef, undef, undef, undef, undef, undef, undef, undef, undef, undef, undef, undef, undef, undef], defers := [] })
    (fun x a' _ X Y row hs hg hr => by obtain ⟨Bx, h1, h2, h3⟩ := hs; exact ⟨Bx, h1, boxed2_own Bx 38 (fun (_ : Unit) => Value.int .u8 x.1.k) (fun _ => .int .i64 ((x.1.i : Int) + 1)) () X Y row h2 hg (fun r e => (hr r e).2), h3⟩)
    ?assign ?body ?done ?stop
  case assign =>
    rintro l pre ⟨⟨k, i, ⟨ca, cl, cc⟩⟩, hx⟩ W K ⟨⟨⟨bP1, bR1⟩, hAL⟩, hB1⟩ hK
    simp only [El.vs, El.nv, Cel.v] at hK ⊢
    gi_wp2
    exact hK _ _ ((KeepsOthers.alloc _ _).from _) ((Below.refl _ W).alloc hB1.size _) ⟨⟨⟨bP1.alloc _, bR1.alloc _⟩, hAL⟩, hB1.alloc hB1.size _⟩ ⟨W.heap.size, bR1.lt, Boxed2.new W 38 _ _, rfl⟩
  case body =>
    rintro l pre ⟨⟨k, i, ⟨ca, cl, cc⟩⟩, hx⟩ a' W hl ⟨r, hr⟩ ⟨⟨⟨bP1, bR1⟩, hAL⟩, hB1⟩ ⟨Bx, hBx, bX, rfl⟩ hlt
    simp only at bX
    have c0 := bX.cell0
    have c1 := bX.cell1
    obtain ⟨q, hq⟩ : ∃ q, isN k ((i : Int) + 1) = q := ⟨_, rfl⟩
    have HQ := Lib.hid hq
    have HX := Lib.hid hx
    have hcl : cl.length ≤ 100 := hx.2.2.1
    clear hq
    simp only [El.nv, Cel.v]
    have lR := bR1.lt
    cases q with
    | false =>
      have HNO : Hid (okN ⟨k, i, ⟨ca, cl, cc⟩⟩ = false) := Lib.hid (by unfold okN; rw [HQ.out]; rfl)
      have cR := bR1.cell
      have fR := bR1.frozen
      gi_wp2_with (first
        | (refine ⟨trivial, ?_⟩; gi_at_call 48; refine (CallsIn.inRound l (callsIn_wide.2 (isNeedle_any _ _ _ _ HQ.out))).mono ?_; rintro e w1 ⟨rfl, hb1⟩; have hw1 : RowKit.Below w.heap.size W w1 := hb1.mono hB1.size; have bR2 := boxed_below bR1 hb1 lR; have cR := bR2.cell; have fR := bR2.frozen; have HK1 := Lib.hid (keepsFrom_below (B := W0.heap.size) hb1 (Nat.le_refl _))))
      exact ⟨HK1.out.trans ((KeepsOthers.setCell _ _ _).from _), ⟨bR2.set _, rfl, Lib.hid ⟨pre, ⟨⟨k, i, ⟨ca, cl, cc⟩⟩, hx⟩, rfl, HNO.out⟩⟩, (hB1.trans hw1).setCell (p := ⟨w.heap.size + 1, 0, none⟩) (by simp) _⟩
    | true =>
      by_cases hgt : 4 < cl.length
      · have HNO : Hid (okN ⟨k, i, ⟨ca, cl, cc⟩⟩ = false) := Lib.hid (by unfold okN; simp only; rw [HQ.out, decide_eq_false (by omega)]; rfl)
        have hgi : (4 : Int) < (cl.length : Int) := by omega
        gi_wp2_with (first
          | (refine ⟨trivial, ?_⟩; gi_at_call 48; refine (CallsIn.inRound l (callsIn_wide.2 (isNeedle_any _ _ _ _ HQ.out))).mono ?_; rintro e w1 ⟨rfl, hb1⟩; have hw1 : RowKit.Below w.heap.size W w1 := hb1.mono hB1.size; have bR2 := boxed_below bR1 hb1 lR; have cR := bR2.cell; have fR := bR2.frozen; have HK1 := Lib.hid (keepsFrom_below (B := W0.heap.size) hb1 (Nat.le_refl _))))
        exact ⟨HK1.out.trans ((KeepsOthers.setCell _ _ _).from _), ⟨bR2.set _, rfl, Lib.hid ⟨pre, ⟨⟨k, i, ⟨ca, cl, cc⟩⟩, hx⟩, rfl, HNO.out⟩⟩, (hB1.trans hw1).setCell (p := ⟨w.heap.size + 1, 0, none⟩) (by simp) _⟩
      · have HYES : Hid (okN ⟨k, i, ⟨ca, cl, cc⟩⟩ = true) := Lib.hid (by unfold okN; simp only; rw [HQ.out, decide_eq_true (by omega)]; rfl)
        have hgi : ¬ ((4 : Int) < (cl.length : Int)) := by omega
        gi_wp2_with (first
          | (refine ⟨trivial, ?_⟩; gi_at_call 48; refine (CallsIn.inRound l (callsIn_wide.2 (isNeedle_any _ _ _ _ HQ.out))).mono ?_; rintro e w1 ⟨rfl, hb1⟩; obtain ⟨hc1, hf1⟩ := bcell hb1; have hz1 := hb1.size))
        have hw1 : Below w.heap.size W w1 := hb1.mono hB1.size
        refine ⟨keepsFrom_below hb1 (Nat.le_refl _), hw1, ⟨⟨bP1.below hb1 bP1.lt, boxed_below bR1 hb1 bR1.lt⟩, Lib.hid (fun x hx => ?_)⟩, hB1.trans hw1⟩
        rcases List.mem_append.1 hx with h | h
        · exact hAL.out x h
        · have e := congrArg (fun z : Ap (ElOk w.heap.size w) => z.1) (List.mem_singleton.1 h); simp only at e; rw [e]; exact HYES.out
  case stop =>
    rintro D c pre W hD hpre ⟨⟨bR1, rfl, hno⟩, hB1⟩ hK
    have cR := bR1.cell
    have fR := bR1.frozen
    gi_wp2
    refine ⟨by simp, .inl ⟨_, _, rfl, run_takeDeferred hK, ?_⟩⟩
    have hc5 := cell_kept cR (grownBy_putObj' _ D (.deferred none)) (fun r e => by cases e; exact ⟨_, hK, rfl⟩)
    refine ⟨.int .i64 9, ?_, ?_, hB1.trans (belowK_b (w := w) (Nat.le_refl _) W D _ _ (by omega) hK rfl rfl)⟩
    · simp [results, Tryd.f19, go_sem, hc5]
    · rw [← HDD.out]
      obtain ⟨ini, x, rfl, hx⟩ := hno.out
      have hp := Ap.prefix_val h0 HP.out hpre
      rw [List.map_append] at hp
      rw [chk_full (pre := ini.map fun x => x.1) (x := x.1) (by simpa using hp) hx]
  case done =>
    rintro D1 ys W1 hD1 rfl ⟨⟨⟨bP1, bR1⟩, hAL⟩, hB1⟩ hK1
    have HA0 : Hid (∀ x ∈ d.els, okN x = true) := Lib.hid (fun x hx => by
      have h1 := hAL.out _ (List.mem_map_of_mem (f := Ap.mk h0) hx)
      rwa [Ap.mk_val h0 (HP.out x hx)] at h1)
    clear hAL
    have p0 := bP1.cell0
    have p1 := bP1.cell1
    gi_wp2_with (refine ⟨trivial, ?_⟩; gi_at_call 47; refine (each_in Fence.wide 9 trivial hro _ _ _ _ _ _ _).mono ?_; rintro e w' ⟨rfl, rfl⟩)
    clear bN bB bR HD0
    have hsz2 : w.heap.size + 3 ≤ W1.heap.size := by have := (Array.getElem?_eq_some_iff.1 hK1).1; omega
    have lD : D1 < W1.heap.size := (Array.getElem?_eq_some_iff.1 hK1).1
    have bN := Boxed2.new W1 26 (.slice fa fs.length fc) (.slice ba bs.length bc)
    have bP2 := bP1.alloc (.cells #[.slice fa fs.length fc, .slice ba bs.length bc] 26)
    have bR2 := bR1.alloc (.cells #[.slice fa fs.length fc, .slice ba bs.length bc] 26)
    have hK2 : (W1.alloc (.cells #[.slice fa fs.length fc, .slice ba bs.length bc] 26)).heap[D1]? = some (.deferred (some [])) := (Below.heap_alloc _ _ _ lD).trans hK1
    have hB2 := hB1.alloc hB1.size (.cells #[.slice fa fs.length fc, .slice ba bs.length bc] 26)
    have hsz3 : W1.heap.size + 1 ≤ (W1.alloc (.cells #[.slice fa fs.length fc, .slice ba bs.length bc] 26)).heap.size := by simp
    obtain ⟨Wz, hWz⟩ : ∃ Wz, W1.heap.size = Wz := ⟨_, rfl⟩
    obtain ⟨W2, hW2⟩ : ∃ W2, W1.alloc (.cells #[.slice fa fs.length fc, .slice ba bs.length bc] 26) = W2 := ⟨_, rfl⟩
    rw [hW2] at bN bP2 bR2 hK2 hB2 hsz3 ⊢
    rw [hWz] at bN hsz3 hsz2 lD ⊢
    clear hW2 p0 p1 bP1 bR1 hK1 hWz hB1
    have HD0 := Lib.hid (HD.out.below hB2)
    refine wpIn_rangeFunc_ownG (α := Ap (ElOk w.heap.size w)) hro (by decide) (gf := 65) (lb := #[.pointer (some ⟨Wz, 0, none⟩)]) rfl h34 (enters_of Tryd.func65 (by kernel_rfl) rfl)
      (each_stops Fence.wide 9 h34 hro (by decide) (Wz) w.heap.size d W2 (by omega) (by omega) (fun x => x.1) (Ap.mk h0) (fun x hx => Ap.mk_val h0 (HP.out x hx)) (by rw [HDD.out]; exact bN.cell0) (by rw [HDD.out]; exact bN.cell1) HD0.out)
      belowK_t (belowK_b (by omega)) (Below.refl _ _) (fun _ => rfl)
      (fun (pre : List (Ap (ElOk w.heap.size w))) W => (((Boxed2 W w.heap.size 26 (.slice fa fs.length fc) (.slice ba bs.length bc) ∧ Boxed W (w.heap.size + 1) 29 (.int .i64 0)) ∧ Hid (W.heap[D1]? = some (.deferred (some [])))) ∧ Hid (∀ x ∈ pre, allNamed x.1.c.l = true)) ∧ Below w.heap.size w W)
      (fun c (pre : List (Ap (ElOk w.heap.size w))) W => ((Boxed W (w.heap.size + 1) 29 (.int .i64 1) ∧ Hid (W.heap[D1]? = some (.deferred (some [])))) ∧ c = .ret ∧ Hid (∃ ini x, pre = ini ++ [x] ∧ allNamed x.1.c.l = false)) ∧ Below w.heap.size w W)
      (OwnFrom.and (OwnFrom.and (OwnFrom.and (OwnFrom.and (Own.from (boxed2_own _ _ _ _) _) (Own.from (boxed_own _ _ _) _)) (fun s A B row hs hg hr => Lib.hid ((hg.block D1 (Array.getElem?_eq_some_iff.1 hs.out).1 (fun e => by have := (hr _ e.symm).1; omega)).trans hs.out))) (ownFrom_const _ _)) (ownFrom_below (Nat.le_refl _) (by omega)))
      (fun _ => OwnFrom.and (OwnFrom.and (OwnFrom.and (Own.from (boxed_own _ _ _) _) (fun s A B row hs hg hr => Lib.hid ((hg.block D1 (Array.getElem?_eq_some_iff.1 hs.out).1 (fun e => by have := (hr _ e.symm).1; omega)).trans hs.out))) (ownFrom_const _ _)) (ownFrom_below (Nat.le_refl _) (by omega)))
      ⟨⟨⟨⟨bP2, bR2⟩, Lib.hid hK2⟩, Lib.hid (fun x hx => by cases hx)⟩, hB2⟩
      (fun x => { tmps := #[.agg #[.slice fa fs.length fc, .slice ba bs.length bc], .pointer (some ⟨w.heap.size, 0, none⟩), .pointer (some ⟨w.heap.size + 1, 0, none⟩), undef, undef, undef, x.1.c.v, .agg #[.slice fa fs.length fc, .slice ba bs.length bc], .func (.func 65) #[] #[.pointer (some ⟨w.heap.size + 1 + 1, 0, none⟩)], undef, undef, undef, undef, undef, undef, undef, undef, undef, undef, .agg #[.slice fa fs.length fc, .slice ba bs.length bc], .func (.func 65) #[] #[.pointer (some ⟨Wz, 0, none⟩)], x.1.nv, x.1.c.v, undef, undef, undef, undef, undef], defers := [] })
      ?assign2 ?body2 ?done2 ?stop2
    case assign2 =>
      rintro l ⟨⟨k, i, ⟨ca, cl, cc⟩⟩, hx⟩ W K hK
      simp only [El.vs, El.nv, Cel.v] at hK ⊢
      gi_wp2
      exact hK
    case stop2 =>
      rintro D2 c pre W hD2 hpre ⟨⟨⟨bR1, hKD⟩, rfl, hno⟩, hB1⟩ hK
      have cR := bR1.cell
      have fR := bR1.frozen
      gi_wp2
      refine ⟨by simp, .inl ⟨_, _, rfl, run_takeDeferred hK, ?_⟩⟩
      have lD2 : D1 < D2 := by omega
      have hKc : (W.putObj D2 (.deferred none)).heap[D1]? = some (.deferred (some [])) := (World.putObj_heap_other (by omega)).trans hKD.out
      refine ⟨by simp, .inl ⟨_, _, rfl, run_takeDeferred hKc, ?_⟩⟩
      have g1 := cell_kept cR (grownBy_putObj' _ D2 (.deferred none)) (fun r e => by cases e; exact ⟨_, hK, rfl⟩)
      have g2 := cell_kept g1 (grownBy_putObj' _ D1 (.deferred none)) (fun r e => by cases e; exact ⟨_, hKc, rfl⟩)
      have k2 := hB1.trans (belowK_b (w := w) (Nat.le_refl _) W D2 _ (.deferred none) (by omega) hK rfl rfl)
      refine ⟨.int .i64 1, ?_, ?_, k2.trans (belowK_b (w := w) (Nat.le_refl _) _ D1 _ (.deferred none) (by omega) hKc rfl rfl)⟩
      · simp [results, Tryd.f19, go_sem, g2]
      · rw [← HDD.out]
        obtain ⟨ini, x, rfl, hx⟩ := hno.out
        have hp := Ap.prefix_val h0 HP.out hpre
        rw [List.map_append] at hp
        rw [chk_arg (pre := ini.map fun x => x.1) (x := x.1) HA0.out (by simpa using hp) hx]
    case body2 =>
      rintro l pre ⟨⟨k, i, ⟨ca, cl, cc⟩⟩, hx⟩ W ⟨⟨⟨⟨bP1, bR1⟩, hKD⟩, hAL⟩, hB1⟩ hlt
      have hok : Cel.ok w.heap.size W ⟨ca, cl, cc⟩ := hx.2.2.below hB1
      have HK := Lib.hid hok
      have HX := Lib.hid hx
      obtain ⟨q, hq⟩ : ∃ q, allNamed cl = q := ⟨_, rfl⟩
      have HQ := Lib.hid hq
      clear hok hq
      have lR := bR1.lt
      simp only [Cel.v]
      cases q with
      | true =>
        gi_wp2_with (first
          | (refine ⟨trivial, ?_⟩; gi_at_call 49; refine (CallsIn.inRound l (callsIn_wide.2 (areNamed_any ⟨ca, cl, cc⟩ w.heap.size W hB1.size HK.out))).mono ?_; rw [HQ.out]; rintro e w1 ⟨rfl, hb1⟩; obtain ⟨hc1, hf1⟩ := bcell hb1; have hz1 := hb1.size))
        have hw1 : Below w.heap.size W w1 := hb1.mono hB1.size
        refine ⟨keepsFrom_below hb1 (Nat.le_refl _), hw1, ⟨⟨⟨bP1.below hb1 bP1.lt, boxed_below bR1 hb1 bR1.lt⟩, Lib.hid ((hb1.block D1 (Array.getElem?_eq_some_iff.1 hKD.out).1).trans hKD.out)⟩, Lib.hid (fun x hx => ?_)⟩, hB1.trans hw1⟩
        rcases List.mem_append.1 hx with h | h
        · exact hAL.out x h
        · have e := congrArg (fun z : Ap (ElOk w.heap.size w) => z.1) (List.mem_singleton.1 h); simp only at e; rw [e]; exact HQ.out
      | false =>
        gi_wp2_with (first
          | (refine ⟨trivial, ?_⟩; gi_at_call 49; refine (CallsIn.inRound l (callsIn_wide.2 (areNamed_any ⟨ca, cl, cc⟩ w.heap.size W hB1.size HK.out))).mono ?_; rw [HQ.out]; rintro e w1 ⟨rfl, hb1⟩; have hw1 : RowKit.Below w.heap.size W w1 := hb1.mono hB1.size; have bR2 := boxed_below bR1 hb1 lR; have cR := bR2.cell; have fR := bR2.frozen; have HK1 := Lib.hid (keepsFrom_below (B := W2.heap.size) hb1 (Nat.le_refl _))))
        have hKa := (KeepsOthers.setCell w1 ⟨w.heap.size + 1, 0, none⟩ (.int .i64 1)).same D1 _ ((hb1.block D1 (Array.getElem?_eq_some_iff.1 hKD.out).1).trans hKD.out) rfl
        exact ⟨HK1.out.trans ((KeepsOthers.setCell _ _ _).from _), ⟨⟨bR2.set _, Lib.hid hKa⟩, rfl, Lib.hid ⟨pre, ⟨⟨k, i, ⟨ca, cl, cc⟩⟩, hx⟩, rfl, HQ.out⟩⟩, (hB1.trans hw1).setCell (p := ⟨w.heap.size + 1, 0, none⟩) (by simp) _⟩
    case done2 =>
      rintro D2 ys2 W hD2 rfl ⟨⟨⟨⟨bP1, bR1⟩, hKD⟩, hAL⟩, hB1⟩ hK
      have HA1 : Hid (∀ x ∈ d.els, allNamed x.c.l = true) := Lib.hid (fun x hx => by
        have h1 := hAL.out _ (List.mem_map_of_mem (f := Ap.mk h0) hx)
        rwa [Ap.mk_val h0 (HP.out x hx)] at h1)
      clear hAL
      have HCM := Lib.hid (chk_rest HA0.out HA1.out)
      have p0 := bP1.cell0
      have p1 := bP1.cell1
      have e0 := bR1.cell
      have fE := bR1.frozen
      have lE := bR1.lt
      by_cases hnd : (names d.els).Nodup
      · have HT : Hid (decide (¬ (names (Bds.els ⟨⟨fa, fs, fc⟩, ⟨ba, bs, bc⟩⟩)).Nodup) = false) := Lib.hid (by rw [← HDD.out]; simp [hnd])
        have HNE : Hid ((if (names d.els).Nodup then (0 : Int) else 8) = 0) := Lib.hid (if_pos hnd)
        clear hnd
        gi_wp2_with (refine ⟨trivial, ?_⟩; gi_at_call 50; refine (callsIn_wide.2 (twice_any ⟨⟨fa, fs, fc⟩, ⟨ba, bs, bc⟩⟩ w.heap.size _ hB1.size (by rw [← HDD.out]; exact HD.out.below hB1) (by rw [← HDD.out]; exact fun x hx => allNamed_named (HA1.out x hx)))).mono ?_; rw [HT.out]; rintro e w1 ⟨rfl, hb1⟩; obtain ⟨hc1, hf1⟩ := bcell hb1; have hz1 := hb1.size)
        have hKa := (KeepsOthers.setCell w1 ⟨w.heap.size + 1, 0, none⟩ (.int .i64 0)).same D2 _ ((hb1.block D2 (Array.getElem?_eq_some_iff.1 hK).1).trans hK) rfl
        have hKb := (KeepsOthers.setCell w1 ⟨w.heap.size + 1, 0, none⟩ (.int .i64 0)).same D1 _ ((hb1.block D1 (Array.getElem?_eq_some_iff.1 hKD.out).1).trans hKD.out) rfl
        refine ⟨by simp, .inl ⟨_, _, rfl, run_takeDeferred hKa, ?_⟩⟩
        have lD2 : D1 < D2 := by omega
        have hKc : ((w1.setCell ⟨w.heap.size + 1, 0, none⟩ (.int .i64 0)).putObj D2 (.deferred none)).heap[D1]? = some (.deferred (some [])) := (World.putObj_heap_other (by omega)).trans hKb
        refine ⟨by simp, .inl ⟨_, _, rfl, run_takeDeferred hKc, ?_⟩⟩
        have bE := (boxed_below bR1 hb1 lE).set (.int .i64 0)
        have g1 := cell_kept bE.cell (grownBy_putObj' _ D2 (.deferred none)) (fun r e => by cases e; exact ⟨_, hKa, rfl⟩)
        have g2 := cell_kept g1 (grownBy_putObj' _ D1 (.deferred none)) (fun r e => by cases e; exact ⟨_, hKc, rfl⟩)
        have hw1 : Below w.heap.size W w1 := hb1.mono hB1.size
        have k1 : Below w.heap.size w (w1.setCell ⟨w.heap.size + 1, 0, none⟩ (.int .i64 0)) := (hB1.trans hw1).setCell (p := ⟨w.heap.size + 1, 0, none⟩) (by simp) _
        have k2 := k1.trans (belowK_b (w := w) (Nat.le_refl _) _ D2 _ (.deferred none) (by omega) hKa rfl rfl)
        refine ⟨.int .i64 0, ?_, by rw [← HDD.out, HCM.out, HNE.out], k2.trans (belowK_b (w := w) (Nat.le_refl _) _ D1 _ (.deferred none) (by omega) hKc rfl rfl)⟩
        simp [results, Tryd.f19, go_sem, g2]

      · have HT : Hid (decide (¬ (names (Bds.els ⟨⟨fa, fs, fc⟩, ⟨ba, bs, bc⟩⟩)).Nodup) = true) := Lib.hid (by rw [← HDD.out]; simp [hnd])
        have HNE : Hid ((if (names d.els).Nodup then (0 : Int) else 8) = 8) := Lib.hid (if_neg hnd)
        clear hnd
        gi_wp2_with (refine ⟨trivial, ?_⟩; gi_at_call 50; refine (callsIn_wide.2 (twice_any ⟨⟨fa, fs, fc⟩, ⟨ba, bs, bc⟩⟩ w.heap.size _ hB1.size (by rw [← HDD.out]; exact HD.out.below hB1) (by rw [← HDD.out]; exact fun x hx => allNamed_named (HA1.out x hx)))).mono ?_; rw [HT.out]; rintro e w1 ⟨rfl, hb1⟩; obtain ⟨hc1, hf1⟩ := bcell hb1; have hz1 := hb1.size)
        have hKa := (KeepsOthers.setCell w1 ⟨w.heap.size + 1, 0, none⟩ (.int .i64 8)).same D2 _ ((hb1.block D2 (Array.getElem?_eq_some_iff.1 hK).1).trans hK) rfl
        have hKb := (KeepsOthers.setCell w1 ⟨w.heap.size + 1, 0, none⟩ (.int .i64 8)).same D1 _ ((hb1.block D1 (Array.getElem?_eq_some_iff.1 hKD.out).1).trans hKD.out) rfl
        refine ⟨by simp, .inl ⟨_, _, rfl, run_takeDeferred hKa, ?_⟩⟩
        have lD2 : D1 < D2 := by omega
        have hKc : ((w1.setCell ⟨w.heap.size + 1, 0, none⟩ (.int .i64 8)).putObj D2 (.deferred none)).heap[D1]? = some (.deferred (some [])) := (World.putObj_heap_other (by omega)).trans hKb
        refine ⟨by simp, .inl ⟨_, _, rfl, run_takeDeferred hKc, ?_⟩⟩
        have bE := (boxed_below bR1 hb1 lE).set (.int .i64 8)
        have g1 := cell_kept bE.cell (grownBy_putObj' _ D2 (.deferred none)) (fun r e => by cases e; exact ⟨_, hKa, rfl⟩)
        have g2 := cell_kept g1 (grownBy_putObj' _ D1 (.deferred none)) (fun r e => by cases e; exact ⟨_, hKc, rfl⟩)
        have hw1 : Below w.heap.size W w1 := hb1.mono hB1.size
        have k1 : Below w.heap.size w (w1.setCell ⟨w.heap.size + 1, 0, none⟩ (.int .i64 8)) := (hB1.trans hw1).setCell (p := ⟨w.heap.size + 1, 0, none⟩) (by simp) _
        have k2 := k1.trans (belowK_b (w := w) (Nat.le_refl _) _ D2 _ (.deferred none) (by omega) hKa rfl rfl)
        refine ⟨.int .i64 8, ?_, by rw [← HDD.out, HCM.out, HNE.out], k2.trans (belowK_b (w := w) (Nat.le_refl _) _ D1 _ (.deferred none) (by omega) hKc rfl rfl)⟩
        simp [results, Tryd.f19, go_sem, g2]
end Go.Proofs.YtjjnhmbgffdenaaDoor
namespace Go.Proofs.YtjjnhmbgffdenaaDoor
open Go.Sort
variable {α : Type} [Inhabited α] (key : α → Int)

/-- Ascending by a key. -/
def Srt (l : List α) : Prop := l.Pairwise fun x y => key x ≤ key y
/-- Those with a key. -/
def Fl (k : Int) (l : List α) : List α := l.filter fun x => key x == k
/-- The same elements, those with one key in their order. -/
def Sam (l l' : List α) : Prop := ∀ k, Fl key k l' = Fl key k l
variable {key}
omit [Inhabited α] in
theorem Fl_append (k : Int) (l l' : List α) : Fl key k (l ++ l') = Fl key k l ++ Fl key k l' := List.filter_append ..
omit [Inhabited α] in
theorem Sam.refl (l : List α) : Sam key l l := fun _ => rfl
omit [Inhabited α] in
theorem Sam.trans {a b c : List α} (h : Sam key a b) (h' : Sam key b c) : Sam key a c := fun k => (h' k).trans (h k)
omit [Inhabited α] in
theorem Sam.symm {a b : List α} (h : Sam key a b) : Sam key b a := fun k => (h k).symm
omit [Inhabited α] in
theorem Sam.append {a b c d : List α} (h : Sam key a b) (h' : Sam key c d) : Sam key (a ++ c) (b ++ d) := fun k => by
  rw [Fl_append, Fl_append, h k, h' k]
omit [Inhabited α] in
theorem Sam.mem {a b : List α} (h : Sam key a b) (x : α) : x ∈ b ↔ x ∈ a := by
  have : ∀ l : List α, x ∈ l ↔ x ∈ Fl key (key x) l := fun l => by simp [Fl]
  rw [this b, this a, h]
omit [Inhabited α] in
/-- What is less than all of another list changes places with it. -/
theorem Sam.swap {a b : List α} (h : ∀ x ∈ a, ∀ y ∈ b, key y < key x) : Sam key (a ++ b) (b ++ a) := fun k => by
  rw [Fl_append, Fl_append]
  by_cases h1 : Fl key k a = []
  · rw [h1]; simp
  · have h2 : Fl key k b = [] := by
      obtain ⟨x, hx⟩ := List.exists_mem_of_ne_nil _ h1
      simp only [Fl, List.mem_filter, beq_iff_eq] at hx
      simp only [Fl, List.filter_eq_nil_iff, beq_iff_eq]
      intro y hy e
      have := h x hx.1 y hy
      omega
    rw [h2]; simp
omit [Inhabited α] in
theorem Srt.append {a b : List α} : Srt key (a ++ b) ↔ Srt key a ∧ Srt key b ∧ ∀ x ∈ a, ∀ y ∈ b, key x ≤ key y := List.pairwise_append

/-- A merge: ascending, the same elements. -/
structure Mrg (key : α → Int) (l l' : List α) : Prop where
  srt : Srt key l'
  sam : Sam key l l'
omit [Inhabited α] in
theorem Mrg.general {X1 X2 Y1 Y2 Z1 Z2 : List α} (hX : Srt key (X1 ++ X2)) (hY : Srt key (Y1 ++ Y2)) (h1 : ∀ x ∈ X1, ∀ y ∈ Y2, key x ≤ key y) (h2 : ∀ x ∈ X2, ∀ y ∈ Y1, key y < key x)
    (m1 : Mrg key (X1 ++ Y1) Z1) (m2 : Mrg key (X2 ++ Y2) Z2) : Mrg key ((X1 ++ X2) ++ (Y1 ++ Y2)) (Z1 ++ Z2) := by
  obtain ⟨_, _, hx⟩ := Srt.append.1 hX
  obtain ⟨_, _, hy⟩ := Srt.append.1 hY
  refine ⟨Srt.append.2 ⟨m1.srt, m2.srt, fun x hx' y hy' => ?_⟩, ?_⟩
  · rcases List.mem_append.1 ((m1.sam.mem x).1 hx') with a | a <;> rcases List.mem_append.1 ((m2.sam.mem y).1 hy') with b | b
    · exact hx x a y b
    · exact h1 x a y b
    · exact Int.le_of_lt (h2 y b x a)
    · exact hy x a y b
  · refine Sam.trans (b := (X1 ++ Y1) ++ (X2 ++ Y2)) ?_ (m1.sam.append m2.sam)
    have : Sam key (X1 ++ ((X2 ++ Y1) ++ Y2)) (X1 ++ ((Y1 ++ X2) ++ Y2)) := (Sam.refl _).append ((Sam.swap h2).append (Sam.refl _))
    simpa [List.append_assoc] using this
omit [Inhabited α] in
/-- One element into a list: behind those that are less. -/
theorem Mrg.front {x : α} {Y1 Y2 : List α} (hY : Srt key (Y1 ++ Y2)) (h1 : ∀ y ∈ Y1, key y < key x) (h2 : ∀ y ∈ Y2, key x ≤ key y) : Mrg key (x :: (Y1 ++ Y2)) (Y1 ++ x :: Y2) := by
  obtain ⟨a, b, c⟩ := Srt.append.1 hY
  refine ⟨Srt.append.2 ⟨a, List.pairwise_cons.2 ⟨h2, b⟩, fun y hy z hz => ?_⟩, ?_⟩
  · rcases List.mem_cons.1 hz with rfl | hz
    · exact Int.le_of_lt (h1 y hy)
    · exact c y hy z hz
  · have : Sam key (([x] ++ Y1) ++ Y2) ((Y1 ++ [x]) ++ Y2) := (Sam.swap fun z hz y hy => by rw [List.mem_singleton.1 hz]; exact h1 y hy).append (Sam.refl _)
    simpa using this
omit [Inhabited α] in
theorem Mrg.back {y : α} {X1 X2 : List α} (hX : Srt key (X1 ++ X2)) (h1 : ∀ x ∈ X1, key x ≤ key y) (h2 : ∀ x ∈ X2, key y < key x) : Mrg key ((X1 ++ X2) ++ [y]) (X1 ++ y :: X2) := by
  obtain ⟨a, b, c⟩ := Srt.append.1 hX
  refine ⟨Srt.append.2 ⟨a, List.pairwise_cons.2 ⟨fun x hx => Int.le_of_lt (h2 x hx), b⟩, fun x hx z hz => ?_⟩, ?_⟩
  · rcases List.mem_cons.1 hz with rfl | hz
    · exact h1 x hx
    · exact c x hx z hz
  · have : Sam key (X1 ++ (X2 ++ [y])) (X1 ++ ([y] ++ X2)) := (Sam.refl _).append (Sam.swap fun x hx z hz => by rw [List.mem_singleton.1 hz]; exact h2 x hx)
    simpa using this

omit [Inhabited α] in
theorem snoc_of {l : List α} (h : l ≠ []) : ∃ U u, l = U ++ [u] := by
  rcases List.eq_nil_or_concat l with e | ⟨U, u, e⟩
  · exact absurd e h
  · exact ⟨U, u, by simpa using e⟩
/-! Arrays as lists. -/
theorem get_at {d : Array α} {P R : List α} {u : α} (h : d.toList = P ++ u :: R) {i : Nat} (hi : i = P.length) : d[i]! = u := by
  subst hi
  rw [← Array.getElem!_toList, h]
  simp
theorem swp_list {d : Array α} {P Q R : List α} {u v : α} (h : d.toList = P ++ u :: (Q ++ v :: R)) {i j : Nat} (hi : i = P.length) (hj : j = P.length + 1 + Q.length) : (swp d i j).toList = P ++ v :: (Q ++ u :: R) := by
  have e1 : d[i]! = u := get_at h hi
  have e2 : d[j]! = v := get_at (P := P ++ u :: Q) (R := R) (by rw [h]; simp) (by simp; omega)
  unfold swp
  rw [e1, e2, Array.toList_setIfInBounds, Array.toList_setIfInBounds, h, hi, hj]
  rw [List.set_append_right _ _ (Nat.le_refl _), Nat.sub_self, List.set_cons_zero]
  rw [List.set_append_right _ _ (by omega), show P.length + 1 + Q.length - P.length = Q.length + 1 by omega, List.set_cons_succ, List.set_append_right _ _ (Nat.le_refl _), Nat.sub_self, List.set_cons_zero]
/-- n exchanges. -/
def swr (d : Array α) (a b : Nat) : Nat → Array α
  | 0 => d
  | n + 1 => swp (swr d a b n) (a + n) (b + n)
theorem swr_size (d : Array α) (a b n : Nat) : (swr d a b n).size = d.size := by
  induction n with
  | zero => rfl
  | succ n ih => rw [swr, swp_size, ih]
theorem swr_list : ∀ (n : Nat) {d : Array α} {A U B V C : List α} {a b : Nat}, d.toList = A ++ (U ++ (B ++ (V ++ C))) → a = A.length → b = A.length + n + B.length → U.length = n → V.length = n → (swr d a b n).toList = A ++ (V ++ (B ++ (U ++ C))) := by
  intro n
  induction n with
  | zero =>
    intro d A U B V C a b h _ _ hU hV
    obtain rfl := List.eq_nil_of_length_eq_zero hU
    obtain rfl := List.eq_nil_of_length_eq_zero hV
    exact h
  | succ n ih =>
    intro d A U B V C a b h ha hb hU hV
    obtain ⟨U', u, rfl⟩ : ∃ U' u, U = U' ++ [u] := snoc_of (by intro e; simp [e] at hU)
    obtain ⟨V', v, rfl⟩ : ∃ U' u, V = U' ++ [u] := snoc_of (by intro e; simp [e] at hV)
    simp only [List.length_append, List.length_cons, List.length_nil] at hU hV
    have h1 := ih (d := d) (A := A) (U := U') (B := u :: B) (V := V') (C := v :: C) (a := a) (b := b) (by rw [h]; simp) ha (by simp; omega) (by omega) (by omega)
    rw [swr]
    have h2 := swp_list (d := swr d a b n) (P := A ++ V') (Q := B ++ U') (R := C) (u := u) (v := v) (by rw [h1]; simp) (i := a + n) (j := b + n) (by simp; omega) (by simp; omega)
    rw [h2]; simp
omit [Inhabited α] in
/-- A list cut in two. -/
theorem cut_list (l : List α) (n : Nat) (h : n ≤ l.length) : ∃ a b, l = a ++ b ∧ a.length = n ∧ b.length = l.length - n := ⟨l.take n, l.drop n, (List.take_append_drop n l).symm, by simp; omega, by simp⟩
omit [Inhabited α] in
theorem Srt.le_mid {P R : List α} {u : α} (h : Srt key (P ++ u :: R)) : (∀ x ∈ P, key x ≤ key u) ∧ ∀ y ∈ R, key u ≤ key y := by
  obtain ⟨_, b, c⟩ := Srt.append.1 h
  exact ⟨fun x hx => c x hx u (by simp), (List.pairwise_cons.1 b).1⟩
end Go.Proofs.YtjjnhmbgffdenaaDoor
namespace Go.Proofs.YtjjnhmbgffdenaaDoor
open Go.Shelf Go.RowKit Go.Lib Go.Sort Go.Proofs

theorem aE40 : ∀ w, (isAgg 40).run Tryd.prog w = .ok true w := fun _ => by kernel_rfl
theorem zE40 : ∀ w, (Go.sizeOf 40).run Tryd.prog w = .ok 5 w := fun _ => by kernel_rfl
theorem mix40 : Tryd.prog.follows Departure.mixedOrders = true := by kernel_rfl
variable {α : Type} [Inhabited α]

set_option maxHeartbeats 4000000 in
set_option maxRecDepth 1000000 in
theorem swapRange_k (k : Nat) (zE : ∀ w, (Go.sizeOf 40).run Tryd.prog w = .ok k w) (enc : α → List Value) (g : Nat) (cb : Array Value) (blk off cap a b n : Nat) (d0 d : Array α) (w0 w : World)
    (R : RowK enc k w0 blk off d0) (hs : d0.size = d.size) (S : SWK enc k w0 blk off d w) (ha : a + n ≤ d.size) (hb : b + n ≤ d.size) (hsz : d.size < 4611686018427387904) :
    Calls Tryd.prog 73 #[.slice (some ⟨blk, off, none⟩) d.size cap, .int .i64 a, .int .i64 b, .int .i64 n, .func (.func g) #[] cb] w fun e w' => e = .returned (.tuple #[]) ∧ SWK enc k w0 blk off (swr d a b n) w' := by
  have aE := aE40
  have mixed := mix40
  have S0 : Aside (SWK enc k w0 blk off d w) := S
  clear S
  go_enter Tryd.func73, Tryd.ntmps73
  go_wp2
  go_loopg [10] n (fun g1 s10 wr => ∃ i : Nat, s10 = .int .i64 i ∧ i ≤ n ∧ n - i ≤ g1 ∧ Aside (SWK enc k w0 blk off (swr d a b i) wr))
  case atStart => exact ⟨0, rfl, by omega, by omega, S0⟩
  case round =>
    clear S0
    obtain ⟨i, rfl, hi, hg, S1⟩ := hrel
    by_cases hlt : i < n
    · have hlz : (i : Int) < (n : Int) := by omega
      have hds : (swr d a b i).size = d.size := swr_size d a b i
      go_wp2_with fail
      have ea : ((a : Int) + (i : Int)).toNat = a + i := by omega
      have pa : (0 : Int) ≤ (a : Int) + (i : Int) := by omega
      have ba : (a : Int) + (i : Int) < (d.size : Int) := by omega
      have ra : IntKind.i64.wrap ((a : Int) + (i : Int)) = (a : Int) + (i : Int) := by rw [IntKind.wrap_i64]; omega
      have ec : ((b : Int) + (i : Int)).toNat = b + i := by omega
      have pc : (0 : Int) ≤ (b : Int) + (i : Int) := by omega
      have bc : (b : Int) + (i : Int) < (d.size : Int) := by omega
      have rc : IntKind.i64.wrap ((b : Int) + (i : Int)) = (b : Int) + (i : Int) := by rw [IntKind.wrap_i64]; omega
      have S2 : Aside (SWK enc k w0 blk off (swr d a b (i + 1)) ((wr.drew.setCells blk (off + (a + i) * k) (enc (swr d a b i)[b + i]!)).setCells blk (off + (b + i) * k) (enc (swr d a b i)[a + i]!))) := S1.out.swapped R (a + i) (b + i) (by omega) (by omega)
      have l1 := S1.out.ld1 R (by omega) Tryd.prog (a + i) (by omega)
      have l2 := S1.out.ld1 R (by omega) Tryd.prog (b + i) (by omega)
      have s1 := S1.out.st1 R (by omega) Tryd.prog (a + i) (by omega) (swr d a b i)[b + i]!
      have s2 := S1.out.st2 R (by omega) Tryd.prog (a + i) (b + i) (by omega) (by omega) (swr d a b i)[b + i]! (swr d a b i)[a + i]!
      have n1 : (enc (swr d a b i)[a + i]!).length = k := R.hk _
      have n2 : (enc (swr d a b i)[b + i]!).length = k := R.hk _
      generalize enc (swr d a b i)[a + i]! = cI at S2 l1 s2 n1
      generalize enc (swr d a b i)[b + i]! = cJ at S2 l2 s1 s2 n2
      clear S1
      go_big_region_o
      clear l1 l2 s1 s2
      generalize (wr.drew.setCells blk (off + (a + i) * k) cJ).setCells blk (off + (b + i) * k) cI = w2 at S2 ⊢
      go_wp2
      go_roundg (n - (i + 1))
      case measure => omega
      case rel => exact ⟨i + 1, by go_num, by omega, by omega, S2⟩
    · obtain rfl : i = n := by omega
      have hlz : ¬ ((i : Int) < (i : Int)) := by omega
      go_wp2
      go_end0
      exact ⟨rfl, S1.out⟩
end Go.Proofs.YtjjnhmbgffdenaaDoor
namespace Go.Proofs.YtjjnhmbgffdenaaDoor
open Go.Shelf Go.RowKit Go.Lib Go.Sort Go.Proofs
variable {α : Type} [Inhabited α]

set_option maxHeartbeats 4000000 in
set_option maxRecDepth 1000000 in
/-- Two neighbouring parts change places. -/
theorem rotate_k (k : Nat) (zE : ∀ w, (Go.sizeOf 40).run Tryd.prog w = .ok k w) (enc : α → List Value) (g : Nat) (cb : Array Value) (blk off cap : Nat) (d0 d : Array α) (w0 w : World) (A X Y C : List α)
    (R : RowK enc k w0 blk off d0) (hs : d0.size = d.size) (S : SWK enc k w0 blk off d w) (hd : d.toList = A ++ (X ++ (Y ++ C))) (hX : 0 < X.length) (hY : 0 < Y.length) (hsz : d.size < 4611686018427387904) :
    Calls Tryd.prog 72 #[.slice (some ⟨blk, off, none⟩) d.size cap, .int .i64 A.length, .int .i64 (A.length + X.length : Nat), .int .i64 (A.length + X.length + Y.length : Nat), .func (.func g) #[] cb] w fun e w' => e = .returned (.tuple #[]) ∧
      ∃ d', d'.toList = A ++ (Y ++ (X ++ C)) ∧ d'.size = d.size ∧ SWK enc k w0 blk off d' w' := by
  obtain ⟨n, hn⟩ : ∃ n, d.size = n := ⟨_, rfl⟩
  obtain ⟨la, hla⟩ : ∃ n, A.length = n := ⟨_, rfl⟩
  obtain ⟨lx, hlx⟩ : ∃ n, X.length = n := ⟨_, rfl⟩
  obtain ⟨ly, hly⟩ : ∃ n, Y.length = n := ⟨_, rfl⟩
  have hn2 : la + lx + ly ≤ n := by
    have := congrArg List.length hd
    simp only [List.length_append, Array.length_toList] at this
    omega
  have K1 : ∀ (a b m : Nat) (d : Array α) (w : World), d.size = n → SWK enc k w0 blk off d w → a + m ≤ n → b + m ≤ n → Calls Tryd.prog 73 #[.slice (some ⟨blk, off, none⟩) n cap, .int .i64 a, .int .i64 b, .int .i64 m, .func (.func g) #[] cb] w fun e w' => e = .returned (.tuple #[]) ∧ SWK enc k w0 blk off (swr d a b m) w' := fun a b m d w h1 h2 h3 h4 => by
    have := swapRange_k k zE enc g cb blk off cap a b m d0 d w0 w R (by omega) h2 (by omega) (by omega) (by omega)
    rw [h1] at this; exact this
  have HK1 := Lib.hid K1
  have HS := Lib.hid S
  have HD := Lib.hid hd
  have HA := Lib.hid hla
  have HLX := Lib.hid hlx
  have HLY := Lib.hid hly
  have HN := Lib.hid hn
  rw [hn] at hsz ⊢
  rw [hla, hlx, hly]
  rw [hlx] at hX
  rw [hly] at hY
  have hna : (la : Int) + lx + ly ≤ n := by omega
  clear K1 R hs S hd hla hlx hly hn
  go_enter Tryd.func72, Tryd.ntmps72
  go_wp2
  go_loopg [10, 11] (lx + ly) (fun g1 s10 s11 wr => ∃ (i j : Nat) (P X' Y' S' : List α) (dk : Array α), s10 = .int .i64 i ∧ s11 = .int .i64 j ∧ i + j ≤ g1 ∧ 0 < i ∧ 0 < j ∧ i + j ≤ lx + ly ∧ i ≤ lx ∧ j ≤ ly ∧ Hid (dk.toList = P ++ (X' ++ (Y' ++ S')) ∧ P.length + i = la + lx ∧ X'.length = i ∧ Y'.length = j ∧ dk.size = n ∧ A ++ (Y ++ (X ++ C)) = P ++ (Y' ++ (X' ++ S')) ∧ SWK enc k w0 blk off dk wr))
  case atStart => exact ⟨lx, ly, A, X, Y, C, d, by go_num, by go_num, by omega, by omega, by omega, by omega, by omega, by omega, Lib.hid ⟨HD.out, by rw [HA.out], HLX.out, HLY.out, HN.out, rfl, HS.out⟩⟩
  case round =>
    clear HS HD HLX HLY HN
    obtain ⟨i, j, P, X', Y', S', dk, rfl, rfl, hg, hi, hj, hij, hix, hjy, H⟩ := hrel
    by_cases hne : i = j
    · subst hne
      have z1 : ((i : Int) == (i : Int)) = true := by simp
      have c1 := HK1.out (la + lx - i) (la + lx) i dk wr H.out.2.2.2.2.1 H.out.2.2.2.2.2.2 (by omega) (by omega)
      rw [show ((la + lx - i : Nat) : Int) = (la : Int) + lx - i by omega, show ((la + lx : Nat) : Int) = (la : Int) + lx by omega] at c1
      have r1 : IntKind.i64.wrap ((la : Int) + (lx : Int) - (i : Int)) = (la : Int) + (lx : Int) - (i : Int) := by rw [IntKind.wrap_i64]; omega
      have HC1 := Lib.hid c1
      clear c1
      go_upto_region 8 with fail
      go_wp2_with (go_at_call 73; refine HC1.out.mono ?_; rintro e w2 ⟨rfl, h2⟩)
      go_end0
      refine ⟨rfl, swr dk (la + lx - i) (la + lx) i, ?_, by rw [swr_size]; exact H.out.2.2.2.2.1, h2⟩
      rw [H.out.2.2.2.2.2.1]
      exact swr_list i (B := []) (by simpa using H.out.1) (by have := H.out.2.1; omega) (by have := H.out.2.1; simp; omega) H.out.2.2.1 H.out.2.2.2.1
    · have z1 : ((i : Int) == (j : Int)) = false := by simp; omega
      by_cases hlt : j < i
      · have z2 : (j : Int) < (i : Int) := by omega
        obtain ⟨X1, X2, hXe, hX1, hX2⟩ := cut_list X' j (by rw [H.out.2.2.1]; omega)
        have c1 := HK1.out (la + lx - i) (la + lx) j dk wr H.out.2.2.2.2.1 H.out.2.2.2.2.2.2 (by omega) (by omega)
        rw [show ((la + lx - i : Nat) : Int) = (la : Int) + lx - i by omega, show ((la + lx : Nat) : Int) = (la : Int) + lx by omega] at c1
        have r1 : IntKind.i64.wrap ((la : Int) + (lx : Int) - (i : Int)) = (la : Int) + (lx : Int) - (i : Int) := by rw [IntKind.wrap_i64]; omega
        have HC1 := Lib.hid c1
        have HX1 := Lib.hid hXe
        have HL1 := Lib.hid hX1
        have HL2 := Lib.hid hX2
        clear c1 hXe hX1 hX2
        go_wp2_with (go_at_call 73; refine HC1.out.mono ?_; rintro e w2 ⟨rfl, h2⟩)
        go_roundg i
        case measure => omega
        case rel =>
          refine ⟨i - j, j, P ++ Y', X2, X1, S', swr dk (la + lx - i) (la + lx) j, ?_, rfl, by omega, by omega, by omega, by omega, by omega, by omega, Lib.hid ⟨?_, ?_, ?_, HL1.out, by rw [swr_size]; exact H.out.2.2.2.2.1, ?_, h2⟩⟩
          · refine congrArg (Value.int .i64) ?_
            rw [show ((i - j : Nat) : Int) = (i : Int) - j by omega]
          · have := swr_list j (d := dk) (A := P) (U := X1) (B := X2) (V := Y') (C := S') (a := la + lx - i) (b := la + lx) (by have := H.out.1; rw [HX1.out] at this; simpa using this) (by have := H.out.2.1; omega) (by have := H.out.2.1; have := HL2.out; have := H.out.2.2.1; omega) HL1.out H.out.2.2.2.1
            simpa using this
          · have := H.out.2.1; have := H.out.2.2.2.1; simp only [List.length_append]; omega
          · have := HL2.out; have := H.out.2.2.1; omega
          · rw [H.out.2.2.2.2.2.1, HX1.out]; simp
      · have z2 : ¬ ((j : Int) < (i : Int)) := by omega
        obtain ⟨Y1, Y2, hYe, hY1, hY2⟩ := cut_list Y' (j - i) (by rw [H.out.2.2.2.1]; omega)
        have c1 := HK1.out (la + lx - i) (la + lx + j - i) i dk wr H.out.2.2.2.2.1 H.out.2.2.2.2.2.2 (by omega) (by omega)
        rw [show ((la + lx - i : Nat) : Int) = (la : Int) + lx - i by omega, show ((la + lx + j - i : Nat) : Int) = (la : Int) + lx + j - i by omega] at c1
        have r1 : IntKind.i64.wrap ((la : Int) + (lx : Int) - (i : Int)) = (la : Int) + (lx : Int) - (i : Int) := by rw [IntKind.wrap_i64]; omega
        have r2 : IntKind.i64.wrap ((la : Int) + (lx : Int) + (j : Int)) = (la : Int) + (lx : Int) + (j : Int) := by rw [IntKind.wrap_i64]; omega
        have r3 : IntKind.i64.wrap ((la : Int) + (lx : Int) + (j : Int) - (i : Int)) = (la : Int) + (lx : Int) + (j : Int) - (i : Int) := by rw [IntKind.wrap_i64]; omega
        have HC1 := Lib.hid c1
        have HX1 := Lib.hid hYe
        have HL1 := Lib.hid hY1
        have HL2 := Lib.hid hY2
        clear c1 hYe hY1 hY2
        go_wp2_with (go_at_call 73; refine HC1.out.mono ?_; rintro e w2 ⟨rfl, h2⟩)
        go_roundg j
        case measure => omega
        case rel =>
          refine ⟨i, j - i, P, Y2, Y1, X' ++ S', swr dk (la + lx - i) (la + lx + j - i) i, rfl, ?_, by omega, by omega, by omega, by omega, by omega, by omega, Lib.hid ⟨?_, H.out.2.1, ?_, HL1.out, by rw [swr_size]; exact H.out.2.2.2.2.1, ?_, h2⟩⟩
          · refine congrArg (Value.int .i64) ?_
            rw [show ((j - i : Nat) : Int) = (j : Int) - i by omega]
          · have := swr_list i (d := dk) (A := P) (U := X') (B := Y1) (V := Y2) (C := S') (a := la + lx - i) (b := la + lx + j - i) (by have := H.out.1; rw [HX1.out] at this; simpa using this) (by have := H.out.2.1; omega) (by have := H.out.2.1; have := HL1.out; omega) H.out.2.2.1 (by have := HL2.out; have := H.out.2.2.2.1; omega)
            exact this
          · have := HL2.out; have := H.out.2.2.2.1; omega
          · rw [H.out.2.2.2.2.2.1, HX1.out]; simp
end Go.Proofs.YtjjnhmbgffdenaaDoor
namespace Go.Proofs.YtjjnhmbgffdenaaDoor
open Go.Shelf Go.RowKit Go.Lib Go.Sort Go.Proofs
variable {α : Type} [Inhabited α]
theorem mem_at {d : Array α} {P Y R : List α} (h : d.toList = P ++ (Y ++ R)) {y : α} (hy : y ∈ Y) : ∃ p, P.length ≤ p ∧ p < P.length + Y.length ∧ d[p]! = y := by
  obtain ⟨A, B, rfl⟩ := List.append_of_mem hy
  exact ⟨P.length + A.length, by omega, by simp only [List.length_append, List.length_cons]; omega, get_at (P := P ++ A) (R := B ++ R) (by rw [h]; simp) (by simp)⟩
theorem srt_at {key : α → Int} {d : Array α} {P Y R : List α} (h : d.toList = P ++ (Y ++ R)) (hs : Srt key Y) {p q : Nat} (hp : P.length ≤ p) (hpq : p ≤ q) (hq : q < P.length + Y.length) : key d[p]! ≤ key d[q]! := by
  rcases Nat.lt_or_eq_of_le hpq with hlt | rfl
  · have e : ∀ i (hi : i < Y.length), d[P.length + i]! = Y[i] := fun i hi => by
      have e2 : Y = Y.take i ++ Y[i] :: Y.drop (i + 1) := by rw [← List.drop_eq_getElem_cons hi, List.take_append_drop]
      have e1 : d.toList = (P ++ Y.take i) ++ Y[i] :: (Y.drop (i + 1) ++ R) := (h.trans (congrArg (fun l => P ++ (l ++ R)) e2)).trans (by simp only [List.append_assoc, List.cons_append])
      exact get_at e1 (by simp; omega)
    obtain ⟨i, rfl⟩ : ∃ i, p = P.length + i := ⟨p - P.length, by omega⟩
    obtain ⟨j, rfl⟩ : ∃ j, q = P.length + j := ⟨q - P.length, by omega⟩
    rw [e i (by omega), e j (by omega)]
    exact List.pairwise_iff_getElem.1 hs i j _ _ (by omega)
  · exact Int.le_refl _

set_option maxHeartbeats 4000000 in
set_option maxRecDepth 1000000 in
theorem symMerge_front (k : Nat) (zE : ∀ w, (Go.sizeOf 40).run Tryd.prog w = .ok k w) (enc : α → List Value) (key : α → Int) (cf : α → α → Int) (hcf : ∀ x y, cf x y < 0 ↔ key x < key y) (g : Nat) (cb : Array Value) (eg : ∀ args w, (callFunc g args).run Tryd.prog w = .ok (.enter g args) w) (blk off cap n : Nat) (d0 d : Array α) (w0 w : World) (hcmp : CmpLays Tryd.prog g cb enc k cf blk off n w0) (A Y C : List α) (x : α)
    (R : RowK enc k w0 blk off d0) (hs : d0.size = n) (hn : d.size = n) (S : SWK enc k w0 blk off d w) (hd : d.toList = A ++ (x :: (Y ++ C))) (hY : 0 < Y.length) (hSY : Srt key Y) (hsz : n < 4611686018427387904) :
    Calls Tryd.prog 71 #[.slice (some ⟨blk, off, none⟩) n cap, .int .i64 A.length, .int .i64 (A.length + 1 : Nat), .int .i64 (A.length + 1 + Y.length : Nat), .func (.func g) #[] cb] w fun e w' => e = .returned (.tuple #[]) ∧
      ∃ d' Z, d'.toList = A ++ (Z ++ C) ∧ Mrg key (x :: Y) Z ∧ d'.size = n ∧ SWK enc k w0 blk off d' w' := by
  have aE := aE40
  have mixed := mix40
  obtain ⟨la, hla⟩ : ∃ n, A.length = n := ⟨_, rfl⟩
  obtain ⟨ly, hly⟩ : ∃ n, Y.length = n := ⟨_, rfl⟩
  have hn2 : la + 1 + ly ≤ n := by
    have := congrArg List.length hd
    simp only [List.length_append, List.length_cons, Array.length_toList] at this
    omega
  have hx : d[la]! = x := get_at hd hla.symm
  have hsr : ∀ p q, la + 1 ≤ p → p ≤ q → q < la + 1 + ly → key d[p]! ≤ key d[q]! := fun p q h1 h2 h3 => srt_at (P := A ++ [x]) (Y := Y) (R := C) (by rw [hd]; simp) hSY (by simp; omega) h2 (by simp; omega)
  rw [hla, hly]
  rw [hly] at hY
  have HC := Lib.hid hcmp
  have HCF := Lib.hid hcf
  have HSR := Lib.hid hsr
  have HX := Lib.hid hx
  have HD := Lib.hid hd
  have HSY := Lib.hid hSY
  have HA := Lib.hid hla
  have HY := Lib.hid hly
  have S0 : Aside (SWK enc k w0 blk off d w) := S
  have rm : IntKind.i64.wrap ((la : Int) + 1 - (la : Int)) = 1 := by rw [IntKind.wrap_i64]; omega
  clear S hcmp hcf hsr hx hd hSY hla hly
  go_enter Tryd.func71, Tryd.ntmps71
  go_wp2
  go_loopg [10, 11] (ly + 1) (fun g1 s10 s11 wr => ∃ (i j : Nat), s10 = .int .i64 i ∧ s11 = .int .i64 j ∧ j - i ≤ g1 ∧ la + 1 ≤ i ∧ i ≤ j ∧ j ≤ la + 1 + ly ∧ Hid ((∀ p, la + 1 ≤ p → p < i → key d[p]! < key x) ∧ ∀ p, j ≤ p → p < la + 1 + ly → key x ≤ key d[p]!) ∧ Aside (SWK enc k w0 blk off d wr))
  case atStart => exact ⟨la + 1, la + 1 + ly, by go_num, by go_num, by omega, by omega, by omega, by omega, Lib.hid ⟨fun p h1 h2 => by omega, fun p h1 h2 => by omega⟩, S0⟩
  case round =>
    clear S0
    obtain ⟨i, j, rfl, rfl, hg, hi, hij, hj, HI, S1⟩ := hrel
    by_cases hlt : i < j
    · have hlz : (i : Int) < (j : Int) := by omega
      obtain ⟨h, hh⟩ : ∃ h, (i + j) / 2 = h := ⟨_, rfl⟩
      have hhz : ((i : Int) + (j : Int)) / 2 = (h : Int) := by omega
      have h1 : i ≤ h := by omega
      have h2 : h < j := by omega
      by_cases hv : key d[h]! < key d[la]!
      · have ea1a : ((h : Int)).toNat = h := by omega
        have pa1a : (0 : Int) ≤ (h : Int) := by omega
        have ba1a : (h : Int) < (n : Int) := by omega
        have ra1a : IntKind.i64.wrap ((h : Int)) = (h : Int) := by rw [IntKind.wrap_i64]; omega
        have ea1b : ((la : Int)).toNat = la := by omega
        have pa1b : (0 : Int) ≤ (la : Int) := by omega
        have ba1b : (la : Int) < (n : Int) := by omega
        have ra1b : IntKind.i64.wrap ((la : Int)) = (la : Int) := by rw [IntKind.wrap_i64]; omega
        obtain ⟨x1, hx1⟩ : ∃ x, x = d[h]! := ⟨_, rfl⟩
        obtain ⟨y1, hy1⟩ : ∃ x, x = d[la]! := ⟨_, rfl⟩
        have l1a := S1.out.ld R (by omega) Tryd.prog (h) (by omega)
        have l1b := S1.out.ld R (by omega) Tryd.prog (la) (by omega)
        rw [← hx1] at l1a
        rw [← hy1] at l1b
        have hc1 := S1.out.cmp HC.out (by omega) x1 y1
        have hv1 : (cf x1 y1 < 0) := by rw [hx1, hy1, HCF.out]; exact hv
        have hd1 : decide (cf x1 y1 < 0) = true := decide_eq_true hv1
        clear hx1 hy1
        have HV := Lib.hid hv
        clear hv
        go_wp2_with fail
        go_quiet_grown (first | (go_at_fn g; refine Calls.grown_of (hc1 _ _)))
        have S2 : Aside (SWK enc k w0 blk off d (grow (wr.drewN nq) osq)) := S1.out.grown nq osq
        clear l1a l1b hc1 S1
        generalize grow (wr.drewN nq) osq = w1 at S2 ⊢
        clear nq osq
  
        go_wp2_with fail
        go_roundg (j - (h + 1))
        case measure => omega
        case rel => exact ⟨h + 1, j, by go_num, rfl, by omega, by omega, by omega, by omega, Lib.hid ⟨fun p q1 q2 => Int.lt_of_le_of_lt (HSR.out p h q1 (by omega) (by omega)) (by have := HV.out; rw [HX.out] at this; exact this), HI.out.2⟩, S2⟩
      · have ea1a : ((h : Int)).toNat = h := by omega
        have pa1a : (0 : Int) ≤ (h : Int) := by omega
        have ba1a : (h : Int) < (n : Int) := by omega
        have ra1a : IntKind.i64.wrap ((h : Int)) = (h : Int) := by rw [IntKind.wrap_i64]; omega
        have ea1b : ((la : Int)).toNat = la := by omega
        have pa1b : (0 : Int) ≤ (la : Int) := by omega
        have ba1b : (la : Int) < (n : Int) := by omega
        have ra1b : IntKind.i64.wrap ((la : Int)) = (la : Int) := by rw [IntKind.wrap_i64]; omega
        obtain ⟨x1, hx1⟩ : ∃ x, x = d[h]! := ⟨_, rfl⟩
        obtain ⟨y1, hy1⟩ : ∃ x, x = d[la]! := ⟨_, rfl⟩
        have l1a := S1.out.ld R (by omega) Tryd.prog (h) (by omega)
        have l1b := S1.out.ld R (by omega) Tryd.prog (la) (by omega)
        rw [← hx1] at l1a
        rw [← hy1] at l1b
        have hc1 := S1.out.cmp HC.out (by omega) x1 y1
        have hv1 : ¬ (cf x1 y1 < 0) := by rw [hx1, hy1, HCF.out]; exact hv
        have hd1 : decide (cf x1 y1 < 0) = false := decide_eq_false hv1
        clear hx1 hy1
        have HV := Lib.hid hv
        clear hv
        go_wp2_with fail
        go_quiet_grown (first | (go_at_fn g; refine Calls.grown_of (hc1 _ _)))
        have S2 : Aside (SWK enc k w0 blk off d (grow (wr.drewN nq) osq)) := S1.out.grown nq osq
        clear l1a l1b hc1 S1
        generalize grow (wr.drewN nq) osq = w1 at S2 ⊢
        clear nq osq
  
        go_wp2_with fail
        go_roundg (h - i)
        case measure => omega
        case rel => exact ⟨i, h, rfl, by go_num, by omega, by omega, by omega, by omega, Lib.hid ⟨HI.out.1, fun p q1 q2 => Int.le_trans (by have := HV.out; rw [HX.out] at this; omega) (HSR.out h p (by omega) q1 q2)⟩, S2⟩
    · obtain rfl : i = j := by omega
      have hlz : ¬ ((i : Int) < (i : Int)) := by omega
      obtain ⟨Y1, Y2, hYe, hY1, hY2⟩ := cut_list Y (i - (la + 1)) (by have := HY.out; omega)
      have m1 : Mrg key (x :: Y) (Y1 ++ x :: Y2) := by
        rw [hYe]
        refine Mrg.front (by rw [← hYe]; exact HSY.out) (fun y hy => ?_) (fun y hy => ?_)
        · obtain ⟨p, p1, p2, rfl⟩ := mem_at (d := d) (P := A ++ [x]) (Y := Y1) (R := Y2 ++ C) (by rw [HD.out, hYe]; simp) hy
          have := HA.out
          simp only [List.length_append, List.length_cons, List.length_nil] at p1 p2
          exact HI.out.1 p (by omega) (by omega)
        · obtain ⟨p, p1, p2, rfl⟩ := mem_at (d := d) (P := A ++ [x] ++ Y1) (Y := Y2) (R := C) (by rw [HD.out, hYe]; simp) hy
          have := HA.out
          have := HY.out
          simp only [List.length_append, List.length_cons, List.length_nil] at p1 p2
          exact HI.out.2 p (by omega) (by omega)
      have HM := Lib.hid m1
      have HYE := Lib.hid hYe
      have HL1 := Lib.hid hY1
      clear m1 hYe hY1 hY2
      have ri : IntKind.i64.wrap ((i : Int) - 1) = (i : Int) - 1 := by rw [IntKind.wrap_i64]; omega
      go_wp2_with fail
      go_loopg [13] (i + 1) (fun g1 s13 wr => ∃ (q : Nat) (W1 W2 : List α) (dk : Array α), s13 = .int .i64 q ∧ la ≤ q ∧ q ≤ i - 1 ∧ i - q ≤ g1 ∧ Hid (dk.toList = A ++ (W1 ++ (x :: (W2 ++ (Y2 ++ C)))) ∧ Y1 = W1 ++ W2 ∧ W1.length = q - la) ∧ dk.size = n ∧ Aside (SWK enc k w0 blk off dk wr))
      case atStart => exact ⟨la, [], Y1, d, by go_num, by omega, by omega, by omega, Lib.hid ⟨by rw [HD.out, HYE.out]; simp, rfl, by simp⟩, hn, S1⟩
      case round =>
        clear S1
        obtain ⟨q, W1, W2, dk, rfl, hq, hqi, hgq, HW, hdk, S2⟩ := hrel
        by_cases hlt : q < i - 1
        · have hqz : (q : Int) < (i : Int) - 1 := by omega
          obtain ⟨u, W3, rfl⟩ : ∃ u W3, W2 = u :: W3 := by
            cases W2 with
            | nil => have e1 := HW.out.2.2; have e2 := congrArg List.length HW.out.2.1; have e3 := HL1.out; simp only [List.append_nil] at e2; omega
            | cons u W3 => exact ⟨u, W3, rfl⟩
          have ea2a : ((q : Int)).toNat = q := by omega
          have pa2a : (0 : Int) ≤ (q : Int) := by omega
          have ba2a : (q : Int) < (n : Int) := by omega
          have ea2b : ((q : Int) + 1).toNat = q + 1 := by omega
          have pa2b : (0 : Int) ≤ (q : Int) + 1 := by omega
          have ba2b : (q : Int) + 1 < (n : Int) := by omega
          have ra2b : IntKind.i64.wrap ((q : Int) + 1) = (q : Int) + 1 := by rw [IntKind.wrap_i64]; omega
          have S3 : Aside (SWK enc k w0 blk off (swp dk (q) (q + 1)) ((wr.drew.setCells blk (off + (q) * k) (enc dk[q + 1]!)).setCells blk (off + (q + 1) * k) (enc dk[q]!))) := S2.out.swapped R (q) (q + 1) (by omega) (by omega)
          have l2a := S2.out.ld1 R (by omega) Tryd.prog (q) (by omega)
          have l2b := S2.out.ld1 R (by omega) Tryd.prog (q + 1) (by omega)
          have s2a := S2.out.st1 R (by omega) Tryd.prog (q) (by omega) dk[q + 1]!
          have s2b := S2.out.st2 R (by omega) Tryd.prog (q) (q + 1) (by omega) (by omega) dk[q + 1]! dk[q]!
          have n2a : (enc dk[q]!).length = k := R.hk _
          have n2b : (enc dk[q + 1]!).length = k := R.hk _
          generalize enc dk[q]! = cI2 at S3 l2a s2b n2a
          generalize enc dk[q + 1]! = cJ2 at S3 l2b s2a s2b n2b
          clear S2
          go_wp2_with fail
          go_big_region_o
          clear l2a l2b s2a s2b
          generalize (wr.drew.setCells blk (off + (q) * k) cJ2).setCells blk (off + (q + 1) * k) cI2 = w3 at S3 ⊢
          go_wp2_with fail
          go_roundg (i - (q + 1))
          case measure => omega
          case rel =>
            refine ⟨q + 1, W1 ++ [u], W3, swp dk q (q + 1), by go_num, by omega, by omega, by omega, Lib.hid ⟨?_, by rw [HW.out.2.1]; simp, by have := HW.out.2.2; simp; omega⟩, by rw [swp_size]; exact hdk, S3⟩
            have := swp_list (d := dk) (P := A ++ W1) (Q := []) (R := W3 ++ (Y2 ++ C)) (u := x) (v := u) (by rw [HW.out.1]; simp) (i := q) (j := q + 1) (by have := HW.out.2.2; have := HA.out; simp; omega) (by have := HW.out.2.2; have := HA.out; simp; omega)
            rw [this]; simp
        · obtain rfl : q = i - 1 := by omega
          have hqz : ¬ (((i - 1 : Nat) : Int) < (i : Int) - 1) := by omega
          go_wp2_with fail
          (try simp only [Exit.inBlock, Exit.then]); refine bodyPost_ret (results_none rfl _ _ _) rfl ?_
          obtain rfl : W2 = [] := List.eq_nil_of_length_eq_zero (by have := HW.out.2.2; have e2 := congrArg List.length HW.out.2.1; have := HL1.out; simp only [List.length_append] at e2; omega)
          refine ⟨rfl, dk, Y1 ++ x :: Y2, ?_, HM.out, hdk, S2.out⟩
          rw [HW.out.1, HW.out.2.1]; simp
end Go.Proofs.YtjjnhmbgffdenaaDoor
