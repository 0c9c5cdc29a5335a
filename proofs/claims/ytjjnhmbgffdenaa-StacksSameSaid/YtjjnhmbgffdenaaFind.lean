import Derived.Test.YtjjnhmbgffdenaaRng
namespace Go.Proofs.Ytjjnhmbgffdenaa
open Go.RowKit Go.Shelf
attribute [local go_sem] Oper.semAt_some

/-- Whether a needle that is valid holds a name. -/
def holds (p : Nm) (x : El) : Bool := isN x.k ((x.i : Int) + 1) && decide (p ∈ x.c.l)
/-- What 'Find' returns. -/
def findV (d : Bds) (p : Nm) : Value := match d.els.find? (holds p) with
  | some x => .tuple #[x.nv, .int .i64 0]
  | none => .tuple #[.agg #[.int .u8 0, .int .i64 0], .int .i64 7]
theorem find_none {p : Nm} {xs : List El} (h : ∀ x ∈ xs, holds p x = false) : xs.find? (holds p) = none := by
  rw [List.find?_eq_none]; intro x hx; simp [h x hx]
theorem find_some {p : Nm} {xs ini : List El} {x : El} (hp : ini ++ [x] <+: xs) (h : ∀ x ∈ ini, holds p x = false) (hx : holds p x = true) : xs.find? (holds p) = some x := by
  obtain ⟨r, rfl⟩ := hp
  rw [List.append_assoc, List.find?_append, find_none h]
  simp [hx]

set_option maxRecDepth 100000 in
set_option maxHeartbeats 2000000 in
theorem find_any (d : Bds) (p : Nm) (B : Nat) (w : World) (hB : B ≤ w.heap.size) (hd : d.ok B w) :
    Calls Try.prog 14 #[d.v, .agg #[.int .u8 p.y, .int .i64 p.n]] w fun e w' => e = .returned (findV d p) ∧ Below w.heap.size w w' := by
  have HD := Lib.hid (hd.mono hB)
  clear hd
  obtain ⟨y, n⟩ := p
  obtain ⟨R, hR⟩ : ∃ R, R = findV d ⟨y, n⟩ := ⟨_, rfl⟩
  rw [← hR]
  have HR := Lib.hid hR
  clear hR
  refine (callsIn_wide (n := 10)).1 ?_
  have hro : Fence.wide.round = none := rfl
  have h34 : Fence.wide.fn 34 := trivial
  refine callsIn_of_wp_marks Try.func14 rfl trivial ?_ hro
  simp only [Try.ntmps14, List.size_toArray, List.length_cons, List.length_nil, Nat.reduceAdd, Nat.reduceSub, Array.replicate_succ, Array.replicate_zero, List.push_toArray, List.append_toArray, List.nil_append, List.cons_append]
  obtain ⟨⟨fa, fs, fc⟩, ⟨ba, bs, bc⟩⟩ := d
  simp only [Bds.v, Bed.v]
  gi_wp2_with (refine ⟨trivial, ?_⟩; gi_at_call 22; refine (each_in Fence.wide 9 trivial hro _ _ _ _ _ _ _).mono ?_; rintro e w' ⟨rfl, rfl⟩)
  obtain ⟨W0, hW0⟩ : ∃ W0, (((((w.alloc (.cells #[.slice fa fs.length fc, .slice ba bs.length bc] 35)).alloc (.cells #[.int .u8 y, .int .i64 n] 28)).alloc (.cells #[.int .u8 0, .int .i64 0] 26)).alloc (.cells #[.int .i64 0] 37)).alloc (.cells #[.slice fa fs.length fc, .slice ba bs.length bc] 35)) = W0 := ⟨_, rfl⟩
  have hsz : w.heap.size + 5 ≤ W0.heap.size := by rw [← hW0]; simp
  have bB : Boxed2 W0 (w.heap.size) 35 (.slice fa fs.length fc) (.slice ba bs.length bc) := by
    rw [← hW0]; have := (((((Boxed2.new w 35 (.slice fa fs.length fc) (.slice ba bs.length bc)).alloc (.cells #[.int .u8 y, .int .i64 n] 28)).alloc (.cells #[.int .u8 0, .int .i64 0] 26)).alloc (.cells #[.int .i64 0] 37)).alloc (.cells #[.slice fa fs.length fc, .slice ba bs.length bc] 35))
    exact this
  have bP : Boxed2 W0 (w.heap.size + 1) 28 (.int .u8 y) (.int .i64 n) := by
    rw [← hW0]; have := ((((Boxed2.new (w.alloc (.cells #[.slice fa fs.length fc, .slice ba bs.length bc] 35)) 28 (.int .u8 y) (.int .i64 n)).alloc (.cells #[.int .u8 0, .int .i64 0] 26)).alloc (.cells #[.int .i64 0] 37)).alloc (.cells #[.slice fa fs.length fc, .slice ba bs.length bc] 35))
    simp only [World.size_alloc] at this; exact this
  have bR : Boxed2 W0 (w.heap.size + 1 + 1) 26 (.int .u8 0) (.int .i64 0) := by
    rw [← hW0]; have := (((Boxed2.new ((w.alloc (.cells #[.slice fa fs.length fc, .slice ba bs.length bc] 35)).alloc (.cells #[.int .u8 y, .int .i64 n] 28)) 26 (.int .u8 0) (.int .i64 0)).alloc (.cells #[.int .i64 0] 37)).alloc (.cells #[.slice fa fs.length fc, .slice ba bs.length bc] 35))
    simp only [World.size_alloc] at this; exact this
  have bE : Boxed W0 (w.heap.size + 1 + 1 + 1) 37 (.int .i64 0) := by
    rw [← hW0]; have := ((Boxed.new (((w.alloc (.cells #[.slice fa fs.length fc, .slice ba bs.length bc] 35)).alloc (.cells #[.int .u8 y, .int .i64 n] 28)).alloc (.cells #[.int .u8 0, .int .i64 0] 26)) 37 (.int .i64 0)).alloc (.cells #[.slice fa fs.length fc, .slice ba bs.length bc] 35))
    simp only [World.size_alloc] at this; exact this
  have bN : Boxed2 W0 (w.heap.size + 1 + 1 + 1 + 1) 35 (.slice fa fs.length fc) (.slice ba bs.length bc) := by
    rw [← hW0]; have := (Boxed2.new ((((w.alloc (.cells #[.slice fa fs.length fc, .slice ba bs.length bc] 35)).alloc (.cells #[.int .u8 y, .int .i64 n] 28)).alloc (.cells #[.int .u8 0, .int .i64 0] 26)).alloc (.cells #[.int .i64 0] 37)) 35 (.slice fa fs.length fc) (.slice ba bs.length bc))
    simp only [World.size_alloc] at this; exact this
  have hB0 : Below w.heap.size w W0 := by
    rw [← hW0]; exact (((((Below.refl _ _).alloc (by simp; try omega) _).alloc (by simp; try omega) _).alloc (by simp; try omega) _).alloc (by simp; try omega) _).alloc (by simp; try omega) _
  rw [hW0]
  clear hW0
  have HD0 := Lib.hid (HD.out.below hB0)
  obtain ⟨d, hdd⟩ : ∃ d : Bds, d = ⟨⟨fa, fs, fc⟩, ⟨ba, bs, bc⟩⟩ := ⟨_, rfl⟩
  rw [← hdd] at HD HD0 HR
  have HDD := Lib.hid hdd
  clear hdd
  have hlen : d.els.length ≤ 200 := HD0.out.els_len
  have HP : Hid (∀ x ∈ d.els, ElOk w.heap.size w x) := Lib.hid fun x hx => HD.out.els hx
  have h0 : ElOk w.heap.size w El.zero := El.zero_ok _ _
  refine wpIn_rangeFunc_ownH (α := Ap (ElOk w.heap.size w)) hro (by decide) (gf := 34) (lb := #[.pointer (some ⟨w.heap.size + 1 + 1 + 1 + 1, 0, none⟩)]) rfl h34 (enters_of Try.func34 (by kernel_rfl) rfl)
    (each_stops Fence.wide 9 h34 hro (by decide) (w.heap.size + 1 + 1 + 1 + 1) w.heap.size d W0 (by omega) (by omega) (fun x => x.1) (Ap.mk h0) (fun x hx => Ap.mk_val h0 (HP.out x hx)) (by rw [HDD.out]; exact bN.cell0) (by rw [HDD.out]; exact bN.cell1) HD0.out)
    belowK_t (belowK_b (by omega)) (Below.refl _ _) (fun _ => rfl)
    (fun (pre : List (Ap (ElOk w.heap.size w))) W => (((Boxed2 W (w.heap.size + 1) 28 (.int .u8 y) (.int .i64 n) ∧ Boxed2 W (w.heap.size + 1 + 1) 26 (.int .u8 0) (.int .i64 0)) ∧ Boxed W (w.heap.size + 1 + 1 + 1) 37 (.int .i64 0)) ∧ Hid (∀ x ∈ pre, holds ⟨y, n⟩ x.1 = false)) ∧ Below w.heap.size w W)
    (fun c (pre : List (Ap (ElOk w.heap.size w))) W => (∃ ini last, pre = ini ++ [last] ∧ (c = .ret ∧ Hid ((∀ x ∈ ini, holds ⟨y, n⟩ x.1 = false) ∧ holds ⟨y, n⟩ last.1 = true)) ∧ Boxed2 W (w.heap.size + 1 + 1) 26 (.int .u8 last.1.k) (.int .i64 ((last.1.i : Int) + 1)) ∧ Boxed W (w.heap.size + 1 + 1 + 1) 37 (.int .i64 0)) ∧ Below w.heap.size w W)
    (OwnFrom.and (OwnFrom.and (OwnFrom.and (OwnFrom.and (Own.from (boxed2_own _ _ _ _) _) (Own.from (boxed2_own _ _ _ _) _)) (Own.from (boxed_own _ _ _) _)) (ownFrom_const _ _)) (ownFrom_below (Nat.le_refl _) (by omega)))
    (fun c => OwnFrom.and (Own.from (fun s A B row hs hg hr => by obtain ⟨ini, last, e1, e2, e3, e4⟩ := hs; exact ⟨ini, last, e1, e2, boxed2_own _ _ (fun (_ : Unit) => _) (fun _ => _) () A B row e3 hg hr, boxed_own _ _ (fun (_ : Unit) => _) () A B row e4 hg hr⟩) _) (ownFrom_below (Nat.le_refl _) (by omega)))
    ⟨⟨⟨⟨bP, bR⟩, bE⟩, Lib.hid (by simp)⟩, hB0⟩
    (fun x a' W => ∃ Bx, w.heap.size + 1 + 1 + 1 + 1 ≤ Bx ∧ Boxed2 W Bx 26 (.int .u8 x.1.k) (.int .i64 ((x.1.i : Int) + 1)) ∧ a' = { tmps := #[.agg #[.slice fa fs.length fc, .slice ba bs.length bc], .agg #[.int .u8 y, .int .i64 n], .pointer (some ⟨w.heap.size, 0, none⟩), .pointer (some ⟨w.heap.size + 1, 0, none⟩), .pointer (some ⟨w.heap.size + 1 + 1, 0, none⟩), .pointer (some ⟨w.heap.size + 1 + 1 + 1, 0, none⟩), .pointer (some ⟨Bx, 0, none⟩), x.1.c.v, .agg #[.slice fa fs.length fc, .slice ba bs.length bc], .func (.func 34) #[] #[.pointer (some ⟨w.heap.size + 1 + 1 + 1 + 1, 0, none⟩)], x.1.nv, x.1.c.v, undef, undef, undef, undef, undef, undef, undef, undef, undef], defers := [] })
    (fun x a' _ X Y row hs hg hr => by obtain ⟨Bx, h1, h2, h3⟩ := hs; exact ⟨Bx, h1, boxed2_own Bx 26 (fun (_ : Unit) => Value.int .u8 x.1.k) (fun _ => .int .i64 ((x.1.i : Int) + 1)) () X Y row h2 hg (fun r e => (hr r e).2), h3⟩)
    ?assign ?body ?done ?stop
  case assign =>
    rintro l pre ⟨⟨k, i, ⟨ca, cl, cc⟩⟩, hx⟩ W K ⟨⟨⟨⟨bP1, bR1⟩, bE1⟩, hno⟩, hB1⟩ hK
    simp only [El.vs, El.nv, Cel.v] at hK ⊢
    gi_wp2
    exact hK _ _ ((KeepsOthers.alloc _ _).from _) ((Below.refl _ W).alloc hB1.size _) ⟨⟨⟨⟨bP1.alloc _, bR1.alloc _⟩, bE1.alloc _⟩, hno⟩, hB1.alloc hB1.size _⟩ ⟨W.heap.size, bE1.lt, Boxed2.new W 26 _ _, rfl⟩
  case body =>
    rintro l pre ⟨⟨k, i, ⟨ca, cl, cc⟩⟩, hx⟩ a' W hl ⟨r, hr⟩ ⟨⟨⟨⟨bP1, bR1⟩, bE1⟩, hno⟩, hB1⟩ ⟨Bx, hBx, bX, rfl⟩ hlt
    simp only at bX
    have p0 := bP1.cell0
    have p1 := bP1.cell1
    have lP := bP1.lt
    have r0 := bR1.cell0
    have r1 := bR1.cell1
    have fR := bR1.frozen
    have lR := bR1.lt
    have e0 := bE1.cell
    have fE := bE1.frozen
    have lE := bE1.lt
    have c0 := bX.cell0
    have c1 := bX.cell1
    have lX := bX.lt
    have hok : Cel.ok w.heap.size W ⟨ca, cl, cc⟩ := hx.2.2.below hB1
    have HK := Lib.hid hok
    simp only [El.nv, Cel.v]
    have hmem : ∀ x ∈ pre, holds ⟨y, n⟩ x.1 = false := hno.out
    have HM := Lib.hid hmem
    clear hmem hok
    have hq : isN k ((i : Int) + 1) = true ∨ isN k ((i : Int) + 1) = false := by cases isN k ((i : Int) + 1) <;> simp
    rcases hq with hq | hq
    · have HQ := Lib.hid hq
      clear hq
      obtain ⟨b, hb⟩ : ∃ b, decide ((⟨y, n⟩ : Nm) ∈ cl) = b := ⟨_, rfl⟩
      have HBB := Lib.hid hb
      clear hb
      cases b
      all_goals
        gi_wp2_with (first
          | (refine ⟨trivial, ?_⟩; gi_at_call 23; refine (CallsIn.inRound l (callsIn_wide.2 (isNeedle_any _ _ _ _ HQ.out))).mono ?_; rintro e w1 ⟨rfl, hb1⟩; obtain ⟨hc1, hf1⟩ := bcell hb1; have hz1 := hb1.size)
          | (refine ⟨trivial, ?_⟩; gi_at_call 28; refine (CallsIn.inRound l (callsIn_wide.2 (contains_any ⟨ca, cl, cc⟩ ⟨y, n⟩ w.heap.size _ (by have := hB1.size; omega) (HK.out.below (hb1.mono hB1.size))))).mono ?_; simp only [HBB.out]; rintro e w2 ⟨rfl, hb2⟩; clear hc1 hf1; obtain ⟨hc2, hf2⟩ := bcell (hb1.trans (hb2.mono hb1.size)); have hz2 := hb2.size))
      · have hw2 : Below w.heap.size W w2 := (hb1.mono hB1.size).trans (hb2.mono (Nat.le_trans hB1.size hb1.size))
        have hw2' : Below W.heap.size W w2 := hb1.trans (hb2.mono hb1.size)
        refine ⟨keepsFrom_below hw2' (Nat.le_refl _), hw2, ⟨⟨⟨bP1.below hw2' lP, bR1.below hw2' lR⟩, boxed_below bE1 hw2' lE⟩, Lib.hid fun x hx' => ?_⟩, hB1.trans hw2⟩
        rcases List.mem_append.1 hx' with h | h
        · exact HM.out x h
        · obtain rfl := List.mem_singleton.1 h
          simp [holds, HQ.out, HBB.out]
      · have hw2 : Below w.heap.size W w2 := (hb1.mono hB1.size).trans (hb2.mono (Nat.le_trans hB1.size hb1.size))
        have hw2' : Below W.heap.size W w2 := hb1.trans (hb2.mono hb1.size)
        refine ⟨(((keepsFrom_below hw2' (Nat.le_refl _)).trans ((KeepsOthers.setCell _ _ _).from _)).trans ((KeepsOthers.setCell _ _ _).from _)).trans ((KeepsOthers.setCell _ _ _).from _), ⟨pre, _, rfl, ⟨rfl, Lib.hid ⟨HM.out, ?_⟩⟩, ?_, ?_⟩, ?_⟩
        · simp [holds, HQ.out, HBB.out]
        · exact (((bR1.below hw2' lR).set0 _).set1 _).other (by omega)
        · exact (boxed_other (boxed_other (boxed_below bE1 hw2' lE) (by omega)) (by omega)).set _
        · exact (((hB1.trans hw2).setCell (p := ⟨w.heap.size + 1 + 1, 0, none⟩) (by simp; omega) _).setCell (p := ⟨w.heap.size + 1 + 1, 1, none⟩) (by simp; omega) _).setCell (p := ⟨w.heap.size + 1 + 1 + 1, 0, none⟩) (by simp; omega) _
    · have HQ := Lib.hid hq
      clear hq
      gi_wp2_with (first
        | (refine ⟨trivial, ?_⟩; gi_at_call 23; refine (CallsIn.inRound l (callsIn_wide.2 (isNeedle_any _ _ _ _ HQ.out))).mono ?_; rintro e w1 ⟨rfl, hb1⟩; obtain ⟨hc1, hf1⟩ := bcell hb1; have hz1 := hb1.size))
      refine ⟨trivial, ?_⟩
      gi_wp2
      have hw1 : Below w.heap.size W w1 := hb1.mono hB1.size
      refine ⟨keepsFrom_below hb1 (Nat.le_refl _), hw1, ⟨⟨⟨bP1.below hb1 lP, bR1.below hb1 lR⟩, boxed_below bE1 hb1 lE⟩, Lib.hid fun x hx' => ?_⟩, hB1.trans hw1⟩
      rcases List.mem_append.1 hx' with h | h
      · exact HM.out x h
      · obtain rfl := List.mem_singleton.1 h
        simp [holds, HQ.out]
  case done =>
    rintro D ys W hD rfl ⟨⟨⟨⟨bP1, bR1⟩, bE1⟩, hno⟩, hB1⟩ hK
    have fR := bR1.frozen
    have fE := bE1.frozen
    have r0 := bR1.cell0
    have r1 := bR1.cell1
    have e0 := bE1.cell
    have HNO := Lib.hid hno
    gi_wp2
    obtain ⟨W4, hW4⟩ : ∃ W4, ((W.setCell ⟨w.heap.size + 1 + 1, 0, none⟩ (.int .u8 0)).setCell ⟨w.heap.size + 1 + 1, 1, none⟩ (.int .i64 0)).setCell ⟨w.heap.size + 1 + 1 + 1, 0, none⟩ (.int .i64 7) = W4 := ⟨_, rfl⟩
    have hK' : W4.heap[D]? = some (.deferred (some [])) := by
      rw [← hW4]; exact (KeepsOthers.setCell _ _ _).same D _ ((KeepsOthers.setCell _ _ _).same D _ ((KeepsOthers.setCell _ _ _).same D _ hK rfl) rfl) rfl
    have bR4 : Boxed2 W4 (w.heap.size + 1 + 1) 26 (.int .u8 0) (.int .i64 0) := by rw [← hW4]; exact ((bR1.set0 _).set1 _).other (by omega)
    have bE4 : Boxed W4 (w.heap.size + 1 + 1 + 1) 37 (.int .i64 7) := by rw [← hW4]; exact (boxed_other (boxed_other bE1 (by omega)) (by omega)).set _
    have hB4 : Below w.heap.size w W4 := by
      rw [← hW4]; exact ((hB1.setCell (p := ⟨w.heap.size + 1 + 1, 0, none⟩) (by simp; omega) _).setCell (p := ⟨w.heap.size + 1 + 1, 1, none⟩) (by simp; omega) _).setCell (p := ⟨w.heap.size + 1 + 1 + 1, 0, none⟩) (by simp; omega) _
    rw [hW4]
    clear hW4
    refine ⟨by simp, .inl ⟨_, _, rfl, run_takeDeferred hK', ?_⟩⟩
    have g0 := cell_kept bR4.cell0 (grownBy_putObj' _ D (.deferred none)) (fun r e => by cases e; exact ⟨_, hK', rfl⟩)
    have g1 := cell_kept bR4.cell1 (grownBy_putObj' _ D (.deferred none)) (fun r e => by cases e; exact ⟨_, hK', rfl⟩)
    have g2 := cell_kept bE4.cell (grownBy_putObj' _ D (.deferred none)) (fun r e => by cases e; exact ⟨_, hK', rfl⟩)
    refine ⟨.tuple #[.agg #[.int .u8 0, .int .i64 0], .int .i64 7], ?_, ?_, hB4.trans (belowK_b (w := w) (Nat.le_refl _) _ D _ _ (by omega) hK' rfl rfl)⟩
    · simp [results, Try.f14, go_sem, g0, g1, g2]
    · rw [HR.out, findV, find_none (fun x hx => by
        have := HNO.out.out (Ap.mk h0 x) (List.mem_map.2 ⟨x, hx, rfl⟩)
        rwa [Ap.mk_val h0 (HP.out x hx)] at this)]
  case stop =>
    rintro D c pre W hD hpre ⟨⟨ini, last, e1, ⟨rfl, hlast⟩, bR4, bE4⟩, hB1⟩ hK
    have HL := Lib.hid hlast
    have HE := Lib.hid e1
    have HPR := Lib.hid (Ap.prefix_val h0 HP.out hpre)
    clear e1 hpre
    gi_wp2
    refine ⟨by simp, .inl ⟨_, _, rfl, run_takeDeferred hK, ?_⟩⟩
    have g0 := cell_kept bR4.cell0 (grownBy_putObj' _ D (.deferred none)) (fun r e => by cases e; exact ⟨_, hK, rfl⟩)
    have g1 := cell_kept bR4.cell1 (grownBy_putObj' _ D (.deferred none)) (fun r e => by cases e; exact ⟨_, hK, rfl⟩)
    have g2 := cell_kept bE4.cell (grownBy_putObj' _ D (.deferred none)) (fun r e => by cases e; exact ⟨_, hK, rfl⟩)
    refine ⟨.tuple #[.agg #[.int .u8 last.1.k, .int .i64 ((last.1.i : Int) + 1)], .int .i64 0], ?_, ?_, hB1.trans (belowK_b (w := w) (Nat.le_refl _) W D _ _ (by omega) hK rfl rfl)⟩
    · simp [results, Try.f14, go_sem, g0, g1, g2]
    · have hp2 := HPR.out
      rw [HE.out, List.map_append, List.map_singleton] at hp2
      rw [HR.out, findV, find_some hp2 (fun x hx => by
        obtain ⟨x', hx', rfl⟩ := List.mem_map.1 hx
        exact HL.out.out.1 x' hx') HL.out.out.2]
      rfl
end Go.Proofs.Ytjjnhmbgffdenaa
