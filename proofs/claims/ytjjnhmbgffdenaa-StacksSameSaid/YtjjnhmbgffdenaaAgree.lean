import Derived.Test.YtjjnhmbgffdenaaRng
namespace Go.Proofs.Ytjjnhmbgffdenaa
open Go.RowKit Go.Shelf
attribute [local go_sem] Oper.semAt_some

/-- Whether a needle holds the same in other beds. -/
def sameAt (d' : Bds) (x : El) : Bool := decide (x.c.l = ((d'.bed x.k).cel x.i).l)
set_option maxRecDepth 100000 in
set_option maxHeartbeats 2000000 in
theorem agree_any (d d' : Bds) (B : Nat) (w : World) (hB : B ≤ w.heap.size) (hd : d.ok B w) (hd' : d'.ok B w) :
    Calls Try.prog 32 #[d.v, d'.v] w fun e w' => e = .returned (.bool (d.els.all (sameAt d'))) ∧ Below w.heap.size w w' := by
  have HD := Lib.hid (hd.mono hB)
  have HD' := Lib.hid (hd'.mono hB)
  clear hd hd'
  obtain ⟨R, hR⟩ : ∃ R, R = d.els.all (sameAt d') := ⟨_, rfl⟩
  rw [← hR]
  have HR := Lib.hid hR
  clear hR
  refine (callsIn_wide (n := 10)).1 ?_
  have hro : Fence.wide.round = none := rfl
  have h34 : Fence.wide.fn 34 := trivial
  refine callsIn_of_wp_marks Try.func32 rfl trivial ?_ hro
  simp only [Try.ntmps32, List.size_toArray, List.length_cons, List.length_nil, Nat.reduceAdd, Nat.reduceSub, Array.replicate_succ, Array.replicate_zero, List.push_toArray, List.append_toArray, List.nil_append, List.cons_append]
  obtain ⟨⟨fa', fs', fc'⟩, ⟨ba', bs', bc'⟩⟩ := d'
  obtain ⟨⟨fa, fs, fc⟩, ⟨ba, bs, bc⟩⟩ := d
  simp only [Bds.v, Bed.v]
  gi_wp2_with (refine ⟨trivial, ?_⟩; gi_at_call 22; refine (each_in Fence.wide 9 trivial hro _ _ _ _ _ _ _).mono ?_; rintro e w' ⟨rfl, rfl⟩)
  obtain ⟨W0, hW0⟩ : ∃ W0, ((((w.alloc (.cells #[.slice fa fs.length fc, .slice ba bs.length bc] 35)).alloc (.cells #[.slice fa' fs'.length fc', .slice ba' bs'.length bc'] 35)).alloc (.cells #[.bool false] 4)).alloc (.cells #[.slice fa fs.length fc, .slice ba bs.length bc] 35)) = W0 := ⟨_, rfl⟩
  have hsz : w.heap.size + 4 ≤ W0.heap.size := by rw [← hW0]; simp
  have bB : Boxed2 W0 (w.heap.size) 35 (.slice fa fs.length fc) (.slice ba bs.length bc) := by
    rw [← hW0]; have := ((((Boxed2.new w 35 (.slice fa fs.length fc) (.slice ba bs.length bc)).alloc (.cells #[.slice fa' fs'.length fc', .slice ba' bs'.length bc'] 35)).alloc (.cells #[.bool false] 4)).alloc (.cells #[.slice fa fs.length fc, .slice ba bs.length bc] 35))
    exact this
  have bP : Boxed2 W0 (w.heap.size + 1) 35 (.slice fa' fs'.length fc') (.slice ba' bs'.length bc') := by
    rw [← hW0]; have := (((Boxed2.new (w.alloc (.cells #[.slice fa fs.length fc, .slice ba bs.length bc] 35)) 35 (.slice fa' fs'.length fc') (.slice ba' bs'.length bc')).alloc (.cells #[.bool false] 4)).alloc (.cells #[.slice fa fs.length fc, .slice ba bs.length bc] 35))
    simp only [World.size_alloc] at this; exact this
  have bR : Boxed W0 (w.heap.size + 1 + 1) 4 (.bool false) := by
    rw [← hW0]; have := ((Boxed.new ((w.alloc (.cells #[.slice fa fs.length fc, .slice ba bs.length bc] 35)).alloc (.cells #[.slice fa' fs'.length fc', .slice ba' bs'.length bc'] 35)) 4 (.bool false)).alloc (.cells #[.slice fa fs.length fc, .slice ba bs.length bc] 35))
    simp only [World.size_alloc] at this; exact this
  have bN : Boxed2 W0 (w.heap.size + 1 + 1 + 1) 35 (.slice fa fs.length fc) (.slice ba bs.length bc) := by
    rw [← hW0]; have := (Boxed2.new (((w.alloc (.cells #[.slice fa fs.length fc, .slice ba bs.length bc] 35)).alloc (.cells #[.slice fa' fs'.length fc', .slice ba' bs'.length bc'] 35)).alloc (.cells #[.bool false] 4)) 35 (.slice fa fs.length fc) (.slice ba bs.length bc))
    simp only [World.size_alloc] at this; exact this
  have hB0 : Below w.heap.size w W0 := by
    rw [← hW0]; exact ((((Below.refl _ _).alloc (by simp; try omega) _).alloc (by simp; try omega) _).alloc (by simp; try omega) _).alloc (by simp; try omega) _
  rw [hW0]
  clear hW0
  have HD0 := Lib.hid (HD.out.below hB0)
  obtain ⟨d, hdd⟩ : ∃ d : Bds, d = ⟨⟨fa, fs, fc⟩, ⟨ba, bs, bc⟩⟩ := ⟨_, rfl⟩
  rw [← hdd] at HD HD0 HR
  have HDD := Lib.hid hdd
  clear hdd
  have hlen : d.els.length ≤ 200 := HD0.out.els_len
  obtain ⟨d', hdd'⟩ : ∃ d' : Bds, d' = ⟨⟨fa', fs', fc'⟩, ⟨ba', bs', bc'⟩⟩ := ⟨_, rfl⟩
  rw [← hdd'] at HD' HR
  have HDD' := Lib.hid hdd'
  clear hdd'
  have HV' : Hid (d'.v = .agg #[.slice fa' fs'.length fc', .slice ba' bs'.length bc']) := Lib.hid (by rw [HDD'.out]; rfl)
  have HP : Hid (∀ x ∈ d.els, ElOk w.heap.size w x) := Lib.hid fun x hx => HD.out.els hx
  have h0 : ElOk w.heap.size w El.zero := El.zero_ok _ _
  refine wpIn_rangeFunc_ownH (α := Ap (ElOk w.heap.size w)) hro (by decide) (gf := 34) (lb := #[.pointer (some ⟨w.heap.size + 1 + 1 + 1, 0, none⟩)]) rfl h34 (enters_of Try.func34 (by kernel_rfl) rfl)
    (each_stops Fence.wide 9 h34 hro (by decide) (w.heap.size + 1 + 1 + 1) w.heap.size d W0 (by omega) (by omega) (fun x => x.1) (Ap.mk h0) (fun x hx => Ap.mk_val h0 (HP.out x hx)) (by rw [HDD.out]; exact bN.cell0) (by rw [HDD.out]; exact bN.cell1) HD0.out)
    belowK_t (belowK_b (by omega)) (Below.refl _ _) (fun _ => rfl)
    (fun (pre : List (Ap (ElOk w.heap.size w))) W => (((Boxed2 W (w.heap.size + 1) 35 (.slice fa' fs'.length fc') (.slice ba' bs'.length bc')) ∧ Boxed W (w.heap.size + 1 + 1) 4 (.bool false)) ∧ Hid (∀ x ∈ pre, sameAt d' x.1 = true)) ∧ Below w.heap.size w W)
    (fun c (pre : List (Ap (ElOk w.heap.size w))) W => (∃ ini last, pre = ini ++ [last] ∧ (c = .ret ∧ Hid (sameAt d' last.1 = false)) ∧ Boxed W (w.heap.size + 1 + 1) 4 (.bool false)) ∧ Below w.heap.size w W)
    (OwnFrom.and (OwnFrom.and (OwnFrom.and (Own.from (boxed2_own _ _ _ _) _) (Own.from (boxed_own _ _ _) _)) (ownFrom_const _ _)) (ownFrom_below (Nat.le_refl _) (by omega)))
    (fun c => OwnFrom.and (Own.from (fun s A B row hs hg hr => by obtain ⟨ini, last, e1, e2, e4⟩ := hs; exact ⟨ini, last, e1, e2, boxed_own _ _ (fun (_ : Unit) => _) () A B row e4 hg hr⟩) _) (ownFrom_below (Nat.le_refl _) (by omega)))
    ⟨⟨⟨bP, bR⟩, Lib.hid (by simp)⟩, hB0⟩
    (fun x a' W => ∃ Bx, w.heap.size + 1 + 1 + 1 ≤ Bx ∧ Boxed2 W Bx 26 (.int .u8 x.1.k) (.int .i64 ((x.1.i : Int) + 1)) ∧ a' = { tmps := #[.agg #[.slice fa fs.length fc, .slice ba bs.length bc], .agg #[.slice fa' fs'.length fc', .slice ba' bs'.length bc'], .pointer (some ⟨w.heap.size, 0, none⟩), .pointer (some ⟨w.heap.size + 1, 0, none⟩), .pointer (some ⟨w.heap.size + 1 + 1, 0, none⟩), .pointer (some ⟨Bx, 0, none⟩), x.1.c.v, .agg #[.slice fa fs.length fc, .slice ba bs.length bc], .func (.func 34) #[] #[.pointer (some ⟨w.heap.size + 1 + 1 + 1, 0, none⟩)], x.1.nv, x.1.c.v, undef, undef, undef, undef, undef, undef], defers := [] })
    (fun x a' _ X Y row hs hg hr => by obtain ⟨Bx, h1, h2, h3⟩ := hs; exact ⟨Bx, h1, boxed2_own Bx 26 (fun (_ : Unit) => Value.int .u8 x.1.k) (fun _ => .int .i64 ((x.1.i : Int) + 1)) () X Y row h2 hg (fun r e => (hr r e).2), h3⟩)
    ?assign ?body ?done ?stop
  case assign =>
    rintro l pre ⟨⟨k, i, ⟨ca, cl, cc⟩⟩, hx⟩ W K ⟨⟨⟨bP1, bR1⟩, hno⟩, hB1⟩ hK
    simp only [El.vs, El.nv, Cel.v] at hK ⊢
    gi_wp2
    exact hK _ _ ((KeepsOthers.alloc _ _).from _) ((Below.refl _ W).alloc hB1.size _) ⟨⟨⟨bP1.alloc _, bR1.alloc _⟩, hno⟩, hB1.alloc hB1.size _⟩ ⟨W.heap.size, bR1.lt, Boxed2.new W 26 _ _, rfl⟩
  case body =>
    rintro l pre ⟨⟨k, i, ⟨ca, cl, cc⟩⟩, hx⟩ a' W hl ⟨r, hr⟩ ⟨⟨⟨bP1, bR1⟩, hno⟩, hB1⟩ ⟨Bx, hBx, bX, rfl⟩ hlt
    simp only at bX
    have p0 := bP1.cell0
    have p1 := bP1.cell1
    have lP := bP1.lt
    have e0 := bR1.cell
    have fE := bR1.frozen
    have lE := bR1.lt
    have c0 := bX.cell0
    have c1 := bX.cell1
    have lX := bX.lt
    have hok : Cel.ok w.heap.size W ⟨ca, cl, cc⟩ := hx.2.2.below hB1
    have HK := Lib.hid hok
    have hk1 : k ≤ 1 := hx.1
    have hi1 : i < 100 := hx.2.1
    have HW' := Lib.hid (HD'.out.below hB1)
    simp only [El.nv, Cel.v]
    have hmem : ∀ x ∈ pre, sameAt d' x.1 = true := hno.out
    have HM := Lib.hid hmem
    clear hmem hok
    obtain ⟨⟨oa, ol, oc⟩, ho⟩ : ∃ c : Cel, (d'.bed k).cel i = c := ⟨_, rfl⟩
    have HO : Hid (Cel.ok w.heap.size W ⟨oa, ol, oc⟩) := Lib.hid (by rw [← ho]; exact (HW'.out.bed k).cel i)
    have HON := Lib.hid (on_any d' k i w.heap.size W hB1.size hk1 (by omega) HW'.out)
    have hon : Calls Try.prog 27 #[.agg #[.slice fa' fs'.length fc', .slice ba' bs'.length bc'], .agg #[.int .u8 k, .int .i64 ((i : Int) + 1)]] W fun e w' => e = .returned (.slice oa ol.length oc) ∧ Below W.heap.size W w' := by
      have := HON.out
      rw [ho, HV'.out] at this
      exact this
    have HON2 := Lib.hid hon
    obtain ⟨b, hb⟩ : ∃ b, decide (cl = ol) = b := ⟨_, rfl⟩
    have HS : Hid (sameAt d' ⟨k, i, ⟨ca, cl, cc⟩⟩ = b) := Lib.hid (by simp only [sameAt, ho]; exact hb)
    have HBB := Lib.hid hb
    clear hb hon HON ho
    cases b
    all_goals
      gi_wp2_with (first
        | (refine ⟨trivial, ?_⟩; gi_at_call 27; refine (CallsIn.inRound l (callsIn_wide.2 HON2.out)).mono ?_; rintro e w1 ⟨rfl, hb1⟩; obtain ⟨hc1, hf1⟩ := bcell hb1; have hz1 := hb1.size)
        | (refine ⟨trivial, ?_⟩; gi_at_call 39; refine (CallsIn.inRound l (callsIn_wide.2 (equal_any ⟨ca, cl, cc⟩ ⟨oa, ol, oc⟩ w.heap.size _ (by have := hB1.size; omega) (HK.out.below (hb1.mono hB1.size)) (HO.out.below (hb1.mono hB1.size))))).mono ?_; simp only [HBB.out]; rintro e w2 ⟨rfl, hb2⟩; clear hc1 hf1; obtain ⟨hc2, hf2⟩ := bcell (hb1.trans (hb2.mono hb1.size)); have hz2 := hb2.size))
    · have hw2 : Below w.heap.size W w2 := (hb1.mono hB1.size).trans (hb2.mono (Nat.le_trans hB1.size hb1.size))
      have hw2' : Below W.heap.size W w2 := hb1.trans (hb2.mono hb1.size)
      exact ⟨(keepsFrom_below hw2' (Nat.le_refl _)).trans ((KeepsOthers.setCell _ _ _).from _), ⟨pre, _, rfl, ⟨rfl, HS⟩, (boxed_below bR1 hw2' lE).set _⟩, (hB1.trans hw2).setCell (p := ⟨w.heap.size + 1 + 1, 0, none⟩) (by simp; omega) _⟩
    · have hw2 : Below w.heap.size W w2 := (hb1.mono hB1.size).trans (hb2.mono (Nat.le_trans hB1.size hb1.size))
      have hw2' : Below W.heap.size W w2 := hb1.trans (hb2.mono hb1.size)
      refine ⟨keepsFrom_below hw2' (Nat.le_refl _), hw2, ⟨⟨bP1.below hw2' lP, boxed_below bR1 hw2' lE⟩, Lib.hid fun x hx' => ?_⟩, hB1.trans hw2⟩
      rcases List.mem_append.1 hx' with h | h
      · exact HM.out x h
      · obtain rfl := List.mem_singleton.1 h
        exact HS.out
  case done =>
    rintro D ys W hD rfl ⟨⟨⟨bP1, bR1⟩, hno⟩, hB1⟩ hK
    have fE := bR1.frozen
    have e0 := bR1.cell
    have HNO := Lib.hid hno
    gi_wp2
    have hK' := (KeepsOthers.setCell W ⟨w.heap.size + 1 + 1, 0, none⟩ (.bool true)).same D _ hK rfl
    refine ⟨by simp, .inl ⟨_, _, rfl, run_takeDeferred hK', ?_⟩⟩
    have hc5 := cell_kept (bR1.set (.bool true)).cell (grownBy_putObj' _ D (.deferred none)) (fun r e => by cases e; exact ⟨_, hK', rfl⟩)
    refine ⟨.bool true, ?_, ?_, (hB1.setCell (p := ⟨w.heap.size + 1 + 1, 0, none⟩) (by simp; omega) _).trans (belowK_b (w := w) (Nat.le_refl _) _ D _ _ (by omega) hK' rfl rfl)⟩
    · simp [results, Try.f32, go_sem, hc5]
    · rw [HR.out]
      refine ret_bool (List.all_eq_true.2 fun x hx => ?_).symm
      have := HNO.out.out (Ap.mk h0 x) (List.mem_map.2 ⟨x, hx, rfl⟩)
      rwa [Ap.mk_val h0 (HP.out x hx)] at this
  case stop =>
    rintro D c pre W hD hpre ⟨⟨ini, last, e1, ⟨rfl, hlast⟩, bE4⟩, hB1⟩ hK
    have HL := Lib.hid hlast
    have HE := Lib.hid e1
    have HPR := Lib.hid (Ap.prefix_val h0 HP.out hpre)
    clear e1 hpre
    gi_wp2
    refine ⟨by simp, .inl ⟨_, _, rfl, run_takeDeferred hK, ?_⟩⟩
    have g2 := cell_kept bE4.cell (grownBy_putObj' _ D (.deferred none)) (fun r e => by cases e; exact ⟨_, hK, rfl⟩)
    refine ⟨.bool false, ?_, ?_, hB1.trans (belowK_b (w := w) (Nat.le_refl _) W D _ _ (by omega) hK rfl rfl)⟩
    · simp [results, Try.f32, go_sem, g2]
    · rw [HR.out]
      refine ret_bool (List.all_eq_false.2 ⟨last.1, ?_, ?_⟩).symm
      · obtain ⟨r, hr⟩ := HPR.out
        rw [← hr, HE.out, List.map_append]
        simp
      · have := HL.out.out
        rw [this]; simp
end Go.Proofs.Ytjjnhmbgffdenaa
