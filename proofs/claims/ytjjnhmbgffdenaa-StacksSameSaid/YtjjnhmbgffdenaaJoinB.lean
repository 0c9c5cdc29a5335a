import Derived.Test.YtjjnhmbgffdenaaJoinA
namespace Go.Proofs.Ytjjnhmbgffdenaa
open Go.RowKit Go.Sort

section
variable {o : Oper} {a : Act} {w : World} {K : Act → World → Prop} {Q : Exit → Act → World → Prop} {x y : Operand}
theorem st_bs2 {s t : Tmp} {p1 p2 : Option Addr} {n1 n2 r1 r2 : Nat} (hop : o.op = .buildSlice 33 2 #[(0, .tmp s), (1, .tmp t)]) (hs : a.eval (.tmp s) = .slice p1 n1 r1) (ht : a.eval (.tmp t) = .slice p2 n2 r2) (hK : K (a.put o.dst (.slice (some ⟨w.heap.size, 0, none⟩) 2 2)) (w.alloc (.cells #[.slice p1 n1 r1, .slice p2 n2 r2] 29))) : o.wp Try.prog a w K Q := by
  have e1 : a.tmps[s]?.getD undef = .slice p1 n1 r1 := by simpa [Act.eval] using hs
  have e2 : a.tmps[t]?.getD undef = .slice p2 n2 r2 := by simpa [Act.eval] using ht
  refine step_valw (v := .slice (some ⟨w.heap.size, 0, none⟩) 2 2) ?_ hK
  simp only [execOp, hop]
  go_simp
end
/-- Two stacks in a slice of their own. -/
theorem bed2_ok {w : World} {c d : Cel} (hc : c.ok w.heap.size w) (hd : d.ok w.heap.size w) : Bed.ok (w.alloc (.cells #[c.v, d.v] 29)).heap.size (w.alloc (.cells #[c.v, d.v] 29)) ⟨some ⟨w.heap.size, 0, none⟩, [c, d], 2⟩ := by
  have hb := below1 w (.cells #[c.v, d.v] 29)
  refine ⟨by simp, fun x hx => ?_, .inr ⟨w.heap.size, 0, rfl, by simp, fun i x hx => ?_⟩⟩
  · simp only [List.mem_cons, List.not_mem_nil, or_false] at hx
    rcases hx with rfl | rfl
    · exact (hc.below hb).mono hb.size
    · exact (hd.below hb).mono hb.size
  · have hn := Boxed2.new w 29 c.v d.v
    match i, hx with
    | 0, hx => cases hx; exact hn.cell0
    | 1, hx => cases hx; exact hn.cell1
    | i + 2, hx => simp at hx
def psiJ6 (fa : Option Addr) (fs : List Cel) (fc : Nat) (ba : Option Addr) (bs : List Cel) (bc : Nat) (k1 : Nat) (i1 : Nat) (k2 : Nat) (i2 : Nat) (p2 : Option Addr) (q2 : List Nm) (r2 : Nat) : Nat → Value → World → Prop
  | 0, v9, _ => v9 = .agg #[.slice fa fs.length fc, .slice ba bs.length bc]
  | 1, v9, _ => v9 = .agg #[.int .u8 k2, .int .i64 ((i2 : Int) + 1)]
  | 2, v9, _ => v9 = .slice p2 q2.length r2
  | 3, v9, _ => v9 = .agg #[.slice fa fs.length fc, .slice ba bs.length bc]
  | 4, v9, _ => v9 = .agg #[.int .u8 k1, .int .i64 ((i1 : Int) + 1)]
  | _, _, _ => True
theorem psiJ6_stab (fa : Option Addr) (fs : List Cel) (fc : Nat) (ba : Option Addr) (bs : List Cel) (bc : Nat) (k1 : Nat) (i1 : Nat) (k2 : Nat) (i2 : Nat) (p2 : Option Addr) (q2 : List Nm) (r2 : Nat) (i9 : Nat) (v9 : Value) (w9 w9' : World) (h : psiJ6 fa fs fc ba bs bc k1 i1 k2 i2 p2 q2 r2 i9 v9 w9) (_hb : Below w9.heap.size w9 w9') : psiJ6 fa fs fc ba bs bc k1 i1 k2 i2 p2 q2 r2 i9 v9 w9' := by
  match i9, h with
  | 0, h => exact h
  | 1, h => exact h
  | 2, h => exact h
  | 3, h => exact h
  | 4, h => exact h
  | i9 + 5, _ => exact trivial
def psiJ15 (k2 : Nat) (i2 : Nat) (px : Option Addr) (qx : List Nm) (rx : Nat) (py : Option Addr) (qy : List Nm) (ry : Nat) : Nat → Value → World → Prop
  | 0, v9, _ => v9 = .agg #[.int .u8 k2, .int .i64 ((i2 : Int) + 1)]
  | 1, v9, _ => v9 = .slice px qx.length rx
  | 2, v9, _ => v9 = .slice py qy.length ry
  | 3, v9, w9 => ∃ A, v9 = .slice (some ⟨A, 0, none⟩) 2 2 ∧ Bed.ok w9.heap.size w9 ⟨some ⟨A, 0, none⟩, [⟨px, qx, rx⟩, ⟨py, qy, ry⟩], 2⟩
  | 4, v9, w9 => ∃ c : Cel, v9 = c.v ∧ c.l = qx ++ qy ∧ c.ok w9.heap.size w9
  | _, _, _ => True
theorem psiJ15_stab (k2 : Nat) (i2 : Nat) (px : Option Addr) (qx : List Nm) (rx : Nat) (py : Option Addr) (qy : List Nm) (ry : Nat) (i9 : Nat) (v9 : Value) (w9 w9' : World) (h : psiJ15 k2 i2 px qx rx py qy ry i9 v9 w9) (_hb : Below w9.heap.size w9 w9') : psiJ15 k2 i2 px qx rx py qy ry i9 v9 w9' := by
  match i9, h with
  | 0, h => exact h
  | 1, h => exact h
  | 2, h => exact h
  | 3, h => exact (by obtain ⟨A, h1, h2⟩ := h; exact ⟨A, h1, (h2.below _hb).mono _hb.size⟩)
  | 4, h => exact (by obtain ⟨c, h1, h2, h3⟩ := h; exact ⟨c, h1, h2, (h3.below _hb).mono _hb.size⟩)
  | i9 + 5, _ => exact trivial
set_option maxRecDepth 100000 in
set_option maxHeartbeats 2000000 in
theorem join_d (d : Bds) (T : List (List Nm)) (b1 a1 b2 a2 : Int) (B : Nat) (w : World) (hB : B ≤ w.heap.size) (hd : d.ok B w) (hr : Reads T d) (hT : TOk T) (k1 i1 k2 i2 : Nat) (hb1 : b1 = k1) (ha1 : a1 = (i1 : Int) + 1) (hb2 : b2 = k2) (ha2 : a2 = (i2 : Int) + 1) (hk1 : k1 < 2) (hi1 : i1 < 40) (hk2 : k2 < 2) (hi2 : i2 < 40) (hne : k1 ≠ k2) :
    Calls Try.prog 19 #[d.v, .agg #[.int .u8 b1, .int .i64 a1], .agg #[.int .u8 b2, .int .i64 a2]] w (Changed (joinT T b1 a1 b2 a2) (joinErr T b1 a1 b2 a2) w) := by
  obtain ⟨E9, hE9⟩ : ∃ E9, E9 = joinErr T b1 a1 b2 a2 := ⟨_, rfl⟩
  obtain ⟨T9, hT9⟩ : ∃ T9, T9 = joinT T b1 a1 b2 a2 := ⟨_, rfl⟩
  have hn : isN b1 a1 = true := isN_mk (by omega)
  have hm : isN b2 a2 = true := isN_mk (by omega)
  have x1 : ixOf b1 a1 = k1 * 40 + i1 := by unfold ixOf; omega
  have x2 : ixOf b2 a2 = k2 * 40 + i2 := by unfold ixOf; omega
  obtain ⟨L1, hL1⟩ : ∃ L1, L1 = T.getD (k1 * 40 + i1) [] := ⟨_, rfl⟩
  obtain ⟨L2, hL2⟩ : ∃ L2, L2 = T.getD (k2 * 40 + i2) [] := ⟨_, rfl⟩
  have HE9 : Hid (E9 = if L1.length = 0 then 13 else if 4 < L2.length + L1.length then 9 else 0) := Lib.hid (by
    rw [hE9]; unfold joinErr; rw [if_neg (by rw [hn, hm]; simp; omega), x1, x2, ← hL1, ← hL2])
  have HT9 : Hid (T9 = (T.set (k1 * 40 + i1) []).set (k2 * 40 + i2) (if k1 = 1 then L1 ++ L2 else L2 ++ L1)) := Lib.hid (by
    rw [hT9]; unfold joinT; rw [x1, x2, ← hL1, ← hL2]
    congr 1
    by_cases h : k1 = 1
    · rw [if_pos h, if_pos (by omega)]
    · rw [if_neg h, if_neg (by omega)])
  have HC1 : Hid (((d.bed k1).cel i1).l = L1) := Lib.hid (by rw [hL1]; exact hr.cel k1 hk1 i1 hi1)
  have HC2 : Hid (((d.bed k2).cel i2).l = L2) := Lib.hid (by rw [hL2]; exact hr.cel k2 hk2 i2 hi2)
  have hlen1 : L1.length ≤ 4 := by
    rw [hL1]; rcases getD_mem_or (l := T) (k1 * 40 + i1) with h | h
    · exact (hT.st _ h).1
    · rw [h]; simp
  have hlen2 : L2.length ≤ 4 := by
    rw [hL2]; rcases getD_mem_or (l := T) (k2 * 40 + i2) with h | h
    · exact (hT.st _ h).1
    · rw [h]; simp
  rw [← hE9, ← hT9]
  clear hE9 hT9 x1 x2 hL1 hL2
  subst hb1 ha1 hb2 ha2
  have HN := Lib.hid hn
  have HM := Lib.hid hm
  have HFL := Lib.hid hr.fill
  have H40 : Hid (∀ x ∈ d.els, x.i < 40) := Lib.hid fun x hx => hr.i40 hx
  have HLT : Hid (T.length = 80) := Lib.hid hT.len
  have HO : Hid (∀ w1, Below w.heap.size w w1 → ∀ (k i : Nat), k < 2 → i < 40 → Calls Try.prog 27 #[d.v, .agg #[.int .u8 (k : Int), .int .i64 ((i : Int) + 1)]] w1 fun e w' => e = .returned ((d.bed k).cel i).v ∧ Below w1.heap.size w1 w') := Lib.hid fun w1 h1 k i hk hi => on_any d k i w.heap.size w1 h1.size (by omega) (by omega) ((hd.mono hB).below h1)
  obtain ⟨⟨p1, q1, r1⟩, hc1⟩ : ∃ c : Cel, (d.bed k1).cel i1 = c := ⟨_, rfl⟩
  obtain ⟨⟨p2, q2, r2⟩, hc2⟩ : ∃ c : Cel, (d.bed k2).cel i2 = c := ⟨_, rfl⟩
  have HO1 : Hid (∀ w1, Below w.heap.size w w1 → Calls Try.prog 27 #[d.v, .agg #[.int .u8 (k1 : Int), .int .i64 ((i1 : Int) + 1)]] w1 fun e w' => e = .returned (.slice p1 q1.length r1) ∧ Below w1.heap.size w1 w') := Lib.hid fun w1 h1 => by
    have := HO.out w1 h1 k1 i1 hk1 hi1; rw [hc1] at this; exact this
  have HO2 : Hid (∀ w1, Below w.heap.size w w1 → Calls Try.prog 27 #[d.v, .agg #[.int .u8 (k2 : Int), .int .i64 ((i2 : Int) + 1)]] w1 fun e w' => e = .returned (.slice p2 q2.length r2) ∧ Below w1.heap.size w1 w') := Lib.hid fun w1 h1 => by
    have := HO.out w1 h1 k2 i2 hk2 hi2; rw [hc2] at this; exact this
  have HK1 : Hid (Cel.ok w.heap.size w ⟨p1, q1, r1⟩) := Lib.hid (by rw [← hc1]; exact ((hd.mono hB).bed k1).cel i1)
  have HK2 : Hid (Cel.ok w.heap.size w ⟨p2, q2, r2⟩) := Lib.hid (by rw [← hc2]; exact ((hd.mono hB).bed k2).cel i2)
  have HQ1 := HC1.out
  have HQ2 := HC2.out
  rw [hc1] at HQ1
  rw [hc2] at HQ2
  simp only at HQ1 HQ2
  subst HQ1
  subst HQ2
  clear HC1 HC2 hc1 hc2 HO
  have HD := Lib.hid (hd.mono hB)
  have HG := Lib.hid (hr.good hT)
  obtain ⟨⟨fa, fs, fc⟩, ⟨ba, bs, bc⟩⟩ := d
  clear hn hm hd hr hT
  have hneq : ((k1 : Int) == (k2 : Int)) = false := by simp; omega
  simp only [Bds.v, Bed.v] at HO1 HO2 ⊢
  go_enter Try.func19, Try.ntmps19
  go_wp2_with fail
  obtain ⟨W0, hW0⟩ : ∃ W0, ((((w.alloc (.cells #[.slice fa fs.length fc, .slice ba bs.length bc] 35)).alloc (.cells #[.int .u8 k1, .int .i64 ((i1 : Int) + 1)] 26)).alloc (.cells #[.int .u8 k2, .int .i64 ((i2 : Int) + 1)] 26)).alloc (.cells #[.slice none 0 0, .slice none 0 0] 35)) = W0 := ⟨_, rfl⟩
  have bD : Boxed2 W0 (w.heap.size) 35 (.slice fa fs.length fc) (.slice ba bs.length bc) := by
    rw [← hW0]; exact ((((Boxed2.new w 35 (.slice fa fs.length fc) (.slice ba bs.length bc)).alloc (.cells #[.int .u8 k1, .int .i64 ((i1 : Int) + 1)] 26)).alloc (.cells #[.int .u8 k2, .int .i64 ((i2 : Int) + 1)] 26)).alloc (.cells #[.slice none 0 0, .slice none 0 0] 35))
  have bN : Boxed2 W0 (w.heap.size + 1) 26 (.int .u8 k1) (.int .i64 ((i1 : Int) + 1)) := by
    rw [← hW0]; have := (((Boxed2.new (w.alloc (.cells #[.slice fa fs.length fc, .slice ba bs.length bc] 35)) 26 (.int .u8 k1) (.int .i64 ((i1 : Int) + 1))).alloc (.cells #[.int .u8 k2, .int .i64 ((i2 : Int) + 1)] 26)).alloc (.cells #[.slice none 0 0, .slice none 0 0] 35))
    simp only [World.size_alloc] at this; exact this
  have bM : Boxed2 W0 (w.heap.size + 1 + 1) 26 (.int .u8 k2) (.int .i64 ((i2 : Int) + 1)) := by
    rw [← hW0]; have := ((Boxed2.new ((w.alloc (.cells #[.slice fa fs.length fc, .slice ba bs.length bc] 35)).alloc (.cells #[.int .u8 k1, .int .i64 ((i1 : Int) + 1)] 26)) 26 (.int .u8 k2) (.int .i64 ((i2 : Int) + 1))).alloc (.cells #[.slice none 0 0, .slice none 0 0] 35))
    simp only [World.size_alloc] at this; exact this
  have bR : Boxed2 W0 (w.heap.size + 1 + 1 + 1) 35 (.slice none 0 0) (.slice none 0 0) := by
    rw [← hW0]; have := (Boxed2.new (((w.alloc (.cells #[.slice fa fs.length fc, .slice ba bs.length bc] 35)).alloc (.cells #[.int .u8 k1, .int .i64 ((i1 : Int) + 1)] 26)).alloc (.cells #[.int .u8 k2, .int .i64 ((i2 : Int) + 1)] 26)) 35 (.slice none 0 0) (.slice none 0 0))
    simp only [World.size_alloc] at this; exact this
  have hB0 : Below w.heap.size w W0 := by rw [← hW0]; exact (below3 _ _ _ _).alloc (by simp; omega) _
  rw [hW0]
  clear hW0
  go_wp2_with (first
    | (go_at_call 10; refine (check_ok ⟨⟨fa, fs, fc⟩, ⟨ba, bs, bc⟩⟩ w.heap.size _ hB0.size (HD.out.below hB0) HG.out).mono ?_; rintro e w1 ⟨rfl, hb1⟩; have hB1 : Below w.heap.size w w1 := hB0.trans (hb1.mono hB0.size); have bD1 := bD.below hb1 bD.lt; have bN1 := bN.below hb1 bN.lt; have bM1 := bM.below hb1 bM.lt; have bR1 := bR.below hb1 bR.lt; have d01 := bD1.cell0; have d11 := bD1.cell1; have n01 := bN1.cell0; have n11 := bN1.cell1; have m01 := bM1.cell0; have m11 := bM1.cell1; have r01 := bR1.cell0; have r11 := bR1.cell1; have fR1 := bR1.frozen)
    | (go_at_call 23; refine (isNeedle_any _ _ _ _ HN.out).mono ?_; rintro e w2 ⟨rfl, hb2⟩; have HN2 := HM; clear HN; have hB2 : Below w.heap.size w w2 := hB1.trans (hb2.mono hB1.size); have bD2 := bD1.below hb2 bD1.lt; have bN2 := bN1.below hb2 bN1.lt; have bM2 := bM1.below hb2 bM1.lt; have bR2 := bR1.below hb2 bR1.lt; have d02 := bD2.cell0; have d12 := bD2.cell1; have n02 := bN2.cell0; have n12 := bN2.cell1; have m02 := bM2.cell0; have m12 := bM2.cell1; have r02 := bR2.cell0; have r12 := bR2.cell1; have fR2 := bR2.frozen)
    | (go_at_call 23; refine (isNeedle_any _ _ _ _ HN2.out).mono ?_; rintro e w3 ⟨rfl, hb3⟩; have hB3 : Below w.heap.size w w3 := hB2.trans (hb3.mono hB2.size); have bD3 := bD2.below hb3 bD2.lt; have bN3 := bN2.below hb3 bN2.lt; have bM3 := bM2.below hb3 bM2.lt; have bR3 := bR2.below hb3 bR2.lt; have d03 := bD3.cell0; have d13 := bD3.cell1; have n03 := bN3.cell0; have n13 := bN3.cell1; have m03 := bM3.cell0; have m13 := bM3.cell1; have r03 := bR3.cell0; have r13 := bR3.cell1; have fR3 := bR3.frozen))
  refine rgT2 5 [some 34, some 35, some 36, some 37, some 38, some 39, some 9, some 10] (psiJ6 fa fs fc ba bs bc k1 i1 k2 i2 p2 q2 r2) (fun w' => Below w3.heap.size w3 w') (by kernel_rfl) (by kernel_rfl) (by kernel_rfl) (by kernel_rfl) (psiJ6_stab fa fs fc ba bs bc k1 i1 k2 i2 p2 q2 r2) (fun _ _ h hb => h.trans (hb.mono h.size)) (fun i9 o9 hi9 ho9 aq9 w1 hs hout hI hdep => ?_) ?_ ((Below.refl _ _).drew)
  · skip
    match i9, hi9, ho9 with
    | 0, _, ho9 =>
      obtain rfl := Option.some.inj ho9
      refine .inl ⟨rfl, fun K hK => ?_⟩
      exact ld35 rfl ((hout 3 rfl).trans rfl) (bD3.below hI bD3.lt).cell0 (bD3.below hI bD3.lt).cell1 (hK _ _ (Below.refl _ _) rfl)
    | 1, _, ho9 =>
      obtain rfl := Option.some.inj ho9
      refine .inl ⟨rfl, fun K hK => ?_⟩
      exact ld26 rfl ((hout 5 rfl).trans rfl) (bM3.below hI bM3.lt).cell0 (bM3.below hI bM3.lt).cell1 (hK _ _ (Below.refl _ _) rfl)
    | 2, _, ho9 =>
      obtain rfl := Option.some.inj ho9
      have dq0 : (aq9.tmps.getD 34 undef) = .agg #[.slice fa fs.length fc, .slice ba bs.length bc] := hdep ⟨0, .data⟩ (by simp) rfl _ rfl
      have dq1 : (aq9.tmps.getD 35 undef) = .agg #[.int .u8 k2, .int .i64 ((i2 : Int) + 1)] := hdep ⟨1, .data⟩ (by simp) rfl _ rfl
      refine .inl ⟨rfl, fun K hK => ?_⟩
      exact step_calls rfl enter27 (vs := #[.agg #[.slice fa fs.length fc, .slice ba bs.length bc], .agg #[.int .u8 k2, .int .i64 ((i2 : Int) + 1)]]) (vals2 dq0 dq1) ((HO2.out w1 (hB3.trans (hI.mono hB3.size))).mono fun e w' hh => by
        obtain ⟨rfl, hb⟩ := hh
        exact ⟨_, rfl, hK _ _ hb rfl⟩)
    | 3, _, ho9 =>
      obtain rfl := Option.some.inj ho9
      refine .inl ⟨rfl, fun K hK => ?_⟩
      exact ld35 rfl ((hout 3 rfl).trans rfl) (bD3.below hI bD3.lt).cell0 (bD3.below hI bD3.lt).cell1 (hK _ _ (Below.refl _ _) rfl)
    | 4, _, ho9 =>
      obtain rfl := Option.some.inj ho9
      refine .inl ⟨rfl, fun K hK => ?_⟩
      exact ld26 rfl ((hout 4 rfl).trans rfl) (bN3.below hI bN3.lt).cell0 (bN3.below hI bN3.lt).cell1 (hK _ _ (Below.refl _ _) rfl)
    | i9 + 5, hi9, _ => exact absurd hi9 (by omega)
  · intro a2 w4 hs hd hout hI hall
    obtain ⟨tmps, defers⟩ := a2
    have e_34 : (tmps.getD 34 undef) = .agg #[.slice fa fs.length fc, .slice ba bs.length bc] := hall 0 _ (by decide) rfl
    have e_35 : (tmps.getD 35 undef) = .agg #[.int .u8 k2, .int .i64 ((i2 : Int) + 1)] := hall 1 _ (by decide) rfl
    have e_36 : (tmps.getD 36 undef) = .slice p2 q2.length r2 := hall 2 _ (by decide) rfl
    have e_37 : (tmps.getD 37 undef) = .agg #[.slice fa fs.length fc, .slice ba bs.length bc] := hall 3 _ (by decide) rfl
    have e_38 : (tmps.getD 38 undef) = .agg #[.int .u8 k1, .int .i64 ((i1 : Int) + 1)] := hall 4 _ (by decide) rfl
    simp only at hs hd hout
    have ef := frameAt [some 34, some 35, some 36, some 37, some 38, some 39, some 9, some 10] _ tmps hs hout
    obtain ⟨sv6, hu⟩ : ∃ u : Nat → Value, u = fun s => tmps.getD s undef := ⟨_, rfl⟩
    have eu_34 : sv6 34 = .agg #[.slice fa fs.length fc, .slice ba bs.length bc] := by rw [hu]; exact e_34
    have eu_35 : sv6 35 = .agg #[.int .u8 k2, .int .i64 ((i2 : Int) + 1)] := by rw [hu]; exact e_35
    have eu_36 : sv6 36 = .slice p2 q2.length r2 := by rw [hu]; exact e_36
    have eu_37 : sv6 37 = .agg #[.slice fa fs.length fc, .slice ba bs.length bc] := by rw [hu]; exact e_37
    have eu_38 : sv6 38 = .agg #[.int .u8 k1, .int .i64 ((i1 : Int) + 1)] := by rw [hu]; exact e_38
    rw [← hu] at ef
    have ef2 : tmps = #[Value.agg #[Value.slice fa fs.length fc, Value.slice ba bs.length bc], Value.agg #[Value.int IntKind.u8 k1, Value.int IntKind.i64 (i1 + 1)], Value.agg #[Value.int IntKind.u8 k2, Value.int IntKind.i64 (i2 + 1)], Value.pointer (some { block := w.heap.size, off := 0 }), Value.pointer (some { block := w.heap.size + 1, off := 0 }), Value.pointer (some { block := w.heap.size + 1 + 1, off := 0 }), Value.pointer (some { block := w.heap.size + 1 + 1 + 1, off := 0 }), Value.int IntKind.i64 0, Value.int IntKind.i64 0, (sv6 9), (sv6 10), undef, Value.agg #[Value.slice fa fs.length fc, Value.slice ba bs.length bc], Value.int IntKind.i64 0, Value.int IntKind.i64 0, Value.bool false, undef, undef, Value.agg #[Value.int IntKind.u8 k1, Value.int IntKind.i64 (i1 + 1)], Value.bool true, Value.bool false, Value.bool false, Value.agg #[Value.int IntKind.u8 k2, Value.int IntKind.i64 (i2 + 1)], Value.bool true, Value.bool false, Value.bool false, Value.bool false, Value.pointer (some { block := w.heap.size + 1, off := 0 }), Value.int IntKind.u8 k1, Value.pointer (some { block := w.heap.size + 1 + 1, off := 0 }), Value.int IntKind.u8 k2, Value.bool false, Value.bool false, undef, (sv6 34), (sv6 35), (sv6 36), (sv6 37), (sv6 38), (sv6 39), undef, undef, undef, undef, undef, undef, undef, undef, undef, undef, undef, undef, undef, undef, undef, undef, undef, undef, undef, undef, undef, undef, undef, undef, undef, undef, undef] := ef
    subst hd
    rw [eu_34, eu_35, eu_36, eu_37, eu_38] at ef2
    rw [ef2]
    clear ef ef2 hu hs hout hall e_34 eu_34 e_35 eu_35 e_36 eu_36 e_37 eu_37 e_38 eu_38
    simp only [List.drop_succ_cons, List.drop_zero]
    have hB4 : Below w.heap.size w w4 := hB3.trans (hI.mono hB3.size)
    have bD4 := bD3.below hI bD3.lt; have bN4 := bN3.below hI bN3.lt; have bM4 := bM3.below hI bM3.lt; have bR4 := bR3.below hI bR3.lt; have d04 := bD4.cell0; have d14 := bD4.cell1; have n04 := bN4.cell0; have n14 := bN4.cell1; have m04 := bM4.cell0; have m14 := bM4.cell1; have r04 := bR4.cell0; have r14 := bR4.cell1; have fR4 := bR4.frozen
    by_cases h13 : q1.length = 0
    · have hE : E9 = 13 := by rw [HE9.out, if_pos h13]
      subst hE
      have g13 : ((q1.length : Int) == 0) = true := by simp [h13]
      clear h13
      go_wp2_with (go_at_call 27; refine (HO1.out _ hB4).mono ?_; rintro e w5 ⟨rfl, hb5⟩; have hB5 : Below w.heap.size w w5 := hB4.trans (hb5.mono hB4.size); have bD5 := bD4.below hb5 bD4.lt; have bN5 := bN4.below hb5 bN4.lt; have bM5 := bM4.below hb5 bM4.lt; have bR5 := bR4.below hb5 bR4.lt; have d05 := bD5.cell0; have d15 := bD5.cell1; have n05 := bN5.cell0; have n15 := bN5.cell1; have m05 := bM5.cell0; have m15 := bM5.cell1; have r05 := bR5.cell0; have r15 := bR5.cell1; have fR5 := bR5.frozen)
      have b4 := (bR5.set0 (.slice none 0 0)).set1 (.slice none 0 0)
      have b40 := b4.cell0
      have b41 := b4.cell1
      exact bodyPost_ret (v := .tuple #[zBeds, .int .i64 13]) (by simp [results, Try.results19, go_sem, b40, b41, zBeds]) rfl (changed_no (by decide) ((hB5.setCell (p := ⟨w.heap.size + 1 + 1 + 1, 0, none⟩) (by simp; omega) _).setCell (p := ⟨w.heap.size + 1 + 1 + 1, 1, none⟩) (by simp; omega) _))
    · have g13 : ((q1.length : Int) == 0) = false := by simpa using h13
      by_cases h9 : 4 < q2.length + q1.length
      · have hE : E9 = 9 := by rw [HE9.out, if_neg h13, if_pos h9]
        subst hE
        have hw : IntKind.i64.wrap ((q2.length : Int) + (q1.length : Int)) = (q2.length : Int) + (q1.length : Int) := IntWalk.i64_in _ (by omega)
        have g9 : decide ((4 : Int) < (q2.length : Int) + (q1.length : Int)) = true := by simp; omega
        clear h13 h9
        go_wp2_with (go_at_call 27; refine (HO1.out _ hB4).mono ?_; rintro e w5 ⟨rfl, hb5⟩; have hB5 : Below w.heap.size w w5 := hB4.trans (hb5.mono hB4.size); have bD5 := bD4.below hb5 bD4.lt; have bN5 := bN4.below hb5 bN4.lt; have bM5 := bM4.below hb5 bM4.lt; have bR5 := bR4.below hb5 bR4.lt; have d05 := bD5.cell0; have d15 := bD5.cell1; have n05 := bN5.cell0; have n15 := bN5.cell1; have m05 := bM5.cell0; have m15 := bM5.cell1; have r05 := bR5.cell0; have r15 := bR5.cell1; have fR5 := bR5.frozen)
        have b4 := (bR5.set0 (.slice none 0 0)).set1 (.slice none 0 0)
        have b40 := b4.cell0
        have b41 := b4.cell1
        exact bodyPost_ret (v := .tuple #[zBeds, .int .i64 9]) (by simp [results, Try.results19, go_sem, b40, b41, zBeds]) rfl (changed_no (by decide) ((hB5.setCell (p := ⟨w.heap.size + 1 + 1 + 1, 0, none⟩) (by simp; omega) _).setCell (p := ⟨w.heap.size + 1 + 1 + 1, 1, none⟩) (by simp; omega) _))
      · have hE : E9 = 0 := by rw [HE9.out, if_neg h13, if_neg h9]
        subst hE
        have hw : IntKind.i64.wrap ((q2.length : Int) + (q1.length : Int)) = (q2.length : Int) + (q1.length : Int) := IntWalk.i64_in _ (by omega)
        have g9 : decide ((4 : Int) < (q2.length : Int) + (q1.length : Int)) = false := by simp; omega
        clear h13 h9

        by_cases hk : k1 = 1
        · have gk : ((k1 : Int) == 1) = true := by simp; omega
          have HK := Lib.hid hk
          clear hk
          go_wp2_with (first | (go_at_call 27; refine (HO1.out _ hB4).mono ?_; rintro e w5 ⟨rfl, hb5⟩; have hB5 : Below w.heap.size w w5 := hB4.trans (hb5.mono hB4.size); have bD5 := bD4.below hb5 bD4.lt; have bN5 := bN4.below hb5 bN4.lt; have bM5 := bM4.below hb5 bM4.lt; have bR5 := bR4.below hb5 bR4.lt; have d05 := bD5.cell0; have d15 := bD5.cell1; have n05 := bN5.cell0; have n15 := bN5.cell1; have m05 := bM5.cell0; have m15 := bM5.cell1; have r05 := bR5.cell0; have r15 := bR5.cell1; have fR5 := bR5.frozen))
          refine (spread_any ⟨⟨fa, fs, fc⟩, ⟨ba, bs, bc⟩⟩ w.heap.size _ hB5.size (HD.out.below hB5) H40.out).mono ?_
          rintro e w6 ⟨cs, rfl, hcs, hb6⟩
          have hB6 : Below w.heap.size w w6 := hB5.trans (hb6.mono hB5.size)
          have bD6 := bD5.below hb6 bD5.lt
          have bN6 := bN5.below hb6 bN5.lt
          have bM6 := bM5.below hb6 bM5.lt
          have bR6 := bR5.below hb6 bR5.lt
          have d06 := bD6.cell0
          have d16 := bD6.cell1
          have n06 := bN6.cell0
          have n16 := bN6.cell1
          have m06 := bM6.cell0
          have m16 := bM6.cell1
          have r06 := bR6.cell0
          have r16 := bR6.cell1
          have fR6 := bR6.frozen
          have hz := zero68
          go_wp2_with (first
            | (refine wpList_store_tab rfl rfl (.inr rfl) _ _ rfl rfl rfl (tab_new w6 68) hcs.out.1 ?_; intro w7 hs7; clear hz; have hB7 : Below w.heap.size w w7 := (hB6.alloc hB6.size _).grown hs7.grown (by have := hB6.size; simp; omega) (fun k e => by cases e; exact hB6.size); have bD7 := (bD6.alloc (.cells zA 68)).kept hs7.grown (by have := bD6.lt; simp; omega); have bN7 := (bN6.alloc (.cells zA 68)).kept hs7.grown (by have := bN6.lt; simp; omega); have bM7 := (bM6.alloc (.cells zA 68)).kept hs7.grown (by have := bM6.lt; simp; omega); have bR7 := (bR6.alloc (.cells zA 68)).kept hs7.grown (by have := bR6.lt; simp; omega); have d07 := bD7.cell0; have d17 := bD7.cell1; have n07 := bN7.cell0; have n17 := bN7.cell1; have m07 := bM7.cell0; have m17 := bM7.cell1; have r07 := bR7.cell0; have r17 := bR7.cell1; have fR7 := bR7.frozen; have HF7 : Hid (Fine w7 cs) := Lib.hid ((hcs.out.2.2.below (below1 w6 (.cells zA 68))).grown_tab (tab_new w6 68) hs7.grown); have HT7 : Hid (Tab w7 w6.heap.size 68 cs) := Lib.hid hs7.tab)
            | (go_at_call 30; refine (put_any w6.heap.size cs k1 i1 Cel.nil w.heap.size w7 hB7.size hk1 hi1 HT7.out (Cel.nil_ok _ _)).mono ?_; rintro e w8 ⟨⟨v8, rfl⟩, ⟨c8, hT8, hl8, hcap8, hok8⟩, hgr8⟩; have hB8 : Below w.heap.size w w8 := hB7.grown hgr8 hB7.size (fun k e => by cases e; exact hB6.size); have bD8 := bD7.kept hgr8 (by have := bD6.lt; simp; omega); have bN8 := bN7.kept hgr8 (by have := bN6.lt; simp; omega); have bM8 := bM7.kept hgr8 (by have := bM6.lt; simp; omega); have bR8 := bR7.kept hgr8 (by have := bR6.lt; simp; omega); have d08 := bD8.cell0; have d18 := bD8.cell1; have n08 := bN8.cell0; have n18 := bN8.cell1; have m08 := bM8.cell0; have m18 := bM8.cell1; have r08 := bR8.cell0; have r18 := bR8.cell1; have fR8 := bR8.frozen; have HT8 := Lib.hid hT8; have HL8 := Lib.hid hl8; have HF8 : Hid (Fine w8 (cs.set (k1 * 40 + i1) c8)) := Lib.hid ((HF7.out.grown_tab HT7.out hgr8).set _ ⟨by rw [hcap8, hl8], hok8⟩); clear hT8 hl8 hcap8 hok8))
          have hI8 : Below w8.heap.size w8 { w8 with drawn := w8.drawn + 1 } := (Below.refl _ _).drew
          have HX := HK1
          have HY := HK2
          refine rgT2 5 [some 60, some 61, some 62, some 63, some 64, some 65] (psiJ15 k2 i2 p1 q1 r1 p2 q2 r2) (fun w' => Below w8.heap.size w8 w') (by kernel_rfl) (by kernel_rfl) (by kernel_rfl) (by kernel_rfl) (psiJ15_stab k2 i2 p1 q1 r1 p2 q2 r2) (fun _ _ h hb => h.trans (hb.mono h.size)) (fun i9 o9 hi9 ho9 aq9 w1 hs hout hI hdep => ?_) ?_ hI8
          · skip
            match i9, hi9, ho9 with
            | 0, _, ho9 =>
              obtain rfl := Option.some.inj ho9
              refine .inl ⟨rfl, fun K hK => ?_⟩
              exact ld26 rfl ((hout 5 rfl).trans rfl) (bM8.below hI bM8.lt).cell0 (bM8.below hI bM8.lt).cell1 (hK _ _ (Below.refl _ _) rfl)
            | 1, _, ho9 =>
              obtain rfl := Option.some.inj ho9
              refine .inl ⟨rfl, fun K hK => ?_⟩
              exact st_move rfl ((hout 9 rfl).trans rfl) (hK _ _ (Below.refl _ _) rfl)
            | 2, _, ho9 =>
              obtain rfl := Option.some.inj ho9
              refine .inl ⟨rfl, fun K hK => ?_⟩
              exact st_move rfl ((hout 10 rfl).trans rfl) (hK _ _ (Below.refl _ _) rfl)
            | 3, _, ho9 =>
              obtain rfl := Option.some.inj ho9
              have dq1 : (aq9.tmps.getD 61 undef) = .slice p1 q1.length r1 := hdep ⟨1, .data⟩ (by simp) rfl _ rfl
              have dq2 : (aq9.tmps.getD 62 undef) = .slice p2 q2.length r2 := hdep ⟨2, .data⟩ (by simp) rfl _ rfl
              refine .inl ⟨rfl, fun K hK => ?_⟩
              exact st_bs2 rfl dq1 dq2 (hK _ _ (below1 _ _) ⟨_, rfl, bed2_ok (c := ⟨p1, q1, r1⟩) (d := ⟨p2, q2, r2⟩) ((HX.out.below (hB8.trans (hI.mono hB8.size))).mono (by have := hB8.size; have := hI.size; omega)) ((HY.out.below (hB8.trans (hI.mono hB8.size))).mono (by have := hB8.size; have := hI.size; omega))⟩)
            | 4, _, ho9 =>
              obtain rfl := Option.some.inj ho9
              have dq3 : ∃ A, (aq9.tmps.getD 63 undef) = .slice (some ⟨A, 0, none⟩) 2 2 ∧ Bed.ok w1.heap.size w1 ⟨some ⟨A, 0, none⟩, [⟨p1, q1, r1⟩, ⟨p2, q2, r2⟩], 2⟩ := hdep ⟨3, .data⟩ (by simp) rfl _ rfl
              refine .inl ⟨rfl, fun K hK => ?_⟩
              obtain ⟨A, hv, hok⟩ := dq3
              exact step_calls rfl enter33 (vs := #[.slice (some ⟨A, 0, none⟩) 2 2]) (vals1 hv) ((concat_any ⟨some ⟨A, 0, none⟩, [⟨p1, q1, r1⟩, ⟨p2, q2, r2⟩], 2⟩ w1.heap.size w1 (Nat.le_refl _) hok (by simp [catL]; omega)).mono fun e w' hh => by
                obtain ⟨c, rfl, hc, hb⟩ := hh
                exact ⟨_, rfl, hK _ _ hb ⟨c, rfl, by rw [hc.out.1]; simp [catL], hc.out.2⟩⟩)
            | i9 + 5, hi9, _ => exact absurd hi9 (by omega)
          · intro a2 w9 hs hd hout hI hall
            obtain ⟨tmps, defers⟩ := a2
            have e_60 : (tmps.getD 60 undef) = .agg #[.int .u8 k2, .int .i64 ((i2 : Int) + 1)] := hall 0 _ (by decide) rfl
            have e_61 : (tmps.getD 61 undef) = .slice p1 q1.length r1 := hall 1 _ (by decide) rfl
            have e_62 : (tmps.getD 62 undef) = .slice p2 q2.length r2 := hall 2 _ (by decide) rfl
            have e_64 : ∃ c : Cel, (tmps.getD 64 undef) = c.v ∧ c.l = q1 ++ q2 ∧ c.ok w9.heap.size w9 := hall 4 _ (by decide) rfl
            obtain ⟨c9, e_64, hl9, hok9⟩ := e_64
            simp only at hs hd hout
            have ef := frameAt [some 60, some 61, some 62, some 63, some 64, some 65] _ tmps hs hout
            obtain ⟨sv15, hu⟩ : ∃ u : Nat → Value, u = fun s => tmps.getD s undef := ⟨_, rfl⟩
            have eu_60 : sv15 60 = .agg #[.int .u8 k2, .int .i64 ((i2 : Int) + 1)] := by rw [hu]; exact e_60
            have eu_61 : sv15 61 = .slice p1 q1.length r1 := by rw [hu]; exact e_61
            have eu_62 : sv15 62 = .slice p2 q2.length r2 := by rw [hu]; exact e_62
            have eu_64 : sv15 64 = c9.v := by rw [hu]; exact e_64
            rw [← hu] at ef
            have ef2 : tmps = #[Value.agg #[Value.slice fa fs.length fc, Value.slice ba bs.length bc], Value.agg #[Value.int IntKind.u8 k1, Value.int IntKind.i64 (i1 + 1)], Value.agg #[Value.int IntKind.u8 k2, Value.int IntKind.i64 (i2 + 1)], Value.pointer (some { block := w.heap.size, off := 0 }), Value.pointer (some { block := w.heap.size + 1, off := 0 }), Value.pointer (some { block := w.heap.size + 1 + 1, off := 0 }), Value.pointer (some { block := w.heap.size + 1 + 1 + 1, off := 0 }), Value.int IntKind.i64 0, Value.int IntKind.i64 0, Value.slice p1 q1.length r1, Value.slice p2 q2.length r2, Value.pointer (some { block := w6.heap.size, off := 0 }), Value.agg #[Value.slice fa fs.length fc, Value.slice ba bs.length bc], Value.int IntKind.i64 0, Value.int IntKind.i64 0, Value.bool false, undef, undef, Value.agg #[Value.int IntKind.u8 k1, Value.int IntKind.i64 (i1 + 1)], Value.bool true, Value.bool false, Value.bool false, Value.agg #[Value.int IntKind.u8 k2, Value.int IntKind.i64 (i2 + 1)], Value.bool true, Value.bool false, Value.bool false, Value.bool false, Value.pointer (some { block := w.heap.size + 1, off := 0 }), Value.int IntKind.u8 k1, Value.pointer (some { block := w.heap.size + 1 + 1, off := 0 }), Value.int IntKind.u8 k2, Value.bool false, Value.bool false, undef, Value.agg #[Value.slice fa fs.length fc, Value.slice ba bs.length bc], Value.agg #[Value.int IntKind.u8 k2, Value.int IntKind.i64 (i2 + 1)], Value.slice p2 q2.length r2, Value.agg #[Value.slice fa fs.length fc, Value.slice ba bs.length bc], Value.agg #[Value.int IntKind.u8 k1, Value.int IntKind.i64 (i1 + 1)], Value.slice p1 q1.length r1, Value.slice p1 q1.length r1, Value.int IntKind.i64 q1.length, Value.bool false, undef, Value.slice p2 q2.length r2, Value.int IntKind.i64 q2.length, Value.slice p1 q1.length r1, Value.int IntKind.i64 q1.length, Value.int IntKind.i64 (q2.length + q1.length), Value.bool false, undef, Value.pointer (some { block := w.heap.size + 1, off := 0 }), Value.int IntKind.u8 k1, Value.bool true, Value.slice p1 q1.length r1, Value.slice p2 q2.length r2, Value.agg #[Value.slice fa fs.length fc, Value.slice ba bs.length bc], tabV cs, Value.agg #[Value.int IntKind.u8 k1, Value.int IntKind.i64 (i1 + 1)], v8, (sv15 60), (sv15 61), (sv15 62), (sv15 63), (sv15 64), (sv15 65), undef] := ef
            subst hd
            rw [eu_60, eu_61, eu_62, eu_64] at ef2
            rw [ef2]
            clear ef ef2 hu hs hout hall e_60 eu_60 e_61 eu_61 e_62 eu_62 e_64 eu_64
            simp only [List.drop_succ_cons, List.drop_zero]
            have HL9 := Lib.hid hl9
            have hB9 : Below w.heap.size w w9 := hB8.trans (hI.mono hB8.size)
            have bD9 := bD8.below hI bD8.lt; have bN9 := bN8.below hI bN8.lt; have bM9 := bM8.below hI bM8.lt; have bR9 := bR8.below hI bR8.lt; have d09 := bD9.cell0; have d19 := bD9.cell1; have n09 := bN9.cell0; have n19 := bN9.cell1; have m09 := bM9.cell0; have m19 := bM9.cell1; have r09 := bR9.cell0; have r19 := bR9.cell1; have fR9 := bR9.frozen
            clear hl9
            obtain ⟨V9, hV9⟩ : ∃ V9, V9 = c9.v := ⟨_, rfl⟩
            rw [← hV9]
            go_wp2_with (first
              | (go_at_call 30; rw [hV9]; refine (put_any w6.heap.size (cs.set (k1 * 40 + i1) c8) k2 i2 c9 w9.heap.size w9 (Nat.le_refl _) hk2 hi2 (HT8.out.below hI HT8.out.lt) hok9).mono ?_; rintro e w10 ⟨⟨v10, rfl⟩, ⟨c10, hT10, hl10, hcap10, hok10⟩, hgr10⟩; have hB10 : Below w.heap.size w w10 := hB9.grown hgr10 hB9.size (fun k e => by cases e; exact hB6.size); have bD10 := bD9.kept hgr10 (by have := bD6.lt; simp; omega); have bN10 := bN9.kept hgr10 (by have := bN6.lt; simp; omega); have bM10 := bM9.kept hgr10 (by have := bM6.lt; simp; omega); have bR10 := bR9.kept hgr10 (by have := bR6.lt; simp; omega); have d010 := bD10.cell0; have d110 := bD10.cell1; have n010 := bN10.cell0; have n110 := bN10.cell1; have m010 := bM10.cell0; have m110 := bM10.cell1; have r010 := bR10.cell0; have r110 := bR10.cell1; have fR10 := bR10.frozen; have HT10 := Lib.hid hT10; have HL10 := Lib.hid hl10; have HF10 : Hid (Fine w10 ((cs.set (k1 * 40 + i1) c8).set (k2 * 40 + i2) c10)) := Lib.hid (((HF8.out.below hI).grown_tab (HT8.out.below hI HT8.out.lt) hgr10).set _ ⟨by rw [hcap10, hl10], hok10⟩); clear hT10 hl10 hcap10 hok10)
              | (go_at_call 31; refine (tbeds_any w6.heap.size ((cs.set (k1 * 40 + i1) c8).set (k2 * 40 + i2) c10) w10 HT10.out HF10.out).mono ?_; rintro e w11 ⟨⟨⟨ga, gs, gc⟩, ⟨ka, ks, kc⟩⟩, rfl, hbd, hb11⟩; simp only [Bds.v, Bed.v]; have hB11 : Below w.heap.size w w11 := hB10.trans (hb11.mono hB10.size); have bD11 := bD10.below hb11 bD10.lt; have bN11 := bN10.below hb11 bN10.lt; have bM11 := bM10.below hb11 bM10.lt; have bR11 := bR10.below hb11 bR10.lt; have d011 := bD11.cell0; have d111 := bD11.cell1; have n011 := bN11.cell0; have n111 := bN11.cell1; have m011 := bM11.cell0; have m111 := bM11.cell1; have r011 := bR11.cell0; have r111 := bR11.cell1; have fR11 := bR11.frozen; have HRD : Hid (Reads T9 ⟨⟨ga, gs, gc⟩, ⟨ka, ks, kc⟩⟩ ∧ Tight ⟨⟨ga, gs, gc⟩, ⟨ka, ks, kc⟩⟩) := Lib.hid (by have h9 := reads_of HT10.out.2 hbd.out.1; rw [List.map_set, List.map_set, hcs.out.2.1, HFL.out, HL8.out, HL10.out, HL9.out] at h9; rw [HT9.out, if_pos HK.out]; exact h9)))
            have hne9 : ∀ x : Option Addr, (∀ b o, x = some ⟨b, o, none⟩ → w10.heap.size ≤ b) → ∀ b o, x = some ⟨b, o, none⟩ → b ≠ w.heap.size + 1 + 1 + 1 := fun x h b o e => by
              have h1 := h b o e
              have h2 := bR10.lt
              omega
            have nF := hne9 ga hbd.out.2.2.1
            have nB := hne9 ka hbd.out.2.2.2
            have b9 := bR11.set0 (.slice ga gs.length gc)
            have b4 := b9.set1 (.slice ka ks.length kc)
            have b40 := b4.cell0
            have b41 := b4.cell1
            have okF := ((hbd.out.2.1.1.set_box bR11 (isSl_mk _ _ _) (isSl_mk _ _ _) nF 0 (.slice ga gs.length gc)).set_box b9 (isSl_mk _ _ _) (isSl_mk _ _ _) nF 1 (.slice ka ks.length kc))
            have okB := ((hbd.out.2.1.2.set_box bR11 (isSl_mk _ _ _) (isSl_mk _ _ _) nB 0 (.slice ga gs.length gc)).set_box b9 (isSl_mk _ _ _) (isSl_mk _ _ _) nB 1 (.slice ka ks.length kc))
            refine bodyPost_ret (v := .tuple #[.agg #[.slice ga gs.length gc, .slice ka ks.length kc], .int .i64 0]) (by simp [results, Try.results19, go_sem, b40, b41]) rfl ⟨_, rfl, Lib.hid ⟨fun h => absurd rfl h, fun _ => ⟨_, rfl, HRD.out.1, HRD.out.2, ⟨okF.mono (by simp), okB.mono (by simp)⟩, fun b o e => Nat.le_trans hB10.size (hbd.out.2.2.1 b o e), fun b o e => Nat.le_trans hB10.size (hbd.out.2.2.2 b o e)⟩⟩, ?_⟩
            exact (hB11.setCell (p := ⟨w.heap.size + 1 + 1 + 1, 0, none⟩) (by simp; omega) _).setCell (p := ⟨w.heap.size + 1 + 1 + 1, 1, none⟩) (by simp; omega) _
        · have gk : ((k1 : Int) == 1) = false := by simp; omega
          have HK := Lib.hid hk
          clear hk
          go_wp2_with (first | (go_at_call 27; refine (HO1.out _ hB4).mono ?_; rintro e w5 ⟨rfl, hb5⟩; have hB5 : Below w.heap.size w w5 := hB4.trans (hb5.mono hB4.size); have bD5 := bD4.below hb5 bD4.lt; have bN5 := bN4.below hb5 bN4.lt; have bM5 := bM4.below hb5 bM4.lt; have bR5 := bR4.below hb5 bR4.lt; have d05 := bD5.cell0; have d15 := bD5.cell1; have n05 := bN5.cell0; have n15 := bN5.cell1; have m05 := bM5.cell0; have m15 := bM5.cell1; have r05 := bR5.cell0; have r15 := bR5.cell1; have fR5 := bR5.frozen))
          refine (spread_any ⟨⟨fa, fs, fc⟩, ⟨ba, bs, bc⟩⟩ w.heap.size _ hB5.size (HD.out.below hB5) H40.out).mono ?_
          rintro e w6 ⟨cs, rfl, hcs, hb6⟩
          have hB6 : Below w.heap.size w w6 := hB5.trans (hb6.mono hB5.size)
          have bD6 := bD5.below hb6 bD5.lt
          have bN6 := bN5.below hb6 bN5.lt
          have bM6 := bM5.below hb6 bM5.lt
          have bR6 := bR5.below hb6 bR5.lt
          have d06 := bD6.cell0
          have d16 := bD6.cell1
          have n06 := bN6.cell0
          have n16 := bN6.cell1
          have m06 := bM6.cell0
          have m16 := bM6.cell1
          have r06 := bR6.cell0
          have r16 := bR6.cell1
          have fR6 := bR6.frozen
          have hz := zero68
          go_wp2_with (first
            | (refine wpList_store_tab rfl rfl (.inr rfl) _ _ rfl rfl rfl (tab_new w6 68) hcs.out.1 ?_; intro w7 hs7; clear hz; have hB7 : Below w.heap.size w w7 := (hB6.alloc hB6.size _).grown hs7.grown (by have := hB6.size; simp; omega) (fun k e => by cases e; exact hB6.size); have bD7 := (bD6.alloc (.cells zA 68)).kept hs7.grown (by have := bD6.lt; simp; omega); have bN7 := (bN6.alloc (.cells zA 68)).kept hs7.grown (by have := bN6.lt; simp; omega); have bM7 := (bM6.alloc (.cells zA 68)).kept hs7.grown (by have := bM6.lt; simp; omega); have bR7 := (bR6.alloc (.cells zA 68)).kept hs7.grown (by have := bR6.lt; simp; omega); have d07 := bD7.cell0; have d17 := bD7.cell1; have n07 := bN7.cell0; have n17 := bN7.cell1; have m07 := bM7.cell0; have m17 := bM7.cell1; have r07 := bR7.cell0; have r17 := bR7.cell1; have fR7 := bR7.frozen; have HF7 : Hid (Fine w7 cs) := Lib.hid ((hcs.out.2.2.below (below1 w6 (.cells zA 68))).grown_tab (tab_new w6 68) hs7.grown); have HT7 : Hid (Tab w7 w6.heap.size 68 cs) := Lib.hid hs7.tab)
            | (go_at_call 30; refine (put_any w6.heap.size cs k1 i1 Cel.nil w.heap.size w7 hB7.size hk1 hi1 HT7.out (Cel.nil_ok _ _)).mono ?_; rintro e w8 ⟨⟨v8, rfl⟩, ⟨c8, hT8, hl8, hcap8, hok8⟩, hgr8⟩; have hB8 : Below w.heap.size w w8 := hB7.grown hgr8 hB7.size (fun k e => by cases e; exact hB6.size); have bD8 := bD7.kept hgr8 (by have := bD6.lt; simp; omega); have bN8 := bN7.kept hgr8 (by have := bN6.lt; simp; omega); have bM8 := bM7.kept hgr8 (by have := bM6.lt; simp; omega); have bR8 := bR7.kept hgr8 (by have := bR6.lt; simp; omega); have d08 := bD8.cell0; have d18 := bD8.cell1; have n08 := bN8.cell0; have n18 := bN8.cell1; have m08 := bM8.cell0; have m18 := bM8.cell1; have r08 := bR8.cell0; have r18 := bR8.cell1; have fR8 := bR8.frozen; have HT8 := Lib.hid hT8; have HL8 := Lib.hid hl8; have HF8 : Hid (Fine w8 (cs.set (k1 * 40 + i1) c8)) := Lib.hid ((HF7.out.grown_tab HT7.out hgr8).set _ ⟨by rw [hcap8, hl8], hok8⟩); clear hT8 hl8 hcap8 hok8))
          have hI8 : Below w8.heap.size w8 { w8 with drawn := w8.drawn + 1 } := (Below.refl _ _).drew
          have HX := HK2
          have HY := HK1
          refine rgT2 5 [some 60, some 61, some 62, some 63, some 64, some 65] (psiJ15 k2 i2 p2 q2 r2 p1 q1 r1) (fun w' => Below w8.heap.size w8 w') (by kernel_rfl) (by kernel_rfl) (by kernel_rfl) (by kernel_rfl) (psiJ15_stab k2 i2 p2 q2 r2 p1 q1 r1) (fun _ _ h hb => h.trans (hb.mono h.size)) (fun i9 o9 hi9 ho9 aq9 w1 hs hout hI hdep => ?_) ?_ hI8
          · skip
            match i9, hi9, ho9 with
            | 0, _, ho9 =>
              obtain rfl := Option.some.inj ho9
              refine .inl ⟨rfl, fun K hK => ?_⟩
              exact ld26 rfl ((hout 5 rfl).trans rfl) (bM8.below hI bM8.lt).cell0 (bM8.below hI bM8.lt).cell1 (hK _ _ (Below.refl _ _) rfl)
            | 1, _, ho9 =>
              obtain rfl := Option.some.inj ho9
              refine .inl ⟨rfl, fun K hK => ?_⟩
              exact st_move rfl ((hout 9 rfl).trans rfl) (hK _ _ (Below.refl _ _) rfl)
            | 2, _, ho9 =>
              obtain rfl := Option.some.inj ho9
              refine .inl ⟨rfl, fun K hK => ?_⟩
              exact st_move rfl ((hout 10 rfl).trans rfl) (hK _ _ (Below.refl _ _) rfl)
            | 3, _, ho9 =>
              obtain rfl := Option.some.inj ho9
              have dq1 : (aq9.tmps.getD 61 undef) = .slice p2 q2.length r2 := hdep ⟨1, .data⟩ (by simp) rfl _ rfl
              have dq2 : (aq9.tmps.getD 62 undef) = .slice p1 q1.length r1 := hdep ⟨2, .data⟩ (by simp) rfl _ rfl
              refine .inl ⟨rfl, fun K hK => ?_⟩
              exact st_bs2 rfl dq1 dq2 (hK _ _ (below1 _ _) ⟨_, rfl, bed2_ok (c := ⟨p2, q2, r2⟩) (d := ⟨p1, q1, r1⟩) ((HX.out.below (hB8.trans (hI.mono hB8.size))).mono (by have := hB8.size; have := hI.size; omega)) ((HY.out.below (hB8.trans (hI.mono hB8.size))).mono (by have := hB8.size; have := hI.size; omega))⟩)
            | 4, _, ho9 =>
              obtain rfl := Option.some.inj ho9
              have dq3 : ∃ A, (aq9.tmps.getD 63 undef) = .slice (some ⟨A, 0, none⟩) 2 2 ∧ Bed.ok w1.heap.size w1 ⟨some ⟨A, 0, none⟩, [⟨p2, q2, r2⟩, ⟨p1, q1, r1⟩], 2⟩ := hdep ⟨3, .data⟩ (by simp) rfl _ rfl
              refine .inl ⟨rfl, fun K hK => ?_⟩
              obtain ⟨A, hv, hok⟩ := dq3
              exact step_calls rfl enter33 (vs := #[.slice (some ⟨A, 0, none⟩) 2 2]) (vals1 hv) ((concat_any ⟨some ⟨A, 0, none⟩, [⟨p2, q2, r2⟩, ⟨p1, q1, r1⟩], 2⟩ w1.heap.size w1 (Nat.le_refl _) hok (by simp [catL]; omega)).mono fun e w' hh => by
                obtain ⟨c, rfl, hc, hb⟩ := hh
                exact ⟨_, rfl, hK _ _ hb ⟨c, rfl, by rw [hc.out.1]; simp [catL], hc.out.2⟩⟩)
            | i9 + 5, hi9, _ => exact absurd hi9 (by omega)
          · intro a2 w9 hs hd hout hI hall
            obtain ⟨tmps, defers⟩ := a2
            have e_60 : (tmps.getD 60 undef) = .agg #[.int .u8 k2, .int .i64 ((i2 : Int) + 1)] := hall 0 _ (by decide) rfl
            have e_61 : (tmps.getD 61 undef) = .slice p2 q2.length r2 := hall 1 _ (by decide) rfl
            have e_62 : (tmps.getD 62 undef) = .slice p1 q1.length r1 := hall 2 _ (by decide) rfl
            have e_64 : ∃ c : Cel, (tmps.getD 64 undef) = c.v ∧ c.l = q2 ++ q1 ∧ c.ok w9.heap.size w9 := hall 4 _ (by decide) rfl
            obtain ⟨c9, e_64, hl9, hok9⟩ := e_64
            simp only at hs hd hout
            have ef := frameAt [some 60, some 61, some 62, some 63, some 64, some 65] _ tmps hs hout
            obtain ⟨sv15, hu⟩ : ∃ u : Nat → Value, u = fun s => tmps.getD s undef := ⟨_, rfl⟩
            have eu_60 : sv15 60 = .agg #[.int .u8 k2, .int .i64 ((i2 : Int) + 1)] := by rw [hu]; exact e_60
            have eu_61 : sv15 61 = .slice p2 q2.length r2 := by rw [hu]; exact e_61
            have eu_62 : sv15 62 = .slice p1 q1.length r1 := by rw [hu]; exact e_62
            have eu_64 : sv15 64 = c9.v := by rw [hu]; exact e_64
            rw [← hu] at ef
            have ef2 : tmps = #[Value.agg #[Value.slice fa fs.length fc, Value.slice ba bs.length bc], Value.agg #[Value.int IntKind.u8 k1, Value.int IntKind.i64 (i1 + 1)], Value.agg #[Value.int IntKind.u8 k2, Value.int IntKind.i64 (i2 + 1)], Value.pointer (some { block := w.heap.size, off := 0 }), Value.pointer (some { block := w.heap.size + 1, off := 0 }), Value.pointer (some { block := w.heap.size + 1 + 1, off := 0 }), Value.pointer (some { block := w.heap.size + 1 + 1 + 1, off := 0 }), Value.int IntKind.i64 0, Value.int IntKind.i64 0, Value.slice p2 q2.length r2, Value.slice p1 q1.length r1, Value.pointer (some { block := w6.heap.size, off := 0 }), Value.agg #[Value.slice fa fs.length fc, Value.slice ba bs.length bc], Value.int IntKind.i64 0, Value.int IntKind.i64 0, Value.bool false, undef, undef, Value.agg #[Value.int IntKind.u8 k1, Value.int IntKind.i64 (i1 + 1)], Value.bool true, Value.bool false, Value.bool false, Value.agg #[Value.int IntKind.u8 k2, Value.int IntKind.i64 (i2 + 1)], Value.bool true, Value.bool false, Value.bool false, Value.bool false, Value.pointer (some { block := w.heap.size + 1, off := 0 }), Value.int IntKind.u8 k1, Value.pointer (some { block := w.heap.size + 1 + 1, off := 0 }), Value.int IntKind.u8 k2, Value.bool false, Value.bool false, undef, Value.agg #[Value.slice fa fs.length fc, Value.slice ba bs.length bc], Value.agg #[Value.int IntKind.u8 k2, Value.int IntKind.i64 (i2 + 1)], Value.slice p2 q2.length r2, Value.agg #[Value.slice fa fs.length fc, Value.slice ba bs.length bc], Value.agg #[Value.int IntKind.u8 k1, Value.int IntKind.i64 (i1 + 1)], Value.slice p1 q1.length r1, Value.slice p1 q1.length r1, Value.int IntKind.i64 q1.length, Value.bool false, undef, Value.slice p2 q2.length r2, Value.int IntKind.i64 q2.length, Value.slice p1 q1.length r1, Value.int IntKind.i64 q1.length, Value.int IntKind.i64 (q2.length + q1.length), Value.bool false, undef, Value.pointer (some { block := w.heap.size + 1, off := 0 }), Value.int IntKind.u8 k1, Value.bool false, undef, undef, Value.agg #[Value.slice fa fs.length fc, Value.slice ba bs.length bc], tabV cs, Value.agg #[Value.int IntKind.u8 k1, Value.int IntKind.i64 (i1 + 1)], v8, (sv15 60), (sv15 61), (sv15 62), (sv15 63), (sv15 64), (sv15 65), undef] := ef
            subst hd
            rw [eu_60, eu_61, eu_62, eu_64] at ef2
            rw [ef2]
            clear ef ef2 hu hs hout hall e_60 eu_60 e_61 eu_61 e_62 eu_62 e_64 eu_64
            simp only [List.drop_succ_cons, List.drop_zero]
            have HL9 := Lib.hid hl9
            have hB9 : Below w.heap.size w w9 := hB8.trans (hI.mono hB8.size)
            have bD9 := bD8.below hI bD8.lt; have bN9 := bN8.below hI bN8.lt; have bM9 := bM8.below hI bM8.lt; have bR9 := bR8.below hI bR8.lt; have d09 := bD9.cell0; have d19 := bD9.cell1; have n09 := bN9.cell0; have n19 := bN9.cell1; have m09 := bM9.cell0; have m19 := bM9.cell1; have r09 := bR9.cell0; have r19 := bR9.cell1; have fR9 := bR9.frozen
            clear hl9
            obtain ⟨V9, hV9⟩ : ∃ V9, V9 = c9.v := ⟨_, rfl⟩
            rw [← hV9]
            go_wp2_with (first
              | (go_at_call 30; rw [hV9]; refine (put_any w6.heap.size (cs.set (k1 * 40 + i1) c8) k2 i2 c9 w9.heap.size w9 (Nat.le_refl _) hk2 hi2 (HT8.out.below hI HT8.out.lt) hok9).mono ?_; rintro e w10 ⟨⟨v10, rfl⟩, ⟨c10, hT10, hl10, hcap10, hok10⟩, hgr10⟩; have hB10 : Below w.heap.size w w10 := hB9.grown hgr10 hB9.size (fun k e => by cases e; exact hB6.size); have bD10 := bD9.kept hgr10 (by have := bD6.lt; simp; omega); have bN10 := bN9.kept hgr10 (by have := bN6.lt; simp; omega); have bM10 := bM9.kept hgr10 (by have := bM6.lt; simp; omega); have bR10 := bR9.kept hgr10 (by have := bR6.lt; simp; omega); have d010 := bD10.cell0; have d110 := bD10.cell1; have n010 := bN10.cell0; have n110 := bN10.cell1; have m010 := bM10.cell0; have m110 := bM10.cell1; have r010 := bR10.cell0; have r110 := bR10.cell1; have fR10 := bR10.frozen; have HT10 := Lib.hid hT10; have HL10 := Lib.hid hl10; have HF10 : Hid (Fine w10 ((cs.set (k1 * 40 + i1) c8).set (k2 * 40 + i2) c10)) := Lib.hid (((HF8.out.below hI).grown_tab (HT8.out.below hI HT8.out.lt) hgr10).set _ ⟨by rw [hcap10, hl10], hok10⟩); clear hT10 hl10 hcap10 hok10)
              | (go_at_call 31; refine (tbeds_any w6.heap.size ((cs.set (k1 * 40 + i1) c8).set (k2 * 40 + i2) c10) w10 HT10.out HF10.out).mono ?_; rintro e w11 ⟨⟨⟨ga, gs, gc⟩, ⟨ka, ks, kc⟩⟩, rfl, hbd, hb11⟩; simp only [Bds.v, Bed.v]; have hB11 : Below w.heap.size w w11 := hB10.trans (hb11.mono hB10.size); have bD11 := bD10.below hb11 bD10.lt; have bN11 := bN10.below hb11 bN10.lt; have bM11 := bM10.below hb11 bM10.lt; have bR11 := bR10.below hb11 bR10.lt; have d011 := bD11.cell0; have d111 := bD11.cell1; have n011 := bN11.cell0; have n111 := bN11.cell1; have m011 := bM11.cell0; have m111 := bM11.cell1; have r011 := bR11.cell0; have r111 := bR11.cell1; have fR11 := bR11.frozen; have HRD : Hid (Reads T9 ⟨⟨ga, gs, gc⟩, ⟨ka, ks, kc⟩⟩ ∧ Tight ⟨⟨ga, gs, gc⟩, ⟨ka, ks, kc⟩⟩) := Lib.hid (by have h9 := reads_of HT10.out.2 hbd.out.1; rw [List.map_set, List.map_set, hcs.out.2.1, HFL.out, HL8.out, HL10.out, HL9.out] at h9; rw [HT9.out, if_neg HK.out]; exact h9)))
            have hne9 : ∀ x : Option Addr, (∀ b o, x = some ⟨b, o, none⟩ → w10.heap.size ≤ b) → ∀ b o, x = some ⟨b, o, none⟩ → b ≠ w.heap.size + 1 + 1 + 1 := fun x h b o e => by
              have h1 := h b o e
              have h2 := bR10.lt
              omega
            have nF := hne9 ga hbd.out.2.2.1
            have nB := hne9 ka hbd.out.2.2.2
            have b9 := bR11.set0 (.slice ga gs.length gc)
            have b4 := b9.set1 (.slice ka ks.length kc)
            have b40 := b4.cell0
            have b41 := b4.cell1
            have okF := ((hbd.out.2.1.1.set_box bR11 (isSl_mk _ _ _) (isSl_mk _ _ _) nF 0 (.slice ga gs.length gc)).set_box b9 (isSl_mk _ _ _) (isSl_mk _ _ _) nF 1 (.slice ka ks.length kc))
            have okB := ((hbd.out.2.1.2.set_box bR11 (isSl_mk _ _ _) (isSl_mk _ _ _) nB 0 (.slice ga gs.length gc)).set_box b9 (isSl_mk _ _ _) (isSl_mk _ _ _) nB 1 (.slice ka ks.length kc))
            refine bodyPost_ret (v := .tuple #[.agg #[.slice ga gs.length gc, .slice ka ks.length kc], .int .i64 0]) (by simp [results, Try.results19, go_sem, b40, b41]) rfl ⟨_, rfl, Lib.hid ⟨fun h => absurd rfl h, fun _ => ⟨_, rfl, HRD.out.1, HRD.out.2, ⟨okF.mono (by simp), okB.mono (by simp)⟩, fun b o e => Nat.le_trans hB10.size (hbd.out.2.2.1 b o e), fun b o e => Nat.le_trans hB10.size (hbd.out.2.2.2 b o e)⟩⟩, ?_⟩
            exact (hB11.setCell (p := ⟨w.heap.size + 1 + 1 + 1, 0, none⟩) (by simp; omega) _).setCell (p := ⟨w.heap.size + 1 + 1 + 1, 1, none⟩) (by simp; omega) _

theorem join_any (d : Bds) (T : List (List Nm)) (b1 a1 b2 a2 : Int) (h1 : 0 ≤ b1) (h2 : 0 ≤ b2) (B : Nat) (w : World) (hB : B ≤ w.heap.size) (hd : d.ok B w) (hr : Reads T d) (hT : TOk T) :
    Calls Try.prog 19 #[d.v, .agg #[.int .u8 b1, .int .i64 a1], .agg #[.int .u8 b2, .int .i64 a2]] w (Changed (joinT T b1 a1 b2 a2) (joinErr T b1 a1 b2 a2) w) := by
  have hn : isN b1 a1 = true ∨ isN b1 a1 = false := by cases isN b1 a1 <;> simp
  have hm : isN b2 a2 = true ∨ isN b2 a2 = false := by cases isN b2 a2 <;> simp
  rcases hn with hn | hn
  · rcases hm with hm | hm
    · by_cases he : b2 = b1
      · exact join_c d T b1 a1 b2 a2 B w hB hd hr hT hn hm he
      · have t1 := isN_true hn
        have t2 := isN_true hm
        exact join_d d T b1 a1 b2 a2 B w hB hd hr hT b1.toNat (a1 - 1).toNat b2.toNat (a2 - 1).toNat (by omega) (by omega) (by omega) (by omega) (by omega) (by omega) (by omega) (by omega) (by omega)
    · exact join_b d T b1 a1 b2 a2 B w hB hd hr hT hn hm
  · exact join_a d T b1 a1 b2 a2 B w hB hd hr hT hn
end Go.Proofs.Ytjjnhmbgffdenaa
