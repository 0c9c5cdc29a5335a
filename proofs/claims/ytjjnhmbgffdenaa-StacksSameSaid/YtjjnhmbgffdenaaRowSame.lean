/-
  Proved: the law StacksSame returns true for every two lists of pairs of bytes (the beds) and every two bytes (Same tells whether all needles hold the same, however many empty ones stand behind the last one), and leaves its arguments as they were. No conditions.
-/
import Derived.Test.YtjjnhmbgffdenaaSaL
import Derived.Test.YtjjnhmbgffdenaaOpenS
namespace Go.Proofs.Ytjjnhmbgffdenaa
open Go.RowKit Go.Sort
theorem num_succ (k : Nat) (h : (k : Int) < 5) : wrap64 ((k : Int) + 1) = ((k + 1 : Nat) : Int) := by
  rw [IntWalk.wrap64_in _ (by omega)]; rfl
def psiSa11 (N : Nat) (PA : Nat) (PB : Nat) (j : Nat) (xa : Option Addr) (xl : List Nm) (xc : Nat) (za : Option Addr) (zn : Nat) (zc : Nat) : Nat → Array Bool → Value → World → Prop
  | 0, _, v9, _ => v9 = .int .i64 j
  | 1, _, v9, _ => v9 = .pointer (some ⟨PA, j, none⟩)
  | 2, _, v9, _ => v9 = .slice xa xl.length xc
  | 3, _, v9, _ => v9 = .int .i64 xl.length
  | 4, L9, v9, w9 => L9.getD 8 false = false → ∃ g, v9 = .slice (some ⟨g, 0, none⟩) 0 xl.length ∧ World.ownsRow w9 N 28 2 v9 0 (cellsOf [])
  | 5, _, v9, _ => v9 = .int .i64 j
  | 6, _, v9, _ => v9 = .pointer (some ⟨PA, j, none⟩)
  | 7, _, v9, _ => v9 = .slice xa xl.length xc
  | 8, _, v9, w9 => ∃ c9 : Cel, v9 = c9.v ∧ c9.l = xl ∧ c9.cap = c9.l.length ∧ c9.ok w9.heap.size w9
  | 9, _, v9, _ => v9 = .int .i64 j
  | 10, _, v9, _ => v9 = .pointer (some ⟨PB, j, none⟩)
  | 11, _, v9, _ => v9 = .slice za zn zc
  | _, _, _, _ => True
theorem psiSa11_stab (N : Nat) (PA : Nat) (PB : Nat) (j : Nat) (xa : Option Addr) (xl : List Nm) (xc : Nat) (za : Option Addr) (zn : Nat) (zc : Nat) (N9 : Nat) (i9 : Nat) (L9 : Array Bool) (hL : i9 < L9.size) (j9 : Nat) (v9 : Value) (w9 w9' : World) (hne : j9 ≠ i9) (h : psiSa11 N PA PB j xa xl xc za zn zc j9 L9 v9 w9) (hb : w9' = w9 ∨ RAp N9 8 i9 w9 w9') : psiSa11 N PA PB j xa xl xc za zn zc j9 (L9.setIfInBounds i9 true) v9 w9' := by
  have hB : i9 ≠ 8 → Below w9.heap.size w9 w9' := fun hi => by
    rcases hb with rfl | hb
    · exact Below.refl _ _
    · unfold RAp at hb; rw [if_neg hi] at hb; exact hb
  have hV : i9 = 8 → (L9.setIfInBounds i9 true).getD 8 false = true := fun hi => by subst hi; simp [hL]
  have hF : i9 ≠ 8 → (L9.setIfInBounds i9 true).getD 8 false = L9.getD 8 false := fun hi => Go.getD_set_ne false hi
  match j9, h, hne with
  | 0, h, _ => exact h
  | 1, h, _ => exact h
  | 2, h, _ => exact h
  | 3, h, _ => exact h
  | 4, h, _ =>
    intro hL2
    by_cases hi : i9 = 8
    · rw [hV hi] at hL2; cases hL2
    · have hb := hB hi
      rw [hF hi] at hL2
      have h := h hL2
      obtain ⟨g, h1, h2⟩ := h; exact ⟨g, h1, below_owns h2 hb⟩
  | 5, h, _ => exact h
  | 6, h, _ => exact h
  | 7, h, _ => exact h
  | 8, h, hne =>
    have hb := hB (fun e => hne e.symm)
    obtain ⟨c9, h1, h2, h3, h4⟩ := h; exact ⟨c9, h1, h2, h3, (h4.below hb).mono hb.size⟩
  | 9, h, _ => exact h
  | 10, h, _ => exact h
  | 11, h, _ => exact h
  | j9 + 12, _, _ => exact trivial
def psiSa13 (N : Nat) (PA : Nat) (PB : Nat) (cs1 : List Cel) (cs3 : List Cel) (Ta : List (List Nm)) (Tb : List (List Nm)) : Nat → Value → World → Prop
  | 0, v9, _ => v9 = tabV cs1
  | 1, v9, w9 => ∃ bd : Bds, v9 = bd.v ∧ Reads Ta bd ∧ Tight bd ∧ bd.ok w9.heap.size w9 ∧ TyB w9 bd.f ∧ TyB w9 bd.b
  | 2, v9, _ => v9 = tabV cs3
  | 3, v9, w9 => ∃ bd : Bds, v9 = bd.v ∧ Reads Tb bd ∧ Tight bd ∧ bd.ok w9.heap.size w9 ∧ TyB w9 bd.f ∧ TyB w9 bd.b
  | 4, v9, w9 => ∃ b, v9 = .pointer (some ⟨b, 0, none⟩) ∧ N ≤ b ∧ Boxed2 w9 b 35 (.slice none 0 0) (.slice none 0 0)
  | 5, v9, w9 => ∃ b, v9 = .pointer (some ⟨b, 0, none⟩) ∧ N ≤ b ∧ Boxed2 w9 b 35 (.slice none 0 0) (.slice none 0 0)
  | _, _, _ => True
theorem psiSa13_stab (N : Nat) (PA : Nat) (PB : Nat) (cs1 : List Cel) (cs3 : List Cel) (Ta : List (List Nm)) (Tb : List (List Nm)) (i9 : Nat) (v9 : Value) (w9 w9' : World) (h : psiSa13 N PA PB cs1 cs3 Ta Tb i9 v9 w9) (_hb : Below w9.heap.size w9 w9') : psiSa13 N PA PB cs1 cs3 Ta Tb i9 v9 w9' := by
  match i9, h with
  | 0, h => exact h
  | 1, h => exact (by obtain ⟨bd, h1, h2, h3, h4, h5, h6⟩ := h; exact ⟨bd, h1, h2, h3, (h4.below _hb).mono _hb.size, h5.below _hb, h6.below _hb⟩)
  | 2, h => exact h
  | 3, h => exact (by obtain ⟨bd, h1, h2, h3, h4, h5, h6⟩ := h; exact ⟨bd, h1, h2, h3, (h4.below _hb).mono _hb.size, h5.below _hb, h6.below _hb⟩)
  | 4, h => exact (by obtain ⟨b, h1, h2, h3⟩ := h; exact ⟨b, h1, h2, h3.below _hb h3.lt⟩)
  | 5, h => exact (by obtain ⟨b, h1, h2, h3⟩ := h; exact ⟨b, h1, h2, h3.below _hb h3.lt⟩)
  | i9 + 6, _ => exact trivial
set_option maxRecDepth 100000 in
set_option maxHeartbeats 8000000 in
theorem same_law (ao : Option Addr) (xs : List (Nat × Nat)) (cap : Nat) (ao2 : Option Addr) (ys : List (Nat × Nat)) (cap2 : Nat) (m0 m1 : Int) (hm0 : 0 ≤ m0 ∧ m0 ≤ 255) (hm1 : 0 ≤ m1 ∧ m1 ≤ 255) (w : World) (h : LieP w ao xs) (h2 : LieP w ao2 ys) :
    Calls Try.prog 6 #[.slice ao xs.length cap, .slice ao2 ys.length cap2, .agg #[.int .u8 m0, .int .u8 m1]] w fun e w' => e = .returned (.bool true) ∧ Below w.heap.size w w' := by
  have HL1 := Lib.hid h
  have HL2 := Lib.hid h2
  clear h h2
  obtain ⟨q0, rfl⟩ : ∃ q : Nat, m0 = q := ⟨m0.toNat, by omega⟩
  obtain ⟨q1, rfl⟩ : ∃ q : Nat, m1 = q := ⟨m1.toNat, by omega⟩
  have hq0 : q0 ≤ 255 := by omega
  have hq1 : q1 ≤ 255 := by omega
  clear hm0 hm1
  obtain ⟨T1, hT1⟩ : ∃ T1, T1 = ofM xs := ⟨_, rfl⟩
  obtain ⟨T2, hT2⟩ : ∃ T2, T2 = ofM ys := ⟨_, rfl⟩
  have HTO1 : Hid (TOk T1) := Lib.hid (by rw [hT1]; exact ofM_ok _)
  have HTO2 : Hid (TOk T2) := Lib.hid (by rw [hT2]; exact ofM_ok _)
  have HT1 := Lib.hid hT1
  have HT2 := Lib.hid hT2
  clear hT1 hT2
  obtain ⟨xn, hN⟩ : ∃ N, N = xs.length := ⟨_, rfl⟩
  obtain ⟨yn, hM⟩ : ∃ N, N = ys.length := ⟨_, rfl⟩
  rw [← hN, ← hM]
  have HN := Lib.hid hN
  have HM := Lib.hid hM
  clear hN hM
  go_enter Try.func6, Try.ntmps6
  go_upto_region 1 with fail
  obtain ⟨W0, hW0⟩ : ∃ W, w.alloc (.cells #[.int .u8 q0, .int .u8 q1] 52) = W := ⟨_, rfl⟩
  have hB0 : RowKit.Below w.heap.size w W0 := by rw [← hW0]; exact below1 _ _
  have HX0 : Hid (Boxed2 W0 w.heap.size 52 (.int .u8 q0) (.int .u8 q1)) := Lib.hid (by rw [← hW0]; exact Boxed2.new w 52 _ _)
  have HOF1 : Hid (Calls Try.prog 8 #[.slice ao xn cap] W0 (NewFul T1 W0)) := Lib.hid (by
    rw [HN.out, HT1.out]; exact of_any ao xs cap W0 (HL1.out.below hB0))
  have HOF2 : Hid (∀ W, RowKit.Below w.heap.size w W → Calls Try.prog 8 #[.slice ao2 yn cap2] W (NewFul T2 W)) := Lib.hid (fun W h => by
    rw [HM.out, HT2.out]; exact of_any ao2 ys cap2 W (HL2.out.below h))
  rw [hW0]
  clear hW0 HT1 HT2 HN HM HL1 HL2
  have hz := zero31
  have tk1 : True := trivial
  have tk2 : True := trivial
  have tk3 : True := trivial
  have tk4 : True := trivial
  go_upto_region 2 with (first
    | (go_at_call 8; clear tk1; refine HOF1.out.mono ?_; rintro e wa ⟨cs1, rfl, hc1, hba⟩; clear HOF1; have hBa : RowKit.Below w.heap.size w wa := hB0.trans (hba.mono hB0.size); have HXa := Lib.hid (HX0.out.below hba HX0.out.lt); clear hB0 HX0 hba)
    | (go_at_call 8; clear tk2; refine (HOF2.out wa hBa).mono ?_; rintro e wb ⟨cs2, rfl, hc2, hbb⟩; clear HOF2; have hBb : RowKit.Below w.heap.size w wb := hBa.trans (hbb.mono hBa.size); have HXb := Lib.hid (HXa.out.below hbb HXa.out.lt); have HO1b : Hid (∀ c ∈ cs1, c.ok wb.heap.size wb) := Lib.hid (fun c hc => ((hc1.out.2.2 c hc).below hbb).mono hbb.size); have HO2b : Hid (∀ c ∈ cs2, c.ok wb.heap.size wb) := Lib.hid hc2.out.2.2; clear hBa HXa hbb)
    | (clear tk3; refine wpList_store_tab rfl rfl (.inl rfl) _ _ rfl rfl rfl ((tab_new wb 31).alloc _) hc1.out.1 ?_; intro wc hsc; have hbc : RowKit.Below wb.heap.size wb wc := (below2 wb (.cells zA 31) (.cells zA 31)).grown hsc.grown (by simp; omega) (fun r e => by cases e; exact Nat.le_refl _); have HTN : Tab wc (wb.heap.size + 1) 31 z80 := (by have := (tab_new (wb.alloc (.cells zA 31)) 31).kept hsc.grown (by simp); simpa using this); have HTA := Lib.hid hsc.tab; clear hsc)
    | (clear tk4; refine wpList_store_tab rfl rfl (.inl rfl) _ _ rfl rfl rfl HTN hc2.out.1 ?_; intro wd hsd; clear hz; have hbd : RowKit.Below wb.heap.size wb wd := hbc.grown hsd.grown (by have := hbc.size; omega) (fun r e => by cases e; omega); have HTAd := Lib.hid (HTA.out.kept hsd.grown (by simp)); have HTBd := Lib.hid hsd.tab; clear hsd hbc HTN HTA))
  have HX := Lib.hid (HXb.out.below hbd HXb.out.lt)
  have hB : RowKit.Below w.heap.size w wd := hBb.trans (hbd.mono hBb.size)
  have HO1 : Hid (∀ c ∈ cs1, c.ok wb.heap.size wd) := Lib.hid (fun c hc => (HO1b.out c hc).below hbd)
  have HO2 : Hid (∀ c ∈ cs2, c.ok wb.heap.size wd) := Lib.hid (fun c hc => (HO2b.out c hc).below hbd)
  have HC1 : Hid (cs1.length = 80 ∧ cs1.map (fun c => c.l) = T1) := Lib.hid ⟨hc1.out.1, hc1.out.2.1⟩
  have HC2 : Hid (cs2.length = 80 ∧ cs2.map (fun c => c.l) = T2) := Lib.hid ⟨hc2.out.1, hc2.out.2.1⟩
  have HSZ : Hid (w.heap.size < wb.heap.size ∧ wb.heap.size + 1 < wd.heap.size) := Lib.hid ⟨HXb.out.lt, HTBd.out.lt⟩
  clear hc1 hc2 HXb hBb hbd HO1b HO2b
  obtain ⟨r2, hr2⟩ : ∃ r : Nat, r = q1 % 2 := ⟨_, rfl⟩
  obtain ⟨r4, hr4⟩ : ∃ r : Nat, r = q1 % 4 := ⟨_, rfl⟩
  obtain ⟨d4, hd4⟩ : ∃ r : Nat, r = q1 / 4 := ⟨_, rfl⟩
  obtain ⟨i0, hi0⟩ : ∃ r : Nat, r = d4 % 80 := ⟨_, rfl⟩
  have e2 : Int.tmod (q1 : Int) 2 = (r2 : Int) := by rw [hr2]; rfl
  have e4 : Int.tmod (q1 : Int) 4 = (r4 : Int) := by rw [hr4]; rfl
  have ed : Int.tdiv (q1 : Int) 4 = (d4 : Int) := by rw [hd4]; rfl
  have ei : Int.tmod (d4 : Int) 80 = (i0 : Int) := by rw [hi0]; rfl
  have ew : IntKind.i64.wrap (d4 : Int) = (d4 : Int) := IntWalk.i64_in _ (by omega)
  have eu : IntKind.u8.wrap (d4 : Int) = (d4 : Int) := IntWalk.u8_in _ (by omega)
  have hi80 : i0 < 80 := by omega
  clear hr2 hr4 hd4 hi0
  have x0 := HX.out.cell0
  have x1 := HX.out.cell1
  go_upto_if 22 with fail
  go_cut [9] from 19 (fun _ wx => ∃ cs3 : List Cel, Hid (cs3.length = 80 ∧ (∀ c ∈ cs3, c.ok wx.heap.size wx) ∧ Tab wx (wb.heap.size + 1) 31 cs3 ∧ (∀ c ∈ cs3, c.l.length ≤ 5)) ∧ RowKit.Below (wb.heap.size + 1) wd wx)
  case first =>
    by_cases h21 : r2 = 1
    · have g2 : ((r2 : Int) == 1) = true := by simp; omega
      have HL5 : Hid (∀ c ∈ cs1, c.l.length ≤ 4) := Lib.hid (fun c hc => ((HTO1.out.st c.l (by rw [← HC1.out.2]; exact List.mem_map.2 ⟨c, hc, rfl⟩)).1))
      have tk5 : True := trivial
      have tk6 : True := trivial
      go_upto_region 4 with (first
        | (clear tk5; refine wpList_load_tab rfl (.inl rfl) _ rfl rfl HTAd.out ?_)
        | (clear tk6; refine wpList_store_tab rfl rfl (.inl rfl) _ _ rfl rfl rfl HTBd.out HC1.out.1 ?_; intro we hse; have hde : RowKit.Below (wb.heap.size + 1) wd we := (Below.refl _ _).grown hse.grown (by have := HSZ.out; omega) (fun r e => by cases e; exact Nat.le_refl _); have HTBe := Lib.hid hse.tab; have HXe := Lib.hid (HX.out.below hde (by have := HSZ.out; omega)); have HO1e : Hid (∀ c ∈ cs1, c.ok we.heap.size we) := Lib.hid (fun c hc => (((HO1.out c hc).mono (show wb.heap.size ≤ wb.heap.size + 1 by omega)).below hde).mono (by have := HSZ.out; have := hde.size; omega)); clear x0 x1 hse; have x0 := HXe.out.cell0; have x1 := HXe.out.cell1))
      by_cases h43 : r4 = 3
      · have g4 : ((r4 : Int) == 3) = true := by simp; omega
        obtain ⟨⟨ya, yl, yc⟩, hy⟩ : ∃ c : Cel, cs1[i0]? = some c := ⟨_, List.getElem?_eq_getElem (by rw [HC1.out.1]; exact hi80)⟩
        have ty := HTBe.out.cell hi80
        rw [(List.getElem?_eq_some_iff.1 hy).2] at ty
        simp only [Cel.v] at ty
        have HY := Lib.hid hy
        have HYO : Hid (Cel.ok we.heap.size we ⟨ya, yl, yc⟩) := Lib.hid (HO1e.out _ (List.mem_of_getElem? hy))
        have HYL : Hid (yl.length ≤ 4) := Lib.hid (HL5.out _ (List.mem_of_getElem? hy))
        clear hy
        have hps : wb.heap.size + 1 < we.heap.size := HTBe.out.lt
        have tya := ((HTBe.out.alloc (.cells #[] 28)).cell hi80)
        rw [(List.getElem?_eq_some_iff.1 HY.out).2] at tya
        simp only [Cel.v] at tya
        have tk7 : True := trivial
        have tk8 : True := trivial
        go_upto_region 6 with fail
        iterate 16 go_step
        clear tk7; refine wpList_append0_own (N := we.heap.size) rfl rfl rfl (Nat.le_refl _) (heap_alloc_new _ _) ⟨ya, yl, yc⟩ rfl ((HYO.out.below (below1 we (.cells #[] 28))).mono (below1 we (.cells #[] 28)).size) ?_; intro c8 w8 hl8 hok8 hown8 hb78; clear ty tya
        iterate 6 go_step
        clear tk8; refine wpList_append_cel (n := c8.l.length) (v := c8.v) (xs := c8.l) (B := we.heap.size) (B' := (w8.alloc (.cells #[.int .u8 6, .int .i64 9] 28)).heap.size) rfl rfl rfl (hown8.alloc _) ⟨some ⟨w8.heap.size, 0, none⟩, [⟨6, 9⟩], 1⟩ rfl (cel1_ok w8 ⟨6, 9⟩) (by have h9 : c8.l.length = yl.length := congrArg List.length hl8; have := HYL.out; omega) (by have h9 := hb78.size; rw [World.size_alloc] at h9; rw [World.size_alloc]; omega) ?_; intro v9 w9 hown9 hgr9
        obtain ⟨⟨ca, cl, cc⟩, rfl, hl9, hcp9, hok9⟩ := ok_of_owns hown9 (by have h9 : c8.l.length = yl.length := congrArg List.length hl8; have := HYL.out; rw [List.length_append]; simp only [List.length_cons, List.length_nil]; omega)
        simp only [Cel.v]
        have h58 : RowKit.Below we.heap.size we w8 := (below1 we (.cells #[] 28)).trans (hb78.mono (by simp))
        have hOB : ∀ r, c8.v.ownBlock = some r → we.heap.size ≤ r := fun r e => (hown8.lt r e).1
        have h59 : RowKit.Below we.heap.size we w9 := (h58.alloc h58.size (.cells #[.int .u8 6, .int .i64 9] 28)).grown hgr9 (by have := h58.size; simp; omega) hOB
        have HT9 := Lib.hid (HTBe.out.below h59 hps)
        obtain ⟨ra, rn, rc, hrc⟩ := HT9.out.cellE hi80
        have hrf := HT9.out.frozen
        have HL9 : Hid (cl = yl ++ [⟨6, 9⟩]) := Lib.hid (by have e9 : c8.l = yl := hl8; rw [e9] at hl9; exact hl9)
        have HOK9 := Lib.hid hok9
        have HCP9 := Lib.hid hcp9
        clear hl9 hok9 hown9 hown8 hgr9 hcp9 hl8 hb78
        go_wp2_with fail
        go_meet
        refine ⟨cs1.set i0 ⟨ca, cl, cc⟩, Lib.hid ⟨by simp [HC1.out.1], fun c hc => ?_, HT9.out.set i0 ⟨ca, cl, cc⟩, fun c hc => ?_⟩, ?_⟩
        · rw [World.size_setCell]
          rcases List.mem_or_eq_of_mem_set hc with hc | rfl
          · exact (((HO1e.out c hc).below h59).mono h59.size).set_tab HT9.out i0 _
          · exact HOK9.out.set_tab HT9.out i0 _
        · rcases List.mem_or_eq_of_mem_set hc with hc | rfl
          · exact Nat.le_trans (HL5.out c hc) (by decide)
          · have := HYL.out; simp only [HL9.out, List.length_append, List.length_cons, List.length_nil]; omega
        · exact (hde.trans (h59.mono (by omega))).setCell (p := ⟨wb.heap.size + 1, i0, none⟩) (Nat.le_refl _) _
      · have g4 : ((r4 : Int) == 3) = false := by simp; omega
        go_wp2_with fail
        go_meet
        exact ⟨cs1, Lib.hid ⟨HC1.out.1, HO1e.out, HTBe.out, fun c hc => Nat.le_trans (HL5.out c hc) (by decide)⟩, hde⟩
    · have g2 : ((r2 : Int) == 1) = false := by simp; omega
      have HL5 : Hid (∀ c ∈ cs2, c.l.length ≤ 4) := Lib.hid (fun c hc => ((HTO2.out.st c.l (by rw [← HC2.out.2]; exact List.mem_map.2 ⟨c, hc, rfl⟩)).1))
      go_wp2_with fail
      go_meet
      exact ⟨cs2, Lib.hid ⟨HC2.out.1, fun c hc => (HO2.out c hc).mono (by have := HSZ.out; omega), HTBd.out, fun c hc => Nat.le_trans (HL5.out c hc) (by decide)⟩, Below.refl _ _⟩
  case rest =>
    obtain ⟨cs3, hc3, hBw⟩ := hcut
    clear x0 x1 e2 e4 ed ei ew eu
    have HTA := Lib.hid (HTAd.out.below hBw (Nat.lt_succ_self _))
    have HX2 := Lib.hid (HX.out.below hBw (by have := HSZ.out; omega))
    have HOA : Hid (∀ c ∈ cs1, c.ok wc.heap.size wc) := Lib.hid (fun c hc => (((HO1.out c hc).mono (show wb.heap.size ≤ wb.heap.size + 1 by omega)).below hBw).mono (by have := HSZ.out; have := hBw.size; omega))
    have HOB : Hid (∀ c ∈ cs2, c.ok wc.heap.size wc) := Lib.hid (fun c hc => (((HO2.out c hc).mono (show wb.heap.size ≤ wb.heap.size + 1 by omega)).below hBw).mono (by have := HSZ.out; have := hBw.size; omega))
    have hBc : RowKit.Below w.heap.size w wc := hB.trans (hBw.mono (by have := HSZ.out; have := hB.size; omega))
    have HSZc : Hid (w.heap.size < wb.heap.size ∧ wb.heap.size + 1 < wc.heap.size) := Lib.hid ⟨HSZ.out.1, Nat.lt_of_lt_of_le HSZ.out.2 hBw.size⟩
    obtain ⟨T3, hT3⟩ : ∃ T, T = cs3.map (fun c => c.l) := ⟨_, rfl⟩
    have HT3 := Lib.hid hT3
    clear hT3 HTAd HTBd HX HO1 HO2 HSZ hB hBw hi80
    go_wp2_with fail
    go_loopg [10, 11] 81 (fun g e i wr => ∃ (k : Nat) (b : Bool), g = 81 - k ∧ k ≤ 80 ∧ e = .bool b ∧ Hid (b = decide (∀ i < k, T1.getD i [] = T3.getD i [])) ∧ i = .int .i64 k ∧ RowKit.Below wc.heap.size wc wr)
    case atStart => exact ⟨0, true, by omega, by omega, rfl, Lib.hid (decide_eq_true fun i hi => absurd hi (by omega)).symm, rfl, Below.refl _ _⟩
    case round =>
      obtain ⟨j, eb, hg, hj, rfl, HEB, rfl, hBr⟩ := hrel
      have HM := Lib.hid hg
      clear hg
      by_cases hlt : j < 80
      · have gj : (j : Int) < 80 := by omega
        obtain ⟨⟨xa, xl, xc⟩, hx⟩ : ∃ c : Cel, cs1[j]? = some c := ⟨_, List.getElem?_eq_getElem (by rw [HC1.out.1]; exact hlt)⟩
        obtain ⟨⟨za, zl, zc⟩, hz⟩ : ∃ c : Cel, cs3[j]? = some c := ⟨_, List.getElem?_eq_getElem (by rw [hc3.out.1]; exact hlt)⟩
        have HE1 : Hid (T1.getD j [] = xl) := Lib.hid (by rw [← HC1.out.2, List.getD_eq_getElem?_getD, List.getElem?_map, hx]; rfl)
        have HE3 : Hid (T3.getD j [] = zl) := Lib.hid (by rw [HT3.out, List.getD_eq_getElem?_getD, List.getElem?_map, hz]; rfl)
        have HTX : Hid (∀ {W : World}, RowKit.Below wr.heap.size wr W → W.cell? ⟨wb.heap.size, j, none⟩ = some (.slice xa xl.length xc)) := Lib.hid fun h => by
          have := (((HTA.out.below hBr (by have := HSZc.out; omega)).below h (by have := HSZc.out; have := hBr.size; omega))).cell hlt
          rw [(List.getElem?_eq_some_iff.1 hx).2] at this
          exact this
        have HTZ : Hid (∀ {W : World}, RowKit.Below wr.heap.size wr W → W.cell? ⟨wb.heap.size + 1, j, none⟩ = some (.slice za zl.length zc)) := Lib.hid fun h => by
          have := (((hc3.out.2.2.1.below hBr (by have := HSZc.out; omega)).below h (by have := HSZc.out; have := hBr.size; omega))).cell hlt
          rw [(List.getElem?_eq_some_iff.1 hz).2] at this
          exact this
        have HXO : Hid (∀ {W : World}, RowKit.Below wr.heap.size wr W → Cel.ok wr.heap.size W ⟨xa, xl, xc⟩) := Lib.hid fun h => (((HOA.out _ (List.mem_of_getElem? hx)).below hBr).mono hBr.size).below h
        have HZO : Hid (∀ {W : World}, RowKit.Below wr.heap.size wr W → Cel.ok wr.heap.size W ⟨za, zl, zc⟩) := Lib.hid fun h => (((hc3.out.2.1 _ (List.mem_of_getElem? hz)).below hBr).mono hBr.size).below h
        have HX4 : Hid (xl.length ≤ 4) := Lib.hid ((HTO1.out.st xl (by rw [← HC1.out.2]; exact List.mem_map.2 ⟨_, List.mem_of_getElem? hx, rfl⟩)).1)
        have HLT := Lib.hid hlt
        clear hx hz
        go_wp2_with fail
        refine rgT3 12 [some 47, some 48, some 49, some 50, some 51, some 52, some 53, some 54, some 55, some 56, some 57, some 58, some 59, some 60] (psiSa11 wr.heap.size wb.heap.size (wb.heap.size + 1) j xa xl xc za zl.length zc) (fun w' => RowKit.Below wr.heap.size wr w') (RAp wr.heap.size 8) (by kernel_rfl) (by kernel_rfl) (by kernel_rfl) (by kernel_rfl) (fun i9 _ _ _ L9 hL9 _ j9 v9 u9 u9' hne _ h hb => psiSa11_stab wr.heap.size wb.heap.size (wb.heap.size + 1) j xa xl xc za zl.length zc wr.heap.size i9 L9 hL9 j9 v9 u9 u9' hne h hb) (fun i9 u9 u9' h hb => RAp.keep hb h (Nat.le_trans (Nat.le_refl _) h.size)) (fun i9 o9 hi9 ho9 L9 hL9 hLi9 hcl9 aq9 w1 hs hout hI hdep => ?_) ?_ ((Below.refl _ _).drew)
        · skip
          match i9, hi9, ho9 with
          | 0, _, ho9 =>
            obtain rfl := Option.some.inj ho9
            refine .inl ⟨rfl, fun K hK => ?_⟩
            exact st_move rfl ((hout 11 rfl).trans rfl) (hK _ _ (show RAp wr.heap.size 8 0 w1 w1 from Below.refl _ _) rfl)
          | 1, _, ho9 =>
            obtain rfl := Option.some.inj ho9
            have dq0 : (aq9.tmps.getD 47 undef) = .int .i64 j := hdep ⟨0, .data⟩ (by simp) rfl _ rfl
            refine .inl ⟨rfl, fun K hK => ?_⟩
            exact st_idx31 (k := j) rfl ((hout 7 rfl).trans rfl) dq0 (by omega) (hK _ _ (show RAp wr.heap.size 8 1 w1 w1 from Below.refl _ _) rfl)
          | 2, _, ho9 =>
            obtain rfl := Option.some.inj ho9
            have dq1 : (aq9.tmps.getD 48 undef) = .pointer (some ⟨wb.heap.size, j, none⟩) := hdep ⟨1, .data⟩ (by simp) rfl _ rfl
            refine .inl ⟨rfl, fun K hK => ?_⟩
            exact ld29 rfl dq1 (HTX.out hI) (hK _ _ (show RAp wr.heap.size 8 2 w1 w1 from Below.refl _ _) rfl)
          | 3, _, ho9 =>
            obtain rfl := Option.some.inj ho9
            have dq2 : (aq9.tmps.getD 49 undef) = .slice xa xl.length xc := hdep ⟨2, .data⟩ (by simp) rfl _ rfl
            refine .inl ⟨rfl, fun K hK => ?_⟩
            exact len29 rfl dq2 (hK _ _ (show RAp wr.heap.size 8 3 w1 w1 from Below.refl _ _) rfl)
          | 4, _, ho9 =>
            obtain rfl := Option.some.inj ho9
            have dq3 : (aq9.tmps.getD 50 undef) = .int .i64 xl.length := hdep ⟨3, .data⟩ (by simp) rfl _ rfl
            refine .inl ⟨rfl, fun K hK => ?_⟩
            exact st_mk0 rfl dq3 (by have := HX4.out; omega) (hK _ _ (show RAp wr.heap.size 8 4 w1 _ from below1 _ _) (fun _ => ⟨_, rfl, ⟨by simp [cellsOf], .inr ⟨w1.heap.size, xl.length, rowNew xl.length, rfl, hI.size, heap_alloc_new _ _, Nat.zero_le _, by have := HX4.out; unfold maxLen; omega, rowNew_size _, by simp [cellsOf]⟩⟩⟩))
          | 5, _, ho9 =>
            obtain rfl := Option.some.inj ho9
            refine .inl ⟨rfl, fun K hK => ?_⟩
            exact st_move rfl ((hout 11 rfl).trans rfl) (hK _ _ (show RAp wr.heap.size 8 5 w1 w1 from Below.refl _ _) rfl)
          | 6, _, ho9 =>
            obtain rfl := Option.some.inj ho9
            have dq5 : (aq9.tmps.getD 52 undef) = .int .i64 j := hdep ⟨5, .data⟩ (by simp) rfl _ rfl
            refine .inl ⟨rfl, fun K hK => ?_⟩
            exact st_idx31 (k := j) rfl ((hout 7 rfl).trans rfl) dq5 (by omega) (hK _ _ (show RAp wr.heap.size 8 6 w1 w1 from Below.refl _ _) rfl)
          | 7, _, ho9 =>
            obtain rfl := Option.some.inj ho9
            have dq6 : (aq9.tmps.getD 53 undef) = .pointer (some ⟨wb.heap.size, j, none⟩) := hdep ⟨6, .data⟩ (by simp) rfl _ rfl
            refine .inl ⟨rfl, fun K hK => ?_⟩
            exact ld29 rfl dq6 (HTX.out hI) (hK _ _ (show RAp wr.heap.size 8 7 w1 w1 from Below.refl _ _) rfl)
          | 8, _, ho9 =>
            obtain rfl := Option.some.inj ho9
            have dq4 : L9.getD 8 false = false → ∃ g, (aq9.tmps.getD 51 undef) = .slice (some ⟨g, 0, none⟩) 0 xl.length ∧ World.ownsRow w1 wr.heap.size 28 2 (aq9.tmps.getD 51 undef) 0 (cellsOf []) := hdep ⟨4, .data⟩ (by simp) rfl _ rfl
            have dq7 : (aq9.tmps.getD 54 undef) = .slice xa xl.length xc := hdep ⟨7, .data⟩ (by simp) rfl _ rfl
            refine .inl ⟨rfl, fun K hK => ?_⟩
            obtain ⟨g9, hv9, ho5⟩ := dq4 hLi9
            rw [hv9] at ho5
            exact step_append_room rfl hv9 ho5 ⟨xa, xl, xc⟩ dq7 ((HXO.out hI).mono hI.size) rfl (fun c9 w9 h1 h2 h3 h4 => hK _ _ (show RAp wr.heap.size 8 8 w1 w9 from (by unfold RAp; rw [if_pos rfl]; exact ⟨_, h4, fun b hb => (ho5.lt b hb).1⟩)) ⟨c9, rfl, h1, h2, h3⟩)
          | 9, _, ho9 =>
            obtain rfl := Option.some.inj ho9
            refine .inl ⟨rfl, fun K hK => ?_⟩
            exact st_move rfl ((hout 11 rfl).trans rfl) (hK _ _ (show RAp wr.heap.size 8 9 w1 w1 from Below.refl _ _) rfl)
          | 10, _, ho9 =>
            obtain rfl := Option.some.inj ho9
            have dq9 : (aq9.tmps.getD 56 undef) = .int .i64 j := hdep ⟨9, .data⟩ (by simp) rfl _ rfl
            refine .inl ⟨rfl, fun K hK => ?_⟩
            exact st_idx31 (k := j) rfl ((hout 8 rfl).trans rfl) dq9 (by omega) (hK _ _ (show RAp wr.heap.size 8 10 w1 w1 from Below.refl _ _) rfl)
          | 11, _, ho9 =>
            obtain rfl := Option.some.inj ho9
            have dq10 : (aq9.tmps.getD 57 undef) = .pointer (some ⟨(wb.heap.size + 1), j, none⟩) := hdep ⟨10, .data⟩ (by simp) rfl _ rfl
            refine .inl ⟨rfl, fun K hK => ?_⟩
            exact ld29 rfl dq10 (HTZ.out hI) (hK _ _ (show RAp wr.heap.size 8 11 w1 w1 from Below.refl _ _) rfl)
          | i9 + 12, hi9, _ => exact absurd hi9 (by omega)
        · intro a2 wz hs hd hout hI hall
          obtain ⟨tmps, defers⟩ := a2
          have e_55 : ∃ c9 : Cel, (tmps.getD 55 undef) = c9.v ∧ c9.l = xl ∧ c9.cap = c9.l.length ∧ c9.ok wz.heap.size wz := (hall 8 _ (by decide) rfl).elim fun _ h => h.2
          obtain ⟨c9, e_55, hl9, hcap9, hok9⟩ := e_55
          have e_58 : (tmps.getD 58 undef) = .slice za zl.length zc := (hall 11 _ (by decide) rfl).elim fun _ h => h.2
          simp only at hs hd hout
          have ef := frameAt [some 47, some 48, some 49, some 50, some 51, some 52, some 53, some 54, some 55, some 56, some 57, some 58, some 59, some 60] _ tmps hs hout
          obtain ⟨sv11, hu⟩ : ∃ u : Nat → Value, u = fun s => tmps.getD s undef := ⟨_, rfl⟩
          have eu_55 : sv11 55 = c9.v := by rw [hu]; exact e_55
          have eu_58 : sv11 58 = .slice za zl.length zc := by rw [hu]; exact e_58
          rw [← hu] at ef
          have ef2 : tmps = #[Value.slice ao xn cap, Value.slice ao2 yn cap2, Value.agg #[Value.int IntKind.u8 q0, Value.int IntKind.u8 q1], undef, undef, Value.pointer (some { block := w.heap.size, off := 0 }), Value.bool false, Value.pointer (some { block := wb.heap.size, off := 0 }), Value.pointer (some { block := wb.heap.size + 1, off := 0 }), u9, Value.bool eb, Value.int IntKind.i64 j, undef, undef, undef, Value.slice ao xn cap, tabV cs1, Value.slice ao2 yn cap2, tabV cs2, u19, u20, u21, u22, u23, u24, u25, u26, u27, u28, u29, u30, u31, u32, u33, u34, u35, u36, u37, u38, u39, u40, u41, u42, Value.int IntKind.i64 j, Value.bool true, u45, u46, (sv11 47), (sv11 48), (sv11 49), (sv11 50), (sv11 51), (sv11 52), (sv11 53), (sv11 54), (sv11 55), (sv11 56), (sv11 57), (sv11 58), (sv11 59), (sv11 60), u61, u62, u63, u64, u65, u66, u67, u68, u69, u70, u71, u72, u73, u74, u75, u76, u77, u78, u79, u80, u81, u82, u83, u84, u85, u86, u87, u88, u89, u90, u91, u92, u93, u94, u95, u96, u97, u98, u99, u100, u101, u102, u103] := ef
          subst hd
          rw [eu_55, eu_58] at ef2
          rw [ef2]
          clear ef ef2 hu hs hout hall e_55 eu_55 e_58 eu_58
          simp only [List.drop_succ_cons, List.drop_zero]
          have HOZ := Lib.hid ((HZO.out hI).mono hI.size)
          have hBz := hBr.trans (hI.mono hBr.size)
          obtain ⟨ca, cl, cc⟩ := c9
          simp only at hl9 hcap9
          have h := same_any ⟨ca, cl, cc⟩ ⟨za, zl, zc⟩ wz.heap.size wz (Nat.le_refl _) hok9 HOZ.out
          simp only [Cel.v] at h ⊢
          have HS0 := Lib.hid h
          have HL9 := Lib.hid hl9
          have HCAP9 := Lib.hid hcap9
          clear h hl9 hcap9 hok9 HTX HTZ HXO HZO hI HOZ
          by_cases hq : xl = zl
          · have hs1 : sameR ⟨ca, cl, cc⟩ ⟨za, zl, zc⟩ = 1 := if_pos ⟨by simp only; rw [HL9.out, hq], HCAP9.out⟩
            rw [hs1] at HS0
            have HQ := Lib.hid hq
            clear hs1 hq
            go_wp2_with (go_at_call 20; refine HS0.out.mono ?_; rintro e w4 ⟨rfl, hb4⟩)
            go_roundg (gk - 1)
            case measure => have := HM.out; omega
            case rel => exact ⟨j + 1, eb, by have := HM.out; omega, by omega, rfl, Lib.hid (by
              rw [HEB.out]
              refine decide_eq_decide.2 ⟨fun h i hi => ?_, fun h i hi => h i (by omega)⟩
              rcases Nat.lt_or_eq_of_le (Nat.le_of_lt_succ hi) with h1 | rfl
              · exact h i h1
              · rw [HE1.out, HE3.out]; exact HQ.out), by go_num, hBz.trans (hb4.mono hBz.size)⟩
          · have hs1 : sameR ⟨ca, cl, cc⟩ ⟨za, zl, zc⟩ = 0 := if_neg fun h => hq (by have := h.1; simp only at this; rw [← this, HL9.out])
            rw [hs1] at HS0
            have HQ := Lib.hid hq
            clear hs1 hq
            go_wp2_with (go_at_call 20; refine HS0.out.mono ?_; rintro e w4 ⟨rfl, hb4⟩)
            go_roundg (gk - 1)
            case measure => have := HM.out; omega
            case rel => exact ⟨j + 1, false, by have := HM.out; omega, by omega, rfl, Lib.hid (decide_eq_false fun h => HQ.out (by have := h j (by omega); rw [HE1.out, HE3.out] at this; exact this)).symm, by go_num, hBz.trans (hb4.mono hBz.size)⟩
      · obtain rfl : j = 80 := by omega
        have gj : ¬ ((80 : Int) < 80) := by omega
        clear hlt hj
        have HTAr : Hid (∀ {W : World}, RowKit.Below wr.heap.size wr W → Tab W wb.heap.size 31 cs1) := Lib.hid fun h => (HTA.out.below hBr (by have := HSZc.out; omega)).below h (by have := HSZc.out; have := hBr.size; omega)
        have HTCr : Hid (∀ {W : World}, RowKit.Below wr.heap.size wr W → Tab W (wb.heap.size + 1) 31 cs3) := Lib.hid fun h => (hc3.out.2.2.1.below hBr (by have := HSZc.out; omega)).below h (by have := HSZc.out; have := hBr.size; omega)
        have HOAr : Hid (∀ {W : World}, RowKit.Below wr.heap.size wr W → ∀ c ∈ cs1, c.ok W.heap.size W) := Lib.hid fun h c hc => ((((HOA.out c hc).below hBr).mono hBr.size).below h).mono h.size
        have HOCr : Hid (∀ {W : World}, RowKit.Below wr.heap.size wr W → ∀ c ∈ cs3, c.ok W.heap.size W) := Lib.hid fun h c hc => ((((hc3.out.2.1 c hc).below hBr).mono hBr.size).below h).mono h.size
        have HB80 := HEB
        have HXr := Lib.hid (HX2.out.below hBr (by have := HSZc.out; omega))
        have hBwr := hBc.trans (hBr.mono hBc.size)
        have HSr : Hid (wb.heap.size + 1 < wr.heap.size) := Lib.hid (by have := HSZc.out; have := hBr.size; omega)
        clear HEB HX2 hBc hBr
        go_upto_region 13 with fail
        refine rgT4 6 [some 61, some 62, some 63, some 64, some 12, some 13, none, none] (fun i9 _ => psiSa13 wr.heap.size wb.heap.size (wb.heap.size + 1) cs1 cs3 T1 T3 i9) (fun w' => RowKit.Below wr.heap.size wr w') (fun _ w w' => Below w.heap.size w w') (XTwo 4 5 12 13) (by kernel_rfl) (by kernel_rfl) (by kernel_rfl) (by kernel_rfl) (fun _ _ _ _ _ _ _ j9 v9 u9 u9' _ _ h hb => by
            rcases hb with rfl | hb
            · exact h
            · exact psiSa13_stab wr.heap.size wb.heap.size (wb.heap.size + 1) cs1 cs3 T1 T3 j9 v9 u9 u9' h hb) (fun _ _ _ h hb => h.trans (hb.mono h.size)) (fun i9 o9 hi9 ho9 L9 hL9 hLi9 hcl9 aq9 w1 hs hout hI hX hdep => ?_) ?_ ((Below.refl _ _).drew) (fun L9 hL9 => XTwo.start hL9 (of_decide_eq_true (by kernel_rfl)) (of_decide_eq_true (by kernel_rfl)))
        · skip
          match i9, hi9, ho9 with
          | 0, _, ho9 =>
            obtain rfl := Option.some.inj ho9
            refine .inl ⟨rfl, fun K hK0 => ?_⟩
            have hK := fun (v : Value) (w' : World) (hb : Below w1.heap.size w1 w') hp => hK0 v w' hb hp (hX.keep (by decide) (by decide) (by decide) (by decide) hb.size)
            exact ld_tab (.inl rfl) rfl ((hout 7 rfl).trans rfl) (HTAr.out hI) (hK _ _ (Below.refl _ _) rfl)
          | 1, _, ho9 =>
            obtain rfl := Option.some.inj ho9
            have dq0 : (aq9.tmps.getD 61 undef) = tabV cs1 := hdep ⟨0, .data⟩ (by simp) rfl _ rfl
            refine .inl ⟨rfl, fun K hK0 => ?_⟩
            have hK := fun (v : Value) (w' : World) (hb : Below w1.heap.size w1 w') hp => hK0 v w' hb hp (hX.keep (by decide) (by decide) (by decide) (by decide) hb.size)
            exact step_calls rfl enter9 (vs := #[tabV cs1]) (vals1 dq0) ((beds_any2 cs1 w1 HC1.out.1 (HOAr.out hI)).mono fun e w' hh => by
              obtain ⟨bd, rfl, hb2, hb⟩ := hh
              have hb3 := hb2.out
              rw [HC1.out.2] at hb3
              exact ⟨_, rfl, hK _ _ hb ⟨bd, rfl, hb3⟩⟩)
          | 2, _, ho9 =>
            obtain rfl := Option.some.inj ho9
            refine .inl ⟨rfl, fun K hK0 => ?_⟩
            have hK := fun (v : Value) (w' : World) (hb : Below w1.heap.size w1 w') hp => hK0 v w' hb hp (hX.keep (by decide) (by decide) (by decide) (by decide) hb.size)
            exact ld_tab (.inl rfl) rfl ((hout 8 rfl).trans rfl) (HTCr.out hI) (hK _ _ (Below.refl _ _) rfl)
          | 3, _, ho9 =>
            obtain rfl := Option.some.inj ho9
            have dq2 : (aq9.tmps.getD 63 undef) = tabV cs3 := hdep ⟨2, .data⟩ (by simp) rfl _ rfl
            refine .inl ⟨rfl, fun K hK0 => ?_⟩
            have hK := fun (v : Value) (w' : World) (hb : Below w1.heap.size w1 w') hp => hK0 v w' hb hp (hX.keep (by decide) (by decide) (by decide) (by decide) hb.size)
            exact step_calls rfl enter9 (vs := #[tabV cs3]) (vals1 dq2) ((beds_any2 cs3 w1 hc3.out.1 (HOCr.out hI)).mono fun e w' hh => by
              obtain ⟨bd, rfl, hb2, hb⟩ := hh
              have hb3 := hb2.out
              rw [← HT3.out] at hb3
              exact ⟨_, rfl, hK _ _ hb ⟨bd, rfl, hb3⟩⟩)
          | 4, _, ho9 =>
            obtain rfl := Option.some.inj ho9
            refine .inl ⟨rfl, fun K hK0 => ?_⟩
            exact step_valw (v := .pointer (some ⟨w1.heap.size, 0, none⟩)) (w' := w1.alloc (.cells #[.slice none 0 0, .slice none 0 0] 35)) (by simp only [execOp]; go_simp) (hK0 _ _ (below1 _ _) ⟨_, rfl, hI.size, Boxed2.new w1 35 (.slice none 0 0) (.slice none 0 0)⟩ (hX.one (by decide) (by decide) (by simp)))
          | 5, _, ho9 =>
            obtain rfl := Option.some.inj ho9
            refine .inl ⟨rfl, fun K hK0 => ?_⟩
            exact step_valw (v := .pointer (some ⟨w1.heap.size, 0, none⟩)) (w' := w1.alloc (.cells #[.slice none 0 0, .slice none 0 0] 35)) (by simp only [execOp]; go_simp) (hK0 _ _ (below1 _ _) ⟨_, rfl, hI.size, Boxed2.new w1 35 (.slice none 0 0) (.slice none 0 0)⟩ (hX.two (by decide) (by decide) (by simp)))
          | i9 + 6, hi9, _ => exact absurd hi9 (by omega)
        · intro a2 w2 hs hd hout hI hXf hall
          obtain ⟨tmps, defers⟩ := a2
          obtain ⟨Lf, hLf, hXf⟩ := hXf
          have e_62 : ∃ bd : Bds, (tmps.getD 62 undef) = bd.v ∧ Reads T1 bd ∧ Tight bd ∧ bd.ok w2.heap.size w2 ∧ TyB w2 bd.f ∧ TyB w2 bd.b := (hall 1 _ (by decide) rfl).elim fun _ h => h.2
          obtain ⟨d1, e_62, hrd1, htd1, hkd1, hfd1, hgd1⟩ := e_62
          have e_64 : ∃ bd : Bds, (tmps.getD 64 undef) = bd.v ∧ Reads T3 bd ∧ Tight bd ∧ bd.ok w2.heap.size w2 ∧ TyB w2 bd.f ∧ TyB w2 bd.b := (hall 3 _ (by decide) rfl).elim fun _ h => h.2
          obtain ⟨d3, e_64, hrd3, htd3, hkd3, hfd3, hgd3⟩ := e_64
          have e_12 : ∃ b, (tmps.getD 12 undef) = .pointer (some ⟨b, 0, none⟩) ∧ wr.heap.size ≤ b ∧ Boxed2 w2 b 35 (.slice none 0 0) (.slice none 0 0) := (hall 4 _ (by decide) rfl).elim fun _ h => h.2
          obtain ⟨bA, e_12, hbA, xA⟩ := e_12
          have e_13 : ∃ b, (tmps.getD 13 undef) = .pointer (some ⟨b, 0, none⟩) ∧ wr.heap.size ≤ b ∧ Boxed2 w2 b 35 (.slice none 0 0) (.slice none 0 0) := (hall 5 _ (by decide) rfl).elim fun _ h => h.2
          obtain ⟨bB, e_13, hbB, xB⟩ := e_13
          have hAB : bA ≠ bB := by
            rintro rfl
            exact hXf.2.2.2 (by rw [hLf]; rfl) (by rw [hLf]; rfl) (e_12.trans e_13.symm)
          simp only at hs hd hout
          have ef := frameAt [some 61, some 62, some 63, some 64, some 12, some 13, none, none] _ tmps hs hout
          obtain ⟨sv13, hu⟩ : ∃ u : Nat → Value, u = fun s => tmps.getD s undef := ⟨_, rfl⟩
          have eu_62 : sv13 62 = d1.v := by rw [hu]; exact e_62
          have eu_64 : sv13 64 = d3.v := by rw [hu]; exact e_64
          have eu_12 : sv13 12 = .pointer (some ⟨bA, 0, none⟩) := by rw [hu]; exact e_12
          have eu_13 : sv13 13 = .pointer (some ⟨bB, 0, none⟩) := by rw [hu]; exact e_13
          rw [← hu] at ef
          have ef2 : tmps = #[Value.slice ao xn cap, Value.slice ao2 yn cap2, Value.agg #[Value.int IntKind.u8 q0, Value.int IntKind.u8 q1], undef, undef, Value.pointer (some { block := w.heap.size, off := 0 }), Value.bool false, Value.pointer (some { block := wb.heap.size, off := 0 }), Value.pointer (some { block := wb.heap.size + 1, off := 0 }), u9, Value.bool eb, Value.int IntKind.i64 80, (sv13 12), (sv13 13), undef, Value.slice ao xn cap, tabV cs1, Value.slice ao2 yn cap2, tabV cs2, u19, u20, u21, u22, u23, u24, u25, u26, u27, u28, u29, u30, u31, u32, u33, u34, u35, u36, u37, u38, u39, u40, u41, u42, Value.int IntKind.i64 80, Value.bool false, u45, u46, u47, u48, u49, u50, u51, u52, u53, u54, u55, u56, u57, u58, u59, u60, (sv13 61), (sv13 62), (sv13 63), (sv13 64), u65, u66, u67, u68, u69, u70, u71, u72, u73, u74, u75, u76, u77, u78, u79, u80, u81, u82, u83, u84, u85, u86, u87, u88, u89, u90, u91, u92, u93, u94, u95, u96, u97, u98, u99, u100, u101, u102, u103] := ef
          subst hd
          rw [eu_62, eu_64, eu_12, eu_13] at ef2
          rw [ef2]
          clear ef ef2 hu hs hout hall e_62 eu_62 e_64 eu_64 e_12 eu_12 e_13 eu_13
          simp only [List.drop_succ_cons, List.drop_zero]
          obtain ⟨⟨fa, fs, fc⟩, ⟨ga, gs, gc⟩⟩ := d1
          obtain ⟨⟨pa, ps, pc⟩, ⟨qa, qs, qc⟩⟩ := d3
          simp only [Bds.v, Bed.v]
          have xA1 := xA.set0 (.slice fa fs.length fc)
          have xB1 := xB.other (o := 0) (x := .slice fa fs.length fc) hAB.symm
          have xB2 := xB1.other (o := 1) (x := .slice ga gs.length gc) hAB.symm
          have xB3 := xB2.set0 (.slice pa ps.length pc)
          have a1 := xA.frozen
          have a2 := xA.cell0
          have a3 := xA.cell1
          have a4 := xA1.frozen
          have a5 := xA1.cell1
          have b1 := xB2.frozen
          have b2 := xB2.cell0
          have b3 := xB3.frozen
          have b4 := xB3.cell1
          have b5 := xB.cell0
          have b6 := xB.cell1
          have b7 := xB.frozen
          have lA := xA.lt
          have lB := xB.lt
          go_upto_region 15 with fail
          obtain ⟨W4, hW4⟩ : ∃ W, (((w2.setCell ⟨bA, 0, none⟩ (.slice fa fs.length fc)).setCell ⟨bA, 1, none⟩ (.slice ga gs.length gc)).setCell ⟨bB, 0, none⟩ (.slice pa ps.length pc)).setCell ⟨bB, 1, none⟩ (.slice qa qs.length qc) = W := ⟨_, rfl⟩
          have s0 : SaO w2.heap.size bA bB ⟨fa, fs, fc⟩ ⟨ga, gs, gc⟩ ⟨pa, ps, pc⟩ ⟨qa, qs, qc⟩ w2 := ⟨lA, lB, hAB, Nat.le_refl _, hkd1.1, hkd1.2, hkd3.1, hkd3.2, hfd1, hgd1, hfd3, hgd3⟩
          have iz : IsSl (.slice none 0 0) := isSl_mk _ _ _
          have HR0 : SaR w2.heap.size bA bB ⟨fa, fs, fc⟩ ⟨ga, gs, gc⟩ ⟨pa, ps, pc⟩ ⟨qa, qs, qc⟩ [] [] (.slice fa fs.length fc) (.slice qa qs.length qc) W4 := by
            rw [← hW4]
            refine ⟨(((s0.set xA iz iz 0 _).set xA1 (isSl_mk _ _ _) iz 1 _).set xB2 iz iz 0 _).set xB3 (isSl_mk _ _ _) iz 1 _, ((xA1.set1 _).other hAB).other hAB, xB3.set1 _, .inl ⟨rfl, rfl⟩, .inl ⟨rfl, rfl⟩, .inl rfl⟩
          have hB4 : RowKit.Below w.heap.size w W4 := by
            have h2 := hBwr.trans (hI.mono hBwr.size)
            have l1 : w.heap.size ≤ bA := Nat.le_trans hBwr.size hbA
            have l2 : w.heap.size ≤ bB := Nat.le_trans hBwr.size hbB
            rw [← hW4]
            exact (((h2.setCell (p := ⟨bA, 0, none⟩) l1 _).setCell (p := ⟨bA, 1, none⟩) l1 _).setCell (p := ⟨bB, 0, none⟩) l2 _).setCell (p := ⟨bB, 1, none⟩) l2 _
          have HX4 : Hid (Boxed2 W4 w.heap.size 52 (.int .u8 q0) (.int .u8 q1)) := Lib.hid (by
            have l0 : w.heap.size < wr.heap.size := HXr.out.lt
            rw [← hW4]
            exact ((((HXr.out.below hI l0).other (by omega)).other (by omega)).other (by omega)).other (by omega))
          have HLW : Hid (w.heap.size < w2.heap.size) := Lib.hid (HXr.out.below hI HXr.out.lt).lt
          rw [hW4]
          have HR := Lib.hid HR0
          have HLA : Hid (w.heap.size ≤ bA ∧ w.heap.size ≤ bB) := Lib.hid ⟨Nat.le_trans hBwr.size hbA, Nat.le_trans hBwr.size hbB⟩
          have HF4 : Hid (fc = fs.length ∧ qc = qs.length ∧ fs.length ≤ 40 ∧ qs.length ≤ 40) := Lib.hid ⟨htd1.f, htd3.b, hrd1.f40, hrd3.b40⟩
          have HD1 := Lib.hid hrd1.zero
          have HD3 := Lib.hid hrd3.zero
          clear hW4 s0 HR0 xB3 xB2 xB1 xA1 xA xB a1 a2 a3 a4 a5 b1 b2 b3 b4 b5 b6 b7 lA lB hAB hkd1 hkd3 hfd1 hgd1 hfd3 hgd3 htd1 htd3 hrd1 hrd3 hbA hbB hI hBwr HXr HTAr HTCr HOAr HOCr
          obtain ⟨n5, hn5⟩ : ∃ n : Nat, n = q0 % 5 := ⟨_, rfl⟩
          have r5 : Int.tmod (q0 : Int) 5 = (n5 : Int) := by rw [hn5]; rfl
          have v5 : IntKind.i64.wrap (n5 : Int) = (n5 : Int) := IntWalk.i64_in _ (by omega)
          have HN5 : Hid (n5 < 5) := Lib.hid (by omega)
          clear hn5
          go_loopg [14] 6 (fun g i wr => ∃ (k : Nat) (es : List Cel) (vF vB : Value), g = 6 - k ∧ k ≤ n5 ∧ i = .int .i64 k ∧ Hid (SaR w2.heap.size bA bB ⟨fa, fs, fc⟩ ⟨ga, gs, gc⟩ ⟨pa, ps, pc⟩ ⟨qa, qs, qc⟩ (List.replicate k Cel.nil) es vF vB wr ∧ es.length = k ∧ ∀ c ∈ es, c.l = []) ∧ Hid (Boxed2 wr w.heap.size 52 (.int .u8 q0) (.int .u8 q1)) ∧ RowKit.Below w.heap.size w wr)
          case atStart => exact ⟨0, [], _, _, by omega, by omega, rfl, Lib.hid ⟨HR.out, rfl, fun c h => by cases h⟩, HX4, hB4⟩
          case round =>
            clear HR HX4 hB4
            obtain ⟨k, es, vF, vB, hg, hk, rfl, HR, HX, hBr⟩ := hrel
            have HM := Lib.hid hg
            clear hg
            have x0 := HX.out.cell0
            by_cases hlt : k < n5
            · have gj : (k : Int) < (n5 : Int) := by omega
              have yA := HR.out.1.a.cell0
              have tkF : True := trivial
              have tkB : True := trivial
              go_upto_region 17 with fail
              iterate 10 go_step
              clear tkF; refine wpList_app_any (x := Cel.nil) (M := w2.heap.size) (d := ⟨fa, fs, fc⟩) (es := List.replicate k Cel.nil) (v := vF) rfl rfl rfl rfl (HR.out.1.alloc (.cells #[.slice none 0 0] 29)).rF (HR.out.1.alloc (.cells #[.slice none 0 0] 29)).o.kf HF4.out.1 (by have := HF4.out; have := HN5.out; simp only [List.length_append, List.length_replicate]; omega) (HR.out.1.alloc (.cells #[.slice none 0 0] 29)).o.hM (cell_one_new _ _ _ 0 _ rfl) ?_; intro v1 w7 t1 h1 h2 h3 h4 h5; clear yA; obtain ⟨a7, n7, z7, rfl⟩ := RowAt2.sl (M := w2.heap.size) (d := ⟨fa, fs, fc⟩) (es := List.replicate k Cel.nil ++ [Cel.nil]) (.inr ⟨by simp, h1⟩); have HRb := Lib.hid ((HR.out.1.alloc (.cells #[.slice none 0 0] 29)).stepF h1 h2 h3 h4 h5); have xk := (HR.out.1.a.alloc (.cells #[.slice none 0 0] 29)).kept h2 (fun e => by have := h3 bA e.symm; have := HR.out.1.o.hA; omega); have c1 := xk.cell0; have f1 := xk.frozen; have aX := box_ne HX.out HR.out.1.a (by decide); have HX7 := Lib.hid (((HX.out.alloc (.cells #[.slice none 0 0] 29)).kept h2 (fun e => by have := h3 _ e.symm; have := HLW.out; omega)).other (o := 0) (x := .slice a7 n7 z7) aX); have hB7 := ((hBr.alloc hBr.size (.cells #[.slice none 0 0] 29)).grown h2 (by have := hBr.size; simp; omega) (fun b e => by have := h3 b e; have := HLW.out; omega)).setCell (p := ⟨bA, 0, none⟩) HLA.out.1 (.slice a7 n7 z7); have yB := HRb.out.b.cell1; clear x0 xk h1 h2 h3 h4 h5
              go_upto_region 18 with fail
              iterate 13 go_step
              clear tkB; refine wpList_app_any (x := ⟨some ⟨w7.heap.size, 0, none⟩, [], 0⟩) (M := w2.heap.size) (d := ⟨qa, qs, qc⟩) (es := es) (v := vB) rfl rfl rfl rfl ((HRb.out.alloc _).alloc _).rB ((HRb.out.alloc _).alloc _).o.kq HF4.out.2.1 (by have := HF4.out; have := HN5.out; have := HR.out.2.1; simp only [List.length_append]; omega) ((HRb.out.alloc _).alloc _).o.hM (by have e := cell_one_new ((w7.setCell ⟨bA, 0, none⟩ (.slice a7 n7 z7)).alloc (.cells #[] 28)) (.slice (some ⟨w7.heap.size, 0, none⟩) 0 0) 29 0 _ rfl; rw [show ((w7.setCell ⟨bA, 0, none⟩ (.slice a7 n7 z7)).alloc (.cells #[] 28)).heap.size = w7.heap.size + 1 by simp] at e; exact e) ?_; intro v2 w8 t2 h1 h2 h3 h4 h5; clear yB; obtain ⟨a8, n8, z8, rfl⟩ := RowAt2.sl (M := w2.heap.size) (d := ⟨qa, qs, qc⟩) (es := es ++ [⟨some ⟨w7.heap.size, 0, none⟩, [], 0⟩]) (.inr ⟨by simp, h1⟩); have HRd := Lib.hid (((HRb.out.alloc _).alloc _).stepB h1 h2 h3 h4 h5); have xk := ((HRb.out.alloc _).alloc _).b.kept h2 (fun e => by have := h3 bB e.symm; have := HRb.out.o.hB; omega); have c2 := xk.cell1; have f2 := xk.frozen; have bX := box_ne HX7.out HRb.out.b (by decide); have HX8 := Lib.hid (((((HX7.out.alloc _).alloc _)).kept h2 (fun e => by have := h3 _ e.symm; have := HLW.out; omega)).other (o := 1) (x := .slice a8 n8 z8) bX); have hB8 := (((hB7.alloc hB7.size _).alloc (Nat.le_trans hB7.size (by simp)) _).grown h2 (Nat.le_trans hB7.size (by simp <;> omega)) (fun b e => by have := h3 b e; have := HLW.out; omega)).setCell (p := ⟨bB, 1, none⟩) HLA.out.2 (.slice a8 n8 z8); clear xk h1 h2 h3 h4 h5
              go_wp2_with fail
              go_roundg (gk - 1)
              case measure => have := HM.out; have := HN5.out; omega
              case rel => exact ⟨k + 1, _, _, _, by have := HM.out; have := HN5.out; omega, hlt, by have n5b := HN5.out; have hk5 : (k : Int) < 5 := (by omega); exact (congrArg (Value.int .i64) (num_succ k hk5)), Lib.hid ⟨by rw [List.replicate_succ']; exact HRd.out, by simp [HR.out.2.1], fun c hc => by
                rcases List.mem_append.1 hc with hc | hc
                · exact HR.out.2.2 c hc
                · rw [List.mem_singleton.1 hc]⟩, HX8, hB8⟩
            · obtain rfl : k = n5 := by omega
              have gj : ¬ ((k : Int) < (k : Int)) := by omega
              obtain ⟨fA, fC, rfl, hkF⟩ := HR.out.1.rF.bed HR.out.1.o.kf HR.out.1.o.hM (fun c hc => by rw [List.eq_of_mem_replicate hc]; rfl) (by have := HF4.out; have := HN5.out; simp only [List.length_append, List.length_replicate]; omega)
              obtain ⟨qA, qC, rfl, hkB⟩ := HR.out.1.rB.bed HR.out.1.o.kq HR.out.1.o.hM HR.out.2.2 (by have := HF4.out; have := HN5.out; have := HR.out.2.1; simp only [List.length_append]; omega)
              have hRA : Reads0 T1 ⟨⟨fA, fs ++ List.replicate k Cel.nil, fC⟩, ⟨ga, gs, gc⟩⟩ := by
                have := Reads.more HD1.out (List.replicate k Cel.nil) [] (fun c hc => by rw [List.eq_of_mem_replicate hc]; rfl) (fun c hc => by cases hc) fA ga fC gc
                simpa using this
              have hRB : Reads0 T3 ⟨⟨pa, ps, pc⟩, ⟨qA, qs ++ es, qC⟩⟩ := by
                have := Reads.more HD3.out [] es (fun c hc => by cases hc) HR.out.2.2 pa qA pc qC
                simpa using this
              have hOA : Bds.ok wr.heap.size wr ⟨⟨fA, fs ++ List.replicate k Cel.nil, fC⟩, ⟨ga, gs, gc⟩⟩ := ⟨hkF, HR.out.1.o.kg.mono HR.out.1.o.hM⟩
              have hOB : Bds.ok wr.heap.size wr ⟨⟨pa, ps, pc⟩, ⟨qA, qs ++ es, qC⟩⟩ := ⟨HR.out.1.o.kp.mono HR.out.1.o.hM, hkB⟩
              have hAB3 := fun (W : World) (hb : RowKit.Below wr.heap.size wr W) => same_beds _ _ T1 T3 wr.heap.size W hb.size (hOA.below hb) (hOB.below hb) hRA hRB
              have hBA3 := fun (W : World) (hb : RowKit.Below wr.heap.size wr W) => same_beds _ _ T3 T1 wr.heap.size W hb.size (hOB.below hb) (hOA.below hb) hRB hRA
              have hAA3 := fun (W : World) (hb : RowKit.Below wr.heap.size wr W) => same_beds _ _ T1 T1 wr.heap.size W hb.size (hOA.below hb) (hOA.below hb) hRA hRA
              have e13 : eb = decide (T1 = T3) := by
                rw [HB80.out]
                refine decide_eq_decide.2 ⟨fun h => List.ext_getElem? fun i => ?_, fun h i _ => by rw [h]⟩
                by_cases hi : i < 80
                · have h9 := h i hi
                  have l1 : i < T1.length := by rw [HD1.out.len]; exact hi
                  have l3 : i < T3.length := by rw [HD3.out.len]; exact hi
                  rw [List.getD_eq_getElem?_getD, List.getD_eq_getElem?_getD, List.getElem?_eq_getElem l1, List.getElem?_eq_getElem l3] at h9
                  rw [List.getElem?_eq_getElem l1, List.getElem?_eq_getElem l3]
                  exact congrArg some h9
                · rw [List.getElem?_eq_none (by rw [HD1.out.len]; omega), List.getElem?_eq_none (by rw [HD3.out.len]; omega)]
              have e31 : decide (T3 = T1) = eb := by rw [e13]; exact decide_eq_decide.2 ⟨Eq.symm, Eq.symm⟩
              have e11 : decide (T1 = T1) = true := decide_eq_true rfl
              rw [e31] at hBA3
              rw [← e13] at hAB3
              rw [e11] at hAA3
              simp only [Bds.v, Bed.v] at hAB3 hBA3 hAA3
              have KAB := Lib.hid hAB3
              have KBA := Lib.hid hBA3
              have KAA := Lib.hid hAA3
              obtain ⟨nA, hnA⟩ : ∃ n, (fs ++ List.replicate k Cel.nil).length = n := ⟨_, rfl⟩
              obtain ⟨nB, hnB⟩ : ∃ n, (qs ++ es).length = n := ⟨_, rfl⟩
              rw [hnA] at KAB KBA KAA
              rw [hnB] at KAB KBA
              have y1 := HR.out.1.a.cell0
              have y2 := HR.out.1.a.cell1
              have y3 := HR.out.1.b.cell0
              have y4 := HR.out.1.b.cell1
              simp only [Bed.v] at y1 y2 y3 y4
              rw [hnA] at y1
              rw [hnB] at y4
              have hnA0 := Lib.hid hnA
              have hnB0 := Lib.hid hnB
              clear hRA hRB hOA hOB hAB3 hBA3 hAA3 e13 e31 e11 hkF hkB hnA hnB HB80 HD1 HD3 HTO1 HTO2
              have lA : bA < wr.heap.size := HR.out.1.a.lt
              have lB : bB < wr.heap.size := HR.out.1.b.lt
              have HA2 := Lib.hid HR.out.1.a
              have HB2 := Lib.hid HR.out.1.b
              clear HR
              have tk7 : True := trivial
              have tk8 : True := trivial
              have tk9 : True := trivial
              cases eb
              all_goals (
                go_upto_region 19 with fail
                go_wp2_with (first
                  | (go_at_call 18; clear tk7; refine (KAB.out _ (Below.refl _ _)).mono ?_; rintro e wa ⟨rfl, hba⟩; clear y1 y2 y3 y4; have HAa := Lib.hid (HA2.out.below hba lA); have HBa := Lib.hid (HB2.out.below hba lB); have y1 := HAa.out.cell0; have y2 := HAa.out.cell1; have y3 := HBa.out.cell0; have y4 := HBa.out.cell1; simp only [Bed.v, hnA0.out, hnB0.out] at y1 y2 y3 y4)
                  | (go_at_call 18; clear tk8; refine (KBA.out _ hba).mono ?_; rintro e wb2 ⟨rfl, hbb⟩; clear y1 y2 y3 y4; have HAb := Lib.hid (HAa.out.below hbb (Nat.lt_of_lt_of_le lA hba.size)); have y1 := HAb.out.cell0; have y2 := HAb.out.cell1; simp only [Bed.v, hnA0.out] at y1 y2)
                  | (go_at_call 18; clear tk9; refine (KAA.out _ (hba.trans (hbb.mono hba.size))).mono ?_; rintro e wc2 ⟨rfl, hbc⟩)
                  | (go_at_call 16; refine (lives_any _).mono ?_; rintro e wd2 ⟨rfl, hbd⟩))
                go_ret
                exact ⟨rfl, hBr.trans ((hba.trans ((hbb.trans ((hbc.trans (hbd.mono hbc.size)).mono hbb.size)).mono hba.size)).mono hBr.size)⟩)
end Go.Proofs.Ytjjnhmbgffdenaa
namespace Go.Proofs.Ytjjnhmbgffdenaa
open Go.ChangeShapes Go.WideShapes Go.ChangeAt Go.RowKit Go.Deep Go.Joins

set_option maxRecDepth 100000 in
theorem stacksSame_lifted (os : Os) (started : os.Started) (H : Type) (enc : TypeId × Value → H) :
    ReturnsInHanded {} Try.checked os 6 .any (Rows.stacksSameSpec.pre6 enc Try.prog Try.f6 Rows.stacksSameRow.domain false) (Rows.stacksSameSpec.post enc Try.prog Try.f6 false true false false) := by
  refine returnsInHanded_of_change (C := Try.checked) Try.own' started (by kernel_rfl) Try.func6
    (ChangeSpec.witness6 (enc := enc) (C := Try.checked) false ⟨#[], #[.slice none 0 0, .slice none 0 0, .agg #[.int .u8 0, .int .u8 0]], []⟩ 8 (by kernel_rfl) (by kernel_rfl) (by kernel_rfl) (by kernel_rfl)) ?_
  intro W base args ds gs before hval0 hW hcnd _
  have hval : ∀ (j : Nat) t v, Try.f6.params[j]? = some t → args[j]? = some v → Value.okWide Try.prog W .any base t v := hval0
  have hW' := hW
  obtain ⟨p, q, hA0, hV, rfl, hfz, hnd⟩ := hW
  have hA : DataW.TrodAll enc Try.prog W 0 (fun _ => true) true Try.f6.params.toList args.toList ds p := hA0
  rw [Try.params6] at hA hval
  obtain ⟨v0, v1, v2, d0, d1, d2, p0, p1, p2, rfl, rfl, rfl, h0, h1, h2⟩ := trodAll_three hA
  obtain ⟨rfl, rfl⟩ := trodVars_none hV
  have k0 := h0
  have k1 := h1
  have k2 := h2
  obtain ⟨ao, n0, cap, xs, rfl, rfl, hl⟩ := open_puts_arg (hval 0 23 v0 rfl rfl) h0
  obtain ⟨ao2, n2, cap2, ys, rfl, rfl, hl2⟩ := open_puts_arg (hval 1 23 v1 rfl rfl) h1
  obtain ⟨m0, m1, rfl, hm0, hm1⟩ := open_pair_arg (hval 2 52 v2 rfl rfl) h2
  clear hA0 hval0 h0 h1 h2
  simp only [List.append_nil, List.append_assoc] at hW'
  have lt0 : ∀ x ∈ p0, x.block < W.heap.size := fun x hx => by simpa using hW'.lt x (by simp [hx])
  have lt1 : ∀ x ∈ p1, x.block < W.heap.size := fun x hx => by simpa using hW'.lt x (by simp [hx])
  have lt2 : ∀ x ∈ p2, x.block < W.heap.size := fun x hx => by simpa using hW'.lt x (by simp [hx])
  have key : Calls Try.prog 6 #[.slice ao xs.length cap, .slice ao2 ys.length cap2, .agg #[.int .u8 m0, .int .u8 m1]] W fun e w' => e = .returned (.bool true) ∧ Below W.heap.size W w' := same_law ao xs cap ao2 ys cap2 m0 m1 hm0 hm1 W hl hl2
  refine key.mono fun e W' ⟨he, hb⟩ => ?_
  subst he
  refine ⟨_, rfl, _, _, _, [], p0 ++ (p1 ++ p2), [], hW', ?_, ?_, rfl, hb.frame _, fun h => by cases h⟩
  · exact trodAll_mk1 (shut_bool Try.underlying4 _)
  · exact trodAll_mk3 (Below.trod Try.laidOut' (by kernel_rfl) (of_decide_eq_true (by kernel_rfl)) k0 hb lt0) (Below.trod Try.laidOut' (by kernel_rfl) (of_decide_eq_true (by kernel_rfl)) k1 hb lt1) (Below.trod Try.laidOut' (by kernel_rfl) (of_decide_eq_true (by kernel_rfl)) k2 hb lt2)

theorem stacksSame_holds : Rows.StacksSameSaid :=
  OpenClaim.holds_of_wide 6 Try.f6 rfl rfl rfl rfl rfl rfl rfl ⟨rfl, rfl, rfl, rfl, rfl⟩ rfl rfl rfl rfl rfl (by kernel_rfl) Try.func6 (by kernel_rfl)
    (of_decide_eq_true (by kernel_rfl)) (by unfold Func.isWrapper; first | (rw [if_pos (by decide +kernel)]; kernel_rfl) | (rw [if_neg (by decide +kernel)]; exact ⟨rfl, rfl⟩))
    (fun os started H enc _ => stacksSame_lifted os started H enc)

end Go.Proofs.Ytjjnhmbgffdenaa
