import Derived.Test.YtjjnhmbgffdenaaDoorGaq
import Derived.Test.YtjjnhmbgffdenaaDoorGar
namespace Go.Proofs.YtjjnhmbgffdenaaDoor
open Go.RowKit Go.Sort Go.Shelf Go.Lib
theorem list_own (d : Bds) (T : List (List Nm)) (r : Int) (B : Nat) (w : World) (hB : B ≤ w.heap.size) (hd : d.ok B w) (hr : Reads T d) (hT : TOk T) (hk : okR r = true) (L : List Hd) (hL : lstH T r 95 = L) (n : Nat) (hn : L.length = n) :
    Calls Tryd.prog 10 #[d.v, .int .i64 r] w fun e w' => ∃ ao cap, e = .returned (.tuple #[.slice ao n n, .int .i64 0]) ∧ Hid (w'.ownsRow w.heap.size 40 5 (.slice ao n cap) n (rcells Hd.enc L)) ∧ RowKit.Below w.heap.size w w' := by
  subst hn hL
  have HO := Lib.hid (fun (W : World) (hb : RowKit.Below w.heap.size w W) => ordered_any d T r w.heap.size W hb.size ((hd.mono hB).below hb) hr hT)
  have HC := Lib.hid (fun (W : World) (hb : RowKit.Below w.heap.size w W) => check_any d r w.heap.size W hb.size ((hd.mono hB).below hb) (hr.good hT))
  obtain ⟨⟨fa, fs, fc⟩, ⟨ba, bs, bc⟩⟩ := d
  simp only [Bds.v, Bed.v] at HO HC ⊢
  have HK := Lib.hid hk
  rw [hk] at HC
  simp only [if_pos rfl] at HC
  have bx := Boxed2.new w 26 (.slice fa fs.length fc) (.slice ba bs.length bc)
  have hb0 := below1 w (.cells #[.slice fa fs.length fc, .slice ba bs.length bc] 26)
  have x0 := bx.cell0
  have x1 := bx.cell1
  obtain ⟨w0, hw0⟩ : ∃ w0, w.alloc (.cells #[.slice fa fs.length fc, .slice ba bs.length bc] 26) = w0 := ⟨_, rfl⟩
  have HCC := Lib.hid (HC.out _ hb0)
  have HB0 := Lib.hid hb0
  have HBX := Lib.hid bx
  rw [hw0] at HCC HB0 HBX x0 x1
  clear hk HC bx hb0 hd hr hT
  go_enter Tryd.func10, Tryd.ntmps10
  go_wp2_with (first
    | (go_at_call 22; refine HCC.out.mono ?_; rintro e w1 ⟨rfl, hb1⟩; have HBX1 := Lib.hid (HBX.out.below hb1 HBX.out.lt); clear x0 x1; have x0 := HBX1.out.cell0; have x1 := HBX1.out.cell1; have HB1 := Lib.hid (HB0.out.trans (hb1.mono HB0.out.size)))
    | (go_at_call 24; refine (HO.out _ HB1.out).mono ?_; rintro e w2 ⟨v2, l2, rfl, h1, h2, h3, hb2⟩; obtain ⟨ao2, cap2, rfl, hL2, hc2⟩ := lies_of_own Hd.enc_len h3 rfl; have H1 := Lib.hid (And.intro h1 h2); have HLL := Lib.hid h3; have HCL := Lib.hid (clip_any23 ao2 l2.length cap2 hc2 (own_cap h3) (own_off h3)); clear h1 h3 hL2)
    | (go_at_call 23; refine (HCL.out _).mono ?_; rintro e w3 ⟨rfl, rfl⟩))
  (try simp only [Exit.inBlock, Exit.then]); refine bodyPost_ret (results_tmp2 rfl _ _ _) rfl ?_
  obtain rfl := ord_lst HK.out H1.out
  exact ⟨ao2, cap2, rfl, Lib.hid (ownsRow_mono HLL.out HB1.out.size), HB1.out.trans (hb2.mono HB1.out.size)⟩
/-- The law's row of loops, whose neighbours change places. -/
def RowAt (n : Nat) (ao : Option Addr) (w0 wr : World) (l : List Hd) : Prop := l.length = n ∧ ((l = [] ∧ RowKit.Below w0.heap.size w0 wr) ∨ ∃ b d d0, ao = some ⟨b, 0, none⟩ ∧ RowK Hd.enc 5 w0 b 0 d0 ∧ d.size = n ∧ d0.size = n ∧ d.toList = l ∧ SWK Hd.enc 5 w0 b 0 d wr)
theorem lies_of_holds {w : World} {b : Nat} {d : Array Hd} (h : HoldsK Hd.enc 5 w b 0 d) (hb : b < w.heap.size) : Lies Hd.enc 0 w (some ⟨b, 0, none⟩) d.toList := by
  refine .inr ⟨b, rfl, Nat.zero_le _, hb, fun j u hj => ?_⟩
  rw [← flat_rcells Hd.enc 5 Hd.enc_len d] at hj
  obtain ⟨hlt, he⟩ := List.getElem?_eq_some_iff.1 hj
  have hlt2 : j < (flatK Hd.enc 5 d).size := by simpa using hlt
  have h1 := (h j hlt2).1
  rw [Nat.zero_add] at h1
  rw [h1, ← he, getElem!_pos _ j hlt2, Array.getElem_toList]
  rfl
theorem RowAt.lies {n : Nat} {ao : Option Addr} {w0 wr : World} {l : List Hd} (h : RowAt n ao w0 wr l) : Lies Hd.enc 0 wr ao l := by
  rcases h.2 with ⟨h, _⟩ | ⟨b, d, d0, rfl, R, h1, h2, rfl, S⟩
  · exact .inl h
  · exact lies_of_holds (S.holds R.hblk R.hH (by omega)) (S.lt R.hblk)
theorem RowAt.start {n cap N : Nat} {ao : Option Addr} {w0 : World} {l : List Hd} (hn : l.length = n) (h : w0.ownsRow N 40 5 (.slice ao n cap) n (rcells Hd.enc l)) : RowAt n ao w0 w0 l := by
  refine ⟨hn, ?_⟩
  subst hn
  rcases h.2 with ⟨_, h0⟩ | ⟨g, cap, cur, e, hb, hg, hn, hm, hs, ht⟩
  · exact .inl ⟨List.eq_nil_of_length_eq_zero h0, Below.refl _ _⟩
  · have hH := holdsK_of_own (N := N) (cap := cap) Hd.enc 5 Hd.enc_len hg ht
    have hlt : g < w0.heap.size := (Array.getElem?_eq_some_iff.1 hg).1
    simp only [Value.slice.injEq] at e
    exact .inr ⟨g, l.toArray, l.toArray, e.1, ⟨Hd.enc_len, Hd.enc_one, hH, hlt⟩, by simp, by simp, by simp, SWK.start hH⟩
theorem RowAt.drew {n : Nat} {ao : Option Addr} {w0 wr : World} {l : List Hd} (h : RowAt n ao w0 wr l) (q : Nat) : RowAt n ao w0 (wr.drewN q) l :=
  ⟨h.1, h.2.imp (fun ⟨h1, h2⟩ => ⟨h1, below_drewN h2 _⟩) fun ⟨b, d, d0, h1, R, h2, h3, h4, S⟩ => ⟨b, d, d0, h1, R, h2, h3, h4, S.drewN q⟩⟩
theorem SWK.block {α : Type} [Inhabited α] {enc : α → List Value} {k : Nat} {w0 W : World} {g : Nat} {d : Array α} (h : SWK enc k w0 g 0 d W) {c : Nat} (hc : c ≠ g) (hlt : c < w0.heap.size) : W.heap[c]? = w0.heap[c]? := by
  obtain ⟨n, os, rfl⟩ := h
  unfold sortWorldK putRowK putRow mapBlock Sort.ahead grow
  simp only
  rw [Array.getElem?_append_left (by simp; omega), Array.getElem?_modify, if_neg (by omega)]
theorem RowAt.below {n N : Nat} {ao : Option Addr} {w0 wr : World} {l : List Hd} (h : RowAt n ao w0 wr l) (hb : ∀ b, ao = some ⟨b, 0, none⟩ → N ≤ b) (hN : N ≤ w0.heap.size) : RowKit.Below N w0 wr := by
  rcases h.2 with ⟨_, h⟩ | ⟨b, d, d0, rfl, R, h1, h2, rfl, S⟩
  · exact h.mono hN
  · exact SWK.below S (hb b rfl) R.hblk
theorem RowAt.other {n N : Nat} {ao ab : Option Addr} {w0 wr : World} {l L2 : List Hd} (h : RowAt n ao w0 wr l) (hb : ∀ b, ao = some ⟨b, 0, none⟩ → b < N) (h2 : Lies Hd.enc N w0 ab L2) : Lies Hd.enc 0 wr ab L2 := by
  rcases h2 with h2 | ⟨b2, rfl, hN, hlt, hc⟩
  · exact .inl h2
  · refine .inr ⟨b2, rfl, Nat.zero_le _, ?_⟩
    rcases h.2 with ⟨_, h⟩ | ⟨b, d, d0, rfl, R, h1, h3, rfl, S⟩
    · exact ⟨Nat.lt_of_lt_of_le hlt h.size, fun j u hj => (h.cell (p := ⟨b2, j, none⟩) hlt).trans (hc j u hj)⟩
    · have := hb b rfl
      have e := SWK.block S (c := b2) (by omega) hlt
      exact ⟨Nat.lt_of_lt_of_le hlt S.le, fun j u hj => (World.cell?_of_block (a := ⟨b2, j, none⟩) e).trans (hc j u hj)⟩
theorem own_bounds {w : World} {N e k n cap : Nat} {ao : Option Addr} {xs : List Value} (h : w.ownsRow N e k (.slice ao n cap) n xs) : ∀ b, ao = some ⟨b, 0, none⟩ → N ≤ b ∧ b < w.heap.size := fun b hb => by
  rcases h.2 with ⟨e, _⟩ | ⟨g, cap, cur, e, h1, h2, _⟩
  · simp only [Value.slice.injEq] at e; rw [hb] at e; simp at e
  · simp only [Value.slice.injEq] at e
    rw [hb] at e
    have : b = g := by simpa using e.1
    subst this
    exact ⟨h1, (Array.getElem?_eq_some_iff.1 h2).1⟩
theorem Lies.all {N : Nat} {w : World} {ao : Option Addr} {l : List Hd} (h : Lies Hd.enc N w ao l) {i : Nat} {x : Hd} (hx : l[i]? = some x) : ∃ b, ao = some ⟨b, 0, none⟩ ∧ w.cell? ⟨b, i * 5, none⟩ = some (.int .u8 x.id.y) ∧ w.cell? ⟨b, i * 5 + 1, none⟩ = some (.int .i64 x.id.n) ∧ w.cell? ⟨b, i * 5 + 2, none⟩ = some (.int .u8 x.b) := by
  obtain ⟨hi, rfl⟩ := List.getElem?_eq_some_iff.1 hx
  obtain ⟨b, h1, _, h3⟩ := h.at Hd.enc_len hi
  exact ⟨b, h1, h3 0 _ (by decide) rfl, h3 1 _ (by decide) rfl, h3 2 _ (by decide) rfl⟩
theorem Sw.step {d : Int} {l l' : List Hd} {M : List Cx} {i : Nat} {c : Cx} (h : Sw d l (M.drop i) l') (hc : M[i]? = some c) :
    ∃ P x y S, l = P ++ x :: y :: S ∧ c = ⟨x.id, y.id, if d = 1 then -1 else 1⟩ ∧ (x.b = if d = 1 then 1 else 0) ∧ (y.b = if d = 1 then 0 else 1) ∧ Sw d (P ++ y :: x :: S) (M.drop (i + 1)) l' := by
  obtain ⟨hi, rfl⟩ := List.getElem?_eq_some_iff.1 hc
  rw [List.drop_eq_getElem_cons hi] at h
  exact h
theorem swp_nbs {d : Array Hd} {P S : List Hd} {x y : Hd} (h : d.toList = P ++ x :: y :: S) : (swp d P.length (P.length + 1)).toList = P ++ y :: x :: S := by
  obtain ⟨l⟩ := d
  simp only at h
  subst h
  unfold swp
  have e1 : (P ++ x :: y :: S).toArray[P.length + 1]! = y := by simp
  have e2 : (P ++ x :: y :: S).toArray[P.length]! = x := by simp
  rw [e1, e2]
  simp
theorem swp_nbg {d : Array Hd} {P S : List Hd} {x y : Hd} (h : d.toList = P ++ x :: y :: S) : d[P.length]! = x ∧ d[P.length + 1]! = y := by
  obtain ⟨l⟩ := d
  simp only at h
  subst h
  exact ⟨by simp, by simp⟩
theorem drop_end {α : Type} {M : List α} {m : Nat} (h : M.length = m) : M.drop m = [] := List.drop_of_length_le (by omega)
end Go.Proofs.YtjjnhmbgffdenaaDoor
namespace Go.Proofs.YtjjnhmbgffdenaaDoor
open Go.RowKit Go.Sort Go.Shelf Go.Lib
set_option maxRecDepth 100000 in
set_option maxHeartbeats 16000000 in
/-- OrdersStep: a step to the left. -/
theorem stepl_0 (ao : Option Addr) (xs : List (Nat × Nat)) (cap : Nat) (r : Int) (w : World) (h : LieP w ao xs) (hs : Stp w) (hr : -3 ≤ r ∧ r ≤ 4) :
    Calls Tryd.prog 5 #[.slice ao xs.length cap, .int .i64 r, .int .u8 0] w fun e w' => e = .returned (.bool true) ∧ RowKit.Below w.heap.size w w' := by
  have HOF := Lib.hid (Of_any ao xs cap w h)
  have HTO := Lib.hid (ofM_ok xs)
  have HS := Lib.hid hs
  have HST := Lib.hid (fun (W : World) (hb : RowKit.Below w.heap.size w W) => lives_any W (hs.below hb hs.lt))
  obtain ⟨T, hT⟩ : ∃ T, ofM xs = T := ⟨_, rfl⟩
  rw [hT] at HOF HTO
  obtain ⟨N, hN⟩ : ∃ N, xs.length = N := ⟨_, rfl⟩
  rw [hN] at HOF ⊢
  have hok : okR r = true ∧ okR (r - 1) = true := by unfold okR; simp; omega
  have HOK := Lib.hid hok
  have hcs : checkStepM r 0 = 0 := by
    unfold checkStepM
    have e : r + stepD 0 = r - 1 := by rw [show stepD 0 = -1 from rfl]; try omega
    rw [if_pos hok.1, if_neg (by decide), e, if_pos hok.2]
  have HCS := Lib.hid hcs
  obtain ⟨L9, hsw, hid9⟩ := step_left T hr
  have honce := lst_once HTO.out hok.1
  have hn95 := lstH_len T HTO.out r 95
  obtain ⟨M, hM⟩ : ∃ M, stepM T r 0 (lstH T r 95) = M := ⟨_, rfl⟩
  rw [hM] at hsw
  obtain ⟨L, hL⟩ : ∃ L, lstH T r 95 = L := ⟨_, rfl⟩
  rw [hL] at hsw honce hn95
  obtain ⟨L2, hL2⟩ : ∃ L, lstH T (r - 1) 95 = L := ⟨_, rfl⟩
  rw [hL2] at hid9
  obtain ⟨n, hn⟩ : ∃ n, L.length = n := ⟨_, rfl⟩
  obtain ⟨m, hm⟩ : ∃ m, M.length = m := ⟨_, rfl⟩
  have hn2 : L2.length = n := by
    have h1 := congrArg List.length hid9
    rw [List.length_map, List.length_map] at h1
    rw [← h1, hsw.len, hn]
  have hn9 : n ≤ 30400 := by omega
  have hm9 : m ≤ 130000 := by
    have h1 := flat_len HTO.out r 0 (alongM (backs (lstH T r 95)) (oppM 0))
    have h2 : stepM T r 0 (lstH T r 95) = (alongM (backs (lstH T r 95)) (oppM 0)).flatMap (crs T r 0) := rfl
    have h3 := len_along (backs (lstH T r 95)) (oppM 0)
    have h4 := backs_len (lstH T r 95)
    rw [hL] at h1 h2 h3 h4 hM
    rw [← hm, ← hM, h2]
    omega
  have HM := Lib.hid hM
  have HL := Lib.hid hL
  have HL2 := Lib.hid hL2
  have HN := Lib.hid hn
  have HN2 := Lib.hid hn2
  have HMN := Lib.hid hm
  have HSW := Lib.hid hsw
  have HONCE := Lib.hid honce
  have HID := Lib.hid hid9
  have HT0 := Lib.hid True.intro
  have hq1 : ¬ (r < -4) := by omega
  have hq2 : ¬ (4 < r) := by omega
  have hq3 : (r == -4) = false := by simp; omega
  clear h hs hT hN hok hcs hsw honce hid9 hM hL hL2 hn hn2 hm hn95
  go_enter Tryd.func5, Tryd.ntmps5
  go_wp2_with (first
    | (go_at_call 9; refine HOF.out.mono ?_; rintro e w1 ⟨⟨⟨ga, gs, gc⟩, ⟨ka, ks, kc⟩⟩, rfl, hbd, hb1⟩; have HB1 := Lib.hid hb1; have hsW := Lib.hid (fun (W : World) (hb : RowKit.Below w1.heap.size w1 W) => HS.out.below (HB1.out.trans (hb.mono HB1.out.size)) HS.out.lt); have HBD := Lib.hid hbd.out; simp only [Bds.v, Bed.v]; have HA := Lib.hid (fun (W : World) (hb : RowKit.Below w1.heap.size w1 W) => step_good ⟨⟨ga, gs, gc⟩, ⟨ka, ks, kc⟩⟩ T r 0 w1.heap.size W (by decide) hb.size (HBD.out.2.2.1.below hb) HBD.out.1 HTO.out (hsW.out W hb) HCS.out M HM.out m HMN.out); simp only [Bds.v, Bed.v] at HA; have HLI := Lib.hid (fun (W : World) (hb : RowKit.Below w1.heap.size w1 W) => list_own ⟨⟨ga, gs, gc⟩, ⟨ka, ks, kc⟩⟩ T r w1.heap.size W hb.size (HBD.out.2.2.1.below hb) HBD.out.1 HTO.out HOK.out.1 L HL.out n HN.out); simp only [Bds.v, Bed.v] at HLI; have HLN := Lib.hid (fun (W : World) (hb : RowKit.Below w1.heap.size w1 W) => list_good ⟨⟨ga, gs, gc⟩, ⟨ka, ks, kc⟩⟩ T (r - 1) w1.heap.size W hb.size (HBD.out.2.2.1.below hb) HBD.out.1 HTO.out HOK.out.2 L2 HL2.out n HN2.out); simp only [Bds.v, Bed.v] at HLN; have bx := Boxed2.new w1 26 (.slice ga gs.length gc) (.slice ka ks.length kc); have hb0 := below1 w1 (.cells #[.slice ga gs.length gc, .slice ka ks.length kc] 26); obtain ⟨w2, hw2⟩ : ∃ w2, w1.alloc (.cells #[.slice ga gs.length gc, .slice ka ks.length kc] 26) = w2 := ⟨_, rfl⟩; rw [hw2] at bx hb0; have HBX := Lib.hid (fun (W : World) (hb : RowKit.Below w2.heap.size w2 W) => bx.below hb bx.lt); have HB := Lib.hid (Below.refl w2.heap.size w2); have HB0 := Lib.hid hb0; have x0 := bx.cell0; have x1 := bx.cell1; have HUP := Lib.hid (fun (W : World) (hb : RowKit.Below w2.heap.size w2 W) => HB0.out.trans (hb.mono HB0.out.size)); clear bx hb0 hbd hb1)
    | (go_at_call 16; refine (HA.out _ (HUP.out _ HB.out)).mono ?_; rintro e w3 ⟨ac, rfl, HLc, hb⟩; have HLC3 := HLc; replace HB := Lib.hid (HB.out.trans (hb.mono HB.out.size)); clear x0 x1; have x0 := (HBX.out _ HB.out).cell0; have x1 := (HBX.out _ HB.out).cell1; clear hb; have HBW3 := Lib.hid HB.out.size)
    | (go_at_call 10; have HQ := HT0; refine (HLI.out _ (HUP.out _ HB.out)).mono ?_; rintro e w4 ⟨al, cl, rfl, HRo, hb⟩; clear HT0 HQ; have HBB := Lib.hid (own_bounds HRo.out); have HS34 := Lib.hid hb; have HT1 := Lib.hid True.intro; replace HB := Lib.hid (HB.out.trans (hb.mono HB.out.size)); clear x0 x1; have x0 := (HBX.out _ HB.out).cell0; have x1 := (HBX.out _ HB.out).cell1; (try replace HLc := Lib.hid (HLc.out.below hb)); clear hb)
    | (go_at_call 10; have HQ := HT1; refine (HLN.out _ (HUP.out _ HB.out)).mono ?_; rintro e w5 ⟨ab, rfl, HLb, hb⟩; clear HT1 HQ; have HS45 := Lib.hid hb; replace HRo := Lib.hid (below_owns HRo.out hb); replace HB := Lib.hid (HB.out.trans (hb.mono HB.out.size)); clear x0 x1; have x0 := (HBX.out _ HB.out).cell0; have x1 := (HBX.out _ HB.out).cell1; (try replace HLc := Lib.hid (HLc.out.below hb)); clear hb))
  clear x0 x1 HA HLI HLN
  have HR0 := Lib.hid (RowAt.start HN.out HRo.out)
  have HLC5 := Lib.hid (fun (W : World) (Lq : List Hd) (h : RowAt n al w5 W Lq) => HLC3.out.below ((HS34.out.trans (HS45.out.mono HS34.out.size)).trans (h.below (fun b hb => (HBB.out b hb).1) (Nat.le_trans HS34.out.size HS45.out.size))))
  have HLB5 := Lib.hid (fun (W : World) (Lq : List Hd) (h : RowAt n al w5 W Lq) => h.other (fun b hb => (HBB.out b hb).2) HLb.out)
  have HBW := Lib.hid (fun (W : World) (Lq : List Hd) (h : RowAt n al w5 W Lq) => (h.below (fun b hb => Nat.le_trans (Nat.le_trans HB1.out.size (HUP.out _ (Below.refl _ _)).size) (Nat.le_trans HBW3.out (HBB.out b hb).1)) (Nat.le_trans HB1.out.size (Nat.le_trans (HUP.out _ HB.out).size (Nat.le_refl _))) : RowKit.Below w.heap.size w5 W))
  have HB5 := Lib.hid (HB1.out.trans ((HUP.out _ HB.out).mono HB1.out.size))
  clear HLC3 HLc HLb HRo HS34 HS45 HB HBX HUP HB0 HB1 HBD hsW HBB
  go_loopg [16] (m + 1) (fun g s16 wr => ∃ (i : Nat) (Lc : List Hd), s16 = .int .i64 i ∧ i ≤ m ∧ g = m + 1 - i ∧ Hid (RowAt n al w5 wr Lc) ∧ Hid (Sw 0 Lc (M.drop i) L9) ∧ Hid ((Lc.map (·.id)).Nodup))
  case atStart => exact ⟨0, L, rfl, by omega, by omega, HR0, HSW, HONCE⟩
  case round =>
    clear HR0 HSW HONCE
    obtain ⟨i, Lc, rfl, hi, hg, HR, HSW, HNO⟩ := hrel
    have HG := Lib.hid hg
    clear hg
    by_cases hlt : i < m
    · have hiz : (i : Int) < (m : Int) := by omega
      obtain ⟨c, hc⟩ : ∃ c, M[i]? = some c := ⟨M[i]'(by rw [HMN.out]; exact hlt), List.getElem?_eq_getElem _⟩
      obtain ⟨P, x, y, S, hP, hcx, hxb, hyb, hnx⟩ := HSW.out.step hc
      have hLn := HR.out.1
      rw [hP, List.length_append, List.length_cons, List.length_cons] at hLn
      obtain ⟨p, hp⟩ : ∃ p, P.length = p := ⟨_, rfl⟩
      obtain ⟨p1, hp1⟩ : ∃ p1, p + 1 = p1 := ⟨_, rfl⟩
      rw [hp] at hLn
      have hpn : p1 < n := by omega
      have hgx : Lc[p]? = some x := by rw [hP, ← hp]; simp
      have hgy : Lc[p1]? = some y := by rw [hP, ← hp1, ← hp]; simp
      have HGX := Lib.hid hgx
      have HGY := Lib.hid hgy
      have HON := Lib.hid (fun (k : Nat) (u : Hd) (h1 : Lc[k]? = some u) (h2 : u.id = x.id) => (at_only HNO.out hP h1 h2).trans hp)
      have HNX := Lib.hid hnx
      have HP := Lib.hid (And.intro hP hp)
      have HC := Lib.hid (hcx ▸ hc)
      have HP1 := Lib.hid hp1
      have hpz1 : (p : Int) + 1 = (p1 : Int) := by omega
      have hpz0 : (0 : Int) ≤ (p : Int) := by omega
      have hpz : (p : Int) < (n : Int) := by omega
      have hpz2 : (p1 : Int) < (n : Int) := by omega
      have hpz3 : ¬ ((p : Int) < 0) := by omega
      have hpp : p + 1 < n := by omega
      clear hnx hc hLn hgx hgy hP hp hcx hp1
      obtain ⟨⟨xy, xn⟩, xb, xa, xs⟩ := x
      obtain ⟨⟨yy, yn⟩, yb, ya, ys⟩ := y
      obtain rfl : xb = 0 := hxb
      obtain rfl : yb = 1 := hyb
      have HCL := Lib.hid (fun (W : World) (h : RowAt n al w5 W Lc) => (HLC5.out W Lc h).cr HC.out)
      obtain ⟨bc, rfl, _⟩ := HCL.out wr HR.out
      go_wp2_with fail
      go_loopg [17, 18] n (fun g s17 s18 wx => ∃ (k : Nat) (av : Int), s17 = .int .i64 av ∧ Hid (av = if p < k then (p : Int) else -1) ∧ s18 = .int .i64 k ∧ k + 1 ≤ n ∧ g = n - k ∧ Hid (RowAt n al w5 wx Lc))
      case atStart => exact ⟨0, -1, rfl, Lib.hid (by rw [if_neg (by omega)]), rfl, by omega, by omega, HR⟩
      case round =>
        clear HR
        obtain ⟨k, av, rfl, HAV, rfl, hk, hg2, HR⟩ := hrel
        have HG2 := Lib.hid hg2
        clear hg2
        obtain ⟨k1, hk1⟩ : ∃ k1, k + 1 = k1 := ⟨_, rfl⟩
        have hkz1 : (k : Int) + 1 = (k1 : Int) := by omega
        have HK1 := Lib.hid hk1
        clear hk1
        by_cases hlt2 : k1 < n
        · have hjz : (k1 : Int) < (n : Int) := by omega
          have hjz2 : (k : Int) < (n : Int) := by have := HK1.out; omega
          obtain ⟨b1, hb1, d0, d1, d2, d3, d4⟩ := HCL.out _ HR.out
          obtain rfl : bc = b1 := by simpa using hb1
          clear hb1
          obtain ⟨u, hu⟩ : ∃ u, Lc[k]? = some u := ⟨Lc[k]'(by rw [HR.out.1]; omega), List.getElem?_eq_getElem _⟩
          obtain ⟨v, hv⟩ : ∃ v, Lc[k1]? = some v := ⟨Lc[k1]'(by rw [HR.out.1]; omega), List.getElem?_eq_getElem _⟩
          obtain ⟨ba, hba, e0, e1, e2⟩ := HR.out.lies.all hu
          obtain ⟨ba', hba', f0, f1, f2⟩ := HR.out.lies.all hv
          obtain rfl : ba = ba' := by rw [hba] at hba'; simpa using hba'
          subst hba
          by_cases hkp : k = p
          · have h1 : u = ⟨⟨xy, xn⟩, 0, xa, xs⟩ := by have := HGX.out; rw [← hkp, hu] at this; simpa using this
            have h2 : v = ⟨⟨yy, yn⟩, 1, ya, ys⟩ := by have := HGY.out; rw [← HP1.out, ← hkp, HK1.out, hv] at this; simpa using this
            subst h1 h2
            simp only at e0 e1 e2 f0 f1 f2
            have heq := fun w => eql28 (y := xy) (n := xn) (y' := xy) (n' := xn) (sameNm_iff.2 rfl) w
            have heq2 := fun w => eql28 (y := yy) (n := yn) (y' := yy) (n' := yn) (sameNm_iff.2 rfl) w
            have HKP := Lib.hid hkp
            clear hkp hu hv
            go_upto_region 26 with fail
            go_quiet (fail)
            go_wp2_with fail
            go_roundg (n - (k + 1))
            case measure => have := HG2.out; omega
            case rel => exact ⟨k + 1, (k : Int), rfl, Lib.hid (by have := HKP.out; rw [if_pos (by omega)]; omega), by go_num, by have := HK1.out; omega, by omega, Lib.hid (HR.out.drew _)⟩
          · have hne : u.id ≠ ⟨xy, xn⟩ := fun h => hkp (HON.out k u hu h)
            obtain ⟨⟨uy, un⟩, ub, ua, us⟩ := u
            simp only at e0 e1 e2
            have heq := fun w => eql28 (y := uy) (n := un) (y' := xy) (n' := xn) (r := false) (by
              cases hq : sameNm uy un xy xn with
              | false => rfl
              | true => exact absurd (sameNm_iff.1 hq) hne) w
            have HKP := Lib.hid hkp
            clear hkp hu hv hne f0 f1 f2 e2 d2 d3 d4
            go_upto_region 26 with fail
            go_quiet (fail)
            go_wp2_with fail
            go_roundg (n - (k + 1))
            case measure => have := HG2.out; omega
            case rel => exact ⟨k + 1, av, rfl, Lib.hid (by
              have h1 := HKP.out
              rw [HAV.out]
              by_cases h2 : p < k
              · rw [if_pos h2, if_pos (by omega)]
              · rw [if_neg h2, if_neg (by omega)]), by go_num, by have := HK1.out; omega, by omega, Lib.hid (HR.out.drew _)⟩
        · have hkn : k1 = n := by have := HK1.out; omega
          have hjz : ¬ ((k1 : Int) < (n : Int)) := by omega
          have hav : av = (p : Int) := by rw [HAV.out, if_pos (by have := HK1.out; omega)]
          subst hav
          obtain ⟨b1, hb1, d0, d1, d2, d3, d4⟩ := HCL.out _ HR.out
          obtain rfl : bc = b1 := by simpa using hb1
          clear hb1
          have HR2 := HR
          obtain ⟨ba, hba, e0, e1, e2⟩ := HR.out.lies.all HGX.out
          obtain ⟨ba', hba', f0, f1, f2⟩ := HR.out.lies.all HGY.out
          obtain rfl : ba = ba' := by rw [hba] at hba'; simpa using hba'
          simp only at e0 e1 e2 f0 f1 f2 d0 d1 d2 d3 d4
          clear hkn
          subst hba
          have hsgz : (1 : Int) = 1 := rfl
          go_upto_region 33 with fail
          go_quiet (fail)
          go_upto_region 35 with fail
          clear d0 d1 d2 d3 d4 e0 e1 e2 f0 f1 f2
          rename_i nq
          have HRq := Lib.hid (HR2.out.drew nq)
          obtain ⟨wv, hwv⟩ : ∃ wv, wr.drewN nq = wv := ⟨_, rfl⟩
          rw [hwv] at HRq ⊢
          clear hwv
          rcases HRq.out.2 with ⟨h0, _⟩ | ⟨bq, dq, d0q, hbq, R, hs1, hs2, hdl, S0⟩
          · exfalso
            have h1 := HP.out.1
            rw [h0] at h1
            simp at h1
          · obtain rfl : bq = ba := by simpa using hbq.symm
            have HPL := HP
            obtain ⟨hP1, hP2⟩ := HP.out
            have hdl2 := hdl.trans hP1
            have hg1 := swp_nbg hdl2
            have hg2 := swp_nbs hdl2
            rw [hP2] at hg1 hg2
            rw [HP1.out] at hg1 hg2
            have HG3 := Lib.hid hg2
            have aE := aE40
            have mixed := mix40
            obtain ⟨kk, H5, Rk, S0k, zE⟩ : ∃ kk : Nat, Hid (5 = kk) ∧ RowK Hd.enc kk w5 bq 0 d0q ∧ SWK Hd.enc kk w5 bq 0 dq wv ∧ ∀ w, (Go.sizeOf 40).run Tryd.prog w = .ok kk w := ⟨5, Lib.hid rfl, R, S0, zE40⟩
            clear R S0
            have S1 : Aside (SWK Hd.enc kk w5 bq 0 dq wv) := S0k
            have S3 : Aside (SWK Hd.enc kk w5 bq 0 (swp dq p p1) ((wv.drew.setCells bq (0 + p * kk) (Hd.enc dq[p1]!)).setCells bq (0 + p1 * kk) (Hd.enc dq[p]!))) := S1.out.swapped Rk p p1 (by omega) (by omega)
            have l2a := S1.out.ld1 Rk (by omega) Tryd.prog p (by omega)
            have l2b := S1.out.ld1 Rk (by omega) Tryd.prog p1 (by omega)
            have s2a := S1.out.st1 Rk (by omega) Tryd.prog p (by omega) dq[p1]!
            have s2b := S1.out.st2 Rk (by omega) Tryd.prog p p1 (by omega) (by omega) dq[p1]! dq[p]!
            have n2a : (Hd.enc dq[p]!).length = kk := Rk.hk _
            have n2b : (Hd.enc dq[p1]!).length = kk := Rk.hk _
            simp only [Nat.zero_add] at S3 l2a l2b s2a s2b
            generalize Hd.enc dq[p]! = cI2 at S3 l2a s2b n2a
            generalize Hd.enc dq[p1]! = cJ2 at S3 l2b s2a s2b n2b
            have ea2a : ((p : Int)).toNat = p := by omega
            have ra2a : IntKind.i64.wrap ((p : Int)) = (p : Int) := by rw [IntKind.wrap_i64]; omega
            have ea2b : ((p1 : Int)).toNat = p1 := by omega
            have pa2b : (0 : Int) ≤ (p1 : Int) := by omega
            have ra2b : IntKind.i64.wrap ((p1 : Int)) = (p1 : Int) := by rw [IntKind.wrap_i64]; omega
            have ra2c : IntKind.i64.wrap ((p : Int) + 1) = (p1 : Int) := by rw [IntKind.wrap_i64]; omega
            have HDS := Lib.hid (And.intro hs1 hs2)
            have HR5 := Lib.hid Rk
            clear S1 S0k hdl hg1 hg2 hP1 hP2 hdl2 hbq hs1 hs2 Rk
            go_big_region_o
            clear l2a l2b s2a s2b
            generalize (wv.drew.setCells bq (p * kk) cJ2).setCells bq (p1 * kk) cI2 = wy at S3 ⊢
            have h5 := H5.out
            subst h5
            go_wp2_with fail
            go_roundg (m + 1 - (i + 1))
            case measure => have := HG.out; omega
            case rel =>
              refine ⟨i + 1, _, by go_num, by omega, by omega, Lib.hid ⟨?_, .inr ⟨bq, swp dq p p1, d0q, rfl, HR5.out, by rw [swp_size]; exact HDS.out.1, HDS.out.2, HG3.out, S3⟩⟩, HNX, Lib.hid ?_⟩
              · have h1 := HR2.out.1
                rw [HPL.out.1] at h1
                simpa using h1
              · have h1 := HNO.out
                rw [HPL.out.1] at h1
                refine (List.Perm.nodup_iff ?_).1 h1
                exact ((List.Perm.swap _ _ S).append_left P).map _
    · obtain rfl : i = m := by omega
      have hiz : ¬ ((i : Int) < (i : Int)) := by omega
      have hLc : Lc = L9 := by have h := HSW.out; rw [drop_end HMN.out] at h; exact h
      have HLC9 := Lib.hid hLc
      clear hLc HSW
      go_wp2_with fail
      go_loopg [20] (n + 1) (fun g s20 wx => ∃ k : Nat, s20 = .int .i64 k ∧ k ≤ n ∧ g = n + 1 - k ∧ Hid (RowAt n al w5 wx Lc))
      case atStart => exact ⟨0, rfl, by omega, by omega, HR⟩
      case round =>
        clear HR
        obtain ⟨k, rfl, hk, hg2, HR⟩ := hrel
        have HG2 := Lib.hid hg2
        clear hg2
        by_cases hlt2 : k < n
        · have hjz : (k : Int) < (n : Int) := by omega
          obtain ⟨u, hu⟩ : ∃ u, Lc[k]? = some u := ⟨Lc[k]'(by rw [HR.out.1]; omega), List.getElem?_eq_getElem _⟩
          obtain ⟨v, hv⟩ : ∃ v, L2[k]? = some v := ⟨L2[k]'(by rw [HN2.out]; omega), List.getElem?_eq_getElem _⟩
          have huv : v.id = u.id := by
            have h1 := congrArg (fun l : List Nm => l[k]?) HID.out
            simp only [List.getElem?_map] at h1
            rw [← HLC9.out, hu, hv] at h1
            simpa using h1.symm
          obtain ⟨ba, rfl, e0, e1, e2⟩ := HR.out.lies.all hu
          obtain ⟨bb, rfl, f0, f1, f2⟩ := (HLB5.out _ Lc HR.out).all hv
          rw [huv] at f0 f1
          obtain ⟨⟨uy, un⟩, ub, ua, us⟩ := u
          simp only at e0 e1 e2 f0 f1
          have heq := fun w => neq28 (y := uy) (n := un) (y' := uy) (n' := un) (sameNm_iff.2 rfl) w
          clear huv hu hv e2 f2
          go_upto_region 41 with fail
          go_quiet (fail)
          go_wp2_with fail
          go_roundg (n + 1 - (k + 1))
          case measure => have := HG2.out; omega
          case rel => exact ⟨k + 1, by go_num, by omega, by omega, Lib.hid (HR.out.drew _)⟩
        · obtain rfl : k = n := by omega
          have hjz : ¬ ((k : Int) < (k : Int)) := by omega
          go_wp2_with (go_at_call 11; refine (HST.out _ (HBW.out _ Lc HR.out |> HB5.out.trans)).mono ?_; rintro e w9 ⟨rfl, hb⟩; have HB9 := Lib.hid ((HB5.out.trans (HBW.out _ Lc HR.out)).trans (hb.mono (HB5.out.trans (HBW.out _ Lc HR.out)).size)); clear hb)
          go_ret
          exact ⟨rfl, HB9.out⟩
end Go.Proofs.YtjjnhmbgffdenaaDoor
namespace Go.Proofs.YtjjnhmbgffdenaaDoor
open Go.RowKit Go.Sort Go.Shelf Go.Lib
set_option maxRecDepth 100000 in
set_option maxHeartbeats 16000000 in
/-- OrdersStep: a step to the right. -/
theorem stepl_1 (ao : Option Addr) (xs : List (Nat × Nat)) (cap : Nat) (r : Int) (w : World) (h : LieP w ao xs) (hs : Stp w) (hr : -4 ≤ r ∧ r ≤ 3) :
    Calls Tryd.prog 5 #[.slice ao xs.length cap, .int .i64 r, .int .u8 1] w fun e w' => e = .returned (.bool true) ∧ RowKit.Below w.heap.size w w' := by
  have HOF := Lib.hid (Of_any ao xs cap w h)
  have HTO := Lib.hid (ofM_ok xs)
  have HS := Lib.hid hs
  have HST := Lib.hid (fun (W : World) (hb : RowKit.Below w.heap.size w W) => lives_any W (hs.below hb hs.lt))
  obtain ⟨T, hT⟩ : ∃ T, ofM xs = T := ⟨_, rfl⟩
  rw [hT] at HOF HTO
  obtain ⟨N, hN⟩ : ∃ N, xs.length = N := ⟨_, rfl⟩
  rw [hN] at HOF ⊢
  have hok : okR r = true ∧ okR (r + 1) = true := by unfold okR; simp; omega
  have HOK := Lib.hid hok
  have hcs : checkStepM r 1 = 0 := by
    unfold checkStepM
    have e : r + stepD 1 = r + 1 := by rw [show stepD 1 = 1 from rfl]; try omega
    rw [if_pos hok.1, if_neg (by decide), e, if_pos hok.2]
  have HCS := Lib.hid hcs
  obtain ⟨L9, hsw, hid9⟩ := step_right T hr
  have honce := lst_once HTO.out hok.1
  have hn95 := lstH_len T HTO.out r 95
  obtain ⟨M, hM⟩ : ∃ M, stepM T r 1 (lstH T r 95) = M := ⟨_, rfl⟩
  rw [hM] at hsw
  obtain ⟨L, hL⟩ : ∃ L, lstH T r 95 = L := ⟨_, rfl⟩
  rw [hL] at hsw honce hn95
  obtain ⟨L2, hL2⟩ : ∃ L, lstH T (r + 1) 95 = L := ⟨_, rfl⟩
  rw [hL2] at hid9
  obtain ⟨n, hn⟩ : ∃ n, L.length = n := ⟨_, rfl⟩
  obtain ⟨m, hm⟩ : ∃ m, M.length = m := ⟨_, rfl⟩
  have hn2 : L2.length = n := by
    have h1 := congrArg List.length hid9
    rw [List.length_map, List.length_map] at h1
    rw [← h1, hsw.len, hn]
  have hn9 : n ≤ 30400 := by omega
  have hm9 : m ≤ 130000 := by
    have h1 := flat_len HTO.out r 1 (alongM (backs (lstH T r 95)) (oppM 1))
    have h2 : stepM T r 1 (lstH T r 95) = (alongM (backs (lstH T r 95)) (oppM 1)).flatMap (crs T r 1) := rfl
    have h3 := len_along (backs (lstH T r 95)) (oppM 1)
    have h4 := backs_len (lstH T r 95)
    rw [hL] at h1 h2 h3 h4 hM
    rw [← hm, ← hM, h2]
    omega
  have HM := Lib.hid hM
  have HL := Lib.hid hL
  have HL2 := Lib.hid hL2
  have HN := Lib.hid hn
  have HN2 := Lib.hid hn2
  have HMN := Lib.hid hm
  have HSW := Lib.hid hsw
  have HONCE := Lib.hid honce
  have HID := Lib.hid hid9
  have HT0 := Lib.hid True.intro
  have hq1 : ¬ (r < -4) := by omega
  have hq2 : ¬ (4 < r) := by omega
  have hq3 : (r == 4) = false := by simp; omega
  clear h hs hT hN hok hcs hsw honce hid9 hM hL hL2 hn hn2 hm hn95
  go_enter Tryd.func5, Tryd.ntmps5
  go_wp2_with (first
    | (go_at_call 9; refine HOF.out.mono ?_; rintro e w1 ⟨⟨⟨ga, gs, gc⟩, ⟨ka, ks, kc⟩⟩, rfl, hbd, hb1⟩; have HB1 := Lib.hid hb1; have hsW := Lib.hid (fun (W : World) (hb : RowKit.Below w1.heap.size w1 W) => HS.out.below (HB1.out.trans (hb.mono HB1.out.size)) HS.out.lt); have HBD := Lib.hid hbd.out; simp only [Bds.v, Bed.v]; have HA := Lib.hid (fun (W : World) (hb : RowKit.Below w1.heap.size w1 W) => step_good ⟨⟨ga, gs, gc⟩, ⟨ka, ks, kc⟩⟩ T r 1 w1.heap.size W (by decide) hb.size (HBD.out.2.2.1.below hb) HBD.out.1 HTO.out (hsW.out W hb) HCS.out M HM.out m HMN.out); simp only [Bds.v, Bed.v] at HA; have HLI := Lib.hid (fun (W : World) (hb : RowKit.Below w1.heap.size w1 W) => list_own ⟨⟨ga, gs, gc⟩, ⟨ka, ks, kc⟩⟩ T r w1.heap.size W hb.size (HBD.out.2.2.1.below hb) HBD.out.1 HTO.out HOK.out.1 L HL.out n HN.out); simp only [Bds.v, Bed.v] at HLI; have HLN := Lib.hid (fun (W : World) (hb : RowKit.Below w1.heap.size w1 W) => list_good ⟨⟨ga, gs, gc⟩, ⟨ka, ks, kc⟩⟩ T (r + 1) w1.heap.size W hb.size (HBD.out.2.2.1.below hb) HBD.out.1 HTO.out HOK.out.2 L2 HL2.out n HN2.out); simp only [Bds.v, Bed.v] at HLN; have bx := Boxed2.new w1 26 (.slice ga gs.length gc) (.slice ka ks.length kc); have hb0 := below1 w1 (.cells #[.slice ga gs.length gc, .slice ka ks.length kc] 26); obtain ⟨w2, hw2⟩ : ∃ w2, w1.alloc (.cells #[.slice ga gs.length gc, .slice ka ks.length kc] 26) = w2 := ⟨_, rfl⟩; rw [hw2] at bx hb0; have HBX := Lib.hid (fun (W : World) (hb : RowKit.Below w2.heap.size w2 W) => bx.below hb bx.lt); have HB := Lib.hid (Below.refl w2.heap.size w2); have HB0 := Lib.hid hb0; have x0 := bx.cell0; have x1 := bx.cell1; have HUP := Lib.hid (fun (W : World) (hb : RowKit.Below w2.heap.size w2 W) => HB0.out.trans (hb.mono HB0.out.size)); clear bx hb0 hbd hb1)
    | (go_at_call 16; refine (HA.out _ (HUP.out _ HB.out)).mono ?_; rintro e w3 ⟨ac, rfl, HLc, hb⟩; have HLC3 := HLc; replace HB := Lib.hid (HB.out.trans (hb.mono HB.out.size)); clear x0 x1; have x0 := (HBX.out _ HB.out).cell0; have x1 := (HBX.out _ HB.out).cell1; clear hb; have HBW3 := Lib.hid HB.out.size)
    | (go_at_call 10; have HQ := HT0; refine (HLI.out _ (HUP.out _ HB.out)).mono ?_; rintro e w4 ⟨al, cl, rfl, HRo, hb⟩; clear HT0 HQ; have HBB := Lib.hid (own_bounds HRo.out); have HS34 := Lib.hid hb; have HT1 := Lib.hid True.intro; replace HB := Lib.hid (HB.out.trans (hb.mono HB.out.size)); clear x0 x1; have x0 := (HBX.out _ HB.out).cell0; have x1 := (HBX.out _ HB.out).cell1; (try replace HLc := Lib.hid (HLc.out.below hb)); clear hb)
    | (go_at_call 10; have HQ := HT1; refine (HLN.out _ (HUP.out _ HB.out)).mono ?_; rintro e w5 ⟨ab, rfl, HLb, hb⟩; clear HT1 HQ; have HS45 := Lib.hid hb; replace HRo := Lib.hid (below_owns HRo.out hb); replace HB := Lib.hid (HB.out.trans (hb.mono HB.out.size)); clear x0 x1; have x0 := (HBX.out _ HB.out).cell0; have x1 := (HBX.out _ HB.out).cell1; (try replace HLc := Lib.hid (HLc.out.below hb)); clear hb))
  clear x0 x1 HA HLI HLN
  have HR0 := Lib.hid (RowAt.start HN.out HRo.out)
  have HLC5 := Lib.hid (fun (W : World) (Lq : List Hd) (h : RowAt n al w5 W Lq) => HLC3.out.below ((HS34.out.trans (HS45.out.mono HS34.out.size)).trans (h.below (fun b hb => (HBB.out b hb).1) (Nat.le_trans HS34.out.size HS45.out.size))))
  have HLB5 := Lib.hid (fun (W : World) (Lq : List Hd) (h : RowAt n al w5 W Lq) => h.other (fun b hb => (HBB.out b hb).2) HLb.out)
  have HBW := Lib.hid (fun (W : World) (Lq : List Hd) (h : RowAt n al w5 W Lq) => (h.below (fun b hb => Nat.le_trans (Nat.le_trans HB1.out.size (HUP.out _ (Below.refl _ _)).size) (Nat.le_trans HBW3.out (HBB.out b hb).1)) (Nat.le_trans HB1.out.size (Nat.le_trans (HUP.out _ HB.out).size (Nat.le_refl _))) : RowKit.Below w.heap.size w5 W))
  have HB5 := Lib.hid (HB1.out.trans ((HUP.out _ HB.out).mono HB1.out.size))
  clear HLC3 HLc HLb HRo HS34 HS45 HB HBX HUP HB0 HB1 HBD hsW HBB
  go_loopg [16] (m + 1) (fun g s16 wr => ∃ (i : Nat) (Lc : List Hd), s16 = .int .i64 i ∧ i ≤ m ∧ g = m + 1 - i ∧ Hid (RowAt n al w5 wr Lc) ∧ Hid (Sw 1 Lc (M.drop i) L9) ∧ Hid ((Lc.map (·.id)).Nodup))
  case atStart => exact ⟨0, L, rfl, by omega, by omega, HR0, HSW, HONCE⟩
  case round =>
    clear HR0 HSW HONCE
    obtain ⟨i, Lc, rfl, hi, hg, HR, HSW, HNO⟩ := hrel
    have HG := Lib.hid hg
    clear hg
    by_cases hlt : i < m
    · have hiz : (i : Int) < (m : Int) := by omega
      obtain ⟨c, hc⟩ : ∃ c, M[i]? = some c := ⟨M[i]'(by rw [HMN.out]; exact hlt), List.getElem?_eq_getElem _⟩
      obtain ⟨P, x, y, S, hP, hcx, hxb, hyb, hnx⟩ := HSW.out.step hc
      have hLn := HR.out.1
      rw [hP, List.length_append, List.length_cons, List.length_cons] at hLn
      obtain ⟨p, hp⟩ : ∃ p, P.length = p := ⟨_, rfl⟩
      obtain ⟨p1, hp1⟩ : ∃ p1, p + 1 = p1 := ⟨_, rfl⟩
      rw [hp] at hLn
      have hpn : p1 < n := by omega
      have hgx : Lc[p]? = some x := by rw [hP, ← hp]; simp
      have hgy : Lc[p1]? = some y := by rw [hP, ← hp1, ← hp]; simp
      have HGX := Lib.hid hgx
      have HGY := Lib.hid hgy
      have HON := Lib.hid (fun (k : Nat) (u : Hd) (h1 : Lc[k]? = some u) (h2 : u.id = x.id) => (at_only HNO.out hP h1 h2).trans hp)
      have HNX := Lib.hid hnx
      have HP := Lib.hid (And.intro hP hp)
      have HC := Lib.hid (hcx ▸ hc)
      have HP1 := Lib.hid hp1
      have hpz1 : (p : Int) + 1 = (p1 : Int) := by omega
      have hpz0 : (0 : Int) ≤ (p : Int) := by omega
      have hpz : (p : Int) < (n : Int) := by omega
      have hpz2 : (p1 : Int) < (n : Int) := by omega
      have hpz3 : ¬ ((p : Int) < 0) := by omega
      have hpp : p + 1 < n := by omega
      clear hnx hc hLn hgx hgy hP hp hcx hp1
      obtain ⟨⟨xy, xn⟩, xb, xa, xs⟩ := x
      obtain ⟨⟨yy, yn⟩, yb, ya, ys⟩ := y
      obtain rfl : xb = 1 := hxb
      obtain rfl : yb = 0 := hyb
      have HCL := Lib.hid (fun (W : World) (h : RowAt n al w5 W Lc) => (HLC5.out W Lc h).cr HC.out)
      obtain ⟨bc, rfl, _⟩ := HCL.out wr HR.out
      go_wp2_with fail
      go_loopg [17, 18] n (fun g s17 s18 wx => ∃ (k : Nat) (av : Int), s17 = .int .i64 av ∧ Hid (av = if p < k then (p : Int) else -1) ∧ s18 = .int .i64 k ∧ k + 1 ≤ n ∧ g = n - k ∧ Hid (RowAt n al w5 wx Lc))
      case atStart => exact ⟨0, -1, rfl, Lib.hid (by rw [if_neg (by omega)]), rfl, by omega, by omega, HR⟩
      case round =>
        clear HR
        obtain ⟨k, av, rfl, HAV, rfl, hk, hg2, HR⟩ := hrel
        have HG2 := Lib.hid hg2
        clear hg2
        obtain ⟨k1, hk1⟩ : ∃ k1, k + 1 = k1 := ⟨_, rfl⟩
        have hkz1 : (k : Int) + 1 = (k1 : Int) := by omega
        have HK1 := Lib.hid hk1
        clear hk1
        by_cases hlt2 : k1 < n
        · have hjz : (k1 : Int) < (n : Int) := by omega
          have hjz2 : (k : Int) < (n : Int) := by have := HK1.out; omega
          obtain ⟨b1, hb1, d0, d1, d2, d3, d4⟩ := HCL.out _ HR.out
          obtain rfl : bc = b1 := by simpa using hb1
          clear hb1
          obtain ⟨u, hu⟩ : ∃ u, Lc[k]? = some u := ⟨Lc[k]'(by rw [HR.out.1]; omega), List.getElem?_eq_getElem _⟩
          obtain ⟨v, hv⟩ : ∃ v, Lc[k1]? = some v := ⟨Lc[k1]'(by rw [HR.out.1]; omega), List.getElem?_eq_getElem _⟩
          obtain ⟨ba, hba, e0, e1, e2⟩ := HR.out.lies.all hu
          obtain ⟨ba', hba', f0, f1, f2⟩ := HR.out.lies.all hv
          obtain rfl : ba = ba' := by rw [hba] at hba'; simpa using hba'
          subst hba
          by_cases hkp : k = p
          · have h1 : u = ⟨⟨xy, xn⟩, 1, xa, xs⟩ := by have := HGX.out; rw [← hkp, hu] at this; simpa using this
            have h2 : v = ⟨⟨yy, yn⟩, 0, ya, ys⟩ := by have := HGY.out; rw [← HP1.out, ← hkp, HK1.out, hv] at this; simpa using this
            subst h1 h2
            simp only at e0 e1 e2 f0 f1 f2
            have heq := fun w => eql28 (y := xy) (n := xn) (y' := xy) (n' := xn) (sameNm_iff.2 rfl) w
            have heq2 := fun w => eql28 (y := yy) (n := yn) (y' := yy) (n' := yn) (sameNm_iff.2 rfl) w
            have HKP := Lib.hid hkp
            clear hkp hu hv
            go_upto_region 26 with fail
            go_quiet (fail)
            go_wp2_with fail
            go_roundg (n - (k + 1))
            case measure => have := HG2.out; omega
            case rel => exact ⟨k + 1, (k : Int), rfl, Lib.hid (by have := HKP.out; rw [if_pos (by omega)]; omega), by go_num, by have := HK1.out; omega, by omega, Lib.hid (HR.out.drew _)⟩
          · have hne : u.id ≠ ⟨xy, xn⟩ := fun h => hkp (HON.out k u hu h)
            obtain ⟨⟨uy, un⟩, ub, ua, us⟩ := u
            simp only at e0 e1 e2
            have heq := fun w => eql28 (y := uy) (n := un) (y' := xy) (n' := xn) (r := false) (by
              cases hq : sameNm uy un xy xn with
              | false => rfl
              | true => exact absurd (sameNm_iff.1 hq) hne) w
            have HKP := Lib.hid hkp
            clear hkp hu hv hne f0 f1 f2 e2 d2 d3 d4
            go_upto_region 26 with fail
            go_quiet (fail)
            go_wp2_with fail
            go_roundg (n - (k + 1))
            case measure => have := HG2.out; omega
            case rel => exact ⟨k + 1, av, rfl, Lib.hid (by
              have h1 := HKP.out
              rw [HAV.out]
              by_cases h2 : p < k
              · rw [if_pos h2, if_pos (by omega)]
              · rw [if_neg h2, if_neg (by omega)]), by go_num, by have := HK1.out; omega, by omega, Lib.hid (HR.out.drew _)⟩
        · have hkn : k1 = n := by have := HK1.out; omega
          have hjz : ¬ ((k1 : Int) < (n : Int)) := by omega
          have hav : av = (p : Int) := by rw [HAV.out, if_pos (by have := HK1.out; omega)]
          subst hav
          obtain ⟨b1, hb1, d0, d1, d2, d3, d4⟩ := HCL.out _ HR.out
          obtain rfl : bc = b1 := by simpa using hb1
          clear hb1
          have HR2 := HR
          obtain ⟨ba, hba, e0, e1, e2⟩ := HR.out.lies.all HGX.out
          obtain ⟨ba', hba', f0, f1, f2⟩ := HR.out.lies.all HGY.out
          obtain rfl : ba = ba' := by rw [hba] at hba'; simpa using hba'
          simp only at e0 e1 e2 f0 f1 f2 d0 d1 d2 d3 d4
          clear hkn
          subst hba
          have hsgz : (-1 : Int) = -1 := rfl
          go_upto_region 33 with fail
          go_quiet (fail)
          go_upto_region 35 with fail
          clear d0 d1 d2 d3 d4 e0 e1 e2 f0 f1 f2
          rename_i nq
          have HRq := Lib.hid (HR2.out.drew nq)
          obtain ⟨wv, hwv⟩ : ∃ wv, wr.drewN nq = wv := ⟨_, rfl⟩
          rw [hwv] at HRq ⊢
          clear hwv
          rcases HRq.out.2 with ⟨h0, _⟩ | ⟨bq, dq, d0q, hbq, R, hs1, hs2, hdl, S0⟩
          · exfalso
            have h1 := HP.out.1
            rw [h0] at h1
            simp at h1
          · obtain rfl : bq = ba := by simpa using hbq.symm
            have HPL := HP
            obtain ⟨hP1, hP2⟩ := HP.out
            have hdl2 := hdl.trans hP1
            have hg1 := swp_nbg hdl2
            have hg2 := swp_nbs hdl2
            rw [hP2] at hg1 hg2
            rw [HP1.out] at hg1 hg2
            have HG3 := Lib.hid hg2
            have aE := aE40
            have mixed := mix40
            obtain ⟨kk, H5, Rk, S0k, zE⟩ : ∃ kk : Nat, Hid (5 = kk) ∧ RowK Hd.enc kk w5 bq 0 d0q ∧ SWK Hd.enc kk w5 bq 0 dq wv ∧ ∀ w, (Go.sizeOf 40).run Tryd.prog w = .ok kk w := ⟨5, Lib.hid rfl, R, S0, zE40⟩
            clear R S0
            have S1 : Aside (SWK Hd.enc kk w5 bq 0 dq wv) := S0k
            have S3 : Aside (SWK Hd.enc kk w5 bq 0 (swp dq p p1) ((wv.drew.setCells bq (0 + p * kk) (Hd.enc dq[p1]!)).setCells bq (0 + p1 * kk) (Hd.enc dq[p]!))) := S1.out.swapped Rk p p1 (by omega) (by omega)
            have l2a := S1.out.ld1 Rk (by omega) Tryd.prog p (by omega)
            have l2b := S1.out.ld1 Rk (by omega) Tryd.prog p1 (by omega)
            have s2a := S1.out.st1 Rk (by omega) Tryd.prog p (by omega) dq[p1]!
            have s2b := S1.out.st2 Rk (by omega) Tryd.prog p p1 (by omega) (by omega) dq[p1]! dq[p]!
            have n2a : (Hd.enc dq[p]!).length = kk := Rk.hk _
            have n2b : (Hd.enc dq[p1]!).length = kk := Rk.hk _
            simp only [Nat.zero_add] at S3 l2a l2b s2a s2b
            generalize Hd.enc dq[p]! = cI2 at S3 l2a s2b n2a
            generalize Hd.enc dq[p1]! = cJ2 at S3 l2b s2a s2b n2b
            have ea2a : ((p : Int)).toNat = p := by omega
            have ra2a : IntKind.i64.wrap ((p : Int)) = (p : Int) := by rw [IntKind.wrap_i64]; omega
            have ea2b : ((p1 : Int)).toNat = p1 := by omega
            have pa2b : (0 : Int) ≤ (p1 : Int) := by omega
            have ra2b : IntKind.i64.wrap ((p1 : Int)) = (p1 : Int) := by rw [IntKind.wrap_i64]; omega
            have ra2c : IntKind.i64.wrap ((p : Int) + 1) = (p1 : Int) := by rw [IntKind.wrap_i64]; omega
            have HDS := Lib.hid (And.intro hs1 hs2)
            have HR5 := Lib.hid Rk
            clear S1 S0k hdl hg1 hg2 hP1 hP2 hdl2 hbq hs1 hs2 Rk
            go_big_region_o
            clear l2a l2b s2a s2b
            generalize (wv.drew.setCells bq (p * kk) cJ2).setCells bq (p1 * kk) cI2 = wy at S3 ⊢
            have h5 := H5.out
            subst h5
            go_wp2_with fail
            go_roundg (m + 1 - (i + 1))
            case measure => have := HG.out; omega
            case rel =>
              refine ⟨i + 1, _, by go_num, by omega, by omega, Lib.hid ⟨?_, .inr ⟨bq, swp dq p p1, d0q, rfl, HR5.out, by rw [swp_size]; exact HDS.out.1, HDS.out.2, HG3.out, S3⟩⟩, HNX, Lib.hid ?_⟩
              · have h1 := HR2.out.1
                rw [HPL.out.1] at h1
                simpa using h1
              · have h1 := HNO.out
                rw [HPL.out.1] at h1
                refine (List.Perm.nodup_iff ?_).1 h1
                exact ((List.Perm.swap _ _ S).append_left P).map _
    · obtain rfl : i = m := by omega
      have hiz : ¬ ((i : Int) < (i : Int)) := by omega
      have hLc : Lc = L9 := by have h := HSW.out; rw [drop_end HMN.out] at h; exact h
      have HLC9 := Lib.hid hLc
      clear hLc HSW
      go_wp2_with fail
      go_loopg [20] (n + 1) (fun g s20 wx => ∃ k : Nat, s20 = .int .i64 k ∧ k ≤ n ∧ g = n + 1 - k ∧ Hid (RowAt n al w5 wx Lc))
      case atStart => exact ⟨0, rfl, by omega, by omega, HR⟩
      case round =>
        clear HR
        obtain ⟨k, rfl, hk, hg2, HR⟩ := hrel
        have HG2 := Lib.hid hg2
        clear hg2
        by_cases hlt2 : k < n
        · have hjz : (k : Int) < (n : Int) := by omega
          obtain ⟨u, hu⟩ : ∃ u, Lc[k]? = some u := ⟨Lc[k]'(by rw [HR.out.1]; omega), List.getElem?_eq_getElem _⟩
          obtain ⟨v, hv⟩ : ∃ v, L2[k]? = some v := ⟨L2[k]'(by rw [HN2.out]; omega), List.getElem?_eq_getElem _⟩
          have huv : v.id = u.id := by
            have h1 := congrArg (fun l : List Nm => l[k]?) HID.out
            simp only [List.getElem?_map] at h1
            rw [← HLC9.out, hu, hv] at h1
            simpa using h1.symm
          obtain ⟨ba, rfl, e0, e1, e2⟩ := HR.out.lies.all hu
          obtain ⟨bb, rfl, f0, f1, f2⟩ := (HLB5.out _ Lc HR.out).all hv
          rw [huv] at f0 f1
          obtain ⟨⟨uy, un⟩, ub, ua, us⟩ := u
          simp only at e0 e1 e2 f0 f1
          have heq := fun w => neq28 (y := uy) (n := un) (y' := uy) (n' := un) (sameNm_iff.2 rfl) w
          clear huv hu hv e2 f2
          go_upto_region 41 with fail
          go_quiet (fail)
          go_wp2_with fail
          go_roundg (n + 1 - (k + 1))
          case measure => have := HG2.out; omega
          case rel => exact ⟨k + 1, by go_num, by omega, by omega, Lib.hid (HR.out.drew _)⟩
        · obtain rfl : k = n := by omega
          have hjz : ¬ ((k : Int) < (k : Int)) := by omega
          go_wp2_with (go_at_call 11; refine (HST.out _ (HBW.out _ Lc HR.out |> HB5.out.trans)).mono ?_; rintro e w9 ⟨rfl, hb⟩; have HB9 := Lib.hid ((HB5.out.trans (HBW.out _ Lc HR.out)).trans (hb.mono (HB5.out.trans (HBW.out _ Lc HR.out)).size)); clear hb)
          go_ret
          exact ⟨rfl, HB9.out⟩
end Go.Proofs.YtjjnhmbgffdenaaDoor
namespace Go.Proofs.YtjjnhmbgffdenaaDoor
open Go.RowKit Go.Sort Go.Shelf Go.Lib
set_option maxRecDepth 100000 in
set_option maxHeartbeats 16000000 in
/-- OrdersStep: a step that is refused. -/
theorem stepl_bad (ao : Option Addr) (xs : List (Nat × Nat)) (cap : Nat) (r dd : Int) (w : World) (h : LieP w ao xs) (hs : Stp w) (hdd : 0 ≤ dd ∧ dd ≤ 255)
    (hc : (r < -4) ∨ (4 < r) ∨ (-4 ≤ r ∧ r ≤ 4 ∧ 1 < dd) ∨ (r = -4 ∧ dd = 0) ∨ (r = 4 ∧ dd = 1)) :
    Calls Tryd.prog 5 #[.slice ao xs.length cap, .int .i64 r, .int .u8 dd] w fun e w' => e = .returned (.bool true) ∧ RowKit.Below w.heap.size w w' := by
  have HOF := Lib.hid (Of_any ao xs cap w h)
  have HTO := Lib.hid (ofM_ok xs)
  have HS := Lib.hid hs
  have HST := Lib.hid (fun (W : World) (hb : RowKit.Below w.heap.size w W) => lives_any W (hs.below hb hs.lt))
  obtain ⟨T, hT⟩ : ∃ T, ofM xs = T := ⟨_, rfl⟩
  rw [hT] at HOF HTO
  obtain ⟨N, hN⟩ : ∃ N, xs.length = N := ⟨_, rfl⟩
  rw [hN] at HOF ⊢
  have HDD := Lib.hid hdd
  clear h hs hT hN
  rcases hc with hr1 | hr1 | ⟨hr1, hr2, hd1⟩ | ⟨rfl, rfl⟩ | ⟨rfl, rfl⟩
  · have HC : Hid (checkStepM r dd = 11) := Lib.hid (by unfold checkStepM; rw [if_neg]; unfold okR; simp; omega)
    go_enter Tryd.func5, Tryd.ntmps5
    go_wp2_with (first
      | (go_at_call 9; refine HOF.out.mono ?_; rintro e w1 ⟨⟨⟨ga, gs, gc⟩, ⟨ka, ks, kc⟩⟩, rfl, hbd, hb1⟩; have HB1 := Lib.hid hb1; have hsW := Lib.hid (fun (W : World) (hb : RowKit.Below w1.heap.size w1 W) => HS.out.below (HB1.out.trans (hb.mono HB1.out.size)) HS.out.lt); have HBD := Lib.hid hbd.out; simp only [Bds.v, Bed.v]; have HA := Lib.hid (fun (W : World) (hb : RowKit.Below w1.heap.size w1 W) => step_bad ⟨⟨ga, gs, gc⟩, ⟨ka, ks, kc⟩⟩ T r dd w1.heap.size W HDD.out hb.size (HBD.out.2.2.1.below hb) HBD.out.1 HTO.out (hsW.out W hb) 11 HC.out (by decide)); simp only [Bds.v, Bed.v] at HA; have bx := Boxed2.new w1 26 (.slice ga gs.length gc) (.slice ka ks.length kc); have hb0 := below1 w1 (.cells #[.slice ga gs.length gc, .slice ka ks.length kc] 26); obtain ⟨w2, hw2⟩ : ∃ w2, w1.alloc (.cells #[.slice ga gs.length gc, .slice ka ks.length kc] 26) = w2 := ⟨_, rfl⟩; rw [hw2] at bx hb0; have HBX := Lib.hid (fun (W : World) (hb : RowKit.Below w2.heap.size w2 W) => bx.below hb bx.lt); have HB := Lib.hid (Below.refl w2.heap.size w2); have HB0 := Lib.hid hb0; have x0 := bx.cell0; have x1 := bx.cell1; have HUP := Lib.hid (fun (W : World) (hb : RowKit.Below w2.heap.size w2 W) => HB0.out.trans (hb.mono HB0.out.size)); clear bx hb0 hbd hb1)
      | (go_at_call 16; refine (HA.out _ (HUP.out _ HB.out)).mono ?_; rintro e w3 ⟨rfl, hb⟩; replace HB := Lib.hid (HB.out.trans (hb.mono HB.out.size)); clear x0 x1; have x0 := (HBX.out _ HB.out).cell0; have x1 := (HBX.out _ HB.out).cell1; clear hb)
      | (go_at_call 11; refine (HST.out _ (HB1.out.trans ((HUP.out _ HB.out).mono HB1.out.size))).mono ?_; rintro e w4 ⟨rfl, hb⟩; replace HB := Lib.hid (HB.out.trans (hb.mono HB.out.size)); clear x0 x1; have x0 := (HBX.out _ HB.out).cell0; have x1 := (HBX.out _ HB.out).cell1; clear hb))
    go_ret
    exact ⟨rfl, HB1.out.trans ((HUP.out _ HB.out).mono HB1.out.size)⟩
  · have hr2 : ¬ (r < -4) := by omega
    have HC : Hid (checkStepM r dd = 11) := Lib.hid (by unfold checkStepM; rw [if_neg]; unfold okR; simp; omega)
    go_enter Tryd.func5, Tryd.ntmps5
    go_wp2_with (first
      | (go_at_call 9; refine HOF.out.mono ?_; rintro e w1 ⟨⟨⟨ga, gs, gc⟩, ⟨ka, ks, kc⟩⟩, rfl, hbd, hb1⟩; have HB1 := Lib.hid hb1; have hsW := Lib.hid (fun (W : World) (hb : RowKit.Below w1.heap.size w1 W) => HS.out.below (HB1.out.trans (hb.mono HB1.out.size)) HS.out.lt); have HBD := Lib.hid hbd.out; simp only [Bds.v, Bed.v]; have HA := Lib.hid (fun (W : World) (hb : RowKit.Below w1.heap.size w1 W) => step_bad ⟨⟨ga, gs, gc⟩, ⟨ka, ks, kc⟩⟩ T r dd w1.heap.size W HDD.out hb.size (HBD.out.2.2.1.below hb) HBD.out.1 HTO.out (hsW.out W hb) 11 HC.out (by decide)); simp only [Bds.v, Bed.v] at HA; have bx := Boxed2.new w1 26 (.slice ga gs.length gc) (.slice ka ks.length kc); have hb0 := below1 w1 (.cells #[.slice ga gs.length gc, .slice ka ks.length kc] 26); obtain ⟨w2, hw2⟩ : ∃ w2, w1.alloc (.cells #[.slice ga gs.length gc, .slice ka ks.length kc] 26) = w2 := ⟨_, rfl⟩; rw [hw2] at bx hb0; have HBX := Lib.hid (fun (W : World) (hb : RowKit.Below w2.heap.size w2 W) => bx.below hb bx.lt); have HB := Lib.hid (Below.refl w2.heap.size w2); have HB0 := Lib.hid hb0; have x0 := bx.cell0; have x1 := bx.cell1; have HUP := Lib.hid (fun (W : World) (hb : RowKit.Below w2.heap.size w2 W) => HB0.out.trans (hb.mono HB0.out.size)); clear bx hb0 hbd hb1)
      | (go_at_call 16; refine (HA.out _ (HUP.out _ HB.out)).mono ?_; rintro e w3 ⟨rfl, hb⟩; replace HB := Lib.hid (HB.out.trans (hb.mono HB.out.size)); clear x0 x1; have x0 := (HBX.out _ HB.out).cell0; have x1 := (HBX.out _ HB.out).cell1; clear hb)
      | (go_at_call 11; refine (HST.out _ (HB1.out.trans ((HUP.out _ HB.out).mono HB1.out.size))).mono ?_; rintro e w4 ⟨rfl, hb⟩; replace HB := Lib.hid (HB.out.trans (hb.mono HB.out.size)); clear x0 x1; have x0 := (HBX.out _ HB.out).cell0; have x1 := (HBX.out _ HB.out).cell1; clear hb))
    go_ret
    exact ⟨rfl, HB1.out.trans ((HUP.out _ HB.out).mono HB1.out.size)⟩
  · have hr3 : ¬ (r < -4) := by omega
    have hr4 : ¬ (4 < r) := by omega
    have HC : Hid (checkStepM r dd = 1) := Lib.hid (by unfold checkStepM; rw [if_pos (by unfold okR; simp; omega), if_pos (by omega)])
    go_enter Tryd.func5, Tryd.ntmps5
    go_wp2_with (first
      | (go_at_call 9; refine HOF.out.mono ?_; rintro e w1 ⟨⟨⟨ga, gs, gc⟩, ⟨ka, ks, kc⟩⟩, rfl, hbd, hb1⟩; have HB1 := Lib.hid hb1; have hsW := Lib.hid (fun (W : World) (hb : RowKit.Below w1.heap.size w1 W) => HS.out.below (HB1.out.trans (hb.mono HB1.out.size)) HS.out.lt); have HBD := Lib.hid hbd.out; simp only [Bds.v, Bed.v]; have HA := Lib.hid (fun (W : World) (hb : RowKit.Below w1.heap.size w1 W) => step_bad ⟨⟨ga, gs, gc⟩, ⟨ka, ks, kc⟩⟩ T r dd w1.heap.size W HDD.out hb.size (HBD.out.2.2.1.below hb) HBD.out.1 HTO.out (hsW.out W hb) 1 HC.out (by decide)); simp only [Bds.v, Bed.v] at HA; have bx := Boxed2.new w1 26 (.slice ga gs.length gc) (.slice ka ks.length kc); have hb0 := below1 w1 (.cells #[.slice ga gs.length gc, .slice ka ks.length kc] 26); obtain ⟨w2, hw2⟩ : ∃ w2, w1.alloc (.cells #[.slice ga gs.length gc, .slice ka ks.length kc] 26) = w2 := ⟨_, rfl⟩; rw [hw2] at bx hb0; have HBX := Lib.hid (fun (W : World) (hb : RowKit.Below w2.heap.size w2 W) => bx.below hb bx.lt); have HB := Lib.hid (Below.refl w2.heap.size w2); have HB0 := Lib.hid hb0; have x0 := bx.cell0; have x1 := bx.cell1; have HUP := Lib.hid (fun (W : World) (hb : RowKit.Below w2.heap.size w2 W) => HB0.out.trans (hb.mono HB0.out.size)); clear bx hb0 hbd hb1)
      | (go_at_call 16; refine (HA.out _ (HUP.out _ HB.out)).mono ?_; rintro e w3 ⟨rfl, hb⟩; replace HB := Lib.hid (HB.out.trans (hb.mono HB.out.size)); clear x0 x1; have x0 := (HBX.out _ HB.out).cell0; have x1 := (HBX.out _ HB.out).cell1; clear hb)
      | (go_at_call 11; refine (HST.out _ (HB1.out.trans ((HUP.out _ HB.out).mono HB1.out.size))).mono ?_; rintro e w4 ⟨rfl, hb⟩; replace HB := Lib.hid (HB.out.trans (hb.mono HB.out.size)); clear x0 x1; have x0 := (HBX.out _ HB.out).cell0; have x1 := (HBX.out _ HB.out).cell1; clear hb))
    go_ret
    exact ⟨rfl, HB1.out.trans ((HUP.out _ HB.out).mono HB1.out.size)⟩
  · have HC : Hid (checkStepM (-4) 0 = 11) := Lib.hid (by decide)
    go_enter Tryd.func5, Tryd.ntmps5
    go_wp2_with (first
      | (go_at_call 9; refine HOF.out.mono ?_; rintro e w1 ⟨⟨⟨ga, gs, gc⟩, ⟨ka, ks, kc⟩⟩, rfl, hbd, hb1⟩; have HB1 := Lib.hid hb1; have hsW := Lib.hid (fun (W : World) (hb : RowKit.Below w1.heap.size w1 W) => HS.out.below (HB1.out.trans (hb.mono HB1.out.size)) HS.out.lt); have HBD := Lib.hid hbd.out; simp only [Bds.v, Bed.v]; have HA := Lib.hid (fun (W : World) (hb : RowKit.Below w1.heap.size w1 W) => step_bad ⟨⟨ga, gs, gc⟩, ⟨ka, ks, kc⟩⟩ T (-4) 0 w1.heap.size W HDD.out hb.size (HBD.out.2.2.1.below hb) HBD.out.1 HTO.out (hsW.out W hb) 11 HC.out (by decide)); simp only [Bds.v, Bed.v] at HA; have bx := Boxed2.new w1 26 (.slice ga gs.length gc) (.slice ka ks.length kc); have hb0 := below1 w1 (.cells #[.slice ga gs.length gc, .slice ka ks.length kc] 26); obtain ⟨w2, hw2⟩ : ∃ w2, w1.alloc (.cells #[.slice ga gs.length gc, .slice ka ks.length kc] 26) = w2 := ⟨_, rfl⟩; rw [hw2] at bx hb0; have HBX := Lib.hid (fun (W : World) (hb : RowKit.Below w2.heap.size w2 W) => bx.below hb bx.lt); have HB := Lib.hid (Below.refl w2.heap.size w2); have HB0 := Lib.hid hb0; have x0 := bx.cell0; have x1 := bx.cell1; have HUP := Lib.hid (fun (W : World) (hb : RowKit.Below w2.heap.size w2 W) => HB0.out.trans (hb.mono HB0.out.size)); clear bx hb0 hbd hb1)
      | (go_at_call 16; refine (HA.out _ (HUP.out _ HB.out)).mono ?_; rintro e w3 ⟨rfl, hb⟩; replace HB := Lib.hid (HB.out.trans (hb.mono HB.out.size)); clear x0 x1; have x0 := (HBX.out _ HB.out).cell0; have x1 := (HBX.out _ HB.out).cell1; clear hb)
      | (go_at_call 11; refine (HST.out _ (HB1.out.trans ((HUP.out _ HB.out).mono HB1.out.size))).mono ?_; rintro e w4 ⟨rfl, hb⟩; replace HB := Lib.hid (HB.out.trans (hb.mono HB.out.size)); clear x0 x1; have x0 := (HBX.out _ HB.out).cell0; have x1 := (HBX.out _ HB.out).cell1; clear hb))
    go_ret
    exact ⟨rfl, HB1.out.trans ((HUP.out _ HB.out).mono HB1.out.size)⟩
  · have HC : Hid (checkStepM 4 1 = 11) := Lib.hid (by decide)
    go_enter Tryd.func5, Tryd.ntmps5
    go_wp2_with (first
      | (go_at_call 9; refine HOF.out.mono ?_; rintro e w1 ⟨⟨⟨ga, gs, gc⟩, ⟨ka, ks, kc⟩⟩, rfl, hbd, hb1⟩; have HB1 := Lib.hid hb1; have hsW := Lib.hid (fun (W : World) (hb : RowKit.Below w1.heap.size w1 W) => HS.out.below (HB1.out.trans (hb.mono HB1.out.size)) HS.out.lt); have HBD := Lib.hid hbd.out; simp only [Bds.v, Bed.v]; have HA := Lib.hid (fun (W : World) (hb : RowKit.Below w1.heap.size w1 W) => step_bad ⟨⟨ga, gs, gc⟩, ⟨ka, ks, kc⟩⟩ T 4 1 w1.heap.size W HDD.out hb.size (HBD.out.2.2.1.below hb) HBD.out.1 HTO.out (hsW.out W hb) 11 HC.out (by decide)); simp only [Bds.v, Bed.v] at HA; have bx := Boxed2.new w1 26 (.slice ga gs.length gc) (.slice ka ks.length kc); have hb0 := below1 w1 (.cells #[.slice ga gs.length gc, .slice ka ks.length kc] 26); obtain ⟨w2, hw2⟩ : ∃ w2, w1.alloc (.cells #[.slice ga gs.length gc, .slice ka ks.length kc] 26) = w2 := ⟨_, rfl⟩; rw [hw2] at bx hb0; have HBX := Lib.hid (fun (W : World) (hb : RowKit.Below w2.heap.size w2 W) => bx.below hb bx.lt); have HB := Lib.hid (Below.refl w2.heap.size w2); have HB0 := Lib.hid hb0; have x0 := bx.cell0; have x1 := bx.cell1; have HUP := Lib.hid (fun (W : World) (hb : RowKit.Below w2.heap.size w2 W) => HB0.out.trans (hb.mono HB0.out.size)); clear bx hb0 hbd hb1)
      | (go_at_call 16; refine (HA.out _ (HUP.out _ HB.out)).mono ?_; rintro e w3 ⟨rfl, hb⟩; replace HB := Lib.hid (HB.out.trans (hb.mono HB.out.size)); clear x0 x1; have x0 := (HBX.out _ HB.out).cell0; have x1 := (HBX.out _ HB.out).cell1; clear hb)
      | (go_at_call 11; refine (HST.out _ (HB1.out.trans ((HUP.out _ HB.out).mono HB1.out.size))).mono ?_; rintro e w4 ⟨rfl, hb⟩; replace HB := Lib.hid (HB.out.trans (hb.mono HB.out.size)); clear x0 x1; have x0 := (HBX.out _ HB.out).cell0; have x1 := (HBX.out _ HB.out).cell1; clear hb))
    go_ret
    exact ⟨rfl, HB1.out.trans ((HUP.out _ HB.out).mono HB1.out.size)⟩
end Go.Proofs.YtjjnhmbgffdenaaDoor
