import Derived.Test.YtjjnhmbgffdenaaDoorGap
namespace Go.Proofs.YtjjnhmbgffdenaaDoor
open Go.RowKit Go.Sort
section
variable {o : Oper} {a : Act} {w : World} {K : Act → World → Prop} {Q : Exit → Act → World → Prop} {x y : Operand}
theorem ld40 {b q : Nat} {v0 v1 v2 v3 v4 : Value} (hop : o.op = .load 40 x) (hx : a.eval x = .pointer (some ⟨b, q, none⟩)) (c0 : w.cell? ⟨b, q, none⟩ = some v0) (c1 : w.cell? ⟨b, q + 1, none⟩ = some v1) (c2 : w.cell? ⟨b, q + 2, none⟩ = some v2) (c3 : w.cell? ⟨b, q + 3, none⟩ = some v3) (c4 : w.cell? ⟨b, q + 4, none⟩ = some v4) (hK : K (a.put o.dst (.agg #[v0, v1, v2, v3, v4])) w) : o.wp Tryd.prog a w K Q := by
  exact step_val (by simp only [execOp, hop, hx]; go_simp) hK
end
/-- The cells of a head, in a later world. -/
theorem Lies.heads {N : Nat} {w : World} {ao : Option Addr} {l : List Hd} (h : Lies Hd.enc N w ao l) {i : Nat} (hi : i < l.length) : ∃ b, ao = some ⟨b, 0, none⟩ ∧ ∀ (W : World), Below w.heap.size w W → W.cell? ⟨b, 0 + i * 5, none⟩ = some (.int .u8 l[i].id.y) ∧ W.cell? ⟨b, 0 + i * 5 + 1, none⟩ = some (.int .i64 l[i].id.n) ∧ W.cell? ⟨b, 0 + i * 5 + 2, none⟩ = some (.int .u8 l[i].b) ∧ W.cell? ⟨b, 0 + i * 5 + 3, none⟩ = some (.int .i64 l[i].a) ∧ W.cell? ⟨b, 0 + i * 5 + 4, none⟩ = some (.int .i64 l[i].s) := by
  obtain ⟨b, h1, h2, h3⟩ := h.at Hd.enc_len hi
  refine ⟨b, h1, fun W hb => ?_⟩
  rw [Nat.zero_add]
  exact ⟨(hb.cell (p := ⟨b, i * 5, none⟩) h2).trans (h3 0 _ (by decide) rfl), (hb.cell (p := ⟨b, i * 5 + 1, none⟩) h2).trans (h3 1 _ (by decide) rfl), (hb.cell (p := ⟨b, i * 5 + 2, none⟩) h2).trans (h3 2 _ (by decide) rfl), (hb.cell (p := ⟨b, i * 5 + 3, none⟩) h2).trans (h3 3 _ (by decide) rfl), (hb.cell (p := ⟨b, i * 5 + 4, none⟩) h2).trans (h3 4 _ (by decide) rfl)⟩
theorem list_bad (d : Bds) (T : List (List Nm)) (r : Int) (B : Nat) (w : World) (hB : B ≤ w.heap.size) (hd : d.ok B w) (hr : Reads T d) (hT : TOk T) (h : okR r = false) :
    Calls Tryd.prog 10 #[d.v, .int .i64 r] w fun e w' => e = .returned (.tuple #[.slice none 0 0, .int .i64 11]) ∧ Below w.heap.size w w' := by
  refine (list_any d T r B w hB hd hr hT).mono ?_
  rintro e w' (⟨_, h1, h2⟩ | ⟨h1, _⟩)
  · exact ⟨h1, h2⟩
  · rw [h] at h1; cases h1
theorem list_good (d : Bds) (T : List (List Nm)) (r : Int) (B : Nat) (w : World) (hB : B ≤ w.heap.size) (hd : d.ok B w) (hr : Reads T d) (hT : TOk T) (h : okR r = true) (L : List Hd) (hL : lstH T r 95 = L) (n : Nat) (hn : L.length = n) :
    Calls Tryd.prog 10 #[d.v, .int .i64 r] w fun e w' => ∃ ao, e = .returned (.tuple #[.slice ao n n, .int .i64 0]) ∧ Hid (Lies Hd.enc w.heap.size w' ao L) ∧ Below w.heap.size w w' := by
  subst hn hL
  refine (list_any d T r B w hB hd hr hT).mono ?_
  rintro e w' (⟨h1, _⟩ | ⟨_, v, l, rfl, ho, ao, rfl, h2, hb⟩)
  · rw [h] at h1; cases h1
  · obtain rfl := ord_lst h ho.out
    exact ⟨ao, rfl, h2, hb⟩
theorem listed_L (d : Bds) (T : List (List Nm)) (r : Int) (B : Nat) (w : World) (hB : B ≤ w.heap.size) (hd : d.ok B w) (hr : Reads T d) (hT : TOk T) (L : List Hd) (hL : lstH T r 95 = L) (n : Nat) (hn : L.length = n) :
    Calls Tryd.prog 12 #[d.v, .int .i64 r] w fun e w' => ∃ ao cap, e = .returned (.slice ao n cap) ∧ Hid (Lies Hd.enc w.heap.size w' ao L) ∧ Below w.heap.size w w' := by
  subst hn hL
  refine (listed_any d T r B w hB hd hr hT).mono ?_
  rintro e w' ⟨v, rfl, h1, h2⟩
  obtain ⟨ao, cap, rfl, h3, h4⟩ := lies_of_own Hd.enc_len h1 rfl
  exact ⟨ao, cap, rfl, Lib.hid h3, h2⟩
def psiLl11 (b : Nat) (b2 : Nat) (n : Nat) (c2 : Nat) (kq : Nat) (py : Int) (pn : Int) (nb : Int) (na : Int) (sp : Int) : Nat → Value → World → Prop
  | 0, v9, _ => v9 = .slice (some ⟨b, 0, none⟩) n n
  | 1, v9, _ => v9 = .int .i64 (kq : Int)
  | 2, v9, _ => v9 = .pointer (some ⟨b, 0 + kq * 5, none⟩)
  | 3, v9, _ => v9 = .agg #[.int .u8 py, .int .i64 pn, .int .u8 nb, .int .i64 na, .int .i64 sp]
  | 4, v9, _ => v9 = .slice (some ⟨b2, 0, none⟩) n c2
  | 5, v9, _ => v9 = .int .i64 (kq : Int)
  | 6, v9, _ => v9 = .pointer (some ⟨b2, 0 + kq * 5, none⟩)
  | 7, v9, _ => v9 = .agg #[.int .u8 py, .int .i64 pn, .int .u8 nb, .int .i64 na, .int .i64 sp]
  | _, _, _ => True
theorem psiLl11_stab (b : Nat) (b2 : Nat) (n : Nat) (c2 : Nat) (kq : Nat) (py : Int) (pn : Int) (nb : Int) (na : Int) (sp : Int) (i9 : Nat) (v9 : Value) (w9 w9' : World) (h : psiLl11 b b2 n c2 kq py pn nb na sp i9 v9 w9) (_hb : Below w9.heap.size w9 w9') : psiLl11 b b2 n c2 kq py pn nb na sp i9 v9 w9' := by
  match i9, h with
  | 0, h => exact h
  | 1, h => exact h
  | 2, h => exact h
  | 3, h => exact h
  | 4, h => exact h
  | 5, h => exact h
  | 6, h => exact h
  | 7, h => exact h
  | i9 + 8, _ => exact trivial
set_option maxRecDepth 100000 in
set_option maxHeartbeats 8000000 in
/-- OrdersList: true. -/
theorem list_law (ao : Option Addr) (xs : List (Nat × Nat)) (cap : Nat) (r : Int) (w : World) (h : LieP w ao xs) (hs : Stp w) :
    Calls Tryd.prog 3 #[.slice ao xs.length cap, .int .i64 r] w fun e w' => e = .returned (.bool true) ∧ Below w.heap.size w w' := by
  have HOF := Lib.hid (Of_any ao xs cap w h)
  have HTO := Lib.hid (ofM_ok xs)
  have HST := Lib.hid (fun (W : World) (hb : RowKit.Below w.heap.size w W) => lives_any W (hs.below hb hs.lt))
  obtain ⟨T, hT⟩ : ∃ T, ofM xs = T := ⟨_, rfl⟩
  rw [hT] at HOF HTO
  obtain ⟨N, hN⟩ : ∃ N, xs.length = N := ⟨_, rfl⟩
  rw [hN] at HOF ⊢
  clear h hs hT hN
  by_cases hok : okR r = true
  · have HOK := Lib.hid hok
    obtain ⟨L, hL⟩ : ∃ L, lstH T r 95 = L := ⟨_, rfl⟩
    obtain ⟨n, hn⟩ : ∃ n, L.length = n := ⟨_, rfl⟩
    have hn9 : n ≤ 30400 := by rw [← hn, ← hL]; exact lstH_len T HTO.out r 95
    have HL := Lib.hid hL
    have HN := Lib.hid hn
    have hr4 : -4 ≤ r ∧ r ≤ 4 := by unfold okR at hok; simpa using hok
    clear hok hL hn
    go_enter Tryd.func3, Tryd.ntmps3
    go_wp2_with (first
      | (go_at_call 9; refine HOF.out.mono ?_; rintro e w1 ⟨⟨⟨ga, gs, gc⟩, ⟨ka, ks, kc⟩⟩, rfl, hbd, hb1⟩; have HB1 := Lib.hid hb1; have HBD := Lib.hid hbd.out; simp only [Bds.v, Bed.v]; have HLI := Lib.hid (fun (W : World) (hb : RowKit.Below w1.heap.size w1 W) => list_good ⟨⟨ga, gs, gc⟩, ⟨ka, ks, kc⟩⟩ T r w1.heap.size W hb.size (HBD.out.2.2.1.below hb) HBD.out.1 HTO.out HOK.out L HL.out n HN.out); have HLW := Lib.hid (fun (W : World) (hb : RowKit.Below w1.heap.size w1 W) => listed_L ⟨⟨ga, gs, gc⟩, ⟨ka, ks, kc⟩⟩ T r w1.heap.size W hb.size (HBD.out.2.2.1.below hb) HBD.out.1 HTO.out L HL.out n HN.out); simp only [Bds.v, Bed.v] at HLI HLW; have bx := Boxed2.new w1 26 (.slice ga gs.length gc) (.slice ka ks.length kc); have hb0 := below1 w1 (.cells #[.slice ga gs.length gc, .slice ka ks.length kc] 26); obtain ⟨w2, hw2⟩ : ∃ w2, w1.alloc (.cells #[.slice ga gs.length gc, .slice ka ks.length kc] 26) = w2 := ⟨_, rfl⟩; rw [hw2] at bx hb0; have HBX := Lib.hid (fun (W : World) (hb : RowKit.Below w2.heap.size w2 W) => bx.below hb bx.lt); have HB := Lib.hid (Below.refl w2.heap.size w2); have HB0 := Lib.hid hb0; have x0 := bx.cell0; have x1 := bx.cell1; have HUP := Lib.hid (fun (W : World) (hb : RowKit.Below w2.heap.size w2 W) => HB0.out.trans (hb.mono HB0.out.size)); clear bx hb0 hbd hb1)
      | (go_at_call 10; refine (HLI.out _ (HUP.out _ HB.out)).mono ?_; rintro e w3 ⟨al, rfl, HLa, hb⟩; replace HB := Lib.hid (HB.out.trans (hb.mono HB.out.size)); clear x0 x1; have x0 := (HBX.out _ HB.out).cell0; have x1 := (HBX.out _ HB.out).cell1; (try replace HLa := Lib.hid (HLa.out.below hb)); (try replace HLb := Lib.hid (HLb.out.below hb)); clear hb)
      | (go_at_call 12; refine (HLW.out _ (HUP.out _ HB.out)).mono ?_; rintro e w4 ⟨am, cm, rfl, HLb, hb⟩; replace HB := Lib.hid (HB.out.trans (hb.mono HB.out.size)); clear x0 x1; have x0 := (HBX.out _ HB.out).cell0; have x1 := (HBX.out _ HB.out).cell1; (try replace HLa := Lib.hid (HLa.out.below hb)); (try replace HLb := Lib.hid (HLb.out.below hb)); clear hb))
    clear x0 x1
    go_loopg [9] (n + 1) (fun g s9 wr => ∃ i : Nat, s9 = .int .i64 i ∧ i ≤ n ∧ g = n + 1 - i ∧ RowKit.Below w4.heap.size w4 wr)
    case atStart => exact ⟨0, rfl, by omega, by omega, Below.refl _ _⟩
    case round =>
      obtain ⟨i, rfl, hi, hg, hbr⟩ := hrel
      have HG := Lib.hid hg
      clear hg
      by_cases hlt : i < n
      · have hiz : (i : Int) < (n : Int) := by omega
        obtain ⟨b, rfl, hP⟩ := (HLa.out.below hbr).heads (i := i) (by rw [HN.out]; exact hlt)
        obtain ⟨b2, rfl, hQ⟩ := (HLb.out.below hbr).heads (i := i) (by rw [HN.out]; exact hlt)
        obtain ⟨x, hx⟩ : ∃ x, L[i]'(by rw [HN.out]; exact hlt) = x := ⟨_, rfl⟩
        simp only [hx] at hP hQ
        obtain ⟨⟨py, pn⟩, nb, na, sp⟩ := x
        simp only at hP hQ
        have HP := Lib.hid hP
        have HQ := Lib.hid hQ
        have HKN := Lib.hid hlt
        clear hP hQ hx
        go_upto_region 11 with fail
        refine rgT2 8 [some 59, some 60, some 61, some 62, some 63, some 64, some 65, some 66, some 67] (psiLl11 b b2 n cm i py pn nb na sp) (fun w' => RowKit.Below wr.heap.size wr w') (by kernel_rfl) (by kernel_rfl) (by kernel_rfl) (by kernel_rfl) (psiLl11_stab b b2 n cm i py pn nb na sp) (fun _ _ h hb => h.trans (hb.mono h.size)) (fun i9 o9 hi9 ho9 aq9 w1 hs hout hI hdep => ?_) ?_ ((Below.refl _ _).drew)
        · skip
          match i9, hi9, ho9 with
          | 0, _, ho9 =>
            obtain rfl := Option.some.inj ho9
            refine .inl ⟨rfl, fun K hK => ?_⟩
            exact st_move rfl ((hout 6 rfl).trans rfl) (hK _ _ (Below.refl _ _) rfl)
          | 1, _, ho9 =>
            obtain rfl := Option.some.inj ho9
            refine .inl ⟨rfl, fun K hK => ?_⟩
            exact st_move rfl ((hout 9 rfl).trans rfl) (hK _ _ (Below.refl _ _) rfl)
          | 2, _, ho9 =>
            obtain rfl := Option.some.inj ho9
            have dq0 : (aq9.tmps.getD 59 undef) = .slice (some ⟨b, 0, none⟩) n n := hdep ⟨0, .data⟩ (by simp) rfl _ rfl
            have dq1 : (aq9.tmps.getD 60 undef) = .int .i64 (i : Int) := hdep ⟨1, .data⟩ (by simp) rfl _ rfl
            refine .inl ⟨rfl, fun K hK => ?_⟩
            exact st_idx28 (k := i) rfl dq0 dq1 HKN.out (hK _ _ (Below.refl _ _) rfl)
          | 3, _, ho9 =>
            obtain rfl := Option.some.inj ho9
            have dq2 : (aq9.tmps.getD 61 undef) = .pointer (some ⟨b, 0 + i * 5, none⟩) := hdep ⟨2, .data⟩ (by simp) rfl _ rfl
            refine .inl ⟨rfl, fun K hK => ?_⟩
            exact ld40 rfl dq2 (HP.out _ hI).1 (HP.out _ hI).2.1 (HP.out _ hI).2.2.1 (HP.out _ hI).2.2.2.1 (HP.out _ hI).2.2.2.2 (hK _ _ (Below.refl _ _) rfl)
          | 4, _, ho9 =>
            obtain rfl := Option.some.inj ho9
            refine .inl ⟨rfl, fun K hK => ?_⟩
            exact st_move rfl ((hout 8 rfl).trans rfl) (hK _ _ (Below.refl _ _) rfl)
          | 5, _, ho9 =>
            obtain rfl := Option.some.inj ho9
            refine .inl ⟨rfl, fun K hK => ?_⟩
            exact st_move rfl ((hout 9 rfl).trans rfl) (hK _ _ (Below.refl _ _) rfl)
          | 6, _, ho9 =>
            obtain rfl := Option.some.inj ho9
            have dq4 : (aq9.tmps.getD 63 undef) = .slice (some ⟨b2, 0, none⟩) n cm := hdep ⟨4, .data⟩ (by simp) rfl _ rfl
            have dq5 : (aq9.tmps.getD 64 undef) = .int .i64 (i : Int) := hdep ⟨5, .data⟩ (by simp) rfl _ rfl
            refine .inl ⟨rfl, fun K hK => ?_⟩
            exact st_idx28 (k := i) rfl dq4 dq5 HKN.out (hK _ _ (Below.refl _ _) rfl)
          | 7, _, ho9 =>
            obtain rfl := Option.some.inj ho9
            have dq6 : (aq9.tmps.getD 65 undef) = .pointer (some ⟨b2, 0 + i * 5, none⟩) := hdep ⟨6, .data⟩ (by simp) rfl _ rfl
            refine .inl ⟨rfl, fun K hK => ?_⟩
            exact ld40 rfl dq6 (HQ.out _ hI).1 (HQ.out _ hI).2.1 (HQ.out _ hI).2.2.1 (HQ.out _ hI).2.2.2.1 (HQ.out _ hI).2.2.2.2 (hK _ _ (Below.refl _ _) rfl)
          | i9 + 8, hi9, _ => exact absurd hi9 (by omega)
        · intro a2 w2 hs hd hout hI hall
          obtain ⟨tmps, defers⟩ := a2
          have e_62 : (tmps.getD 62 undef) = .agg #[.int .u8 py, .int .i64 pn, .int .u8 nb, .int .i64 na, .int .i64 sp] := hall 3 _ (by decide) rfl
          have e_66 : (tmps.getD 66 undef) = .agg #[.int .u8 py, .int .i64 pn, .int .u8 nb, .int .i64 na, .int .i64 sp] := hall 7 _ (by decide) rfl
          simp only at hs hd hout
          have ef := frameAt [some 59, some 60, some 61, some 62, some 63, some 64, some 65, some 66, some 67] _ tmps hs hout
          obtain ⟨sv11, hu⟩ : ∃ u : Nat → Value, u = fun s => tmps.getD s undef := ⟨_, rfl⟩
          have eu_62 : sv11 62 = .agg #[.int .u8 py, .int .i64 pn, .int .u8 nb, .int .i64 na, .int .i64 sp] := by rw [hu]; exact e_62
          have eu_66 : sv11 66 = .agg #[.int .u8 py, .int .i64 pn, .int .u8 nb, .int .i64 na, .int .i64 sp] := by rw [hu]; exact e_66
          rw [← hu] at ef
          have ef2 : tmps = #[Value.slice ao N cap, Value.int IntKind.i64 r, undef, undef, u4, Value.pointer (some { block := w1.heap.size, off := 0 }), Value.slice (some { block := b, off := 0 }) n n, Value.int IntKind.i64 0, Value.slice (some { block := b2, off := 0 }) n cm, Value.int IntKind.i64 i, Value.slice ao N cap, Value.agg #[Value.slice ga gs.length gc, Value.slice ka ks.length kc], Value.tuple #[Value.slice (some { block := b, off := 0 }) n n, Value.int IntKind.i64 0], Value.agg #[Value.slice ga gs.length gc, Value.slice ka ks.length kc], Value.int IntKind.i64 r, Value.tuple #[Value.slice (some { block := b, off := 0 }) n n, Value.int IntKind.i64 0], Value.slice (some { block := b, off := 0 }) n n, Value.int IntKind.i64 0, Value.int IntKind.i64 r, Value.bool (decide (r < -4)), Value.bool (decide (r < -4)), Value.int IntKind.i64 r, Value.bool (decide (4 < r)), Value.bool (decide (r < -4) || decide (4 < r)), undef, undef, undef, undef, undef, undef, undef, undef, undef, undef, Value.agg #[Value.slice ga gs.length gc, Value.slice ka ks.length kc], Value.int IntKind.i64 r, Value.slice (some { block := b2, off := 0 }) n cm, Value.int IntKind.i64 0, Value.bool false, Value.bool false, Value.slice (some { block := b, off := 0 }) n n, Value.int IntKind.i64 n, Value.slice (some { block := b2, off := 0 }) n cm, Value.int IntKind.i64 n, Value.bool false, Value.bool false, Value.bool false, Value.slice (some { block := b, off := 0 }) n n, Value.int IntKind.i64 n, Value.slice (some { block := b, off := 0 }) n n, Value.int IntKind.i64 n, Value.bool false, Value.bool false, Value.int IntKind.i64 i, Value.slice (some { block := b, off := 0 }) n n, Value.int IntKind.i64 n, Value.bool true, u57, u58, (sv11 59), (sv11 60), (sv11 61), (sv11 62), (sv11 63), (sv11 64), (sv11 65), (sv11 66), (sv11 67), undef] := ef
          subst hd
          rw [eu_62, eu_66] at ef2
          rw [ef2]
          clear ef ef2 hu hs hout hall e_62 eu_62 e_66 eu_66
          simp only [List.drop_succ_cons, List.drop_zero]
          have hbr2 := hbr.trans (hI.mono hbr.size)
          clear HP HQ hI
          go_wp2_with fail
          go_roundg (n + 1 - (i + 1))
          case measure => have := HG.out; omega
          case rel => exact ⟨i + 1, by go_num, by omega, by omega, hbr2⟩
      · obtain rfl : i = n := by omega
        have hiz : ¬ ((i : Int) < (i : Int)) := by omega
        replace HB := Lib.hid (HB.out.trans (hbr.mono HB.out.size))
        have HLV := Lib.hid (HST.out _ (HB1.out.trans ((HUP.out _ HB.out).mono HB1.out.size)))
        clear HLa HLb HLI HLW
        go_wp2_with (go_at_call 11; refine HLV.out.mono ?_; rintro e w5 ⟨rfl, hb⟩; replace HB := Lib.hid (HB.out.trans (hb.mono HB.out.size)); clear hb)
        go_ret
        exact ⟨rfl, HB1.out.trans ((HUP.out _ HB.out).mono HB1.out.size)⟩
  · have HOK := Lib.hid (show okR r = false by simpa using hok)
    have hr4 : r < -4 ∨ 4 < r := by
      have := HOK.out
      unfold okR at this
      rcases Int.lt_or_le r (-4) with h1 | h1
      · exact .inl h1
      · refine .inr (Int.lt_of_not_ge fun h2 => ?_)
        simp at this
        omega
    clear hok
    rcases hr4 with hr4 | hr4
    all_goals (
      (try have hr5 : ¬ (r < -4) := by omega)
      go_enter Tryd.func3, Tryd.ntmps3
      go_wp2_with (first
        | (go_at_call 9; refine HOF.out.mono ?_; rintro e w1 ⟨⟨⟨ga, gs, gc⟩, ⟨ka, ks, kc⟩⟩, rfl, hbd, hb1⟩; have HB1 := Lib.hid hb1; have HBD := Lib.hid hbd.out; simp only [Bds.v, Bed.v]; have HLI := Lib.hid (fun (W : World) (hb : RowKit.Below w1.heap.size w1 W) => list_bad ⟨⟨ga, gs, gc⟩, ⟨ka, ks, kc⟩⟩ T r w1.heap.size W hb.size (HBD.out.2.2.1.below hb) HBD.out.1 HTO.out HOK.out); simp only [Bds.v, Bed.v] at HLI; have bx := Boxed2.new w1 26 (.slice ga gs.length gc) (.slice ka ks.length kc); have hb0 := below1 w1 (.cells #[.slice ga gs.length gc, .slice ka ks.length kc] 26); obtain ⟨w2, hw2⟩ : ∃ w2, w1.alloc (.cells #[.slice ga gs.length gc, .slice ka ks.length kc] 26) = w2 := ⟨_, rfl⟩; rw [hw2] at bx hb0; have HBX := Lib.hid (fun (W : World) (hb : RowKit.Below w2.heap.size w2 W) => bx.below hb bx.lt); have HB := Lib.hid (Below.refl w2.heap.size w2); have HB0 := Lib.hid hb0; have x0 := bx.cell0; have x1 := bx.cell1; have HUP := Lib.hid (fun (W : World) (hb : RowKit.Below w2.heap.size w2 W) => HB0.out.trans (hb.mono HB0.out.size)); clear bx hb0 hbd hb1)
        | (go_at_call 10; refine (HLI.out _ (HUP.out _ HB.out)).mono ?_; rintro e w3 ⟨rfl, hb⟩; replace HB := Lib.hid (HB.out.trans (hb.mono HB.out.size)); clear x0 x1; have x0 := (HBX.out _ HB.out).cell0; have x1 := (HBX.out _ HB.out).cell1; clear hb)
        | (go_at_call 11; refine (HST.out _ (HB1.out.trans ((HUP.out _ HB.out).mono HB1.out.size))).mono ?_; rintro e w4 ⟨rfl, hb⟩; replace HB := Lib.hid (HB.out.trans (hb.mono HB.out.size)); clear x0 x1; have x0 := (HBX.out _ HB.out).cell0; have x1 := (HBX.out _ HB.out).cell1; clear hb))
      go_ret
      exact ⟨rfl, HB1.out.trans ((HUP.out _ HB.out).mono HB1.out.size)⟩)
end Go.Proofs.YtjjnhmbgffdenaaDoor
