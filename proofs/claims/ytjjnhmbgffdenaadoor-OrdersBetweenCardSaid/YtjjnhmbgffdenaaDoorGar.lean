import Derived.Test.YtjjnhmbgffdenaaDoorGaq
import Derived.Test.YtjjnhmbgffdenaaDoorGap
import Derived.Deep.QuietTactic
import Derived.BigQuiet
namespace Go.Proofs.YtjjnhmbgffdenaaDoor
open Go.RowKit Go.Sort
section
variable {o : Oper} {a : Act} {w : World} {K : Act → World → Prop} {Q : Exit → Act → World → Prop} {x y : Operand}
theorem ld40 {b q : Nat} {v0 v1 v2 v3 v4 : Value} (hop : o.op = .load 40 x) (hx : a.eval x = .pointer (some ⟨b, q, none⟩)) (c0 : w.cell? ⟨b, q, none⟩ = some v0) (c1 : w.cell? ⟨b, q + 1, none⟩ = some v1) (c2 : w.cell? ⟨b, q + 2, none⟩ = some v2) (c3 : w.cell? ⟨b, q + 3, none⟩ = some v3) (c4 : w.cell? ⟨b, q + 4, none⟩ = some v4) (hK : K (a.put o.dst (.agg #[v0, v1, v2, v3, v4])) w) : o.wp Tryd.prog a w K Q := by
  exact step_val (by simp only [execOp, hop, hx]; go_simp) hK
end
/-- The cells of a head, in a later world. -/
theorem Lies.heads {N : Nat} {w : World} {ao : Option Addr} {l : List Hd} (h : Lies Hd.enc N w ao l) {i : Nat} (hi : i < l.length) : ∃ b, ao = some ⟨b, 0, none⟩ ∧ ∀ (W : World), Below w.heap.size w W → W.cell? ⟨b, 0 + i * 5, none⟩ = some (.int .u8 l[i].id.y) ∧ W.cell? ⟨b, 0 + i * 5 + 1, none⟩ = some (.int .i64 l[i].id.n) ∧ W.cell? ⟨b, 0 + i * 5 + 2, none⟩ = some (.int .u8 l[i].b) ∧ W.cell? ⟨b, 0 + i * 5 + 3, none⟩ = some (.int .i64 l[i].a) ∧ W.cell? ⟨b, 0 + i * 5 + 4, none⟩ = some (.int .i64 l[i].s) := by
  obtain ⟨b, h1, h2, h3⟩ := h.at Hd.enc_len hi
  refine ⟨b, h1, fun W hb => ?_⟩
  rw [Nat.zero_add]
  exact ⟨(hb.cell (p := ⟨b, i * 5, none⟩) h2).trans (h3 0 _ (by decide) rfl), (hb.cell (p := ⟨b, i * 5 + 1, none⟩) h2).trans (h3 1 _ (by decide) rfl), (hb.cell (p := ⟨b, i * 5 + 2, none⟩) h2).trans (h3 2 _ (by decide) rfl), (hb.cell (p := ⟨b, i * 5 + 3, none⟩) h2).trans (h3 3 _ (by decide) rfl), (hb.cell (p := ⟨b, i * 5 + 4, none⟩) h2).trans (h3 4 _ (by decide) rfl)⟩
theorem list_bad (d : Bds) (T : List (List Nm)) (r : Int) (B : Nat) (w : World) (hB : B ≤ w.heap.size) (hd : d.ok B w) (hr : Reads T d) (hT : TOk T) (h : okR r = false) :
    Calls Tryd.prog 10 #[d.v, .int .i64 r] w fun e w' => e = .returned (.tuple #[.slice none 0 0, .int .i64 11]) ∧ Below w.heap.size w w' := by
  refine (list_any d T r B w hB hd hr hT).mono ?_
  rintro e w' (⟨_, h1, h2⟩ | ⟨h1, _⟩)
  · exact ⟨h1, h2⟩
  · rw [h] at h1; cases h1
theorem list_good (d : Bds) (T : List (List Nm)) (r : Int) (B : Nat) (w : World) (hB : B ≤ w.heap.size) (hd : d.ok B w) (hr : Reads T d) (hT : TOk T) (h : okR r = true) (L : List Hd) (hL : lstH T r 95 = L) (n : Nat) (hn : L.length = n) :
    Calls Tryd.prog 10 #[d.v, .int .i64 r] w fun e w' => ∃ ao, e = .returned (.tuple #[.slice ao n n, .int .i64 0]) ∧ Hid (Lies Hd.enc w.heap.size w' ao L) ∧ Below w.heap.size w w' := by
  subst hn hL
  refine (list_any d T r B w hB hd hr hT).mono ?_
  rintro e w' (⟨h1, _⟩ | ⟨_, v, l, rfl, ho, ao, rfl, h2, hb⟩)
  · rw [h] at h1; cases h1
  · obtain rfl := ord_lst h ho.out
    exact ⟨ao, rfl, h2, hb⟩
theorem listed_L (d : Bds) (T : List (List Nm)) (r : Int) (B : Nat) (w : World) (hB : B ≤ w.heap.size) (hd : d.ok B w) (hr : Reads T d) (hT : TOk T) (L : List Hd) (hL : lstH T r 95 = L) (n : Nat) (hn : L.length = n) :
    Calls Tryd.prog 12 #[d.v, .int .i64 r] w fun e w' => ∃ ao cap, e = .returned (.slice ao n cap) ∧ Hid (Lies Hd.enc w.heap.size w' ao L) ∧ Below w.heap.size w w' := by
  subst hn hL
  refine (listed_any d T r B w hB hd hr hT).mono ?_
  rintro e w' ⟨v, rfl, h1, h2⟩
  obtain ⟨ao, cap, rfl, h3, h4⟩ := lies_of_own Hd.enc_len h1 rfl
  exact ⟨ao, cap, rfl, Lib.hid h3, h2⟩
def psiLl11 (b : Nat) (b2 : Nat) (n : Nat) (c2 : Nat) (kq : Nat) (py : Int) (pn : Int) (nb : Int) (na : Int) (sp : Int) : Nat → Value → World → Prop
  | 0, v9, _ => v9 = .slice (some ⟨b, 0, none⟩) n n
  | 1, v9, _ => v9 = .int .i64 (kq : Int)
  | 2, v9, _ => v9 = .pointer (some ⟨b, 0 + kq * 5, none⟩)
  | 3, v9, _ => v9 = .agg #[.int .u8 py, .int .i64 pn, .int .u8 nb, .int .i64 na, .int .i64 sp]
  | 4, v9, _ => v9 = .slice (some ⟨b2, 0, none⟩) n c2
  | 5, v9, _ => v9 = .int .i64 (kq : Int)
  | 6, v9, _ => v9 = .pointer (some ⟨b2, 0 + kq * 5, none⟩)
  | 7, v9, _ => v9 = .agg #[.int .u8 py, .int .i64 pn, .int .u8 nb, .int .i64 na, .int .i64 sp]
  | _, _, _ => True
theorem psiLl11_stab (b : Nat) (b2 : Nat) (n : Nat) (c2 : Nat) (kq : Nat) (py : Int) (pn : Int) (nb : Int) (na : Int) (sp : Int) (i9 : Nat) (v9 : Value) (w9 w9' : World) (h : psiLl11 b b2 n c2 kq py pn nb na sp i9 v9 w9) (_hb : Below w9.heap.size w9 w9') : psiLl11 b b2 n c2 kq py pn nb na sp i9 v9 w9' := by
  match i9, h with
  | 0, h => exact h
  | 1, h => exact h
  | 2, h => exact h
  | 3, h => exact h
  | 4, h => exact h
  | 5, h => exact h
  | 6, h => exact h
  | 7, h => exact h
  | i9 + 8, _ => exact trivial
set_option maxRecDepth 100000 in
set_option maxHeartbeats 8000000 in
/-- OrdersList: true. -/
theorem list_law (ao : Option Addr) (xs : List (Nat × Nat)) (cap : Nat) (r : Int) (w : World) (h : LieP w ao xs) (hs : Stp w) :
    Calls Tryd.prog 3 #[.slice ao xs.length cap, .int .i64 r] w fun e w' => e = .returned (.bool true) ∧ Below w.heap.size w w' := by
  have HOF := Lib.hid (Of_any ao xs cap w h)
  have HTO := Lib.hid (ofM_ok xs)
  have HST := Lib.hid (fun (W : World) (hb : RowKit.Below w.heap.size w W) => lives_any W (hs.below hb hs.lt))
  obtain ⟨T, hT⟩ : ∃ T, ofM xs = T := ⟨_, rfl⟩
  rw [hT] at HOF HTO
  obtain ⟨N, hN⟩ : ∃ N, xs.length = N := ⟨_, rfl⟩
  rw [hN] at HOF ⊢
  clear h hs hT hN
  by_cases hok : okR r = true
  · have HOK := Lib.hid hok
    obtain ⟨L, hL⟩ : ∃ L, lstH T r 95 = L := ⟨_, rfl⟩
    obtain ⟨n, hn⟩ : ∃ n, L.length = n := ⟨_, rfl⟩
    have hn9 : n ≤ 30400 := by rw [← hn, ← hL]; exact lstH_len T HTO.out r 95
    have HL := Lib.hid hL
    have HN := Lib.hid hn
    have hr4 : -4 ≤ r ∧ r ≤ 4 := by unfold okR at hok; simpa using hok
    clear hok hL hn
    go_enter Tryd.func3, Tryd.ntmps3
    go_wp2_with (first
      | (go_at_call 9; refine HOF.out.mono ?_; rintro e w1 ⟨⟨⟨ga, gs, gc⟩, ⟨ka, ks, kc⟩⟩, rfl, hbd, hb1⟩; have HB1 := Lib.hid hb1; have HBD := Lib.hid hbd.out; simp only [Bds.v, Bed.v]; have HLI := Lib.hid (fun (W : World) (hb : RowKit.Below w1.heap.size w1 W) => list_good ⟨⟨ga, gs, gc⟩, ⟨ka, ks, kc⟩⟩ T r w1.heap.size W hb.size (HBD.out.2.2.1.below hb) HBD.out.1 HTO.out HOK.out L HL.out n HN.out); have HLW := Lib.hid (fun (W : World) (hb : RowKit.Below w1.heap.size w1 W) => listed_L ⟨⟨ga, gs, gc⟩, ⟨ka, ks, kc⟩⟩ T r w1.heap.size W hb.size (HBD.out.2.2.1.below hb) HBD.out.1 HTO.out L HL.out n HN.out); simp only [Bds.v, Bed.v] at HLI HLW; have bx := Boxed2.new w1 26 (.slice ga gs.length gc) (.slice ka ks.length kc); have hb0 := below1 w1 (.cells #[.slice ga gs.length gc, .slice ka ks.length kc] 26); obtain ⟨w2, hw2⟩ : ∃ w2, w1.alloc (.cells #[.slice ga gs.length gc, .slice ka ks.length kc] 26) = w2 := ⟨_, rfl⟩; rw [hw2] at bx hb0; have HBX := Lib.hid (fun (W : World) (hb : RowKit.Below w2.heap.size w2 W) => bx.below hb bx.lt); have HB := Lib.hid (Below.refl w2.heap.size w2); have HB0 := Lib.hid hb0; have x0 := bx.cell0; have x1 := bx.cell1; have HUP := Lib.hid (fun (W : World) (hb : RowKit.Below w2.heap.size w2 W) => HB0.out.trans (hb.mono HB0.out.size)); clear bx hb0 hbd hb1)
      | (go_at_call 10; refine (HLI.out _ (HUP.out _ HB.out)).mono ?_; rintro e w3 ⟨al, rfl, HLa, hb⟩; replace HB := Lib.hid (HB.out.trans (hb.mono HB.out.size)); clear x0 x1; have x0 := (HBX.out _ HB.out).cell0; have x1 := (HBX.out _ HB.out).cell1; (try replace HLa := Lib.hid (HLa.out.below hb)); (try replace HLb := Lib.hid (HLb.out.below hb)); clear hb)
      | (go_at_call 12; refine (HLW.out _ (HUP.out _ HB.out)).mono ?_; rintro e w4 ⟨am, cm, rfl, HLb, hb⟩; replace HB := Lib.hid (HB.out.trans (hb.mono HB.out.size)); clear x0 x1; have x0 := (HBX.out _ HB.out).cell0; have x1 := (HBX.out _ HB.out).cell1; (try replace HLa := Lib.hid (HLa.out.below hb)); (try replace HLb := Lib.hid (HLb.out.below hb)); clear hb))
    clear x0 x1
    go_loopg [9] (n + 1) (fun g s9 wr => ∃ i : Nat, s9 = .int .i64 i ∧ i ≤ n ∧ g = n + 1 - i ∧ RowKit.Below w4.heap.size w4 wr)
    case atStart => exact ⟨0, rfl, by omega, by omega, Below.refl _ _⟩
    case round =>
      obtain ⟨i, rfl, hi, hg, hbr⟩ := hrel
      have HG := Lib.hid hg
      clear hg
      by_cases hlt : i < n
      · have hiz : (i : Int) < (n : Int) := by omega
        obtain ⟨b, rfl, hP⟩ := (HLa.out.below hbr).heads (i := i) (by rw [HN.out]; exact hlt)
        obtain ⟨b2, rfl, hQ⟩ := (HLb.out.below hbr).heads (i := i) (by rw [HN.out]; exact hlt)
        obtain ⟨x, hx⟩ : ∃ x, L[i]'(by rw [HN.out]; exact hlt) = x := ⟨_, rfl⟩
        simp only [hx] at hP hQ
        obtain ⟨⟨py, pn⟩, nb, na, sp⟩ := x
        simp only at hP hQ
        have HP := Lib.hid hP
        have HQ := Lib.hid hQ
        have HKN := Lib.hid hlt
        clear hP hQ hx
        go_upto_region 11 with fail
        refine rgT2 8 [some 59, some 60, some 61, some 62, some 63, some 64, some 65, some 66, some 67] (psiLl11 b b2 n cm i py pn nb na sp) (fun w' => RowKit.Below wr.heap.size wr w') (by kernel_rfl) (by kernel_rfl) (by kernel_rfl) (by kernel_rfl) (psiLl11_stab b b2 n cm i py pn nb na sp) (fun _ _ h hb => h.trans (hb.mono h.size)) (fun i9 o9 hi9 ho9 aq9 w1 hs hout hI hdep => ?_) ?_ ((Below.refl _ _).drew)
        · skip
          match i9, hi9, ho9 with
          | 0, _, ho9 =>
            obtain rfl := Option.some.inj ho9
            refine .inl ⟨rfl, fun K hK => ?_⟩
            exact st_move rfl ((hout 6 rfl).trans rfl) (hK _ _ (Below.refl _ _) rfl)
          | 1, _, ho9 =>
            obtain rfl := Option.some.inj ho9
            refine .inl ⟨rfl, fun K hK => ?_⟩
            exact st_move rfl ((hout 9 rfl).trans rfl) (hK _ _ (Below.refl _ _) rfl)
          | 2, _, ho9 =>
            obtain rfl := Option.some.inj ho9
            have dq0 : (aq9.tmps.getD 59 undef) = .slice (some ⟨b, 0, none⟩) n n := hdep ⟨0, .data⟩ (by simp) rfl _ rfl
            have dq1 : (aq9.tmps.getD 60 undef) = .int .i64 (i : Int) := hdep ⟨1, .data⟩ (by simp) rfl _ rfl
            refine .inl ⟨rfl, fun K hK => ?_⟩
            exact st_idx28 (k := i) rfl dq0 dq1 HKN.out (hK _ _ (Below.refl _ _) rfl)
          | 3, _, ho9 =>
            obtain rfl := Option.some.inj ho9
            have dq2 : (aq9.tmps.getD 61 undef) = .pointer (some ⟨b, 0 + i * 5, none⟩) := hdep ⟨2, .data⟩ (by simp) rfl _ rfl
            refine .inl ⟨rfl, fun K hK => ?_⟩
            exact ld40 rfl dq2 (HP.out _ hI).1 (HP.out _ hI).2.1 (HP.out _ hI).2.2.1 (HP.out _ hI).2.2.2.1 (HP.out _ hI).2.2.2.2 (hK _ _ (Below.refl _ _) rfl)
          | 4, _, ho9 =>
            obtain rfl := Option.some.inj ho9
            refine .inl ⟨rfl, fun K hK => ?_⟩
            exact st_move rfl ((hout 8 rfl).trans rfl) (hK _ _ (Below.refl _ _) rfl)
          | 5, _, ho9 =>
            obtain rfl := Option.some.inj ho9
            refine .inl ⟨rfl, fun K hK => ?_⟩
            exact st_move rfl ((hout 9 rfl).trans rfl) (hK _ _ (Below.refl _ _) rfl)
          | 6, _, ho9 =>
            obtain rfl := Option.some.inj ho9
            have dq4 : (aq9.tmps.getD 63 undef) = .slice (some ⟨b2, 0, none⟩) n cm := hdep ⟨4, .data⟩ (by simp) rfl _ rfl
            have dq5 : (aq9.tmps.getD 64 undef) = .int .i64 (i : Int) := hdep ⟨5, .data⟩ (by simp) rfl _ rfl
            refine .inl ⟨rfl, fun K hK => ?_⟩
            exact st_idx28 (k := i) rfl dq4 dq5 HKN.out (hK _ _ (Below.refl _ _) rfl)
          | 7, _, ho9 =>
            obtain rfl := Option.some.inj ho9
            have dq6 : (aq9.tmps.getD 65 undef) = .pointer (some ⟨b2, 0 + i * 5, none⟩) := hdep ⟨6, .data⟩ (by simp) rfl _ rfl
            refine .inl ⟨rfl, fun K hK => ?_⟩
            exact ld40 rfl dq6 (HQ.out _ hI).1 (HQ.out _ hI).2.1 (HQ.out _ hI).2.2.1 (HQ.out _ hI).2.2.2.1 (HQ.out _ hI).2.2.2.2 (hK _ _ (Below.refl _ _) rfl)
          | i9 + 8, hi9, _ => exact absurd hi9 (by omega)
        · intro a2 w2 hs hd hout hI hall
          obtain ⟨tmps, defers⟩ := a2
          have e_62 : (tmps.getD 62 undef) = .agg #[.int .u8 py, .int .i64 pn, .int .u8 nb, .int .i64 na, .int .i64 sp] := hall 3 _ (by decide) rfl
          have e_66 : (tmps.getD 66 undef) = .agg #[.int .u8 py, .int .i64 pn, .int .u8 nb, .int .i64 na, .int .i64 sp] := hall 7 _ (by decide) rfl
          simp only at hs hd hout
          have ef := frameAt [some 59, some 60, some 61, some 62, some 63, some 64, some 65, some 66, some 67] _ tmps hs hout
          obtain ⟨sv11, hu⟩ : ∃ u : Nat → Value, u = fun s => tmps.getD s undef := ⟨_, rfl⟩
          have eu_62 : sv11 62 = .agg #[.int .u8 py, .int .i64 pn, .int .u8 nb, .int .i64 na, .int .i64 sp] := by rw [hu]; exact e_62
          have eu_66 : sv11 66 = .agg #[.int .u8 py, .int .i64 pn, .int .u8 nb, .int .i64 na, .int .i64 sp] := by rw [hu]; exact e_66
          rw [← hu] at ef
          have ef2 : tmps = #[Value.slice ao N cap, Value.int IntKind.i64 r, undef, undef, u4, Value.pointer (some { block := w1.heap.size, off := 0 }), Value.slice (some { block := b, off := 0 }) n n, Value.int IntKind.i64 0, Value.slice (some { block := b2, off := 0 }) n cm, Value.int IntKind.i64 i, Value.slice ao N cap, Value.agg #[Value.slice ga gs.length gc, Value.slice ka ks.length kc], Value.tuple #[Value.slice (some { block := b, off := 0 }) n n, Value.int IntKind.i64 0], Value.agg #[Value.slice ga gs.length gc, Value.slice ka ks.length kc], Value.int IntKind.i64 r, Value.tuple #[Value.slice (some { block := b, off := 0 }) n n, Value.int IntKind.i64 0], Value.slice (some { block := b, off := 0 }) n n, Value.int IntKind.i64 0, Value.int IntKind.i64 r, Value.bool (decide (r < -4)), Value.bool (decide (r < -4)), Value.int IntKind.i64 r, Value.bool (decide (4 < r)), Value.bool (decide (r < -4) || decide (4 < r)), undef, undef, undef, undef, undef, undef, undef, undef, undef, undef, Value.agg #[Value.slice ga gs.length gc, Value.slice ka ks.length kc], Value.int IntKind.i64 r, Value.slice (some { block := b2, off := 0 }) n cm, Value.int IntKind.i64 0, Value.bool false, Value.bool false, Value.slice (some { block := b, off := 0 }) n n, Value.int IntKind.i64 n, Value.slice (some { block := b2, off := 0 }) n cm, Value.int IntKind.i64 n, Value.bool false, Value.bool false, Value.bool false, Value.slice (some { block := b, off := 0 }) n n, Value.int IntKind.i64 n, Value.slice (some { block := b, off := 0 }) n n, Value.int IntKind.i64 n, Value.bool false, Value.bool false, Value.int IntKind.i64 i, Value.slice (some { block := b, off := 0 }) n n, Value.int IntKind.i64 n, Value.bool true, u57, u58, (sv11 59), (sv11 60), (sv11 61), (sv11 62), (sv11 63), (sv11 64), (sv11 65), (sv11 66), (sv11 67), undef] := ef
          subst hd
          rw [eu_62, eu_66] at ef2
          rw [ef2]
          clear ef ef2 hu hs hout hall e_62 eu_62 e_66 eu_66
          simp only [List.drop_succ_cons, List.drop_zero]
          have hbr2 := hbr.trans (hI.mono hbr.size)
          clear HP HQ hI
          go_wp2_with fail
          go_roundg (n + 1 - (i + 1))
          case measure => have := HG.out; omega
          case rel => exact ⟨i + 1, by go_num, by omega, by omega, hbr2⟩
      · obtain rfl : i = n := by omega
        have hiz : ¬ ((i : Int) < (i : Int)) := by omega
        replace HB := Lib.hid (HB.out.trans (hbr.mono HB.out.size))
        have HLV := Lib.hid (HST.out _ (HB1.out.trans ((HUP.out _ HB.out).mono HB1.out.size)))
        clear HLa HLb HLI HLW
        go_wp2_with (go_at_call 11; refine HLV.out.mono ?_; rintro e w5 ⟨rfl, hb⟩; replace HB := Lib.hid (HB.out.trans (hb.mono HB.out.size)); clear hb)
        go_ret
        exact ⟨rfl, HB1.out.trans ((HUP.out _ HB.out).mono HB1.out.size)⟩
  · have HOK := Lib.hid (show okR r = false by simpa using hok)
    have hr4 : r < -4 ∨ 4 < r := by
      have := HOK.out
      unfold okR at this
      rcases Int.lt_or_le r (-4) with h1 | h1
      · exact .inl h1
      · refine .inr (Int.lt_of_not_ge fun h2 => ?_)
        simp at this
        omega
    clear hok
    rcases hr4 with hr4 | hr4
    all_goals (
      (try have hr5 : ¬ (r < -4) := by omega)
      go_enter Tryd.func3, Tryd.ntmps3
      go_wp2_with (first
        | (go_at_call 9; refine HOF.out.mono ?_; rintro e w1 ⟨⟨⟨ga, gs, gc⟩, ⟨ka, ks, kc⟩⟩, rfl, hbd, hb1⟩; have HB1 := Lib.hid hb1; have HBD := Lib.hid hbd.out; simp only [Bds.v, Bed.v]; have HLI := Lib.hid (fun (W : World) (hb : RowKit.Below w1.heap.size w1 W) => list_bad ⟨⟨ga, gs, gc⟩, ⟨ka, ks, kc⟩⟩ T r w1.heap.size W hb.size (HBD.out.2.2.1.below hb) HBD.out.1 HTO.out HOK.out); simp only [Bds.v, Bed.v] at HLI; have bx := Boxed2.new w1 26 (.slice ga gs.length gc) (.slice ka ks.length kc); have hb0 := below1 w1 (.cells #[.slice ga gs.length gc, .slice ka ks.length kc] 26); obtain ⟨w2, hw2⟩ : ∃ w2, w1.alloc (.cells #[.slice ga gs.length gc, .slice ka ks.length kc] 26) = w2 := ⟨_, rfl⟩; rw [hw2] at bx hb0; have HBX := Lib.hid (fun (W : World) (hb : RowKit.Below w2.heap.size w2 W) => bx.below hb bx.lt); have HB := Lib.hid (Below.refl w2.heap.size w2); have HB0 := Lib.hid hb0; have x0 := bx.cell0; have x1 := bx.cell1; have HUP := Lib.hid (fun (W : World) (hb : RowKit.Below w2.heap.size w2 W) => HB0.out.trans (hb.mono HB0.out.size)); clear bx hb0 hbd hb1)
        | (go_at_call 10; refine (HLI.out _ (HUP.out _ HB.out)).mono ?_; rintro e w3 ⟨rfl, hb⟩; replace HB := Lib.hid (HB.out.trans (hb.mono HB.out.size)); clear x0 x1; have x0 := (HBX.out _ HB.out).cell0; have x1 := (HBX.out _ HB.out).cell1; clear hb)
        | (go_at_call 11; refine (HST.out _ (HB1.out.trans ((HUP.out _ HB.out).mono HB1.out.size))).mono ?_; rintro e w4 ⟨rfl, hb⟩; replace HB := Lib.hid (HB.out.trans (hb.mono HB.out.size)); clear x0 x1; have x0 := (HBX.out _ HB.out).cell0; have x1 := (HBX.out _ HB.out).cell1; clear hb))
      go_ret
      exact ⟨rfl, HB1.out.trans ((HUP.out _ HB.out).mono HB1.out.size)⟩)
end Go.Proofs.YtjjnhmbgffdenaaDoor
namespace Go.Proofs.YtjjnhmbgffdenaaDoor
open Go.RowKit Go.Sort
theorem cs_zero {r d : Int} (h : checkStepM r d = 0) (h0 : 0 ≤ d) : okR r = true ∧ (d = 0 ∨ d = 1) ∧ okR (r + stepD d) = true := by
  unfold checkStepM at h
  split at h
  · rename_i h1
    split at h
    · exact absurd h (by decide)
    · split at h
      · rename_i h2 h3
        exact ⟨h1, by omega, h3⟩
      · exact absurd h (by decide)
  · exact absurd h (by decide)
section
variable (d : Bds) (T : List (List Nm)) (r dd p : Int) (B : Nat) (w : World) (hdd : 0 ≤ dd ∧ dd ≤ 255) (hB : B ≤ w.heap.size) (hd : d.ok B w) (hr : Reads T d) (hT : TOk T) (hs : Stp w)
include hdd hB hd hr hT hs
theorem meets_bad (c : Int) (hc : checkStepM r dd = c) (h : c ≠ 0) :
    Calls Tryd.prog 17 #[d.v, .int .i64 r, .int .u8 dd, .int .i64 p] w fun e w' => e = .returned (.tuple #[.slice none 0 0, .int .i64 c]) ∧ Below w.heap.size w w' := by
  subst hc
  refine (meets_any d T r dd p B w hdd hB hd hr hT hs).mono ?_
  rintro e w' (⟨_, h1, h2⟩ | ⟨h1, _⟩ | ⟨h1, _⟩)
  · exact ⟨h1, h2⟩
  · exact absurd h1 h
  · exact absurd h1 h
theorem step_bad (c : Int) (hc : checkStepM r dd = c) (h : c ≠ 0) :
    Calls Tryd.prog 16 #[d.v, .int .i64 r, .int .u8 dd] w fun e w' => e = .returned (.tuple #[.slice none 0 0, .int .i64 c]) ∧ Below w.heap.size w w' := by
  subst hc
  refine (step_any d T r dd B w hdd hB hd hr hT hs).mono ?_
  rintro e w' (⟨_, h1, h2⟩ | ⟨h1, _⟩)
  · exact ⟨h1, h2⟩
  · exact absurd h1 h
theorem step_some (hc : checkStepM r dd = 0) :
    Calls Tryd.prog 16 #[d.v, .int .i64 r, .int .u8 dd] w fun e w' => ∃ v, e = .returned (.tuple #[v, .int .i64 0]) ∧ Below w.heap.size w w' := by
  refine (step_any d T r dd B w hdd hB hd hr hT hs).mono ?_
  rintro e w' (⟨h1, _⟩ | ⟨_, v, l, rfl, _, ao, _, _, hb⟩)
  · exact absurd hc h1
  · exact ⟨v, rfl, hb⟩
theorem meets_even (hc : checkStepM r dd = 0) (hp : Int.tmod p 2 = 0) :
    Calls Tryd.prog 17 #[d.v, .int .i64 r, .int .u8 dd, .int .i64 p] w fun e w' => e = .returned (.tuple #[.slice none 0 0, .int .i64 1]) ∧ Below w.heap.size w w' := by
  refine (meets_any d T r dd p B w hdd hB hd hr hT hs).mono ?_
  rintro e w' (⟨h1, _⟩ | ⟨_, _, h1, h2⟩ | ⟨_, h1, _⟩)
  · exact absurd hc h1
  · exact ⟨h1, h2⟩
  · exact absurd hp h1
theorem meets_odd (hc : checkStepM r dd = 0) (hp : Int.tmod p 2 ≠ 0) (M : List Pa) (hM : meetsM (lstH T r 95) p dd = M) (m : Nat) (hm : M.length = m) :
    Calls Tryd.prog 17 #[d.v, .int .i64 r, .int .u8 dd, .int .i64 p] w fun e w' => ∃ ao, e = .returned (.tuple #[.slice ao m m, .int .i64 0]) ∧ Hid (Lies Pa.enc w.heap.size w' ao M) ∧ Below w.heap.size w w' := by
  subst hm hM
  refine (meets_any d T r dd p B w hdd hB hd hr hT hs).mono ?_
  rintro e w' (⟨h1, _⟩ | ⟨_, h1, _⟩ | ⟨_, _, v, l, rfl, ho, ao, rfl, h2, hb⟩)
  · exact absurd hc h1
  · exact absurd h1 hp
  · obtain rfl := ord_lst (cs_zero hc hdd.1).1 ho.out
    exact ⟨ao, rfl, h2, hb⟩
end
theorem hitH_len (p d : Int) (x y : Hd) : (hitH p d x y).length ≤ 1 := by unfold hitH; split <;> simp
theorem flatM_len {α β : Type} {f : α → List β} : ∀ l : List α, (∀ x ∈ l, (f x).length ≤ 1) → (l.flatMap f).length ≤ l.length
  | [], _ => by simp
  | a :: l, h => by
    rw [List.flatMap_cons, List.length_append, List.length_cons]
    have := flatM_len l fun x hx => h x (by simp [hx])
    have := h a (by simp)
    omega
theorem flat_succ {α β : Type} {f : α → List β} {l : List α} {i : Nat} (h : i < l.length) : (l.take (i + 1)).flatMap f = (l.take i).flatMap f ++ f l[i] := by
  rw [List.take_succ_eq_append_getElem h, List.flatMap_append]
  simp
set_option maxRecDepth 100000 in
set_option maxHeartbeats 16000000 in
/-- OrdersMeets: a step that is refused. -/
theorem meets_law_bad (ao : Option Addr) (xs : List (Nat × Nat)) (cap : Nat) (r p dd : Int) (w : World) (h : LieP w ao xs) (hs : Stp w) (hdd : 0 ≤ dd ∧ dd ≤ 255) (c : Int) (hc : checkStepM r dd = c) (h0 : c ≠ 0) :
    Calls Tryd.prog 7 #[.slice ao xs.length cap, .agg #[.int .i64 r, .int .i64 p], .int .u8 dd] w fun e w' => e = .returned (.bool true) ∧ Below w.heap.size w w' := by
  have bp := Boxed2.new w 42 (.int .i64 r) (.int .i64 p)
  have hb00 := below1 w (.cells #[.int .i64 r, .int .i64 p] 42)
  obtain ⟨W0, hW0⟩ : ∃ W0, w.alloc (.cells #[.int .i64 r, .int .i64 p] 42) = W0 := ⟨_, rfl⟩
  rw [hW0] at bp hb00
  have HB00 := Lib.hid hb00
  have HOF := Lib.hid (Of_any ao xs cap W0 (h.below hb00))
  have HTO := Lib.hid (ofM_ok xs)
  have HS := Lib.hid hs
  have HST := Lib.hid (fun (W : World) (hb : RowKit.Below w.heap.size w W) => lives_any W (hs.below hb hs.lt))
  have y0 := bp.cell0
  have y1 := bp.cell1
  have HY := Lib.hid (And.intro y0 y1)
  have HLT0 := Lib.hid bp.lt
  obtain ⟨T, hT⟩ : ∃ T, ofM xs = T := ⟨_, rfl⟩
  rw [hT] at HOF HTO
  obtain ⟨N, hN⟩ : ∃ N, xs.length = N := ⟨_, rfl⟩
  rw [hN] at HOF ⊢
  have HDD := Lib.hid hdd
  clear h hs hT hN hb00 bp
  have hcz : (c == 0) = false := by simp [h0]
  have HC := Lib.hid (And.intro hc h0)
  clear hc h0
  go_enter Tryd.func7, Tryd.ntmps7
  go_upto_region 2 with (go_at_call 9; refine HOF.out.mono ?_; rintro e w1 ⟨⟨⟨ga, gs, gc⟩, ⟨ka, ks, kc⟩⟩, rfl, hbd, hb1⟩; have HB1 := Lib.hid (HB00.out.trans (hb1.mono HB00.out.size)); have hsW := Lib.hid (fun (W : World) (hb : RowKit.Below w1.heap.size w1 W) => HS.out.below (HB1.out.trans (hb.mono HB1.out.size)) HS.out.lt); have HBD := Lib.hid hbd.out; simp only [Bds.v, Bed.v]; have HM := Lib.hid (fun (W : World) (hb : RowKit.Below w1.heap.size w1 W) => meets_bad ⟨⟨ga, gs, gc⟩, ⟨ka, ks, kc⟩⟩ T r dd p w1.heap.size W HDD.out hb.size (HBD.out.2.2.1.below hb) HBD.out.1 HTO.out (hsW.out W hb) c HC.out.1 HC.out.2); simp only [Bds.v, Bed.v] at HM; have HP := Lib.hid (fun (W : World) (hb : RowKit.Below w1.heap.size w1 W) => step_bad ⟨⟨ga, gs, gc⟩, ⟨ka, ks, kc⟩⟩ T r dd w1.heap.size W HDD.out hb.size (HBD.out.2.2.1.below hb) HBD.out.1 HTO.out (hsW.out W hb) c HC.out.1 HC.out.2); simp only [Bds.v, Bed.v] at HP; have bx := Boxed2.new w1 26 (.slice ga gs.length gc) (.slice ka ks.length kc); have hb0 := below1 w1 (.cells #[.slice ga gs.length gc, .slice ka ks.length kc] 26); have hyy := below1 w1 (.cells #[.slice ga gs.length gc, .slice ka ks.length kc] 26); obtain ⟨w2, hw2⟩ : ∃ w2, w1.alloc (.cells #[.slice ga gs.length gc, .slice ka ks.length kc] 26) = w2 := ⟨_, rfl⟩; rw [hw2] at bx hb0; have HBX := Lib.hid (fun (W : World) (hb : RowKit.Below w2.heap.size w2 W) => bx.below hb bx.lt); have HB := Lib.hid (Below.refl w2.heap.size w2); have HB0 := Lib.hid hb0; have x0 := bx.cell0; have x1 := bx.cell1; have HUP := Lib.hid (fun (W : World) (hb : RowKit.Below w2.heap.size w2 W) => HB0.out.trans (hb.mono HB0.out.size)); clear y0 y1; have y0 := ((hb1.trans (hb0.mono hb1.size)).cell (p := ⟨w.heap.size, 0, none⟩) HLT0.out).trans HY.out.1; have y1 := ((hb1.trans (hb0.mono hb1.size)).cell (p := ⟨w.heap.size, 1, none⟩) HLT0.out).trans HY.out.2; clear bx hb0 hyy hbd hb1)
  go_quiet (fail)
  go_wp2_with (first
    | (go_at_call 17; refine (HM.out _ (HUP.out _ (below_drewN HB.out _))).mono ?_; rintro e w3 ⟨rfl, hb⟩; replace HB := Lib.hid ((below_drewN HB.out _).trans (hb.mono HB.out.size)); clear x0 x1; have x0 := (HBX.out _ HB.out).cell0; have x1 := (HBX.out _ HB.out).cell1; clear hb)
    | (go_at_call 16; refine (HP.out _ (HUP.out _ HB.out)).mono ?_; rintro e w4 ⟨rfl, hb⟩; replace HB := Lib.hid (HB.out.trans (hb.mono HB.out.size)); clear x0 x1; have x0 := (HBX.out _ HB.out).cell0; have x1 := (HBX.out _ HB.out).cell1; clear hb)
    | (go_at_call 11; refine (HST.out _ (HB1.out.trans ((HUP.out _ HB.out).mono HB1.out.size))).mono ?_; rintro e w5 ⟨rfl, hb⟩; replace HB := Lib.hid (HB.out.trans (hb.mono HB.out.size)); clear x0 x1; have x0 := (HBX.out _ HB.out).cell0; have x1 := (HBX.out _ HB.out).cell1; clear hb))
  go_ret
  exact ⟨rfl, HB1.out.trans ((HUP.out _ HB.out).mono HB1.out.size)⟩
set_option maxRecDepth 100000 in
set_option maxHeartbeats 16000000 in
/-- OrdersMeets: a place that is none. -/
theorem meets_law_even (ao : Option Addr) (xs : List (Nat × Nat)) (cap : Nat) (r p dd : Int) (w : World) (h : LieP w ao xs) (hs : Stp w) (hdd : 0 ≤ dd ∧ dd ≤ 255) (hc : checkStepM r dd = 0) (h0 : Int.tmod p 2 = 0) :
    Calls Tryd.prog 7 #[.slice ao xs.length cap, .agg #[.int .i64 r, .int .i64 p], .int .u8 dd] w fun e w' => e = .returned (.bool true) ∧ Below w.heap.size w w' := by
  have bp := Boxed2.new w 42 (.int .i64 r) (.int .i64 p)
  have hb00 := below1 w (.cells #[.int .i64 r, .int .i64 p] 42)
  obtain ⟨W0, hW0⟩ : ∃ W0, w.alloc (.cells #[.int .i64 r, .int .i64 p] 42) = W0 := ⟨_, rfl⟩
  rw [hW0] at bp hb00
  have HB00 := Lib.hid hb00
  have HOF := Lib.hid (Of_any ao xs cap W0 (h.below hb00))
  have HTO := Lib.hid (ofM_ok xs)
  have HS := Lib.hid hs
  have HST := Lib.hid (fun (W : World) (hb : RowKit.Below w.heap.size w W) => lives_any W (hs.below hb hs.lt))
  have y0 := bp.cell0
  have y1 := bp.cell1
  have HY := Lib.hid (And.intro y0 y1)
  have HLT0 := Lib.hid bp.lt
  obtain ⟨T, hT⟩ : ∃ T, ofM xs = T := ⟨_, rfl⟩
  rw [hT] at HOF HTO
  obtain ⟨N, hN⟩ : ∃ N, xs.length = N := ⟨_, rfl⟩
  rw [hN] at HOF ⊢
  have HDD := Lib.hid hdd
  clear h hs hT hN hb00 bp
  have HC := Lib.hid (And.intro hc h0)
  clear hc
  go_enter Tryd.func7, Tryd.ntmps7
  go_upto_region 2 with (go_at_call 9; refine HOF.out.mono ?_; rintro e w1 ⟨⟨⟨ga, gs, gc⟩, ⟨ka, ks, kc⟩⟩, rfl, hbd, hb1⟩; have HB1 := Lib.hid (HB00.out.trans (hb1.mono HB00.out.size)); have hsW := Lib.hid (fun (W : World) (hb : RowKit.Below w1.heap.size w1 W) => HS.out.below (HB1.out.trans (hb.mono HB1.out.size)) HS.out.lt); have HBD := Lib.hid hbd.out; simp only [Bds.v, Bed.v]; have HM := Lib.hid (fun (W : World) (hb : RowKit.Below w1.heap.size w1 W) => meets_even ⟨⟨ga, gs, gc⟩, ⟨ka, ks, kc⟩⟩ T r dd p w1.heap.size W HDD.out hb.size (HBD.out.2.2.1.below hb) HBD.out.1 HTO.out (hsW.out W hb) HC.out.1 HC.out.2); simp only [Bds.v, Bed.v] at HM; have HP := Lib.hid (fun (W : World) (hb : RowKit.Below w1.heap.size w1 W) => step_some ⟨⟨ga, gs, gc⟩, ⟨ka, ks, kc⟩⟩ T r dd w1.heap.size W HDD.out hb.size (HBD.out.2.2.1.below hb) HBD.out.1 HTO.out (hsW.out W hb) HC.out.1); simp only [Bds.v, Bed.v] at HP; have bx := Boxed2.new w1 26 (.slice ga gs.length gc) (.slice ka ks.length kc); have hb0 := below1 w1 (.cells #[.slice ga gs.length gc, .slice ka ks.length kc] 26); have hyy := below1 w1 (.cells #[.slice ga gs.length gc, .slice ka ks.length kc] 26); obtain ⟨w2, hw2⟩ : ∃ w2, w1.alloc (.cells #[.slice ga gs.length gc, .slice ka ks.length kc] 26) = w2 := ⟨_, rfl⟩; rw [hw2] at bx hb0; have HBX := Lib.hid (fun (W : World) (hb : RowKit.Below w2.heap.size w2 W) => bx.below hb bx.lt); have HB := Lib.hid (Below.refl w2.heap.size w2); have HB0 := Lib.hid hb0; have x0 := bx.cell0; have x1 := bx.cell1; have HUP := Lib.hid (fun (W : World) (hb : RowKit.Below w2.heap.size w2 W) => HB0.out.trans (hb.mono HB0.out.size)); clear y0 y1; have y0 := ((hb1.trans (hb0.mono hb1.size)).cell (p := ⟨w.heap.size, 0, none⟩) HLT0.out).trans HY.out.1; have y1 := ((hb1.trans (hb0.mono hb1.size)).cell (p := ⟨w.heap.size, 1, none⟩) HLT0.out).trans HY.out.2; clear bx hb0 hyy hbd hb1)
  go_quiet (fail)
  go_wp2_with (first
    | (go_at_call 17; refine (HM.out _ (HUP.out _ (below_drewN HB.out _))).mono ?_; rintro e w3 ⟨rfl, hb⟩; replace HB := Lib.hid ((below_drewN HB.out _).trans (hb.mono HB.out.size)); clear x0 x1; have x0 := (HBX.out _ HB.out).cell0; have x1 := (HBX.out _ HB.out).cell1; clear hb)
    | (go_at_call 16; refine (HP.out _ (HUP.out _ HB.out)).mono ?_; rintro e w4 ⟨vs, rfl, hb⟩; replace HB := Lib.hid (HB.out.trans (hb.mono HB.out.size)); clear x0 x1; have x0 := (HBX.out _ HB.out).cell0; have x1 := (HBX.out _ HB.out).cell1; clear hb)
    | (go_at_call 11; refine (HST.out _ (HB1.out.trans ((HUP.out _ HB.out).mono HB1.out.size))).mono ?_; rintro e w5 ⟨rfl, hb⟩; replace HB := Lib.hid (HB.out.trans (hb.mono HB.out.size)); clear x0 x1; have x0 := (HBX.out _ HB.out).cell0; have x1 := (HBX.out _ HB.out).cell1; clear hb))
  go_ret
  exact ⟨rfl, HB1.out.trans ((HUP.out _ HB.out).mono HB1.out.size)⟩
end Go.Proofs.YtjjnhmbgffdenaaDoor
namespace Go.Proofs.YtjjnhmbgffdenaaDoor
open Go.RowKit Go.Sort
theorem Lies.hd {N : Nat} {w : World} {ao : Option Addr} {l : List Hd} (h : Lies Hd.enc N w ao l) {i : Nat} {x : Hd} (hx : l[i]? = some x) : ∃ b, ao = some ⟨b, 0, none⟩ ∧ w.cell? ⟨b, i * 5, none⟩ = some (.int .u8 x.id.y) ∧ w.cell? ⟨b, i * 5 + 1, none⟩ = some (.int .i64 x.id.n) ∧ w.cell? ⟨b, i * 5 + 4, none⟩ = some (.int .i64 x.s) := by
  obtain ⟨hi, rfl⟩ := List.getElem?_eq_some_iff.1 hx
  obtain ⟨b, h1, _, h3⟩ := h.at Hd.enc_len hi
  exact ⟨b, h1, h3 0 _ (by decide) rfl, h3 1 _ (by decide) rfl, h3 4 _ (by decide) rfl⟩
theorem Lies.pa {N : Nat} {w : World} {ao : Option Addr} {l : List Pa} (h : Lies Pa.enc N w ao l) {i : Nat} {x : Pa} (hx : l[i]? = some x) : ∃ b, ao = some ⟨b, 0, none⟩ ∧ w.cell? ⟨b, i * 4, none⟩ = some (.int .u8 x.id.y) ∧ w.cell? ⟨b, i * 4 + 1, none⟩ = some (.int .i64 x.id.n) ∧ w.cell? ⟨b, i * 4 + 2, none⟩ = some (.bool x.f) ∧ w.cell? ⟨b, i * 4 + 3, none⟩ = some (.int .u8 x.d) := by
  obtain ⟨hi, rfl⟩ := List.getElem?_eq_some_iff.1 hx
  obtain ⟨b, h1, _, h3⟩ := h.at Pa.enc_len hi
  exact ⟨b, h1, h3 0 _ (by decide) rfl, h3 1 _ (by decide) rfl, h3 2 _ (by decide) rfl, h3 3 _ (by decide) rfl⟩
theorem flat_at {α β : Type} {f : α → List β} {l : List α} {i : Nat} {x : α} (h : l[i]? = some x) : (l.take (i + 1)).flatMap f = (l.take i).flatMap f ++ f x := by
  obtain ⟨hi, rfl⟩ := List.getElem?_eq_some_iff.1 h
  exact flat_succ hi
set_option maxRecDepth 100000 in
set_option maxHeartbeats 16000000 in
/-- OrdersMeets: a place, a step that is taken. -/
theorem meets_law_odd0 (ao : Option Addr) (xs : List (Nat × Nat)) (cap : Nat) (r p dd : Int) (w : World) (h : LieP w ao xs) (hs : Stp w) (hdd : 0 ≤ dd ∧ dd ≤ 255) (hd0 : dd = 0) (hc : checkStepM r dd = 0) (h0 : Int.tmod p 2 ≠ 0) :
    Calls Tryd.prog 7 #[.slice ao xs.length cap, .agg #[.int .i64 r, .int .i64 p], .int .u8 dd] w fun e w' => e = .returned (.bool true) ∧ Below w.heap.size w w' := by
  have bp := Boxed2.new w 42 (.int .i64 r) (.int .i64 p)
  have hb00 := below1 w (.cells #[.int .i64 r, .int .i64 p] 42)
  obtain ⟨W0, hW0⟩ : ∃ W0, w.alloc (.cells #[.int .i64 r, .int .i64 p] 42) = W0 := ⟨_, rfl⟩
  rw [hW0] at bp hb00
  have HB00 := Lib.hid hb00
  have HOF := Lib.hid (Of_any ao xs cap W0 (h.below hb00))
  have HTO := Lib.hid (ofM_ok xs)
  have HS := Lib.hid hs
  have HST := Lib.hid (fun (W : World) (hb : RowKit.Below w.heap.size w W) => lives_any W (hs.below hb hs.lt))
  have y0 := bp.cell0
  have y1 := bp.cell1
  have HY := Lib.hid (And.intro y0 y1)
  have HLT0 := Lib.hid bp.lt
  obtain ⟨T, hT⟩ : ∃ T, ofM xs = T := ⟨_, rfl⟩
  rw [hT] at HOF HTO
  obtain ⟨N, hN⟩ : ∃ N, xs.length = N := ⟨_, rfl⟩
  rw [hN] at HOF ⊢
  have HDD := Lib.hid hdd
  clear h hs hT hN hb00 bp
  subst hd0
  have HC := Lib.hid (And.intro hc h0)
  obtain ⟨hok, -, hok2⟩ := cs_zero hc HDD.out.1
  have hwm := want_meets HTO.out hok hok2 h0
  have honce : ∀ x ∈ lstH T r 95, ((lstH T (r + stepD 0) 95).flatMap (hitH p 1 x)).length ≤ 1 := fun x hx => by
    rw [hit_all HTO.out hok hok2 p 1 hx]; exact hitH_len _ _ _ _
  have hnx : r + stepD 0 = r - 1 := by rw [show stepD 0 = -1 from rfl]; try omega
  rw [hnx] at hwm hok2 honce
  have HO9 := Lib.hid (And.intro hok hok2)
  have hr4 : -4 ≤ r ∧ r ≤ 4 := by unfold okR at hok; simpa using hok
  have htz : (Int.tmod p 2 == 0) = false := by simp [h0]
  clear hc hok hok2 hnx
  obtain ⟨L, hL⟩ : ∃ L, lstH T r 95 = L := ⟨_, rfl⟩
  obtain ⟨n, hn⟩ : ∃ n, L.length = n := ⟨_, rfl⟩
  have hn9 : n ≤ 30400 := by rw [← hn, ← hL]; exact lstH_len T HTO.out r 95
  obtain ⟨L2, hL2⟩ : ∃ L, lstH T (r - 1) 95 = L := ⟨_, rfl⟩
  obtain ⟨n2, hn2⟩ : ∃ n, L2.length = n := ⟨_, rfl⟩
  have hn29 : n2 ≤ 30400 := by rw [← hn2, ← hL2]; exact lstH_len T HTO.out (r - 1) 95
  obtain ⟨M, hM⟩ : ∃ M, meetsM L p 0 = M := ⟨_, rfl⟩
  obtain ⟨m, hm⟩ : ∃ m, M.length = m := ⟨_, rfl⟩
  have hm9 : m ≤ 30400 := by
    rw [← hm, ← hM]; unfold meetsM; rw [pastM_len]
    exact Nat.le_trans (List.length_filter_le _ _) (Nat.le_trans (backs_len _) (by rw [hn]; exact hn9))
  rw [hL, hL2] at hwm honce
  rw [hM] at hwm
  have HONCE := Lib.hid honce
  obtain ⟨O, hO⟩ : ∃ O, L = O := ⟨_, rfl⟩
  have hwm2 : O.flatMap (fun x => L2.flatMap (hitH p 1 x)) = M := by
    rw [← hwm, ← hO]
    unfold wantM
    rw [if_neg (by decide)]
    try rfl
  have HW := Lib.hid hwm2
  have HO := Lib.hid hO
  have HL := Lib.hid hL
  have HL2 := Lib.hid hL2
  have HN := Lib.hid hn
  have HN2 := Lib.hid hn2
  have HM1 := Lib.hid hM
  have HM2 := Lib.hid hm
  have hON : O.length = n := by rw [← hO]; exact hn
  have HON := Lib.hid hON
  have HT0 := Lib.hid True.intro
  clear hwm hwm2 hO hL hL2 hn hn2 hM hm honce h0 hON
  go_enter Tryd.func7, Tryd.ntmps7
  go_upto_region 2 with (go_at_call 9; refine HOF.out.mono ?_; rintro e w1 ⟨⟨⟨ga, gs, gc⟩, ⟨ka, ks, kc⟩⟩, rfl, hbd, hb1⟩; have HB1 := Lib.hid (HB00.out.trans (hb1.mono HB00.out.size)); have hsW := Lib.hid (fun (W : World) (hb : RowKit.Below w1.heap.size w1 W) => HS.out.below (HB1.out.trans (hb.mono HB1.out.size)) HS.out.lt); have HBD := Lib.hid hbd.out; simp only [Bds.v, Bed.v]; have HMC := Lib.hid (fun (W : World) (hb : RowKit.Below w1.heap.size w1 W) => meets_odd ⟨⟨ga, gs, gc⟩, ⟨ka, ks, kc⟩⟩ T r 0 p w1.heap.size W HDD.out hb.size (HBD.out.2.2.1.below hb) HBD.out.1 HTO.out (hsW.out W hb) HC.out.1 HC.out.2 M (by rw [HL.out]; exact HM1.out) m HM2.out); simp only [Bds.v, Bed.v] at HMC; have HP := Lib.hid (fun (W : World) (hb : RowKit.Below w1.heap.size w1 W) => step_some ⟨⟨ga, gs, gc⟩, ⟨ka, ks, kc⟩⟩ T r 0 w1.heap.size W HDD.out hb.size (HBD.out.2.2.1.below hb) HBD.out.1 HTO.out (hsW.out W hb) HC.out.1); simp only [Bds.v, Bed.v] at HP; have HLI := Lib.hid (fun (W : World) (hb : RowKit.Below w1.heap.size w1 W) => list_good ⟨⟨ga, gs, gc⟩, ⟨ka, ks, kc⟩⟩ T r w1.heap.size W hb.size (HBD.out.2.2.1.below hb) HBD.out.1 HTO.out HO9.out.1 L HL.out n HN.out); simp only [Bds.v, Bed.v] at HLI; have HLN := Lib.hid (fun (W : World) (hb : RowKit.Below w1.heap.size w1 W) => list_good ⟨⟨ga, gs, gc⟩, ⟨ka, ks, kc⟩⟩ T (r - 1) w1.heap.size W hb.size (HBD.out.2.2.1.below hb) HBD.out.1 HTO.out HO9.out.2 L2 HL2.out n2 HN2.out); simp only [Bds.v, Bed.v] at HLN; have bx := Boxed2.new w1 26 (.slice ga gs.length gc) (.slice ka ks.length kc); have hb0 := below1 w1 (.cells #[.slice ga gs.length gc, .slice ka ks.length kc] 26); have hyy := below1 w1 (.cells #[.slice ga gs.length gc, .slice ka ks.length kc] 26); obtain ⟨w2, hw2⟩ : ∃ w2, w1.alloc (.cells #[.slice ga gs.length gc, .slice ka ks.length kc] 26) = w2 := ⟨_, rfl⟩; rw [hw2] at bx hb0; have HBX := Lib.hid (fun (W : World) (hb : RowKit.Below w2.heap.size w2 W) => bx.below hb bx.lt); have HB := Lib.hid (Below.refl w2.heap.size w2); have HB0 := Lib.hid hb0; have x0 := bx.cell0; have x1 := bx.cell1; have HUP := Lib.hid (fun (W : World) (hb : RowKit.Below w2.heap.size w2 W) => HB0.out.trans (hb.mono HB0.out.size)); clear y0 y1; have y0 := ((hb1.trans (hb0.mono hb1.size)).cell (p := ⟨w.heap.size, 0, none⟩) HLT0.out).trans HY.out.1; have y1 := ((hb1.trans (hb0.mono hb1.size)).cell (p := ⟨w.heap.size, 1, none⟩) HLT0.out).trans HY.out.2; clear bx hb0 hyy hbd hb1)
  go_quiet (fail)
  go_wp2_with (first
    | (go_at_call 17; refine (HMC.out _ (HUP.out _ (below_drewN HB.out _))).mono ?_; rintro e w3 ⟨am, rfl, HLm, hb⟩; replace HB := Lib.hid ((below_drewN HB.out _).trans (hb.mono HB.out.size)); clear x0 x1; have x0 := (HBX.out _ HB.out).cell0; have x1 := (HBX.out _ HB.out).cell1; clear hb)
    | (go_at_call 16; refine (HP.out _ (HUP.out _ HB.out)).mono ?_; rintro e w4 ⟨vs, rfl, hb⟩; replace HB := Lib.hid (HB.out.trans (hb.mono HB.out.size)); clear x0 x1; have x0 := (HBX.out _ HB.out).cell0; have x1 := (HBX.out _ HB.out).cell1; (try replace HLm := Lib.hid (HLm.out.below hb)); (try replace HLa := Lib.hid (HLa.out.below hb)); (try replace HLb := Lib.hid (HLb.out.below hb)); clear hb)
    | (go_at_call 10; have HQ := HT0; refine (HLI.out _ (HUP.out _ HB.out)).mono ?_; rintro e w4 ⟨al, rfl, HLa, hb⟩; clear HT0 HQ; have HT1 := Lib.hid True.intro; replace HB := Lib.hid (HB.out.trans (hb.mono HB.out.size)); clear x0 x1; have x0 := (HBX.out _ HB.out).cell0; have x1 := (HBX.out _ HB.out).cell1; (try replace HLm := Lib.hid (HLm.out.below hb)); (try replace HLa := Lib.hid (HLa.out.below hb)); (try replace HLb := Lib.hid (HLb.out.below hb)); clear hb)
    | (go_at_call 10; have HQ := HT1; refine (HLN.out _ (HUP.out _ HB.out)).mono ?_; rintro e w5 ⟨ab, rfl, HLb, hb⟩; clear HT1 HQ; replace HB := Lib.hid (HB.out.trans (hb.mono HB.out.size)); clear x0 x1; have x0 := (HBX.out _ HB.out).cell0; have x1 := (HBX.out _ HB.out).cell1; (try replace HLm := Lib.hid (HLm.out.below hb)); (try replace HLa := Lib.hid (HLa.out.below hb)); (try replace HLb := Lib.hid (HLb.out.below hb)); clear hb))
  clear x0 x1 y0 y1 HMC HP HLI HLN
  go_loopg [20, 21] (n + 1) (fun g v s21 wr => ∃ i : Nat, s21 = .int .i64 i ∧ i ≤ n ∧ g = n + 1 - i ∧ Hid (wr.ownsRow w5.heap.size 47 4 v ((O.take i).flatMap (fun x => L2.flatMap (hitH p 1 x))).length (rcells Pa.enc ((O.take i).flatMap (fun x => L2.flatMap (hitH p 1 x))))) ∧ RowKit.Below w5.heap.size w5 wr)
  case atStart => exact ⟨0, rfl, by omega, by omega, Lib.hid (World.ownsRow_nil _ _ _ _), Below.refl _ _⟩
  case round =>
    obtain ⟨i, rfl, hi, hg, HR, hbr⟩ := hrel
    have HG := Lib.hid hg
    clear hg
    by_cases hlt : i < n
    · have hiz : (i : Int) < (n : Int) := by omega
      obtain ⟨k, hk⟩ : ∃ k, i = k := ⟨_, rfl⟩
      have hLk : L[k]? = some (L[k]'(by rw [HN.out]; omega)) := List.getElem?_eq_getElem _
      obtain ⟨x, hx⟩ : ∃ x, L[k]'(by rw [HN.out]; omega) = x := ⟨_, rfl⟩
      rw [hx] at hLk
      have hOi : O[i]? = some x := by rw [← HO.out, hk]; exact hLk
      have hkn : k < n := by omega
      have hkz : (k : Int) < (n : Int) := by omega
      clear hx
      subst hk
      have HLK := Lib.hid hLk
      have HST := Lib.hid (flat_at (f := fun x => L2.flatMap (hitH p 1 x)) hOi)
      have hAl : ((O.take i).flatMap (fun x => L2.flatMap (hitH p 1 x))).length ≤ i := by
        refine Nat.le_trans (flatM_len _ fun x hx => HONCE.out x ?_) (by rw [List.length_take]; omega)
        have := List.mem_of_mem_take hx
        rw [← HO.out] at this
        exact this
      obtain ⟨A, hA⟩ : ∃ A, (O.take i).flatMap (fun x => L2.flatMap (hitH p 1 x)) = A := ⟨_, rfl⟩
      rw [hA] at HR HST hAl
      have HAL := Lib.hid hAl
      clear hA hAl hLk hOi
      go_wp2_with fail
      go_loopg [20, 23] (n2 + 1) (fun g v s23 wr => ∃ j : Nat, s23 = .int .i64 j ∧ j ≤ n2 ∧ g = n2 + 1 - j ∧ Hid (wr.ownsRow w5.heap.size 47 4 v (A ++ (L2.take j).flatMap (hitH p 1 x)).length (rcells Pa.enc (A ++ (L2.take j).flatMap (hitH p 1 x)))) ∧ RowKit.Below w5.heap.size w5 wr)
      case atStart => exact ⟨0, rfl, by omega, by omega, by simpa using HR, hbr⟩
      case round =>
        clear HR hbr
        obtain ⟨j, rfl, hj, hg, HR, hbr⟩ := hrel
        have HG2 := Lib.hid hg
        clear hg
        by_cases hlt2 : j < n2
        · have hjz : (j : Int) < (n2 : Int) := by omega
          obtain ⟨ba, rfl, c0, c1, c4⟩ := (HLa.out.below hbr).hd HLK.out
          obtain ⟨y, hy⟩ : ∃ y, L2[j]? = some y := ⟨L2[j]'(by rw [HN2.out]; exact hlt2), List.getElem?_eq_getElem _⟩
          obtain ⟨bb, rfl, e0, e1, e4⟩ := (HLb.out.below hbr).hd hy
          have HST2 := Lib.hid (flat_at (f := hitH p 1 x) hy)
          have hll : (A ++ (L2.take j).flatMap (hitH p 1 x)).length ≤ 100000 := by
            have h1 := flatM_len (f := hitH p 1 x) (L2.take j) (fun y _ => hitH_len _ _ _ _)
            rw [List.length_take] at h1
            have := HAL.out
            rw [List.length_append]; omega
          have HLL := Lib.hid hll
          have HXY := Lib.hid (show hitH p 1 x y = if y.id = x.id ∧ decide (x.s < p) ≠ decide (y.s < p) then [⟨x.id, true, 1⟩] else [] from rfl)
          clear hy hll
          obtain ⟨⟨xy, xn⟩, xb, xa, xs⟩ := x
          obtain ⟨⟨ey, en⟩, eb, ea, es⟩ := y
          simp only at c0 c1 c4 e0 e1 e4 HXY
          by_cases he : (⟨ey, en⟩ : Nm) = ⟨xy, xn⟩
          · have hs := sameNm_iff.2 he
            obtain ⟨rfl, rfl⟩ : ey = xy ∧ en = xn := by simpa using he
            have heq := fun w => eql28 (y := ey) (n := en) (y' := ey) (n' := en) hs w
            have HXY2 := Lib.hid (show (⟨ey, en⟩ : Nm) = ⟨ey, en⟩ from rfl)
            clear hs he
            by_cases h1 : xs < p
            all_goals by_cases h2 : es < p
            · have hnil : hitH p 1 ⟨⟨ey, en⟩, xb, xa, xs⟩ ⟨⟨ey, en⟩, eb, ea, es⟩ = [] := by rw [HXY.out, if_neg (fun h => h.2 (by simp [h1, h2]))]
              have HNIL := Lib.hid hnil
              clear hnil
              go_upto_region 24 with fail
              go_quiet (fail)
              go_wp2_with fail
              go_roundg (n2 + 1 - (j + 1))
              case measure => have := HG2.out; omega
              case rel => exact ⟨j + 1, by go_num, by omega, by omega, Lib.hid (by
                rw [HST2.out, HNIL.out, List.append_nil]; exact below_owns HR.out (below_drewN (Below.refl _ _) _)), below_drewN hbr _⟩
            · have hone : hitH p 1 ⟨⟨ey, en⟩, xb, xa, xs⟩ ⟨⟨ey, en⟩, eb, ea, es⟩ = [⟨⟨ey, en⟩, true, 1⟩] := by rw [HXY.out, if_pos ⟨rfl, by simp [h1, h2]⟩]
              have HONE := Lib.hid hone
              clear hone
              go_upto_region 24 with fail
              go_quiet (fail)
              rename_i nq
              go_upto_region 25 with fail
              have hbq := (below_drewN hbr nq).alloc (below_drewN hbr nq).size (.cells #[.int .u8 ey, .int .i64 en, .bool true, .int .u8 1] 47)
              iterate 28 go_step
              refine wpList_app_rec kdPa (v := u20) (l := A ++ (L2.take j).flatMap (hitH p 1 ⟨⟨ey, en⟩, xb, xa, xs⟩)) (x := ⟨⟨ey, en⟩, true, 1⟩) rfl rfl rfl rfl ((below_owns HR.out (below_drewN (Below.refl _ _) _)).alloc _) (rec_new Pa.enc _ 47 ⟨⟨ey, en⟩, true, 1⟩) HLL.out hbq.size ?_
              intro v4 w7 hw4 hg4 hat4
              have HW4 := Lib.hid hw4
              have hb4 : RowKit.Below w5.heap.size w5 w7 := hbq.grown hg4 hbq.size (fun g e => (HR.out.lt g e).1)
              clear hw4 hg4 hat4 hbq
              go_wp2_with fail
              go_roundg (n2 + 1 - (j + 1))
              case measure => have := HG2.out; omega
              case rel => exact ⟨j + 1, by go_num, by omega, by omega, Lib.hid (by
                rw [HST2.out, HONE.out, ← List.append_assoc]; exact HW4.out), hb4⟩
            · have hone : hitH p 1 ⟨⟨ey, en⟩, xb, xa, xs⟩ ⟨⟨ey, en⟩, eb, ea, es⟩ = [⟨⟨ey, en⟩, true, 1⟩] := by rw [HXY.out, if_pos ⟨rfl, by simp [h1, h2]⟩]
              have HONE := Lib.hid hone
              clear hone
              go_upto_region 24 with fail
              go_quiet (fail)
              rename_i nq
              go_upto_region 25 with fail
              have hbq := (below_drewN hbr nq).alloc (below_drewN hbr nq).size (.cells #[.int .u8 ey, .int .i64 en, .bool true, .int .u8 1] 47)
              iterate 28 go_step
              refine wpList_app_rec kdPa (v := u20) (l := A ++ (L2.take j).flatMap (hitH p 1 ⟨⟨ey, en⟩, xb, xa, xs⟩)) (x := ⟨⟨ey, en⟩, true, 1⟩) rfl rfl rfl rfl ((below_owns HR.out (below_drewN (Below.refl _ _) _)).alloc _) (rec_new Pa.enc _ 47 ⟨⟨ey, en⟩, true, 1⟩) HLL.out hbq.size ?_
              intro v4 w7 hw4 hg4 hat4
              have HW4 := Lib.hid hw4
              have hb4 : RowKit.Below w5.heap.size w5 w7 := hbq.grown hg4 hbq.size (fun g e => (HR.out.lt g e).1)
              clear hw4 hg4 hat4 hbq
              go_wp2_with fail
              go_roundg (n2 + 1 - (j + 1))
              case measure => have := HG2.out; omega
              case rel => exact ⟨j + 1, by go_num, by omega, by omega, Lib.hid (by
                rw [HST2.out, HONE.out, ← List.append_assoc]; exact HW4.out), hb4⟩
            · have hnil : hitH p 1 ⟨⟨ey, en⟩, xb, xa, xs⟩ ⟨⟨ey, en⟩, eb, ea, es⟩ = [] := by rw [HXY.out, if_neg (fun h => h.2 (by simp [h1, h2]))]
              have HNIL := Lib.hid hnil
              clear hnil
              go_upto_region 24 with fail
              go_quiet (fail)
              go_wp2_with fail
              go_roundg (n2 + 1 - (j + 1))
              case measure => have := HG2.out; omega
              case rel => exact ⟨j + 1, by go_num, by omega, by omega, Lib.hid (by
                rw [HST2.out, HNIL.out, List.append_nil]; exact below_owns HR.out (below_drewN (Below.refl _ _) _)), below_drewN hbr _⟩
          · have heq := fun w => eql28 (y := ey) (n := en) (y' := xy) (n' := xn) (r := false) (by
              cases hq : sameNm ey en xy xn with
              | false => rfl
              | true => exact absurd (sameNm_iff.1 hq) he) w
            have hnil : hitH p 1 ⟨⟨xy, xn⟩, xb, xa, xs⟩ ⟨⟨ey, en⟩, eb, ea, es⟩ = [] := by rw [HXY.out, if_neg (fun h => he h.1)]
            have HNIL := Lib.hid hnil
            clear hnil he
            go_upto_region 24 with fail
            go_quiet (fail)
            go_wp2_with fail
            go_roundg (n2 + 1 - (j + 1))
            case measure => have := HG2.out; omega
            case rel => exact ⟨j + 1, by go_num, by omega, by omega, Lib.hid (by
              rw [HST2.out, HNIL.out, List.append_nil]; exact below_owns HR.out (below_drewN (Below.refl _ _) _)), below_drewN hbr _⟩
        · obtain rfl : j = n2 := by omega
          have hjz : ¬ ((j : Int) < (j : Int)) := by omega
          have HR2 : Hid (wr.ownsRow w5.heap.size 47 4 u20 ((O.take (i + 1)).flatMap (fun x => L2.flatMap (hitH p 1 x))).length (rcells Pa.enc ((O.take (i + 1)).flatMap (fun x => L2.flatMap (hitH p 1 x))))) := Lib.hid (by
            have h1 : L2.take j = L2 := List.take_of_length_le (by rw [HN2.out]; exact Nat.le_refl _)
            have h2 := HR.out
            rw [h1] at h2
            rw [HST.out]
            exact h2)
          clear HR
          go_wp2_with fail
          go_roundg (n + 1 - (i + 1))
          case measure => have := HG.out; omega
          case rel => exact ⟨i + 1, by go_num, by omega, by omega, HR2, hbr⟩
    · obtain rfl : i = n := by omega
      have hiz : ¬ ((i : Int) < (i : Int)) := by omega
      have hR2 : wr.ownsRow w5.heap.size 47 4 u20 M.length (rcells Pa.enc M) := by
        have h1 : O.take i = O := List.take_of_length_le (by rw [HON.out]; exact Nat.le_refl _)
        have h2 := HR.out
        rw [h1, HW.out] at h2
        exact h2
      obtain ⟨aw, cw, rfl, hLw, _⟩ := lies_of_own Pa.enc_len hR2 rfl
      rw [HM2.out]
      have HLw := Lib.hid hLw
      replace HLm := Lib.hid (HLm.out.below hbr)
      replace HB := Lib.hid (HB.out.trans (hbr.mono HB.out.size))
      clear hR2 hLw HR HLa HLb hbr
      go_wp2_with fail
      go_loopg [24] (m + 1) (fun g s24 wx => ∃ j : Nat, s24 = .int .i64 j ∧ j ≤ m ∧ g = m + 1 - j ∧ RowKit.Below wr.heap.size wr wx)
      case atStart => exact ⟨0, rfl, by omega, by omega, Below.refl _ _⟩
      case round =>
        obtain ⟨j, rfl, hj, hg, hbx⟩ := hrel
        have HG2 := Lib.hid hg
        clear hg
        by_cases hlt2 : j < m
        · have hjz : (j : Int) < (m : Int) := by omega
          obtain ⟨y, hy⟩ : ∃ y, M[j]? = some y := ⟨M[j]'(by rw [HM2.out]; exact hlt2), List.getElem?_eq_getElem _⟩
          obtain ⟨ba, rfl, c0, c1, c2, c3⟩ := (HLm.out.below hbx).pa hy
          obtain ⟨bb, rfl, e0, e1, e2, e3⟩ := (HLw.out.below hbx).pa hy
          clear hy
          go_upto_region 31 with fail
          go_quiet (fail)
          go_wp2_with fail
          go_roundg (m + 1 - (j + 1))
          case measure => have := HG2.out; omega
          case rel => exact ⟨j + 1, by go_num, by omega, by omega, below_drewN hbx _⟩
        · obtain rfl : j = m := by omega
          have hjz : ¬ ((j : Int) < (j : Int)) := by omega
          replace HB := Lib.hid (HB.out.trans (hbx.mono HB.out.size))
          clear HLm HLw hbx
          go_wp2_with (go_at_call 11; refine (HST.out _ (HB1.out.trans ((HUP.out _ HB.out).mono HB1.out.size))).mono ?_; rintro e w9 ⟨rfl, hb⟩; replace HB := Lib.hid (HB.out.trans (hb.mono HB.out.size)); clear hb)
          go_ret
          exact ⟨rfl, HB1.out.trans ((HUP.out _ HB.out).mono HB1.out.size)⟩
end Go.Proofs.YtjjnhmbgffdenaaDoor
namespace Go.Proofs.YtjjnhmbgffdenaaDoor
open Go.RowKit Go.Sort
def toPs (p : Pa) : Ya.Ps := ⟨p.id.y, p.id.n, p.f, p.d⟩
theorem cells_toPs (l : List Pa) : Ya.cellsOf (l.map toPs) = rcells Pa.enc l := by
  induction l with
  | nil => rfl
  | cons p l ih =>
    rw [List.map_cons, Ya.cellsOf_cons, ih]
    rfl
theorem inv_toPs (l : List Pa) : Ya.inv (l.map toPs) = ((l.map Pa.back).reverse).map toPs := by
  unfold Ya.inv
  rw [List.map_map, ← List.map_reverse, ← List.map_reverse, List.map_map]
  rfl
theorem inverse_M (ao : Option Addr) (l : List Pa) (n cap : Nat) (w : World) (hn : l.length = n) (hl : n ≤ 100000) (h : Lies Pa.enc 0 w ao l) :
    Calls Tryd.prog 18 #[.slice ao n cap] w fun e w' => ∃ bo, e = .returned (.slice bo n n) ∧ Hid (Lies Pa.enc w.heap.size w' bo ((l.map Pa.back).reverse)) ∧ Below w.heap.size w w' := by
  have hL : Ya.Lie w ao (l.map toPs) := by
    by_cases h0 : l = []
    · subst h0; exact .inl rfl
    · rcases h with h | ⟨b, h1, _, h2, _⟩
      · exact absurd h h0
      · refine .inr ⟨b, 0, h1, h2, fun i p hp => ?_⟩
        obtain ⟨hi, rfl⟩ := List.getElem?_eq_some_iff.1 hp
        have hi2 : i < l.length := by simpa using hi
        obtain ⟨b', e1, c0, c1, c2, c3⟩ := Lies.pa (N := 0) (w := w) (ao := ao) (l := l) (.inr ⟨b, h1, by omega, h2, by assumption⟩) (List.getElem?_eq_getElem hi2)
        obtain rfl : b = b' := by rw [h1] at e1; simpa using e1
        rw [Nat.zero_add, List.getElem_map]
        exact ⟨c0, c1, c2, c3⟩
  refine (Ya.inverse_any ao (l.map toPs) n cap w (by simp [hn]) (by omega) hL).mono ?_
  rintro e w' ⟨bo, rfl, h1, h2⟩
  rw [inv_toPs] at h1 ⊢
  rw [cells_toPs] at h1
  have e1 : (((l.map Pa.back).reverse).map toPs).length = n := by simp [hn]
  rw [e1] at h1 ⊢
  obtain ⟨a2, c2, e2, h3, _⟩ := lies_of_own Pa.enc_len h1 (by simp [hn])
  have e3 : bo = a2 := by
    have := e2
    simp only [Value.slice.injEq] at this
    exact this.1
  subst e3
  exact ⟨bo, rfl, Lib.hid h3, h2⟩
theorem Lies.cr {N : Nat} {w : World} {ao : Option Addr} {l : List Cx} (h : Lies Cx.enc N w ao l) {i : Nat} {x : Cx} (hx : l[i]? = some x) : ∃ b, ao = some ⟨b, 0, none⟩ ∧ w.cell? ⟨b, i * 5, none⟩ = some (.int .u8 x.p.y) ∧ w.cell? ⟨b, i * 5 + 1, none⟩ = some (.int .i64 x.p.n) ∧ w.cell? ⟨b, i * 5 + 2, none⟩ = some (.int .u8 x.q.y) ∧ w.cell? ⟨b, i * 5 + 3, none⟩ = some (.int .i64 x.q.n) ∧ w.cell? ⟨b, i * 5 + 4, none⟩ = some (.int .i64 x.s) := by
  obtain ⟨hi, rfl⟩ := List.getElem?_eq_some_iff.1 hx
  obtain ⟨b, h1, _, h3⟩ := h.at Cx.enc_len hi
  exact ⟨b, h1, h3 0 _ (by decide) rfl, h3 1 _ (by decide) rfl, h3 2 _ (by decide) rfl, h3 3 _ (by decide) rfl, h3 4 _ (by decide) rfl⟩
theorem step_good (d : Bds) (T : List (List Nm)) (r dd : Int) (B : Nat) (w : World) (hdd : 0 ≤ dd ∧ dd ≤ 255) (hB : B ≤ w.heap.size) (hd : d.ok B w) (hr : Reads T d) (hT : TOk T) (hs : Stp w) (hc : checkStepM r dd = 0) (M : List Cx) (hM : stepM T r dd (lstH T r 95) = M) (m : Nat) (hm : M.length = m) :
    Calls Tryd.prog 16 #[d.v, .int .i64 r, .int .u8 dd] w fun e w' => ∃ ao, e = .returned (.tuple #[.slice ao m m, .int .i64 0]) ∧ Hid (Lies Cx.enc w.heap.size w' ao M) ∧ Below w.heap.size w w' := by
  subst hm hM
  refine (step_any d T r dd B w hdd hB hd hr hT hs).mono ?_
  rintro e w' (⟨h1, _⟩ | ⟨_, v, l, rfl, ho, ao, rfl, h2, hb⟩)
  · exact absurd hc h1
  · obtain rfl := ord_lst (cs_zero hc hdd.1).1 ho.out
    exact ⟨ao, rfl, h2, hb⟩
theorem step_sign (T : List (List Nm)) (r : Int) (l : List Hd) : ∀ c ∈ stepM T r 1 l, c.s = -1 := fun c hc => by
  unfold stepM at hc
  obtain ⟨x, _, h⟩ := List.mem_flatMap.1 hc
  unfold crs at h
  obtain ⟨p, _, rfl⟩ := List.mem_map.1 h
  rfl
theorem cs_up {r : Int} (h : -4 ≤ r ∧ r ≤ 3) : checkStepM r 1 = 0 ∧ checkStepM (r + 1) 0 = 0 := by
  have h1 : okR r = true := by unfold okR; simp; omega
  have h2 : okR (r + 1) = true := by unfold okR; simp; omega
  have h3 : okR (r + stepD 1) = true := h2
  have h4 : okR (r + 1 + stepD 0) = true := by rw [show stepD 0 = -1 from rfl, show r + 1 + -1 = r by omega]; exact h1
  refine ⟨?_, ?_⟩
  · unfold checkStepM; rw [if_pos h1, if_neg (by decide), if_pos h3]
  · unfold checkStepM; rw [if_pos h2, if_neg (by decide), if_pos h4]
end Go.Proofs.YtjjnhmbgffdenaaDoor
