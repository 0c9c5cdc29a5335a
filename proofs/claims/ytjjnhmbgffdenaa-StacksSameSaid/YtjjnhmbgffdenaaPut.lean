import Derived.Test.YtjjnhmbgffdenaaTab
namespace Go.Proofs.Ytjjnhmbgffdenaa
open Go.RowKit Go.Sort

def psiPut (BT : Nat) (BX : Nat) (k : Nat) (i : Nat) (c : Cel) : Nat → Value → World → Prop
  | 0, v9, _ => v9 = .pointer (some ⟨BT, 0, none⟩)
  | 1, v9, _ => v9 = .pointer (some ⟨BX, 0, none⟩)
  | 2, v9, _ => v9 = .int .u8 k
  | 3, v9, _ => v9 = .pointer (some ⟨BX, 1, none⟩)
  | 4, v9, _ => v9 = .int .i64 ((i : Int) + 1)
  | 5, v9, _ => v9 = .int .i64 i
  | 6, v9, _ => v9 = c.v
  | 7, v9, w9 => ∃ c2 : Cel, v9 = c2.v ∧ c2.l = c.l ∧ c2.cap = c.l.length ∧ c2.ok w9.heap.size w9
  | 8, v9, _ => v9 = .pointer (some ⟨BT, 0, none⟩)
  | 9, v9, _ => v9 = .pointer (some ⟨BT, k * 40, none⟩)
  | _, _, _ => True
theorem psiPut_stab (BT : Nat) (BX : Nat) (k : Nat) (i : Nat) (c : Cel) (i9 : Nat) (v9 : Value) (w9 w9' : World) (h : psiPut BT BX k i c i9 v9 w9) (_hb : Below w9.heap.size w9 w9') : psiPut BT BX k i c i9 v9 w9' := by
  match i9, h with
  | 0, h => exact h
  | 1, h => exact h
  | 2, h => exact h
  | 3, h => exact h
  | 4, h => exact h
  | 5, h => exact h
  | 6, h => exact h
  | 7, h => exact h.elim fun c2 hh => ⟨c2, hh.1, hh.2.1, hh.2.2.1, (hh.2.2.2.below _hb).mono _hb.size⟩
  | 8, h => exact h
  | 9, h => exact h
  | i9 + 10, _ => exact trivial

set_option maxRecDepth 100000 in
set_option maxHeartbeats 1000000 in
theorem put_any (BT : Nat) (cs : List Cel) (k i : Nat) (c : Cel) (B : Nat) (w : World) (hB : B ≤ w.heap.size) (hk : k < 2) (hi : i < 40) (hT : Tab w BT 68 cs) (hc : c.ok B w) :
    Calls Try.prog 30 #[.pointer (some ⟨BT, 0, none⟩), .agg #[.int .u8 k, .int .i64 ((i : Int) + 1)], c.v] w fun e w' => (∃ v, e = .returned v) ∧
      (∃ c2 : Cel, Tab w' BT 68 (cs.set (k * 40 + i) c2) ∧ c2.l = c.l ∧ c2.cap = c.l.length ∧ c2.ok w'.heap.size w') ∧ w.grownBy w' (some BT) := by
  have HT := Lib.hid hT
  have lT := hT.lt
  have HC0 := Lib.hid (hc.mono hB)
  obtain ⟨V, hV⟩ : ∃ V, V = c.v := ⟨_, rfl⟩
  clear hT hc
  go_enter Try.func30, Try.ntmps30
  go_wp2_with fail
  obtain ⟨W0, hW0⟩ : ∃ W0, W0 = w.alloc (.cells #[.int .u8 k, .int .i64 ((i : Int) + 1)] 26) := ⟨_, rfl⟩
  have bX : Boxed2 W0 w.heap.size 26 (.int .u8 k) (.int .i64 ((i : Int) + 1)) := by rw [hW0]; exact Boxed2.new _ _ _ _
  have hb0 : Below w.heap.size w W0 := by rw [hW0]; exact below1 _ _
  have HC : Hid (c.ok W0.heap.size W0) := Lib.hid ((HC0.out.below hb0).mono hb0.size)
  have HT0 : Hid (Tab W0 BT 68 cs) := Lib.hid (HT.out.below hb0 lT)
  rw [← hW0]
  have hgr : w.grownBy W0 (some BT) := by rw [hW0]; exact World.grownBy_alloc _ _ _
  clear hW0
  have hz : IntKind.i64.wrap ((i : Int) + 1 - 1) = i := by rw [show (i : Int) + 1 - 1 = i by omega]; exact IntWalk.i64_in _ (by omega)
  have HZ := Lib.hid hz
  clear hz
  refine rgT2 10 [some 6, some 7, some 8, some 9, some 10, some 11, some 12, some 13, some 14, some 15, some 16, none] (psiPut BT w.heap.size k i c) (fun w' => Below W0.heap.size W0 w') (by kernel_rfl) (by kernel_rfl) (by kernel_rfl) (by kernel_rfl) (psiPut_stab BT w.heap.size k i c) (fun _ _ h hb => h.trans (hb.mono h.size)) (fun i9 o9 hi9 ho9 fa w1 hs hout hI hdep => ?_) ?_ ((Below.refl _ _).drew)
  · skip
    have hz := HZ.out
    have c0 := (bX.below hI bX.lt).cell0
    have c1 := (bX.below hI bX.lt).cell1
    match i9, hi9, ho9 with
    | 0, _, ho9 =>
      obtain rfl := Option.some.inj ho9
      refine .inl ⟨rfl, fun K hK => ?_⟩
      exact st_move rfl ((hout 0 rfl).trans rfl) (hK _ _ (Below.refl _ _) rfl)
    | 1, _, ho9 =>
      obtain rfl := Option.some.inj ho9
      refine .inl ⟨rfl, fun K hK => ?_⟩
      exact fa26_0 rfl ((hout 4 rfl).trans rfl) (hK _ _ (Below.refl _ _) rfl)
    | 2, _, ho9 =>
      obtain rfl := Option.some.inj ho9
      have q1 : (fa.tmps.getD 7 undef) = .pointer (some ⟨w.heap.size, 0, none⟩) := hdep ⟨1, .data⟩ (by simp) rfl _ rfl
      refine .inl ⟨rfl, fun K hK => ?_⟩
      exact ld24 rfl q1 c0 (hK _ _ (Below.refl _ _) rfl)
    | 3, _, ho9 =>
      obtain rfl := Option.some.inj ho9
      refine .inl ⟨rfl, fun K hK => ?_⟩
      exact fa26_1 rfl ((hout 4 rfl).trans rfl) (hK _ _ (Below.refl _ _) rfl)
    | 4, _, ho9 =>
      obtain rfl := Option.some.inj ho9
      have q3 : (fa.tmps.getD 9 undef) = .pointer (some ⟨w.heap.size, 1, none⟩) := hdep ⟨3, .data⟩ (by simp) rfl _ rfl
      refine .inl ⟨rfl, fun K hK => ?_⟩
      exact ld3 rfl q3 c1 (hK _ _ (Below.refl _ _) rfl)
    | 5, _, ho9 =>
      obtain rfl := Option.some.inj ho9
      have q4 : (fa.tmps.getD 10 undef) = .int .i64 ((i : Int) + 1) := hdep ⟨4, .data⟩ (by simp) rfl _ rfl
      refine .inl ⟨rfl, fun K hK => ?_⟩
      exact st_sub_3 rfl q4 rfl hz (hK _ _ (Below.refl _ _) rfl)
    | 6, _, ho9 =>
      obtain rfl := Option.some.inj ho9
      refine .inl ⟨rfl, fun K hK => ?_⟩
      exact st_move rfl ((hout 2 rfl).trans rfl) (hK _ _ (Below.refl _ _) rfl)
    | 7, _, ho9 =>
      obtain rfl := Option.some.inj ho9
      have q6 : (fa.tmps.getD 12 undef) = c.v := hdep ⟨6, .data⟩ (by simp) rfl _ rfl
      refine .inl ⟨rfl, fun K hK => ?_⟩
      exact step_calls rfl enter26 (vs := #[c.v]) (vals1 q6) ((copied_any c W0.heap.size w1 hI.size (HC.out.below hI)).mono fun e w' hh => by
        obtain ⟨c2, rfl, hc2, hb⟩ := hh
        exact ⟨_, rfl, hK _ _ hb ⟨c2, rfl, hc2.out.1, hc2.out.2.1, hc2.out.2.2⟩⟩)
    | 8, _, ho9 =>
      obtain rfl := Option.some.inj ho9
      have q0 : (fa.tmps.getD 6 undef) = .pointer (some ⟨BT, 0, none⟩) := hdep ⟨0, .data⟩ (by simp) rfl _ rfl
      refine .inl ⟨rfl, fun K hK => ?_⟩
      exact st_nilCheck rfl q0 (hK _ _ (Below.refl _ _) rfl)
    | 9, _, ho9 =>
      obtain rfl := Option.some.inj ho9
      have q8 : (fa.tmps.getD 14 undef) = .pointer (some ⟨BT, 0, none⟩) := hdep ⟨8, .data⟩ (by simp) rfl _ rfl
      have q2 : (fa.tmps.getD 8 undef) = .int .u8 k := hdep ⟨2, .data⟩ (by simp) rfl _ rfl
      refine .inl ⟨rfl, fun K hK => ?_⟩
      exact st_idx68 (k := k) rfl q8 q2 (by omega) (hK _ _ (Below.refl _ _) rfl)
    | i9 + 10, hi9, _ => exact absurd hi9 (by omega)
  · intro a2 w2 hs hd hout hI hall
    obtain ⟨tmps, defers⟩ := a2
    have e_11 : (tmps.getD 11 undef) = .int .i64 i := hall 5 _ (by decide) rfl
    have e_13 : ∃ c2 : Cel, (tmps.getD 13 undef) = c2.v ∧ c2.l = c.l ∧ c2.cap = c.l.length ∧ c2.ok w2.heap.size w2 := hall 7 _ (by decide) rfl
    obtain ⟨c2, e_13, hl2, hcap2, hok2⟩ := e_13
    have e_15 : (tmps.getD 15 undef) = .pointer (some ⟨BT, k * 40, none⟩) := hall 9 _ (by decide) rfl
    simp only at hs hd hout
    have ef := frameAt [some 6, some 7, some 8, some 9, some 10, some 11, some 12, some 13, some 14, some 15, some 16, none] _ tmps hs hout
    obtain ⟨sv1, hu⟩ : ∃ u : Nat → Value, u = fun s => tmps.getD s undef := ⟨_, rfl⟩
    have eu_11 : sv1 11 = .int .i64 i := by rw [hu]; exact e_11
    have eu_13 : sv1 13 = c2.v := by rw [hu]; exact e_13
    have eu_15 : sv1 15 = .pointer (some ⟨BT, k * 40, none⟩) := by rw [hu]; exact e_15
    rw [← hu] at ef
    have ef2 : tmps = #[.pointer (some ⟨BT, 0, none⟩), .agg #[.int .u8 k, .int .i64 ((i : Int) + 1)], c.v, undef, .pointer (some ⟨w.heap.size, 0, none⟩), undef, (sv1 6), (sv1 7), (sv1 8), (sv1 9), (sv1 10), (sv1 11), (sv1 12), (sv1 13), (sv1 14), (sv1 15), (sv1 16)] := ef
    subst hd
    rw [eu_11, eu_13, eu_15] at ef2
    rw [ef2]
    clear ef ef2 hu hs hout hall e_11 eu_11 e_13 eu_13 e_15 eu_15
    simp only [List.drop_succ_cons, List.drop_zero]
    have lT0 : BT < W0.heap.size := Nat.lt_of_lt_of_le lT hb0.size
    have hT2 := HT0.out.below hI lT0
    have fT := hT2.frozen
    obtain ⟨xa, xn, xc, cT⟩ := hT2.cellE (k := k * 40 + i) (by omega)
    have HT2 := Lib.hid hT2
    clear hT2
    have hgr2 : W0.grownBy w2 (some BT) := ⟨hI.os, hI.tape, hI.output, hI.size, fun j hj _ => hI.block j hj⟩
    have HL2 := Lib.hid hl2
    have HC2 := Lib.hid hcap2
    clear hl2 hcap2
    obtain ⟨ca, cl, cc⟩ := c2
    simp only [Cel.v]
    have h1 : (i : Int) < 40 := by omega
    go_wp2_with fail
    have hT3 := HT2.out.set (k * 40 + i) ⟨ca, cl, cc⟩
    have hc3 : Cel.ok w2.heap.size (w2.setCell ⟨BT, k * 40 + i, none⟩ (Cel.v ⟨ca, cl, cc⟩)) ⟨ca, cl, cc⟩ := hok2.set_tab HT2.out _ _
    refine bodyPost_end (v := .tuple #[]) (by simp [results, Try.results30, go_sem]) rfl ⟨⟨_, rfl⟩, ⟨⟨ca, cl, cc⟩, hT3, HL2.out, HC2.out, hc3.mono (by simp)⟩, ?_⟩
    refine (hgr.trans hgr2).trans (grownBy_setCellAt _ _ _ _)
end Go.Proofs.Ytjjnhmbgffdenaa
