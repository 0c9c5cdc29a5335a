import Derived.Test.YtjjnhmbgffdenaaDoorGam
namespace Go.Proofs.YtjjnhmbgffdenaaDoor
open Go.RowKit Go.Sort
def psiTx26 (b : Nat) (q : Nat) (n : Nat) (c : Nat) (kq : Nat) (sv : Value) (py : Int) (pn : Int) : Nat → Value → World → Prop
  | 0, v9, _ => v9 = sv
  | 1, v9, _ => v9 = .slice (some ⟨b, q, none⟩) n c
  | 2, v9, _ => v9 = .int .i64 (kq : Int)
  | 3, v9, _ => v9 = .pointer (some ⟨b, q + kq * 2, none⟩)
  | 4, v9, _ => v9 = .pointer (some ⟨b, q + kq * 2, none⟩)
  | 5, v9, _ => v9 = .int .u8 py
  | 6, v9, _ => v9 = .int .u8 (IntKind.u8.wrap (48 + py))
  | 7, v9, _ => v9 = .slice (some ⟨b, q, none⟩) n c
  | 8, v9, _ => v9 = .int .i64 (kq : Int)
  | 9, v9, _ => v9 = .pointer (some ⟨b, q + kq * 2, none⟩)
  | 10, v9, _ => v9 = .pointer (some ⟨b, q + kq * 2 + 1, none⟩)
  | 11, v9, _ => v9 = .int .i64 pn
  | 12, v9, _ => v9 = .int .i64 (pn.tmod 10)
  | 13, v9, _ => v9 = .int .u8 (IntKind.u8.wrap (pn.tmod 10))
  | 14, v9, _ => v9 = .int .u8 (IntKind.u8.wrap (48 + IntKind.u8.wrap (pn.tmod 10)))
  | 15, v9, w9 => ∃ g, v9 = .slice (some ⟨g, 0, none⟩) 4 4 ∧ g < w9.heap.size ∧ w9.heap[g]? = some (.cells #[.int .u8 (IntKind.u8.wrap (48 + py)), .int .u8 46, .int .u8 (IntKind.u8.wrap (48 + IntKind.u8.wrap (pn.tmod 10))), .int .u8 32] 5 (0, 0))
  | 16, v9, _ => v9 = strB (nmB ⟨py, pn⟩)
  | _, _, _ => True
theorem psiTx26_stab (b : Nat) (q : Nat) (n : Nat) (c : Nat) (kq : Nat) (sv : Value) (py : Int) (pn : Int) (i9 : Nat) (v9 : Value) (w9 w9' : World) (h : psiTx26 b q n c kq sv py pn i9 v9 w9) (_hb : Below w9.heap.size w9 w9') : psiTx26 b q n c kq sv py pn i9 v9 w9' := by
  match i9, h with
  | 0, h => exact h
  | 1, h => exact h
  | 2, h => exact h
  | 3, h => exact h
  | 4, h => exact h
  | 5, h => exact h
  | 6, h => exact h
  | 7, h => exact h
  | 8, h => exact h
  | 9, h => exact h
  | 10, h => exact h
  | 11, h => exact h
  | 12, h => exact h
  | 13, h => exact h
  | 14, h => exact h
  | 15, h => exact (by obtain ⟨g, h1, h2, h3⟩ := h; exact ⟨g, h1, Nat.lt_of_lt_of_le h2 _hb.size, (_hb.block g h2).trans h3⟩)
  | 16, h => exact h
  | i9 + 17, _ => exact trivial
set_option maxRecDepth 100000 in
set_option maxHeartbeats 4000000 in
/-- Names as a text. -/
theorem text_any (c : Cel) (w : World) (hc : c.ok w.heap.size w) :
    Calls Tryd.prog 26 #[c.v] w fun e w' => e = .returned (strB (textM c.l)) ∧ Below w.heap.size w w' := by
  have HC := Lib.hid hc
  have hl100 := hc.1
  obtain ⟨ca, cl, cc⟩ := c
  simp only [Cel.v] at hl100 ⊢
  obtain ⟨n, hn⟩ : ∃ n, cl.length = n := ⟨_, rfl⟩
  rw [hn] at hl100 ⊢
  have HN := Lib.hid hn
  clear hc hn
  go_enter Tryd.func26, Tryd.ntmps26
  go_wp2
  go_loopg [3, 4] (n + 1) (fun g s3 s4 wr => ∃ i : Nat, s3 = strB (textM (cl.take i)) ∧ s4 = .int .i64 i ∧ i ≤ n ∧ g = n + 1 - i ∧ Below w.heap.size w wr)
  case atStart => exact ⟨0, rfl, rfl, by omega, by omega, Below.refl _ _⟩
  case round =>
    obtain ⟨i, rfl, rfl, hi, hg, hbr⟩ := hrel
    have HG := Lib.hid hg
    clear hg
    by_cases hlt : i < n
    · have hiz : (i : Int) < (n : Int) := by omega
      obtain ⟨b, o, ha, hb, t0, t1⟩ := (HC.out.below hbr).at (i := i) (by simp only; rw [HN.out]; exact hlt)
      obtain rfl : ca = some ⟨b, o, none⟩ := ha
      obtain ⟨p, hp⟩ : ∃ p, cl[i]'(by rw [HN.out]; exact hlt) = p := ⟨_, rfl⟩
      simp only [hp] at t0 t1
      have hst : textM (cl.take (i + 1)) = textM (cl.take i) ++ nmB p := by
        rw [List.take_succ_eq_append_getElem (by rw [HN.out]; exact hlt), hp]
        simp [textM]
      have HST := Lib.hid hst
      have hbl : b < wr.heap.size := Nat.lt_of_lt_of_le hb hbr.size
      have HP0 : Hid (∀ {W : World}, RowKit.Below wr.heap.size wr W → W.cell? ⟨b, o + i * 2, none⟩ = some (.int .u8 p.y)) := Lib.hid fun h => (h.cell (p := ⟨b, o + i * 2, none⟩) hbl).trans t0
      have HP1 : Hid (∀ {W : World}, RowKit.Below wr.heap.size wr W → W.cell? ⟨b, o + i * 2 + 1, none⟩ = some (.int .i64 p.n)) := Lib.hid fun h => (h.cell (p := ⟨b, o + i * 2 + 1, none⟩) hbl).trans t1
      have HKN := Lib.hid hlt
      have hll : (textM (cl.take i)).length + (nmB p).length ≤ 100000 := by
        rw [textM_len, List.length_take]; simp [nmB]; omega
      obtain ⟨sv, hsv⟩ : ∃ sv, strB (textM (cl.take i)) = sv := ⟨_, rfl⟩
      rw [hsv]
      have HSV := Lib.hid hsv
      clear hst hp t0 t1 hsv
      go_upto_region 5 with fail
      refine rgT2s 3 17 [some 11, some 12, some 13, some 14, some 15, some 16, some 17, some 18, some 19, some 20, some 21, some 22, some 23, some 24, some 25, some 26, some 27, some 28, some 3] (psiTx26 b o n cc i sv p.y p.n) (fun w' => RowKit.Below wr.heap.size wr w') (by kernel_rfl) (by kernel_rfl) (by kernel_rfl) (by kernel_rfl) (by kernel_rfl) (psiTx26_stab b o n cc i sv p.y p.n) (fun _ _ h hb => h.trans (hb.mono h.size)) (fun i9 o9 hi9 ho9 aq9 w1 hs hout hold hI hdep => ?_) ?_ ((Below.refl _ _).drew)
      · skip
        match i9, hi9, ho9 with
        | 0, _, ho9 =>
          obtain rfl := Option.some.inj ho9
          refine .inl ⟨rfl, fun K hK => ?_⟩
          exact st_move rfl (hold.trans rfl) (hK _ _ (Below.refl _ _) rfl)
        | 1, _, ho9 =>
          obtain rfl := Option.some.inj ho9
          refine .inl ⟨rfl, fun K hK => ?_⟩
          exact st_move rfl ((hout 0 rfl).trans rfl) (hK _ _ (Below.refl _ _) rfl)
        | 2, _, ho9 =>
          obtain rfl := Option.some.inj ho9
          refine .inl ⟨rfl, fun K hK => ?_⟩
          exact st_move rfl ((hout 4 rfl).trans rfl) (hK _ _ (Below.refl _ _) rfl)
        | 3, _, ho9 =>
          obtain rfl := Option.some.inj ho9
          have dq1 : (aq9.tmps.getD 12 undef) = .slice (some ⟨b, o, none⟩) n cc := hdep ⟨1, .data⟩ (by simp) rfl _ rfl
          have dq2 : (aq9.tmps.getD 13 undef) = .int .i64 (i : Int) := hdep ⟨2, .data⟩ (by simp) rfl _ rfl
          refine .inl ⟨rfl, fun K hK => ?_⟩
          exact st_idx61 (k := i) rfl dq1 dq2 HKN.out (hK _ _ (Below.refl _ _) rfl)
        | 4, _, ho9 =>
          obtain rfl := Option.some.inj ho9
          have dq3 : (aq9.tmps.getD 14 undef) = .pointer (some ⟨b, o + i * 2, none⟩) := hdep ⟨3, .data⟩ (by simp) rfl _ rfl
          refine .inl ⟨rfl, fun K hK => ?_⟩
          exact fa28_0 rfl dq3 (hK _ _ (Below.refl _ _) rfl)
        | 5, _, ho9 =>
          obtain rfl := Option.some.inj ho9
          have dq4 : (aq9.tmps.getD 15 undef) = .pointer (some ⟨b, o + i * 2, none⟩) := hdep ⟨4, .data⟩ (by simp) rfl _ rfl
          refine .inl ⟨rfl, fun K hK => ?_⟩
          exact ld5 rfl dq4 (HP0.out hI) (hK _ _ (Below.refl _ _) rfl)
        | 6, _, ho9 =>
          obtain rfl := Option.some.inj ho9
          have dq5 : (aq9.tmps.getD 16 undef) = .int .u8 p.y := hdep ⟨5, .data⟩ (by simp) rfl _ rfl
          refine .inl ⟨rfl, fun K hK => ?_⟩
          exact st_add_5 rfl rfl dq5 rfl (hK _ _ (Below.refl _ _) rfl)
        | 7, _, ho9 =>
          obtain rfl := Option.some.inj ho9
          refine .inl ⟨rfl, fun K hK => ?_⟩
          exact st_move rfl ((hout 0 rfl).trans rfl) (hK _ _ (Below.refl _ _) rfl)
        | 8, _, ho9 =>
          obtain rfl := Option.some.inj ho9
          refine .inl ⟨rfl, fun K hK => ?_⟩
          exact st_move rfl ((hout 4 rfl).trans rfl) (hK _ _ (Below.refl _ _) rfl)
        | 9, _, ho9 =>
          obtain rfl := Option.some.inj ho9
          have dq7 : (aq9.tmps.getD 18 undef) = .slice (some ⟨b, o, none⟩) n cc := hdep ⟨7, .data⟩ (by simp) rfl _ rfl
          have dq8 : (aq9.tmps.getD 19 undef) = .int .i64 (i : Int) := hdep ⟨8, .data⟩ (by simp) rfl _ rfl
          refine .inl ⟨rfl, fun K hK => ?_⟩
          exact st_idx61 (k := i) rfl dq7 dq8 HKN.out (hK _ _ (Below.refl _ _) rfl)
        | 10, _, ho9 =>
          obtain rfl := Option.some.inj ho9
          have dq9 : (aq9.tmps.getD 20 undef) = .pointer (some ⟨b, o + i * 2, none⟩) := hdep ⟨9, .data⟩ (by simp) rfl _ rfl
          refine .inl ⟨rfl, fun K hK => ?_⟩
          exact fa28_1 rfl dq9 (hK _ _ (Below.refl _ _) rfl)
        | 11, _, ho9 =>
          obtain rfl := Option.some.inj ho9
          have dq10 : (aq9.tmps.getD 21 undef) = .pointer (some ⟨b, o + i * 2 + 1, none⟩) := hdep ⟨10, .data⟩ (by simp) rfl _ rfl
          refine .inl ⟨rfl, fun K hK => ?_⟩
          exact ld3 rfl dq10 (HP1.out hI) (hK _ _ (Below.refl _ _) rfl)
        | 12, _, ho9 =>
          obtain rfl := Option.some.inj ho9
          have dq11 : (aq9.tmps.getD 22 undef) = .int .i64 p.n := hdep ⟨11, .data⟩ (by simp) rfl _ rfl
          refine .inl ⟨rfl, fun K hK => ?_⟩
          exact st_rem3 rfl dq11 rfl (hK _ _ (Below.refl _ _) rfl)
        | 13, _, ho9 =>
          obtain rfl := Option.some.inj ho9
          have dq12 : (aq9.tmps.getD 23 undef) = .int .i64 (p.n.tmod 10) := hdep ⟨12, .data⟩ (by simp) rfl _ rfl
          refine .inl ⟨rfl, fun K hK => ?_⟩
          exact st_conv35 rfl dq12 rfl (hK _ _ (Below.refl _ _) rfl)
        | 14, _, ho9 =>
          obtain rfl := Option.some.inj ho9
          have dq13 : (aq9.tmps.getD 24 undef) = .int .u8 (IntKind.u8.wrap (p.n.tmod 10)) := hdep ⟨13, .data⟩ (by simp) rfl _ rfl
          refine .inl ⟨rfl, fun K hK => ?_⟩
          exact st_add_5 rfl rfl dq13 rfl (hK _ _ (Below.refl _ _) rfl)
        | 15, _, ho9 =>
          obtain rfl := Option.some.inj ho9
          have dq6 : (aq9.tmps.getD 17 undef) = .int .u8 (IntKind.u8.wrap (48 + p.y)) := hdep ⟨6, .data⟩ (by simp) rfl _ rfl
          have dq14 : (aq9.tmps.getD 25 undef) = .int .u8 (IntKind.u8.wrap (48 + IntKind.u8.wrap (p.n.tmod 10))) := hdep ⟨14, .data⟩ (by simp) rfl _ rfl
          refine .inl ⟨rfl, fun K hK => ?_⟩
          exact st_bsB4 rfl dq6 dq14 (hK _ _ (below1 _ _) ⟨_, rfl, by simp, heap_alloc_new _ _⟩)
        | 16, _, ho9 =>
          obtain rfl := Option.some.inj ho9
          have dq15 : ∃ g, (aq9.tmps.getD 26 undef) = .slice (some ⟨g, 0, none⟩) 4 4 ∧ g < w1.heap.size ∧ w1.heap[g]? = some (.cells #[.int .u8 (IntKind.u8.wrap (48 + p.y)), .int .u8 46, .int .u8 (IntKind.u8.wrap (48 + IntKind.u8.wrap (p.n.tmod 10))), .int .u8 32] 5 (0, 0)) := hdep ⟨15, .data⟩ (by simp) rfl _ rfl
          refine .inl ⟨rfl, fun K hK => ?_⟩
          obtain ⟨g, h1, h2, h3⟩ := dq15
          exact st_str (xs := [IntKind.u8.wrap (48 + p.y), 46, IntKind.u8.wrap (48 + IntKind.u8.wrap (p.n.tmod 10)), 32]) rfl h1 rfl h3 (hK _ _ (Below.refl _ _) rfl)
        | i9 + 17, hi9, _ => exact absurd hi9 (by omega)
      · intro a2 w2 hs hd hout hold hI hall
        obtain ⟨tmps, defers⟩ := a2
        have e_11 : (tmps.getD 11 undef) = sv := hall 0 _ (by decide) rfl
        have e_27 : (tmps.getD 27 undef) = strB (nmB ⟨p.y, p.n⟩) := hall 16 _ (by decide) rfl
        simp only at hs hd hout
        have ef := frameAt [some 11, some 12, some 13, some 14, some 15, some 16, some 17, some 18, some 19, some 20, some 21, some 22, some 23, some 24, some 25, some 26, some 27, some 28, some 3] _ tmps hs hout
        obtain ⟨sv5, hu⟩ : ∃ u : Nat → Value, u = fun s => tmps.getD s undef := ⟨_, rfl⟩
        have eu_11 : sv5 11 = sv := by rw [hu]; exact e_11
        have eu_27 : sv5 27 = strB (nmB ⟨p.y, p.n⟩) := by rw [hu]; exact e_27
        rw [← hu] at ef
        have ef2 : tmps = #[Value.slice (some { block := b, off := o }) n cc, undef, Value.string { data := #[] }, (sv5 3), Value.int IntKind.i64 i, Value.int IntKind.i64 i, Value.slice (some { block := b, off := o }) n cc, Value.int IntKind.i64 n, Value.bool true, u9, u10, (sv5 11), (sv5 12), (sv5 13), (sv5 14), (sv5 15), (sv5 16), (sv5 17), (sv5 18), (sv5 19), (sv5 20), (sv5 21), (sv5 22), (sv5 23), (sv5 24), (sv5 25), (sv5 26), (sv5 27), (sv5 28), undef] := ef
        subst hd
        rw [eu_11, eu_27] at ef2
        rw [ef2]
        clear ef ef2 hu hs hout hall e_11 eu_11 e_27 eu_27
        simp only [List.drop_succ_cons, List.drop_zero]
        refine wpList_plain rfl fun K7 hK7 => ?_
        refine st_add9 (l1 := textM (cl.take i)) (l2 := nmB p) rfl HSV.out.symm rfl hll (hK7 _ _ ?_)
        have hbr2 : RowKit.Below w.heap.size w w2 := hbr.trans (hI.mono hbr.size)
        clear HP0 HP1 hll HSV hI
        go_wp2_with fail
        go_roundg (n + 1 - (i + 1))
        case measure => have := HG.out; omega
        case rel => exact ⟨i + 1, by rw [HST.out], by go_num, by omega, by omega, hbr2⟩
    · obtain rfl : i = n := by omega
      have hiz : ¬ ((i : Int) < (i : Int)) := by omega
      have h1 : cl.take i = cl := List.take_of_length_le (by rw [HN.out]; exact Nat.le_refl _)
      rw [h1]
      clear h1
      go_wp2_with fail
      go_ret
      exact ⟨rfl, hbr⟩
end Go.Proofs.YtjjnhmbgffdenaaDoor
namespace Go.Proofs.YtjjnhmbgffdenaaDoor
open Go.RowKit Go.Sort
def nmD (p : Nm) : List UInt8 := [chB (IntKind.u8.wrap (48 + p.y)), 46, chB (IntKind.u8.wrap (48 + IntKind.u8.wrap (p.n.tmod 10)))]
def dirB (d : Int) : List UInt8 := if d = 0 then [60, 32] else [62, 32]
/-- A pass as a law writes it. -/
def paB (p : Pa) : List UInt8 := nmD p.id ++ ((if p.f = true then [43] else []) ++ dirB p.d)
def passM (l : List Pa) : List UInt8 := l.flatMap paB
theorem paB_len (p : Pa) : (paB p).length ≤ 6 := by
  unfold paB nmD dirB
  split <;> split <;> simp
theorem passM_len (l : List Pa) : (passM l).length ≤ 6 * l.length := by
  induction l with
  | nil => simp [passM]
  | cons p l ih =>
    have : passM (p :: l) = paB p ++ passM l := rfl
    have := paB_len p
    rw [‹passM (p :: l) = _›, List.length_append, List.length_cons]
    omega
/-- Four cells of a pass. -/
theorem Lies.four {N : Nat} {w : World} {ao : Option Addr} {l : List Pa} (h : Lies Pa.enc N w ao l) {i : Nat} (hi : i < l.length) : ∃ b, ao = some ⟨b, 0, none⟩ ∧ b < w.heap.size ∧ w.cell? ⟨b, 0 + i * 4, none⟩ = some (.int .u8 l[i].id.y) ∧ w.cell? ⟨b, 0 + i * 4 + 1, none⟩ = some (.int .i64 l[i].id.n) ∧ w.cell? ⟨b, 0 + i * 4 + 2, none⟩ = some (.bool l[i].f) ∧ w.cell? ⟨b, 0 + i * 4 + 3, none⟩ = some (.int .u8 l[i].d) := by
  obtain ⟨b, h1, h2, h3⟩ := h.at Pa.enc_len hi
  rw [Nat.zero_add]
  exact ⟨b, h1, h2, h3 0 _ (by decide) rfl, h3 1 _ (by decide) rfl, h3 2 _ (by decide) rfl, h3 3 _ (by decide) rfl⟩
theorem dirB_len (d : Int) : (dirB d).length = 2 := by unfold dirB; split <;> rfl
theorem run_add (l1 l2 : List UInt8) (h : l1.length + l2.length ≤ 100000) (w : World) : (binOp .add 9 (strB l1) (strB l2)).run Tryd.prog w = .ok (strB (l1 ++ l2)) w := by
  have h := run_string_add_lists (P := Tryd.prog) w l1 l2 (by omega) (by omega)
  unfold strB
  go_simp
theorem dir_cell (w : World) (k : Nat) (hk : k < 2) : (w.alloc (.cells #[.string { data := #[60, 32] }, .string { data := #[62, 32] }] 9)).cell? ⟨w.heap.size, k, none⟩ = some (strB (dirB (k : Int))) := by
  rw [cell_of_row _ _ k _ 9 (0, 0) (heap_alloc_new w _)]
  obtain rfl | rfl : k = 0 ∨ k = 1 := by omega
  · rfl
  · rfl
def psiPs14 (b : Nat) (q : Nat) (n : Nat) (c : Nat) (kq : Nat) (sv : Value) (py : Int) (pn : Int) : Nat → Value → World → Prop
  | 0, v9, _ => v9 = sv
  | 1, v9, _ => v9 = .slice (some ⟨b, q, none⟩) n c
  | 2, v9, _ => v9 = .int .i64 (kq : Int)
  | 3, v9, _ => v9 = .pointer (some ⟨b, q + kq * 4, none⟩)
  | 4, v9, _ => v9 = .pointer (some ⟨b, q + kq * 4, none⟩)
  | 5, v9, _ => v9 = .pointer (some ⟨b, q + kq * 4, none⟩)
  | 6, v9, _ => v9 = .int .u8 py
  | 7, v9, _ => v9 = .int .u8 (IntKind.u8.wrap (48 + py))
  | 8, v9, _ => v9 = .slice (some ⟨b, q, none⟩) n c
  | 9, v9, _ => v9 = .int .i64 (kq : Int)
  | 10, v9, _ => v9 = .pointer (some ⟨b, q + kq * 4, none⟩)
  | 11, v9, _ => v9 = .pointer (some ⟨b, q + kq * 4, none⟩)
  | 12, v9, _ => v9 = .pointer (some ⟨b, q + kq * 4 + 1, none⟩)
  | 13, v9, _ => v9 = .int .i64 pn
  | 14, v9, _ => v9 = .int .i64 (pn.tmod 10)
  | 15, v9, _ => v9 = .int .u8 (IntKind.u8.wrap (pn.tmod 10))
  | 16, v9, _ => v9 = .int .u8 (IntKind.u8.wrap (48 + IntKind.u8.wrap (pn.tmod 10)))
  | 17, v9, w9 => ∃ g, v9 = .slice (some ⟨g, 0, none⟩) 3 3 ∧ g < w9.heap.size ∧ w9.heap[g]? = some (.cells #[.int .u8 (IntKind.u8.wrap (48 + py)), .int .u8 46, .int .u8 (IntKind.u8.wrap (48 + IntKind.u8.wrap (pn.tmod 10)))] 5 (0, 0))
  | 18, v9, _ => v9 = strB (nmD ⟨py, pn⟩)
  | _, _, _ => True
theorem psiPs14_stab (b : Nat) (q : Nat) (n : Nat) (c : Nat) (kq : Nat) (sv : Value) (py : Int) (pn : Int) (i9 : Nat) (v9 : Value) (w9 w9' : World) (h : psiPs14 b q n c kq sv py pn i9 v9 w9) (_hb : Below w9.heap.size w9 w9') : psiPs14 b q n c kq sv py pn i9 v9 w9' := by
  match i9, h with
  | 0, h => exact h
  | 1, h => exact h
  | 2, h => exact h
  | 3, h => exact h
  | 4, h => exact h
  | 5, h => exact h
  | 6, h => exact h
  | 7, h => exact h
  | 8, h => exact h
  | 9, h => exact h
  | 10, h => exact h
  | 11, h => exact h
  | 12, h => exact h
  | 13, h => exact h
  | 14, h => exact h
  | 15, h => exact h
  | 16, h => exact h
  | 17, h => exact (by obtain ⟨g, h1, h2, h3⟩ := h; exact ⟨g, h1, Nat.lt_of_lt_of_le h2 _hb.size, (_hb.block g h2).trans h3⟩)
  | 18, h => exact h
  | i9 + 19, _ => exact trivial
set_option maxRecDepth 100000 in
set_option maxHeartbeats 4000000 in
/-- Passes as a text. -/
theorem passed_any (ao : Option Addr) (l : List Pa) (cap : Nat) (w : World) (hl : Lies Pa.enc 0 w ao l) (hlen : l.length ≤ 1000) (hd : ∀ p ∈ l, p.d = 0 ∨ p.d = 1) :
    Calls Tryd.prog 14 #[.slice ao l.length cap] w fun e w' => e = .returned (strB (passM l)) ∧ Below w.heap.size w w' := by
  have HC := Lib.hid hl
  have HD := Lib.hid hd
  obtain ⟨n, hn⟩ : ∃ n, l.length = n := ⟨_, rfl⟩
  rw [hn] at hlen ⊢
  have HN := Lib.hid hn
  clear hl hn hd
  go_enter Tryd.func14, Tryd.ntmps14
  go_wp2
  go_loopg [3, 4] (n + 1) (fun g s3 s4 wr => ∃ i : Nat, s3 = strB (passM (l.take i)) ∧ s4 = .int .i64 i ∧ i ≤ n ∧ g = n + 1 - i ∧ Below w.heap.size w wr)
  case atStart => exact ⟨0, rfl, rfl, by omega, by omega, Below.refl _ _⟩
  case round =>
    obtain ⟨i, rfl, rfl, hi, hg, hbr⟩ := hrel
    have HG := Lib.hid hg
    clear hg
    by_cases hlt : i < n
    · have hiz : (i : Int) < (n : Int) := by omega
      obtain ⟨b, rfl, hbl, c0, c1, c2, c3⟩ := (HC.out.below hbr).four (i := i) (by rw [HN.out]; exact hlt)
      obtain ⟨p, hp⟩ : ∃ p, l[i]'(by rw [HN.out]; exact hlt) = p := ⟨_, rfl⟩
      rw [hp] at c0 c1 c2 c3
      have hst : passM (l.take (i + 1)) = passM (l.take i) ++ paB p := by
        rw [List.take_succ_eq_append_getElem (by rw [HN.out]; exact hlt), hp]
        simp [passM]
      have HST := Lib.hid hst
      have HPD := Lib.hid (HD.out p (by rw [← hp]; exact List.getElem_mem _))
      have HP0 : Hid (∀ {W : World}, RowKit.Below wr.heap.size wr W → W.cell? ⟨b, 0 + i * 4, none⟩ = some (.int .u8 p.id.y)) := Lib.hid fun h => (h.cell (p := ⟨b, 0 + i * 4, none⟩) hbl).trans c0
      have HP1 : Hid (∀ {W : World}, RowKit.Below wr.heap.size wr W → W.cell? ⟨b, 0 + i * 4 + 1, none⟩ = some (.int .i64 p.id.n)) := Lib.hid fun h => (h.cell (p := ⟨b, 0 + i * 4 + 1, none⟩) hbl).trans c1
      have HP2 : Hid (∀ {W : World}, RowKit.Below wr.heap.size wr W → W.cell? ⟨b, 0 + i * 4 + 2, none⟩ = some (.bool p.f)) := Lib.hid fun h => (h.cell (p := ⟨b, 0 + i * 4 + 2, none⟩) hbl).trans c2
      have HP3 : Hid (∀ {W : World}, RowKit.Below wr.heap.size wr W → W.cell? ⟨b, 0 + i * 4 + 3, none⟩ = some (.int .u8 p.d)) := Lib.hid fun h => (h.cell (p := ⟨b, 0 + i * 4 + 3, none⟩) hbl).trans c3
      have HKN := Lib.hid hlt
      have hl1 : (passM (l.take i)).length ≤ 6000 := by
        have := passM_len (l.take i)
        rw [List.length_take] at this; omega
      have HL1 := Lib.hid hl1
      obtain ⟨sv, hsv⟩ : ∃ sv, strB (passM (l.take i)) = sv := ⟨_, rfl⟩
      rw [hsv]
      have HSV := Lib.hid hsv
      clear hst hp c0 c1 c2 c3 hsv hl1
      go_upto_region 5 with fail
      refine rgT2s 3 19 [some 11, some 12, some 13, some 14, some 15, some 16, some 17, some 18, some 19, some 20, some 21, some 22, some 23, some 24, some 25, some 26, some 27, some 28, some 29, some 30, some 3] (psiPs14 b 0 n cap i sv p.id.y p.id.n) (fun w' => RowKit.Below wr.heap.size wr w') (by kernel_rfl) (by kernel_rfl) (by kernel_rfl) (by kernel_rfl) (by kernel_rfl) (psiPs14_stab b 0 n cap i sv p.id.y p.id.n) (fun _ _ h hb => h.trans (hb.mono h.size)) (fun i9 o9 hi9 ho9 aq9 w1 hs hout hold hI hdep => ?_) ?_ ((Below.refl _ _).drew)
      · skip
        match i9, hi9, ho9 with
        | 0, _, ho9 =>
          obtain rfl := Option.some.inj ho9
          refine .inl ⟨rfl, fun K hK => ?_⟩
          exact st_move rfl (hold.trans rfl) (hK _ _ (Below.refl _ _) rfl)
        | 1, _, ho9 =>
          obtain rfl := Option.some.inj ho9
          refine .inl ⟨rfl, fun K hK => ?_⟩
          exact st_move rfl ((hout 0 rfl).trans rfl) (hK _ _ (Below.refl _ _) rfl)
        | 2, _, ho9 =>
          obtain rfl := Option.some.inj ho9
          refine .inl ⟨rfl, fun K hK => ?_⟩
          exact st_move rfl ((hout 4 rfl).trans rfl) (hK _ _ (Below.refl _ _) rfl)
        | 3, _, ho9 =>
          obtain rfl := Option.some.inj ho9
          have dq1 : (aq9.tmps.getD 12 undef) = .slice (some ⟨b, 0, none⟩) n cap := hdep ⟨1, .data⟩ (by simp) rfl _ rfl
          have dq2 : (aq9.tmps.getD 13 undef) = .int .i64 (i : Int) := hdep ⟨2, .data⟩ (by simp) rfl _ rfl
          refine .inl ⟨rfl, fun K hK => ?_⟩
          exact st_idx43 (k := i) rfl dq1 dq2 HKN.out (hK _ _ (Below.refl _ _) rfl)
        | 4, _, ho9 =>
          obtain rfl := Option.some.inj ho9
          have dq3 : (aq9.tmps.getD 14 undef) = .pointer (some ⟨b, 0 + i * 4, none⟩) := hdep ⟨3, .data⟩ (by simp) rfl _ rfl
          refine .inl ⟨rfl, fun K hK => ?_⟩
          exact fa47_0 rfl dq3 (hK _ _ (Below.refl _ _) rfl)
        | 5, _, ho9 =>
          obtain rfl := Option.some.inj ho9
          have dq4 : (aq9.tmps.getD 15 undef) = .pointer (some ⟨b, 0 + i * 4, none⟩) := hdep ⟨4, .data⟩ (by simp) rfl _ rfl
          refine .inl ⟨rfl, fun K hK => ?_⟩
          exact fa28_0 rfl dq4 (hK _ _ (Below.refl _ _) rfl)
        | 6, _, ho9 =>
          obtain rfl := Option.some.inj ho9
          have dq5 : (aq9.tmps.getD 16 undef) = .pointer (some ⟨b, 0 + i * 4, none⟩) := hdep ⟨5, .data⟩ (by simp) rfl _ rfl
          refine .inl ⟨rfl, fun K hK => ?_⟩
          exact ld5 rfl dq5 (HP0.out hI) (hK _ _ (Below.refl _ _) rfl)
        | 7, _, ho9 =>
          obtain rfl := Option.some.inj ho9
          have dq6 : (aq9.tmps.getD 17 undef) = .int .u8 p.id.y := hdep ⟨6, .data⟩ (by simp) rfl _ rfl
          refine .inl ⟨rfl, fun K hK => ?_⟩
          exact st_add_5 rfl rfl dq6 rfl (hK _ _ (Below.refl _ _) rfl)
        | 8, _, ho9 =>
          obtain rfl := Option.some.inj ho9
          refine .inl ⟨rfl, fun K hK => ?_⟩
          exact st_move rfl ((hout 0 rfl).trans rfl) (hK _ _ (Below.refl _ _) rfl)
        | 9, _, ho9 =>
          obtain rfl := Option.some.inj ho9
          refine .inl ⟨rfl, fun K hK => ?_⟩
          exact st_move rfl ((hout 4 rfl).trans rfl) (hK _ _ (Below.refl _ _) rfl)
        | 10, _, ho9 =>
          obtain rfl := Option.some.inj ho9
          have dq8 : (aq9.tmps.getD 19 undef) = .slice (some ⟨b, 0, none⟩) n cap := hdep ⟨8, .data⟩ (by simp) rfl _ rfl
          have dq9 : (aq9.tmps.getD 20 undef) = .int .i64 (i : Int) := hdep ⟨9, .data⟩ (by simp) rfl _ rfl
          refine .inl ⟨rfl, fun K hK => ?_⟩
          exact st_idx43 (k := i) rfl dq8 dq9 HKN.out (hK _ _ (Below.refl _ _) rfl)
        | 11, _, ho9 =>
          obtain rfl := Option.some.inj ho9
          have dq10 : (aq9.tmps.getD 21 undef) = .pointer (some ⟨b, 0 + i * 4, none⟩) := hdep ⟨10, .data⟩ (by simp) rfl _ rfl
          refine .inl ⟨rfl, fun K hK => ?_⟩
          exact fa47_0 rfl dq10 (hK _ _ (Below.refl _ _) rfl)
        | 12, _, ho9 =>
          obtain rfl := Option.some.inj ho9
          have dq11 : (aq9.tmps.getD 22 undef) = .pointer (some ⟨b, 0 + i * 4, none⟩) := hdep ⟨11, .data⟩ (by simp) rfl _ rfl
          refine .inl ⟨rfl, fun K hK => ?_⟩
          exact fa28_1 rfl dq11 (hK _ _ (Below.refl _ _) rfl)
        | 13, _, ho9 =>
          obtain rfl := Option.some.inj ho9
          have dq12 : (aq9.tmps.getD 23 undef) = .pointer (some ⟨b, 0 + i * 4 + 1, none⟩) := hdep ⟨12, .data⟩ (by simp) rfl _ rfl
          refine .inl ⟨rfl, fun K hK => ?_⟩
          exact ld3 rfl dq12 (HP1.out hI) (hK _ _ (Below.refl _ _) rfl)
        | 14, _, ho9 =>
          obtain rfl := Option.some.inj ho9
          have dq13 : (aq9.tmps.getD 24 undef) = .int .i64 p.id.n := hdep ⟨13, .data⟩ (by simp) rfl _ rfl
          refine .inl ⟨rfl, fun K hK => ?_⟩
          exact st_rem3 rfl dq13 rfl (hK _ _ (Below.refl _ _) rfl)
        | 15, _, ho9 =>
          obtain rfl := Option.some.inj ho9
          have dq14 : (aq9.tmps.getD 25 undef) = .int .i64 (p.id.n.tmod 10) := hdep ⟨14, .data⟩ (by simp) rfl _ rfl
          refine .inl ⟨rfl, fun K hK => ?_⟩
          exact st_conv35 rfl dq14 rfl (hK _ _ (Below.refl _ _) rfl)
        | 16, _, ho9 =>
          obtain rfl := Option.some.inj ho9
          have dq15 : (aq9.tmps.getD 26 undef) = .int .u8 (IntKind.u8.wrap (p.id.n.tmod 10)) := hdep ⟨15, .data⟩ (by simp) rfl _ rfl
          refine .inl ⟨rfl, fun K hK => ?_⟩
          exact st_add_5 rfl rfl dq15 rfl (hK _ _ (Below.refl _ _) rfl)
        | 17, _, ho9 =>
          obtain rfl := Option.some.inj ho9
          have dq7 : (aq9.tmps.getD 18 undef) = .int .u8 (IntKind.u8.wrap (48 + p.id.y)) := hdep ⟨7, .data⟩ (by simp) rfl _ rfl
          have dq16 : (aq9.tmps.getD 27 undef) = .int .u8 (IntKind.u8.wrap (48 + IntKind.u8.wrap (p.id.n.tmod 10))) := hdep ⟨16, .data⟩ (by simp) rfl _ rfl
          refine .inl ⟨rfl, fun K hK => ?_⟩
          exact st_bsB3 rfl dq7 dq16 (hK _ _ (below1 _ _) ⟨_, rfl, by simp, heap_alloc_new _ _⟩)
        | 18, _, ho9 =>
          obtain rfl := Option.some.inj ho9
          have dq17 : ∃ g, (aq9.tmps.getD 28 undef) = .slice (some ⟨g, 0, none⟩) 3 3 ∧ g < w1.heap.size ∧ w1.heap[g]? = some (.cells #[.int .u8 (IntKind.u8.wrap (48 + p.id.y)), .int .u8 46, .int .u8 (IntKind.u8.wrap (48 + IntKind.u8.wrap (p.id.n.tmod 10)))] 5 (0, 0)) := hdep ⟨17, .data⟩ (by simp) rfl _ rfl
          refine .inl ⟨rfl, fun K hK => ?_⟩
          obtain ⟨g, h1, h2, h3⟩ := dq17
          exact st_str (xs := [IntKind.u8.wrap (48 + p.id.y), 46, IntKind.u8.wrap (48 + IntKind.u8.wrap (p.id.n.tmod 10))]) rfl h1 rfl h3 (hK _ _ (Below.refl _ _) rfl)
        | i9 + 19, hi9, _ => exact absurd hi9 (by omega)
      · intro a2 w2 hs hd hout hold hI hall
        obtain ⟨tmps, defers⟩ := a2
        have e_11 : (tmps.getD 11 undef) = sv := hall 0 _ (by decide) rfl
        have e_29 : (tmps.getD 29 undef) = strB (nmD ⟨p.id.y, p.id.n⟩) := hall 18 _ (by decide) rfl
        simp only at hs hd hout
        have ef := frameAt [some 11, some 12, some 13, some 14, some 15, some 16, some 17, some 18, some 19, some 20, some 21, some 22, some 23, some 24, some 25, some 26, some 27, some 28, some 29, some 30, some 3] _ tmps hs hout
        obtain ⟨sv5, hu⟩ : ∃ u : Nat → Value, u = fun s => tmps.getD s undef := ⟨_, rfl⟩
        have eu_11 : sv5 11 = sv := by rw [hu]; exact e_11
        have eu_29 : sv5 29 = strB (nmD ⟨p.id.y, p.id.n⟩) := by rw [hu]; exact e_29
        rw [← hu] at ef
        have ef2 : tmps = #[Value.slice (some { block := b, off := 0 }) n cap, undef, Value.string { data := #[] }, (sv5 3), Value.int IntKind.i64 i, Value.int IntKind.i64 i, Value.slice (some { block := b, off := 0 }) n cap, Value.int IntKind.i64 n, Value.bool true, u9, u10, (sv5 11), (sv5 12), (sv5 13), (sv5 14), (sv5 15), (sv5 16), (sv5 17), (sv5 18), (sv5 19), (sv5 20), (sv5 21), (sv5 22), (sv5 23), (sv5 24), (sv5 25), (sv5 26), (sv5 27), (sv5 28), (sv5 29), (sv5 30), u31, u32, u33, u34, u35, u36, u37, u38, u39, u40, u41, u42, u43, u44, u45, u46, u47, undef] := ef
        subst hd
        rw [eu_11, eu_29] at ef2
        rw [ef2]
        clear ef ef2 hu hs hout hall e_11 eu_11 e_29 eu_29
        simp only [List.drop_succ_cons, List.drop_zero]
        refine wpList_plain rfl fun K7 hK7 => ?_
        refine st_add9 (l1 := passM (l.take i)) (l2 := nmD p.id) rfl HSV.out.symm rfl (by have := HL1.out; simp [nmD]; omega) (hK7 _ _ ?_)
        have hbr2 : RowKit.Below w.heap.size w w2 := hbr.trans (hI.mono hbr.size)
        have hw2s := hI.size
        have c2 := HP2.out hI
        have c3 := HP3.out hI
        rw [Nat.zero_add] at c2 c3
        have HLA : Hid ((passM (l.take i) ++ nmD p.id).length ≤ 6003) := Lib.hid (by have := HL1.out; rw [List.length_append]; simp [nmD]; omega)
        obtain ⟨id, f, d⟩ := p
        simp only at c2 c3 HLA HST HPD ⊢
        have HST2 := HST
        obtain ⟨kd, hkd, hkd2⟩ : ∃ kd : Nat, d = kd ∧ kd < 2 := by
          rcases HPD.out with h | h
          · exact ⟨0, by simpa using h, by decide⟩
          · exact ⟨1, by simpa using h, by decide⟩
        subst hkd
        have hkz : (kd : Int) < 2 := by omega
        clear HP0 HP1 HP2 HP3 HSV hI HL1 HPD
        obtain ⟨l1, hl1⟩ : ∃ l1, passM (l.take i) ++ nmD id = l1 := ⟨_, rfl⟩
        rw [hl1] at HLA ⊢
        have HA1 := Lib.hid hl1
        clear hl1
        cases f with
        | true =>
          have hadd : ∀ w, (binOp .add 9 (strB l1) (Value.string { data := #[43] })).run Tryd.prog w = .ok (strB (l1 ++ [43])) w := run_add l1 [43] (by have := HLA.out; simp only [List.length_cons, List.length_nil]; omega)
          obtain ⟨l2, hl2⟩ : ∃ l2, l1 ++ [43] = l2 := ⟨_, rfl⟩
          rw [hl2] at hadd
          have hadd2 := run_add l2 (dirB (kd : Int)) (by have := HLA.out; have := dirB_len (kd : Int); rw [← hl2, List.length_append]; simp only [List.length_cons, List.length_nil]; omega)
          obtain ⟨l3, hl3⟩ : ∃ l3, l2 ++ dirB (kd : Int) = l3 := ⟨_, rfl⟩
          rw [hl3] at hadd2
          have HE : Hid (l3 = passM (l.take (i + 1))) := Lib.hid (by rw [HST2.out, ← hl3, ← hl2, ← HA1.out]; simp [paB])
          clear hl2 hl3
          have k0 : (w2.alloc (.cells #[.string { data := #[60, 32] }, .string { data := #[62, 32] }] 9)).cell? ⟨w2.heap.size, kd, none⟩ = some (strB (dirB (kd : Int))) := dir_cell w2 kd hkd2
          have k3 := ((below1 w2 (.cells #[.string { data := #[60, 32] }, .string { data := #[62, 32] }] 9)).cell (p := ⟨b, i * 4 + 3, none⟩) (Nat.lt_of_lt_of_le hbl hw2s)).trans c3
          have hbr3 := hbr2.alloc hbr2.size (.cells #[.string { data := #[60, 32] }, .string { data := #[62, 32] }] 9)
          obtain ⟨w3, hw3⟩ : ∃ w3, w2.alloc (.cells #[.string { data := #[60, 32] }, .string { data := #[62, 32] }] 9) = w3 := ⟨_, rfl⟩
          rw [hw3] at k0 k3 hbr3
          go_wp2_with fail
          go_roundg (n + 1 - (i + 1))
          case measure => have := HG.out; omega
          case rel => exact ⟨i + 1, congrArg strB HE.out, by go_num, by omega, by omega, hbr3⟩
        | false =>
          have hadd2 := run_add l1 (dirB (kd : Int)) (by have := HLA.out; have := dirB_len (kd : Int); omega)
          obtain ⟨l3, hl3⟩ : ∃ l3, l1 ++ dirB (kd : Int) = l3 := ⟨_, rfl⟩
          rw [hl3] at hadd2
          have HE : Hid (l3 = passM (l.take (i + 1))) := Lib.hid (by rw [HST2.out, ← hl3, ← HA1.out]; simp [paB])
          clear hl3
          have k0 : (w2.alloc (.cells #[.string { data := #[60, 32] }, .string { data := #[62, 32] }] 9)).cell? ⟨w2.heap.size, kd, none⟩ = some (strB (dirB (kd : Int))) := dir_cell w2 kd hkd2
          have k3 := ((below1 w2 (.cells #[.string { data := #[60, 32] }, .string { data := #[62, 32] }] 9)).cell (p := ⟨b, i * 4 + 3, none⟩) (Nat.lt_of_lt_of_le hbl hw2s)).trans c3
          have hbr3 := hbr2.alloc hbr2.size (.cells #[.string { data := #[60, 32] }, .string { data := #[62, 32] }] 9)
          obtain ⟨w3, hw3⟩ : ∃ w3, w2.alloc (.cells #[.string { data := #[60, 32] }, .string { data := #[62, 32] }] 9) = w3 := ⟨_, rfl⟩
          rw [hw3] at k0 k3 hbr3
          go_wp2_with fail
          go_roundg (n + 1 - (i + 1))
          case measure => have := HG.out; omega
          case rel => exact ⟨i + 1, congrArg strB HE.out, by go_num, by omega, by omega, hbr3⟩
    · obtain rfl : i = n := by omega
      have hiz : ¬ ((i : Int) < (i : Int)) := by omega
      have h1 : l.take i = l := List.take_of_length_le (by rw [HN.out]; exact Nat.le_refl _)
      rw [h1]
      clear h1
      go_wp2_with fail
      go_ret
      exact ⟨rfl, hbr⟩
end Go.Proofs.YtjjnhmbgffdenaaDoor
namespace Go.Proofs.YtjjnhmbgffdenaaDoor
open Go.RowKit Go.Sort
theorem kdNm : Kd Nm.enc 61 35 2 16 (.agg #[.int .u8 0, .int .i64 0]) :=
  ⟨Nm.enc_len, Nm.enc_one, Tryd.underlying61, by kernel_rfl, rfl, by decide, by decide⟩
set_option maxRecDepth 100000 in
set_option maxHeartbeats 4000000 in
theorem ids_any (ao : Option Addr) (l : List Hd) (cap : Nat) (w : World) (hl : Lies Hd.enc 0 w ao l) (hlen : l.length ≤ 1000) :
    Calls Tryd.prog 27 #[.slice ao l.length cap] w fun e w' => ∃ v, e = .returned v ∧ w'.ownsRow w.heap.size 35 2 v (l.map (·.id)).length (rcells Nm.enc (l.map (·.id))) ∧ Below w.heap.size w w' := by
  have HL := Lib.hid hl
  obtain ⟨n, hn⟩ : ∃ n, l.length = n := ⟨_, rfl⟩
  rw [hn] at hlen ⊢
  have HN := Lib.hid hn
  clear hl hn
  go_enter Tryd.func27, Tryd.ntmps27
  go_wp2
  go_loopg [3, 4] (n + 1) (fun g1 v s10 wr => ∃ i : Nat, s10 = .int .i64 i ∧ i ≤ n ∧ g1 = n + 1 - i ∧ Hid (wr.ownsRow w.heap.size 35 2 v ((l.take i).map (·.id)).length (rcells Nm.enc ((l.take i).map (·.id)))) ∧ Below w.heap.size w wr)
  case atStart => exact ⟨0, rfl, by omega, by omega, Lib.hid (World.ownsRow_nil _ _ _ _), Below.refl _ _⟩
  case round =>
    obtain ⟨i, rfl, hi, hg, HO, hbr⟩ := hrel
    have HG := Lib.hid hg
    clear hg
    by_cases hlt : i < n
    · have hiz : (i : Int) < (n : Int) := by omega
      obtain ⟨b, rfl, hbl, c0, c1, c2, c3, c4⟩ := (HL.out.below hbr).five (i := i) (by rw [HN.out]; exact hlt)
      obtain ⟨x, hx⟩ : ∃ x, l[i]'(by rw [HN.out]; exact hlt) = x := ⟨_, rfl⟩
      rw [hx] at c0 c1 c2 c3 c4
      have htk : l.take (i + 1) = l.take i ++ [x] := by rw [List.take_succ_eq_append_getElem (by rw [HN.out]; exact hlt), hx]
      have HTK := Lib.hid htk
      clear htk hx
      obtain ⟨⟨py, pn⟩, xb, xa, xs⟩ := x
      simp only at c0 c1 c2 c3 c4
      have hll : ((l.take i).map (·.id)).length ≤ 100000 := by rw [List.length_map, List.length_take]; omega
      clear c2 c3 c4
      go_upto_region 5 with fail
      iterate 22 go_step
      refine wpList_app_rec kdNm (v := u3) (l := (l.take i).map (·.id)) (x := ⟨py, pn⟩) rfl rfl rfl rfl (HO.out.alloc _) (rec_new Nm.enc wr 35 ⟨py, pn⟩) hll (by have := hbr.size; simp; omega) ?_
      intro v4 w4 hw4 hg4 hat4
      have HW4 := Lib.hid hw4
      have hb4 : Below w.heap.size w w4 := (hbr.alloc hbr.size _).grown hg4 (by have := hbr.size; simp; omega) (fun g e => (HO.out.lt g e).1)
      clear hw4 hg4 hat4 c0 c1
      go_wp2_with fail
      go_roundg (n + 1 - (i + 1))
      case measure => have := HG.out; omega
      case rel => exact ⟨i + 1, by go_num, by omega, by omega, Lib.hid (by
        rw [HTK.out, List.map_append, List.map_cons, List.map_nil]; exact HW4.out), hb4⟩
    · obtain rfl : i = n := by omega
      have hiz : ¬ ((i : Int) < (i : Int)) := by omega
      have h1 : l.take i = l := List.take_of_length_le (by rw [HN.out]; exact Nat.le_refl _)
      have HO2 := HO.out
      rw [h1] at HO2
      have HO3 := Lib.hid HO2
      clear h1 HO2 HO
      go_wp2_with fail
      go_ret
      refine ⟨u3, rfl, ?_, hbr⟩
      have h := HO3.out
      first | exact h | (rw [List.length_map] at h; exact h)
/-- The beds of the examples. -/
def exT : List (List Nm) := (((List.replicate 80 []).set 1 [⟨1, 0⟩, ⟨1, 1⟩]).set 41 [⟨2, 0⟩, ⟨2, 1⟩]).set 43 [⟨2, 2⟩]
def exD (N : Nat) : Bds := ⟨⟨some ⟨N + 2, 0, none⟩, [Cel.nil, ⟨some ⟨N + 1, 0, none⟩, [⟨1, 0⟩, ⟨1, 1⟩], 2⟩], 2⟩, ⟨some ⟨N + 5, 0, none⟩, [Cel.nil, ⟨some ⟨N + 3, 0, none⟩, [⟨2, 0⟩, ⟨2, 1⟩], 2⟩, Cel.nil, ⟨some ⟨N + 4, 0, none⟩, [⟨2, 2⟩], 1⟩], 4⟩⟩
theorem exT_ok : TOk exT := by
  refine ⟨by decide, fun l hl => ?_, by decide⟩
  have h : ∀ l ∈ exT, l.length ≤ 4 ∧ ∀ p ∈ l, Named p := by decide
  exact h l hl
theorem exD_reads (N : Nat) : Reads exT (exD N) := by
  refine ⟨by decide, fun k hk i hi => ?_, by simp [exD], by simp [exD]⟩
  obtain rfl | rfl : k = 0 ∨ k = 1 := by omega
  · have : ∀ i, i < 40 → (Bed.cel ⟨none, [Cel.nil, ⟨none, [⟨1, 0⟩, ⟨1, 1⟩], 2⟩], 2⟩ i).l = exT.getD (0 * 40 + i) [] := by decide
    rw [← this i hi]
    unfold exD Bds.bed Bed.cel
    match i with
    | 0 => rfl
    | 1 => rfl
    | i + 2 => rfl
  · have : ∀ i, i < 40 → (Bed.cel ⟨none, [Cel.nil, ⟨none, [⟨2, 0⟩, ⟨2, 1⟩], 2⟩, Cel.nil, ⟨none, [⟨2, 2⟩], 1⟩], 4⟩ i).l = exT.getD (1 * 40 + i) [] := by decide
    rw [← this i hi]
    unfold exD Bds.bed Bed.cel
    match i with
    | 0 => rfl
    | 1 => rfl
    | 2 => rfl
    | 3 => rfl
    | i + 4 => rfl
theorem cel_of_heap {w : World} {b cap : Nat} {l : List Nm} (h : w.heap[b]? = some (.cells (cellsOf l).toArray 35 (0, 0))) (hl : l.length ≤ 100) : Cel.ok w.heap.size w ⟨some ⟨b, 0, none⟩, l, cap⟩ :=
  ok_of_row h (by rw [List.take_of_length_le (by simp [cellsOf_length])]) (Array.getElem?_eq_some_iff.1 h).1 hl
theorem bed_of_heap {w : World} {b cap : Nat} {cs : List Cel} (h : w.heap[b]? = some (.cells (cs.map Cel.v).toArray 61 (0, 0))) (hl : cs.length ≤ 100) (hc : ∀ c ∈ cs, c.ok w.heap.size w) : Bed.ok w.heap.size w ⟨some ⟨b, 0, none⟩, cs, cap⟩ :=
  ⟨hl, hc, .inr ⟨b, 0, rfl, (Array.getElem?_eq_some_iff.1 h).1, fun i c hi => by
    rw [Nat.zero_add, cell_of_row w b i _ 61 (0, 0) h]
    simp only at hi
    simp [hi]⟩⟩
theorem grow_at (w : World) (os : Array Obj) (i : Nat) : (grow w os).heap[w.heap.size + i]? = os[i]? := by
  unfold grow
  simp only
  rw [Array.getElem?_append_right (by omega)]
  congr 1
  omega
theorem below_grow (w : World) (os : Array Obj) : Below w.heap.size w (grow w os) :=
  ⟨rfl, rfl, rfl, by simp [grow], fun b hb => by unfold grow; simp only; rw [Array.getElem?_append_left hb]⟩
set_option maxRecDepth 100000 in
theorem example_any (w : World) : Calls Tryd.prog 25 #[] w fun e w' => ∃ d : Bds, e = .returned d.v ∧ Reads exT d ∧ d.ok w'.heap.size w' ∧ Below w.heap.size w w' := by
  go_enter Tryd.func25, Tryd.ntmps25
  iterate 46 go_step
  go_upto_region 77 with fail
  refine bodyPost_ret (v := (exD w.heap.size).v) (by simp [results, Tryd.results25, go_sem, exD, Bds.v, Bed.v]) rfl ?_
  simp only [Go.Sort.alloc_eq_grow, Go.Sort.grow_grow]
  refine ⟨exD w.heap.size, rfl, exD_reads _, ⟨?_, ?_⟩, below_grow _ _⟩
  · refine bed_of_heap ((grow_at w _ 2).trans rfl) (by simp) fun c hc => ?_
    simp only [List.mem_cons, List.not_mem_nil, or_false] at hc
    rcases hc with rfl | rfl
    · exact Cel.nil_ok _ _
    · exact cel_of_heap ((grow_at w _ 1).trans rfl) (by decide)
  · refine bed_of_heap ((grow_at w _ 5).trans rfl) (by simp) fun c hc => ?_
    simp only [List.mem_cons, List.not_mem_nil, or_false] at hc
    rcases hc with rfl | rfl | rfl | rfl
    · exact Cel.nil_ok _ _
    · exact cel_of_heap ((grow_at w _ 3).trans rfl) (by decide)
    · exact Cel.nil_ok _ _
    · exact cel_of_heap ((grow_at w _ 4).trans rfl) (by decide)
end Go.Proofs.YtjjnhmbgffdenaaDoor
namespace Go.Proofs.YtjjnhmbgffdenaaDoor
open Go.RowKit Go.Sort
theorem Sam.nil_iff {α : Type} {key : α → Int} {l : List α} (h : Sam key [] l) : l = [] := by
  cases l with
  | nil => rfl
  | cons x l =>
    have := h (key x)
    simp [Fl] at this
/-- A list has one ascending order that keeps the order of equals. -/
theorem srt_unique {α : Type} {key : α → Int} : ∀ {l1 l2 : List α}, Srt key l1 → Srt key l2 → Sam key l1 l2 → l1 = l2
  | [], l2, _, _, h => (Sam.nil_iff h).symm
  | x :: t1, [], _, _, h => by
    have := h (key x)
    simp [Fl] at this
  | x :: t1, y :: t2, h1, h2, h => by
    have hx := List.pairwise_cons.1 h1
    have hy := List.pairwise_cons.1 h2
    have kxy : key x = key y := by
      have a : key x ≤ key y := by
        have : y ∈ x :: t1 := (h.mem y).1 (by simp)
        rcases List.mem_cons.1 this with rfl | h3
        · exact Int.le_refl _
        · exact hx.1 y h3
      have b : key y ≤ key x := by
        have : x ∈ y :: t2 := (h.mem x).2 (by simp)
        rcases List.mem_cons.1 this with rfl | h3
        · exact Int.le_refl _
        · exact hy.1 x h3
      omega
    have e := h (key x)
    unfold Fl at e
    rw [List.filter_cons_of_pos (by simp [kxy]), List.filter_cons_of_pos (by simp)] at e
    injection e with e1 e2
    subst e1
    have ht : Sam key t1 t2 := fun k => by
      by_cases hk : key y = k
      · subst hk; exact e2
      · have e3 := h k
        unfold Fl at e3 ⊢
        rw [List.filter_cons_of_neg (by simp [hk]), List.filter_cons_of_neg (by simp [hk])] at e3
        exact e3
    rw [srt_unique hx.2 hy.2 ht]
theorem Mrg.unique {α : Type} {key : α → Int} {l a b : List α} (h : Mrg key l a) (h' : Mrg key l b) : a = b := srt_unique h.srt h'.srt (h.sam.symm.trans h'.sam)
theorem sam_of_keys {α : Type} {key : α → Int} {a b : List α} (h : ∀ x ∈ a ++ b, Fl key (key x) b = Fl key (key x) a) : Sam key a b := fun k => by
  by_cases h1 : Fl key k a = []
  · by_cases h2 : Fl key k b = []
    · rw [h1, h2]
    · obtain ⟨x, hx⟩ := List.exists_mem_of_ne_nil _ h2
      simp only [Fl, List.mem_filter, beq_iff_eq] at hx
      obtain ⟨hx1, rfl⟩ := hx
      exact h x (by simp [hx1])
  · obtain ⟨x, hx⟩ := List.exists_mem_of_ne_nil _ h1
    simp only [Fl, List.mem_filter, beq_iff_eq] at hx
    obtain ⟨hx1, rfl⟩ := hx
    exact h x (by simp [hx1])
/-- The examples' order at the racks 0 and 1. -/
def exL0 : List Hd := [⟨⟨2, 0⟩, 1, 2, 8⟩, ⟨⟨2, 1⟩, 1, 2, 8⟩, ⟨⟨1, 0⟩, 0, 2, 10⟩, ⟨⟨1, 1⟩, 0, 2, 10⟩, ⟨⟨2, 2⟩, 1, 4, 16⟩]
def exL1 : List Hd := [⟨⟨1, 0⟩, 0, 2, 10⟩, ⟨⟨1, 1⟩, 0, 2, 10⟩, ⟨⟨2, 0⟩, 1, 2, 12⟩, ⟨⟨2, 1⟩, 1, 2, 12⟩, ⟨⟨2, 2⟩, 1, 4, 20⟩]
theorem upH_ex0 : upH exT 0 80 = [⟨⟨1, 0⟩, 0, 2, 10⟩, ⟨⟨1, 1⟩, 0, 2, 10⟩, ⟨⟨2, 0⟩, 1, 2, 8⟩, ⟨⟨2, 1⟩, 1, 2, 8⟩, ⟨⟨2, 2⟩, 1, 4, 16⟩] := by decide +kernel
theorem upH_ex1 : upH exT 1 80 = [⟨⟨1, 0⟩, 0, 2, 10⟩, ⟨⟨1, 1⟩, 0, 2, 10⟩, ⟨⟨2, 0⟩, 1, 2, 12⟩, ⟨⟨2, 1⟩, 1, 2, 12⟩, ⟨⟨2, 2⟩, 1, 4, 20⟩] := by decide +kernel
theorem mrg_ex0 : Mrg Hd.s (upH exT 0 80) exL0 := by
  rw [upH_ex0]
  exact ⟨by unfold Srt exL0; decide +kernel, sam_of_keys (by unfold Fl exL0; decide +kernel)⟩
theorem mrg_ex1 : Mrg Hd.s (upH exT 1 80) exL1 := by
  rw [upH_ex1]
  exact ⟨by unfold Srt exL1; decide +kernel, sam_of_keys (by unfold Fl exL1; decide +kernel)⟩
theorem ord_ex0 {l : List Hd} (h : OrdOk exT 0 l) : l = exL0 := h.1.unique mrg_ex0
theorem ord_ex1 {l : List Hd} (h : OrdOk exT 1 l) : l = exL1 := h.1.unique mrg_ex1
def exC0 : List Cx := [⟨⟨2, 1⟩, ⟨1, 0⟩, -1⟩, ⟨⟨2, 1⟩, ⟨1, 1⟩, -1⟩, ⟨⟨2, 0⟩, ⟨1, 0⟩, -1⟩, ⟨⟨2, 0⟩, ⟨1, 1⟩, -1⟩]
def exC1 : List Cx := [⟨⟨1, 1⟩, ⟨2, 0⟩, 1⟩, ⟨⟨1, 0⟩, ⟨2, 0⟩, 1⟩, ⟨⟨1, 1⟩, ⟨2, 1⟩, 1⟩, ⟨⟨1, 0⟩, ⟨2, 1⟩, 1⟩]
theorem step_ex0 : stepM exT 0 1 exL0 = exC0 := by decide +kernel
theorem step_ex1 : stepM exT 1 0 exL1 = exC1 := by decide +kernel
def exP1 : List Pa := [⟨⟨2, 0⟩, true, 1⟩, ⟨⟨2, 1⟩, true, 1⟩, ⟨⟨1, 0⟩, false, 1⟩, ⟨⟨1, 1⟩, false, 1⟩]
def exP2 : List Pa := [⟨⟨1, 1⟩, false, 0⟩, ⟨⟨1, 0⟩, false, 0⟩]
def exP3 : List Pa := [⟨⟨2, 1⟩, true, 0⟩, ⟨⟨2, 0⟩, true, 0⟩]
theorem btw_ex1 : betweenM exL0 (-13) 11 = exP1 := by decide +kernel
theorem btw_ex2 : betweenM exL0 11 9 = exP2 := by decide +kernel
theorem meet_ex1 : meetsM exL0 9 1 = exP3 := by decide +kernel
theorem meet_ex2 : meetsM exL0 11 1 = exP3 := by decide +kernel
theorem meet_ex3 : meetsM exL0 13 1 = [] := by decide +kernel
theorem cs_ex : checkStepM 0 1 = 0 ∧ checkStepM 1 0 = 0 ∧ checkStepM 4 1 = 11 := by decide +kernel
theorem tx_ex0 : textM (exL0.map (·.id)) = [50, 46, 48, 32, 50, 46, 49, 32, 49, 46, 48, 32, 49, 46, 49, 32, 50, 46, 50, 32] := by decide +kernel
end Go.Proofs.YtjjnhmbgffdenaaDoor
namespace Go.Proofs.YtjjnhmbgffdenaaDoor
open Go.RowKit Go.Sort
theorem run_app_rec2 {α : Type} {enc : α → List Value} {T e k bytes : Nat} {zero : Value} (K : Kd enc T e k bytes zero) (w : World) (N ty : Nat) (v : Value) (l : List α) (hown : w.ownsRow N e k v l.length (rcells enc l)) (x y : α) (b : Nat) (hx : ∀ j u, (rcells enc [x, y])[j]? = some u → w.cell? ⟨b, j, none⟩ = some u) (hl : l.length ≤ 100000) (hN : N ≤ w.heap.size) :
    ∃ v' w', (Builtin.append_ #[T, T] ty #[v, .slice (some ⟨b, 0, none⟩) 2 2]).run Tryd.prog w = .ok v' w' ∧ w'.ownsRow N e k v' (l ++ [x, y]).length (rcells enc (l ++ [x, y])) ∧ w.grownBy w' v.ownBlock ∧ (v'.ownBlock = v.ownBlock ∨ v'.ownBlock = some w.heap.size) := by
  obtain ⟨i0, hi, hz0, hz1, hz2⟩ := info_parts K.hi
  obtain ⟨v', w', g1, g2, g3, _, g5⟩ := run_append_own_at (P := Tryd.prog) w N T ty e i0 zero k bytes K.hT hi hz0 hz1 hz2 K.hz K.k0 v l.length (rcells enc l) hown ⟨b, 0, none⟩ 2 2 (rcells enc [x, y]) (by rw [rcells_length enc k K.hk]; simp)
    (fun j u h => by rw [show (⟨b, 0, none⟩ : Addr).add j = ⟨b, j, none⟩ by rw [Addr.add_lit]; simp]; exact hx j u h) (rcells_one enc K.h1 _) (by unfold maxLen; omega) (by have := K.hb; have := Nat.mul_le_mul (show l.length + 2 ≤ 100002 by omega) K.hb; omega) hN
  exact ⟨v', w', g1, by rw [rcells_append, List.length_append]; exact g2, g3, g5⟩
theorem wpList_app_rec2 {α : Type} {enc : α → List Value} {T e k bytes : Nat} {zero : Value} (K : Kd enc T e k bytes zero) {w : World} {ops : Array Oper} {rest : List Oper} {o : Oper} {a : Act} {Q : Exit → Act → World → Prop} {s t : Tmp} {N b : Nat} {v : Value} {l : List α} {x y : α} (hg0 : o.guard = none)
    (hop : o.op = Op.call { callee := Callee.builtin Builtin.append, args := #[.tmp s, .tmp t], argTypes := #[T, T] }) (hs : a.eval (.tmp s) = v) (ht : a.eval (.tmp t) = .slice (some ⟨b, 0, none⟩) 2 2) (hown : w.ownsRow N e k v l.length (rcells enc l)) (hx : ∀ j u, (rcells enc [x, y])[j]? = some u → w.cell? ⟨b, j, none⟩ = some u) (hl : l.length ≤ 100000) (hN : N ≤ w.heap.size)
    (hK : ∀ v' w', w'.ownsRow N e k v' (l ++ [x, y]).length (rcells enc (l ++ [x, y])) → w.grownBy w' v.ownBlock → (v'.ownBlock = v.ownBlock ∨ v'.ownBlock = some w.heap.size) → wpList Tryd.prog ops Q rest (a.put o.dst v') w') : wpList Tryd.prog ops Q (o :: rest) a w := by
  refine wpList_plain hg0 fun K' hK' => ?_
  obtain ⟨v', w', hr, h1, h2, h3⟩ := run_app_rec2 K w N o.type v l hown x y b hx hl hN
  unfold Oper.wp execOp
  simp only [hop, resolve, invoke, builtin, Sem.run_bind, Sem.run_pure, Result.andThen_ok, List.map_toArray, List.map_cons, List.map_nil, hs, ht, hr]
  exact hK' _ _ (hK v' w' h1 h2 h3)
theorem st_bsI2 {w : World} {o : Oper} {a : Act} {K : Act → World → Prop} {Q : Exit → Act → World → Prop} {x y : Operand} (p q : Nm) (hop : o.op = .buildSlice 61 2 #[(0, x), (1, y)]) (hx : a.eval x = .agg #[.int .u8 p.y, .int .i64 p.n]) (hy : a.eval y = .agg #[.int .u8 q.y, .int .i64 q.n])
    (hK : K (a.put o.dst (.slice (some ⟨w.heap.size, 0, none⟩) 2 2)) (w.alloc (.cells #[.int .u8 p.y, .int .i64 p.n, .int .u8 q.y, .int .i64 q.n] 35))) : o.wp Tryd.prog a w K Q := by
  exact step_valw (by simp only [execOp, hop]; simp [hx, hy]; go_simp) hK
/-- The examples of the chapter: what is called, and what it answers. -/
theorem ex_list0 (d : Bds) (N : Nat) (w : World) (hN : N ≤ w.heap.size) (hd : d.ok N w) (hr : Reads exT d) : Calls Tryd.prog 10 #[d.v, .int .i64 0] w fun e w' => ∃ ao, e = .returned (.tuple #[.slice ao 5 5, .int .i64 0]) ∧ Hid (Lies Hd.enc 0 w' ao exL0) ∧ Below w.heap.size w w' := by
  refine (list_any d exT 0 N w hN hd hr exT_ok).mono ?_
  rintro e w' (⟨h, _⟩ | ⟨_, v, l, rfl, ho, ao, rfl, h2, hb⟩)
  · exact absurd h (by decide)
  · obtain rfl := ord_ex0 ho.out
    exact ⟨ao, rfl, Lib.hid (h2.out.mono (Nat.zero_le _)), hb⟩
theorem ex_list1 (d : Bds) (N : Nat) (w : World) (hN : N ≤ w.heap.size) (hd : d.ok N w) (hr : Reads exT d) : Calls Tryd.prog 10 #[d.v, .int .i64 1] w fun e w' => ∃ ao, e = .returned (.tuple #[.slice ao 5 5, .int .i64 0]) ∧ Hid (Lies Hd.enc 0 w' ao exL1) ∧ Below w.heap.size w w' := by
  refine (list_any d exT 1 N w hN hd hr exT_ok).mono ?_
  rintro e w' (⟨h, _⟩ | ⟨_, v, l, rfl, ho, ao, rfl, h2, hb⟩)
  · exact absurd h (by decide)
  · obtain rfl := ord_ex1 ho.out
    exact ⟨ao, rfl, Lib.hid (h2.out.mono (Nat.zero_le _)), hb⟩
theorem ex_step0 (d : Bds) (N : Nat) (w : World) (hN : N ≤ w.heap.size) (hd : d.ok N w) (hr : Reads exT d) (hs : Stp w) : Calls Tryd.prog 16 #[d.v, .int .i64 0, .int .u8 1] w fun e w' => ∃ b, e = .returned (.tuple #[.slice (some ⟨b, 0, none⟩) 4 4, .int .i64 0]) ∧ Hid (Lies Cx.enc 0 w' (some ⟨b, 0, none⟩) exC0) ∧ Below w.heap.size w w' := by
  refine (step_any d exT 0 1 N w (by decide) hN hd hr exT_ok hs).mono ?_
  rintro e w' (⟨h, _⟩ | ⟨_, v, l, rfl, ho, ao, rfl, h2, hb⟩)
  · exact absurd cs_ex.1 h
  · obtain rfl := ord_ex0 ho.out
    rw [step_ex0] at h2 ⊢
    obtain ⟨b, rfl⟩ : ∃ b, ao = some ⟨b, 0, none⟩ := by
      rcases h2.out with h | ⟨b, h, _⟩
      · cases h
      · exact ⟨b, h⟩
    exact ⟨b, rfl, Lib.hid (h2.out.mono (Nat.zero_le _)), hb⟩
theorem ex_step1 (d : Bds) (N : Nat) (w : World) (hN : N ≤ w.heap.size) (hd : d.ok N w) (hr : Reads exT d) (hs : Stp w) : Calls Tryd.prog 16 #[d.v, .int .i64 1, .int .u8 0] w fun e w' => ∃ b, e = .returned (.tuple #[.slice (some ⟨b, 0, none⟩) 4 4, .int .i64 0]) ∧ Hid (Lies Cx.enc 0 w' (some ⟨b, 0, none⟩) exC1) ∧ Below w.heap.size w w' := by
  refine (step_any d exT 1 0 N w (by decide) hN hd hr exT_ok hs).mono ?_
  rintro e w' (⟨h, _⟩ | ⟨_, v, l, rfl, ho, ao, rfl, h2, hb⟩)
  · exact absurd cs_ex.2.1 h
  · obtain rfl := ord_ex1 ho.out
    rw [step_ex1] at h2 ⊢
    obtain ⟨b, rfl⟩ : ∃ b, ao = some ⟨b, 0, none⟩ := by
      rcases h2.out with h | ⟨b, h, _⟩
      · cases h
      · exact ⟨b, h⟩
    exact ⟨b, rfl, Lib.hid (h2.out.mono (Nat.zero_le _)), hb⟩
theorem ex_step4 (d : Bds) (N : Nat) (w : World) (hN : N ≤ w.heap.size) (hd : d.ok N w) (hr : Reads exT d) (hs : Stp w) : Calls Tryd.prog 16 #[d.v, .int .i64 4, .int .u8 1] w fun e w' => e = .returned (.tuple #[.slice none 0 0, .int .i64 11]) ∧ Below w.heap.size w w' := by
  refine (step_any d exT 4 1 N w (by decide) hN hd hr exT_ok hs).mono ?_
  rintro e w' (⟨_, h2, h3⟩ | ⟨h, _⟩)
  · rw [cs_ex.2.2] at h2
    exact ⟨h2, h3⟩
  · rw [cs_ex.2.2] at h
    exact absurd h (by decide)
theorem ex_meets (d : Bds) (N : Nat) (w : World) (hN : N ≤ w.heap.size) (hd : d.ok N w) (hr : Reads exT d) (hs : Stp w) (p : Int) (m : List Pa) (n : Nat) (hp : Int.tmod p 2 ≠ 0) (hm : meetsM exL0 p 1 = m) (hn : m.length = n) : Calls Tryd.prog 17 #[d.v, .int .i64 0, .int .u8 1, .int .i64 p] w fun e w' => ∃ ao, e = .returned (.tuple #[.slice ao n n, .int .i64 0]) ∧ Hid (Lies Pa.enc 0 w' ao m) ∧ Below w.heap.size w w' := by
  subst hn
  refine (meets_any d exT 0 1 p N w (by decide) hN hd hr exT_ok hs).mono ?_
  rintro e w' (⟨h, _⟩ | ⟨_, h, _⟩ | ⟨_, _, v, l, rfl, ho, ao, rfl, h2, hb⟩)
  · exact absurd cs_ex.1 h
  · exact absurd h hp
  · obtain rfl := ord_ex0 ho.out
    rw [hm] at h2 ⊢
    exact ⟨ao, rfl, Lib.hid (h2.out.mono (Nat.zero_le _)), hb⟩
theorem ex_btw (ao : Option Addr) (cap : Nat) (x y : Int) (w : World) (hl : Lies Hd.enc 0 w ao exL0) (m : List Pa) (n : Nat) (hm : betweenM exL0 x y = m) (hn : m.length = n) : Calls Tryd.prog 13 #[.slice ao 5 cap, .int .i64 x, .int .i64 y] w fun e w' => ∃ ao, e = .returned (.slice ao n n) ∧ Hid (Lies Pa.enc 0 w' ao m) ∧ Below w.heap.size w w' := by
  subst hn
  refine Calls.mono (between_any ao exL0 cap x y w hl (by decide)) ?_
  rintro e w' ⟨v, rfl, ao, rfl, h2, hb⟩
  rw [hm] at h2 ⊢
  exact ⟨ao, rfl, Lib.hid (h2.out.mono (Nat.zero_le _)), hb⟩
theorem ex_ids (l : List Hd) (n : Nat) (hn : l.length = n) (hn2 : n ≤ 100) (ao : Option Addr) (cap : Nat) (w : World) (hl : Lies Hd.enc 0 w ao l) : Calls Tryd.prog 27 #[.slice ao n cap] w fun e w' => ∃ ao2 cap2, e = .returned (.slice ao2 n cap2) ∧ Hid (Cel.ok w'.heap.size w' ⟨ao2, l.map (·.id), cap2⟩) ∧ Below w.heap.size w w' := by
  subst hn
  refine (ids_any ao l cap w hl (by omega)).mono ?_
  rintro e w' ⟨v, rfl, h1, h2⟩
  obtain ⟨c, rfl, e1, _, e3⟩ := ok_of_owns h1 (by rw [List.length_map]; exact hn2)
  obtain ⟨ca, cl, cc⟩ := c
  simp only at e1
  subst e1
  exact ⟨ca, cc, by simp [Cel.v], Lib.hid e3, h2⟩
theorem ex_text (l : List Nm) (n : Nat) (t : List UInt8) (hn : l.length = n) (ht : textM l = t) (ao : Option Addr) (cap : Nat) (w : World) (h : Cel.ok w.heap.size w ⟨ao, l, cap⟩) : Calls Tryd.prog 26 #[.slice ao n cap] w fun e w' => e = .returned (.string ⟨t.toArray⟩) ∧ Below w.heap.size w w' := by
  subst hn ht
  exact text_any ⟨ao, l, cap⟩ w h
theorem ex_passed (l : List Pa) (n : Nat) (t : List UInt8) (hn : l.length = n) (ht : passM l = t) (hn2 : n ≤ 100) (hd : ∀ p ∈ l, p.d = 0 ∨ p.d = 1) (ao : Option Addr) (cap : Nat) (w : World) (h : Lies Pa.enc 0 w ao l) : Calls Tryd.prog 14 #[.slice ao n cap] w fun e w' => e = .returned (.string ⟨t.toArray⟩) ∧ Below w.heap.size w w' := by
  subst hn ht
  exact passed_any ao l cap w h (by omega) hd
theorem tx_ex1 : textM (exL1.map (·.id)) = [49, 46, 48, 32, 49, 46, 49, 32, 50, 46, 48, 32, 50, 46, 49, 32, 50, 46, 50, 32] := by decide +kernel
theorem tx_x : textM ((exC0.take 4).flatMap fun c => [c.p, c.q]) = [50, 46, 49, 32, 49, 46, 48, 32, 50, 46, 49, 32, 49, 46, 49, 32, 50, 46, 48, 32, 49, 46, 48, 32, 50, 46, 48, 32, 49, 46, 49, 32] := by decide +kernel
theorem tx_y : textM ((exC1.take 4).flatMap fun c => [c.p, c.q]) = [49, 46, 49, 32, 50, 46, 48, 32, 49, 46, 48, 32, 50, 46, 48, 32, 49, 46, 49, 32, 50, 46, 49, 32, 49, 46, 48, 32, 50, 46, 49, 32] := by decide +kernel
theorem ps_ex1 : passM exP1 = [50, 46, 48, 43, 62, 32, 50, 46, 49, 43, 62, 32, 49, 46, 48, 62, 32, 49, 46, 49, 62, 32] := by decide +kernel
theorem ps_ex2 : passM exP2 = [49, 46, 49, 60, 32, 49, 46, 48, 60, 32] := by decide +kernel
theorem ps_ex3 : passM exP3 = [50, 46, 49, 43, 60, 32, 50, 46, 48, 43, 60, 32] := by decide +kernel
end Go.Proofs.YtjjnhmbgffdenaaDoor
