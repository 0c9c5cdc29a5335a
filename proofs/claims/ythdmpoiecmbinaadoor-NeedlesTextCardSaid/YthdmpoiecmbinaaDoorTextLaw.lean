import Derived.Test.YthdmpoiecmbinaaDoorParse
import Derived.Test.YthdmpoiecmbinaaDoorOrder
import Derived.Deep.LoopGhost
import Derived.Laws.BytesArg
namespace Go.Proofs.YthdmpoiecmbinaaDoor
open Go.RowKit Go.Sort

theorem Errs.below {w w' : World} (h : Errs w) (hb : Below w.heap.size w w') : Errs w' := by
  have keep : ∀ (n : String) (cs : Array Value), w.var? Tryd.prog n = some cs → w'.var? Tryd.prog n = some cs := by
    intro n cs hv
    unfold World.var? at hv ⊢
    cases hg : Tryd.prog.globalNamed n with
    | none => simp [hg] at hv
    | some g =>
      simp only [hg, Option.bind_some] at hv ⊢
      have hlt : g < w.heap.size := by
        rcases Nat.lt_or_ge g w.heap.size with h' | h'
        · exact h'
        · simp [Array.getElem?_eq_none h'] at hv
      rw [hb.block g hlt]
      exact hv
  obtain ⟨⟨t1, p1, h1⟩, t2, p2, h2⟩ := h
  exact ⟨⟨t1, p1, keep _ _ h1⟩, t2, p2, keep _ _ h2⟩

theorem byte_str (W : World) (k : Nat) (hk : k = W.heap.size) (v : Int) (d : UInt8) (hv : UInt8.ofNat v.toNat = d) :
    (convert 37 9 (Value.slice (some ⟨k, 0, none⟩) 1 1)).run Tryd.prog (W.alloc (Obj.cells #[Value.int IntKind.u8 v] 5)) = Result.ok (Value.string ⟨#[d]⟩) (W.alloc (Obj.cells #[Value.int IntKind.u8 v] 5)) := by
  subst hk
  have h := run_convert_bytes_arg (P := Tryd.prog) (W.alloc (Obj.cells #[Value.int IntKind.u8 v] 5)) 37 5 Tryd.underlying37 Tryd.underlying5 W.heap.size 0 1 1 [v] rfl
    (fun i hi => by obtain rfl : i = 0 := by omega
                    go_simp) 9 Tryd.underlying9
  have e : strOfNums [v] = ⟨#[d]⟩ := by rw [← hv]; rfl
  rw [e] at h
  exact h

theorem add_str (w : World) (x y : List UInt8) (hx : x.length ≤ 100) (hy : y.length ≤ 100) : (Op.stringOp .add ⟨x.toArray⟩ ⟨y.toArray⟩).run Tryd.prog w = .ok (.string ⟨(x ++ y).toArray⟩) w :=
  run_string_add_lists w x y (by omega) (by omega)

theorem textlaw_long (b a : Int) (l : List UInt8) (hl : 20 < (l.length : Int)) (w : World) :
    Calls Tryd.prog 6 #[.agg #[.int .u8 b, .int .i64 a], .string ⟨l.toArray⟩] w fun e w' => e = .returned (.bool true) ∧ Below w.heap.size w w' := by
  go_enter Tryd.func6, Tryd.ntmps6
  go_wp2_with (go_at_call 12; refine (lives _).mono ?_; rintro e w1 ⟨rfl, hb⟩; refine Hid.out ?_)
  have B1 : Below w.heap.size w w1 := ((Below.refl _ _).alloc (Nat.le_refl _) _).trans (hb.mono (by simp <;> omega))
  clear hb
  refine Lib.hid ?_
  go_wp2
  go_ret
  exact ⟨rfl, B1⟩

set_option maxRecDepth 100000 in
set_option maxHeartbeats 4000000 in
theorem textlaw_0_1_found (n : Nat) (h1 : 1 ≤ n) (h2 : n ≤ 9) (l : List UInt8) (hl : (l.length : Int) ≤ 20) (w : World) (b' : Int) (n' : Nat) (hb' : b' = 0 ∨ b' = 1) (m1 : 1 ≤ n') (m2 : n' ≤ 40) (hL : txt b' n' = l) :
    Calls Tryd.prog 6 #[.agg #[.int .u8 0, .int .i64 n], .string ⟨l.toArray⟩] w fun e w' => e = .returned (.bool true) ∧ Below w.heap.size w w' := by
  have hld : decide (20 < (l.length : Int)) = false := by simp; omega
  have HB' := Lib.hid hb'
  have hb2 : b' ≤ 1 := by omega
  have HL := Lib.hid hL
  clear hb' hL
  obtain ⟨d, hd⟩ : ∃ d : UInt8, UInt8.ofNat (48 + n) = d := ⟨_, rfl⟩
  have hv : UInt8.ofNat (48 + (n : Int) % 10).toNat = d := by rw [← hd]; congr 1; omega
  have hT : txt 0 n = [102, d] := by rw [← hd]; simp [txt, Lib.decDigits_one (show n < 10 by omega)]
  have HT := Lib.hid hT
  have HV := Lib.hid hv
  clear hd hT hv
  go_enter Tryd.func6, Tryd.ntmps6
  go_wp2_with (go_at_call 9; refine (lvalid_ok _ _ _ (by omega) (by omega) (by omega)).mono ?_; rintro e w1 ⟨rfl, hb⟩; refine Hid.out ?_)
  have z1 := hb.size
  simp at z1
  have B1 : Below w.heap.size w w1 := ((Below.refl _ _).alloc (Nat.le_refl _) _).trans (hb.mono (by simp <;> omega))
  have o2 : Own w1 w.heap.size 0 n := Own.below hb (Own.new 0 n rfl)
  clear hb
  obtain ⟨c20, c21, -, -, q20, q21⟩ := o2.facts
  have r20 := fun o o' => ((o2.alloc o).alloc o').1
  have r21 := fun o o' => ((o2.alloc o).alloc o').2.1
  have kc := byte_str (w1.alloc (Obj.cells #[Value.string { data := #[102] }, Value.string { data := #[98] }] 9)) (w1.heap.size + 1) (by simp) (48 + (n : Int) % 10) d HV.out
  have ac : ∀ w, (Op.stringOp .add ⟨#[102]⟩ ⟨#[d]⟩).run Tryd.prog w = .ok (.string ⟨#[102, d]⟩) w := fun w => add_str w [102] [d] (by simp) (by simp)
  refine Lib.hid ?_
  go_wp2_with (go_at_call 17; refine (text_eq 0 n _ (by omega) (by omega) (by omega) [102, d] HT.out).mono ?_; rintro e w2 ⟨rfl, hb⟩; refine Hid.out ?_)
  have z2 := hb.size
  simp at z2
  have B2 : Below w.heap.size w w2 := ((B1.alloc (by omega) _).alloc (by simp <;> omega) _).trans (hb.mono (by simp <;> omega))
  replace o2 := Own.below hb ((o2.alloc _).alloc _)
  clear hb c20 c21 q20 q21 r20 r21 kc ac
  refine Lib.hid ?_
  go_wp2_with (go_at_call 18; refine (parse_is 0 n [102, d] _ (by omega) (by omega) (by omega) HT.out).mono ?_; rintro e w3 ⟨rfl, hb⟩; refine Hid.out ?_)
  have z3 := hb.size
  have B3 : Below w.heap.size w w3 := (B2).trans (hb.mono (by omega))
  replace o2 := Own.below hb o2
  clear hb
  obtain ⟨-, -, -, -, q20, q21⟩ := o2.facts
  refine Lib.hid ?_
  go_wp2_with (go_at_call 18; refine (parse_is b' n' l _ HB'.out m1 m2 HL.out).mono ?_; rintro e w4 ⟨rfl, hb⟩; refine Hid.out ?_)
  have z4 := hb.size
  simp at z4
  have B4 : Below w.heap.size w w4 := (B3.alloc (by omega) _).trans (hb.mono (by simp <;> omega))
  clear hb
  refine Lib.hid ?_
  go_wp2_with (go_at_call 9; refine (lvalid_ok _ _ _ hb2 (by omega) (by omega)).mono ?_; rintro e w5 ⟨rfl, hb⟩; refine Hid.out ?_)
  have z5 := hb.size
  simp at z5
  have B5 : Below w.heap.size w w5 := (B4.alloc (by omega) _).trans (hb.mono (by simp <;> omega))
  have o8 : Own w5 w4.heap.size b' n' := Own.below hb (Own.new b' n' rfl)
  clear hb
  obtain ⟨c80, c81, -, -, -, -⟩ := o8.facts
  refine Lib.hid ?_
  go_wp2_with (go_at_call 17; refine (text_eq b' n' _ HB'.out m1 m2 l HL.out).mono ?_; rintro e w6 ⟨rfl, hb⟩; refine Hid.out ?_)
  have z6 := hb.size
  have B6 : Below w.heap.size w w6 := (B5).trans (hb.mono (by omega))
  clear hb c80 c81
  refine Lib.hid ?_
  go_wp2_with (go_at_call 12; refine (lives _).mono ?_; rintro e w7 ⟨rfl, hb⟩; refine Hid.out ?_)
  have z7 := hb.size
  have B7 : Below w.heap.size w w7 := (B6).trans (hb.mono (by omega))
  clear hb
  refine Lib.hid ?_
  go_wp2
  go_ret
  exact ⟨rfl, B7⟩

set_option maxRecDepth 100000 in
set_option maxHeartbeats 4000000 in
theorem textlaw_0_1_none (n : Nat) (h1 : 1 ≤ n) (h2 : n ≤ 9) (l : List UInt8) (hl : (l.length : Int) ≤ 20) (w : World) (hE : Errs w) (hL : ¬ IsText l) :
    Calls Tryd.prog 6 #[.agg #[.int .u8 0, .int .i64 n], .string ⟨l.toArray⟩] w fun e w' => e = .returned (.bool true) ∧ Below w.heap.size w w' := by
  have hld : decide (20 < (l.length : Int)) = false := by simp; omega
  have HL := Lib.hid hL
  clear hL
  obtain ⟨d, hd⟩ : ∃ d : UInt8, UInt8.ofNat (48 + n) = d := ⟨_, rfl⟩
  have hv : UInt8.ofNat (48 + (n : Int) % 10).toNat = d := by rw [← hd]; congr 1; omega
  have hT : txt 0 n = [102, d] := by rw [← hd]; simp [txt, Lib.decDigits_one (show n < 10 by omega)]
  have HT := Lib.hid hT
  have HV := Lib.hid hv
  clear hd hT hv
  go_enter Tryd.func6, Tryd.ntmps6
  go_wp2_with (go_at_call 9; refine (lvalid_ok _ _ _ (by omega) (by omega) (by omega)).mono ?_; rintro e w1 ⟨rfl, hb⟩; refine Hid.out ?_)
  have z1 := hb.size
  simp at z1
  have B1 : Below w.heap.size w w1 := ((Below.refl _ _).alloc (Nat.le_refl _) _).trans (hb.mono (by simp <;> omega))
  have o2 : Own w1 w.heap.size 0 n := Own.below hb (Own.new 0 n rfl)
  clear hb
  obtain ⟨c20, c21, -, -, q20, q21⟩ := o2.facts
  have r20 := fun o o' => ((o2.alloc o).alloc o').1
  have r21 := fun o o' => ((o2.alloc o).alloc o').2.1
  have kc := byte_str (w1.alloc (Obj.cells #[Value.string { data := #[102] }, Value.string { data := #[98] }] 9)) (w1.heap.size + 1) (by simp) (48 + (n : Int) % 10) d HV.out
  have ac : ∀ w, (Op.stringOp .add ⟨#[102]⟩ ⟨#[d]⟩).run Tryd.prog w = .ok (.string ⟨#[102, d]⟩) w := fun w => add_str w [102] [d] (by simp) (by simp)
  refine Lib.hid ?_
  go_wp2_with (go_at_call 17; refine (text_eq 0 n _ (by omega) (by omega) (by omega) [102, d] HT.out).mono ?_; rintro e w2 ⟨rfl, hb⟩; refine Hid.out ?_)
  have z2 := hb.size
  simp at z2
  have B2 : Below w.heap.size w w2 := ((B1.alloc (by omega) _).alloc (by simp <;> omega) _).trans (hb.mono (by simp <;> omega))
  replace o2 := Own.below hb ((o2.alloc _).alloc _)
  clear hb c20 c21 q20 q21 r20 r21 kc ac
  refine Lib.hid ?_
  go_wp2_with (go_at_call 18; refine (parse_is 0 n [102, d] _ (by omega) (by omega) (by omega) HT.out).mono ?_; rintro e w3 ⟨rfl, hb⟩; refine Hid.out ?_)
  have z3 := hb.size
  have B3 : Below w.heap.size w w3 := (B2).trans (hb.mono (by omega))
  replace o2 := Own.below hb o2
  clear hb
  obtain ⟨-, -, -, -, q20, q21⟩ := o2.facts
  refine Lib.hid ?_
  go_wp2_with (go_at_call 18; refine (parse_none l (by omega) _ (hE.below (B3.alloc (by omega) _)) HL.out).mono ?_; rintro e w4 ⟨rfl, hb⟩; refine Hid.out ?_)
  have z4 := hb.size
  simp at z4
  have B4 : Below w.heap.size w w4 := (B3.alloc (by omega) _).trans (hb.mono (by simp <;> omega))
  clear hb
  refine Lib.hid ?_
  go_wp2_with fail
  go_loopg [10] 81 (fun g i wr => ∃ k : Nat, k ≤ 80 ∧ g = 81 - k ∧ i = .int .i64 k ∧ Own wr w4.heap.size 0 0 ∧ Below w.heap.size w wr)
  case atStart => exact ⟨0, by omega, rfl, rfl, Own.new 0 0 rfl, B4.alloc (by omega) _⟩
  case round =>
    obtain ⟨k, hk, hg, rfl, o8, hB⟩ := hrel
    have HG := Lib.hid hg
    clear hg
    by_cases hk80 : k < 80
    · obtain ⟨nb, hnb⟩ : ∃ nb : Int, (k : Int) % 80 / 40 = nb := ⟨_, rfl⟩
      obtain ⟨na, hna⟩ : ∃ na : Nat, 1 + (k : Int) % 40 = na := ⟨1 + k % 40, by omega⟩
      obtain ⟨p1, p2, p3⟩ := needle_parts k
      have hp : nb = 0 ∨ nb = 1 := by rw [← hnb]; exact p1
      rw [hna] at p2 p3
      obtain ⟨T, hT⟩ : ∃ T : List UInt8, txt nb na = T := ⟨_, rfl⟩
      have hne : (T == l) = false := by
        have : T ≠ l := fun e => HL.out ⟨nb, na, hp, by omega, by omega, by rw [hT, e]⟩
        simpa using this
      have HNB := Lib.hid hnb
      have HNA := Lib.hid hna
      have HP := Lib.hid hp
      have HT := Lib.hid hT
      clear hnb hna hp hT p1
      go_wp2_with (go_at_call 15; refine (lneedle_is k nb na _ (by omega) (by omega) HNB.out HNA.out).mono ?_; rintro e v1 ⟨rfl, hb⟩; refine Hid.out ?_)
      replace o8 := Own.below hb o8
      have C1 : Below w.heap.size w v1 := hB.trans (hb.mono hB.size)
      clear hb
      refine Lib.hid ?_
      go_wp2_with (go_at_call 17; refine (text_eq nb na _ HP.out (by omega) (by omega) T HT.out).mono ?_; rintro e v2 ⟨rfl, hb⟩; refine Hid.out ?_)
      replace o8 := Own.below hb o8
      have C2 : Below w.heap.size w v2 := C1.trans (hb.mono C1.size)
      clear hb
      refine Lib.hid ?_
      go_wp2
      go_roundg (gk - 1)
      case measure => have := HG.out; omega
      case rel => exact ⟨k + 1, by omega, by have := HG.out; omega, by go_num, o8, C2⟩
    · obtain rfl : k = 80 := by omega
      obtain ⟨c80, c81, -, -, -, -⟩ := o8.facts
      go_wp2_with (go_at_call 12; refine (lives _).mono ?_; rintro e v3 ⟨rfl, hb⟩; refine Hid.out ?_)
      have C3 : Below w.heap.size w v3 := hB.trans (hb.mono hB.size)
      clear hb
      refine Lib.hid ?_
      go_wp2
      go_ret
      exact ⟨rfl, C3⟩

set_option maxRecDepth 100000 in
set_option maxHeartbeats 4000000 in
theorem textlaw_0_2_found (n : Nat) (h1 : 10 ≤ n) (h2 : n ≤ 40) (l : List UInt8) (hl : (l.length : Int) ≤ 20) (w : World) (b' : Int) (n' : Nat) (hb' : b' = 0 ∨ b' = 1) (m1 : 1 ≤ n') (m2 : n' ≤ 40) (hL : txt b' n' = l) :
    Calls Tryd.prog 6 #[.agg #[.int .u8 0, .int .i64 n], .string ⟨l.toArray⟩] w fun e w' => e = .returned (.bool true) ∧ Below w.heap.size w w' := by
  have hld : decide (20 < (l.length : Int)) = false := by simp; omega
  have HB' := Lib.hid hb'
  have hb2 : b' ≤ 1 := by omega
  have HL := Lib.hid hL
  clear hb' hL
  obtain ⟨d1, hd1⟩ : ∃ d : UInt8, UInt8.ofNat (48 + n / 10) = d := ⟨_, rfl⟩
  obtain ⟨d2, hd2⟩ : ∃ d : UInt8, UInt8.ofNat (48 + n % 10) = d := ⟨_, rfl⟩
  have hv1 : UInt8.ofNat (48 + (n : Int) / 10).toNat = d1 := by rw [← hd1]; congr 1
  have hv2 : UInt8.ofNat (48 + (n : Int) % 10).toNat = d2 := by rw [← hd2]; congr 1
  have hT : txt 0 n = [102, d1, d2] := by rw [← hd1, ← hd2]; simp [txt, Lib.decDigits_two (show ¬ n < 10 by omega) (show n < 100 by omega)]
  have HT := Lib.hid hT
  have HV1 := Lib.hid hv1
  have HV2 := Lib.hid hv2
  clear hd1 hd2 hT hv1 hv2
  go_enter Tryd.func6, Tryd.ntmps6
  go_wp2_with (go_at_call 9; refine (lvalid_ok _ _ _ (by omega) (by omega) (by omega)).mono ?_; rintro e w1 ⟨rfl, hb⟩; refine Hid.out ?_)
  have z1 := hb.size
  simp at z1
  have B1 : Below w.heap.size w w1 := ((Below.refl _ _).alloc (Nat.le_refl _) _).trans (hb.mono (by simp <;> omega))
  have o2 : Own w1 w.heap.size 0 n := Own.below hb (Own.new 0 n rfl)
  clear hb
  obtain ⟨c20, c21, -, -, q20, q21⟩ := o2.facts
  have r20 := fun o o' => ((o2.alloc o).alloc o').1
  have r21 := fun o o' => ((o2.alloc o).alloc o').2.1
  have t20 := fun o o' o'' => (((o2.alloc o).alloc o').alloc o'').1
  have t21 := fun o o' o'' => (((o2.alloc o).alloc o').alloc o'').2.1
  have kc := byte_str (w1.alloc (Obj.cells #[Value.string { data := #[102] }, Value.string { data := #[98] }] 9)) (w1.heap.size + 1) (by simp) (48 + (n : Int) / 10) d1 HV1.out
  have kd := byte_str ((w1.alloc (Obj.cells #[Value.string { data := #[102] }, Value.string { data := #[98] }] 9)).alloc (Obj.cells #[Value.int IntKind.u8 (48 + (n : Int) / 10)] 5)) (w1.heap.size + 1 + 1) (by simp) (48 + (n : Int) % 10) d2 HV2.out
  have ac : ∀ w, (Op.stringOp .add ⟨#[102]⟩ ⟨#[d1]⟩).run Tryd.prog w = .ok (.string ⟨#[102, d1]⟩) w := fun w => add_str w [102] [d1] (by simp) (by simp)
  have ad : ∀ w, (Op.stringOp .add ⟨#[102, d1]⟩ ⟨#[d2]⟩).run Tryd.prog w = .ok (.string ⟨#[102, d1, d2]⟩) w := fun w => add_str w [102, d1] [d2] (by simp) (by simp)
  refine Lib.hid ?_
  go_wp2_with (go_at_call 17; refine (text_eq 0 n _ (by omega) (by omega) (by omega) [102, d1, d2] HT.out).mono ?_; rintro e w2 ⟨rfl, hb⟩; refine Hid.out ?_)
  have z2 := hb.size
  simp at z2
  have B2 : Below w.heap.size w w2 := (((B1.alloc (by omega) _).alloc (by simp <;> omega) _).alloc (by simp <;> omega) _).trans (hb.mono (by simp <;> omega))
  replace o2 := Own.below hb (((o2.alloc _).alloc _).alloc _)
  clear hb c20 c21 q20 q21 r20 r21 t20 t21 kc kd ac ad
  refine Lib.hid ?_
  go_wp2_with (go_at_call 18; refine (parse_is 0 n [102, d1, d2] _ (by omega) (by omega) (by omega) HT.out).mono ?_; rintro e w3 ⟨rfl, hb⟩; refine Hid.out ?_)
  have z3 := hb.size
  have B3 : Below w.heap.size w w3 := (B2).trans (hb.mono (by omega))
  replace o2 := Own.below hb o2
  clear hb
  obtain ⟨-, -, -, -, q20, q21⟩ := o2.facts
  refine Lib.hid ?_
  go_wp2_with (go_at_call 18; refine (parse_is b' n' l _ HB'.out m1 m2 HL.out).mono ?_; rintro e w4 ⟨rfl, hb⟩; refine Hid.out ?_)
  have z4 := hb.size
  simp at z4
  have B4 : Below w.heap.size w w4 := (B3.alloc (by omega) _).trans (hb.mono (by simp <;> omega))
  clear hb
  refine Lib.hid ?_
  go_wp2_with (go_at_call 9; refine (lvalid_ok _ _ _ hb2 (by omega) (by omega)).mono ?_; rintro e w5 ⟨rfl, hb⟩; refine Hid.out ?_)
  have z5 := hb.size
  simp at z5
  have B5 : Below w.heap.size w w5 := (B4.alloc (by omega) _).trans (hb.mono (by simp <;> omega))
  have o8 : Own w5 w4.heap.size b' n' := Own.below hb (Own.new b' n' rfl)
  clear hb
  obtain ⟨c80, c81, -, -, -, -⟩ := o8.facts
  refine Lib.hid ?_
  go_wp2_with (go_at_call 17; refine (text_eq b' n' _ HB'.out m1 m2 l HL.out).mono ?_; rintro e w6 ⟨rfl, hb⟩; refine Hid.out ?_)
  have z6 := hb.size
  have B6 : Below w.heap.size w w6 := (B5).trans (hb.mono (by omega))
  clear hb c80 c81
  refine Lib.hid ?_
  go_wp2_with (go_at_call 12; refine (lives _).mono ?_; rintro e w7 ⟨rfl, hb⟩; refine Hid.out ?_)
  have z7 := hb.size
  have B7 : Below w.heap.size w w7 := (B6).trans (hb.mono (by omega))
  clear hb
  refine Lib.hid ?_
  go_wp2
  go_ret
  exact ⟨rfl, B7⟩

set_option maxRecDepth 100000 in
set_option maxHeartbeats 4000000 in
theorem textlaw_0_2_none (n : Nat) (h1 : 10 ≤ n) (h2 : n ≤ 40) (l : List UInt8) (hl : (l.length : Int) ≤ 20) (w : World) (hE : Errs w) (hL : ¬ IsText l) :
    Calls Tryd.prog 6 #[.agg #[.int .u8 0, .int .i64 n], .string ⟨l.toArray⟩] w fun e w' => e = .returned (.bool true) ∧ Below w.heap.size w w' := by
  have hld : decide (20 < (l.length : Int)) = false := by simp; omega
  have HL := Lib.hid hL
  clear hL
  obtain ⟨d1, hd1⟩ : ∃ d : UInt8, UInt8.ofNat (48 + n / 10) = d := ⟨_, rfl⟩
  obtain ⟨d2, hd2⟩ : ∃ d : UInt8, UInt8.ofNat (48 + n % 10) = d := ⟨_, rfl⟩
  have hv1 : UInt8.ofNat (48 + (n : Int) / 10).toNat = d1 := by rw [← hd1]; congr 1
  have hv2 : UInt8.ofNat (48 + (n : Int) % 10).toNat = d2 := by rw [← hd2]; congr 1
  have hT : txt 0 n = [102, d1, d2] := by rw [← hd1, ← hd2]; simp [txt, Lib.decDigits_two (show ¬ n < 10 by omega) (show n < 100 by omega)]
  have HT := Lib.hid hT
  have HV1 := Lib.hid hv1
  have HV2 := Lib.hid hv2
  clear hd1 hd2 hT hv1 hv2
  go_enter Tryd.func6, Tryd.ntmps6
  go_wp2_with (go_at_call 9; refine (lvalid_ok _ _ _ (by omega) (by omega) (by omega)).mono ?_; rintro e w1 ⟨rfl, hb⟩; refine Hid.out ?_)
  have z1 := hb.size
  simp at z1
  have B1 : Below w.heap.size w w1 := ((Below.refl _ _).alloc (Nat.le_refl _) _).trans (hb.mono (by simp <;> omega))
  have o2 : Own w1 w.heap.size 0 n := Own.below hb (Own.new 0 n rfl)
  clear hb
  obtain ⟨c20, c21, -, -, q20, q21⟩ := o2.facts
  have r20 := fun o o' => ((o2.alloc o).alloc o').1
  have r21 := fun o o' => ((o2.alloc o).alloc o').2.1
  have t20 := fun o o' o'' => (((o2.alloc o).alloc o').alloc o'').1
  have t21 := fun o o' o'' => (((o2.alloc o).alloc o').alloc o'').2.1
  have kc := byte_str (w1.alloc (Obj.cells #[Value.string { data := #[102] }, Value.string { data := #[98] }] 9)) (w1.heap.size + 1) (by simp) (48 + (n : Int) / 10) d1 HV1.out
  have kd := byte_str ((w1.alloc (Obj.cells #[Value.string { data := #[102] }, Value.string { data := #[98] }] 9)).alloc (Obj.cells #[Value.int IntKind.u8 (48 + (n : Int) / 10)] 5)) (w1.heap.size + 1 + 1) (by simp) (48 + (n : Int) % 10) d2 HV2.out
  have ac : ∀ w, (Op.stringOp .add ⟨#[102]⟩ ⟨#[d1]⟩).run Tryd.prog w = .ok (.string ⟨#[102, d1]⟩) w := fun w => add_str w [102] [d1] (by simp) (by simp)
  have ad : ∀ w, (Op.stringOp .add ⟨#[102, d1]⟩ ⟨#[d2]⟩).run Tryd.prog w = .ok (.string ⟨#[102, d1, d2]⟩) w := fun w => add_str w [102, d1] [d2] (by simp) (by simp)
  refine Lib.hid ?_
  go_wp2_with (go_at_call 17; refine (text_eq 0 n _ (by omega) (by omega) (by omega) [102, d1, d2] HT.out).mono ?_; rintro e w2 ⟨rfl, hb⟩; refine Hid.out ?_)
  have z2 := hb.size
  simp at z2
  have B2 : Below w.heap.size w w2 := (((B1.alloc (by omega) _).alloc (by simp <;> omega) _).alloc (by simp <;> omega) _).trans (hb.mono (by simp <;> omega))
  replace o2 := Own.below hb (((o2.alloc _).alloc _).alloc _)
  clear hb c20 c21 q20 q21 r20 r21 t20 t21 kc kd ac ad
  refine Lib.hid ?_
  go_wp2_with (go_at_call 18; refine (parse_is 0 n [102, d1, d2] _ (by omega) (by omega) (by omega) HT.out).mono ?_; rintro e w3 ⟨rfl, hb⟩; refine Hid.out ?_)
  have z3 := hb.size
  have B3 : Below w.heap.size w w3 := (B2).trans (hb.mono (by omega))
  replace o2 := Own.below hb o2
  clear hb
  obtain ⟨-, -, -, -, q20, q21⟩ := o2.facts
  refine Lib.hid ?_
  go_wp2_with (go_at_call 18; refine (parse_none l (by omega) _ (hE.below (B3.alloc (by omega) _)) HL.out).mono ?_; rintro e w4 ⟨rfl, hb⟩; refine Hid.out ?_)
  have z4 := hb.size
  simp at z4
  have B4 : Below w.heap.size w w4 := (B3.alloc (by omega) _).trans (hb.mono (by simp <;> omega))
  clear hb
  refine Lib.hid ?_
  go_wp2_with fail
  go_loopg [10] 81 (fun g i wr => ∃ k : Nat, k ≤ 80 ∧ g = 81 - k ∧ i = .int .i64 k ∧ Own wr w4.heap.size 0 0 ∧ Below w.heap.size w wr)
  case atStart => exact ⟨0, by omega, rfl, rfl, Own.new 0 0 rfl, B4.alloc (by omega) _⟩
  case round =>
    obtain ⟨k, hk, hg, rfl, o8, hB⟩ := hrel
    have HG := Lib.hid hg
    clear hg
    by_cases hk80 : k < 80
    · obtain ⟨nb, hnb⟩ : ∃ nb : Int, (k : Int) % 80 / 40 = nb := ⟨_, rfl⟩
      obtain ⟨na, hna⟩ : ∃ na : Nat, 1 + (k : Int) % 40 = na := ⟨1 + k % 40, by omega⟩
      obtain ⟨p1, p2, p3⟩ := needle_parts k
      have hp : nb = 0 ∨ nb = 1 := by rw [← hnb]; exact p1
      rw [hna] at p2 p3
      obtain ⟨T, hT⟩ : ∃ T : List UInt8, txt nb na = T := ⟨_, rfl⟩
      have hne : (T == l) = false := by
        have : T ≠ l := fun e => HL.out ⟨nb, na, hp, by omega, by omega, by rw [hT, e]⟩
        simpa using this
      have HNB := Lib.hid hnb
      have HNA := Lib.hid hna
      have HP := Lib.hid hp
      have HT := Lib.hid hT
      clear hnb hna hp hT p1
      go_wp2_with (go_at_call 15; refine (lneedle_is k nb na _ (by omega) (by omega) HNB.out HNA.out).mono ?_; rintro e v1 ⟨rfl, hb⟩; refine Hid.out ?_)
      replace o8 := Own.below hb o8
      have C1 : Below w.heap.size w v1 := hB.trans (hb.mono hB.size)
      clear hb
      refine Lib.hid ?_
      go_wp2_with (go_at_call 17; refine (text_eq nb na _ HP.out (by omega) (by omega) T HT.out).mono ?_; rintro e v2 ⟨rfl, hb⟩; refine Hid.out ?_)
      replace o8 := Own.below hb o8
      have C2 : Below w.heap.size w v2 := C1.trans (hb.mono C1.size)
      clear hb
      refine Lib.hid ?_
      go_wp2
      go_roundg (gk - 1)
      case measure => have := HG.out; omega
      case rel => exact ⟨k + 1, by omega, by have := HG.out; omega, by go_num, o8, C2⟩
    · obtain rfl : k = 80 := by omega
      obtain ⟨c80, c81, -, -, -, -⟩ := o8.facts
      go_wp2_with (go_at_call 12; refine (lives _).mono ?_; rintro e v3 ⟨rfl, hb⟩; refine Hid.out ?_)
      have C3 : Below w.heap.size w v3 := hB.trans (hb.mono hB.size)
      clear hb
      refine Lib.hid ?_
      go_wp2
      go_ret
      exact ⟨rfl, C3⟩

set_option maxRecDepth 100000 in
set_option maxHeartbeats 4000000 in
theorem textlaw_1_1_found (n : Nat) (h1 : 1 ≤ n) (h2 : n ≤ 9) (l : List UInt8) (hl : (l.length : Int) ≤ 20) (w : World) (b' : Int) (n' : Nat) (hb' : b' = 0 ∨ b' = 1) (m1 : 1 ≤ n') (m2 : n' ≤ 40) (hL : txt b' n' = l) :
    Calls Tryd.prog 6 #[.agg #[.int .u8 1, .int .i64 n], .string ⟨l.toArray⟩] w fun e w' => e = .returned (.bool true) ∧ Below w.heap.size w w' := by
  have hld : decide (20 < (l.length : Int)) = false := by simp; omega
  have HB' := Lib.hid hb'
  have hb2 : b' ≤ 1 := by omega
  have HL := Lib.hid hL
  clear hb' hL
  obtain ⟨d, hd⟩ : ∃ d : UInt8, UInt8.ofNat (48 + n) = d := ⟨_, rfl⟩
  have hv : UInt8.ofNat (48 + (n : Int) % 10).toNat = d := by rw [← hd]; congr 1; omega
  have hT : txt 1 n = [98, d] := by rw [← hd]; simp [txt, Lib.decDigits_one (show n < 10 by omega)]
  have HT := Lib.hid hT
  have HV := Lib.hid hv
  clear hd hT hv
  go_enter Tryd.func6, Tryd.ntmps6
  go_wp2_with (go_at_call 9; refine (lvalid_ok _ _ _ (by omega) (by omega) (by omega)).mono ?_; rintro e w1 ⟨rfl, hb⟩; refine Hid.out ?_)
  have z1 := hb.size
  simp at z1
  have B1 : Below w.heap.size w w1 := ((Below.refl _ _).alloc (Nat.le_refl _) _).trans (hb.mono (by simp <;> omega))
  have o2 : Own w1 w.heap.size 1 n := Own.below hb (Own.new 1 n rfl)
  clear hb
  obtain ⟨c20, c21, -, -, q20, q21⟩ := o2.facts
  have r20 := fun o o' => ((o2.alloc o).alloc o').1
  have r21 := fun o o' => ((o2.alloc o).alloc o').2.1
  have kc := byte_str (w1.alloc (Obj.cells #[Value.string { data := #[102] }, Value.string { data := #[98] }] 9)) (w1.heap.size + 1) (by simp) (48 + (n : Int) % 10) d HV.out
  have ac : ∀ w, (Op.stringOp .add ⟨#[98]⟩ ⟨#[d]⟩).run Tryd.prog w = .ok (.string ⟨#[98, d]⟩) w := fun w => add_str w [98] [d] (by simp) (by simp)
  refine Lib.hid ?_
  go_wp2_with (go_at_call 17; refine (text_eq 1 n _ (by omega) (by omega) (by omega) [98, d] HT.out).mono ?_; rintro e w2 ⟨rfl, hb⟩; refine Hid.out ?_)
  have z2 := hb.size
  simp at z2
  have B2 : Below w.heap.size w w2 := ((B1.alloc (by omega) _).alloc (by simp <;> omega) _).trans (hb.mono (by simp <;> omega))
  replace o2 := Own.below hb ((o2.alloc _).alloc _)
  clear hb c20 c21 q20 q21 r20 r21 kc ac
  refine Lib.hid ?_
  go_wp2_with (go_at_call 18; refine (parse_is 1 n [98, d] _ (by omega) (by omega) (by omega) HT.out).mono ?_; rintro e w3 ⟨rfl, hb⟩; refine Hid.out ?_)
  have z3 := hb.size
  have B3 : Below w.heap.size w w3 := (B2).trans (hb.mono (by omega))
  replace o2 := Own.below hb o2
  clear hb
  obtain ⟨-, -, -, -, q20, q21⟩ := o2.facts
  refine Lib.hid ?_
  go_wp2_with (go_at_call 18; refine (parse_is b' n' l _ HB'.out m1 m2 HL.out).mono ?_; rintro e w4 ⟨rfl, hb⟩; refine Hid.out ?_)
  have z4 := hb.size
  simp at z4
  have B4 : Below w.heap.size w w4 := (B3.alloc (by omega) _).trans (hb.mono (by simp <;> omega))
  clear hb
  refine Lib.hid ?_
  go_wp2_with (go_at_call 9; refine (lvalid_ok _ _ _ hb2 (by omega) (by omega)).mono ?_; rintro e w5 ⟨rfl, hb⟩; refine Hid.out ?_)
  have z5 := hb.size
  simp at z5
  have B5 : Below w.heap.size w w5 := (B4.alloc (by omega) _).trans (hb.mono (by simp <;> omega))
  have o8 : Own w5 w4.heap.size b' n' := Own.below hb (Own.new b' n' rfl)
  clear hb
  obtain ⟨c80, c81, -, -, -, -⟩ := o8.facts
  refine Lib.hid ?_
  go_wp2_with (go_at_call 17; refine (text_eq b' n' _ HB'.out m1 m2 l HL.out).mono ?_; rintro e w6 ⟨rfl, hb⟩; refine Hid.out ?_)
  have z6 := hb.size
  have B6 : Below w.heap.size w w6 := (B5).trans (hb.mono (by omega))
  clear hb c80 c81
  refine Lib.hid ?_
  go_wp2_with (go_at_call 12; refine (lives _).mono ?_; rintro e w7 ⟨rfl, hb⟩; refine Hid.out ?_)
  have z7 := hb.size
  have B7 : Below w.heap.size w w7 := (B6).trans (hb.mono (by omega))
  clear hb
  refine Lib.hid ?_
  go_wp2
  go_ret
  exact ⟨rfl, B7⟩

set_option maxRecDepth 100000 in
set_option maxHeartbeats 4000000 in
theorem textlaw_1_1_none (n : Nat) (h1 : 1 ≤ n) (h2 : n ≤ 9) (l : List UInt8) (hl : (l.length : Int) ≤ 20) (w : World) (hE : Errs w) (hL : ¬ IsText l) :
    Calls Tryd.prog 6 #[.agg #[.int .u8 1, .int .i64 n], .string ⟨l.toArray⟩] w fun e w' => e = .returned (.bool true) ∧ Below w.heap.size w w' := by
  have hld : decide (20 < (l.length : Int)) = false := by simp; omega
  have HL := Lib.hid hL
  clear hL
  obtain ⟨d, hd⟩ : ∃ d : UInt8, UInt8.ofNat (48 + n) = d := ⟨_, rfl⟩
  have hv : UInt8.ofNat (48 + (n : Int) % 10).toNat = d := by rw [← hd]; congr 1; omega
  have hT : txt 1 n = [98, d] := by rw [← hd]; simp [txt, Lib.decDigits_one (show n < 10 by omega)]
  have HT := Lib.hid hT
  have HV := Lib.hid hv
  clear hd hT hv
  go_enter Tryd.func6, Tryd.ntmps6
  go_wp2_with (go_at_call 9; refine (lvalid_ok _ _ _ (by omega) (by omega) (by omega)).mono ?_; rintro e w1 ⟨rfl, hb⟩; refine Hid.out ?_)
  have z1 := hb.size
  simp at z1
  have B1 : Below w.heap.size w w1 := ((Below.refl _ _).alloc (Nat.le_refl _) _).trans (hb.mono (by simp <;> omega))
  have o2 : Own w1 w.heap.size 1 n := Own.below hb (Own.new 1 n rfl)
  clear hb
  obtain ⟨c20, c21, -, -, q20, q21⟩ := o2.facts
  have r20 := fun o o' => ((o2.alloc o).alloc o').1
  have r21 := fun o o' => ((o2.alloc o).alloc o').2.1
  have kc := byte_str (w1.alloc (Obj.cells #[Value.string { data := #[102] }, Value.string { data := #[98] }] 9)) (w1.heap.size + 1) (by simp) (48 + (n : Int) % 10) d HV.out
  have ac : ∀ w, (Op.stringOp .add ⟨#[98]⟩ ⟨#[d]⟩).run Tryd.prog w = .ok (.string ⟨#[98, d]⟩) w := fun w => add_str w [98] [d] (by simp) (by simp)
  refine Lib.hid ?_
  go_wp2_with (go_at_call 17; refine (text_eq 1 n _ (by omega) (by omega) (by omega) [98, d] HT.out).mono ?_; rintro e w2 ⟨rfl, hb⟩; refine Hid.out ?_)
  have z2 := hb.size
  simp at z2
  have B2 : Below w.heap.size w w2 := ((B1.alloc (by omega) _).alloc (by simp <;> omega) _).trans (hb.mono (by simp <;> omega))
  replace o2 := Own.below hb ((o2.alloc _).alloc _)
  clear hb c20 c21 q20 q21 r20 r21 kc ac
  refine Lib.hid ?_
  go_wp2_with (go_at_call 18; refine (parse_is 1 n [98, d] _ (by omega) (by omega) (by omega) HT.out).mono ?_; rintro e w3 ⟨rfl, hb⟩; refine Hid.out ?_)
  have z3 := hb.size
  have B3 : Below w.heap.size w w3 := (B2).trans (hb.mono (by omega))
  replace o2 := Own.below hb o2
  clear hb
  obtain ⟨-, -, -, -, q20, q21⟩ := o2.facts
  refine Lib.hid ?_
  go_wp2_with (go_at_call 18; refine (parse_none l (by omega) _ (hE.below (B3.alloc (by omega) _)) HL.out).mono ?_; rintro e w4 ⟨rfl, hb⟩; refine Hid.out ?_)
  have z4 := hb.size
  simp at z4
  have B4 : Below w.heap.size w w4 := (B3.alloc (by omega) _).trans (hb.mono (by simp <;> omega))
  clear hb
  refine Lib.hid ?_
  go_wp2_with fail
  go_loopg [10] 81 (fun g i wr => ∃ k : Nat, k ≤ 80 ∧ g = 81 - k ∧ i = .int .i64 k ∧ Own wr w4.heap.size 0 0 ∧ Below w.heap.size w wr)
  case atStart => exact ⟨0, by omega, rfl, rfl, Own.new 0 0 rfl, B4.alloc (by omega) _⟩
  case round =>
    obtain ⟨k, hk, hg, rfl, o8, hB⟩ := hrel
    have HG := Lib.hid hg
    clear hg
    by_cases hk80 : k < 80
    · obtain ⟨nb, hnb⟩ : ∃ nb : Int, (k : Int) % 80 / 40 = nb := ⟨_, rfl⟩
      obtain ⟨na, hna⟩ : ∃ na : Nat, 1 + (k : Int) % 40 = na := ⟨1 + k % 40, by omega⟩
      obtain ⟨p1, p2, p3⟩ := needle_parts k
      have hp : nb = 0 ∨ nb = 1 := by rw [← hnb]; exact p1
      rw [hna] at p2 p3
      obtain ⟨T, hT⟩ : ∃ T : List UInt8, txt nb na = T := ⟨_, rfl⟩
      have hne : (T == l) = false := by
        have : T ≠ l := fun e => HL.out ⟨nb, na, hp, by omega, by omega, by rw [hT, e]⟩
        simpa using this
      have HNB := Lib.hid hnb
      have HNA := Lib.hid hna
      have HP := Lib.hid hp
      have HT := Lib.hid hT
      clear hnb hna hp hT p1
      go_wp2_with (go_at_call 15; refine (lneedle_is k nb na _ (by omega) (by omega) HNB.out HNA.out).mono ?_; rintro e v1 ⟨rfl, hb⟩; refine Hid.out ?_)
      replace o8 := Own.below hb o8
      have C1 : Below w.heap.size w v1 := hB.trans (hb.mono hB.size)
      clear hb
      refine Lib.hid ?_
      go_wp2_with (go_at_call 17; refine (text_eq nb na _ HP.out (by omega) (by omega) T HT.out).mono ?_; rintro e v2 ⟨rfl, hb⟩; refine Hid.out ?_)
      replace o8 := Own.below hb o8
      have C2 : Below w.heap.size w v2 := C1.trans (hb.mono C1.size)
      clear hb
      refine Lib.hid ?_
      go_wp2
      go_roundg (gk - 1)
      case measure => have := HG.out; omega
      case rel => exact ⟨k + 1, by omega, by have := HG.out; omega, by go_num, o8, C2⟩
    · obtain rfl : k = 80 := by omega
      obtain ⟨c80, c81, -, -, -, -⟩ := o8.facts
      go_wp2_with (go_at_call 12; refine (lives _).mono ?_; rintro e v3 ⟨rfl, hb⟩; refine Hid.out ?_)
      have C3 : Below w.heap.size w v3 := hB.trans (hb.mono hB.size)
      clear hb
      refine Lib.hid ?_
      go_wp2
      go_ret
      exact ⟨rfl, C3⟩

set_option maxRecDepth 100000 in
set_option maxHeartbeats 4000000 in
theorem textlaw_1_2_found (n : Nat) (h1 : 10 ≤ n) (h2 : n ≤ 40) (l : List UInt8) (hl : (l.length : Int) ≤ 20) (w : World) (b' : Int) (n' : Nat) (hb' : b' = 0 ∨ b' = 1) (m1 : 1 ≤ n') (m2 : n' ≤ 40) (hL : txt b' n' = l) :
    Calls Tryd.prog 6 #[.agg #[.int .u8 1, .int .i64 n], .string ⟨l.toArray⟩] w fun e w' => e = .returned (.bool true) ∧ Below w.heap.size w w' := by
  have hld : decide (20 < (l.length : Int)) = false := by simp; omega
  have HB' := Lib.hid hb'
  have hb2 : b' ≤ 1 := by omega
  have HL := Lib.hid hL
  clear hb' hL
  obtain ⟨d1, hd1⟩ : ∃ d : UInt8, UInt8.ofNat (48 + n / 10) = d := ⟨_, rfl⟩
  obtain ⟨d2, hd2⟩ : ∃ d : UInt8, UInt8.ofNat (48 + n % 10) = d := ⟨_, rfl⟩
  have hv1 : UInt8.ofNat (48 + (n : Int) / 10).toNat = d1 := by rw [← hd1]; congr 1
  have hv2 : UInt8.ofNat (48 + (n : Int) % 10).toNat = d2 := by rw [← hd2]; congr 1
  have hT : txt 1 n = [98, d1, d2] := by rw [← hd1, ← hd2]; simp [txt, Lib.decDigits_two (show ¬ n < 10 by omega) (show n < 100 by omega)]
  have HT := Lib.hid hT
  have HV1 := Lib.hid hv1
  have HV2 := Lib.hid hv2
  clear hd1 hd2 hT hv1 hv2
  go_enter Tryd.func6, Tryd.ntmps6
  go_wp2_with (go_at_call 9; refine (lvalid_ok _ _ _ (by omega) (by omega) (by omega)).mono ?_; rintro e w1 ⟨rfl, hb⟩; refine Hid.out ?_)
  have z1 := hb.size
  simp at z1
  have B1 : Below w.heap.size w w1 := ((Below.refl _ _).alloc (Nat.le_refl _) _).trans (hb.mono (by simp <;> omega))
  have o2 : Own w1 w.heap.size 1 n := Own.below hb (Own.new 1 n rfl)
  clear hb
  obtain ⟨c20, c21, -, -, q20, q21⟩ := o2.facts
  have r20 := fun o o' => ((o2.alloc o).alloc o').1
  have r21 := fun o o' => ((o2.alloc o).alloc o').2.1
  have t20 := fun o o' o'' => (((o2.alloc o).alloc o').alloc o'').1
  have t21 := fun o o' o'' => (((o2.alloc o).alloc o').alloc o'').2.1
  have kc := byte_str (w1.alloc (Obj.cells #[Value.string { data := #[102] }, Value.string { data := #[98] }] 9)) (w1.heap.size + 1) (by simp) (48 + (n : Int) / 10) d1 HV1.out
  have kd := byte_str ((w1.alloc (Obj.cells #[Value.string { data := #[102] }, Value.string { data := #[98] }] 9)).alloc (Obj.cells #[Value.int IntKind.u8 (48 + (n : Int) / 10)] 5)) (w1.heap.size + 1 + 1) (by simp) (48 + (n : Int) % 10) d2 HV2.out
  have ac : ∀ w, (Op.stringOp .add ⟨#[98]⟩ ⟨#[d1]⟩).run Tryd.prog w = .ok (.string ⟨#[98, d1]⟩) w := fun w => add_str w [98] [d1] (by simp) (by simp)
  have ad : ∀ w, (Op.stringOp .add ⟨#[98, d1]⟩ ⟨#[d2]⟩).run Tryd.prog w = .ok (.string ⟨#[98, d1, d2]⟩) w := fun w => add_str w [98, d1] [d2] (by simp) (by simp)
  refine Lib.hid ?_
  go_wp2_with (go_at_call 17; refine (text_eq 1 n _ (by omega) (by omega) (by omega) [98, d1, d2] HT.out).mono ?_; rintro e w2 ⟨rfl, hb⟩; refine Hid.out ?_)
  have z2 := hb.size
  simp at z2
  have B2 : Below w.heap.size w w2 := (((B1.alloc (by omega) _).alloc (by simp <;> omega) _).alloc (by simp <;> omega) _).trans (hb.mono (by simp <;> omega))
  replace o2 := Own.below hb (((o2.alloc _).alloc _).alloc _)
  clear hb c20 c21 q20 q21 r20 r21 t20 t21 kc kd ac ad
  refine Lib.hid ?_
  go_wp2_with (go_at_call 18; refine (parse_is 1 n [98, d1, d2] _ (by omega) (by omega) (by omega) HT.out).mono ?_; rintro e w3 ⟨rfl, hb⟩; refine Hid.out ?_)
  have z3 := hb.size
  have B3 : Below w.heap.size w w3 := (B2).trans (hb.mono (by omega))
  replace o2 := Own.below hb o2
  clear hb
  obtain ⟨-, -, -, -, q20, q21⟩ := o2.facts
  refine Lib.hid ?_
  go_wp2_with (go_at_call 18; refine (parse_is b' n' l _ HB'.out m1 m2 HL.out).mono ?_; rintro e w4 ⟨rfl, hb⟩; refine Hid.out ?_)
  have z4 := hb.size
  simp at z4
  have B4 : Below w.heap.size w w4 := (B3.alloc (by omega) _).trans (hb.mono (by simp <;> omega))
  clear hb
  refine Lib.hid ?_
  go_wp2_with (go_at_call 9; refine (lvalid_ok _ _ _ hb2 (by omega) (by omega)).mono ?_; rintro e w5 ⟨rfl, hb⟩; refine Hid.out ?_)
  have z5 := hb.size
  simp at z5
  have B5 : Below w.heap.size w w5 := (B4.alloc (by omega) _).trans (hb.mono (by simp <;> omega))
  have o8 : Own w5 w4.heap.size b' n' := Own.below hb (Own.new b' n' rfl)
  clear hb
  obtain ⟨c80, c81, -, -, -, -⟩ := o8.facts
  refine Lib.hid ?_
  go_wp2_with (go_at_call 17; refine (text_eq b' n' _ HB'.out m1 m2 l HL.out).mono ?_; rintro e w6 ⟨rfl, hb⟩; refine Hid.out ?_)
  have z6 := hb.size
  have B6 : Below w.heap.size w w6 := (B5).trans (hb.mono (by omega))
  clear hb c80 c81
  refine Lib.hid ?_
  go_wp2_with (go_at_call 12; refine (lives _).mono ?_; rintro e w7 ⟨rfl, hb⟩; refine Hid.out ?_)
  have z7 := hb.size
  have B7 : Below w.heap.size w w7 := (B6).trans (hb.mono (by omega))
  clear hb
  refine Lib.hid ?_
  go_wp2
  go_ret
  exact ⟨rfl, B7⟩

set_option maxRecDepth 100000 in
set_option maxHeartbeats 4000000 in
theorem textlaw_1_2_none (n : Nat) (h1 : 10 ≤ n) (h2 : n ≤ 40) (l : List UInt8) (hl : (l.length : Int) ≤ 20) (w : World) (hE : Errs w) (hL : ¬ IsText l) :
    Calls Tryd.prog 6 #[.agg #[.int .u8 1, .int .i64 n], .string ⟨l.toArray⟩] w fun e w' => e = .returned (.bool true) ∧ Below w.heap.size w w' := by
  have hld : decide (20 < (l.length : Int)) = false := by simp; omega
  have HL := Lib.hid hL
  clear hL
  obtain ⟨d1, hd1⟩ : ∃ d : UInt8, UInt8.ofNat (48 + n / 10) = d := ⟨_, rfl⟩
  obtain ⟨d2, hd2⟩ : ∃ d : UInt8, UInt8.ofNat (48 + n % 10) = d := ⟨_, rfl⟩
  have hv1 : UInt8.ofNat (48 + (n : Int) / 10).toNat = d1 := by rw [← hd1]; congr 1
  have hv2 : UInt8.ofNat (48 + (n : Int) % 10).toNat = d2 := by rw [← hd2]; congr 1
  have hT : txt 1 n = [98, d1, d2] := by rw [← hd1, ← hd2]; simp [txt, Lib.decDigits_two (show ¬ n < 10 by omega) (show n < 100 by omega)]
  have HT := Lib.hid hT
  have HV1 := Lib.hid hv1
  have HV2 := Lib.hid hv2
  clear hd1 hd2 hT hv1 hv2
  go_enter Tryd.func6, Tryd.ntmps6
  go_wp2_with (go_at_call 9; refine (lvalid_ok _ _ _ (by omega) (by omega) (by omega)).mono ?_; rintro e w1 ⟨rfl, hb⟩; refine Hid.out ?_)
  have z1 := hb.size
  simp at z1
  have B1 : Below w.heap.size w w1 := ((Below.refl _ _).alloc (Nat.le_refl _) _).trans (hb.mono (by simp <;> omega))
  have o2 : Own w1 w.heap.size 1 n := Own.below hb (Own.new 1 n rfl)
  clear hb
  obtain ⟨c20, c21, -, -, q20, q21⟩ := o2.facts
  have r20 := fun o o' => ((o2.alloc o).alloc o').1
  have r21 := fun o o' => ((o2.alloc o).alloc o').2.1
  have t20 := fun o o' o'' => (((o2.alloc o).alloc o').alloc o'').1
  have t21 := fun o o' o'' => (((o2.alloc o).alloc o').alloc o'').2.1
  have kc := byte_str (w1.alloc (Obj.cells #[Value.string { data := #[102] }, Value.string { data := #[98] }] 9)) (w1.heap.size + 1) (by simp) (48 + (n : Int) / 10) d1 HV1.out
  have kd := byte_str ((w1.alloc (Obj.cells #[Value.string { data := #[102] }, Value.string { data := #[98] }] 9)).alloc (Obj.cells #[Value.int IntKind.u8 (48 + (n : Int) / 10)] 5)) (w1.heap.size + 1 + 1) (by simp) (48 + (n : Int) % 10) d2 HV2.out
  have ac : ∀ w, (Op.stringOp .add ⟨#[98]⟩ ⟨#[d1]⟩).run Tryd.prog w = .ok (.string ⟨#[98, d1]⟩) w := fun w => add_str w [98] [d1] (by simp) (by simp)
  have ad : ∀ w, (Op.stringOp .add ⟨#[98, d1]⟩ ⟨#[d2]⟩).run Tryd.prog w = .ok (.string ⟨#[98, d1, d2]⟩) w := fun w => add_str w [98, d1] [d2] (by simp) (by simp)
  refine Lib.hid ?_
  go_wp2_with (go_at_call 17; refine (text_eq 1 n _ (by omega) (by omega) (by omega) [98, d1, d2] HT.out).mono ?_; rintro e w2 ⟨rfl, hb⟩; refine Hid.out ?_)
  have z2 := hb.size
  simp at z2
  have B2 : Below w.heap.size w w2 := (((B1.alloc (by omega) _).alloc (by simp <;> omega) _).alloc (by simp <;> omega) _).trans (hb.mono (by simp <;> omega))
  replace o2 := Own.below hb (((o2.alloc _).alloc _).alloc _)
  clear hb c20 c21 q20 q21 r20 r21 t20 t21 kc kd ac ad
  refine Lib.hid ?_
  go_wp2_with (go_at_call 18; refine (parse_is 1 n [98, d1, d2] _ (by omega) (by omega) (by omega) HT.out).mono ?_; rintro e w3 ⟨rfl, hb⟩; refine Hid.out ?_)
  have z3 := hb.size
  have B3 : Below w.heap.size w w3 := (B2).trans (hb.mono (by omega))
  replace o2 := Own.below hb o2
  clear hb
  obtain ⟨-, -, -, -, q20, q21⟩ := o2.facts
  refine Lib.hid ?_
  go_wp2_with (go_at_call 18; refine (parse_none l (by omega) _ (hE.below (B3.alloc (by omega) _)) HL.out).mono ?_; rintro e w4 ⟨rfl, hb⟩; refine Hid.out ?_)
  have z4 := hb.size
  simp at z4
  have B4 : Below w.heap.size w w4 := (B3.alloc (by omega) _).trans (hb.mono (by simp <;> omega))
  clear hb
  refine Lib.hid ?_
  go_wp2_with fail
  go_loopg [10] 81 (fun g i wr => ∃ k : Nat, k ≤ 80 ∧ g = 81 - k ∧ i = .int .i64 k ∧ Own wr w4.heap.size 0 0 ∧ Below w.heap.size w wr)
  case atStart => exact ⟨0, by omega, rfl, rfl, Own.new 0 0 rfl, B4.alloc (by omega) _⟩
  case round =>
    obtain ⟨k, hk, hg, rfl, o8, hB⟩ := hrel
    have HG := Lib.hid hg
    clear hg
    by_cases hk80 : k < 80
    · obtain ⟨nb, hnb⟩ : ∃ nb : Int, (k : Int) % 80 / 40 = nb := ⟨_, rfl⟩
      obtain ⟨na, hna⟩ : ∃ na : Nat, 1 + (k : Int) % 40 = na := ⟨1 + k % 40, by omega⟩
      obtain ⟨p1, p2, p3⟩ := needle_parts k
      have hp : nb = 0 ∨ nb = 1 := by rw [← hnb]; exact p1
      rw [hna] at p2 p3
      obtain ⟨T, hT⟩ : ∃ T : List UInt8, txt nb na = T := ⟨_, rfl⟩
      have hne : (T == l) = false := by
        have : T ≠ l := fun e => HL.out ⟨nb, na, hp, by omega, by omega, by rw [hT, e]⟩
        simpa using this
      have HNB := Lib.hid hnb
      have HNA := Lib.hid hna
      have HP := Lib.hid hp
      have HT := Lib.hid hT
      clear hnb hna hp hT p1
      go_wp2_with (go_at_call 15; refine (lneedle_is k nb na _ (by omega) (by omega) HNB.out HNA.out).mono ?_; rintro e v1 ⟨rfl, hb⟩; refine Hid.out ?_)
      replace o8 := Own.below hb o8
      have C1 : Below w.heap.size w v1 := hB.trans (hb.mono hB.size)
      clear hb
      refine Lib.hid ?_
      go_wp2_with (go_at_call 17; refine (text_eq nb na _ HP.out (by omega) (by omega) T HT.out).mono ?_; rintro e v2 ⟨rfl, hb⟩; refine Hid.out ?_)
      replace o8 := Own.below hb o8
      have C2 : Below w.heap.size w v2 := C1.trans (hb.mono C1.size)
      clear hb
      refine Lib.hid ?_
      go_wp2
      go_roundg (gk - 1)
      case measure => have := HG.out; omega
      case rel => exact ⟨k + 1, by omega, by have := HG.out; omega, by go_num, o8, C2⟩
    · obtain rfl : k = 80 := by omega
      obtain ⟨c80, c81, -, -, -, -⟩ := o8.facts
      go_wp2_with (go_at_call 12; refine (lives _).mono ?_; rintro e v3 ⟨rfl, hb⟩; refine Hid.out ?_)
      have C3 : Below w.heap.size w v3 := hB.trans (hb.mono hB.size)
      clear hb
      refine Lib.hid ?_
      go_wp2
      go_ret
      exact ⟨rfl, C3⟩

set_option maxRecDepth 100000 in
set_option maxHeartbeats 4000000 in
theorem textlaw_inv_found (b a : Int) (hv : ¬ (b ≤ 1 ∧ 1 ≤ a ∧ a ≤ 40)) (l : List UInt8) (hl : (l.length : Int) ≤ 20) (w : World) (b' : Int) (n' : Nat) (hb' : b' = 0 ∨ b' = 1) (m1 : 1 ≤ n') (m2 : n' ≤ 40) (hL : txt b' n' = l) :
    Calls Tryd.prog 6 #[.agg #[.int .u8 b, .int .i64 a], .string ⟨l.toArray⟩] w fun e w' => e = .returned (.bool true) ∧ Below w.heap.size w w' := by
  have hld : decide (20 < (l.length : Int)) = false := by simp; omega
  have HB' := Lib.hid hb'
  have hb2 : b' ≤ 1 := by omega
  have HL := Lib.hid hL
  clear hb' hL
  have HV := Lib.hid hv
  clear hv
  go_enter Tryd.func6, Tryd.ntmps6
  go_wp2_with (go_at_call 9; refine (lvalid_bad _ _ _ HV.out).mono ?_; rintro e w1 ⟨rfl, hb⟩; refine Hid.out ?_)
  have z1 := hb.size
  simp at z1
  have B1 : Below w.heap.size w w1 := ((Below.refl _ _).alloc (Nat.le_refl _) _).trans (hb.mono (by simp <;> omega))
  have o2 : Own w1 w.heap.size b a := Own.below hb (Own.new b a rfl)
  clear hb
  obtain ⟨c20, c21, -, -, -, -⟩ := o2.facts
  refine Lib.hid ?_
  go_wp2_with (go_at_call 17; refine (text_bad _ _ _ HV.out).mono ?_; rintro e w2 ⟨rfl, hb⟩; refine Hid.out ?_)
  have z2 := hb.size
  have B2 : Below w.heap.size w w2 := (B1).trans (hb.mono (by omega))
  clear hb c20 c21
  refine Lib.hid ?_
  go_wp2_with (go_at_call 18; refine (parse_is b' n' l _ HB'.out m1 m2 HL.out).mono ?_; rintro e w3 ⟨rfl, hb⟩; refine Hid.out ?_)
  have z3 := hb.size
  have B3 : Below w.heap.size w w3 := (B2).trans (hb.mono (by omega))
  clear hb
  refine Lib.hid ?_
  go_wp2_with (go_at_call 9; refine (lvalid_ok _ _ _ hb2 (by omega) (by omega)).mono ?_; rintro e w4 ⟨rfl, hb⟩; refine Hid.out ?_)
  have z4 := hb.size
  simp at z4
  have B4 : Below w.heap.size w w4 := (B3.alloc (by omega) _).trans (hb.mono (by simp <;> omega))
  have o8 : Own w4 w3.heap.size b' n' := Own.below hb (Own.new b' n' rfl)
  clear hb
  obtain ⟨c80, c81, -, -, -, -⟩ := o8.facts
  refine Lib.hid ?_
  go_wp2_with (go_at_call 17; refine (text_eq b' n' _ HB'.out m1 m2 l HL.out).mono ?_; rintro e w5 ⟨rfl, hb⟩; refine Hid.out ?_)
  have z5 := hb.size
  have B5 : Below w.heap.size w w5 := (B4).trans (hb.mono (by omega))
  clear hb c80 c81
  refine Lib.hid ?_
  go_wp2_with (go_at_call 12; refine (lives _).mono ?_; rintro e w6 ⟨rfl, hb⟩; refine Hid.out ?_)
  have z6 := hb.size
  have B6 : Below w.heap.size w w6 := (B5).trans (hb.mono (by omega))
  clear hb
  refine Lib.hid ?_
  go_wp2
  go_ret
  exact ⟨rfl, B6⟩

set_option maxRecDepth 100000 in
set_option maxHeartbeats 4000000 in
theorem textlaw_inv_none (b a : Int) (hv : ¬ (b ≤ 1 ∧ 1 ≤ a ∧ a ≤ 40)) (l : List UInt8) (hl : (l.length : Int) ≤ 20) (w : World) (hE : Errs w) (hL : ¬ IsText l) :
    Calls Tryd.prog 6 #[.agg #[.int .u8 b, .int .i64 a], .string ⟨l.toArray⟩] w fun e w' => e = .returned (.bool true) ∧ Below w.heap.size w w' := by
  have hld : decide (20 < (l.length : Int)) = false := by simp; omega
  have HL := Lib.hid hL
  clear hL
  have HV := Lib.hid hv
  clear hv
  go_enter Tryd.func6, Tryd.ntmps6
  go_wp2_with (go_at_call 9; refine (lvalid_bad _ _ _ HV.out).mono ?_; rintro e w1 ⟨rfl, hb⟩; refine Hid.out ?_)
  have z1 := hb.size
  simp at z1
  have B1 : Below w.heap.size w w1 := ((Below.refl _ _).alloc (Nat.le_refl _) _).trans (hb.mono (by simp <;> omega))
  have o2 : Own w1 w.heap.size b a := Own.below hb (Own.new b a rfl)
  clear hb
  obtain ⟨c20, c21, -, -, -, -⟩ := o2.facts
  refine Lib.hid ?_
  go_wp2_with (go_at_call 17; refine (text_bad _ _ _ HV.out).mono ?_; rintro e w2 ⟨rfl, hb⟩; refine Hid.out ?_)
  have z2 := hb.size
  have B2 : Below w.heap.size w w2 := (B1).trans (hb.mono (by omega))
  clear hb c20 c21
  refine Lib.hid ?_
  go_wp2_with (go_at_call 18; refine (parse_none l (by omega) _ (hE.below B2) HL.out).mono ?_; rintro e w3 ⟨rfl, hb⟩; refine Hid.out ?_)
  have z3 := hb.size
  have B3 : Below w.heap.size w w3 := (B2).trans (hb.mono (by omega))
  clear hb
  refine Lib.hid ?_
  go_wp2_with fail
  go_loopg [10] 81 (fun g i wr => ∃ k : Nat, k ≤ 80 ∧ g = 81 - k ∧ i = .int .i64 k ∧ Own wr w3.heap.size 0 0 ∧ Below w.heap.size w wr)
  case atStart => exact ⟨0, by omega, rfl, rfl, Own.new 0 0 rfl, B3.alloc (by omega) _⟩
  case round =>
    obtain ⟨k, hk, hg, rfl, o8, hB⟩ := hrel
    have HG := Lib.hid hg
    clear hg
    by_cases hk80 : k < 80
    · obtain ⟨nb, hnb⟩ : ∃ nb : Int, (k : Int) % 80 / 40 = nb := ⟨_, rfl⟩
      obtain ⟨na, hna⟩ : ∃ na : Nat, 1 + (k : Int) % 40 = na := ⟨1 + k % 40, by omega⟩
      obtain ⟨p1, p2, p3⟩ := needle_parts k
      have hp : nb = 0 ∨ nb = 1 := by rw [← hnb]; exact p1
      rw [hna] at p2 p3
      obtain ⟨T, hT⟩ : ∃ T : List UInt8, txt nb na = T := ⟨_, rfl⟩
      have hne : (T == l) = false := by
        have : T ≠ l := fun e => HL.out ⟨nb, na, hp, by omega, by omega, by rw [hT, e]⟩
        simpa using this
      have HNB := Lib.hid hnb
      have HNA := Lib.hid hna
      have HP := Lib.hid hp
      have HT := Lib.hid hT
      clear hnb hna hp hT p1
      go_wp2_with (go_at_call 15; refine (lneedle_is k nb na _ (by omega) (by omega) HNB.out HNA.out).mono ?_; rintro e v1 ⟨rfl, hb⟩; refine Hid.out ?_)
      replace o8 := Own.below hb o8
      have C1 : Below w.heap.size w v1 := hB.trans (hb.mono hB.size)
      clear hb
      refine Lib.hid ?_
      go_wp2_with (go_at_call 17; refine (text_eq nb na _ HP.out (by omega) (by omega) T HT.out).mono ?_; rintro e v2 ⟨rfl, hb⟩; refine Hid.out ?_)
      replace o8 := Own.below hb o8
      have C2 : Below w.heap.size w v2 := C1.trans (hb.mono C1.size)
      clear hb
      refine Lib.hid ?_
      go_wp2
      go_roundg (gk - 1)
      case measure => have := HG.out; omega
      case rel => exact ⟨k + 1, by omega, by have := HG.out; omega, by go_num, o8, C2⟩
    · obtain rfl : k = 80 := by omega
      obtain ⟨c80, c81, -, -, -, -⟩ := o8.facts
      go_wp2_with (go_at_call 12; refine (lives _).mono ?_; rintro e v3 ⟨rfl, hb⟩; refine Hid.out ?_)
      have C3 : Below w.heap.size w v3 := hB.trans (hb.mono hB.size)
      clear hb
      refine Lib.hid ?_
      go_wp2
      go_ret
      exact ⟨rfl, C3⟩

theorem textlaw_all (b a : Int) (s : ByteArray) (hb : 0 ≤ b) (w : World) (hE : Errs w) :
    Calls Tryd.prog 6 #[.agg #[.int .u8 b, .int .i64 a], .string s] w fun e w' => e = .returned (.bool true) ∧ Below w.heap.size w w' := by
  obtain ⟨l, rfl⟩ : ∃ l : List UInt8, s = ⟨l.toArray⟩ := ⟨s.data.toList, by cases s; simp⟩
  by_cases hl : (l.length : Int) ≤ 20
  · by_cases hv : b ≤ 1 ∧ 1 ≤ a ∧ a ≤ 40
    · obtain ⟨v1, v2, v3⟩ := hv
      obtain ⟨n, rfl⟩ : ∃ n : Nat, a = n := ⟨a.toNat, by omega⟩
      by_cases hT : IsText l
      · obtain ⟨b', n', k1, k2, k3, k4⟩ := hT
        obtain rfl | rfl : b = 0 ∨ b = 1 := by omega
        · by_cases h : n ≤ 9
          · exact textlaw_0_1_found n (by omega) h l hl w b' n' k1 k2 k3 k4.symm
          · exact textlaw_0_2_found n (by omega) (by omega) l hl w b' n' k1 k2 k3 k4.symm
        · by_cases h : n ≤ 9
          · exact textlaw_1_1_found n (by omega) h l hl w b' n' k1 k2 k3 k4.symm
          · exact textlaw_1_2_found n (by omega) (by omega) l hl w b' n' k1 k2 k3 k4.symm
      · obtain rfl | rfl : b = 0 ∨ b = 1 := by omega
        · by_cases h : n ≤ 9
          · exact textlaw_0_1_none n (by omega) h l hl w hE hT
          · exact textlaw_0_2_none n (by omega) (by omega) l hl w hE hT
        · by_cases h : n ≤ 9
          · exact textlaw_1_1_none n (by omega) h l hl w hE hT
          · exact textlaw_1_2_none n (by omega) (by omega) l hl w hE hT
    · by_cases hT : IsText l
      · obtain ⟨b', n', k1, k2, k3, k4⟩ := hT
        exact textlaw_inv_found b a hv l hl w b' n' k1 k2 k3 k4.symm
      · exact textlaw_inv_none b a hv l hl w hE hT
  · exact textlaw_long b a l (by omega) w

/-- What the row's list gives: the two errors of the library are errors. -/
theorem errs {W : World} (hL : laidMetH Tryd.prog Rows.needlesTextRow.laid W) : Errs W := by
  have row80 : ∀ u, Tryd.prog.typeName? 3 u = some "*errors.errorString" → u = 80 := fun u h => by
    have star : "*" ++ "errors.errorString" = "*errors.errorString" := by decide
    exact typeName_ptr_named (nm := "errors.errorString") (by rw [star]; kernel_rfl) (by kernel_rfl) (by decide) u (by rw [star]; exact h)
  have h : laidMet Tryd.prog Rows.needlesTextRow.laid W := hL
  have hR := h.tail.tail.tail
  obtain ⟨a0, t0, hv0, _⟩ := laid_sentinel (g := 2) hR (by kernel_rfl) (by kernel_rfl) Tryd.underlying47 row80 Tryd.underlying80 Tryd.underlying82 rfl rfl Tryd.underlying9 (by kernel_rfl) (by kernel_rfl)
  obtain ⟨a1, t1, hv1, _⟩ := laid_sentinel (g := 1) hR.tail (by kernel_rfl) (by kernel_rfl) Tryd.underlying47 row80 Tryd.underlying80 Tryd.underlying82 rfl rfl Tryd.underlying9 (by kernel_rfl) (by kernel_rfl)
  exact ⟨⟨_, _, hv1⟩, _, _, hv0⟩

end Go.Proofs.YthdmpoiecmbinaaDoor
