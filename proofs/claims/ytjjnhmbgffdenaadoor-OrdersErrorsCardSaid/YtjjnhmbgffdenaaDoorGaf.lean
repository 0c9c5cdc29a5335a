import Derived.Test.YtjjnhmbgffdenaaDoorGae
namespace Go.Proofs.YtjjnhmbgffdenaaDoor
open Go.Shelf Go.RowKit Go.Lib Go.Sort Go.Proofs
variable {α : Type} [Inhabited α]
theorem swp_comm2 (d : Array α) (i : Nat) : swp d (i + 1) i = swp d i (i + 1) := by
  unfold swp
  apply Array.ext_getElem?
  intro m
  simp only [Array.getElem?_setIfInBounds, Array.size_setIfInBounds]
  by_cases h1 : i = m <;> by_cases h2 : i + 1 = m <;> simp [h1, h2] <;> omega
set_option maxHeartbeats 4000000 in
set_option maxRecDepth 1000000 in
theorem symMerge_back (k : Nat) (zE : ∀ w, (Go.sizeOf 40).run Tryd.prog w = .ok k w) (enc : α → List Value) (key : α → Int) (cf : α → α → Int) (hcf : ∀ x y, cf x y < 0 ↔ key x < key y) (g : Nat) (cb : Array Value) (eg : ∀ args w, (callFunc g args).run Tryd.prog w = .ok (.enter g args) w) (blk off cap n : Nat) (d0 d : Array α) (w0 w : World) (hcmp : CmpLays Tryd.prog g cb enc k cf blk off n w0) (A X C : List α) (y : α)
    (R : RowK enc k w0 blk off d0) (hs : d0.size = n) (hn : d.size = n) (S : SWK enc k w0 blk off d w) (hd : d.toList = A ++ (X ++ (y :: C))) (hX : 1 < X.length) (hSX : Srt key X) (hsz : n < 4611686018427387904) :
    Calls Tryd.prog 71 #[.slice (some ⟨blk, off, none⟩) n cap, .int .i64 A.length, .int .i64 (A.length + X.length : Nat), .int .i64 (A.length + X.length + 1 : Nat), .func (.func g) #[] cb] w fun e w' => e = .returned (.tuple #[]) ∧
      ∃ d' Z, d'.toList = A ++ (Z ++ C) ∧ Mrg key (X ++ [y]) Z ∧ d'.size = n ∧ SWK enc k w0 blk off d' w' := by
  have aE := aE40
  have mixed := mix40
  obtain ⟨la, hla⟩ : ∃ n, A.length = n := ⟨_, rfl⟩
  obtain ⟨lx, hlx⟩ : ∃ n, X.length = n := ⟨_, rfl⟩
  have hn2 : la + lx + 1 ≤ n := by
    have := congrArg List.length hd
    simp only [List.length_append, List.length_cons, Array.length_toList] at this
    omega
  have hy : d[la + lx]! = y := get_at (P := A ++ X) (R := C) (by rw [hd]; simp) (by simp; omega)
  have hsr : ∀ p q, la ≤ p → p ≤ q → q < la + lx → key d[p]! ≤ key d[q]! := fun p q h1 h2 h3 => srt_at (P := A) (Y := X) (R := y :: C) (by rw [hd]) hSX (by omega) h2 (by omega)
  rw [hla, hlx]
  rw [hlx] at hX
  have HC := Lib.hid hcmp
  have HCF := Lib.hid hcf
  have HSR := Lib.hid hsr
  have HX := Lib.hid hy
  have HD := Lib.hid hd
  have HSY := Lib.hid hSX
  have HA := Lib.hid hla
  have HY := Lib.hid hlx
  have S0 : Aside (SWK enc k w0 blk off d w) := S
  have rm : IntKind.i64.wrap ((la : Int) + (lx : Int) - (la : Int)) = (lx : Int) := by rw [IntKind.wrap_i64]; omega
  have zm : ((lx : Int) == 1) = false := by simp; omega
  have zm2 : ((la : Int) + (lx : Int) - (la : Int) == 1) = false := by simp; omega
  have rm2 : IntKind.i64.wrap ((la : Int) + (lx : Int) + 1 - ((la : Int) + (lx : Int))) = 1 := by rw [IntKind.wrap_i64]; omega
  have zm3 : ((la : Int) + (lx : Int) + 1 - ((la : Int) + (lx : Int)) == 1) = true := by simp; omega
  clear S hcmp hcf hsr hy hd hSX hla hlx
  go_enter Tryd.func71, Tryd.ntmps71
  go_wp2
  go_loopg [14, 15] (lx + 1) (fun g1 s14 s15 wr => ∃ (i j : Nat), s14 = .int .i64 i ∧ s15 = .int .i64 j ∧ j - i ≤ g1 ∧ la ≤ i ∧ i ≤ j ∧ j ≤ la + lx ∧ Hid ((∀ p, la ≤ p → p < i → key d[p]! ≤ key y) ∧ ∀ p, j ≤ p → p < la + lx → key y < key d[p]!) ∧ Aside (SWK enc k w0 blk off d wr))
  case atStart => exact ⟨la, la + lx, by go_num, by go_num, by omega, by omega, by omega, by omega, Lib.hid ⟨fun p h1 h2 => by omega, fun p h1 h2 => by omega⟩, S0⟩
  case round =>
    clear S0
    obtain ⟨i, j, rfl, rfl, hg, hi, hij, hj, HI, S1⟩ := hrel
    by_cases hlt : i < j
    · have hlz : (i : Int) < (j : Int) := by omega
      obtain ⟨h, hh⟩ : ∃ h, (i + j) / 2 = h := ⟨_, rfl⟩
      have hhz : ((i : Int) + (j : Int)) / 2 = (h : Int) := by omega
      have h1 : i ≤ h := by omega
      have h2 : h < j := by omega
      by_cases hv : key d[la + lx]! < key d[h]!
      · have ea1a : ((la : Int) + (lx : Int)).toNat = la + lx := by omega
        have pa1a : (0 : Int) ≤ (la : Int) + (lx : Int) := by omega
        have ba1a : (la : Int) + (lx : Int) < (n : Int) := by omega
        have ra1a : IntKind.i64.wrap ((la : Int) + (lx : Int)) = (la : Int) + (lx : Int) := by rw [IntKind.wrap_i64]; omega
        have ea1b : ((h : Int)).toNat = h := by omega
        have pa1b : (0 : Int) ≤ (h : Int) := by omega
        have ba1b : (h : Int) < (n : Int) := by omega
        have ra1b : IntKind.i64.wrap ((h : Int)) = (h : Int) := by rw [IntKind.wrap_i64]; omega
        obtain ⟨x1, hx1⟩ : ∃ x, x = d[la + lx]! := ⟨_, rfl⟩
        obtain ⟨y1, hy1⟩ : ∃ x, x = d[h]! := ⟨_, rfl⟩
        have l1a := S1.out.ld R (by omega) Tryd.prog (la + lx) (by omega)
        have l1b := S1.out.ld R (by omega) Tryd.prog (h) (by omega)
        rw [← hx1] at l1a
        rw [← hy1] at l1b
        have hc1 := S1.out.cmp HC.out (by omega) x1 y1
        have hv1 : (cf x1 y1 < 0) := by rw [hx1, hy1, HCF.out]; exact hv
        have hd1 : decide (cf x1 y1 < 0) = true := decide_eq_true hv1
        clear hx1 hy1
        have HV := Lib.hid hv
        clear hv
        go_wp2_with fail
        go_quiet_grown (first | (go_at_fn g; refine Calls.grown_of (hc1 _ _)))
        have S2 : Aside (SWK enc k w0 blk off d (grow (wr.drewN nq) osq)) := S1.out.grown nq osq
        clear l1a l1b hc1 S1
        generalize grow (wr.drewN nq) osq = w1 at S2 ⊢
        clear nq osq
  
        go_wp2_with fail
        go_roundg (h - i)
        case measure => omega
        case rel => exact ⟨i, h, rfl, by go_num, by omega, by omega, by omega, by omega, Lib.hid ⟨HI.out.1, fun p q1 q2 => Int.lt_of_lt_of_le (by have := HV.out; rw [HX.out] at this; exact this) (HSR.out h p (by omega) q1 q2)⟩, S2⟩
      · have ea1a : ((la : Int) + (lx : Int)).toNat = la + lx := by omega
        have pa1a : (0 : Int) ≤ (la : Int) + (lx : Int) := by omega
        have ba1a : (la : Int) + (lx : Int) < (n : Int) := by omega
        have ra1a : IntKind.i64.wrap ((la : Int) + (lx : Int)) = (la : Int) + (lx : Int) := by rw [IntKind.wrap_i64]; omega
        have ea1b : ((h : Int)).toNat = h := by omega
        have pa1b : (0 : Int) ≤ (h : Int) := by omega
        have ba1b : (h : Int) < (n : Int) := by omega
        have ra1b : IntKind.i64.wrap ((h : Int)) = (h : Int) := by rw [IntKind.wrap_i64]; omega
        obtain ⟨x1, hx1⟩ : ∃ x, x = d[la + lx]! := ⟨_, rfl⟩
        obtain ⟨y1, hy1⟩ : ∃ x, x = d[h]! := ⟨_, rfl⟩
        have l1a := S1.out.ld R (by omega) Tryd.prog (la + lx) (by omega)
        have l1b := S1.out.ld R (by omega) Tryd.prog (h) (by omega)
        rw [← hx1] at l1a
        rw [← hy1] at l1b
        have hc1 := S1.out.cmp HC.out (by omega) x1 y1
        have hv1 : ¬ (cf x1 y1 < 0) := by rw [hx1, hy1, HCF.out]; exact hv
        have hd1 : decide (cf x1 y1 < 0) = false := decide_eq_false hv1
        clear hx1 hy1
        have HV := Lib.hid hv
        clear hv
        go_wp2_with fail
        go_quiet_grown (first | (go_at_fn g; refine Calls.grown_of (hc1 _ _)))
        have S2 : Aside (SWK enc k w0 blk off d (grow (wr.drewN nq) osq)) := S1.out.grown nq osq
        clear l1a l1b hc1 S1
        generalize grow (wr.drewN nq) osq = w1 at S2 ⊢
        clear nq osq
  
        go_wp2_with fail
        go_roundg (j - (h + 1))
        case measure => omega
        case rel => exact ⟨h + 1, j, by go_num, rfl, by omega, by omega, by omega, by omega, Lib.hid ⟨fun p q1 q2 => Int.le_trans (HSR.out p h q1 (by omega) (by omega)) (by have := HV.out; rw [HX.out] at this; omega), HI.out.2⟩, S2⟩
    · obtain rfl : i = j := by omega
      have hlz : ¬ ((i : Int) < (i : Int)) := by omega
      obtain ⟨X1, X2, hYe, hY1, hY2⟩ := cut_list X (i - la) (by have := HY.out; omega)
      have m1 : Mrg key (X ++ [y]) (X1 ++ y :: X2) := by
        rw [hYe]
        refine Mrg.back (by rw [← hYe]; exact HSY.out) (fun z hz => ?_) (fun z hz => ?_)
        · obtain ⟨p, p1, p2, rfl⟩ := mem_at (d := d) (P := A) (Y := X1) (R := X2 ++ (y :: C)) (by rw [HD.out, hYe]; simp) hz
          have := HA.out
          exact HI.out.1 p (by omega) (by omega)
        · obtain ⟨p, p1, p2, rfl⟩ := mem_at (d := d) (P := A ++ X1) (Y := X2) (R := y :: C) (by rw [HD.out, hYe]; simp) hz
          have := HA.out
          have := HY.out
          simp only [List.length_append, List.length_cons, List.length_nil] at p1 p2
          exact HI.out.2 p (by omega) (by omega)
      have HM := Lib.hid m1
      have HYE := Lib.hid hYe
      have HL1 := Lib.hid hY1
      have HL2 : Hid (X2.length = la + lx - i) := Lib.hid (by have := HY.out; omega)
      clear m1 hYe hY1 hY2
      go_wp2_with fail
      go_loopg [17] (la + lx + 1) (fun g1 s17 wr => ∃ (q : Nat) (W1 W2 : List α) (dk : Array α), s17 = .int .i64 q ∧ i ≤ q ∧ q ≤ la + lx ∧ q - i ≤ g1 ∧ Hid (dk.toList = A ++ (X1 ++ (W1 ++ (y :: (W2 ++ C)))) ∧ X2 = W1 ++ W2 ∧ W1.length = q - i) ∧ dk.size = n ∧ Aside (SWK enc k w0 blk off dk wr))
      case atStart => exact ⟨la + lx, X2, [], d, by go_num, by omega, by omega, by omega, Lib.hid ⟨by rw [HD.out, HYE.out]; simp, by simp, HL2.out⟩, hn, S1⟩
      case round =>
        clear S1
        obtain ⟨q, W1, W2, dk, rfl, hq, hqi, hgq, HW, hdk, S2⟩ := hrel
        by_cases hlt : i < q
        · have hqz : (i : Int) < (q : Int) := by omega
          obtain ⟨W3, u, rfl⟩ := snoc_of (l := W1) (fun e => by have := HW.out.2.2; rw [e] at this; simp at this; omega)
          obtain ⟨r, rfl⟩ : ∃ r, q = r + 1 := ⟨q - 1, by omega⟩
          have rq : IntKind.i64.wrap ((r : Int) + 1 - 1) = (r : Int) := by rw [IntKind.wrap_i64]; omega
          have rq2 : IntKind.i64.wrap (r : Int) = (r : Int) := by rw [IntKind.wrap_i64]; omega
          have hL3 : W3.length = r - i := by have := HW.out.2.2; simp at this; omega
          have ea2a : ((r : Int) + 1).toNat = r + 1 := by omega
          have pa2a : (0 : Int) ≤ (r : Int) + 1 := by omega
          have ba2a : (r : Int) + 1 < (n : Int) := by omega
          have ra2a : IntKind.i64.wrap ((r : Int) + 1) = (r : Int) + 1 := by rw [IntKind.wrap_i64]; omega
          have ea2b : ((r : Int)).toNat = r := by omega
          have pa2b : (0 : Int) ≤ (r : Int) := by omega
          have ba2b : (r : Int) < (n : Int) := by omega
          have ra2b : IntKind.i64.wrap ((r : Int)) = (r : Int) := by rw [IntKind.wrap_i64]; omega
          have S3 : Aside (SWK enc k w0 blk off (swp dk (r + 1) (r)) ((wr.drew.setCells blk (off + (r + 1) * k) (enc dk[r]!)).setCells blk (off + (r) * k) (enc dk[r + 1]!))) := S2.out.swapped R (r + 1) (r) (by omega) (by omega)
          have l2a := S2.out.ld1 R (by omega) Tryd.prog (r + 1) (by omega)
          have l2b := S2.out.ld1 R (by omega) Tryd.prog (r) (by omega)
          have s2a := S2.out.st1 R (by omega) Tryd.prog (r + 1) (by omega) dk[r]!
          have s2b := S2.out.st2 R (by omega) Tryd.prog (r + 1) (r) (by omega) (by omega) dk[r]! dk[r + 1]!
          have n2a : (enc dk[r + 1]!).length = k := R.hk _
          have n2b : (enc dk[r]!).length = k := R.hk _
          generalize enc dk[r + 1]! = cI2 at S3 l2a s2b n2a
          generalize enc dk[r]! = cJ2 at S3 l2b s2a s2b n2b
          clear S2
          go_wp2_with fail
          go_big_region_o
          clear l2a l2b s2a s2b
          generalize (wr.drew.setCells blk (off + (r + 1) * k) cJ2).setCells blk (off + (r) * k) cI2 = w3 at S3 ⊢
          go_wp2_with fail
          go_roundg (r - i)
          case measure => omega
          case rel =>
            refine ⟨r, W3, u :: W2, swp dk (r + 1) r, by go_num, by omega, by omega, by omega, Lib.hid ⟨?_, by rw [HW.out.2.1]; simp, by omega⟩, by rw [swp_size]; exact hdk, S3⟩
            rw [swp_comm2]
            have := swp_list (d := dk) (P := A ++ (X1 ++ W3)) (Q := []) (R := W2 ++ C) (u := u) (v := y) (by rw [HW.out.1]; simp) (i := r) (j := r + 1) (by have := HA.out; have := HL1.out; simp; omega) (by have := HA.out; have := HL1.out; simp; omega)
            rw [this]; simp
        · obtain rfl : q = i := by omega
          have hqz : ¬ ((q : Int) < (q : Int)) := by omega
          go_wp2_with fail
          (try simp only [Exit.inBlock, Exit.then]); refine bodyPost_ret (results_none rfl _ _ _) rfl ?_
          obtain rfl : W1 = [] := List.eq_nil_of_length_eq_zero (by have := HW.out.2.2; omega)
          refine ⟨rfl, dk, X1 ++ y :: X2, ?_, HM.out, hdk, S2.out⟩
          rw [HW.out.1, HW.out.2.1]; simp
end Go.Proofs.YtjjnhmbgffdenaaDoor
