import Derived.Test.YtjjnhmbgffdenaaDoorGag
import Derived.Test.YtjjnhmbgffdenaaDoorGad
namespace Go.Proofs.YtjjnhmbgffdenaaDoor
open Go.Shelf Go.RowKit Go.Lib Go.Sort Go.Proofs
variable {α : Type} [Inhabited α]
/-- symMergeCmpFunc merges two neighbouring ascending parts. -/
theorem symMerge_any (k : Nat) (zE : ∀ w, (Go.sizeOf 40).run Tryd.prog w = .ok k w) (enc : α → List Value) (key : α → Int) (cf : α → α → Int) (hcf : ∀ x y, cf x y < 0 ↔ key x < key y) (g : Nat) (cb : Array Value) (eg : ∀ args w, (callFunc g args).run Tryd.prog w = .ok (.enter g args) w) (blk off cap n : Nat) (d0 : Array α) (w0 : World) (hcmp : CmpLays Tryd.prog g cb enc k cf blk off n w0)
    (R : RowK enc k w0 blk off d0) (hs : d0.size = n) (hsz : n < 4611686018427387904) : ∀ N, SymOk k enc key g cb blk off cap n w0 N := by
  intro N
  induction N with
  | zero => intro A X Y C d w h1 h2; omega
  | succ N ih =>
    intro A X Y C d w h1 h2 h3 h4 h5 h6 h7 h8
    by_cases hx : X.length = 1
    · obtain ⟨x, rfl⟩ : ∃ x, X = [x] := List.length_eq_one_iff.1 hx
      exact symMerge_front k zE enc key cf hcf g cb eg blk off cap n d0 d w0 w hcmp A Y C x R hs h6 h7 h8 h3 h5 hsz
    · by_cases hy : Y.length = 1
      · obtain ⟨y, rfl⟩ : ∃ x, Y = [x] := List.length_eq_one_iff.1 hy
        exact symMerge_back k zE enc key cf hcf g cb eg blk off cap n d0 d w0 w hcmp A X C y R hs h6 h7 h8 (by omega) h4 hsz
      · exact symMerge_general k zE enc key cf hcf g cb eg blk off cap n d0 d w0 w hcmp A X Y C N ih h1 R hs h6 h7 h8 (by omega) (by omega) h4 h5 hsz
end Go.Proofs.YtjjnhmbgffdenaaDoor
namespace Go.Proofs.YtjjnhmbgffdenaaDoor
open Go.Shelf Go.RowKit Go.Lib Go.Sort Go.Proofs
variable {α : Type} [Inhabited α]
set_option maxHeartbeats 4000000 in
set_option maxRecDepth 1000000 in
/-- insertionSortCmpFunc sorts a part, stably. -/
theorem insertion_any (k : Nat) (zE : ∀ w, (Go.sizeOf 40).run Tryd.prog w = .ok k w) (enc : α → List Value) (key : α → Int) (cf : α → α → Int) (hcf : ∀ x y, cf x y < 0 ↔ key x < key y) (g : Nat) (cb : Array Value) (eg : ∀ args w, (callFunc g args).run Tryd.prog w = .ok (.enter g args) w) (blk off cap n : Nat) (d0 d : Array α) (w0 w : World) (hcmp : CmpLays Tryd.prog g cb enc k cf blk off n w0) (A X C : List α)
    (R : RowK enc k w0 blk off d0) (hs : d0.size = n) (hn : d.size = n) (S : SWK enc k w0 blk off d w) (hd : d.toList = A ++ (X ++ C)) (hsz : n < 4611686018427387904) :
    Calls Tryd.prog 70 #[.slice (some ⟨blk, off, none⟩) n cap, .int .i64 A.length, .int .i64 (A.length + X.length : Nat), .func (.func g) #[] cb] w fun e w' => e = .returned (.tuple #[]) ∧
      ∃ d' Z, d'.toList = A ++ (Z ++ C) ∧ Mrg key X Z ∧ d'.size = n ∧ SWK enc k w0 blk off d' w' := by
  have aE := aE40
  have mixed := mix40
  obtain ⟨la, hla⟩ : ∃ n, A.length = n := ⟨_, rfl⟩
  obtain ⟨lx, hlx⟩ : ∃ n, X.length = n := ⟨_, rfl⟩
  have hn2 : la + lx ≤ n := by
    have := congrArg List.length hd
    simp only [List.length_append, Array.length_toList] at this
    omega
  rw [hla, hlx]
  have HC := Lib.hid hcmp
  have HCF := Lib.hid hcf
  have HD := Lib.hid hd
  have HA := Lib.hid hla
  have HLX := Lib.hid hlx
  have S0 : Aside (SWK enc k w0 blk off d w) := S
  clear S hcmp hcf hd hla hlx
  go_enter Tryd.func70, Tryd.ntmps70
  by_cases hx0 : lx = 0
  · subst hx0
    go_wp2
    refine wp_loop_rounds 1 ?_
    rw [rounds_succ]
    go_wp2
    go_end0
    obtain rfl : X = [] := List.eq_nil_of_length_eq_zero HLX.out
    exact ⟨rfl, d, [], HD.out, ⟨List.Pairwise.nil, Sam.refl _⟩, hn, S0.out⟩
  go_wp2
  go_loopg [8] (lx + 1) (fun g1 s8 wr => ∃ (i : Nat) (X1 X2 Z1 : List α) (dk : Array α), s8 = .int .i64 i ∧ la + 1 ≤ i ∧ i ≤ la + lx ∧ la + lx - i ≤ g1 ∧ Hid (dk.toList = A ++ (Z1 ++ (X2 ++ C)) ∧ X = X1 ++ X2 ∧ X1.length = i - la ∧ Z1.length = i - la ∧ Mrg key X1 Z1) ∧ dk.size = n ∧ Aside (SWK enc k w0 blk off dk wr))
  case atStart =>
    obtain ⟨x0, X2, hX⟩ : ∃ x0 X2, X = x0 :: X2 := by
      cases X with
      | nil => exact absurd HLX.out.symm hx0
      | cons a b => exact ⟨a, b, rfl⟩
    exact ⟨la + 1, [x0], X2, [x0], d, by go_num, by omega, by omega, by omega, Lib.hid ⟨by rw [HD.out, hX]; simp, by rw [hX]; simp, by simp, by simp, ⟨List.pairwise_singleton _ _, Sam.refl _⟩⟩, hn, S0⟩
  case round =>
    clear S0
    obtain ⟨i, X1, X2, Z1, dk, rfl, hi, hib, hg, HI, hdk, S1⟩ := hrel
    by_cases hlt : i < la + lx
    · have hltz : (i : Int) < (la : Int) + (lx : Int) := by omega
      obtain ⟨y, X3, rfl⟩ : ∃ y X3, X2 = y :: X3 := by
        cases X2 with
        | nil => have e1 := congrArg List.length HI.out.2.1; have e2 := HI.out.2.2.1; have e3 := HLX.out; simp only [List.append_nil] at e1; omega
        | cons a b => exact ⟨a, b, rfl⟩
      go_wp2_with fail
      go_loopg [9] (i + 1) (fun g2 s9 wr => ∃ (j : Nat) (W1 W2 : List α) (dj : Array α), s9 = .int .i64 j ∧ la ≤ j ∧ j ≤ i ∧ j - la ≤ g2 ∧ Hid (dj.toList = A ++ (W1 ++ (y :: (W2 ++ (X3 ++ C)))) ∧ Z1 = W1 ++ W2 ∧ W1.length = j - la ∧ ∀ x ∈ W2, key y < key x) ∧ dj.size = n ∧ Aside (SWK enc k w0 blk off dj wr))
      case atStart => exact ⟨i, Z1, [], dk, rfl, by omega, Nat.le_refl _, by omega, Lib.hid ⟨by rw [HI.out.1]; simp, by simp, HI.out.2.2.2.1, fun x hx => by cases hx⟩, hdk, S1⟩
      case round =>
        clear S1
        obtain ⟨j, W1, W2, dj, rfl, hj, hji, hgj, HW, hdj, S1⟩ := hrel
        have OUT : Hid ((∀ x ∈ W1, key x ≤ key y) → ∃ Z, dj.toList = A ++ (Z ++ (X3 ++ C)) ∧ X = (X1 ++ [y]) ++ X3 ∧ (X1 ++ [y]).length = i + 1 - la ∧ Z.length = i + 1 - la ∧ Mrg key (X1 ++ [y]) Z) := Lib.hid (fun h => by
          have m := HI.out.2.2.2.2
          have sz := HI.out.2.2.2.1
          refine ⟨W1 ++ y :: W2, by rw [HW.out.1]; simp, by rw [HI.out.2.1]; simp, by have := HI.out.2.2.1; simp; omega, by rw [HW.out.2.1] at sz; simp only [List.length_append, List.length_cons] at sz ⊢; omega, ?_⟩
          rw [HW.out.2.1] at m
          have b := Mrg.back (y := y) m.srt h HW.out.2.2.2
          exact ⟨b.srt, (Sam.append m.sam (Sam.refl [y])).trans b.sam⟩)
        by_cases hja : la < j
        · obtain ⟨r, rfl⟩ : ∃ r, j = r + 1 := ⟨j - 1, by omega⟩
          have hjz : (la : Int) < (r : Int) + 1 := by omega
          obtain ⟨W3, u, rfl⟩ := snoc_of (l := W1) (fun e => by have := HW.out.2.2.1; rw [e] at this; simp at this; omega)
          have hL3 : W3.length = r - la := by have := HW.out.2.2.1; simp at this; omega
          have gy : dj[r + 1]! = y := get_at (P := A ++ (W3 ++ [u])) (R := W2 ++ (X3 ++ C)) (by rw [HW.out.1]; simp) (by have := HA.out; simp; omega)
          have gu : dj[r]! = u := get_at (P := A ++ W3) (R := y :: (W2 ++ (X3 ++ C))) (by rw [HW.out.1]; simp) (by have := HA.out; simp; omega)
          have HGY := Lib.hid gy
          have HGU := Lib.hid gu
          clear gy gu
          by_cases hv : key dj[r + 1]! < key dj[r]!
          · have ea1a : ((r : Int) + 1).toNat = r + 1 := by omega
            have pa1a : (0 : Int) ≤ (r : Int) + 1 := by omega
            have ba1a : (r : Int) + 1 < (n : Int) := by omega
            have ra1a : IntKind.i64.wrap ((r : Int) + 1) = (r : Int) + 1 := by rw [IntKind.wrap_i64]; omega
            have ea1b : ((r : Int)).toNat = r := by omega
            have pa1b : (0 : Int) ≤ (r : Int) := by omega
            have ba1b : (r : Int) < (n : Int) := by omega
            have ra1b : IntKind.i64.wrap ((r : Int)) = (r : Int) := by rw [IntKind.wrap_i64]; omega
            obtain ⟨x1, hx1⟩ : ∃ x, x = dj[r + 1]! := ⟨_, rfl⟩
            obtain ⟨y1, hy1⟩ : ∃ x, x = dj[r]! := ⟨_, rfl⟩
            have l1a := S1.out.ld R (by omega) Tryd.prog (r + 1) (by omega)
            have l1b := S1.out.ld R (by omega) Tryd.prog (r) (by omega)
            rw [← hx1] at l1a
            rw [← hy1] at l1b
            have hc1 := S1.out.cmp HC.out (by omega) x1 y1
            have hv1 : (cf x1 y1 < 0) := by rw [hx1, hy1, HCF.out]; exact hv
            have hd1 : decide (cf x1 y1 < 0) = true := decide_eq_true hv1
            clear hx1 hy1
            have HV := Lib.hid hv
            clear hv
            go_wp2_with fail
            go_quiet_grown (first | (go_at_fn g; refine Calls.grown_of (hc1 _ _)))
            have S2 : Aside (SWK enc k w0 blk off dj (grow (wr.drewN nq) osq)) := S1.out.grown nq osq
            clear l1a l1b hc1 S1
            generalize grow (wr.drewN nq) osq = w1 at S2 ⊢
            clear nq osq
  
            go_wp2_with fail
            have ea2a : ((r : Int) + 1).toNat = r + 1 := by omega
            have pa2a : (0 : Int) ≤ (r : Int) + 1 := by omega
            have ba2a : (r : Int) + 1 < (n : Int) := by omega
            have ra2a : IntKind.i64.wrap ((r : Int) + 1) = (r : Int) + 1 := by rw [IntKind.wrap_i64]; omega
            have ea2b : ((r : Int)).toNat = r := by omega
            have pa2b : (0 : Int) ≤ (r : Int) := by omega
            have ba2b : (r : Int) < (n : Int) := by omega
            have ra2b : IntKind.i64.wrap ((r : Int)) = (r : Int) := by rw [IntKind.wrap_i64]; omega
            have S3 : Aside (SWK enc k w0 blk off (swp dj (r + 1) (r)) ((w1.drew.setCells blk (off + (r + 1) * k) (enc dj[r]!)).setCells blk (off + (r) * k) (enc dj[r + 1]!))) := S2.out.swapped R (r + 1) (r) (by omega) (by omega)
            have l2a := S2.out.ld1 R (by omega) Tryd.prog (r + 1) (by omega)
            have l2b := S2.out.ld1 R (by omega) Tryd.prog (r) (by omega)
            have s2a := S2.out.st1 R (by omega) Tryd.prog (r + 1) (by omega) dj[r]!
            have s2b := S2.out.st2 R (by omega) Tryd.prog (r + 1) (r) (by omega) (by omega) dj[r]! dj[r + 1]!
            have n2a : (enc dj[r + 1]!).length = k := R.hk _
            have n2b : (enc dj[r]!).length = k := R.hk _
            generalize enc dj[r + 1]! = cI2 at S3 l2a s2b n2a
            generalize enc dj[r]! = cJ2 at S3 l2b s2a s2b n2b
            clear S2
            go_wp2_with fail
            go_big_region_o
            clear l2a l2b s2a s2b
            generalize (w1.drew.setCells blk (off + (r + 1) * k) cJ2).setCells blk (off + (r) * k) cI2 = w3 at S3 ⊢
            go_wp2_with fail
            go_roundg (r - la)
            case measure => omega
            case rel =>
              refine ⟨r, W3, u :: W2, swp dj (r + 1) r, by go_num, by omega, by omega, by omega, Lib.hid ⟨?_, by rw [HW.out.2.1]; simp, by omega, fun x hx => ?_⟩, by rw [swp_size]; exact hdj, S3⟩
              · rw [swp_comm2]
                have := swp_list (d := dj) (P := A ++ W3) (Q := []) (R := W2 ++ (X3 ++ C)) (u := u) (v := y) (by rw [HW.out.1]; simp) (i := r) (j := r + 1) (by have := HA.out; simp; omega) (by have := HA.out; simp; omega)
                rw [this]; simp
              · rcases List.mem_cons.1 hx with rfl | hx
                · have := HV.out; rw [HGY.out, HGU.out] at this; exact this
                · exact HW.out.2.2.2 x hx
          · have ea1a : ((r : Int) + 1).toNat = r + 1 := by omega
            have pa1a : (0 : Int) ≤ (r : Int) + 1 := by omega
            have ba1a : (r : Int) + 1 < (n : Int) := by omega
            have ra1a : IntKind.i64.wrap ((r : Int) + 1) = (r : Int) + 1 := by rw [IntKind.wrap_i64]; omega
            have ea1b : ((r : Int)).toNat = r := by omega
            have pa1b : (0 : Int) ≤ (r : Int) := by omega
            have ba1b : (r : Int) < (n : Int) := by omega
            have ra1b : IntKind.i64.wrap ((r : Int)) = (r : Int) := by rw [IntKind.wrap_i64]; omega
            obtain ⟨x1, hx1⟩ : ∃ x, x = dj[r + 1]! := ⟨_, rfl⟩
            obtain ⟨y1, hy1⟩ : ∃ x, x = dj[r]! := ⟨_, rfl⟩
            have l1a := S1.out.ld R (by omega) Tryd.prog (r + 1) (by omega)
            have l1b := S1.out.ld R (by omega) Tryd.prog (r) (by omega)
            rw [← hx1] at l1a
            rw [← hy1] at l1b
            have hc1 := S1.out.cmp HC.out (by omega) x1 y1
            have hv1 : ¬ (cf x1 y1 < 0) := by rw [hx1, hy1, HCF.out]; exact hv
            have hd1 : decide (cf x1 y1 < 0) = false := decide_eq_false hv1
            clear hx1 hy1
            have HV := Lib.hid hv
            clear hv
            go_wp2_with fail
            go_quiet_grown (first | (go_at_fn g; refine Calls.grown_of (hc1 _ _)))
            have S2 : Aside (SWK enc k w0 blk off dj (grow (wr.drewN nq) osq)) := S1.out.grown nq osq
            clear l1a l1b hc1 S1
            generalize grow (wr.drewN nq) osq = w1 at S2 ⊢
            clear nq osq
  
            go_wp2_with fail
            go_roundg (la + lx - (i + 1))
            case measure => omega
            case rel =>
              obtain ⟨Z, z1, z2, z3, z4, z5⟩ := OUT.out (fun x hx => by
                have e := HV.out
                rw [HGY.out, HGU.out] at e
                have m := HI.out.2.2.2.2
                rw [HW.out.2.1] at m
                rcases List.mem_append.1 hx with hx | hx
                · have := (Srt.append.1 (Srt.append.1 m.srt).1).2.2 x hx u (by simp)
                  omega
                · rw [List.mem_singleton.1 hx]; omega)
              exact ⟨i + 1, X1 ++ [y], X3, Z, dj, by go_num, by omega, by omega, by omega, Lib.hid ⟨z1, z2, z3, z4, z5⟩, hdj, S2⟩
        · obtain rfl : j = la := by omega
          have hjz : decide ((j : Int) > (j : Int)) = false := decide_eq_false (by omega)
          have hjz' : ¬ (j : Int) < (j : Int) := by omega
          obtain rfl : W1 = [] := List.eq_nil_of_length_eq_zero (by have := HW.out.2.2.1; omega)
          have S2 : Aside (SWK enc k w0 blk off dj wr.drew) := S1.out.drew
          clear S1
          go_wp2_with fail
          go_big_region_o
          all_goals go_wp2
          go_roundg (j + lx - (i + 1))
          case measure => omega
          case rel =>
            obtain ⟨Z, z1, z2, z3, z4, z5⟩ := OUT.out (fun x hx => by cases hx)
            exact ⟨i + 1, X1 ++ [y], X3, Z, dj, by go_num, by omega, by omega, by omega, Lib.hid ⟨z1, z2, z3, z4, z5⟩, hdj, S2⟩
    · obtain rfl : i = la + lx := by omega
      have hltz : ¬ ((la : Int) + (lx : Int) < (la : Int) + (lx : Int)) := by omega
      go_wp2
      go_end0
      obtain rfl : X2 = [] := List.eq_nil_of_length_eq_zero (by have e1 := congrArg List.length HI.out.2.1; have e2 := HI.out.2.2.1; have e3 := HLX.out; simp only [List.length_append] at e1; omega)
      refine ⟨rfl, dk, Z1, by rw [HI.out.1]; simp, ?_, hdk, S1.out⟩
      have := HI.out.2.2.2.2
      rw [HI.out.2.1]; simpa using this
end Go.Proofs.YtjjnhmbgffdenaaDoor
namespace Go.Proofs.YtjjnhmbgffdenaaDoor
open Go.Shelf Go.RowKit Go.Lib Go.Sort Go.Proofs
variable {α : Type} [Inhabited α]
/-- Ascending blocks of one length, one behind the other. -/
def Full (key : α → Int) (bs : Nat) (l : List α) : Prop := ∃ B : List (List α), l = B.flatten ∧ ∀ b ∈ B, b.length = bs ∧ Srt key b
/-- .. and a shorter one at the end. -/
def Blk (key : α → Int) (bs : Nat) (l : List α) : Prop := ∃ (B : List (List α)) (z : List α), l = B.flatten ++ z ∧ (∀ b ∈ B, b.length = bs ∧ Srt key b) ∧ z.length ≤ bs ∧ Srt key z
omit [Inhabited α] in
theorem Full.nil (key : α → Int) (bs : Nat) : Full key bs [] := ⟨[], rfl, fun b h => by cases h⟩
omit [Inhabited α] in
theorem Full.snoc {key : α → Int} {bs : Nat} {l b : List α} (h : Full key bs l) (hb : b.length = bs) (hs : Srt key b) : Full key bs (l ++ b) := by
  obtain ⟨B, rfl, h⟩ := h
  refine ⟨B ++ [b], by simp, fun c hc => ?_⟩
  rcases List.mem_append.1 hc with hc | hc
  · exact h c hc
  · rw [List.mem_singleton.1 hc]; exact ⟨hb, hs⟩
omit [Inhabited α] in
theorem Full.blk {key : α → Int} {bs : Nat} {l z : List α} (h : Full key bs l) (hb : z.length ≤ bs) (hs : Srt key z) : Blk key bs (l ++ z) := by
  obtain ⟨B, rfl, h⟩ := h
  exact ⟨B, z, rfl, h, hb, hs⟩
omit [Inhabited α] in
theorem Blk.two {key : α → Int} {bs : Nat} {l : List α} (h : Blk key bs l) (h0 : 0 < bs) (hl : 2 * bs ≤ l.length) : ∃ b1 b2 r, l = b1 ++ (b2 ++ r) ∧ b1.length = bs ∧ b2.length = bs ∧ Srt key b1 ∧ Srt key b2 ∧ Blk key bs r := by
  obtain ⟨B, z, rfl, hB, hz, hs⟩ := h
  match B, hB with
  | [], _ => simp at hl; omega
  | [b], hB =>
    have := hB b (by simp)
    simp only [List.flatten_cons, List.flatten_nil, List.append_nil, List.length_append] at hl
    exact ⟨b, z, [], by simp, this.1, by omega, this.2, hs, ⟨[], [], rfl, (fun b h => by cases h), by simp, List.Pairwise.nil⟩⟩
  | b :: c :: B, hB =>
    have h1 := hB b (by simp)
    have h2 := hB c (by simp)
    exact ⟨b, c, B.flatten ++ z, by simp, h1.1, h2.1, h1.2, h2.2, ⟨B, z, rfl, fun d hd => hB d (by simp [hd]), hz, hs⟩⟩
omit [Inhabited α] in
theorem Blk.one {key : α → Int} {bs : Nat} {l : List α} (h : Blk key bs l) (hl : bs < l.length) (hu : l.length < 2 * bs) : ∃ b1 r, l = b1 ++ r ∧ b1.length = bs ∧ Srt key b1 ∧ Srt key r := by
  obtain ⟨B, z, rfl, hB, hz, hs⟩ := h
  match B, hB with
  | [], _ => simp at hl; omega
  | [b], hB => exact ⟨b, z, by simp, (hB b (by simp)).1, (hB b (by simp)).2, hs⟩
  | b :: c :: B, hB =>
    have h1 := hB b (by simp)
    have h2 := hB c (by simp)
    simp only [List.flatten_cons, List.length_append] at hu
    omega
omit [Inhabited α] in
theorem Blk.srt {key : α → Int} {bs : Nat} {l : List α} (h : Blk key bs l) (h0 : 0 < bs) (hl : l.length ≤ bs) : Srt key l := by
  obtain ⟨B, z, rfl, hB, hz, hs⟩ := h
  match B, hB with
  | [], _ => simpa using hs
  | [b], hB =>
    have h1 := hB b (by simp)
    simp only [List.flatten_cons, List.flatten_nil, List.append_nil, List.length_append] at hl
    obtain rfl : z = [] := List.eq_nil_of_length_eq_zero (by omega)
    simpa using h1.2
  | b :: c :: B, hB =>
    have h1 := hB b (by simp)
    have h2 := hB c (by simp)
    simp only [List.flatten_cons, List.length_append] at hl
    omega
omit [Inhabited α] in
theorem Blk.of_srt {key : α → Int} {bs : Nat} {l : List α} (h : Srt key l) (hl : l.length ≤ bs) : Blk key bs l := ⟨[], l, rfl, (fun b h => by cases h), hl, h⟩
omit [Inhabited α] in
theorem len_arr {d : Array α} {l : List α} (h : d.toList = l) : d.size = l.length := by rw [← h]; simp

set_option maxHeartbeats 4000000 in
set_option maxRecDepth 1000000 in
/-- stableCmpFunc: ascending, the same elements, those with one key in their order. -/
theorem stable_k (k : Nat) (zE : ∀ w, (Go.sizeOf 40).run Tryd.prog w = .ok k w) (enc : α → List Value) (key : α → Int) (cf : α → α → Int) (hcf : ∀ x y, cf x y < 0 ↔ key x < key y) (g : Nat) (cb : Array Value) (eg : ∀ args w, (callFunc g args).run Tryd.prog w = .ok (.enter g args) w) (blk off cap n : Nat) (d : Array α) (w : World) (hcmp : CmpLays Tryd.prog g cb enc k cf blk off n w)
    (R : RowK enc k w blk off d) (hn : d.size = n) (hsz : n < 100000) :
    Calls Tryd.prog 67 #[.slice (some ⟨blk, off, none⟩) n cap, .int .i64 n, .func (.func g) #[] cb] w fun e w' => e = .returned (.tuple #[]) ∧
      ∃ d' : Array α, Mrg key d.toList d'.toList ∧ d'.size = n ∧ SWK enc k w blk off d' w' := by
  have S0 : Aside (SWK enc k w blk off d w) := SWK.start R.hH
  have HI := Lib.hid (fun (A X C : List α) (d1 : Array α) (w1 : World) (h1 : d1.size = n) (h2 : SWK enc k w blk off d1 w1) (h3 : d1.toList = A ++ (X ++ C)) => insertion_any k zE enc key cf hcf g cb eg blk off cap n d d1 w w1 hcmp A X C R hn h1 h2 h3 (by omega))
  have HM := Lib.hid (fun (A X Y C : List α) (d1 : Array α) (w1 : World) => symMerge_any k zE enc key cf hcf g cb eg blk off cap n d w hcmp R hn (by omega) (X.length + Y.length) A X Y C d1 w1 (Nat.le_refl _))
  clear hcmp hcf R
  go_enter Tryd.func67, Tryd.ntmps67
  go_wp2
  go_loopg [7, 8] (n + 1) (fun g1 s7 s8 wr => ∃ (a : Nat) (P Q : List α) (dk : Array α), s7 = .int .i64 a ∧ s8 = .int .i64 (a + 20 : Nat) ∧ n - a ≤ g1 ∧ a ≤ n ∧ Hid (dk.toList = P ++ Q ∧ P.length = a ∧ Full key 20 P ∧ Sam key d.toList dk.toList) ∧ dk.size = n ∧ Aside (SWK enc k w blk off dk wr))
  case atStart => exact ⟨0, [], d.toList, d, rfl, by go_num, by omega, by omega, Lib.hid ⟨rfl, rfl, Full.nil _ _, Sam.refl _⟩, hn, S0⟩
  case round =>
    clear S0
    obtain ⟨a, P, Q, dk, rfl, rfl, hg, ha, H, hdk, S1⟩ := hrel
    by_cases hb : a + 20 ≤ n
    · have hbz : (a : Int) + 20 ≤ (n : Int) := by omega
      obtain ⟨X, Q', hQ, hX, hQ'⟩ := cut_list Q 20 (by have e1 := len_arr H.out.1; have e2 := H.out.2.1; simp only [List.length_append] at e1; omega)
      have c1 := HI.out P X Q' dk wr hdk S1.out (by rw [H.out.1, hQ])
      rw [H.out.2.1, hX, show ((a + 20 : Nat) : Int) = (a : Int) + 20 by omega] at c1
      have HC1 := Lib.hid c1
      have HQ := Lib.hid hQ
      have HX := Lib.hid hX
      clear c1 hQ hX hQ' S1
      go_wp2_with (go_at_call 70; refine HC1.out.mono ?_; rintro e w2 ⟨rfl, d2, Z, t1, t2, t3, S2⟩)
      have HT := Lib.hid (And.intro t1 t2)
      have S3 : Aside (SWK enc k w blk off d2 w2) := S2
      clear t1 t2 S2 HC1
      go_wp2_with fail
      go_roundg (n - (a + 20))
      case measure => omega
      case rel =>
        have hz : Z.length = 20 := by rw [← HX.out]; exact len_mid (d := dk) (d' := d2) (A := P) (C := Q') (by rw [H.out.1, HQ.out]) HT.out.1 (by omega)
        exact ⟨a + 20, P ++ Z, Q', d2, by go_num, by go_num, by omega, by omega, Lib.hid ⟨by rw [HT.out.1]; simp, by rw [List.length_append, H.out.2.1, hz], H.out.2.2.1.snoc hz HT.out.2.srt, H.out.2.2.2.trans (by
          rw [H.out.1, HQ.out, HT.out.1]; exact (Sam.refl _).append (HT.out.2.sam.append (Sam.refl _)))⟩, t3, S3⟩
    · have hbz : ¬ ((a : Int) + 20 ≤ (n : Int)) := by omega
      have c1 := HI.out P Q [] dk wr hdk S1.out (by rw [H.out.1]; simp)
      have hQl : P.length + Q.length = n := by have e1 := len_arr H.out.1; simp only [List.length_append] at e1; omega
      rw [hQl, H.out.2.1] at c1
      have HC1 := Lib.hid c1
      have HQ := Lib.hid hQl
      clear c1 hQl S1
      go_wp2_with (go_at_call 70; refine HC1.out.mono ?_; rintro e w2 ⟨rfl, d2, Z, t1, t2, t3, S2⟩)
      have hB : Hid (Blk key 20 d2.toList ∧ Sam key d.toList d2.toList) := Lib.hid (by
        have hz : Z.length = Q.length := len_mid (d := dk) (d' := d2) (A := P) (C := []) (by rw [H.out.1]; simp) t1 (by omega)
        refine ⟨?_, H.out.2.2.2.trans ?_⟩
        · rw [t1, List.append_nil]
          exact H.out.2.2.1.blk (by have := HQ.out; have := H.out.2.1; omega) t2.srt
        · rw [H.out.1, t1, List.append_nil]; exact (Sam.refl _).append t2.sam)
      have S3 : Aside (SWK enc k w blk off d2 w2) := S2
      clear t1 t2 S2 HC1 H HQ
      go_wp2_with fail
      go_loopg [6] (n + 1) (fun g1 s6 wr => ∃ (bs : Nat) (dk : Array α), s6 = .int .i64 bs ∧ 20 ≤ bs ∧ bs ≤ n + n + 20 ∧ n - bs ≤ g1 ∧ Hid (Blk key bs dk.toList ∧ Sam key d.toList dk.toList) ∧ dk.size = n ∧ Aside (SWK enc k w blk off dk wr))
      case atStart => exact ⟨20, d2, rfl, by omega, by omega, by omega, hB, t3, S3⟩
      case round =>
        clear S3 hB
        obtain ⟨bs, de, rfl, hbs, hbu, hge, HE, hde, S1⟩ := hrel
        by_cases hlt : bs < n
        · have hlz : (bs : Int) < (n : Int) := by omega
          go_wp2_with fail
          go_loopg [7, 8] (n + 1) (fun g1 s7 s8 wr => ∃ (a : Nat) (P Q : List α) (dk : Array α), s7 = .int .i64 a ∧ s8 = .int .i64 (a + 2 * bs : Nat) ∧ n - a ≤ g1 ∧ a ≤ n ∧ Hid (dk.toList = P ++ Q ∧ P.length = a ∧ Full key (2 * bs) P ∧ Blk key bs Q ∧ Sam key d.toList dk.toList) ∧ dk.size = n ∧ Aside (SWK enc k w blk off dk wr))
          case atStart => exact ⟨0, [], de.toList, de, rfl, by go_num, by omega, by omega, Lib.hid ⟨rfl, rfl, Full.nil _ _, HE.out.1, HE.out.2⟩, hde, S1⟩
          case round =>
            clear S1 HE
            obtain ⟨a, P, Q, dk, rfl, rfl, hg, ha, H, hdk, S1⟩ := hrel
            have hQl : Hid (P.length + Q.length = n) := Lib.hid (by have e1 := len_arr H.out.1; simp only [List.length_append] at e1; omega)
            by_cases hb : a + 2 * bs ≤ n
            · have hbz : (a : Int) + 2 * (bs : Int) ≤ (n : Int) := by omega
              obtain ⟨b1, b2, Q', hQ, h1, h2, s1, s2, hB'⟩ := H.out.2.2.2.1.two (by omega) (by have := hQl.out; have := H.out.2.1; omega)
              have c1 := HM.out P b1 b2 Q' dk wr (by omega) (by omega) s1 s2 hdk S1.out (by rw [H.out.1, hQ])
              rw [H.out.2.1, h1, h2, show ((a + bs + bs : Nat) : Int) = (a : Int) + 2 * (bs : Int) by omega, show ((a + bs : Nat) : Int) = (a : Int) + (bs : Int) by omega] at c1
              have HC1 := Lib.hid c1
              have HQ := Lib.hid (And.intro hQ (And.intro h1 h2))
              have HB' := Lib.hid hB'
              clear c1 hQ h1 h2 s1 s2 hB' S1
              go_wp2_with (go_at_call 71; refine HC1.out.mono ?_; rintro e w3 ⟨rfl, d3, Z, t1, t2, t4, S2⟩)
              have HT := Lib.hid (And.intro t1 t2)
              have S3 : Aside (SWK enc k w blk off d3 w3) := S2
              clear t1 t2 S2 HC1
              go_wp2_with fail
              go_roundg (n - (a + 2 * bs))
              case measure => omega
              case rel =>
                have hz : Z.length = 2 * bs := by
                  have := len_mid (d := dk) (d' := d3) (A := P) (W := b1 ++ b2) (C := Q') (by rw [H.out.1, HQ.out.1]; simp) HT.out.1 (by omega)
                  rw [this, List.length_append, HQ.out.2.1, HQ.out.2.2]; omega
                exact ⟨a + 2 * bs, P ++ Z, Q', d3, by go_num, by go_num, by omega, by omega, Lib.hid ⟨by rw [HT.out.1]; simp, by rw [List.length_append, H.out.2.1, hz], H.out.2.2.1.snoc hz HT.out.2.srt, HB'.out, H.out.2.2.2.2.trans (by
                  rw [H.out.1, HQ.out.1, HT.out.1]
                  have := (Sam.refl (key := key) P).append (HT.out.2.sam.append (Sam.refl Q'))
                  simpa using this)⟩, t4, S3⟩
            · have hbz : ¬ ((a : Int) + 2 * (bs : Int) ≤ (n : Int)) := by omega
              by_cases hm : a + bs < n
              · have hmz : (a : Int) + (bs : Int) < (n : Int) := by omega
                obtain ⟨b1, r, hQ, h1, s1, s2⟩ := H.out.2.2.2.1.one (by have := hQl.out; have := H.out.2.1; omega) (by have := hQl.out; have := H.out.2.1; omega)
                have hr : r.length = n - (a + bs) := by have e1 := hQl.out; rw [hQ, List.length_append, h1, H.out.2.1] at e1; omega
                have c1 := HM.out P b1 r [] dk wr (by omega) (by omega) s1 s2 hdk S1.out (by rw [H.out.1, hQ]; simp)
                rw [H.out.2.1, h1, hr, show ((a + bs + (n - (a + bs)) : Nat) : Int) = (n : Int) by omega, show ((a + bs : Nat) : Int) = (a : Int) + (bs : Int) by omega] at c1
                have HC1 := Lib.hid c1
                have HQ := Lib.hid (And.intro hQ (And.intro h1 hr))
                clear c1 hQ h1 hr s1 s2 S1
                go_wp2_with (go_at_call 71; refine HC1.out.mono ?_; rintro e w3 ⟨rfl, d3, Z, t1, t2, t4, S2⟩)
                have HT := Lib.hid (And.intro t1 t2)
                have S3 : Aside (SWK enc k w blk off d3 w3) := S2
                clear t1 t2 S2 HC1
                go_wp2_with fail
                go_roundg (n - 2 * bs)
                case measure => omega
                case rel =>
                  have hz : Z.length = bs + (n - (a + bs)) := by
                    have := len_mid (d := dk) (d' := d3) (A := P) (W := b1 ++ r) (C := []) (by rw [H.out.1, HQ.out.1]; simp) HT.out.1 (by omega)
                    rw [this, List.length_append, HQ.out.2.1, HQ.out.2.2]
                  exact ⟨2 * bs, d3, by go_num, by omega, by omega, by omega, Lib.hid ⟨by
                    rw [HT.out.1, List.append_nil]; exact H.out.2.2.1.blk (by omega) HT.out.2.srt, H.out.2.2.2.2.trans (by
                    rw [H.out.1, HQ.out.1, HT.out.1, List.append_nil]
                    exact (Sam.refl _).append HT.out.2.sam)⟩, t4, S3⟩
              · have hmz : ¬ ((a : Int) + (bs : Int) < (n : Int)) := by omega
                go_wp2_with fail
                go_roundg (n - 2 * bs)
                case measure => omega
                case rel => exact ⟨2 * bs, dk, by go_num, by omega, by omega, by omega, Lib.hid ⟨by
                    rw [H.out.1]; exact H.out.2.2.1.blk (by have := hQl.out; have := H.out.2.1; omega) (H.out.2.2.2.1.srt (by omega) (by have := hQl.out; have := H.out.2.1; omega)), H.out.2.2.2.2⟩, hdk, S1⟩
        · have hlz : ¬ ((bs : Int) < (n : Int)) := by omega
          go_wp2_with fail
          go_end0
          exact ⟨rfl, de, ⟨HE.out.1.srt (by omega) (by rw [Array.length_toList]; omega), HE.out.2⟩, hde, S1.out⟩
end Go.Proofs.YtjjnhmbgffdenaaDoor
namespace Go.Proofs.YtjjnhmbgffdenaaDoor
open Go.RowKit Go.Sort

section
variable {o : Oper} {a : Act} {w : World} {K : Act → World → Prop} {Q : Exit → Act → World → Prop} {x y : Operand}

theorem step_val {v : Value} (h : (execOp a.eval o).run Tryd.prog w = .ok (.value v) w) (hK : K (a.put o.dst v) w) : o.wp Tryd.prog a w K Q := by
  unfold Oper.wp
  rw [h]
  exact hK
theorem step_valw {v : Value} {w' : World} (h : (execOp a.eval o).run Tryd.prog w = .ok (.value v) w') (hK : K (a.put o.dst v) w') : o.wp Tryd.prog a w K Q := by
  unfold Oper.wp
  rw [h]
  exact hK
theorem fa35_0 {b q : Nat} (hop : o.op = .fieldAddr 26 x 0) (hx : a.eval x = .pointer (some ⟨b, q, none⟩)) (hK : K (a.put o.dst (.pointer (some ⟨b, q, none⟩))) w) : o.wp Tryd.prog a w K Q := by
  exact step_val (by simp only [execOp, hop, hx]; go_simp) hK
theorem fa35_1 {b q : Nat} (hop : o.op = .fieldAddr 26 x 1) (hx : a.eval x = .pointer (some ⟨b, q, none⟩)) (hK : K (a.put o.dst (.pointer (some ⟨b, q + 1, none⟩))) w) : o.wp Tryd.prog a w K Q := by
  exact step_val (by simp only [execOp, hop, hx]; go_simp) hK
theorem fa26_0 {b q : Nat} (hop : o.op = .fieldAddr 38 x 0) (hx : a.eval x = .pointer (some ⟨b, q, none⟩)) (hK : K (a.put o.dst (.pointer (some ⟨b, q, none⟩))) w) : o.wp Tryd.prog a w K Q := by
  exact step_val (by simp only [execOp, hop, hx]; go_simp) hK
theorem fa26_1 {b q : Nat} (hop : o.op = .fieldAddr 38 x 1) (hx : a.eval x = .pointer (some ⟨b, q, none⟩)) (hK : K (a.put o.dst (.pointer (some ⟨b, q + 1, none⟩))) w) : o.wp Tryd.prog a w K Q := by
  exact step_val (by simp only [execOp, hop, hx]; go_simp) hK
theorem fa28_0 {b q : Nat} (hop : o.op = .fieldAddr 35 x 0) (hx : a.eval x = .pointer (some ⟨b, q, none⟩)) (hK : K (a.put o.dst (.pointer (some ⟨b, q, none⟩))) w) : o.wp Tryd.prog a w K Q := by
  exact step_val (by simp only [execOp, hop, hx]; go_simp) hK
theorem fa28_1 {b q : Nat} (hop : o.op = .fieldAddr 35 x 1) (hx : a.eval x = .pointer (some ⟨b, q, none⟩)) (hK : K (a.put o.dst (.pointer (some ⟨b, q + 1, none⟩))) w) : o.wp Tryd.prog a w K Q := by
  exact step_val (by simp only [execOp, hop, hx]; go_simp) hK
theorem ld3 {b q : Nat} {v : Value} (hop : o.op = .load 3 x) (hx : a.eval x = .pointer (some ⟨b, q, none⟩)) (hc : w.cell? ⟨b, q, none⟩ = some v) (hK : K (a.put o.dst (v)) w) : o.wp Tryd.prog a w K Q := by
  exact step_val (by simp only [execOp, hop, hx]; go_simp) hK
theorem ld5 {b q : Nat} {v : Value} (hop : o.op = .load 5 x) (hx : a.eval x = .pointer (some ⟨b, q, none⟩)) (hc : w.cell? ⟨b, q, none⟩ = some v) (hK : K (a.put o.dst (v)) w) : o.wp Tryd.prog a w K Q := by
  exact step_val (by simp only [execOp, hop, hx]; go_simp) hK
theorem ld24 {b q : Nat} {v : Value} (hop : o.op = .load 36 x) (hx : a.eval x = .pointer (some ⟨b, q, none⟩)) (hc : w.cell? ⟨b, q, none⟩ = some v) (hK : K (a.put o.dst (v)) w) : o.wp Tryd.prog a w K Q := by
  exact step_val (by simp only [execOp, hop, hx]; go_simp) hK
theorem ld29 {b q : Nat} {v : Value} (hop : o.op = .load 61 x) (hx : a.eval x = .pointer (some ⟨b, q, none⟩)) (hc : w.cell? ⟨b, q, none⟩ = some v) (hK : K (a.put o.dst (v)) w) : o.wp Tryd.prog a w K Q := by
  exact step_val (by simp only [execOp, hop, hx]; go_simp) hK
theorem ld33 {b q : Nat} {v : Value} (hop : o.op = .load 24 x) (hx : a.eval x = .pointer (some ⟨b, q, none⟩)) (hc : w.cell? ⟨b, q, none⟩ = some v) (hK : K (a.put o.dst (v)) w) : o.wp Tryd.prog a w K Q := by
  exact step_val (by simp only [execOp, hop, hx]; go_simp) hK
theorem ld37 {b q : Nat} {v : Value} (hop : o.op = .load 29 x) (hx : a.eval x = .pointer (some ⟨b, q, none⟩)) (hc : w.cell? ⟨b, q, none⟩ = some v) (hK : K (a.put o.dst (v)) w) : o.wp Tryd.prog a w K Q := by
  exact step_val (by simp only [execOp, hop, hx]; go_simp) hK
theorem ld35 {b q : Nat} {v0 v1 : Value} (hop : o.op = .load 26 x) (hx : a.eval x = .pointer (some ⟨b, q, none⟩)) (c0 : w.cell? ⟨b, q, none⟩ = some v0) (c1 : w.cell? ⟨b, q + 1, none⟩ = some v1) (hK : K (a.put o.dst (.agg #[v0, v1])) w) : o.wp Tryd.prog a w K Q := by
  exact step_val (by simp only [execOp, hop, hx]; go_simp) hK
theorem ld26 {b q : Nat} {v0 v1 : Value} (hop : o.op = .load 38 x) (hx : a.eval x = .pointer (some ⟨b, q, none⟩)) (c0 : w.cell? ⟨b, q, none⟩ = some v0) (c1 : w.cell? ⟨b, q + 1, none⟩ = some v1) (hK : K (a.put o.dst (.agg #[v0, v1])) w) : o.wp Tryd.prog a w K Q := by
  exact step_val (by simp only [execOp, hop, hx]; go_simp) hK
theorem ld28 {b q : Nat} {v0 v1 : Value} (hop : o.op = .load 35 x) (hx : a.eval x = .pointer (some ⟨b, q, none⟩)) (c0 : w.cell? ⟨b, q, none⟩ = some v0) (c1 : w.cell? ⟨b, q + 1, none⟩ = some v1) (hK : K (a.put o.dst (.agg #[v0, v1])) w) : o.wp Tryd.prog a w K Q := by
  exact step_val (by simp only [execOp, hop, hx]; go_simp) hK
theorem st_move {v : Value} (hop : o.op = .move x) (hx : a.eval x = v) (hK : K (a.put o.dst (v)) w) : o.wp Tryd.prog a w K Q := by
  exact step_val (by simp only [execOp, hop, hx]; go_simp) hK
theorem st_assign {v : Value} (hop : o.op = .assign x) (hx : a.eval x = v) (hK : K (a.put o.dst (v)) w) : o.wp Tryd.prog a w K Q := by
  exact step_val (by simp only [execOp, hop, hx]; go_simp) hK
theorem st_lss_3 {X Y : Int} (hop : o.op = .binOp .lss 3 x y 3) (hx : a.eval x = .int .i64 X) (hy : a.eval y = .int .i64 Y) (hK : K (a.put o.dst (.bool (decide (X < Y)))) w) : o.wp Tryd.prog a w K Q := by
  exact step_val (by simp only [execOp, hop, hx, hy]; go_simp) hK
theorem st_lss_5 {X Y : Int} (hop : o.op = .binOp .lss 5 x y 5) (hx : a.eval x = .int .u8 X) (hy : a.eval y = .int .u8 Y) (hK : K (a.put o.dst (.bool (decide (X < Y)))) w) : o.wp Tryd.prog a w K Q := by
  exact step_val (by simp only [execOp, hop, hx, hy]; go_simp) hK
theorem st_gtr_3 {X Y : Int} (hop : o.op = .binOp .gtr 3 x y 3) (hx : a.eval x = .int .i64 X) (hy : a.eval y = .int .i64 Y) (hK : K (a.put o.dst (.bool (decide (Y < X)))) w) : o.wp Tryd.prog a w K Q := by
  exact step_val (by simp only [execOp, hop, hx, hy]; go_simp) hK
theorem st_gtr_5 {X Y : Int} (hop : o.op = .binOp .gtr 5 x y 5) (hx : a.eval x = .int .u8 X) (hy : a.eval y = .int .u8 Y) (hK : K (a.put o.dst (.bool (decide (Y < X)))) w) : o.wp Tryd.prog a w K Q := by
  exact step_val (by simp only [execOp, hop, hx, hy]; go_simp) hK
theorem st_gtr_24 {X Y : Int} (hop : o.op = .binOp .gtr 36 x y 36) (hx : a.eval x = .int .u8 X) (hy : a.eval y = .int .u8 Y) (hK : K (a.put o.dst (.bool (decide (Y < X)))) w) : o.wp Tryd.prog a w K Q := by
  exact step_val (by simp only [execOp, hop, hx, hy]; go_simp) hK
theorem st_gtr_37 {X Y : Int} (hop : o.op = .binOp .gtr 29 x y 29) (hx : a.eval x = .int .i64 X) (hy : a.eval y = .int .i64 Y) (hK : K (a.put o.dst (.bool (decide (Y < X)))) w) : o.wp Tryd.prog a w K Q := by
  exact step_val (by simp only [execOp, hop, hx, hy]; go_simp) hK
theorem st_leq_3 {X Y : Int} (hop : o.op = .binOp .leq 3 x y 3) (hx : a.eval x = .int .i64 X) (hy : a.eval y = .int .i64 Y) (hK : K (a.put o.dst (.bool (decide (X ≤ Y)))) w) : o.wp Tryd.prog a w K Q := by
  exact step_val (by simp only [execOp, hop, hx, hy]; go_simp) hK
theorem st_leq_5 {X Y : Int} (hop : o.op = .binOp .leq 5 x y 5) (hx : a.eval x = .int .u8 X) (hy : a.eval y = .int .u8 Y) (hK : K (a.put o.dst (.bool (decide (X ≤ Y)))) w) : o.wp Tryd.prog a w K Q := by
  exact step_val (by simp only [execOp, hop, hx, hy]; go_simp) hK
theorem st_geq_3 {X Y : Int} (hop : o.op = .binOp .geq 3 x y 3) (hx : a.eval x = .int .i64 X) (hy : a.eval y = .int .i64 Y) (hK : K (a.put o.dst (.bool (decide (Y ≤ X)))) w) : o.wp Tryd.prog a w K Q := by
  exact step_val (by simp only [execOp, hop, hx, hy]; go_simp) hK
theorem st_geq_5 {X Y : Int} (hop : o.op = .binOp .geq 5 x y 5) (hx : a.eval x = .int .u8 X) (hy : a.eval y = .int .u8 Y) (hK : K (a.put o.dst (.bool (decide (Y ≤ X)))) w) : o.wp Tryd.prog a w K Q := by
  exact step_val (by simp only [execOp, hop, hx, hy]; go_simp) hK
theorem st_eql_3 {X Y : Int} (hop : o.op = .binOp .eql 3 x y 3) (hx : a.eval x = .int .i64 X) (hy : a.eval y = .int .i64 Y) (hK : K (a.put o.dst (.bool (X == Y))) w) : o.wp Tryd.prog a w K Q := by
  exact step_val (by simp only [execOp, hop, hx, hy]; go_simp) hK
theorem st_eql_5 {X Y : Int} (hop : o.op = .binOp .eql 5 x y 5) (hx : a.eval x = .int .u8 X) (hy : a.eval y = .int .u8 Y) (hK : K (a.put o.dst (.bool (X == Y))) w) : o.wp Tryd.prog a w K Q := by
  exact step_val (by simp only [execOp, hop, hx, hy]; go_simp) hK
theorem st_eql_24 {X Y : Int} (hop : o.op = .binOp .eql 36 x y 36) (hx : a.eval x = .int .u8 X) (hy : a.eval y = .int .u8 Y) (hK : K (a.put o.dst (.bool (X == Y))) w) : o.wp Tryd.prog a w K Q := by
  exact step_val (by simp only [execOp, hop, hx, hy]; go_simp) hK
theorem st_eql_37 {X Y : Int} (hop : o.op = .binOp .eql 29 x y 29) (hx : a.eval x = .int .i64 X) (hy : a.eval y = .int .i64 Y) (hK : K (a.put o.dst (.bool (X == Y))) w) : o.wp Tryd.prog a w K Q := by
  exact step_val (by simp only [execOp, hop, hx, hy]; go_simp) hK
theorem st_neq_3 {X Y : Int} (hop : o.op = .binOp .neq 3 x y 3) (hx : a.eval x = .int .i64 X) (hy : a.eval y = .int .i64 Y) (hK : K (a.put o.dst (.bool (X != Y))) w) : o.wp Tryd.prog a w K Q := by
  exact step_val (by simp only [execOp, hop, hx, hy]; go_simp) hK
theorem st_neq_5 {X Y : Int} (hop : o.op = .binOp .neq 5 x y 5) (hx : a.eval x = .int .u8 X) (hy : a.eval y = .int .u8 Y) (hK : K (a.put o.dst (.bool (X != Y))) w) : o.wp Tryd.prog a w K Q := by
  exact step_val (by simp only [execOp, hop, hx, hy]; go_simp) hK
theorem st_neq_24 {X Y : Int} (hop : o.op = .binOp .neq 36 x y 36) (hx : a.eval x = .int .u8 X) (hy : a.eval y = .int .u8 Y) (hK : K (a.put o.dst (.bool (X != Y))) w) : o.wp Tryd.prog a w K Q := by
  exact step_val (by simp only [execOp, hop, hx, hy]; go_simp) hK
theorem st_neq_37 {X Y : Int} (hop : o.op = .binOp .neq 29 x y 29) (hx : a.eval x = .int .i64 X) (hy : a.eval y = .int .i64 Y) (hK : K (a.put o.dst (.bool (X != Y))) w) : o.wp Tryd.prog a w K Q := by
  exact step_val (by simp only [execOp, hop, hx, hy]; go_simp) hK
theorem st_add_3 {X Y Z : Int} (hop : o.op = .binOp .add 3 x y 3) (hx : a.eval x = .int .i64 X) (hy : a.eval y = .int .i64 Y) (hz : IntKind.i64.wrap (X + Y) = Z) (hK : K (a.put o.dst (.int .i64 Z)) w) : o.wp Tryd.prog a w K Q := by
  exact step_val (by simp only [execOp, hop, hx, hy]; go_simp) hK
theorem st_add_5 {X Y Z : Int} (hop : o.op = .binOp .add 5 x y 5) (hx : a.eval x = .int .u8 X) (hy : a.eval y = .int .u8 Y) (hz : IntKind.u8.wrap (X + Y) = Z) (hK : K (a.put o.dst (.int .u8 Z)) w) : o.wp Tryd.prog a w K Q := by
  exact step_val (by simp only [execOp, hop, hx, hy]; go_simp) hK
theorem st_sub_3 {X Y Z : Int} (hop : o.op = .binOp .sub 3 x y 3) (hx : a.eval x = .int .i64 X) (hy : a.eval y = .int .i64 Y) (hz : IntKind.i64.wrap (X - Y) = Z) (hK : K (a.put o.dst (.int .i64 Z)) w) : o.wp Tryd.prog a w K Q := by
  exact step_val (by simp only [execOp, hop, hx, hy]; go_simp) hK
theorem st_sub_5 {X Y Z : Int} (hop : o.op = .binOp .sub 5 x y 5) (hx : a.eval x = .int .u8 X) (hy : a.eval y = .int .u8 Y) (hz : IntKind.u8.wrap (X - Y) = Z) (hK : K (a.put o.dst (.int .u8 Z)) w) : o.wp Tryd.prog a w K Q := by
  exact step_val (by simp only [execOp, hop, hx, hy]; go_simp) hK
theorem st_rem40 {X : Int} (hop : o.op = .binOp .rem 5 x y 5) (hx : a.eval x = .int .u8 X) (hy : a.eval y = .int .u8 40) (hK : K (a.put o.dst (.int .u8 (X.tmod 40))) w) : o.wp Tryd.prog a w K Q := by
  exact step_val (by simp only [execOp, hop, hx, hy]; go_simp) hK
theorem st_conv35 {X Z : Int} (hop : o.op = .convert 3 5 x) (hx : a.eval x = .int .i64 X) (hz : IntKind.u8.wrap X = Z) (hK : K (a.put o.dst (.int .u8 Z)) w) : o.wp Tryd.prog a w K Q := by
  exact step_val (by simp only [execOp, hop, hx]; go_simp) hK
theorem st_eql_26 {p q p' q' : Int} {r : Bool} (hop : o.op = .binOp .eql 38 x y 38) (hx : a.eval x = .agg #[.int .u8 p, .int .i64 q]) (hy : a.eval y = .agg #[.int .u8 p', .int .i64 q']) (hr : sameNm p q p' q' = r) (hK : K (a.put o.dst (.bool (r))) w) : o.wp Tryd.prog a w K Q := by
  have e := fun w => eql26 hr w
  exact step_val (by simp only [execOp, hop, hx, hy]; go_simp) hK
theorem st_neq_26 {p q p' q' : Int} {r : Bool} (hop : o.op = .binOp .neq 38 x y 38) (hx : a.eval x = .agg #[.int .u8 p, .int .i64 q]) (hy : a.eval y = .agg #[.int .u8 p', .int .i64 q']) (hr : sameNm p q p' q' = r) (hK : K (a.put o.dst (.bool (!r))) w) : o.wp Tryd.prog a w K Q := by
  have e := fun w => neq26 hr w
  exact step_val (by simp only [execOp, hop, hx, hy]; go_simp) hK
theorem st_eql_28 {p q p' q' : Int} {r : Bool} (hop : o.op = .binOp .eql 35 x y 35) (hx : a.eval x = .agg #[.int .u8 p, .int .i64 q]) (hy : a.eval y = .agg #[.int .u8 p', .int .i64 q']) (hr : sameNm p q p' q' = r) (hK : K (a.put o.dst (.bool (r))) w) : o.wp Tryd.prog a w K Q := by
  have e := fun w => eql28 hr w
  exact step_val (by simp only [execOp, hop, hx, hy]; go_simp) hK
theorem st_neq_28 {p q p' q' : Int} {r : Bool} (hop : o.op = .binOp .neq 35 x y 35) (hx : a.eval x = .agg #[.int .u8 p, .int .i64 q]) (hy : a.eval y = .agg #[.int .u8 p', .int .i64 q']) (hr : sameNm p q p' q' = r) (hK : K (a.put o.dst (.bool (!r))) w) : o.wp Tryd.prog a w K Q := by
  have e := fun w => neq28 hr w
  exact step_val (by simp only [execOp, hop, hx, hy]; go_simp) hK
theorem st_eql_4 {c d : Bool} (hop : o.op = .binOp .eql 4 x y 4) (hx : a.eval x = .bool c) (hy : a.eval y = .bool d) (hK : K (a.put o.dst (.bool (c == d))) w) : o.wp Tryd.prog a w K Q := by
  exact step_val (by simp only [execOp, hop, hx, hy]; go_simp) hK
theorem st_not {c : Bool} (hop : o.op = .unOp .not 4 x) (hx : a.eval x = .bool c) (hK : K (a.put o.dst (.bool (!c))) w) : o.wp Tryd.prog a w K Q := by
  exact step_val (by simp only [execOp, hop, hx]; go_simp) hK
theorem st_or {c d : Bool} (hop : o.op = .pick x (.const (.bool true)) y) (hx : a.eval x = .bool c) (hy : c = false → a.eval y = .bool d) (hK : K (a.put o.dst (.bool (c || d))) w) : o.wp Tryd.prog a w K Q := by
  cases c
  · have hy' := hy rfl
    exact step_val (by simp only [execOp, hop, hx, hy']; go_simp) hK
  · exact step_val (by simp only [execOp, hop, hx]; go_simp) hK
theorem st_and {c d : Bool} (hop : o.op = .pick x y (.const (.bool false))) (hx : a.eval x = .bool c) (hy : c = true → a.eval y = .bool d) (hK : K (a.put o.dst (.bool (c && d))) w) : o.wp Tryd.prog a w K Q := by
  cases c
  · exact step_val (by simp only [execOp, hop, hx]; go_simp) hK
  · have hy' := hy rfl
    exact step_val (by simp only [execOp, hop, hx, hy']; go_simp) hK
theorem len29 {t : Tmp} {ao : Option Addr} {n cap : Nat} (hop : o.op = .call { callee := .builtin .len, args := #[.tmp t], argTypes := #[61] }) (hv : a.eval (.tmp t) = .slice ao n cap) (hK : K (a.put o.dst (.int .i64 n)) w) : o.wp Tryd.prog a w K Q := by
  have e : a.tmps[t]?.getD undef = .slice ao n cap := by simpa [Act.eval] using hv
  clear hv
  unfold Oper.wp
  simp only [execOp, hop, resolve]
  go_simp
  exact hK
theorem len33 {t : Tmp} {ao : Option Addr} {n cap : Nat} (hop : o.op = .call { callee := .builtin .len, args := #[.tmp t], argTypes := #[24] }) (hv : a.eval (.tmp t) = .slice ao n cap) (hK : K (a.put o.dst (.int .i64 n)) w) : o.wp Tryd.prog a w K Q := by
  have e : a.tmps[t]?.getD undef = .slice ao n cap := by simpa [Act.eval] using hv
  clear hv
  unfold Oper.wp
  simp only [execOp, hop, resolve]
  go_simp
  exact hK
theorem st_idx31 {b k : Nat} (hop : o.op = .indexAddr 65 x y) (hx : a.eval x = .pointer (some ⟨b, 0, none⟩)) (hy : a.eval y = .int .i64 k) (hk : k < 80) (hK : K (a.put o.dst (.pointer (some ⟨b, k, none⟩))) w) : o.wp Tryd.prog a w K Q := by
  have h1 : (k : Int) < 80 := by omega
  have h2 : (0 : Int) ≤ k := by omega
  exact step_val (by simp only [execOp, hop, hx, hy]; go_simp) hK
theorem st_nilCheck {b q : Nat} (hop : o.op = .nilCheck x) (hx : a.eval x = .pointer (some ⟨b, q, none⟩)) (hK : K (a.put o.dst (.pointer (some ⟨b, q, none⟩))) w) : o.wp Tryd.prog a w K Q := by
  exact step_val (by simp only [execOp, hop, hx]; go_simp) hK
theorem step_extract {t : Tmp} {i : Nat} {xs : Array Value} {v : Value} (hop : o.op = .extract (.tmp t) i) (hv : a.eval (.tmp t) = .tuple xs) (hx : xs[i]? = some v) (hK : K (a.put o.dst v) w) : o.wp Tryd.prog a w K Q := by
  have e : a.tmps[t]?.getD undef = .tuple xs := by simpa [Act.eval] using hv
  clear hv
  unfold Oper.wp
  simp only [execOp, hop]
  go_simp
  simpa [hx, Act.put] using hK
theorem step_calls {f : FuncId} {xs : Array Operand} {Ts : Array TypeId} {vs : Array Value} (hop : o.op = .call { callee := .value (.func f), args := xs, argTypes := Ts }) (he : ∀ args w, (callFunc f args).run Tryd.prog w = .ok (.enter f args) w) (hv : xs.map a.eval = vs)
    (hc : Calls Tryd.prog f vs w fun e w' => ∃ u, e = .returned u ∧ K (a.put o.dst u) w') : o.wp Tryd.prog a w K Q := by
  obtain ⟨dst, op, type, pos, after, guard⟩ := o
  simp only at hop
  subst hop
  unfold Oper.wp
  rw [execOp_call_go]
  have e : (#[] ++ Array.map a.eval xs ++ #[] : Array Value) = vs := by simp [hv]
  rw [e, he]
  simp only [Oper.upon]
  refine hc.mono fun x w' hx => ?_
  obtain ⟨u, rfl, hK⟩ := hx
  exact hK
theorem st_mk0 {n : Nat} (hop : o.op = .makeSlice 61 (.const (.int .i64 0)) y) (hy : a.eval y = .int .i64 n) (hn : n ≤ 100) (hK : K (a.put o.dst (.slice (some ⟨w.heap.size, 0, none⟩) 0 n)) (w.alloc (.cells (rowNew n) 35))) : o.wp Tryd.prog a w K Q := by
  have hmk := run_mk0 (n : Int) n rfl (by omega) w
  exact step_valw (by simp only [execOp, hop, hy]; go_simp) hK
theorem st_bs0 (hop : o.op = .buildSlice 61 0 #[]) (hK : K (a.put o.dst (.slice (some ⟨w.heap.size, 0, none⟩) 0 0)) (w.alloc (.cells #[] 35))) : o.wp Tryd.prog a w K Q := by
  exact step_valw (by simp only [execOp, hop]; go_simp) hK
theorem step_append {s t : Tmp} {B B' n : Nat} {v : Value} {xs : List Nm} (hop : o.op = Op.call { callee := Callee.builtin Builtin.append, args := #[.tmp s, .tmp t], argTypes := #[61, 61] })
    (hs : a.eval (.tmp s) = v) (hown : w.ownsRow B 35 2 v n (cellsOf xs)) (c : Cel) (hx : a.eval (.tmp t) = c.v) (hl : c.ok B' w) (h1 : n ≤ 1000000) (hbase : B ≤ w.heap.size)
    (hK : ∀ v' w', w'.ownsRow B 35 2 v' (n + c.l.length) (cellsOf (xs ++ c.l)) → w.grownBy w' v.ownBlock → K (a.put o.dst v') w') : o.wp Tryd.prog a w K Q := by
  obtain ⟨v', w', hr, h2, h3⟩ := run_append_cel w B B' o.type v n xs hown c hl h1 hbase
  unfold Oper.wp execOp
  simp only [hop, resolve, invoke, builtin, Sem.run_bind, Sem.run_pure, Result.andThen_ok, List.map_toArray, List.map_cons, List.map_nil, hs, hx, hr]
  exact hK v' w' h2 h3
theorem wpList_append_cel {ops : Array Oper} {rest : List Oper} {s t : Tmp} {B B' n : Nat} {v : Value} {xs : List Nm} (hg : o.guard = none) (hop : o.op = Op.call { callee := Callee.builtin Builtin.append, args := #[.tmp s, .tmp t], argTypes := #[61, 61] })
    (hs : a.eval (.tmp s) = v) (hown : w.ownsRow B 35 2 v n (cellsOf xs)) (c : Cel) (hx : a.eval (.tmp t) = c.v) (hl : c.ok B' w) (h1 : n ≤ 1000000) (hbase : B ≤ w.heap.size)
    (hK : ∀ v' w', w'.ownsRow B 35 2 v' (n + c.l.length) (cellsOf (xs ++ c.l)) → w.grownBy w' v.ownBlock → wpList Tryd.prog ops Q rest (a.put o.dst v') w') : wpList Tryd.prog ops Q (o :: rest) a w := by
  refine wpList_plain hg fun K hK' => ?_
  obtain ⟨v', w', hr, h2, h3⟩ := run_append_cel w B B' o.type v n xs hown c hl h1 hbase
  unfold Oper.wp execOp
  simp only [hop, resolve, invoke, builtin, Sem.run_bind, Sem.run_pure, Result.andThen_ok, List.map_toArray, List.map_cons, List.map_nil, hs, hx, hr]
  exact hK' _ _ (hK v' w' h2 h3)
theorem wanted_of {ops : Array Oper} {o o' : Oper} {tmps : Array Value} {j : Nat} {b : Bool} {d : Tmp} (hg : o.guard = some (j, b)) (ho : ops[j]? = some o') (hd : o'.dst = some d) (hlt : d < tmps.size) (hv : tmps.getD d undef = .bool b) : Region.wanted o (yielded ops tmps) = true := by
  have h1 : tmps[d]? = some (.bool b) := by
    rw [Array.getElem?_eq_getElem hlt]
    simp only [Array.getD_eq_getD_getElem?, Array.getElem?_eq_getElem hlt, Option.getD_some] at hv
    rw [hv]
  have h2 : ((some o').bind (·.dst)).bind (tmps[·]?) = some (.bool b) := by
    show (o'.dst).bind (tmps[·]?) = some (.bool b)
    rw [hd]; exact h1
  simp only [Region.wanted, hg, yielded, ho]
  rw [h2]
  simp
end
def layAt (f : Nat → Bool) (u : Nat → Value) : Nat → List Value → List Value
  | _, [] => []
  | k, x :: r => (if f k = true then u k else x) :: layAt f u (k + 1) r
theorem layAt_length (f : Nat → Bool) (u : Nat → Value) : ∀ (l : List Value) (k : Nat), (layAt f u k l).length = l.length := by
  intro l
  induction l with
  | nil => intro k; rfl
  | cons x l ih => intro k; simp [layAt, ih]
theorem layAt_get (f : Nat → Bool) (u : Nat → Value) : ∀ (l : List Value) (k i : Nat) (h : i < l.length), (layAt f u k l)[i]? = some (if f (k + i) = true then u (k + i) else l[i]) := by
  intro l
  induction l with
  | nil => intro k i h; simp at h
  | cons x l ih =>
    intro k i h
    cases i with
    | zero => simp [layAt]
    | succ i =>
      have := ih (k + 1) i (by simpa using h)
      simp only [layAt, List.getElem?_cons_succ, List.getElem_cons_succ]
      rw [this, show k + 1 + i = k + (i + 1) by omega]
theorem frameAt (dsts : List (Option Tmp)) (A0 : List Value) (tmps : Array Value) (hs : tmps.size = A0.length) (h : ∀ s, dsts.contains (some s) = false → tmps.getD s undef = A0.toArray.getD s undef) :
    tmps = (layAt (fun s => dsts.contains (some s)) (fun s => tmps.getD s undef) 0 A0).toArray := by
  apply Array.ext_getElem?
  intro i
  by_cases hi' : i < tmps.size
  · have hl : i < A0.length := by omega
    have h2 : ((layAt (fun s => dsts.contains (some s)) (fun s => tmps.getD s undef) 0 A0).toArray)[i]? = some (if dsts.contains (some (0 + i)) = true then tmps.getD (0 + i) undef else A0[i]) := by
      rw [List.getElem?_toArray]; exact layAt_get _ _ _ _ _ hl
    rw [h2, Array.getElem?_eq_getElem hi']
    rw [Nat.zero_add]
    cases hc : dsts.contains (some i) with
    | true => rw [if_pos rfl]; simp [hi']
    | false =>
      rw [if_neg (by simp)]
      have := h i hc
      simp [hi', hl] at this
      rw [this]
  · rw [Array.getElem?_eq_none (by omega), Array.getElem?_eq_none (by simp [layAt_length]; omega)]
theorem enter9 (args : Array Value) (w : World) : (callFunc 21 args).run Tryd.prog w = .ok (.enter 21 args) w := by kernel_rfl
theorem enter12 (args : Array Value) (w : World) : (callFunc 30 args).run Tryd.prog w = .ok (.enter 30 args) w := by kernel_rfl
theorem enter13 (args : Array Value) (w : World) : (callFunc 28 args).run Tryd.prog w = .ok (.enter 28 args) w := by kernel_rfl
theorem enter26 (args : Array Value) (w : World) : (callFunc 57 args).run Tryd.prog w = .ok (.enter 57 args) w := by kernel_rfl
theorem enter27 (args : Array Value) (w : World) : (callFunc 58 args).run Tryd.prog w = .ok (.enter 58 args) w := by kernel_rfl
theorem vals1 {a : Act} {s : Tmp} {x : Value} (h1 : a.eval (.tmp s) = x) : Array.map a.eval #[.tmp s] = #[x] := by
  simp only [List.map_toArray, List.map_cons, List.map_nil, h1]
theorem vals2 {a : Act} {s t : Tmp} {x y : Value} (h1 : a.eval (.tmp s) = x) (h2 : a.eval (.tmp t) = y) : Array.map a.eval #[.tmp s, .tmp t] = #[x, y] := by
  simp only [List.map_toArray, List.map_cons, List.map_nil, h1, h2]
theorem vals3 {a : Act} {s t r : Tmp} {x y z : Value} (h1 : a.eval (.tmp s) = x) (h2 : a.eval (.tmp t) = y) (h3 : a.eval (.tmp r) = z) : Array.map a.eval #[.tmp s, .tmp t, .tmp r] = #[x, y, z] := by
  simp only [List.map_toArray, List.map_cons, List.map_nil, h1, h2, h3]
end Go.Proofs.YtjjnhmbgffdenaaDoor
