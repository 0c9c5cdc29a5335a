import Derived.Test.YtjjnhmbgffdenaaDoorGab
import Derived.WalkKit
import Derived.WalkSpells
import Derived.WalkLawsBesides
import Derived.Lib.Hide
import Derived.Lib.QuietBelow
import Derived.BigQuiet
import Derived.Deep.LoopGhost
import Derived.Outline
import Derived.Test.YtjjnhmbgffdenaaDoorProg
import Derived.Deep.RegionHeld3
namespace Go.Proofs.YtjjnhmbgffdenaaDoor
open Go.Shelf Go.RowKit Go.Lib Go.Sort Go.Proofs
variable {α : Type} [Inhabited α]
/-- symMergeCmpFunc merges two neighbouring ascending parts. -/
theorem symMerge_any (k : Nat) (zE : ∀ w, (Go.sizeOf 40).run Tryd.prog w = .ok k w) (enc : α → List Value) (key : α → Int) (cf : α → α → Int) (hcf : ∀ x y, cf x y < 0 ↔ key x < key y) (g : Nat) (cb : Array Value) (eg : ∀ args w, (callFunc g args).run Tryd.prog w = .ok (.enter g args) w) (blk off cap n : Nat) (d0 : Array α) (w0 : World) (hcmp : CmpLays Tryd.prog g cb enc k cf blk off n w0)
    (R : RowK enc k w0 blk off d0) (hs : d0.size = n) (hsz : n < 4611686018427387904) : ∀ N, SymOk k enc key g cb blk off cap n w0 N := by
  intro N
  induction N with
  | zero => intro A X Y C d w h1 h2; omega
  | succ N ih =>
    intro A X Y C d w h1 h2 h3 h4 h5 h6 h7 h8
    by_cases hx : X.length = 1
    · obtain ⟨x, rfl⟩ : ∃ x, X = [x] := List.length_eq_one_iff.1 hx
      exact symMerge_front k zE enc key cf hcf g cb eg blk off cap n d0 d w0 w hcmp A Y C x R hs h6 h7 h8 h3 h5 hsz
    · by_cases hy : Y.length = 1
      · obtain ⟨y, rfl⟩ : ∃ x, Y = [x] := List.length_eq_one_iff.1 hy
        exact symMerge_back k zE enc key cf hcf g cb eg blk off cap n d0 d w0 w hcmp A X C y R hs h6 h7 h8 (by omega) h4 hsz
      · exact symMerge_general k zE enc key cf hcf g cb eg blk off cap n d0 d w0 w hcmp A X Y C N ih h1 R hs h6 h7 h8 (by omega) (by omega) h4 h5 hsz
end Go.Proofs.YtjjnhmbgffdenaaDoor
namespace Go.Proofs.YtjjnhmbgffdenaaDoor
open Go.Shelf Go.RowKit Go.Lib Go.Sort Go.Proofs
variable {α : Type} [Inhabited α]
set_option maxHeartbeats 4000000 in
set_option maxRecDepth 1000000 in
/-- insertionSortCmpFunc sorts a part, stably. -/
theorem insertion_any (k : Nat) (zE : ∀ w, (Go.sizeOf 40).run Tryd.prog w = .ok k w) (enc : α → List Value) (key : α → Int) (cf : α → α → Int) (hcf : ∀ x y, cf x y < 0 ↔ key x < key y) (g : Nat) (cb : Array Value) (eg : ∀ args w, (callFunc g args).run Tryd.prog w = .ok (.enter g args) w) (blk off cap n : Nat) (d0 d : Array α) (w0 w : World) (hcmp : CmpLays Tryd.prog g cb enc k cf blk off n w0) (A X C : List α)
    (R : RowK enc k w0 blk off d0) (hs : d0.size = n) (hn : d.size = n) (S : SWK enc k w0 blk off d w) (hd : d.toList = A ++ (X ++ C)) (hsz : n < 4611686018427387904) :
    Calls Tryd.prog 70 #[.slice (some ⟨blk, off, none⟩) n cap, .int .i64 A.length, .int .i64 (A.length + X.length : Nat), .func (.func g) #[] cb] w fun e w' => e = .returned (.tuple #[]) ∧
      ∃ d' Z, d'.toList = A ++ (Z ++ C) ∧ Mrg key X Z ∧ d'.size = n ∧ SWK enc k w0 blk off d' w' := by
  have aE := aE40
  have mixed := mix40
  obtain ⟨la, hla⟩ : ∃ n, A.length = n := ⟨_, rfl⟩
  obtain ⟨lx, hlx⟩ : ∃ n, X.length = n := ⟨_, rfl⟩
  have hn2 : la + lx ≤ n := by
    have := congrArg List.length hd
    simp only [List.length_append, Array.length_toList] at this
    omega
  rw [hla, hlx]
  have HC := Lib.hid hcmp
  have HCF := Lib.hid hcf
  have HD := Lib.hid hd
  have HA := Lib.hid hla
  have HLX := Lib.hid hlx
  have S0 : Aside (SWK enc k w0 blk off d w) := S
  clear S hcmp hcf hd hla hlx
  go_enter Tryd.func70, Tryd.ntmps70
  by_cases hx0 : lx = 0
  · subst hx0
    go_wp2
    refine wp_loop_rounds 1 ?_
    rw [rounds_succ]
    go_wp2
    go_end0
    obtain rfl : X = [] := List.eq_nil_of_length_eq_zero HLX.out
    exact ⟨rfl, d, [], HD.out, ⟨List.Pairwise.nil, Sam.refl _⟩, hn, S0.out⟩
  go_wp2
  go_loopg [8] (lx + 1) (fun g1 s8 wr => ∃ (i : Nat) (X1 X2 Z1 : List α) (dk : Array α), s8 = .int .i64 i ∧ la + 1 ≤ i ∧ i ≤ la + lx ∧ la + lx - i ≤ g1 ∧ Hid (dk.toList = A ++ (Z1 ++ (X2 ++ C)) ∧ X = X1 ++ X2 ∧ X1.length = i - la ∧ Z1.length = i - la ∧ Mrg key X1 Z1) ∧ dk.size = n ∧ Aside (SWK enc k w0 blk off dk wr))
  case atStart =>
    obtain ⟨x0, X2, hX⟩ : ∃ x0 X2, X = x0 :: X2 := by
      cases X with
      | nil => exact absurd HLX.out.symm hx0
      | cons a b => exact ⟨a, b, rfl⟩
    exact ⟨la + 1, [x0], X2, [x0], d, by go_num, by omega, by omega, by omega, Lib.hid ⟨by rw [HD.out, hX]; simp, by rw [hX]; simp, by simp, by simp, ⟨List.pairwise_singleton _ _, Sam.refl _⟩⟩, hn, S0⟩
  case round =>
    clear S0
    obtain ⟨i, X1, X2, Z1, dk, rfl, hi, hib, hg, HI, hdk, S1⟩ := hrel
    by_cases hlt : i < la + lx
    · have hltz : (i : Int) < (la : Int) + (lx : Int) := by omega
      obtain ⟨y, X3, rfl⟩ : ∃ y X3, X2 = y :: X3 := by
        cases X2 with
        | nil => have e1 := congrArg List.length HI.out.2.1; have e2 := HI.out.2.2.1; have e3 := HLX.out; simp only [List.append_nil] at e1; omega
        | cons a b => exact ⟨a, b, rfl⟩
      go_wp2_with fail
      go_loopg [9] (i + 1) (fun g2 s9 wr => ∃ (j : Nat) (W1 W2 : List α) (dj : Array α), s9 = .int .i64 j ∧ la ≤ j ∧ j ≤ i ∧ j - la ≤ g2 ∧ Hid (dj.toList = A ++ (W1 ++ (y :: (W2 ++ (X3 ++ C)))) ∧ Z1 = W1 ++ W2 ∧ W1.length = j - la ∧ ∀ x ∈ W2, key y < key x) ∧ dj.size = n ∧ Aside (SWK enc k w0 blk off dj wr))
      case atStart => exact ⟨i, Z1, [], dk, rfl, by omega, Nat.le_refl _, by omega, Lib.hid ⟨by rw [HI.out.1]; simp, by simp, HI.out.2.2.2.1, fun x hx => by cases hx⟩, hdk, S1⟩
      case round =>
        clear S1
        obtain ⟨j, W1, W2, dj, rfl, hj, hji, hgj, HW, hdj, S1⟩ := hrel
        have OUT : Hid ((∀ x ∈ W1, key x ≤ key y) → ∃ Z, dj.toList = A ++ (Z ++ (X3 ++ C)) ∧ X = (X1 ++ [y]) ++ X3 ∧ (X1 ++ [y]).length = i + 1 - la ∧ Z.length = i + 1 - la ∧ Mrg key (X1 ++ [y]) Z) := Lib.hid (fun h => by
          have m := HI.out.2.2.2.2
          have sz := HI.out.2.2.2.1
          refine ⟨W1 ++ y :: W2, by rw [HW.out.1]; simp, by rw [HI.out.2.1]; simp, by have := HI.out.2.2.1; simp; omega, by rw [HW.out.2.1] at sz; simp only [List.length_append, List.length_cons] at sz ⊢; omega, ?_⟩
          rw [HW.out.2.1] at m
          have b := Mrg.back (y := y) m.srt h HW.out.2.2.2
          exact ⟨b.srt, (Sam.append m.sam (Sam.refl [y])).trans b.sam⟩)
        by_cases hja : la < j
        · obtain ⟨r, rfl⟩ : ∃ r, j = r + 1 := ⟨j - 1, by omega⟩
          have hjz : (la : Int) < (r : Int) + 1 := by omega
          obtain ⟨W3, u, rfl⟩ := snoc_of (l := W1) (fun e => by have := HW.out.2.2.1; rw [e] at this; simp at this; omega)
          have hL3 : W3.length = r - la := by have := HW.out.2.2.1; simp at this; omega
          have gy : dj[r + 1]! = y := get_at (P := A ++ (W3 ++ [u])) (R := W2 ++ (X3 ++ C)) (by rw [HW.out.1]; simp) (by have := HA.out; simp; omega)
          have gu : dj[r]! = u := get_at (P := A ++ W3) (R := y :: (W2 ++ (X3 ++ C))) (by rw [HW.out.1]; simp) (by have := HA.out; simp; omega)
          have HGY := Lib.hid gy
          have HGU := Lib.hid gu
          clear gy gu
          by_cases hv : key dj[r + 1]! < key dj[r]!
          · have ea1a : ((r : Int) + 1).toNat = r + 1 := by omega
            have pa1a : (0 : Int) ≤ (r : Int) + 1 := by omega
            have ba1a : (r : Int) + 1 < (n : Int) := by omega
            have ra1a : IntKind.i64.wrap ((r : Int) + 1) = (r : Int) + 1 := by rw [IntKind.wrap_i64]; omega
            have ea1b : ((r : Int)).toNat = r := by omega
            have pa1b : (0 : Int) ≤ (r : Int) := by omega
            have ba1b : (r : Int) < (n : Int) := by omega
            have ra1b : IntKind.i64.wrap ((r : Int)) = (r : Int) := by rw [IntKind.wrap_i64]; omega
            obtain ⟨x1, hx1⟩ : ∃ x, x = dj[r + 1]! := ⟨_, rfl⟩
            obtain ⟨y1, hy1⟩ : ∃ x, x = dj[r]! := ⟨_, rfl⟩
            have l1a := S1.out.ld R (by omega) Tryd.prog (r + 1) (by omega)
            have l1b := S1.out.ld R (by omega) Tryd.prog (r) (by omega)
            rw [← hx1] at l1a
            rw [← hy1] at l1b
            have hc1 := S1.out.cmp HC.out (by omega) x1 y1
            have hv1 : (cf x1 y1 < 0) := by rw [hx1, hy1, HCF.out]; exact hv
            have hd1 : decide (cf x1 y1 < 0) = true := decide_eq_true hv1
            clear hx1 hy1
            have HV := Lib.hid hv
            clear hv
            go_wp2_with fail
            go_quiet_grown (first | (go_at_fn g; refine Calls.grown_of (hc1 _ _)))
            have S2 : Aside (SWK enc k w0 blk off dj (grow (wr.drewN nq) osq)) := S1.out.grown nq osq
            clear l1a l1b hc1 S1
            generalize grow (wr.drewN nq) osq = w1 at S2 ⊢
            clear nq osq
  
            go_wp2_with fail
            have ea2a : ((r : Int) + 1).toNat = r + 1 := by omega
            have pa2a : (0 : Int) ≤ (r : Int) + 1 := by omega
            have ba2a : (r : Int) + 1 < (n : Int) := by omega
            have ra2a : IntKind.i64.wrap ((r : Int) + 1) = (r : Int) + 1 := by rw [IntKind.wrap_i64]; omega
            have ea2b : ((r : Int)).toNat = r := by omega
            have pa2b : (0 : Int) ≤ (r : Int) := by omega
            have ba2b : (r : Int) < (n : Int) := by omega
            have ra2b : IntKind.i64.wrap ((r : Int)) = (r : Int) := by rw [IntKind.wrap_i64]; omega
            have S3 : Aside (SWK enc k w0 blk off (swp dj (r + 1) (r)) ((w1.drew.setCells blk (off + (r + 1) * k) (enc dj[r]!)).setCells blk (off + (r) * k) (enc dj[r + 1]!))) := S2.out.swapped R (r + 1) (r) (by omega) (by omega)
            have l2a := S2.out.ld1 R (by omega) Tryd.prog (r + 1) (by omega)
            have l2b := S2.out.ld1 R (by omega) Tryd.prog (r) (by omega)
            have s2a := S2.out.st1 R (by omega) Tryd.prog (r + 1) (by omega) dj[r]!
            have s2b := S2.out.st2 R (by omega) Tryd.prog (r + 1) (r) (by omega) (by omega) dj[r]! dj[r + 1]!
            have n2a : (enc dj[r + 1]!).length = k := R.hk _
            have n2b : (enc dj[r]!).length = k := R.hk _
            generalize enc dj[r + 1]! = cI2 at S3 l2a s2b n2a
            generalize enc dj[r]! = cJ2 at S3 l2b s2a s2b n2b
            clear S2
            go_wp2_with fail
            go_big_region_o
            clear l2a l2b s2a s2b
            generalize (w1.drew.setCells blk (off + (r + 1) * k) cJ2).setCells blk (off + (r) * k) cI2 = w3 at S3 ⊢
            go_wp2_with fail
            go_roundg (r - la)
            case measure => omega
            case rel =>
              refine ⟨r, W3, u :: W2, swp dj (r + 1) r, by go_num, by omega, by omega, by omega, Lib.hid ⟨?_, by rw [HW.out.2.1]; simp, by omega, fun x hx => ?_⟩, by rw [swp_size]; exact hdj, S3⟩
              · rw [swp_comm2]
                have := swp_list (d := dj) (P := A ++ W3) (Q := []) (R := W2 ++ (X3 ++ C)) (u := u) (v := y) (by rw [HW.out.1]; simp) (i := r) (j := r + 1) (by have := HA.out; simp; omega) (by have := HA.out; simp; omega)
                rw [this]; simp
              · rcases List.mem_cons.1 hx with rfl | hx
                · have := HV.out; rw [HGY.out, HGU.out] at this; exact this
                · exact HW.out.2.2.2 x hx
          · have ea1a : ((r : Int) + 1).toNat = r + 1 := by omega
            have pa1a : (0 : Int) ≤ (r : Int) + 1 := by omega
            have ba1a : (r : Int) + 1 < (n : Int) := by omega
            have ra1a : IntKind.i64.wrap ((r : Int) + 1) = (r : Int) + 1 := by rw [IntKind.wrap_i64]; omega
            have ea1b : ((r : Int)).toNat = r := by omega
            have pa1b : (0 : Int) ≤ (r : Int) := by omega
            have ba1b : (r : Int) < (n : Int) := by omega
            have ra1b : IntKind.i64.wrap ((r : Int)) = (r : Int) := by rw [IntKind.wrap_i64]; omega
            obtain ⟨x1, hx1⟩ : ∃ x, x = dj[r + 1]! := ⟨_, rfl⟩
            obtain ⟨y1, hy1⟩ : ∃ x, x = dj[r]! := ⟨_, rfl⟩
            have l1a := S1.out.ld R (by omega) Tryd.prog (r + 1) (by omega)
            have l1b := S1.out.ld R (by omega) Tryd.prog (r) (by omega)
            rw [← hx1] at l1a
            rw [← hy1] at l1b
            have hc1 := S1.out.cmp HC.out (by omega) x1 y1
            have hv1 : ¬ (cf x1 y1 < 0) := by rw [hx1, hy1, HCF.out]; exact hv
            have hd1 : decide (cf x1 y1 < 0) = false := decide_eq_false hv1
            clear hx1 hy1
            have HV := Lib.hid hv
            clear hv
            go_wp2_with fail
            go_quiet_grown (first | (go_at_fn g; refine Calls.grown_of (hc1 _ _)))
            have S2 : Aside (SWK enc k w0 blk off dj (grow (wr.drewN nq) osq)) := S1.out.grown nq osq
            clear l1a l1b hc1 S1
            generalize grow (wr.drewN nq) osq = w1 at S2 ⊢
            clear nq osq
  
            go_wp2_with fail
            go_roundg (la + lx - (i + 1))
            case measure => omega
            case rel =>
              obtain ⟨Z, z1, z2, z3, z4, z5⟩ := OUT.out (fun x hx => by
                have e := HV.out
                rw [HGY.out, HGU.out] at e
                have m := HI.out.2.2.2.2
                rw [HW.out.2.1] at m
                rcases List.mem_append.1 hx with hx | hx
                · have := (Srt.append.1 (Srt.append.1 m.srt).1).2.2 x hx u (by simp)
                  omega
                · rw [List.mem_singleton.1 hx]; omega)
              exact ⟨i + 1, X1 ++ [y], X3, Z, dj, by go_num, by omega, by omega, by omega, Lib.hid ⟨z1, z2, z3, z4, z5⟩, hdj, S2⟩
        · obtain rfl : j = la := by omega
          have hjz : decide ((j : Int) > (j : Int)) = false := decide_eq_false (by omega)
          have hjz' : ¬ (j : Int) < (j : Int) := by omega
          obtain rfl : W1 = [] := List.eq_nil_of_length_eq_zero (by have := HW.out.2.2.1; omega)
          have S2 : Aside (SWK enc k w0 blk off dj wr.drew) := S1.out.drew
          clear S1
          go_wp2_with fail
          go_big_region_o
          all_goals go_wp2
          go_roundg (j + lx - (i + 1))
          case measure => omega
          case rel =>
            obtain ⟨Z, z1, z2, z3, z4, z5⟩ := OUT.out (fun x hx => by cases hx)
            exact ⟨i + 1, X1 ++ [y], X3, Z, dj, by go_num, by omega, by omega, by omega, Lib.hid ⟨z1, z2, z3, z4, z5⟩, hdj, S2⟩
    · obtain rfl : i = la + lx := by omega
      have hltz : ¬ ((la : Int) + (lx : Int) < (la : Int) + (lx : Int)) := by omega
      go_wp2
      go_end0
      obtain rfl : X2 = [] := List.eq_nil_of_length_eq_zero (by have e1 := congrArg List.length HI.out.2.1; have e2 := HI.out.2.2.1; have e3 := HLX.out; simp only [List.length_append] at e1; omega)
      refine ⟨rfl, dk, Z1, by rw [HI.out.1]; simp, ?_, hdk, S1.out⟩
      have := HI.out.2.2.2.2
      rw [HI.out.2.1]; simpa using this
end Go.Proofs.YtjjnhmbgffdenaaDoor
namespace Go.Proofs.YtjjnhmbgffdenaaDoor
open Go.Shelf Go.RowKit Go.Lib Go.Sort Go.Proofs
variable {α : Type} [Inhabited α]
/-- Ascending blocks of one length, one behind the other. -/
def Full (key : α → Int) (bs : Nat) (l : List α) : Prop := ∃ B : List (List α), l = B.flatten ∧ ∀ b ∈ B, b.length = bs ∧ Srt key b
/-- .. and a shorter one at the end. -/
def Blk (key : α → Int) (bs : Nat) (l : List α) : Prop := ∃ (B : List (List α)) (z : List α), l = B.flatten ++ z ∧ (∀ b ∈ B, b.length = bs ∧ Srt key b) ∧ z.length ≤ bs ∧ Srt key z
omit [Inhabited α] in
theorem Full.nil (key : α → Int) (bs : Nat) : Full key bs [] := ⟨[], rfl, fun b h => by cases h⟩
omit [Inhabited α] in
theorem Full.snoc {key : α → Int} {bs : Nat} {l b : List α} (h : Full key bs l) (hb : b.length = bs) (hs : Srt key b) : Full key bs (l ++ b) := by
  obtain ⟨B, rfl, h⟩ := h
  refine ⟨B ++ [b], by simp, fun c hc => ?_⟩
  rcases List.mem_append.1 hc with hc | hc
  · exact h c hc
  · rw [List.mem_singleton.1 hc]; exact ⟨hb, hs⟩
omit [Inhabited α] in
theorem Full.blk {key : α → Int} {bs : Nat} {l z : List α} (h : Full key bs l) (hb : z.length ≤ bs) (hs : Srt key z) : Blk key bs (l ++ z) := by
  obtain ⟨B, rfl, h⟩ := h
  exact ⟨B, z, rfl, h, hb, hs⟩
omit [Inhabited α] in
theorem Blk.two {key : α → Int} {bs : Nat} {l : List α} (h : Blk key bs l) (h0 : 0 < bs) (hl : 2 * bs ≤ l.length) : ∃ b1 b2 r, l = b1 ++ (b2 ++ r) ∧ b1.length = bs ∧ b2.length = bs ∧ Srt key b1 ∧ Srt key b2 ∧ Blk key bs r := by
  obtain ⟨B, z, rfl, hB, hz, hs⟩ := h
  match B, hB with
  | [], _ => simp at hl; omega
  | [b], hB =>
    have := hB b (by simp)
    simp only [List.flatten_cons, List.flatten_nil, List.append_nil, List.length_append] at hl
    exact ⟨b, z, [], by simp, this.1, by omega, this.2, hs, ⟨[], [], rfl, (fun b h => by cases h), by simp, List.Pairwise.nil⟩⟩
  | b :: c :: B, hB =>
    have h1 := hB b (by simp)
    have h2 := hB c (by simp)
    exact ⟨b, c, B.flatten ++ z, by simp, h1.1, h2.1, h1.2, h2.2, ⟨B, z, rfl, fun d hd => hB d (by simp [hd]), hz, hs⟩⟩
omit [Inhabited α] in
theorem Blk.one {key : α → Int} {bs : Nat} {l : List α} (h : Blk key bs l) (hl : bs < l.length) (hu : l.length < 2 * bs) : ∃ b1 r, l = b1 ++ r ∧ b1.length = bs ∧ Srt key b1 ∧ Srt key r := by
  obtain ⟨B, z, rfl, hB, hz, hs⟩ := h
  match B, hB with
  | [], _ => simp at hl; omega
  | [b], hB => exact ⟨b, z, by simp, (hB b (by simp)).1, (hB b (by simp)).2, hs⟩
  | b :: c :: B, hB =>
    have h1 := hB b (by simp)
    have h2 := hB c (by simp)
    simp only [List.flatten_cons, List.length_append] at hu
    omega
omit [Inhabited α] in
theorem Blk.srt {key : α → Int} {bs : Nat} {l : List α} (h : Blk key bs l) (h0 : 0 < bs) (hl : l.length ≤ bs) : Srt key l := by
  obtain ⟨B, z, rfl, hB, hz, hs⟩ := h
  match B, hB with
  | [], _ => simpa using hs
  | [b], hB =>
    have h1 := hB b (by simp)
    simp only [List.flatten_cons, List.flatten_nil, List.append_nil, List.length_append] at hl
    obtain rfl : z = [] := List.eq_nil_of_length_eq_zero (by omega)
    simpa using h1.2
  | b :: c :: B, hB =>
    have h1 := hB b (by simp)
    have h2 := hB c (by simp)
    simp only [List.flatten_cons, List.length_append] at hl
    omega
omit [Inhabited α] in
theorem Blk.of_srt {key : α → Int} {bs : Nat} {l : List α} (h : Srt key l) (hl : l.length ≤ bs) : Blk key bs l := ⟨[], l, rfl, (fun b h => by cases h), hl, h⟩
omit [Inhabited α] in
theorem len_arr {d : Array α} {l : List α} (h : d.toList = l) : d.size = l.length := by rw [← h]; simp

set_option maxHeartbeats 4000000 in
set_option maxRecDepth 1000000 in
/-- stableCmpFunc: ascending, the same elements, those with one key in their order. -/
theorem stable_k (k : Nat) (zE : ∀ w, (Go.sizeOf 40).run Tryd.prog w = .ok k w) (enc : α → List Value) (key : α → Int) (cf : α → α → Int) (hcf : ∀ x y, cf x y < 0 ↔ key x < key y) (g : Nat) (cb : Array Value) (eg : ∀ args w, (callFunc g args).run Tryd.prog w = .ok (.enter g args) w) (blk off cap n : Nat) (d : Array α) (w : World) (hcmp : CmpLays Tryd.prog g cb enc k cf blk off n w)
    (R : RowK enc k w blk off d) (hn : d.size = n) (hsz : n < 100000) :
    Calls Tryd.prog 67 #[.slice (some ⟨blk, off, none⟩) n cap, .int .i64 n, .func (.func g) #[] cb] w fun e w' => e = .returned (.tuple #[]) ∧
      ∃ d' : Array α, Mrg key d.toList d'.toList ∧ d'.size = n ∧ SWK enc k w blk off d' w' := by
  have S0 : Aside (SWK enc k w blk off d w) := SWK.start R.hH
  have HI := Lib.hid (fun (A X C : List α) (d1 : Array α) (w1 : World) (h1 : d1.size = n) (h2 : SWK enc k w blk off d1 w1) (h3 : d1.toList = A ++ (X ++ C)) => insertion_any k zE enc key cf hcf g cb eg blk off cap n d d1 w w1 hcmp A X C R hn h1 h2 h3 (by omega))
  have HM := Lib.hid (fun (A X Y C : List α) (d1 : Array α) (w1 : World) => symMerge_any k zE enc key cf hcf g cb eg blk off cap n d w hcmp R hn (by omega) (X.length + Y.length) A X Y C d1 w1 (Nat.le_refl _))
  clear hcmp hcf R
  go_enter Tryd.func67, Tryd.ntmps67
  go_wp2
  go_loopg [7, 8] (n + 1) (fun g1 s7 s8 wr => ∃ (a : Nat) (P Q : List α) (dk : Array α), s7 = .int .i64 a ∧ s8 = .int .i64 (a + 20 : Nat) ∧ n - a ≤ g1 ∧ a ≤ n ∧ Hid (dk.toList = P ++ Q ∧ P.length = a ∧ Full key 20 P ∧ Sam key d.toList dk.toList) ∧ dk.size = n ∧ Aside (SWK enc k w blk off dk wr))
  case atStart => exact ⟨0, [], d.toList, d, rfl, by go_num, by omega, by omega, Lib.hid ⟨rfl, rfl, Full.nil _ _, Sam.refl _⟩, hn, S0⟩
  case round =>
    clear S0
    obtain ⟨a, P, Q, dk, rfl, rfl, hg, ha, H, hdk, S1⟩ := hrel
    by_cases hb : a + 20 ≤ n
    · have hbz : (a : Int) + 20 ≤ (n : Int) := by omega
      obtain ⟨X, Q', hQ, hX, hQ'⟩ := cut_list Q 20 (by have e1 := len_arr H.out.1; have e2 := H.out.2.1; simp only [List.length_append] at e1; omega)
      have c1 := HI.out P X Q' dk wr hdk S1.out (by rw [H.out.1, hQ])
      rw [H.out.2.1, hX, show ((a + 20 : Nat) : Int) = (a : Int) + 20 by omega] at c1
      have HC1 := Lib.hid c1
      have HQ := Lib.hid hQ
      have HX := Lib.hid hX
      clear c1 hQ hX hQ' S1
      go_wp2_with (go_at_call 70; refine HC1.out.mono ?_; rintro e w2 ⟨rfl, d2, Z, t1, t2, t3, S2⟩)
      have HT := Lib.hid (And.intro t1 t2)
      have S3 : Aside (SWK enc k w blk off d2 w2) := S2
      clear t1 t2 S2 HC1
      go_wp2_with fail
      go_roundg (n - (a + 20))
      case measure => omega
      case rel =>
        have hz : Z.length = 20 := by rw [← HX.out]; exact len_mid (d := dk) (d' := d2) (A := P) (C := Q') (by rw [H.out.1, HQ.out]) HT.out.1 (by omega)
        exact ⟨a + 20, P ++ Z, Q', d2, by go_num, by go_num, by omega, by omega, Lib.hid ⟨by rw [HT.out.1]; simp, by rw [List.length_append, H.out.2.1, hz], H.out.2.2.1.snoc hz HT.out.2.srt, H.out.2.2.2.trans (by
          rw [H.out.1, HQ.out, HT.out.1]; exact (Sam.refl _).append (HT.out.2.sam.append (Sam.refl _)))⟩, t3, S3⟩
    · have hbz : ¬ ((a : Int) + 20 ≤ (n : Int)) := by omega
      have c1 := HI.out P Q [] dk wr hdk S1.out (by rw [H.out.1]; simp)
      have hQl : P.length + Q.length = n := by have e1 := len_arr H.out.1; simp only [List.length_append] at e1; omega
      rw [hQl, H.out.2.1] at c1
      have HC1 := Lib.hid c1
      have HQ := Lib.hid hQl
      clear c1 hQl S1
      go_wp2_with (go_at_call 70; refine HC1.out.mono ?_; rintro e w2 ⟨rfl, d2, Z, t1, t2, t3, S2⟩)
      have hB : Hid (Blk key 20 d2.toList ∧ Sam key d.toList d2.toList) := Lib.hid (by
        have hz : Z.length = Q.length := len_mid (d := dk) (d' := d2) (A := P) (C := []) (by rw [H.out.1]; simp) t1 (by omega)
        refine ⟨?_, H.out.2.2.2.trans ?_⟩
        · rw [t1, List.append_nil]
          exact H.out.2.2.1.blk (by have := HQ.out; have := H.out.2.1; omega) t2.srt
        · rw [H.out.1, t1, List.append_nil]; exact (Sam.refl _).append t2.sam)
      have S3 : Aside (SWK enc k w blk off d2 w2) := S2
      clear t1 t2 S2 HC1 H HQ
      go_wp2_with fail
      go_loopg [6] (n + 1) (fun g1 s6 wr => ∃ (bs : Nat) (dk : Array α), s6 = .int .i64 bs ∧ 20 ≤ bs ∧ bs ≤ n + n + 20 ∧ n - bs ≤ g1 ∧ Hid (Blk key bs dk.toList ∧ Sam key d.toList dk.toList) ∧ dk.size = n ∧ Aside (SWK enc k w blk off dk wr))
      case atStart => exact ⟨20, d2, rfl, by omega, by omega, by omega, hB, t3, S3⟩
      case round =>
        clear S3 hB
        obtain ⟨bs, de, rfl, hbs, hbu, hge, HE, hde, S1⟩ := hrel
        by_cases hlt : bs < n
        · have hlz : (bs : Int) < (n : Int) := by omega
          go_wp2_with fail
          go_loopg [7, 8] (n + 1) (fun g1 s7 s8 wr => ∃ (a : Nat) (P Q : List α) (dk : Array α), s7 = .int .i64 a ∧ s8 = .int .i64 (a + 2 * bs : Nat) ∧ n - a ≤ g1 ∧ a ≤ n ∧ Hid (dk.toList = P ++ Q ∧ P.length = a ∧ Full key (2 * bs) P ∧ Blk key bs Q ∧ Sam key d.toList dk.toList) ∧ dk.size = n ∧ Aside (SWK enc k w blk off dk wr))
          case atStart => exact ⟨0, [], de.toList, de, rfl, by go_num, by omega, by omega, Lib.hid ⟨rfl, rfl, Full.nil _ _, HE.out.1, HE.out.2⟩, hde, S1⟩
          case round =>
            clear S1 HE
            obtain ⟨a, P, Q, dk, rfl, rfl, hg, ha, H, hdk, S1⟩ := hrel
            have hQl : Hid (P.length + Q.length = n) := Lib.hid (by have e1 := len_arr H.out.1; simp only [List.length_append] at e1; omega)
            by_cases hb : a + 2 * bs ≤ n
            · have hbz : (a : Int) + 2 * (bs : Int) ≤ (n : Int) := by omega
              obtain ⟨b1, b2, Q', hQ, h1, h2, s1, s2, hB'⟩ := H.out.2.2.2.1.two (by omega) (by have := hQl.out; have := H.out.2.1; omega)
              have c1 := HM.out P b1 b2 Q' dk wr (by omega) (by omega) s1 s2 hdk S1.out (by rw [H.out.1, hQ])
              rw [H.out.2.1, h1, h2, show ((a + bs + bs : Nat) : Int) = (a : Int) + 2 * (bs : Int) by omega, show ((a + bs : Nat) : Int) = (a : Int) + (bs : Int) by omega] at c1
              have HC1 := Lib.hid c1
              have HQ := Lib.hid (And.intro hQ (And.intro h1 h2))
              have HB' := Lib.hid hB'
              clear c1 hQ h1 h2 s1 s2 hB' S1
              go_wp2_with (go_at_call 71; refine HC1.out.mono ?_; rintro e w3 ⟨rfl, d3, Z, t1, t2, t4, S2⟩)
              have HT := Lib.hid (And.intro t1 t2)
              have S3 : Aside (SWK enc k w blk off d3 w3) := S2
              clear t1 t2 S2 HC1
              go_wp2_with fail
              go_roundg (n - (a + 2 * bs))
              case measure => omega
              case rel =>
                have hz : Z.length = 2 * bs := by
                  have := len_mid (d := dk) (d' := d3) (A := P) (W := b1 ++ b2) (C := Q') (by rw [H.out.1, HQ.out.1]; simp) HT.out.1 (by omega)
                  rw [this, List.length_append, HQ.out.2.1, HQ.out.2.2]; omega
                exact ⟨a + 2 * bs, P ++ Z, Q', d3, by go_num, by go_num, by omega, by omega, Lib.hid ⟨by rw [HT.out.1]; simp, by rw [List.length_append, H.out.2.1, hz], H.out.2.2.1.snoc hz HT.out.2.srt, HB'.out, H.out.2.2.2.2.trans (by
                  rw [H.out.1, HQ.out.1, HT.out.1]
                  have := (Sam.refl (key := key) P).append (HT.out.2.sam.append (Sam.refl Q'))
                  simpa using this)⟩, t4, S3⟩
            · have hbz : ¬ ((a : Int) + 2 * (bs : Int) ≤ (n : Int)) := by omega
              by_cases hm : a + bs < n
              · have hmz : (a : Int) + (bs : Int) < (n : Int) := by omega
                obtain ⟨b1, r, hQ, h1, s1, s2⟩ := H.out.2.2.2.1.one (by have := hQl.out; have := H.out.2.1; omega) (by have := hQl.out; have := H.out.2.1; omega)
                have hr : r.length = n - (a + bs) := by have e1 := hQl.out; rw [hQ, List.length_append, h1, H.out.2.1] at e1; omega
                have c1 := HM.out P b1 r [] dk wr (by omega) (by omega) s1 s2 hdk S1.out (by rw [H.out.1, hQ]; simp)
                rw [H.out.2.1, h1, hr, show ((a + bs + (n - (a + bs)) : Nat) : Int) = (n : Int) by omega, show ((a + bs : Nat) : Int) = (a : Int) + (bs : Int) by omega] at c1
                have HC1 := Lib.hid c1
                have HQ := Lib.hid (And.intro hQ (And.intro h1 hr))
                clear c1 hQ h1 hr s1 s2 S1
                go_wp2_with (go_at_call 71; refine HC1.out.mono ?_; rintro e w3 ⟨rfl, d3, Z, t1, t2, t4, S2⟩)
                have HT := Lib.hid (And.intro t1 t2)
                have S3 : Aside (SWK enc k w blk off d3 w3) := S2
                clear t1 t2 S2 HC1
                go_wp2_with fail
                go_roundg (n - 2 * bs)
                case measure => omega
                case rel =>
                  have hz : Z.length = bs + (n - (a + bs)) := by
                    have := len_mid (d := dk) (d' := d3) (A := P) (W := b1 ++ r) (C := []) (by rw [H.out.1, HQ.out.1]; simp) HT.out.1 (by omega)
                    rw [this, List.length_append, HQ.out.2.1, HQ.out.2.2]
                  exact ⟨2 * bs, d3, by go_num, by omega, by omega, by omega, Lib.hid ⟨by
                    rw [HT.out.1, List.append_nil]; exact H.out.2.2.1.blk (by omega) HT.out.2.srt, H.out.2.2.2.2.trans (by
                    rw [H.out.1, HQ.out.1, HT.out.1, List.append_nil]
                    exact (Sam.refl _).append HT.out.2.sam)⟩, t4, S3⟩
              · have hmz : ¬ ((a : Int) + (bs : Int) < (n : Int)) := by omega
                go_wp2_with fail
                go_roundg (n - 2 * bs)
                case measure => omega
                case rel => exact ⟨2 * bs, dk, by go_num, by omega, by omega, by omega, Lib.hid ⟨by
                    rw [H.out.1]; exact H.out.2.2.1.blk (by have := hQl.out; have := H.out.2.1; omega) (H.out.2.2.2.1.srt (by omega) (by have := hQl.out; have := H.out.2.1; omega)), H.out.2.2.2.2⟩, hdk, S1⟩
        · have hlz : ¬ ((bs : Int) < (n : Int)) := by omega
          go_wp2_with fail
          go_end0
          exact ⟨rfl, de, ⟨HE.out.1.srt (by omega) (by rw [Array.length_toList]; omega), HE.out.2⟩, hde, S1.out⟩
end Go.Proofs.YtjjnhmbgffdenaaDoor
namespace Go.Proofs.YtjjnhmbgffdenaaDoor
open Go.RowKit

theorem bcell {W w1 : World} (hb : Below W.heap.size W w1) : (∀ b o, b < W.heap.size → w1.cell? ⟨b, o, none⟩ = W.cell? ⟨b, o, none⟩) ∧ (∀ b o, b < W.heap.size → w1.frozen? ⟨b, o, none⟩ = W.frozen? ⟨b, o, none⟩) :=
  ⟨fun b o h => hb.cell (p := ⟨b, o, none⟩) h, fun b o h => hb.frozen (p := ⟨b, o, none⟩) h⟩
theorem below_drewN {B : Nat} {a w : World} (h : Below B a w) (n : Nat) : Below B a (w.drewN n) := ⟨h.os, h.tape, h.output, h.size, h.block⟩
theorem below1 (w : World) (o : Obj) : Below w.heap.size w (w.alloc o) := (Below.refl _ _).alloc (Nat.le_refl _) _
theorem below2 (w : World) (o p : Obj) : Below w.heap.size w ((w.alloc o).alloc p) := (below1 w o).alloc (by simp) _
theorem below3 (w : World) (o p q : Obj) : Below w.heap.size w (((w.alloc o).alloc p).alloc q) := (below2 w o p).alloc (by simp; omega) _
theorem ret_bool {a b : Bool} (h : a = b) : Ending.returned (.bool a) = .returned (.bool b) := by rw [h]
theorem ret_int {k : IntKind} {a b : Int} (h : a = b) : Ending.returned (.int k a) = .returned (.int k b) := by rw [h]

/-- A loop's name. -/
structure Nm where
  y : Int
  n : Int
deriving DecidableEq
def Nm.v (p : Nm) : Value := .agg #[.int .u8 p.y, .int .i64 p.n]
/-- A name that is valid. -/
def Named (p : Nm) : Prop := 1 ≤ p.y ∧ p.y ≤ 6 ∧ 0 ≤ p.n ∧ p.n ≤ 2047
instance (p : Nm) : Decidable (Named p) := by unfold Named; infer_instance
/-- A name that a variable can hold. -/
def Nm.wf (p : Nm) : Prop := (0 ≤ p.y ∧ p.y ≤ 255) ∧ (-9223372036854775808 ≤ p.n ∧ p.n ≤ 9223372036854775807)

def Two (w : World) (b o : Nat) (p : Nm) : Prop := w.cell? ⟨b, o, none⟩ = some (.int .u8 p.y) ∧ w.cell? ⟨b, o + 1, none⟩ = some (.int .i64 p.n)
theorem Two.below {w w' : World} {b o : Nat} {p : Nm} (h : Two w b o p) {B : Nat} (hb : Below B w w') (hB : b < B) : Two w' b o p :=
  ⟨(hb.cell (p := ⟨b, o, none⟩) hB).trans h.1, (hb.cell (p := ⟨b, o + 1, none⟩) hB).trans h.2⟩

/-- A stack as it lies in memory. -/
structure Cel where
  ao : Option Addr
  l : List Nm
  cap : Nat
def Cel.v (c : Cel) : Value := .slice c.ao c.l.length c.cap
def Cel.ok (n : Nat) (w : World) (c : Cel) : Prop := c.l.length ≤ 100 ∧ (c.l = [] ∨ ∃ b o, c.ao = some ⟨b, o, none⟩ ∧ b < n ∧ ∀ i p, c.l[i]? = some p → Two w b (o + i * 2) p)
def Cel.nil : Cel := ⟨none, [], 0⟩
theorem Cel.nil_ok (n : Nat) (w : World) : Cel.nil.ok n w := ⟨by simp [Cel.nil], .inl rfl⟩
theorem Cel.ok.below {n : Nat} {w w' : World} {c : Cel} (h : c.ok n w) (hb : Below n w w') : c.ok n w' := by
  obtain ⟨h1, h2⟩ := h
  refine ⟨h1, h2.imp id ?_⟩
  rintro ⟨b, o, e, hl, hc⟩
  exact ⟨b, o, e, hl, fun i p hp => (hc i p hp).below hb hl⟩
theorem Cel.ok.mono {n m : Nat} {w : World} {c : Cel} (h : c.ok n w) (hm : n ≤ m) : c.ok m w := by
  obtain ⟨h1, h2⟩ := h
  refine ⟨h1, h2.imp id ?_⟩
  rintro ⟨b, o, e, hl, hc⟩
  exact ⟨b, o, e, by omega, hc⟩
/-- The name at a place of a stack that is not empty. -/
theorem Cel.ok.at {n : Nat} {w : World} {c : Cel} (h : c.ok n w) {i : Nat} (hi : i < c.l.length) :
    ∃ b o, c.ao = some ⟨b, o, none⟩ ∧ b < n ∧ Two w b (o + i * 2) (c.l[i]'hi) := by
  rcases h.2 with h0 | ⟨b, o, e, hl, hc⟩
  · rw [h0] at hi; simp at hi
  · exact ⟨b, o, e, hl, hc i _ (List.getElem?_eq_getElem hi)⟩

/-- A bed as it lies in memory. -/
structure Bed where
  ao : Option Addr
  cs : List Cel
  cap : Nat
def Bed.v (d : Bed) : Value := .slice d.ao d.cs.length d.cap
def Bed.ok (n : Nat) (w : World) (d : Bed) : Prop := d.cs.length ≤ 100 ∧ (∀ c ∈ d.cs, c.ok n w) ∧ (d.cs = [] ∨ ∃ b o, d.ao = some ⟨b, o, none⟩ ∧ b < n ∧ ∀ i c, d.cs[i]? = some c → w.cell? ⟨b, o + i, none⟩ = some c.v)
theorem Bed.ok.below {n : Nat} {w w' : World} {c : Bed} (h : c.ok n w) (hb : Below n w w') : c.ok n w' := by
  obtain ⟨h1, h0, h2⟩ := h
  refine ⟨h1, fun c hc => (h0 c hc).below hb, h2.imp id ?_⟩
  rintro ⟨b, o, e, hl, hc⟩
  exact ⟨b, o, e, hl, fun i p hp => (hb.cell (p := ⟨b, o + i, none⟩) hl).trans (hc i p hp)⟩
theorem Bed.ok.mono {n m : Nat} {w : World} {c : Bed} (h : c.ok n w) (hm : n ≤ m) : c.ok m w := by
  obtain ⟨h1, h0, h2⟩ := h
  refine ⟨h1, fun c hc => (h0 c hc).mono hm, h2.imp id ?_⟩
  rintro ⟨b, o, e, hl, hc⟩
  exact ⟨b, o, e, by omega, hc⟩
theorem Bed.ok.at {n : Nat} {w : World} {d : Bed} (h : d.ok n w) {i : Nat} (hi : i < d.cs.length) :
    ∃ b o, d.ao = some ⟨b, o, none⟩ ∧ b < n ∧ w.cell? ⟨b, o + i, none⟩ = some (d.cs[i]'hi).v := by
  rcases h.2.2 with h0 | ⟨b, o, e, hl, hc⟩
  · rw [h0] at hi; simp at hi
  · exact ⟨b, o, e, hl, hc i _ (List.getElem?_eq_getElem hi)⟩

/-- Both beds. -/
structure Bds where
  f : Bed
  b : Bed
def Bds.v (d : Bds) : Value := .agg #[d.f.v, d.b.v]
def Bds.ok (n : Nat) (w : World) (d : Bds) : Prop := d.f.ok n w ∧ d.b.ok n w
theorem Bds.ok.below {n : Nat} {w w' : World} {d : Bds} (h : d.ok n w) (hb : Below n w w') : d.ok n w' := ⟨h.1.below hb, h.2.below hb⟩
theorem Bds.ok.mono {n m : Nat} {w : World} {d : Bds} (h : d.ok n w) (hm : n ≤ m) : d.ok m w := ⟨h.1.mono hm, h.2.mono hm⟩
/-- The bed with a number. -/
def Bds.bed (d : Bds) (k : Nat) : Bed := if k = 0 then d.f else d.b
theorem Bds.ok.bed {n : Nat} {w : World} {d : Bds} (h : d.ok n w) (k : Nat) : (d.bed k).ok n w := by
  unfold Bds.bed; split
  · exact h.1
  · exact h.2

/-- A stack with its needle: the bed, and the number less 1. -/
structure El where
  k : Nat
  i : Nat
  c : Cel
def El.nv (x : El) : Value := .agg #[.int .u8 x.k, .int .i64 ((x.i : Int) + 1)]
def El.vs (x : El) : Array Value := #[x.nv, x.c.v]
def Bed.els (d : Bed) (k : Nat) : List El := d.cs.mapIdx fun i c => ⟨k, i, c⟩
def Bds.els (d : Bds) : List El := d.f.els 0 ++ d.b.els 1
/-- What has come before the bed with a number. -/
def Bds.upto (d : Bds) (k : Nat) : List El := if k = 0 then [] else if k = 1 then d.f.els 0 else d.els
theorem Bed.els_length (d : Bed) (k : Nat) : (d.els k).length = d.cs.length := by simp [Bed.els]
theorem Bds.els_length (d : Bds) : d.els.length = d.f.cs.length + d.b.cs.length := by simp [Bds.els, Bed.els_length]
theorem Bds.upto_succ (d : Bds) {k : Nat} (h : k < 2) : d.upto k ++ (d.bed k).els k = d.upto (k + 1) := by
  obtain rfl | rfl : k = 0 ∨ k = 1 := by omega
  · simp [Bds.upto, Bds.bed]
  · simp [Bds.upto, Bds.bed, Bds.els]
theorem Bed.els_take_succ (d : Bed) (k : Nat) {i : Nat} (hi : i < d.cs.length) : (d.els k).take (i + 1) = (d.els k).take i ++ [⟨k, i, d.cs[i]⟩] := by
  rw [List.take_succ_eq_append_getElem (by rw [Bed.els_length]; exact hi)]
  simp [Bed.els]

end Go.Proofs.YtjjnhmbgffdenaaDoor
namespace Go.Proofs.YtjjnhmbgffdenaaDoor
open Go.RowKit

section
variable {P : Program} {ops : Array Oper} {Q : Exit → Act → World → Prop}

theorem countP_lt {f f' : Nat → Bool} (hff : ∀ j, f' j = true → f j = true) {i : Nat} (hi : f i = true) (hi' : f' i = false) : ∀ l : List Nat, i ∈ l → l.countP f' < l.countP f := by
  intro l
  induction l with
  | nil => intro h; cases h
  | cons x l ih =>
    intro h
    have hle : l.countP f' ≤ l.countP f := List.countP_mono_left fun j _ => hff j
    by_cases e : x = i
    · subst e
      rw [List.countP_cons_of_pos hi, List.countP_cons_of_neg (by simp [hi'])]
      omega
    · have hm : i ∈ l := by
        rcases List.mem_cons.1 h with h | h
        · exact absurd h.symm e
        · exact h
      have := ih hm
      cases hx : f' x
      · rw [List.countP_cons_of_neg (by simp [hx])]
        have : l.countP f ≤ (x :: l).countP f := by rw [List.countP_cons]; exact Nat.le_add_right _ _
        omega
      · rw [List.countP_cons_of_pos hx, List.countP_cons_of_pos (hff x hx)]
        omega

/-- What is known between the operations of a region that draws its order. -/
structure Between (ops : Array Oper) (Psi : Nat → Value → World → Prop) (I : World → Prop) (a0 : Act) (lo hi : Nat) (listed : Array Bool) (a : Act) (w : World) : Prop where
  lsize : listed.size = ops.size
  asize : a.tmps.size = a0.tmps.size
  defers : a.defers = a0.defers
  outside : ∀ s, s < lo ∨ hi < s → a.tmps.getD s undef = a0.tmps.getD s undef
  inv : I w
  done : ∀ (i : Nat) (o : Oper) (d : Tmp), listed.getD i false = true → ops[i]? = some o → o.dst = some d → Psi i (a.tmps.getD d undef) w

theorem rg {id : Nat} {a0 : Act} {w0 : World} (Psi : Nat → Value → World → Prop) (I : World → Prop) (lo hi : Nat) (hm : P.follows .mixedOrders = true)
    (hhi : hi < a0.tmps.size)
    (hdst : ∀ (i : Nat) (o : Oper), ops[i]? = some o → ∃ d, o.dst = some d ∧ lo ≤ d ∧ d ≤ hi ∧ ∀ (j : Nat) (o' : Oper), ops[j]? = some o' → o'.dst = some d → j = i)
    (hafter : ∀ (i : Nat) (o : Oper), ops[i]? = some o → ∀ e ∈ o.after, e.on < i)
    (stab : ∀ i v w w', Psi i v w → Below w.heap.size w w' → Psi i v w')
    (istab : ∀ w w', I w → Below w.heap.size w w' → I w')
    (step : ∀ (i : Nat) (o : Oper), ops[i]? = some o → ∀ (a : Act) (w : World), a.tmps.size = a0.tmps.size → (∀ s, s < lo ∨ hi < s → a.tmps.getD s undef = a0.tmps.getD s undef) → I w →
      (∀ e ∈ o.after, Region.binds .any e = true → ∀ (o' : Oper) (d : Tmp), ops[e.on]? = some o' → o'.dst = some d → Psi e.on (a.tmps.getD d undef) w) →
      Region.wanted o (yielded ops a.tmps) = true ∧ ∀ K : Act → World → Prop, (∀ v w', Below w.heap.size w w' → Psi i v w' → K (a.put o.dst v) w') → o.wp P a w K Q)
    (fin : ∀ (a : Act) (w : World), a.tmps.size = a0.tmps.size → a.defers = a0.defers → (∀ s, s < lo ∨ hi < s → a.tmps.getD s undef = a0.tmps.getD s undef) → I w →
      (∀ (i : Nat) (o : Oper) (d : Tmp), ops[i]? = some o → o.dst = some d → Psi i (a.tmps.getD d undef) w) → Q .normal a w)
    (h0 : I { w0 with drawn := w0.drawn + 1 }) : (Code.region id ops true).wp P Q a0 w0 := by
  have all_listed : ∀ listed : Array Bool, listed.size = ops.size → Region.ready .any ops listed = [] → ∀ i, i < ops.size → listed.getD i false = true := by
    intro listed hls hr i
    induction i using Nat.strongRecOn with
    | _ i ih =>
      intro hi
      cases hb : listed.getD i true with
      | true =>
        have hlt : i < listed.size := by omega
        simp only [Array.getD_eq_getD_getElem?, Array.getElem?_eq_getElem hlt, Option.getD_some] at hb ⊢
        exact hb
      | false =>
        exfalso
        have : i ∈ Region.ready .any ops listed := mem_ready.2 ⟨hb, ops[i], Array.getElem?_eq_getElem hi, fun e he _ => by
          have hlt := hafter i _ (Array.getElem?_eq_getElem hi) e he
          exact ih e.on hlt (by omega)⟩
        rw [hr] at this
        cases this
  have main : ∀ (fuel : Nat) (listed : Array Bool) (a : Act) (w : World), (List.range ops.size).countP (fun i => !listed.getD i true) ≤ fuel → Between ops Psi I a0 lo hi listed a w → wpAny P .any ops Q fuel listed a w := by
    intro fuel
    induction fuel with
    | zero =>
      intro listed a w hc hJ
      have hr : Region.ready .any ops listed = [] := by
        rw [List.eq_nil_iff_forall_not_mem]
        intro i hi
        obtain ⟨h1, o, ho, _⟩ := mem_ready.1 hi
        have hlt : i < ops.size := (Array.getElem?_eq_some_iff.1 ho).1
        have := (List.countP_eq_zero.1 (Nat.le_zero.1 hc)) i (List.mem_range.2 hlt)
        simp [h1] at this
      refine ⟨hr, fin a w hJ.asize hJ.defers hJ.outside hJ.inv fun i o d ho hd => hJ.done i o d (all_listed listed hJ.lsize hr i (Array.getElem?_eq_some_iff.1 ho).1) ho hd⟩
    | succ fuel ih =>
      intro listed a w hc hJ
      refine ⟨fun hr => fin a w hJ.asize hJ.defers hJ.outside hJ.inv fun i o d ho hd => hJ.done i o d (all_listed listed hJ.lsize hr i (Array.getElem?_eq_some_iff.1 ho).1) ho hd, fun i hi => ?_⟩
      obtain ⟨h1, o, ho, hdep⟩ := mem_ready.1 hi
      have hlt : i < ops.size := (Array.getElem?_eq_some_iff.1 ho).1
      obtain ⟨hw, hs⟩ := step i o ho a w hJ.asize hJ.outside hJ.inv (fun e he hb o' d ho' hd => hJ.done e.on o' d (hdep e he hb) ho' hd)
      unfold wpOp
      rw [ho]
      simp only [hw, if_true]
      refine .inl (hs _ fun v w' hb hpsi => ih _ _ _ ?_ ?_)
      · have := countP_lt (f := fun i => !listed.getD i true) (f' := fun j => !(listed.setIfInBounds i true).getD j true) (fun j hj => by
          by_cases e : i = j
          · subst e; simpa using h1
          · simpa [getD_set_ne true e] using hj) (i := i) (by simpa using h1) (by
            have : i < listed.size := by have := hJ.lsize; omega
            simp [this]) (List.range ops.size) (List.mem_range.2 hlt)
        omega
      · obtain ⟨d, hd, hlo, hhi', huniq⟩ := hdst i o ho
        rw [hd]
        have hda : d < a.tmps.size := by rw [hJ.asize]; exact Nat.lt_of_le_of_lt hhi' hhi
        have hget : ∀ s, (a.put (some d) v).tmps.getD s undef = if s = d then v else a.tmps.getD s undef := by
          intro s
          simp only [Act.put]
          by_cases e : s = d
          · subst e; simp [hda]
          · rw [if_neg e]
            simp only [Array.getD_eq_getD_getElem?, Array.getElem?_setIfInBounds_ne (Ne.symm e)]
        refine ⟨by simpa using hJ.lsize, by simpa [Act.put] using hJ.asize, by simpa [Act.put] using hJ.defers, fun s hs => ?_, istab _ _ hJ.inv hb, fun j o' d' hj ho' hd' => ?_⟩
        · have hne : s ≠ d := by
            rintro rfl
            rcases hs with h | h
            · exact absurd hlo (Nat.not_le_of_lt h)
            · exact absurd hhi' (Nat.not_le_of_lt h)
          rw [hget, if_neg hne]; exact hJ.outside s hs
        · rw [hget]
          by_cases e : d' = d
          · subst e
            obtain rfl := huniq j o' ho' hd'
            rw [if_pos rfl]; exact hpsi
          · rw [if_neg e]
            have hne : i ≠ j := fun e2 => by
              subst e2
              rw [ho] at ho'
              obtain rfl := Option.some.inj ho'
              rw [hd] at hd'
              exact e (Option.some.inj hd').symm
            rw [getD_set_ne false hne] at hj
            exact stab _ _ _ _ (hJ.done j o' d' hj ho' hd') hb
  refine wp_region_any hm (main _ _ _ _ ?_ ⟨by simp, rfl, rfl, fun _ _ => rfl, h0, fun i o d hl _ _ => ?_⟩)
  · exact Nat.le_trans List.countP_le_length (by simp)
  · by_cases e : i < ops.size
    · simp [e] at hl
    · simp [e] at hl
end
end Go.Proofs.YtjjnhmbgffdenaaDoor
