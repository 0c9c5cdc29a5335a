import Derived.Test.YtjjnhmbgffdenaaDoorGaa
import Derived.Deep.Cut
namespace Go.Proofs.YtjjnhmbgffdenaaDoor
open Go.Shelf Go.RowKit Go.Lib Go.Sort Go.Proofs
variable {α : Type} [Inhabited α]
/-- What symMergeCmpFunc does with two neighbouring ascending parts. -/
def SymOk (k : Nat) (enc : α → List Value) (key : α → Int) (g : Nat) (cb : Array Value) (blk off cap n : Nat) (w0 : World) (N : Nat) : Prop :=
  ∀ (A X Y C : List α) (d : Array α) (w : World), X.length + Y.length ≤ N → 0 < X.length → 0 < Y.length → Srt key X → Srt key Y → d.size = n → SWK enc k w0 blk off d w → d.toList = A ++ (X ++ (Y ++ C)) →
    Calls Tryd.prog 71 #[.slice (some ⟨blk, off, none⟩) n cap, .int .i64 A.length, .int .i64 (A.length + X.length : Nat), .int .i64 (A.length + X.length + Y.length : Nat), .func (.func g) #[] cb] w fun e w' => e = .returned (.tuple #[]) ∧
      ∃ d' Z, d'.toList = A ++ (Z ++ C) ∧ Mrg key (X ++ Y) Z ∧ d'.size = n ∧ SWK enc k w0 blk off d' w'

omit [Inhabited α] in
theorem len_mid {d d' : Array α} {A Z W C : List α} (h : d.toList = A ++ (W ++ C)) (h' : d'.toList = A ++ (Z ++ C)) (hs : d'.size = d.size) : Z.length = W.length := by
  have e1 := congrArg List.length h
  have e2 := congrArg List.length h'
  simp only [List.length_append, Array.length_toList] at e1 e2
  omega
omit [Inhabited α] in
theorem Mrg.self {key : α → Int} {l : List α} (h : Srt key l) : Mrg key l l := ⟨h, Sam.refl _⟩
/-- Behind the exchange of the middle parts. -/
def T2 (k : Nat) (enc : α → List Value) (blk off n : Nat) (w0 : World) (A X1 Y1 X2 Y2 C : List α) (d : Array α) (w : World) : Prop :=
  d.toList = A ++ (X1 ++ (Y1 ++ (X2 ++ (Y2 ++ C)))) ∧ d.size = n ∧ SWK enc k w0 blk off d w
/-- .. and the first merge. -/
def T3 (k : Nat) (enc : α → List Value) (key : α → Int) (blk off n : Nat) (w0 : World) (A X1 Y1 X2 Y2 C : List α) (d : Array α) (Z : List α) (w : World) : Prop :=
  d.toList = A ++ (Z ++ (X2 ++ (Y2 ++ C))) ∧ Mrg key (X1 ++ Y1) Z ∧ Z.length = X1.length + Y1.length ∧ d.size = n ∧ SWK enc k w0 blk off d w
def T4 (k : Nat) (enc : α → List Value) (key : α → Int) (blk off n : Nat) (w0 : World) (A X2 Y2 C Z1 : List α) (d : Array α) (Z2 : List α) (w : World) : Prop :=
  d.toList = A ++ ((Z1 ++ Z2) ++ C) ∧ Mrg key (X2 ++ Y2) Z2 ∧ d.size = n ∧ SWK enc k w0 blk off d w

set_option maxHeartbeats 4000000 in
set_option maxRecDepth 1000000 in
theorem symMerge_general (k : Nat) (zE : ∀ w, (Go.sizeOf 40).run Tryd.prog w = .ok k w) (enc : α → List Value) (key : α → Int) (cf : α → α → Int) (hcf : ∀ x y, cf x y < 0 ↔ key x < key y) (g : Nat) (cb : Array Value) (eg : ∀ args w, (callFunc g args).run Tryd.prog w = .ok (.enter g args) w) (blk off cap n : Nat) (d0 d : Array α) (w0 w : World) (hcmp : CmpLays Tryd.prog g cb enc k cf blk off n w0) (A X Y C : List α) (N : Nat) (hIH : SymOk k enc key g cb blk off cap n w0 N) (hN : X.length + Y.length ≤ N + 1)
    (R : RowK enc k w0 blk off d0) (hs : d0.size = n) (hn : d.size = n) (S : SWK enc k w0 blk off d w) (hd : d.toList = A ++ (X ++ (Y ++ C))) (hX : 1 < X.length) (hY : 1 < Y.length) (hSX : Srt key X) (hSY : Srt key Y) (hsz : n < 4611686018427387904) :
    Calls Tryd.prog 71 #[.slice (some ⟨blk, off, none⟩) n cap, .int .i64 A.length, .int .i64 (A.length + X.length : Nat), .int .i64 (A.length + X.length + Y.length : Nat), .func (.func g) #[] cb] w fun e w' => e = .returned (.tuple #[]) ∧
      ∃ d' Z, d'.toList = A ++ (Z ++ C) ∧ Mrg key (X ++ Y) Z ∧ d'.size = n ∧ SWK enc k w0 blk off d' w' := by
  have aE := aE40
  have mixed := mix40
  obtain ⟨la, hla⟩ : ∃ n, A.length = n := ⟨_, rfl⟩
  obtain ⟨lx, hlx⟩ : ∃ n, X.length = n := ⟨_, rfl⟩
  obtain ⟨ly, hly⟩ : ∃ n, Y.length = n := ⟨_, rfl⟩
  have hn2 : la + lx + ly ≤ n := by
    have := congrArg List.length hd
    simp only [List.length_append, Array.length_toList] at this
    omega
  rw [hla, hlx, hly]
  rw [hlx] at hX
  rw [hly] at hY
  have HC := Lib.hid hcmp
  have HCF := Lib.hid hcf
  have HD := Lib.hid hd
  have HSX := Lib.hid hSX
  have HSY := Lib.hid hSY
  have HA := Lib.hid hla
  have HLX := Lib.hid hlx
  have HLY := Lib.hid hly
  have HIH := Lib.hid hIH
  have HNN := Lib.hid hN
  have HROT := Lib.hid (fun (A X Y C : List α) (d : Array α) (w : World) (h1 : d.size = n) (h2 : SWK enc k w0 blk off d w) (h3 : d.toList = A ++ (X ++ (Y ++ C))) (h4 : 0 < X.length) (h5 : 0 < Y.length) => rotate_k k zE enc g cb blk off cap d0 d w0 w A X Y C R (by omega) h2 h3 h4 h5 (by omega))
  have S0 : Aside (SWK enc k w0 blk off d w) := S
  have rm : IntKind.i64.wrap ((la : Int) + (lx : Int) - (la : Int)) = (lx : Int) := by rw [IntKind.wrap_i64]; omega
  have zm : ((lx : Int) == 1) = false := by simp; omega
  have zm2 : ((la : Int) + (lx : Int) - (la : Int) == 1) = false := by simp; omega
  have rm2 : IntKind.i64.wrap ((la : Int) + (lx : Int) + (ly : Int) - ((la : Int) + (lx : Int))) = (ly : Int) := by rw [IntKind.wrap_i64]; omega
  have zm3 : ((la : Int) + (lx : Int) + (ly : Int) - ((la : Int) + (lx : Int)) == 1) = false := by simp; omega
  have zm4 : ((ly : Int) == 1) = false := by simp; omega
  obtain ⟨md, hmd⟩ : ∃ md, (la + (la + lx + ly)) / 2 = md := ⟨_, rfl⟩
  have hmz : ((la : Int) + ((la : Int) + (lx : Int) + (ly : Int))) / 2 = (md : Int) := by omega
  have hm1 : la < md := by omega
  have hm2 : md < la + lx + ly := by omega
  clear S hcmp hcf hd hSX hSY hla hlx hly hIH hN
  go_enter Tryd.func71, Tryd.ntmps71
  by_cases hgt : md < la + lx
  · have hgz : (md : Int) < (la : Int) + (lx : Int) := by omega
    obtain ⟨s0, hs0⟩ : ∃ s0, md - ly = s0 := ⟨_, rfl⟩
    obtain ⟨r0, hr0⟩ : ∃ r0, md = r0 := ⟨_, rfl⟩
    have f1 : la ≤ s0 := by omega
    have f2 : s0 ≤ r0 := by omega
    have f3 : r0 ≤ la + lx := by omega
    have f4 : r0 ≤ md := by omega
    have f5 : md ≤ s0 + ly := by omega
    have f6 : s0 = la ∨ md = s0 + ly := .inr (by omega)
    have f7 : r0 = la + lx ∨ r0 = md := .inr (by omega)
    have HS0 : Hid ((md : Int) + ((la : Int) + (lx : Int)) - ((la : Int) + (lx : Int) + (ly : Int)) = (s0 : Int)) := Lib.hid (by omega)
    have HR0 : Hid ((md : Int) = (r0 : Int)) := Lib.hid (by omega)
    clear hs0 hr0
    have F := Lib.hid (And.intro f6 f7)
    clear f6 f7
    have HGZ := Lib.hid hmz
    go_upto_region 33 with fail
    clear hmz hgz zm zm2 zm3 zm4 rm rm2
    go_loopg [20, 21] (n + 1) (fun g1 s20 s21 wr => ∃ (s r : Nat), s20 = .int .i64 s ∧ s21 = .int .i64 r ∧ r - s ≤ g1 ∧ s0 ≤ s ∧ s ≤ r ∧ r ≤ r0 ∧ Hid ((s = s0 ∨ key d[s - 1]! ≤ key d[md + la + lx - s]!) ∧ (r = r0 ∨ key d[md + la + lx - 1 - r]! < key d[r]!)) ∧ Aside (SWK enc k w0 blk off d wr))
    case atStart => exact ⟨s0, r0, congrArg _ HS0.out, congrArg _ HR0.out, by omega, by omega, by omega, by omega, Lib.hid ⟨.inl rfl, .inl rfl⟩, S0⟩
    case round =>
      clear S0
      obtain ⟨s, r, rfl, rfl, hg, hs1, hsr, hr1, HI, S1⟩ := hrel
      by_cases hlt : s < r
      · have hlz : (s : Int) < (r : Int) := by omega
        obtain ⟨c, hc⟩ : ∃ c, (s + r) / 2 = c := ⟨_, rfl⟩
        have hcz : ((s : Int) + (r : Int)) / 2 = (c : Int) := by omega
        have h1 : s ≤ c := by omega
        have h2 : c < r := by omega
        obtain ⟨e, he⟩ : ∃ e, md + la + lx - 1 - c = e := ⟨_, rfl⟩
        have hez : (md : Int) + ((la : Int) + (lx : Int)) - 1 - (c : Int) = (e : Int) := by omega
        have hen : e < n := by omega
        by_cases hv : key d[e]! < key d[c]!
        · have ea1a : ((e : Int)).toNat = e := by omega
          have pa1a : (0 : Int) ≤ (e : Int) := by omega
          have ba1a : (e : Int) < (n : Int) := by omega
          have ra1a : IntKind.i64.wrap ((e : Int)) = (e : Int) := by rw [IntKind.wrap_i64]; omega
          have ea1b : ((c : Int)).toNat = c := by omega
          have pa1b : (0 : Int) ≤ (c : Int) := by omega
          have ba1b : (c : Int) < (n : Int) := by omega
          have ra1b : IntKind.i64.wrap ((c : Int)) = (c : Int) := by rw [IntKind.wrap_i64]; omega
          obtain ⟨x1, hx1⟩ : ∃ x, x = d[e]! := ⟨_, rfl⟩
          obtain ⟨y1, hy1⟩ : ∃ x, x = d[c]! := ⟨_, rfl⟩
          have l1a := S1.out.ld R (by omega) Tryd.prog (e) (by omega)
          have l1b := S1.out.ld R (by omega) Tryd.prog (c) (by omega)
          rw [← hx1] at l1a
          rw [← hy1] at l1b
          have hc1 := S1.out.cmp HC.out (by omega) x1 y1
          have hv1 : (cf x1 y1 < 0) := by rw [hx1, hy1, HCF.out]; exact hv
          have hd1 : decide (cf x1 y1 < 0) = true := decide_eq_true hv1
          clear hx1 hy1
          have HV := Lib.hid hv
          clear hv
          go_wp2_with fail
          go_quiet_grown (first | (go_at_fn g; refine Calls.grown_of (hc1 _ _)))
          have S2 : Aside (SWK enc k w0 blk off d (grow (wr.drewN nq) osq)) := S1.out.grown nq osq
          clear l1a l1b hc1 S1
          generalize grow (wr.drewN nq) osq = w1 at S2 ⊢
          clear nq osq
  
          go_wp2_with fail
          go_roundg (c - s)
          case measure => omega
          case rel => exact ⟨s, c, rfl, by go_num, by omega, by omega, by omega, by omega, Lib.hid ⟨HI.out.1, .inr (by rw [he]; exact HV.out)⟩, S2⟩
        · have ea1a : ((e : Int)).toNat = e := by omega
          have pa1a : (0 : Int) ≤ (e : Int) := by omega
          have ba1a : (e : Int) < (n : Int) := by omega
          have ra1a : IntKind.i64.wrap ((e : Int)) = (e : Int) := by rw [IntKind.wrap_i64]; omega
          have ea1b : ((c : Int)).toNat = c := by omega
          have pa1b : (0 : Int) ≤ (c : Int) := by omega
          have ba1b : (c : Int) < (n : Int) := by omega
          have ra1b : IntKind.i64.wrap ((c : Int)) = (c : Int) := by rw [IntKind.wrap_i64]; omega
          obtain ⟨x1, hx1⟩ : ∃ x, x = d[e]! := ⟨_, rfl⟩
          obtain ⟨y1, hy1⟩ : ∃ x, x = d[c]! := ⟨_, rfl⟩
          have l1a := S1.out.ld R (by omega) Tryd.prog (e) (by omega)
          have l1b := S1.out.ld R (by omega) Tryd.prog (c) (by omega)
          rw [← hx1] at l1a
          rw [← hy1] at l1b
          have hc1 := S1.out.cmp HC.out (by omega) x1 y1
          have hv1 : ¬ (cf x1 y1 < 0) := by rw [hx1, hy1, HCF.out]; exact hv
          have hd1 : decide (cf x1 y1 < 0) = false := decide_eq_false hv1
          clear hx1 hy1
          have HV := Lib.hid hv
          clear hv
          go_wp2_with fail
          go_quiet_grown (first | (go_at_fn g; refine Calls.grown_of (hc1 _ _)))
          have S2 : Aside (SWK enc k w0 blk off d (grow (wr.drewN nq) osq)) := S1.out.grown nq osq
          clear l1a l1b hc1 S1
          generalize grow (wr.drewN nq) osq = w1 at S2 ⊢
          clear nq osq
  
          go_wp2_with fail
          go_roundg (r - (c + 1))
          case measure => omega
          case rel => exact ⟨c + 1, r, by go_num, rfl, by omega, by omega, by omega, by omega, Lib.hid ⟨.inr (by have := HV.out; rw [show md + la + lx - (c + 1) = e by omega, Nat.add_sub_cancel]; omega), HI.out.2⟩, S2⟩
      · obtain rfl : s = r := by omega
        have hlz : ¬ ((s : Int) < (s : Int)) := by omega
        obtain ⟨X1, X2, hXe, hX1, hX2⟩ := cut_list X (s - la) (by have := HLX.out; omega)
        obtain ⟨Y1, Y2, hYe, hY1, hY2⟩ := cut_list Y (md - s) (by have := HLY.out; omega)
        have hX2 : X2.length = la + lx - s := by have := HLX.out; omega
        have hY2 : Y2.length = ly + s - md := by have := HLY.out; omega
        have hdd : d.toList = A ++ (X1 ++ (X2 ++ (Y1 ++ (Y2 ++ C)))) := by rw [HD.out, hXe, hYe]; simp
        have sX : Srt key (X1 ++ X2) := by rw [← hXe]; exact HSX.out
        have sY : Srt key (Y1 ++ Y2) := by rw [← hYe]; exact HSY.out
        have q1 : ∀ x ∈ X1, ∀ y ∈ Y2, key x ≤ key y := fun x hx y hy => by
          obtain ⟨p, p1, p2, rfl⟩ := mem_at (d := d) (P := A) (Y := X1) (R := X2 ++ (Y1 ++ (Y2 ++ C))) (by rw [hdd]) hx
          obtain ⟨t, t1, t2, rfl⟩ := mem_at (d := d) (P := A ++ (X1 ++ (X2 ++ Y1))) (Y := Y2) (R := C) (by rw [hdd]; simp) hy
          have := HA.out
          simp only [List.length_append] at t1 t2
          have e1 : key d[p]! ≤ key d[s - 1]! := srt_at (P := A) (Y := X) (R := Y ++ C) HD.out HSX.out p1 (by omega) (by have := HLX.out; omega)
          have e2 : key d[md + la + lx - s]! ≤ key d[t]! := srt_at (P := A ++ X) (Y := Y) (R := C) (by rw [HD.out]; simp) HSY.out (by have := HLX.out; simp only [List.length_append]; omega) (by omega) (by have := HLX.out; have := HLY.out; simp only [List.length_append]; omega)
          rcases HI.out.1 with e3 | e3
          · rcases F.out.1 with e4 | e4 <;> omega
          · omega
        have q2 : ∀ x ∈ X2, ∀ y ∈ Y1, key y < key x := fun x hx y hy => by
          obtain ⟨p, p1, p2, rfl⟩ := mem_at (d := d) (P := A ++ X1) (Y := X2) (R := Y1 ++ (Y2 ++ C)) (by rw [hdd]; simp) hx
          obtain ⟨t, t1, t2, rfl⟩ := mem_at (d := d) (P := A ++ (X1 ++ X2)) (Y := Y1) (R := Y2 ++ C) (by rw [hdd]; simp) hy
          have := HA.out
          simp only [List.length_append] at p1 p2 t1 t2
          have e1 : key d[s]! ≤ key d[p]! := srt_at (P := A) (Y := X) (R := Y ++ C) HD.out HSX.out (by omega) (by omega) (by have := HLX.out; omega)
          have e2 : key d[t]! ≤ key d[md + la + lx - 1 - s]! := srt_at (P := A ++ X) (Y := Y) (R := C) (by rw [HD.out]; simp) HSY.out (by have := HLX.out; simp only [List.length_append]; omega) (by omega) (by have := HLX.out; have := HLY.out; simp only [List.length_append]; omega)
          rcases HI.out.2 with e3 | e3
          · rcases F.out.2 with e4 | e4 <;> omega
          · omega
        have HG : Hid (∀ Z1 Z2, Mrg key (X1 ++ Y1) Z1 → Mrg key (X2 ++ Y2) Z2 → Mrg key (X ++ Y) (Z1 ++ Z2)) := Lib.hid (fun Z1 Z2 m1 m2 => by
          rw [hXe, hYe]; exact Mrg.general sX sY q1 q2 m1 m2)
        have HSS := Lib.hid (And.intro sX sY)
        have HDD := Lib.hid hdd
        have HLs : Hid (X1.length = s - la ∧ X2.length = la + lx - s ∧ Y1.length = md - s ∧ Y2.length = ly + s - md) := Lib.hid ⟨hX1, hX2, hY1, hY2⟩
        clear hX1 hX2 hY1 hY2 hXe hYe hdd sX sY q1 q2 HI
        obtain ⟨en, hen⟩ : ∃ en, md + la + lx - s = en := ⟨_, rfl⟩
        have henz : (md : Int) + ((la : Int) + (lx : Int)) - (s : Int) = (en : Int) := by omega
        have b1 : s ≤ la + lx := by omega
        have b2 : s ≤ md := by omega
        have b3 : la ≤ s := by omega
        have b4 : en ≤ la + lx + ly := by omega
        have ROT : Hid (s < la + lx → s < md → Calls Tryd.prog 72 #[.slice (some ⟨blk, off, none⟩) n cap, .int .i64 (s : Int), .int .i64 ((la : Int) + (lx : Int)), .int .i64 (en : Int), .func (.func g) #[] cb] wr fun e w' => e = .returned (.tuple #[]) ∧ ∃ d2, T2 k enc blk off n w0 A X1 Y1 X2 Y2 C d2 w') := Lib.hid (fun p1 p2 => by
          have l := HLs.out
          have := HROT.out (A ++ X1) X2 Y1 (Y2 ++ C) d wr hn S1.out (by rw [HDD.out]; simp) (by omega) (by omega)
          have e1 : (A ++ X1).length = s := by rw [List.length_append, HA.out]; omega
          rw [hn, e1, l.2.1, l.2.2.1, show ((s + (la + lx - s) + (md - s) : Nat) : Int) = (en : Int) by omega, show ((s + (la + lx - s) : Nat) : Int) = (la : Int) + (lx : Int) by omega] at this
          refine this.mono ?_
          rintro e w' ⟨h1, d2, h2, h3, h4⟩
          exact ⟨h1, d2, by rw [h2]; simp, h3, h4⟩)
        have REC1 : Hid (∀ d2 w2, la < s → s < md → T2 k enc blk off n w0 A X1 Y1 X2 Y2 C d2 w2 → Calls Tryd.prog 71 #[.slice (some ⟨blk, off, none⟩) n cap, .int .i64 (la : Int), .int .i64 (s : Int), .int .i64 (md : Int), .func (.func g) #[] cb] w2 fun e w' => e = .returned (.tuple #[]) ∧ ∃ d3 Z1, T3 k enc key blk off n w0 A X1 Y1 X2 Y2 C d3 Z1 w') := Lib.hid (fun d2 w2 p3 p2 ht => by
          have l := HLs.out
          have hNN := HNN.out
          rw [HLX.out, HLY.out] at hNN
          have := HIH.out A X1 Y1 (X2 ++ (Y2 ++ C)) d2 w2 (by omega) (by omega) (by omega) (Srt.append.1 HSS.out.1).1 (Srt.append.1 HSS.out.2).1 ht.2.1 ht.2.2 (by rw [ht.1])
          rw [HA.out, l.1, l.2.2.1, show ((la + (s - la) + (md - s) : Nat) : Int) = (md : Int) by omega, show ((la + (s - la) : Nat) : Int) = (s : Int) by omega] at this
          refine this.mono ?_
          rintro e w' ⟨h1, d3, Z, h2, h3, h4, h5⟩
          have h6 := len_mid (d := d2) (d' := d3) (A := A) (W := X1 ++ Y1) (Z := Z) (C := X2 ++ (Y2 ++ C)) (by rw [ht.1]; simp) h2 (by rw [h4, ht.2.1])
          exact ⟨h1, d3, Z, h2, h3, by rw [h6, List.length_append], h4, h5⟩)
        have REC2 : Hid (∀ d3 Z1 w3, s < la + lx → en < la + lx + ly → T3 k enc key blk off n w0 A X1 Y1 X2 Y2 C d3 Z1 w3 → Calls Tryd.prog 71 #[.slice (some ⟨blk, off, none⟩) n cap, .int .i64 (md : Int), .int .i64 (en : Int), .int .i64 ((la : Int) + (lx : Int) + (ly : Int)), .func (.func g) #[] cb] w3 fun e w' => e = .returned (.tuple #[]) ∧ ∃ d4 Z2, T4 k enc key blk off n w0 A X2 Y2 C Z1 d4 Z2 w') := Lib.hid (fun d3 Z1 w3 p1 p4 ht => by
          have l := HLs.out
          have hNN := HNN.out
          rw [HLX.out, HLY.out] at hNN
          have e1 : (A ++ Z1).length = md := by rw [List.length_append, HA.out, ht.2.2.1]; omega
          have := HIH.out (A ++ Z1) X2 Y2 C d3 w3 (by omega) (by omega) (by omega) (Srt.append.1 HSS.out.1).2.1 (Srt.append.1 HSS.out.2).2.1 ht.2.2.2.1 ht.2.2.2.2 (by rw [ht.1]; simp)
          rw [e1, l.2.1, l.2.2.2, show ((md + (la + lx - s) + (ly + s - md) : Nat) : Int) = (la : Int) + (lx : Int) + (ly : Int) by omega, show ((md + (la + lx - s) : Nat) : Int) = (en : Int) by omega] at this
          refine this.mono ?_
          rintro e w' ⟨h1, d4, Z, h2, h3, h4, h5⟩
          exact ⟨h1, d4, Z, by rw [h2]; simp, h3, h4, h5⟩)
        have NOR : Hid (¬ (s < la + lx ∧ s < md) → T2 k enc blk off n w0 A X1 Y1 X2 Y2 C d wr) := Lib.hid (fun h => by
          have l := HLs.out
          refine ⟨?_, hn, S1.out⟩
          rw [HDD.out]
          by_cases p1 : s < la + lx
          · obtain rfl : Y1 = [] := List.eq_nil_of_length_eq_zero (by omega)
            simp
          · obtain rfl : X2 = [] := List.eq_nil_of_length_eq_zero (by omega)
            simp)
        have NO1 : Hid (∀ d2 w2, ¬ (la < s ∧ s < md) → T2 k enc blk off n w0 A X1 Y1 X2 Y2 C d2 w2 → T3 k enc key blk off n w0 A X1 Y1 X2 Y2 C d2 (X1 ++ Y1) w2) := Lib.hid (fun d2 w2 h ht => by
          have l := HLs.out
          refine ⟨by rw [ht.1]; simp, Mrg.self ?_, by rw [List.length_append], ht.2.1, ht.2.2⟩
          by_cases p3 : la < s
          · obtain rfl : Y1 = [] := List.eq_nil_of_length_eq_zero (by omega)
            simpa using (Srt.append.1 HSS.out.1).1
          · obtain rfl : X1 = [] := List.eq_nil_of_length_eq_zero (by omega)
            simpa using (Srt.append.1 HSS.out.2).1)
        have NO2 : Hid (∀ d3 Z1 w3, ¬ (s < la + lx ∧ en < la + lx + ly) → T3 k enc key blk off n w0 A X1 Y1 X2 Y2 C d3 Z1 w3 → T4 k enc key blk off n w0 A X2 Y2 C Z1 d3 (X2 ++ Y2) w3) := Lib.hid (fun d3 Z1 w3 h ht => by
          have l := HLs.out
          refine ⟨by rw [ht.1]; simp, Mrg.self ?_, ht.2.2.2.1, ht.2.2.2.2⟩
          by_cases p1 : s < la + lx
          · obtain rfl : Y2 = [] := List.eq_nil_of_length_eq_zero (by omega)
            simpa using (Srt.append.1 HSS.out.1).2.1
          · obtain rfl : X2 = [] := List.eq_nil_of_length_eq_zero (by omega)
            simpa using (Srt.append.1 HSS.out.2).2.1)
        have FIN : Hid (∀ d3 Z1 w3 d4 Z2 w4, T3 k enc key blk off n w0 A X1 Y1 X2 Y2 C d3 Z1 w3 → T4 k enc key blk off n w0 A X2 Y2 C Z1 d4 Z2 w4 → ∃ d' Z, d'.toList = A ++ (Z ++ C) ∧ Mrg key (X ++ Y) Z ∧ d'.size = n ∧ SWK enc k w0 blk off d' w4) := Lib.hid (fun d3 Z1 w3 d4 Z2 w4 h3 h4 => ⟨d4, Z1 ++ Z2, h4.1, HG.out Z1 Z2 h3.2.1 h4.2.1, h4.2.2.1, h4.2.2.2⟩)
        clear HIH HROT HG HSS HDD HLs S1
        by_cases hp1 : s < la + lx
        · by_cases hp2 : s < md
          · by_cases hp3 : la < s
            · by_cases hp4 : en < la + lx + ly
              · have c1 : (s : Int) < (la : Int) + (lx : Int) := by omega
                have c2 : (la : Int) + (lx : Int) < (en : Int) := by omega
                have c3 : (la : Int) < (s : Int) := by omega
                have c4 : (s : Int) < (md : Int) := by omega
                have c5 : (md : Int) < (en : Int) := by omega
                have c6 : (en : Int) < (la : Int) + (lx : Int) + (ly : Int) := by omega
                have tk1 : True := trivial
                go_wp2_with (first
                  | (go_at_call 72; refine (ROT.out hp1 hp2).mono ?_; rintro e w2 ⟨rfl, d2, t2⟩; have HT2 := Lib.hid t2; clear t2)
                  | (go_at_call 71; clear tk1; refine (REC1.out d2 w2 hp3 hp2 HT2.out).mono ?_; rintro e w3 ⟨rfl, d3, Z1, t3⟩; have HT3 := Lib.hid t3; clear t3)
                  | (go_at_call 71; refine (REC2.out d3 Z1 w3 hp1 hp4 HT3.out).mono ?_; rintro e w4 ⟨rfl, d4, Z2, t4⟩))
                all_goals (go_end0; exact ⟨rfl, FIN.out d3 Z1 w3 d4 Z2 w4 HT3.out t4⟩)

              · have c1 : (s : Int) < (la : Int) + (lx : Int) := by omega
                have c2 : (la : Int) + (lx : Int) < (en : Int) := by omega
                have c3 : (la : Int) < (s : Int) := by omega
                have c4 : (s : Int) < (md : Int) := by omega
                have c5 : (md : Int) < (en : Int) := by omega
                have c6 : ¬ ((en : Int) < (la : Int) + (lx : Int) + (ly : Int)) := by omega
                have tk1 : True := trivial
                go_wp2_with (first
                  | (go_at_call 72; refine (ROT.out hp1 hp2).mono ?_; rintro e w2 ⟨rfl, d2, t2⟩; have HT2 := Lib.hid t2; clear t2)
                  | (go_at_call 71; clear tk1; refine (REC1.out d2 w2 hp3 hp2 HT2.out).mono ?_; rintro e w3 ⟨rfl, d3, Z1, t3⟩; have HT3 := Lib.hid t3; clear t3))
                all_goals (go_end0; exact ⟨rfl, FIN.out d3 Z1 w3 d3 (X2 ++ Y2) w3 HT3.out (NO2.out d3 Z1 w3 (by omega) HT3.out)⟩)


            · by_cases hp4 : en < la + lx + ly
              · have c1 : (s : Int) < (la : Int) + (lx : Int) := by omega
                have c2 : (la : Int) + (lx : Int) < (en : Int) := by omega
                have c3 : ¬ ((la : Int) < (s : Int)) := by omega
                have c4 : (s : Int) < (md : Int) := by omega
                have c5 : (md : Int) < (en : Int) := by omega
                have c6 : (en : Int) < (la : Int) + (lx : Int) + (ly : Int) := by omega
                have tk1 : True := trivial
                go_wp2_with (first
                  | (go_at_call 72; refine (ROT.out hp1 hp2).mono ?_; rintro e w2 ⟨rfl, d2, t2⟩; have HT2 := Lib.hid t2; clear t2)
                  | (go_at_call 71; refine (REC2.out d2 (X1 ++ Y1) w2 hp1 hp4 (NO1.out d2 w2 (by omega) HT2.out)).mono ?_; rintro e w4 ⟨rfl, d4, Z2, t4⟩))
                all_goals (go_end0; exact ⟨rfl, FIN.out d2 (X1 ++ Y1) w2 d4 Z2 w4 (NO1.out d2 w2 (by omega) HT2.out) t4⟩)

              · have c1 : (s : Int) < (la : Int) + (lx : Int) := by omega
                have c2 : (la : Int) + (lx : Int) < (en : Int) := by omega
                have c3 : ¬ ((la : Int) < (s : Int)) := by omega
                have c4 : (s : Int) < (md : Int) := by omega
                have c5 : (md : Int) < (en : Int) := by omega
                have c6 : ¬ ((en : Int) < (la : Int) + (lx : Int) + (ly : Int)) := by omega
                have tk1 : True := trivial
                go_wp2_with (first
                  | (go_at_call 72; refine (ROT.out hp1 hp2).mono ?_; rintro e w2 ⟨rfl, d2, t2⟩; have HT2 := Lib.hid t2; clear t2))
                all_goals (go_end0; exact ⟨rfl, FIN.out d2 (X1 ++ Y1) w2 d2 (X2 ++ Y2) w2 (NO1.out d2 w2 (by omega) HT2.out) (NO2.out d2 (X1 ++ Y1) w2 (by omega) (NO1.out d2 w2 (by omega) HT2.out))⟩)



          · by_cases hp3 : la < s
            · by_cases hp4 : en < la + lx + ly
              · have c1 : (s : Int) < (la : Int) + (lx : Int) := by omega
                have c2 : ¬ ((la : Int) + (lx : Int) < (en : Int)) := by omega
                have c3 : (la : Int) < (s : Int) := by omega
                have c4 : ¬ ((s : Int) < (md : Int)) := by omega
                have c5 : (md : Int) < (en : Int) := by omega
                have c6 : (en : Int) < (la : Int) + (lx : Int) + (ly : Int) := by omega
                have HT2 := Lib.hid (NOR.out (by omega))
                have tk1 : True := trivial
                go_wp2_with (first
                  | (go_at_call 71; refine (REC2.out d (X1 ++ Y1) wr hp1 hp4 (NO1.out d wr (by omega) HT2.out)).mono ?_; rintro e w4 ⟨rfl, d4, Z2, t4⟩))
                all_goals (go_end0; exact ⟨rfl, FIN.out d (X1 ++ Y1) wr d4 Z2 w4 (NO1.out d wr (by omega) HT2.out) t4⟩)

              · have c1 : (s : Int) < (la : Int) + (lx : Int) := by omega
                have c2 : ¬ ((la : Int) + (lx : Int) < (en : Int)) := by omega
                have c3 : (la : Int) < (s : Int) := by omega
                have c4 : ¬ ((s : Int) < (md : Int)) := by omega
                have c5 : (md : Int) < (en : Int) := by omega
                have c6 : ¬ ((en : Int) < (la : Int) + (lx : Int) + (ly : Int)) := by omega
                have HT2 := Lib.hid (NOR.out (by omega))
                have tk1 : True := trivial
                go_wp2_with fail
                all_goals (go_end0; exact ⟨rfl, FIN.out d (X1 ++ Y1) wr d (X2 ++ Y2) wr (NO1.out d wr (by omega) HT2.out) (NO2.out d (X1 ++ Y1) wr (by omega) (NO1.out d wr (by omega) HT2.out))⟩)


            · by_cases hp4 : en < la + lx + ly
              · have c1 : (s : Int) < (la : Int) + (lx : Int) := by omega
                have c2 : ¬ ((la : Int) + (lx : Int) < (en : Int)) := by omega
                have c3 : ¬ ((la : Int) < (s : Int)) := by omega
                have c4 : ¬ ((s : Int) < (md : Int)) := by omega
                have c5 : (md : Int) < (en : Int) := by omega
                have c6 : (en : Int) < (la : Int) + (lx : Int) + (ly : Int) := by omega
                have HT2 := Lib.hid (NOR.out (by omega))
                have tk1 : True := trivial
                go_wp2_with (first
                  | (go_at_call 71; refine (REC2.out d (X1 ++ Y1) wr hp1 hp4 (NO1.out d wr (by omega) HT2.out)).mono ?_; rintro e w4 ⟨rfl, d4, Z2, t4⟩))
                all_goals (go_end0; exact ⟨rfl, FIN.out d (X1 ++ Y1) wr d4 Z2 w4 (NO1.out d wr (by omega) HT2.out) t4⟩)

              · have c1 : (s : Int) < (la : Int) + (lx : Int) := by omega
                have c2 : ¬ ((la : Int) + (lx : Int) < (en : Int)) := by omega
                have c3 : ¬ ((la : Int) < (s : Int)) := by omega
                have c4 : ¬ ((s : Int) < (md : Int)) := by omega
                have c5 : (md : Int) < (en : Int) := by omega
                have c6 : ¬ ((en : Int) < (la : Int) + (lx : Int) + (ly : Int)) := by omega
                have HT2 := Lib.hid (NOR.out (by omega))
                have tk1 : True := trivial
                go_wp2_with fail
                all_goals (go_end0; exact ⟨rfl, FIN.out d (X1 ++ Y1) wr d (X2 ++ Y2) wr (NO1.out d wr (by omega) HT2.out) (NO2.out d (X1 ++ Y1) wr (by omega) (NO1.out d wr (by omega) HT2.out))⟩)




        · by_cases hp2 : s < md
          · by_cases hp3 : la < s
            · by_cases hp4 : en < la + lx + ly
              · have c1 : ¬ ((s : Int) < (la : Int) + (lx : Int)) := by omega
                have c2 : (la : Int) + (lx : Int) < (en : Int) := by omega
                have c3 : (la : Int) < (s : Int) := by omega
                have c4 : (s : Int) < (md : Int) := by omega
                have c5 : ¬ ((md : Int) < (en : Int)) := by omega
                have c6 : (en : Int) < (la : Int) + (lx : Int) + (ly : Int) := by omega
                have HT2 := Lib.hid (NOR.out (by omega))
                have tk1 : True := trivial
                go_wp2_with (first
                  | (go_at_call 71; clear tk1; refine (REC1.out d wr hp3 hp2 HT2.out).mono ?_; rintro e w3 ⟨rfl, d3, Z1, t3⟩; have HT3 := Lib.hid t3; clear t3))
                all_goals (go_end0; exact ⟨rfl, FIN.out d3 Z1 w3 d3 (X2 ++ Y2) w3 HT3.out (NO2.out d3 Z1 w3 (by omega) HT3.out)⟩)

              · have c1 : ¬ ((s : Int) < (la : Int) + (lx : Int)) := by omega
                have c2 : (la : Int) + (lx : Int) < (en : Int) := by omega
                have c3 : (la : Int) < (s : Int) := by omega
                have c4 : (s : Int) < (md : Int) := by omega
                have c5 : ¬ ((md : Int) < (en : Int)) := by omega
                have c6 : ¬ ((en : Int) < (la : Int) + (lx : Int) + (ly : Int)) := by omega
                have HT2 := Lib.hid (NOR.out (by omega))
                have tk1 : True := trivial
                go_wp2_with (first
                  | (go_at_call 71; clear tk1; refine (REC1.out d wr hp3 hp2 HT2.out).mono ?_; rintro e w3 ⟨rfl, d3, Z1, t3⟩; have HT3 := Lib.hid t3; clear t3))
                all_goals (go_end0; exact ⟨rfl, FIN.out d3 Z1 w3 d3 (X2 ++ Y2) w3 HT3.out (NO2.out d3 Z1 w3 (by omega) HT3.out)⟩)


            · by_cases hp4 : en < la + lx + ly
              · have c1 : ¬ ((s : Int) < (la : Int) + (lx : Int)) := by omega
                have c2 : (la : Int) + (lx : Int) < (en : Int) := by omega
                have c3 : ¬ ((la : Int) < (s : Int)) := by omega
                have c4 : (s : Int) < (md : Int) := by omega
                have c5 : ¬ ((md : Int) < (en : Int)) := by omega
                have c6 : (en : Int) < (la : Int) + (lx : Int) + (ly : Int) := by omega
                have HT2 := Lib.hid (NOR.out (by omega))
                have tk1 : True := trivial
                go_wp2_with fail
                all_goals (go_end0; exact ⟨rfl, FIN.out d (X1 ++ Y1) wr d (X2 ++ Y2) wr (NO1.out d wr (by omega) HT2.out) (NO2.out d (X1 ++ Y1) wr (by omega) (NO1.out d wr (by omega) HT2.out))⟩)

              · have c1 : ¬ ((s : Int) < (la : Int) + (lx : Int)) := by omega
                have c2 : (la : Int) + (lx : Int) < (en : Int) := by omega
                have c3 : ¬ ((la : Int) < (s : Int)) := by omega
                have c4 : (s : Int) < (md : Int) := by omega
                have c5 : ¬ ((md : Int) < (en : Int)) := by omega
                have c6 : ¬ ((en : Int) < (la : Int) + (lx : Int) + (ly : Int)) := by omega
                have HT2 := Lib.hid (NOR.out (by omega))
                have tk1 : True := trivial
                go_wp2_with fail
                all_goals (go_end0; exact ⟨rfl, FIN.out d (X1 ++ Y1) wr d (X2 ++ Y2) wr (NO1.out d wr (by omega) HT2.out) (NO2.out d (X1 ++ Y1) wr (by omega) (NO1.out d wr (by omega) HT2.out))⟩)



          · by_cases hp3 : la < s
            · by_cases hp4 : en < la + lx + ly
              · have c1 : ¬ ((s : Int) < (la : Int) + (lx : Int)) := by omega
                have c2 : ¬ ((la : Int) + (lx : Int) < (en : Int)) := by omega
                have c3 : (la : Int) < (s : Int) := by omega
                have c4 : ¬ ((s : Int) < (md : Int)) := by omega
                have c5 : ¬ ((md : Int) < (en : Int)) := by omega
                have c6 : (en : Int) < (la : Int) + (lx : Int) + (ly : Int) := by omega
                have HT2 := Lib.hid (NOR.out (by omega))
                have tk1 : True := trivial
                go_wp2_with fail
                all_goals (go_end0; exact ⟨rfl, FIN.out d (X1 ++ Y1) wr d (X2 ++ Y2) wr (NO1.out d wr (by omega) HT2.out) (NO2.out d (X1 ++ Y1) wr (by omega) (NO1.out d wr (by omega) HT2.out))⟩)

              · have c1 : ¬ ((s : Int) < (la : Int) + (lx : Int)) := by omega
                have c2 : ¬ ((la : Int) + (lx : Int) < (en : Int)) := by omega
                have c3 : (la : Int) < (s : Int) := by omega
                have c4 : ¬ ((s : Int) < (md : Int)) := by omega
                have c5 : ¬ ((md : Int) < (en : Int)) := by omega
                have c6 : ¬ ((en : Int) < (la : Int) + (lx : Int) + (ly : Int)) := by omega
                have HT2 := Lib.hid (NOR.out (by omega))
                have tk1 : True := trivial
                go_wp2_with fail
                all_goals (go_end0; exact ⟨rfl, FIN.out d (X1 ++ Y1) wr d (X2 ++ Y2) wr (NO1.out d wr (by omega) HT2.out) (NO2.out d (X1 ++ Y1) wr (by omega) (NO1.out d wr (by omega) HT2.out))⟩)


            · by_cases hp4 : en < la + lx + ly
              · have c1 : ¬ ((s : Int) < (la : Int) + (lx : Int)) := by omega
                have c2 : ¬ ((la : Int) + (lx : Int) < (en : Int)) := by omega
                have c3 : ¬ ((la : Int) < (s : Int)) := by omega
                have c4 : ¬ ((s : Int) < (md : Int)) := by omega
                have c5 : ¬ ((md : Int) < (en : Int)) := by omega
                have c6 : (en : Int) < (la : Int) + (lx : Int) + (ly : Int) := by omega
                have HT2 := Lib.hid (NOR.out (by omega))
                have tk1 : True := trivial
                go_wp2_with fail
                all_goals (go_end0; exact ⟨rfl, FIN.out d (X1 ++ Y1) wr d (X2 ++ Y2) wr (NO1.out d wr (by omega) HT2.out) (NO2.out d (X1 ++ Y1) wr (by omega) (NO1.out d wr (by omega) HT2.out))⟩)

              · have c1 : ¬ ((s : Int) < (la : Int) + (lx : Int)) := by omega
                have c2 : ¬ ((la : Int) + (lx : Int) < (en : Int)) := by omega
                have c3 : ¬ ((la : Int) < (s : Int)) := by omega
                have c4 : ¬ ((s : Int) < (md : Int)) := by omega
                have c5 : ¬ ((md : Int) < (en : Int)) := by omega
                have c6 : ¬ ((en : Int) < (la : Int) + (lx : Int) + (ly : Int)) := by omega
                have HT2 := Lib.hid (NOR.out (by omega))
                have tk1 : True := trivial
                go_wp2_with fail
                all_goals (go_end0; exact ⟨rfl, FIN.out d (X1 ++ Y1) wr d (X2 ++ Y2) wr (NO1.out d wr (by omega) HT2.out) (NO2.out d (X1 ++ Y1) wr (by omega) (NO1.out d wr (by omega) HT2.out))⟩)




  · have hgz : ¬ ((md : Int) < (la : Int) + (lx : Int)) := by omega
    obtain ⟨s0, hs0⟩ : ∃ s0, la = s0 := ⟨_, rfl⟩
    obtain ⟨r0, hr0⟩ : ∃ r0, la + lx = r0 := ⟨_, rfl⟩
    have f1 : la ≤ s0 := by omega
    have f2 : s0 ≤ r0 := by omega
    have f3 : r0 ≤ la + lx := by omega
    have f4 : r0 ≤ md := by omega
    have f5 : md ≤ s0 + ly := by omega
    have f6 : s0 = la ∨ md = s0 + ly := .inl (by omega)
    have f7 : r0 = la + lx ∨ r0 = md := .inl (by omega)
    have HS0 : Hid ((la : Int) = (s0 : Int)) := Lib.hid (by omega)
    have HR0 : Hid ((la : Int) + (lx : Int) = (r0 : Int)) := Lib.hid (by omega)
    clear hs0 hr0
    have F := Lib.hid (And.intro f6 f7)
    clear f6 f7
    have HGZ := Lib.hid hmz
    go_upto_region 33 with fail
    clear hmz hgz zm zm2 zm3 zm4 rm rm2
    go_loopg [20, 21] (n + 1) (fun g1 s20 s21 wr => ∃ (s r : Nat), s20 = .int .i64 s ∧ s21 = .int .i64 r ∧ r - s ≤ g1 ∧ s0 ≤ s ∧ s ≤ r ∧ r ≤ r0 ∧ Hid ((s = s0 ∨ key d[s - 1]! ≤ key d[md + la + lx - s]!) ∧ (r = r0 ∨ key d[md + la + lx - 1 - r]! < key d[r]!)) ∧ Aside (SWK enc k w0 blk off d wr))
    case atStart => exact ⟨s0, r0, congrArg _ HS0.out, congrArg _ HR0.out, by omega, by omega, by omega, by omega, Lib.hid ⟨.inl rfl, .inl rfl⟩, S0⟩
    case round =>
      clear S0
      obtain ⟨s, r, rfl, rfl, hg, hs1, hsr, hr1, HI, S1⟩ := hrel
      by_cases hlt : s < r
      · have hlz : (s : Int) < (r : Int) := by omega
        obtain ⟨c, hc⟩ : ∃ c, (s + r) / 2 = c := ⟨_, rfl⟩
        have hcz : ((s : Int) + (r : Int)) / 2 = (c : Int) := by omega
        have h1 : s ≤ c := by omega
        have h2 : c < r := by omega
        obtain ⟨e, he⟩ : ∃ e, md + la + lx - 1 - c = e := ⟨_, rfl⟩
        have hez : (md : Int) + ((la : Int) + (lx : Int)) - 1 - (c : Int) = (e : Int) := by omega
        have hen : e < n := by omega
        by_cases hv : key d[e]! < key d[c]!
        · have ea1a : ((e : Int)).toNat = e := by omega
          have pa1a : (0 : Int) ≤ (e : Int) := by omega
          have ba1a : (e : Int) < (n : Int) := by omega
          have ra1a : IntKind.i64.wrap ((e : Int)) = (e : Int) := by rw [IntKind.wrap_i64]; omega
          have ea1b : ((c : Int)).toNat = c := by omega
          have pa1b : (0 : Int) ≤ (c : Int) := by omega
          have ba1b : (c : Int) < (n : Int) := by omega
          have ra1b : IntKind.i64.wrap ((c : Int)) = (c : Int) := by rw [IntKind.wrap_i64]; omega
          obtain ⟨x1, hx1⟩ : ∃ x, x = d[e]! := ⟨_, rfl⟩
          obtain ⟨y1, hy1⟩ : ∃ x, x = d[c]! := ⟨_, rfl⟩
          have l1a := S1.out.ld R (by omega) Tryd.prog (e) (by omega)
          have l1b := S1.out.ld R (by omega) Tryd.prog (c) (by omega)
          rw [← hx1] at l1a
          rw [← hy1] at l1b
          have hc1 := S1.out.cmp HC.out (by omega) x1 y1
          have hv1 : (cf x1 y1 < 0) := by rw [hx1, hy1, HCF.out]; exact hv
          have hd1 : decide (cf x1 y1 < 0) = true := decide_eq_true hv1
          clear hx1 hy1
          have HV := Lib.hid hv
          clear hv
          go_wp2_with fail
          go_quiet_grown (first | (go_at_fn g; refine Calls.grown_of (hc1 _ _)))
          have S2 : Aside (SWK enc k w0 blk off d (grow (wr.drewN nq) osq)) := S1.out.grown nq osq
          clear l1a l1b hc1 S1
          generalize grow (wr.drewN nq) osq = w1 at S2 ⊢
          clear nq osq
  
          go_wp2_with fail
          go_roundg (c - s)
          case measure => omega
          case rel => exact ⟨s, c, rfl, by go_num, by omega, by omega, by omega, by omega, Lib.hid ⟨HI.out.1, .inr (by rw [he]; exact HV.out)⟩, S2⟩
        · have ea1a : ((e : Int)).toNat = e := by omega
          have pa1a : (0 : Int) ≤ (e : Int) := by omega
          have ba1a : (e : Int) < (n : Int) := by omega
          have ra1a : IntKind.i64.wrap ((e : Int)) = (e : Int) := by rw [IntKind.wrap_i64]; omega
          have ea1b : ((c : Int)).toNat = c := by omega
          have pa1b : (0 : Int) ≤ (c : Int) := by omega
          have ba1b : (c : Int) < (n : Int) := by omega
          have ra1b : IntKind.i64.wrap ((c : Int)) = (c : Int) := by rw [IntKind.wrap_i64]; omega
          obtain ⟨x1, hx1⟩ : ∃ x, x = d[e]! := ⟨_, rfl⟩
          obtain ⟨y1, hy1⟩ : ∃ x, x = d[c]! := ⟨_, rfl⟩
          have l1a := S1.out.ld R (by omega) Tryd.prog (e) (by omega)
          have l1b := S1.out.ld R (by omega) Tryd.prog (c) (by omega)
          rw [← hx1] at l1a
          rw [← hy1] at l1b
          have hc1 := S1.out.cmp HC.out (by omega) x1 y1
          have hv1 : ¬ (cf x1 y1 < 0) := by rw [hx1, hy1, HCF.out]; exact hv
          have hd1 : decide (cf x1 y1 < 0) = false := decide_eq_false hv1
          clear hx1 hy1
          have HV := Lib.hid hv
          clear hv
          go_wp2_with fail
          go_quiet_grown (first | (go_at_fn g; refine Calls.grown_of (hc1 _ _)))
          have S2 : Aside (SWK enc k w0 blk off d (grow (wr.drewN nq) osq)) := S1.out.grown nq osq
          clear l1a l1b hc1 S1
          generalize grow (wr.drewN nq) osq = w1 at S2 ⊢
          clear nq osq
  
          go_wp2_with fail
          go_roundg (r - (c + 1))
          case measure => omega
          case rel => exact ⟨c + 1, r, by go_num, rfl, by omega, by omega, by omega, by omega, Lib.hid ⟨.inr (by have := HV.out; rw [show md + la + lx - (c + 1) = e by omega, Nat.add_sub_cancel]; omega), HI.out.2⟩, S2⟩
      · obtain rfl : s = r := by omega
        have hlz : ¬ ((s : Int) < (s : Int)) := by omega
        obtain ⟨X1, X2, hXe, hX1, hX2⟩ := cut_list X (s - la) (by have := HLX.out; omega)
        obtain ⟨Y1, Y2, hYe, hY1, hY2⟩ := cut_list Y (md - s) (by have := HLY.out; omega)
        have hX2 : X2.length = la + lx - s := by have := HLX.out; omega
        have hY2 : Y2.length = ly + s - md := by have := HLY.out; omega
        have hdd : d.toList = A ++ (X1 ++ (X2 ++ (Y1 ++ (Y2 ++ C)))) := by rw [HD.out, hXe, hYe]; simp
        have sX : Srt key (X1 ++ X2) := by rw [← hXe]; exact HSX.out
        have sY : Srt key (Y1 ++ Y2) := by rw [← hYe]; exact HSY.out
        have q1 : ∀ x ∈ X1, ∀ y ∈ Y2, key x ≤ key y := fun x hx y hy => by
          obtain ⟨p, p1, p2, rfl⟩ := mem_at (d := d) (P := A) (Y := X1) (R := X2 ++ (Y1 ++ (Y2 ++ C))) (by rw [hdd]) hx
          obtain ⟨t, t1, t2, rfl⟩ := mem_at (d := d) (P := A ++ (X1 ++ (X2 ++ Y1))) (Y := Y2) (R := C) (by rw [hdd]; simp) hy
          have := HA.out
          simp only [List.length_append] at t1 t2
          have e1 : key d[p]! ≤ key d[s - 1]! := srt_at (P := A) (Y := X) (R := Y ++ C) HD.out HSX.out p1 (by omega) (by have := HLX.out; omega)
          have e2 : key d[md + la + lx - s]! ≤ key d[t]! := srt_at (P := A ++ X) (Y := Y) (R := C) (by rw [HD.out]; simp) HSY.out (by have := HLX.out; simp only [List.length_append]; omega) (by omega) (by have := HLX.out; have := HLY.out; simp only [List.length_append]; omega)
          rcases HI.out.1 with e3 | e3
          · rcases F.out.1 with e4 | e4 <;> omega
          · omega
        have q2 : ∀ x ∈ X2, ∀ y ∈ Y1, key y < key x := fun x hx y hy => by
          obtain ⟨p, p1, p2, rfl⟩ := mem_at (d := d) (P := A ++ X1) (Y := X2) (R := Y1 ++ (Y2 ++ C)) (by rw [hdd]; simp) hx
          obtain ⟨t, t1, t2, rfl⟩ := mem_at (d := d) (P := A ++ (X1 ++ X2)) (Y := Y1) (R := Y2 ++ C) (by rw [hdd]; simp) hy
          have := HA.out
          simp only [List.length_append] at p1 p2 t1 t2
          have e1 : key d[s]! ≤ key d[p]! := srt_at (P := A) (Y := X) (R := Y ++ C) HD.out HSX.out (by omega) (by omega) (by have := HLX.out; omega)
          have e2 : key d[t]! ≤ key d[md + la + lx - 1 - s]! := srt_at (P := A ++ X) (Y := Y) (R := C) (by rw [HD.out]; simp) HSY.out (by have := HLX.out; simp only [List.length_append]; omega) (by omega) (by have := HLX.out; have := HLY.out; simp only [List.length_append]; omega)
          rcases HI.out.2 with e3 | e3
          · rcases F.out.2 with e4 | e4 <;> omega
          · omega
        have HG : Hid (∀ Z1 Z2, Mrg key (X1 ++ Y1) Z1 → Mrg key (X2 ++ Y2) Z2 → Mrg key (X ++ Y) (Z1 ++ Z2)) := Lib.hid (fun Z1 Z2 m1 m2 => by
          rw [hXe, hYe]; exact Mrg.general sX sY q1 q2 m1 m2)
        have HSS := Lib.hid (And.intro sX sY)
        have HDD := Lib.hid hdd
        have HLs : Hid (X1.length = s - la ∧ X2.length = la + lx - s ∧ Y1.length = md - s ∧ Y2.length = ly + s - md) := Lib.hid ⟨hX1, hX2, hY1, hY2⟩
        clear hX1 hX2 hY1 hY2 hXe hYe hdd sX sY q1 q2 HI
        obtain ⟨en, hen⟩ : ∃ en, md + la + lx - s = en := ⟨_, rfl⟩
        have henz : (md : Int) + ((la : Int) + (lx : Int)) - (s : Int) = (en : Int) := by omega
        have b1 : s ≤ la + lx := by omega
        have b2 : s ≤ md := by omega
        have b3 : la ≤ s := by omega
        have b4 : en ≤ la + lx + ly := by omega
        have ROT : Hid (s < la + lx → s < md → Calls Tryd.prog 72 #[.slice (some ⟨blk, off, none⟩) n cap, .int .i64 (s : Int), .int .i64 ((la : Int) + (lx : Int)), .int .i64 (en : Int), .func (.func g) #[] cb] wr fun e w' => e = .returned (.tuple #[]) ∧ ∃ d2, T2 k enc blk off n w0 A X1 Y1 X2 Y2 C d2 w') := Lib.hid (fun p1 p2 => by
          have l := HLs.out
          have := HROT.out (A ++ X1) X2 Y1 (Y2 ++ C) d wr hn S1.out (by rw [HDD.out]; simp) (by omega) (by omega)
          have e1 : (A ++ X1).length = s := by rw [List.length_append, HA.out]; omega
          rw [hn, e1, l.2.1, l.2.2.1, show ((s + (la + lx - s) + (md - s) : Nat) : Int) = (en : Int) by omega, show ((s + (la + lx - s) : Nat) : Int) = (la : Int) + (lx : Int) by omega] at this
          refine this.mono ?_
          rintro e w' ⟨h1, d2, h2, h3, h4⟩
          exact ⟨h1, d2, by rw [h2]; simp, h3, h4⟩)
        have REC1 : Hid (∀ d2 w2, la < s → s < md → T2 k enc blk off n w0 A X1 Y1 X2 Y2 C d2 w2 → Calls Tryd.prog 71 #[.slice (some ⟨blk, off, none⟩) n cap, .int .i64 (la : Int), .int .i64 (s : Int), .int .i64 (md : Int), .func (.func g) #[] cb] w2 fun e w' => e = .returned (.tuple #[]) ∧ ∃ d3 Z1, T3 k enc key blk off n w0 A X1 Y1 X2 Y2 C d3 Z1 w') := Lib.hid (fun d2 w2 p3 p2 ht => by
          have l := HLs.out
          have hNN := HNN.out
          rw [HLX.out, HLY.out] at hNN
          have := HIH.out A X1 Y1 (X2 ++ (Y2 ++ C)) d2 w2 (by omega) (by omega) (by omega) (Srt.append.1 HSS.out.1).1 (Srt.append.1 HSS.out.2).1 ht.2.1 ht.2.2 (by rw [ht.1])
          rw [HA.out, l.1, l.2.2.1, show ((la + (s - la) + (md - s) : Nat) : Int) = (md : Int) by omega, show ((la + (s - la) : Nat) : Int) = (s : Int) by omega] at this
          refine this.mono ?_
          rintro e w' ⟨h1, d3, Z, h2, h3, h4, h5⟩
          have h6 := len_mid (d := d2) (d' := d3) (A := A) (W := X1 ++ Y1) (Z := Z) (C := X2 ++ (Y2 ++ C)) (by rw [ht.1]; simp) h2 (by rw [h4, ht.2.1])
          exact ⟨h1, d3, Z, h2, h3, by rw [h6, List.length_append], h4, h5⟩)
        have REC2 : Hid (∀ d3 Z1 w3, s < la + lx → en < la + lx + ly → T3 k enc key blk off n w0 A X1 Y1 X2 Y2 C d3 Z1 w3 → Calls Tryd.prog 71 #[.slice (some ⟨blk, off, none⟩) n cap, .int .i64 (md : Int), .int .i64 (en : Int), .int .i64 ((la : Int) + (lx : Int) + (ly : Int)), .func (.func g) #[] cb] w3 fun e w' => e = .returned (.tuple #[]) ∧ ∃ d4 Z2, T4 k enc key blk off n w0 A X2 Y2 C Z1 d4 Z2 w') := Lib.hid (fun d3 Z1 w3 p1 p4 ht => by
          have l := HLs.out
          have hNN := HNN.out
          rw [HLX.out, HLY.out] at hNN
          have e1 : (A ++ Z1).length = md := by rw [List.length_append, HA.out, ht.2.2.1]; omega
          have := HIH.out (A ++ Z1) X2 Y2 C d3 w3 (by omega) (by omega) (by omega) (Srt.append.1 HSS.out.1).2.1 (Srt.append.1 HSS.out.2).2.1 ht.2.2.2.1 ht.2.2.2.2 (by rw [ht.1]; simp)
          rw [e1, l.2.1, l.2.2.2, show ((md + (la + lx - s) + (ly + s - md) : Nat) : Int) = (la : Int) + (lx : Int) + (ly : Int) by omega, show ((md + (la + lx - s) : Nat) : Int) = (en : Int) by omega] at this
          refine this.mono ?_
          rintro e w' ⟨h1, d4, Z, h2, h3, h4, h5⟩
          exact ⟨h1, d4, Z, by rw [h2]; simp, h3, h4, h5⟩)
        have NOR : Hid (¬ (s < la + lx ∧ s < md) → T2 k enc blk off n w0 A X1 Y1 X2 Y2 C d wr) := Lib.hid (fun h => by
          have l := HLs.out
          refine ⟨?_, hn, S1.out⟩
          rw [HDD.out]
          by_cases p1 : s < la + lx
          · obtain rfl : Y1 = [] := List.eq_nil_of_length_eq_zero (by omega)
            simp
          · obtain rfl : X2 = [] := List.eq_nil_of_length_eq_zero (by omega)
            simp)
        have NO1 : Hid (∀ d2 w2, ¬ (la < s ∧ s < md) → T2 k enc blk off n w0 A X1 Y1 X2 Y2 C d2 w2 → T3 k enc key blk off n w0 A X1 Y1 X2 Y2 C d2 (X1 ++ Y1) w2) := Lib.hid (fun d2 w2 h ht => by
          have l := HLs.out
          refine ⟨by rw [ht.1]; simp, Mrg.self ?_, by rw [List.length_append], ht.2.1, ht.2.2⟩
          by_cases p3 : la < s
          · obtain rfl : Y1 = [] := List.eq_nil_of_length_eq_zero (by omega)
            simpa using (Srt.append.1 HSS.out.1).1
          · obtain rfl : X1 = [] := List.eq_nil_of_length_eq_zero (by omega)
            simpa using (Srt.append.1 HSS.out.2).1)
        have NO2 : Hid (∀ d3 Z1 w3, ¬ (s < la + lx ∧ en < la + lx + ly) → T3 k enc key blk off n w0 A X1 Y1 X2 Y2 C d3 Z1 w3 → T4 k enc key blk off n w0 A X2 Y2 C Z1 d3 (X2 ++ Y2) w3) := Lib.hid (fun d3 Z1 w3 h ht => by
          have l := HLs.out
          refine ⟨by rw [ht.1]; simp, Mrg.self ?_, ht.2.2.2.1, ht.2.2.2.2⟩
          by_cases p1 : s < la + lx
          · obtain rfl : Y2 = [] := List.eq_nil_of_length_eq_zero (by omega)
            simpa using (Srt.append.1 HSS.out.1).2.1
          · obtain rfl : X2 = [] := List.eq_nil_of_length_eq_zero (by omega)
            simpa using (Srt.append.1 HSS.out.2).2.1)
        have FIN : Hid (∀ d3 Z1 w3 d4 Z2 w4, T3 k enc key blk off n w0 A X1 Y1 X2 Y2 C d3 Z1 w3 → T4 k enc key blk off n w0 A X2 Y2 C Z1 d4 Z2 w4 → ∃ d' Z, d'.toList = A ++ (Z ++ C) ∧ Mrg key (X ++ Y) Z ∧ d'.size = n ∧ SWK enc k w0 blk off d' w4) := Lib.hid (fun d3 Z1 w3 d4 Z2 w4 h3 h4 => ⟨d4, Z1 ++ Z2, h4.1, HG.out Z1 Z2 h3.2.1 h4.2.1, h4.2.2.1, h4.2.2.2⟩)
        clear HIH HROT HG HSS HDD HLs S1
        by_cases hp1 : s < la + lx
        · by_cases hp2 : s < md
          · by_cases hp3 : la < s
            · by_cases hp4 : en < la + lx + ly
              · have c1 : (s : Int) < (la : Int) + (lx : Int) := by omega
                have c2 : (la : Int) + (lx : Int) < (en : Int) := by omega
                have c3 : (la : Int) < (s : Int) := by omega
                have c4 : (s : Int) < (md : Int) := by omega
                have c5 : (md : Int) < (en : Int) := by omega
                have c6 : (en : Int) < (la : Int) + (lx : Int) + (ly : Int) := by omega
                have tk1 : True := trivial
                go_wp2_with (first
                  | (go_at_call 72; refine (ROT.out hp1 hp2).mono ?_; rintro e w2 ⟨rfl, d2, t2⟩; have HT2 := Lib.hid t2; clear t2)
                  | (go_at_call 71; clear tk1; refine (REC1.out d2 w2 hp3 hp2 HT2.out).mono ?_; rintro e w3 ⟨rfl, d3, Z1, t3⟩; have HT3 := Lib.hid t3; clear t3)
                  | (go_at_call 71; refine (REC2.out d3 Z1 w3 hp1 hp4 HT3.out).mono ?_; rintro e w4 ⟨rfl, d4, Z2, t4⟩))
                all_goals (go_end0; exact ⟨rfl, FIN.out d3 Z1 w3 d4 Z2 w4 HT3.out t4⟩)

              · have c1 : (s : Int) < (la : Int) + (lx : Int) := by omega
                have c2 : (la : Int) + (lx : Int) < (en : Int) := by omega
                have c3 : (la : Int) < (s : Int) := by omega
                have c4 : (s : Int) < (md : Int) := by omega
                have c5 : (md : Int) < (en : Int) := by omega
                have c6 : ¬ ((en : Int) < (la : Int) + (lx : Int) + (ly : Int)) := by omega
                have tk1 : True := trivial
                go_wp2_with (first
                  | (go_at_call 72; refine (ROT.out hp1 hp2).mono ?_; rintro e w2 ⟨rfl, d2, t2⟩; have HT2 := Lib.hid t2; clear t2)
                  | (go_at_call 71; clear tk1; refine (REC1.out d2 w2 hp3 hp2 HT2.out).mono ?_; rintro e w3 ⟨rfl, d3, Z1, t3⟩; have HT3 := Lib.hid t3; clear t3))
                all_goals (go_end0; exact ⟨rfl, FIN.out d3 Z1 w3 d3 (X2 ++ Y2) w3 HT3.out (NO2.out d3 Z1 w3 (by omega) HT3.out)⟩)


            · by_cases hp4 : en < la + lx + ly
              · have c1 : (s : Int) < (la : Int) + (lx : Int) := by omega
                have c2 : (la : Int) + (lx : Int) < (en : Int) := by omega
                have c3 : ¬ ((la : Int) < (s : Int)) := by omega
                have c4 : (s : Int) < (md : Int) := by omega
                have c5 : (md : Int) < (en : Int) := by omega
                have c6 : (en : Int) < (la : Int) + (lx : Int) + (ly : Int) := by omega
                have tk1 : True := trivial
                go_wp2_with (first
                  | (go_at_call 72; refine (ROT.out hp1 hp2).mono ?_; rintro e w2 ⟨rfl, d2, t2⟩; have HT2 := Lib.hid t2; clear t2)
                  | (go_at_call 71; refine (REC2.out d2 (X1 ++ Y1) w2 hp1 hp4 (NO1.out d2 w2 (by omega) HT2.out)).mono ?_; rintro e w4 ⟨rfl, d4, Z2, t4⟩))
                all_goals (go_end0; exact ⟨rfl, FIN.out d2 (X1 ++ Y1) w2 d4 Z2 w4 (NO1.out d2 w2 (by omega) HT2.out) t4⟩)

              · have c1 : (s : Int) < (la : Int) + (lx : Int) := by omega
                have c2 : (la : Int) + (lx : Int) < (en : Int) := by omega
                have c3 : ¬ ((la : Int) < (s : Int)) := by omega
                have c4 : (s : Int) < (md : Int) := by omega
                have c5 : (md : Int) < (en : Int) := by omega
                have c6 : ¬ ((en : Int) < (la : Int) + (lx : Int) + (ly : Int)) := by omega
                have tk1 : True := trivial
                go_wp2_with (first
                  | (go_at_call 72; refine (ROT.out hp1 hp2).mono ?_; rintro e w2 ⟨rfl, d2, t2⟩; have HT2 := Lib.hid t2; clear t2))
                all_goals (go_end0; exact ⟨rfl, FIN.out d2 (X1 ++ Y1) w2 d2 (X2 ++ Y2) w2 (NO1.out d2 w2 (by omega) HT2.out) (NO2.out d2 (X1 ++ Y1) w2 (by omega) (NO1.out d2 w2 (by omega) HT2.out))⟩)



          · by_cases hp3 : la < s
            · by_cases hp4 : en < la + lx + ly
              · have c1 : (s : Int) < (la : Int) + (lx : Int) := by omega
                have c2 : ¬ ((la : Int) + (lx : Int) < (en : Int)) := by omega
                have c3 : (la : Int) < (s : Int) := by omega
                have c4 : ¬ ((s : Int) < (md : Int)) := by omega
                have c5 : (md : Int) < (en : Int) := by omega
                have c6 : (en : Int) < (la : Int) + (lx : Int) + (ly : Int) := by omega
                have HT2 := Lib.hid (NOR.out (by omega))
                have tk1 : True := trivial
                go_wp2_with (first
                  | (go_at_call 71; refine (REC2.out d (X1 ++ Y1) wr hp1 hp4 (NO1.out d wr (by omega) HT2.out)).mono ?_; rintro e w4 ⟨rfl, d4, Z2, t4⟩))
                all_goals (go_end0; exact ⟨rfl, FIN.out d (X1 ++ Y1) wr d4 Z2 w4 (NO1.out d wr (by omega) HT2.out) t4⟩)

              · have c1 : (s : Int) < (la : Int) + (lx : Int) := by omega
                have c2 : ¬ ((la : Int) + (lx : Int) < (en : Int)) := by omega
                have c3 : (la : Int) < (s : Int) := by omega
                have c4 : ¬ ((s : Int) < (md : Int)) := by omega
                have c5 : (md : Int) < (en : Int) := by omega
                have c6 : ¬ ((en : Int) < (la : Int) + (lx : Int) + (ly : Int)) := by omega
                have HT2 := Lib.hid (NOR.out (by omega))
                have tk1 : True := trivial
                go_wp2_with fail
                all_goals (go_end0; exact ⟨rfl, FIN.out d (X1 ++ Y1) wr d (X2 ++ Y2) wr (NO1.out d wr (by omega) HT2.out) (NO2.out d (X1 ++ Y1) wr (by omega) (NO1.out d wr (by omega) HT2.out))⟩)


            · by_cases hp4 : en < la + lx + ly
              · have c1 : (s : Int) < (la : Int) + (lx : Int) := by omega
                have c2 : ¬ ((la : Int) + (lx : Int) < (en : Int)) := by omega
                have c3 : ¬ ((la : Int) < (s : Int)) := by omega
                have c4 : ¬ ((s : Int) < (md : Int)) := by omega
                have c5 : (md : Int) < (en : Int) := by omega
                have c6 : (en : Int) < (la : Int) + (lx : Int) + (ly : Int) := by omega
                have HT2 := Lib.hid (NOR.out (by omega))
                have tk1 : True := trivial
                go_wp2_with (first
                  | (go_at_call 71; refine (REC2.out d (X1 ++ Y1) wr hp1 hp4 (NO1.out d wr (by omega) HT2.out)).mono ?_; rintro e w4 ⟨rfl, d4, Z2, t4⟩))
                all_goals (go_end0; exact ⟨rfl, FIN.out d (X1 ++ Y1) wr d4 Z2 w4 (NO1.out d wr (by omega) HT2.out) t4⟩)

              · have c1 : (s : Int) < (la : Int) + (lx : Int) := by omega
                have c2 : ¬ ((la : Int) + (lx : Int) < (en : Int)) := by omega
                have c3 : ¬ ((la : Int) < (s : Int)) := by omega
                have c4 : ¬ ((s : Int) < (md : Int)) := by omega
                have c5 : (md : Int) < (en : Int) := by omega
                have c6 : ¬ ((en : Int) < (la : Int) + (lx : Int) + (ly : Int)) := by omega
                have HT2 := Lib.hid (NOR.out (by omega))
                have tk1 : True := trivial
                go_wp2_with fail
                all_goals (go_end0; exact ⟨rfl, FIN.out d (X1 ++ Y1) wr d (X2 ++ Y2) wr (NO1.out d wr (by omega) HT2.out) (NO2.out d (X1 ++ Y1) wr (by omega) (NO1.out d wr (by omega) HT2.out))⟩)




        · by_cases hp2 : s < md
          · by_cases hp3 : la < s
            · by_cases hp4 : en < la + lx + ly
              · have c1 : ¬ ((s : Int) < (la : Int) + (lx : Int)) := by omega
                have c2 : (la : Int) + (lx : Int) < (en : Int) := by omega
                have c3 : (la : Int) < (s : Int) := by omega
                have c4 : (s : Int) < (md : Int) := by omega
                have c5 : ¬ ((md : Int) < (en : Int)) := by omega
                have c6 : (en : Int) < (la : Int) + (lx : Int) + (ly : Int) := by omega
                have HT2 := Lib.hid (NOR.out (by omega))
                have tk1 : True := trivial
                go_wp2_with (first
                  | (go_at_call 71; clear tk1; refine (REC1.out d wr hp3 hp2 HT2.out).mono ?_; rintro e w3 ⟨rfl, d3, Z1, t3⟩; have HT3 := Lib.hid t3; clear t3))
                all_goals (go_end0; exact ⟨rfl, FIN.out d3 Z1 w3 d3 (X2 ++ Y2) w3 HT3.out (NO2.out d3 Z1 w3 (by omega) HT3.out)⟩)

              · have c1 : ¬ ((s : Int) < (la : Int) + (lx : Int)) := by omega
                have c2 : (la : Int) + (lx : Int) < (en : Int) := by omega
                have c3 : (la : Int) < (s : Int) := by omega
                have c4 : (s : Int) < (md : Int) := by omega
                have c5 : ¬ ((md : Int) < (en : Int)) := by omega
                have c6 : ¬ ((en : Int) < (la : Int) + (lx : Int) + (ly : Int)) := by omega
                have HT2 := Lib.hid (NOR.out (by omega))
                have tk1 : True := trivial
                go_wp2_with (first
                  | (go_at_call 71; clear tk1; refine (REC1.out d wr hp3 hp2 HT2.out).mono ?_; rintro e w3 ⟨rfl, d3, Z1, t3⟩; have HT3 := Lib.hid t3; clear t3))
                all_goals (go_end0; exact ⟨rfl, FIN.out d3 Z1 w3 d3 (X2 ++ Y2) w3 HT3.out (NO2.out d3 Z1 w3 (by omega) HT3.out)⟩)


            · by_cases hp4 : en < la + lx + ly
              · have c1 : ¬ ((s : Int) < (la : Int) + (lx : Int)) := by omega
                have c2 : (la : Int) + (lx : Int) < (en : Int) := by omega
                have c3 : ¬ ((la : Int) < (s : Int)) := by omega
                have c4 : (s : Int) < (md : Int) := by omega
                have c5 : ¬ ((md : Int) < (en : Int)) := by omega
                have c6 : (en : Int) < (la : Int) + (lx : Int) + (ly : Int) := by omega
                have HT2 := Lib.hid (NOR.out (by omega))
                have tk1 : True := trivial
                go_wp2_with fail
                all_goals (go_end0; exact ⟨rfl, FIN.out d (X1 ++ Y1) wr d (X2 ++ Y2) wr (NO1.out d wr (by omega) HT2.out) (NO2.out d (X1 ++ Y1) wr (by omega) (NO1.out d wr (by omega) HT2.out))⟩)

              · have c1 : ¬ ((s : Int) < (la : Int) + (lx : Int)) := by omega
                have c2 : (la : Int) + (lx : Int) < (en : Int) := by omega
                have c3 : ¬ ((la : Int) < (s : Int)) := by omega
                have c4 : (s : Int) < (md : Int) := by omega
                have c5 : ¬ ((md : Int) < (en : Int)) := by omega
                have c6 : ¬ ((en : Int) < (la : Int) + (lx : Int) + (ly : Int)) := by omega
                have HT2 := Lib.hid (NOR.out (by omega))
                have tk1 : True := trivial
                go_wp2_with fail
                all_goals (go_end0; exact ⟨rfl, FIN.out d (X1 ++ Y1) wr d (X2 ++ Y2) wr (NO1.out d wr (by omega) HT2.out) (NO2.out d (X1 ++ Y1) wr (by omega) (NO1.out d wr (by omega) HT2.out))⟩)



          · by_cases hp3 : la < s
            · by_cases hp4 : en < la + lx + ly
              · have c1 : ¬ ((s : Int) < (la : Int) + (lx : Int)) := by omega
                have c2 : ¬ ((la : Int) + (lx : Int) < (en : Int)) := by omega
                have c3 : (la : Int) < (s : Int) := by omega
                have c4 : ¬ ((s : Int) < (md : Int)) := by omega
                have c5 : ¬ ((md : Int) < (en : Int)) := by omega
                have c6 : (en : Int) < (la : Int) + (lx : Int) + (ly : Int) := by omega
                have HT2 := Lib.hid (NOR.out (by omega))
                have tk1 : True := trivial
                go_wp2_with fail
                all_goals (go_end0; exact ⟨rfl, FIN.out d (X1 ++ Y1) wr d (X2 ++ Y2) wr (NO1.out d wr (by omega) HT2.out) (NO2.out d (X1 ++ Y1) wr (by omega) (NO1.out d wr (by omega) HT2.out))⟩)

              · have c1 : ¬ ((s : Int) < (la : Int) + (lx : Int)) := by omega
                have c2 : ¬ ((la : Int) + (lx : Int) < (en : Int)) := by omega
                have c3 : (la : Int) < (s : Int) := by omega
                have c4 : ¬ ((s : Int) < (md : Int)) := by omega
                have c5 : ¬ ((md : Int) < (en : Int)) := by omega
                have c6 : ¬ ((en : Int) < (la : Int) + (lx : Int) + (ly : Int)) := by omega
                have HT2 := Lib.hid (NOR.out (by omega))
                have tk1 : True := trivial
                go_wp2_with fail
                all_goals (go_end0; exact ⟨rfl, FIN.out d (X1 ++ Y1) wr d (X2 ++ Y2) wr (NO1.out d wr (by omega) HT2.out) (NO2.out d (X1 ++ Y1) wr (by omega) (NO1.out d wr (by omega) HT2.out))⟩)


            · by_cases hp4 : en < la + lx + ly
              · have c1 : ¬ ((s : Int) < (la : Int) + (lx : Int)) := by omega
                have c2 : ¬ ((la : Int) + (lx : Int) < (en : Int)) := by omega
                have c3 : ¬ ((la : Int) < (s : Int)) := by omega
                have c4 : ¬ ((s : Int) < (md : Int)) := by omega
                have c5 : ¬ ((md : Int) < (en : Int)) := by omega
                have c6 : (en : Int) < (la : Int) + (lx : Int) + (ly : Int) := by omega
                have HT2 := Lib.hid (NOR.out (by omega))
                have tk1 : True := trivial
                go_wp2_with fail
                all_goals (go_end0; exact ⟨rfl, FIN.out d (X1 ++ Y1) wr d (X2 ++ Y2) wr (NO1.out d wr (by omega) HT2.out) (NO2.out d (X1 ++ Y1) wr (by omega) (NO1.out d wr (by omega) HT2.out))⟩)

              · have c1 : ¬ ((s : Int) < (la : Int) + (lx : Int)) := by omega
                have c2 : ¬ ((la : Int) + (lx : Int) < (en : Int)) := by omega
                have c3 : ¬ ((la : Int) < (s : Int)) := by omega
                have c4 : ¬ ((s : Int) < (md : Int)) := by omega
                have c5 : ¬ ((md : Int) < (en : Int)) := by omega
                have c6 : ¬ ((en : Int) < (la : Int) + (lx : Int) + (ly : Int)) := by omega
                have HT2 := Lib.hid (NOR.out (by omega))
                have tk1 : True := trivial
                go_wp2_with fail
                all_goals (go_end0; exact ⟨rfl, FIN.out d (X1 ++ Y1) wr d (X2 ++ Y2) wr (NO1.out d wr (by omega) HT2.out) (NO2.out d (X1 ++ Y1) wr (by omega) (NO1.out d wr (by omega) HT2.out))⟩)




end Go.Proofs.YtjjnhmbgffdenaaDoor
