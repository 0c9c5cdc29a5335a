import Derived.Sort.LotA
import Derived.Test.YtjjnhmbgffdenaaDoorChecked
import Derived.Shelf.SlSortCmp.KitK
import Derived.Sort.WalkB2
import Derived.Sort.WalkB12
import Derived.Deep.LoopGhost
import Derived.Lib.Hide
import Derived.Deep.Cut
namespace Go.Proofs.YtjjnhmbgffdenaaDoor
open Go.Sort
variable {α : Type} [Inhabited α] (key : α → Int)

/-- Ascending by a key. -/
def Srt (l : List α) : Prop := l.Pairwise fun x y => key x ≤ key y
/-- Those with a key. -/
def Fl (k : Int) (l : List α) : List α := l.filter fun x => key x == k
/-- The same elements, those with one key in their order. -/
def Sam (l l' : List α) : Prop := ∀ k, Fl key k l' = Fl key k l
variable {key}
omit [Inhabited α] in
theorem Fl_append (k : Int) (l l' : List α) : Fl key k (l ++ l') = Fl key k l ++ Fl key k l' := List.filter_append ..
omit [Inhabited α] in
theorem Sam.refl (l : List α) : Sam key l l := fun _ => rfl
omit [Inhabited α] in
theorem Sam.trans {a b c : List α} (h : Sam key a b) (h' : Sam key b c) : Sam key a c := fun k => (h' k).trans (h k)
omit [Inhabited α] in
theorem Sam.symm {a b : List α} (h : Sam key a b) : Sam key b a := fun k => (h k).symm
omit [Inhabited α] in
theorem Sam.append {a b c d : List α} (h : Sam key a b) (h' : Sam key c d) : Sam key (a ++ c) (b ++ d) := fun k => by
  rw [Fl_append, Fl_append, h k, h' k]
omit [Inhabited α] in
theorem Sam.mem {a b : List α} (h : Sam key a b) (x : α) : x ∈ b ↔ x ∈ a := by
  have : ∀ l : List α, x ∈ l ↔ x ∈ Fl key (key x) l := fun l => by simp [Fl]
  rw [this b, this a, h]
omit [Inhabited α] in
/-- What is less than all of another list changes places with it. -/
theorem Sam.swap {a b : List α} (h : ∀ x ∈ a, ∀ y ∈ b, key y < key x) : Sam key (a ++ b) (b ++ a) := fun k => by
  rw [Fl_append, Fl_append]
  by_cases h1 : Fl key k a = []
  · rw [h1]; simp
  · have h2 : Fl key k b = [] := by
      obtain ⟨x, hx⟩ := List.exists_mem_of_ne_nil _ h1
      simp only [Fl, List.mem_filter, beq_iff_eq] at hx
      simp only [Fl, List.filter_eq_nil_iff, beq_iff_eq]
      intro y hy e
      have := h x hx.1 y hy
      omega
    rw [h2]; simp
omit [Inhabited α] in
theorem Srt.append {a b : List α} : Srt key (a ++ b) ↔ Srt key a ∧ Srt key b ∧ ∀ x ∈ a, ∀ y ∈ b, key x ≤ key y := List.pairwise_append

/-- A merge: ascending, the same elements. -/
structure Mrg (key : α → Int) (l l' : List α) : Prop where
  srt : Srt key l'
  sam : Sam key l l'
omit [Inhabited α] in
theorem Mrg.general {X1 X2 Y1 Y2 Z1 Z2 : List α} (hX : Srt key (X1 ++ X2)) (hY : Srt key (Y1 ++ Y2)) (h1 : ∀ x ∈ X1, ∀ y ∈ Y2, key x ≤ key y) (h2 : ∀ x ∈ X2, ∀ y ∈ Y1, key y < key x)
    (m1 : Mrg key (X1 ++ Y1) Z1) (m2 : Mrg key (X2 ++ Y2) Z2) : Mrg key ((X1 ++ X2) ++ (Y1 ++ Y2)) (Z1 ++ Z2) := by
  obtain ⟨_, _, hx⟩ := Srt.append.1 hX
  obtain ⟨_, _, hy⟩ := Srt.append.1 hY
  refine ⟨Srt.append.2 ⟨m1.srt, m2.srt, fun x hx' y hy' => ?_⟩, ?_⟩
  · rcases List.mem_append.1 ((m1.sam.mem x).1 hx') with a | a <;> rcases List.mem_append.1 ((m2.sam.mem y).1 hy') with b | b
    · exact hx x a y b
    · exact h1 x a y b
    · exact Int.le_of_lt (h2 y b x a)
    · exact hy x a y b
  · refine Sam.trans (b := (X1 ++ Y1) ++ (X2 ++ Y2)) ?_ (m1.sam.append m2.sam)
    have : Sam key (X1 ++ ((X2 ++ Y1) ++ Y2)) (X1 ++ ((Y1 ++ X2) ++ Y2)) := (Sam.refl _).append ((Sam.swap h2).append (Sam.refl _))
    simpa [List.append_assoc] using this
omit [Inhabited α] in
/-- One element into a list: behind those that are less. -/
theorem Mrg.front {x : α} {Y1 Y2 : List α} (hY : Srt key (Y1 ++ Y2)) (h1 : ∀ y ∈ Y1, key y < key x) (h2 : ∀ y ∈ Y2, key x ≤ key y) : Mrg key (x :: (Y1 ++ Y2)) (Y1 ++ x :: Y2) := by
  obtain ⟨a, b, c⟩ := Srt.append.1 hY
  refine ⟨Srt.append.2 ⟨a, List.pairwise_cons.2 ⟨h2, b⟩, fun y hy z hz => ?_⟩, ?_⟩
  · rcases List.mem_cons.1 hz with rfl | hz
    · exact Int.le_of_lt (h1 y hy)
    · exact c y hy z hz
  · have : Sam key (([x] ++ Y1) ++ Y2) ((Y1 ++ [x]) ++ Y2) := (Sam.swap fun z hz y hy => by rw [List.mem_singleton.1 hz]; exact h1 y hy).append (Sam.refl _)
    simpa using this
omit [Inhabited α] in
theorem Mrg.back {y : α} {X1 X2 : List α} (hX : Srt key (X1 ++ X2)) (h1 : ∀ x ∈ X1, key x ≤ key y) (h2 : ∀ x ∈ X2, key y < key x) : Mrg key ((X1 ++ X2) ++ [y]) (X1 ++ y :: X2) := by
  obtain ⟨a, b, c⟩ := Srt.append.1 hX
  refine ⟨Srt.append.2 ⟨a, List.pairwise_cons.2 ⟨fun x hx => Int.le_of_lt (h2 x hx), b⟩, fun x hx z hz => ?_⟩, ?_⟩
  · rcases List.mem_cons.1 hz with rfl | hz
    · exact h1 x hx
    · exact c x hx z hz
  · have : Sam key (X1 ++ (X2 ++ [y])) (X1 ++ ([y] ++ X2)) := (Sam.refl _).append (Sam.swap fun x hx z hz => by rw [List.mem_singleton.1 hz]; exact h2 x hx)
    simpa using this

omit [Inhabited α] in
theorem snoc_of {l : List α} (h : l ≠ []) : ∃ U u, l = U ++ [u] := by
  rcases List.eq_nil_or_concat l with e | ⟨U, u, e⟩
  · exact absurd e h
  · exact ⟨U, u, by simpa using e⟩
/-! Arrays as lists. -/
theorem get_at {d : Array α} {P R : List α} {u : α} (h : d.toList = P ++ u :: R) {i : Nat} (hi : i = P.length) : d[i]! = u := by
  subst hi
  rw [← Array.getElem!_toList, h]
  simp
theorem swp_list {d : Array α} {P Q R : List α} {u v : α} (h : d.toList = P ++ u :: (Q ++ v :: R)) {i j : Nat} (hi : i = P.length) (hj : j = P.length + 1 + Q.length) : (swp d i j).toList = P ++ v :: (Q ++ u :: R) := by
  have e1 : d[i]! = u := get_at h hi
  have e2 : d[j]! = v := get_at (P := P ++ u :: Q) (R := R) (by rw [h]; simp) (by simp; omega)
  unfold swp
  rw [e1, e2, Array.toList_setIfInBounds, Array.toList_setIfInBounds, h, hi, hj]
  rw [List.set_append_right _ _ (Nat.le_refl _), Nat.sub_self, List.set_cons_zero]
  rw [List.set_append_right _ _ (by omega), show P.length + 1 + Q.length - P.length = Q.length + 1 by omega, List.set_cons_succ, List.set_append_right _ _ (Nat.le_refl _), Nat.sub_self, List.set_cons_zero]
/-- n exchanges. -/
def swr (d : Array α) (a b : Nat) : Nat → Array α
  | 0 => d
  | n + 1 => swp (swr d a b n) (a + n) (b + n)
theorem swr_size (d : Array α) (a b n : Nat) : (swr d a b n).size = d.size := by
  induction n with
  | zero => rfl
  | succ n ih => rw [swr, swp_size, ih]
theorem swr_list : ∀ (n : Nat) {d : Array α} {A U B V C : List α} {a b : Nat}, d.toList = A ++ (U ++ (B ++ (V ++ C))) → a = A.length → b = A.length + n + B.length → U.length = n → V.length = n → (swr d a b n).toList = A ++ (V ++ (B ++ (U ++ C))) := by
  intro n
  induction n with
  | zero =>
    intro d A U B V C a b h _ _ hU hV
    obtain rfl := List.eq_nil_of_length_eq_zero hU
    obtain rfl := List.eq_nil_of_length_eq_zero hV
    exact h
  | succ n ih =>
    intro d A U B V C a b h ha hb hU hV
    obtain ⟨U', u, rfl⟩ : ∃ U' u, U = U' ++ [u] := snoc_of (by intro e; simp [e] at hU)
    obtain ⟨V', v, rfl⟩ : ∃ U' u, V = U' ++ [u] := snoc_of (by intro e; simp [e] at hV)
    simp only [List.length_append, List.length_cons, List.length_nil] at hU hV
    have h1 := ih (d := d) (A := A) (U := U') (B := u :: B) (V := V') (C := v :: C) (a := a) (b := b) (by rw [h]; simp) ha (by simp; omega) (by omega) (by omega)
    rw [swr]
    have h2 := swp_list (d := swr d a b n) (P := A ++ V') (Q := B ++ U') (R := C) (u := u) (v := v) (by rw [h1]; simp) (i := a + n) (j := b + n) (by simp; omega) (by simp; omega)
    rw [h2]; simp
omit [Inhabited α] in
/-- A list cut in two. -/
theorem cut_list (l : List α) (n : Nat) (h : n ≤ l.length) : ∃ a b, l = a ++ b ∧ a.length = n ∧ b.length = l.length - n := ⟨l.take n, l.drop n, (List.take_append_drop n l).symm, by simp; omega, by simp⟩
omit [Inhabited α] in
theorem Srt.le_mid {P R : List α} {u : α} (h : Srt key (P ++ u :: R)) : (∀ x ∈ P, key x ≤ key u) ∧ ∀ y ∈ R, key u ≤ key y := by
  obtain ⟨_, b, c⟩ := Srt.append.1 h
  exact ⟨fun x hx => c x hx u (by simp), (List.pairwise_cons.1 b).1⟩
end Go.Proofs.YtjjnhmbgffdenaaDoor
namespace Go.Proofs.YtjjnhmbgffdenaaDoor
open Go.Shelf Go.RowKit Go.Lib Go.Sort Go.Proofs

theorem aE40 : ∀ w, (isAgg 40).run Tryd.prog w = .ok true w := fun _ => by kernel_rfl
theorem zE40 : ∀ w, (Go.sizeOf 40).run Tryd.prog w = .ok 5 w := fun _ => by kernel_rfl
theorem mix40 : Tryd.prog.follows Departure.mixedOrders = true := by kernel_rfl
variable {α : Type} [Inhabited α]

set_option maxHeartbeats 4000000 in
set_option maxRecDepth 1000000 in
theorem swapRange_k (k : Nat) (zE : ∀ w, (Go.sizeOf 40).run Tryd.prog w = .ok k w) (enc : α → List Value) (g : Nat) (cb : Array Value) (blk off cap a b n : Nat) (d0 d : Array α) (w0 w : World)
    (R : RowK enc k w0 blk off d0) (hs : d0.size = d.size) (S : SWK enc k w0 blk off d w) (ha : a + n ≤ d.size) (hb : b + n ≤ d.size) (hsz : d.size < 4611686018427387904) :
    Calls Tryd.prog 73 #[.slice (some ⟨blk, off, none⟩) d.size cap, .int .i64 a, .int .i64 b, .int .i64 n, .func (.func g) #[] cb] w fun e w' => e = .returned (.tuple #[]) ∧ SWK enc k w0 blk off (swr d a b n) w' := by
  have aE := aE40
  have mixed := mix40
  have S0 : Aside (SWK enc k w0 blk off d w) := S
  clear S
  go_enter Tryd.func73, Tryd.ntmps73
  go_wp2
  go_loopg [10] n (fun g1 s10 wr => ∃ i : Nat, s10 = .int .i64 i ∧ i ≤ n ∧ n - i ≤ g1 ∧ Aside (SWK enc k w0 blk off (swr d a b i) wr))
  case atStart => exact ⟨0, rfl, by omega, by omega, S0⟩
  case round =>
    clear S0
    obtain ⟨i, rfl, hi, hg, S1⟩ := hrel
    by_cases hlt : i < n
    · have hlz : (i : Int) < (n : Int) := by omega
      have hds : (swr d a b i).size = d.size := swr_size d a b i
      go_wp2_with fail
      have ea : ((a : Int) + (i : Int)).toNat = a + i := by omega
      have pa : (0 : Int) ≤ (a : Int) + (i : Int) := by omega
      have ba : (a : Int) + (i : Int) < (d.size : Int) := by omega
      have ra : IntKind.i64.wrap ((a : Int) + (i : Int)) = (a : Int) + (i : Int) := by rw [IntKind.wrap_i64]; omega
      have ec : ((b : Int) + (i : Int)).toNat = b + i := by omega
      have pc : (0 : Int) ≤ (b : Int) + (i : Int) := by omega
      have bc : (b : Int) + (i : Int) < (d.size : Int) := by omega
      have rc : IntKind.i64.wrap ((b : Int) + (i : Int)) = (b : Int) + (i : Int) := by rw [IntKind.wrap_i64]; omega
      have S2 : Aside (SWK enc k w0 blk off (swr d a b (i + 1)) ((wr.drew.setCells blk (off + (a + i) * k) (enc (swr d a b i)[b + i]!)).setCells blk (off + (b + i) * k) (enc (swr d a b i)[a + i]!))) := S1.out.swapped R (a + i) (b + i) (by omega) (by omega)
      have l1 := S1.out.ld1 R (by omega) Tryd.prog (a + i) (by omega)
      have l2 := S1.out.ld1 R (by omega) Tryd.prog (b + i) (by omega)
      have s1 := S1.out.st1 R (by omega) Tryd.prog (a + i) (by omega) (swr d a b i)[b + i]!
      have s2 := S1.out.st2 R (by omega) Tryd.prog (a + i) (b + i) (by omega) (by omega) (swr d a b i)[b + i]! (swr d a b i)[a + i]!
      have n1 : (enc (swr d a b i)[a + i]!).length = k := R.hk _
      have n2 : (enc (swr d a b i)[b + i]!).length = k := R.hk _
      generalize enc (swr d a b i)[a + i]! = cI at S2 l1 s2 n1
      generalize enc (swr d a b i)[b + i]! = cJ at S2 l2 s1 s2 n2
      clear S1
      go_big_region_o
      clear l1 l2 s1 s2
      generalize (wr.drew.setCells blk (off + (a + i) * k) cJ).setCells blk (off + (b + i) * k) cI = w2 at S2 ⊢
      go_wp2
      go_roundg (n - (i + 1))
      case measure => omega
      case rel => exact ⟨i + 1, by go_num, by omega, by omega, S2⟩
    · obtain rfl : i = n := by omega
      have hlz : ¬ ((i : Int) < (i : Int)) := by omega
      go_wp2
      go_end0
      exact ⟨rfl, S1.out⟩
end Go.Proofs.YtjjnhmbgffdenaaDoor
namespace Go.Proofs.YtjjnhmbgffdenaaDoor
open Go.Shelf Go.RowKit Go.Lib Go.Sort Go.Proofs
variable {α : Type} [Inhabited α]

set_option maxHeartbeats 4000000 in
set_option maxRecDepth 1000000 in
/-- Two neighbouring parts change places. -/
theorem rotate_k (k : Nat) (zE : ∀ w, (Go.sizeOf 40).run Tryd.prog w = .ok k w) (enc : α → List Value) (g : Nat) (cb : Array Value) (blk off cap : Nat) (d0 d : Array α) (w0 w : World) (A X Y C : List α)
    (R : RowK enc k w0 blk off d0) (hs : d0.size = d.size) (S : SWK enc k w0 blk off d w) (hd : d.toList = A ++ (X ++ (Y ++ C))) (hX : 0 < X.length) (hY : 0 < Y.length) (hsz : d.size < 4611686018427387904) :
    Calls Tryd.prog 72 #[.slice (some ⟨blk, off, none⟩) d.size cap, .int .i64 A.length, .int .i64 (A.length + X.length : Nat), .int .i64 (A.length + X.length + Y.length : Nat), .func (.func g) #[] cb] w fun e w' => e = .returned (.tuple #[]) ∧
      ∃ d', d'.toList = A ++ (Y ++ (X ++ C)) ∧ d'.size = d.size ∧ SWK enc k w0 blk off d' w' := by
  obtain ⟨n, hn⟩ : ∃ n, d.size = n := ⟨_, rfl⟩
  obtain ⟨la, hla⟩ : ∃ n, A.length = n := ⟨_, rfl⟩
  obtain ⟨lx, hlx⟩ : ∃ n, X.length = n := ⟨_, rfl⟩
  obtain ⟨ly, hly⟩ : ∃ n, Y.length = n := ⟨_, rfl⟩
  have hn2 : la + lx + ly ≤ n := by
    have := congrArg List.length hd
    simp only [List.length_append, Array.length_toList] at this
    omega
  have K1 : ∀ (a b m : Nat) (d : Array α) (w : World), d.size = n → SWK enc k w0 blk off d w → a + m ≤ n → b + m ≤ n → Calls Tryd.prog 73 #[.slice (some ⟨blk, off, none⟩) n cap, .int .i64 a, .int .i64 b, .int .i64 m, .func (.func g) #[] cb] w fun e w' => e = .returned (.tuple #[]) ∧ SWK enc k w0 blk off (swr d a b m) w' := fun a b m d w h1 h2 h3 h4 => by
    have := swapRange_k k zE enc g cb blk off cap a b m d0 d w0 w R (by omega) h2 (by omega) (by omega) (by omega)
    rw [h1] at this; exact this
  have HK1 := Lib.hid K1
  have HS := Lib.hid S
  have HD := Lib.hid hd
  have HA := Lib.hid hla
  have HLX := Lib.hid hlx
  have HLY := Lib.hid hly
  have HN := Lib.hid hn
  rw [hn] at hsz ⊢
  rw [hla, hlx, hly]
  rw [hlx] at hX
  rw [hly] at hY
  have hna : (la : Int) + lx + ly ≤ n := by omega
  clear K1 R hs S hd hla hlx hly hn
  go_enter Tryd.func72, Tryd.ntmps72
  go_wp2
  go_loopg [10, 11] (lx + ly) (fun g1 s10 s11 wr => ∃ (i j : Nat) (P X' Y' S' : List α) (dk : Array α), s10 = .int .i64 i ∧ s11 = .int .i64 j ∧ i + j ≤ g1 ∧ 0 < i ∧ 0 < j ∧ i + j ≤ lx + ly ∧ i ≤ lx ∧ j ≤ ly ∧ Hid (dk.toList = P ++ (X' ++ (Y' ++ S')) ∧ P.length + i = la + lx ∧ X'.length = i ∧ Y'.length = j ∧ dk.size = n ∧ A ++ (Y ++ (X ++ C)) = P ++ (Y' ++ (X' ++ S')) ∧ SWK enc k w0 blk off dk wr))
  case atStart => exact ⟨lx, ly, A, X, Y, C, d, by go_num, by go_num, by omega, by omega, by omega, by omega, by omega, by omega, Lib.hid ⟨HD.out, by rw [HA.out], HLX.out, HLY.out, HN.out, rfl, HS.out⟩⟩
  case round =>
    clear HS HD HLX HLY HN
    obtain ⟨i, j, P, X', Y', S', dk, rfl, rfl, hg, hi, hj, hij, hix, hjy, H⟩ := hrel
    by_cases hne : i = j
    · subst hne
      have z1 : ((i : Int) == (i : Int)) = true := by simp
      have c1 := HK1.out (la + lx - i) (la + lx) i dk wr H.out.2.2.2.2.1 H.out.2.2.2.2.2.2 (by omega) (by omega)
      rw [show ((la + lx - i : Nat) : Int) = (la : Int) + lx - i by omega, show ((la + lx : Nat) : Int) = (la : Int) + lx by omega] at c1
      have r1 : IntKind.i64.wrap ((la : Int) + (lx : Int) - (i : Int)) = (la : Int) + (lx : Int) - (i : Int) := by rw [IntKind.wrap_i64]; omega
      have HC1 := Lib.hid c1
      clear c1
      go_upto_region 8 with fail
      go_wp2_with (go_at_call 73; refine HC1.out.mono ?_; rintro e w2 ⟨rfl, h2⟩)
      go_end0
      refine ⟨rfl, swr dk (la + lx - i) (la + lx) i, ?_, by rw [swr_size]; exact H.out.2.2.2.2.1, h2⟩
      rw [H.out.2.2.2.2.2.1]
      exact swr_list i (B := []) (by simpa using H.out.1) (by have := H.out.2.1; omega) (by have := H.out.2.1; simp; omega) H.out.2.2.1 H.out.2.2.2.1
    · have z1 : ((i : Int) == (j : Int)) = false := by simp; omega
      by_cases hlt : j < i
      · have z2 : (j : Int) < (i : Int) := by omega
        obtain ⟨X1, X2, hXe, hX1, hX2⟩ := cut_list X' j (by rw [H.out.2.2.1]; omega)
        have c1 := HK1.out (la + lx - i) (la + lx) j dk wr H.out.2.2.2.2.1 H.out.2.2.2.2.2.2 (by omega) (by omega)
        rw [show ((la + lx - i : Nat) : Int) = (la : Int) + lx - i by omega, show ((la + lx : Nat) : Int) = (la : Int) + lx by omega] at c1
        have r1 : IntKind.i64.wrap ((la : Int) + (lx : Int) - (i : Int)) = (la : Int) + (lx : Int) - (i : Int) := by rw [IntKind.wrap_i64]; omega
        have HC1 := Lib.hid c1
        have HX1 := Lib.hid hXe
        have HL1 := Lib.hid hX1
        have HL2 := Lib.hid hX2
        clear c1 hXe hX1 hX2
        go_wp2_with (go_at_call 73; refine HC1.out.mono ?_; rintro e w2 ⟨rfl, h2⟩)
        go_roundg i
        case measure => omega
        case rel =>
          refine ⟨i - j, j, P ++ Y', X2, X1, S', swr dk (la + lx - i) (la + lx) j, ?_, rfl, by omega, by omega, by omega, by omega, by omega, by omega, Lib.hid ⟨?_, ?_, ?_, HL1.out, by rw [swr_size]; exact H.out.2.2.2.2.1, ?_, h2⟩⟩
          · refine congrArg (Value.int .i64) ?_
            rw [show ((i - j : Nat) : Int) = (i : Int) - j by omega]
          · have := swr_list j (d := dk) (A := P) (U := X1) (B := X2) (V := Y') (C := S') (a := la + lx - i) (b := la + lx) (by have := H.out.1; rw [HX1.out] at this; simpa using this) (by have := H.out.2.1; omega) (by have := H.out.2.1; have := HL2.out; have := H.out.2.2.1; omega) HL1.out H.out.2.2.2.1
            simpa using this
          · have := H.out.2.1; have := H.out.2.2.2.1; simp only [List.length_append]; omega
          · have := HL2.out; have := H.out.2.2.1; omega
          · rw [H.out.2.2.2.2.2.1, HX1.out]; simp
      · have z2 : ¬ ((j : Int) < (i : Int)) := by omega
        obtain ⟨Y1, Y2, hYe, hY1, hY2⟩ := cut_list Y' (j - i) (by rw [H.out.2.2.2.1]; omega)
        have c1 := HK1.out (la + lx - i) (la + lx + j - i) i dk wr H.out.2.2.2.2.1 H.out.2.2.2.2.2.2 (by omega) (by omega)
        rw [show ((la + lx - i : Nat) : Int) = (la : Int) + lx - i by omega, show ((la + lx + j - i : Nat) : Int) = (la : Int) + lx + j - i by omega] at c1
        have r1 : IntKind.i64.wrap ((la : Int) + (lx : Int) - (i : Int)) = (la : Int) + (lx : Int) - (i : Int) := by rw [IntKind.wrap_i64]; omega
        have r2 : IntKind.i64.wrap ((la : Int) + (lx : Int) + (j : Int)) = (la : Int) + (lx : Int) + (j : Int) := by rw [IntKind.wrap_i64]; omega
        have r3 : IntKind.i64.wrap ((la : Int) + (lx : Int) + (j : Int) - (i : Int)) = (la : Int) + (lx : Int) + (j : Int) - (i : Int) := by rw [IntKind.wrap_i64]; omega
        have HC1 := Lib.hid c1
        have HX1 := Lib.hid hYe
        have HL1 := Lib.hid hY1
        have HL2 := Lib.hid hY2
        clear c1 hYe hY1 hY2
        go_wp2_with (go_at_call 73; refine HC1.out.mono ?_; rintro e w2 ⟨rfl, h2⟩)
        go_roundg j
        case measure => omega
        case rel =>
          refine ⟨i, j - i, P, Y2, Y1, X' ++ S', swr dk (la + lx - i) (la + lx + j - i) i, rfl, ?_, by omega, by omega, by omega, by omega, by omega, by omega, Lib.hid ⟨?_, H.out.2.1, ?_, HL1.out, by rw [swr_size]; exact H.out.2.2.2.2.1, ?_, h2⟩⟩
          · refine congrArg (Value.int .i64) ?_
            rw [show ((j - i : Nat) : Int) = (j : Int) - i by omega]
          · have := swr_list i (d := dk) (A := P) (U := X') (B := Y1) (V := Y2) (C := S') (a := la + lx - i) (b := la + lx + j - i) (by have := H.out.1; rw [HX1.out] at this; simpa using this) (by have := H.out.2.1; omega) (by have := H.out.2.1; have := HL1.out; omega) H.out.2.2.1 (by have := HL2.out; have := H.out.2.2.2.1; omega)
            exact this
          · have := HL2.out; have := H.out.2.2.2.1; omega
          · rw [H.out.2.2.2.2.2.1, HX1.out]; simp
end Go.Proofs.YtjjnhmbgffdenaaDoor
namespace Go.Proofs.YtjjnhmbgffdenaaDoor
open Go.Shelf Go.RowKit Go.Lib Go.Sort Go.Proofs
variable {α : Type} [Inhabited α]
theorem mem_at {d : Array α} {P Y R : List α} (h : d.toList = P ++ (Y ++ R)) {y : α} (hy : y ∈ Y) : ∃ p, P.length ≤ p ∧ p < P.length + Y.length ∧ d[p]! = y := by
  obtain ⟨A, B, rfl⟩ := List.append_of_mem hy
  exact ⟨P.length + A.length, by omega, by simp only [List.length_append, List.length_cons]; omega, get_at (P := P ++ A) (R := B ++ R) (by rw [h]; simp) (by simp)⟩
theorem srt_at {key : α → Int} {d : Array α} {P Y R : List α} (h : d.toList = P ++ (Y ++ R)) (hs : Srt key Y) {p q : Nat} (hp : P.length ≤ p) (hpq : p ≤ q) (hq : q < P.length + Y.length) : key d[p]! ≤ key d[q]! := by
  rcases Nat.lt_or_eq_of_le hpq with hlt | rfl
  · have e : ∀ i (hi : i < Y.length), d[P.length + i]! = Y[i] := fun i hi => by
      have e2 : Y = Y.take i ++ Y[i] :: Y.drop (i + 1) := by rw [← List.drop_eq_getElem_cons hi, List.take_append_drop]
      have e1 : d.toList = (P ++ Y.take i) ++ Y[i] :: (Y.drop (i + 1) ++ R) := (h.trans (congrArg (fun l => P ++ (l ++ R)) e2)).trans (by simp only [List.append_assoc, List.cons_append])
      exact get_at e1 (by simp; omega)
    obtain ⟨i, rfl⟩ : ∃ i, p = P.length + i := ⟨p - P.length, by omega⟩
    obtain ⟨j, rfl⟩ : ∃ j, q = P.length + j := ⟨q - P.length, by omega⟩
    rw [e i (by omega), e j (by omega)]
    exact List.pairwise_iff_getElem.1 hs i j _ _ (by omega)
  · exact Int.le_refl _

set_option maxHeartbeats 4000000 in
set_option maxRecDepth 1000000 in
theorem symMerge_front (k : Nat) (zE : ∀ w, (Go.sizeOf 40).run Tryd.prog w = .ok k w) (enc : α → List Value) (key : α → Int) (cf : α → α → Int) (hcf : ∀ x y, cf x y < 0 ↔ key x < key y) (g : Nat) (cb : Array Value) (eg : ∀ args w, (callFunc g args).run Tryd.prog w = .ok (.enter g args) w) (blk off cap n : Nat) (d0 d : Array α) (w0 w : World) (hcmp : CmpLays Tryd.prog g cb enc k cf blk off n w0) (A Y C : List α) (x : α)
    (R : RowK enc k w0 blk off d0) (hs : d0.size = n) (hn : d.size = n) (S : SWK enc k w0 blk off d w) (hd : d.toList = A ++ (x :: (Y ++ C))) (hY : 0 < Y.length) (hSY : Srt key Y) (hsz : n < 4611686018427387904) :
    Calls Tryd.prog 71 #[.slice (some ⟨blk, off, none⟩) n cap, .int .i64 A.length, .int .i64 (A.length + 1 : Nat), .int .i64 (A.length + 1 + Y.length : Nat), .func (.func g) #[] cb] w fun e w' => e = .returned (.tuple #[]) ∧
      ∃ d' Z, d'.toList = A ++ (Z ++ C) ∧ Mrg key (x :: Y) Z ∧ d'.size = n ∧ SWK enc k w0 blk off d' w' := by
  have aE := aE40
  have mixed := mix40
  obtain ⟨la, hla⟩ : ∃ n, A.length = n := ⟨_, rfl⟩
  obtain ⟨ly, hly⟩ : ∃ n, Y.length = n := ⟨_, rfl⟩
  have hn2 : la + 1 + ly ≤ n := by
    have := congrArg List.length hd
    simp only [List.length_append, List.length_cons, Array.length_toList] at this
    omega
  have hx : d[la]! = x := get_at hd hla.symm
  have hsr : ∀ p q, la + 1 ≤ p → p ≤ q → q < la + 1 + ly → key d[p]! ≤ key d[q]! := fun p q h1 h2 h3 => srt_at (P := A ++ [x]) (Y := Y) (R := C) (by rw [hd]; simp) hSY (by simp; omega) h2 (by simp; omega)
  rw [hla, hly]
  rw [hly] at hY
  have HC := Lib.hid hcmp
  have HCF := Lib.hid hcf
  have HSR := Lib.hid hsr
  have HX := Lib.hid hx
  have HD := Lib.hid hd
  have HSY := Lib.hid hSY
  have HA := Lib.hid hla
  have HY := Lib.hid hly
  have S0 : Aside (SWK enc k w0 blk off d w) := S
  have rm : IntKind.i64.wrap ((la : Int) + 1 - (la : Int)) = 1 := by rw [IntKind.wrap_i64]; omega
  clear S hcmp hcf hsr hx hd hSY hla hly
  go_enter Tryd.func71, Tryd.ntmps71
  go_wp2
  go_loopg [10, 11] (ly + 1) (fun g1 s10 s11 wr => ∃ (i j : Nat), s10 = .int .i64 i ∧ s11 = .int .i64 j ∧ j - i ≤ g1 ∧ la + 1 ≤ i ∧ i ≤ j ∧ j ≤ la + 1 + ly ∧ Hid ((∀ p, la + 1 ≤ p → p < i → key d[p]! < key x) ∧ ∀ p, j ≤ p → p < la + 1 + ly → key x ≤ key d[p]!) ∧ Aside (SWK enc k w0 blk off d wr))
  case atStart => exact ⟨la + 1, la + 1 + ly, by go_num, by go_num, by omega, by omega, by omega, by omega, Lib.hid ⟨fun p h1 h2 => by omega, fun p h1 h2 => by omega⟩, S0⟩
  case round =>
    clear S0
    obtain ⟨i, j, rfl, rfl, hg, hi, hij, hj, HI, S1⟩ := hrel
    by_cases hlt : i < j
    · have hlz : (i : Int) < (j : Int) := by omega
      obtain ⟨h, hh⟩ : ∃ h, (i + j) / 2 = h := ⟨_, rfl⟩
      have hhz : ((i : Int) + (j : Int)) / 2 = (h : Int) := by omega
      have h1 : i ≤ h := by omega
      have h2 : h < j := by omega
      by_cases hv : key d[h]! < key d[la]!
      · have ea1a : ((h : Int)).toNat = h := by omega
        have pa1a : (0 : Int) ≤ (h : Int) := by omega
        have ba1a : (h : Int) < (n : Int) := by omega
        have ra1a : IntKind.i64.wrap ((h : Int)) = (h : Int) := by rw [IntKind.wrap_i64]; omega
        have ea1b : ((la : Int)).toNat = la := by omega
        have pa1b : (0 : Int) ≤ (la : Int) := by omega
        have ba1b : (la : Int) < (n : Int) := by omega
        have ra1b : IntKind.i64.wrap ((la : Int)) = (la : Int) := by rw [IntKind.wrap_i64]; omega
        obtain ⟨x1, hx1⟩ : ∃ x, x = d[h]! := ⟨_, rfl⟩
        obtain ⟨y1, hy1⟩ : ∃ x, x = d[la]! := ⟨_, rfl⟩
        have l1a := S1.out.ld R (by omega) Tryd.prog (h) (by omega)
        have l1b := S1.out.ld R (by omega) Tryd.prog (la) (by omega)
        rw [← hx1] at l1a
        rw [← hy1] at l1b
        have hc1 := S1.out.cmp HC.out (by omega) x1 y1
        have hv1 : (cf x1 y1 < 0) := by rw [hx1, hy1, HCF.out]; exact hv
        have hd1 : decide (cf x1 y1 < 0) = true := decide_eq_true hv1
        clear hx1 hy1
        have HV := Lib.hid hv
        clear hv
        go_wp2_with fail
        go_quiet_grown (first | (go_at_fn g; refine Calls.grown_of (hc1 _ _)))
        have S2 : Aside (SWK enc k w0 blk off d (grow (wr.drewN nq) osq)) := S1.out.grown nq osq
        clear l1a l1b hc1 S1
        generalize grow (wr.drewN nq) osq = w1 at S2 ⊢
        clear nq osq
  
        go_wp2_with fail
        go_roundg (j - (h + 1))
        case measure => omega
        case rel => exact ⟨h + 1, j, by go_num, rfl, by omega, by omega, by omega, by omega, Lib.hid ⟨fun p q1 q2 => Int.lt_of_le_of_lt (HSR.out p h q1 (by omega) (by omega)) (by have := HV.out; rw [HX.out] at this; exact this), HI.out.2⟩, S2⟩
      · have ea1a : ((h : Int)).toNat = h := by omega
        have pa1a : (0 : Int) ≤ (h : Int) := by omega
        have ba1a : (h : Int) < (n : Int) := by omega
        have ra1a : IntKind.i64.wrap ((h : Int)) = (h : Int) := by rw [IntKind.wrap_i64]; omega
        have ea1b : ((la : Int)).toNat = la := by omega
        have pa1b : (0 : Int) ≤ (la : Int) := by omega
        have ba1b : (la : Int) < (n : Int) := by omega
        have ra1b : IntKind.i64.wrap ((la : Int)) = (la : Int) := by rw [IntKind.wrap_i64]; omega
        obtain ⟨x1, hx1⟩ : ∃ x, x = d[h]! := ⟨_, rfl⟩
        obtain ⟨y1, hy1⟩ : ∃ x, x = d[la]! := ⟨_, rfl⟩
        have l1a := S1.out.ld R (by omega) Tryd.prog (h) (by omega)
        have l1b := S1.out.ld R (by omega) Tryd.prog (la) (by omega)
        rw [← hx1] at l1a
        rw [← hy1] at l1b
        have hc1 := S1.out.cmp HC.out (by omega) x1 y1
        have hv1 : ¬ (cf x1 y1 < 0) := by rw [hx1, hy1, HCF.out]; exact hv
        have hd1 : decide (cf x1 y1 < 0) = false := decide_eq_false hv1
        clear hx1 hy1
        have HV := Lib.hid hv
        clear hv
        go_wp2_with fail
        go_quiet_grown (first | (go_at_fn g; refine Calls.grown_of (hc1 _ _)))
        have S2 : Aside (SWK enc k w0 blk off d (grow (wr.drewN nq) osq)) := S1.out.grown nq osq
        clear l1a l1b hc1 S1
        generalize grow (wr.drewN nq) osq = w1 at S2 ⊢
        clear nq osq
  
        go_wp2_with fail
        go_roundg (h - i)
        case measure => omega
        case rel => exact ⟨i, h, rfl, by go_num, by omega, by omega, by omega, by omega, Lib.hid ⟨HI.out.1, fun p q1 q2 => Int.le_trans (by have := HV.out; rw [HX.out] at this; omega) (HSR.out h p (by omega) q1 q2)⟩, S2⟩
    · obtain rfl : i = j := by omega
      have hlz : ¬ ((i : Int) < (i : Int)) := by omega
      obtain ⟨Y1, Y2, hYe, hY1, hY2⟩ := cut_list Y (i - (la + 1)) (by have := HY.out; omega)
      have m1 : Mrg key (x :: Y) (Y1 ++ x :: Y2) := by
        rw [hYe]
        refine Mrg.front (by rw [← hYe]; exact HSY.out) (fun y hy => ?_) (fun y hy => ?_)
        · obtain ⟨p, p1, p2, rfl⟩ := mem_at (d := d) (P := A ++ [x]) (Y := Y1) (R := Y2 ++ C) (by rw [HD.out, hYe]; simp) hy
          have := HA.out
          simp only [List.length_append, List.length_cons, List.length_nil] at p1 p2
          exact HI.out.1 p (by omega) (by omega)
        · obtain ⟨p, p1, p2, rfl⟩ := mem_at (d := d) (P := A ++ [x] ++ Y1) (Y := Y2) (R := C) (by rw [HD.out, hYe]; simp) hy
          have := HA.out
          have := HY.out
          simp only [List.length_append, List.length_cons, List.length_nil] at p1 p2
          exact HI.out.2 p (by omega) (by omega)
      have HM := Lib.hid m1
      have HYE := Lib.hid hYe
      have HL1 := Lib.hid hY1
      clear m1 hYe hY1 hY2
      have ri : IntKind.i64.wrap ((i : Int) - 1) = (i : Int) - 1 := by rw [IntKind.wrap_i64]; omega
      go_wp2_with fail
      go_loopg [13] (i + 1) (fun g1 s13 wr => ∃ (q : Nat) (W1 W2 : List α) (dk : Array α), s13 = .int .i64 q ∧ la ≤ q ∧ q ≤ i - 1 ∧ i - q ≤ g1 ∧ Hid (dk.toList = A ++ (W1 ++ (x :: (W2 ++ (Y2 ++ C)))) ∧ Y1 = W1 ++ W2 ∧ W1.length = q - la) ∧ dk.size = n ∧ Aside (SWK enc k w0 blk off dk wr))
      case atStart => exact ⟨la, [], Y1, d, by go_num, by omega, by omega, by omega, Lib.hid ⟨by rw [HD.out, HYE.out]; simp, rfl, by simp⟩, hn, S1⟩
      case round =>
        clear S1
        obtain ⟨q, W1, W2, dk, rfl, hq, hqi, hgq, HW, hdk, S2⟩ := hrel
        by_cases hlt : q < i - 1
        · have hqz : (q : Int) < (i : Int) - 1 := by omega
          obtain ⟨u, W3, rfl⟩ : ∃ u W3, W2 = u :: W3 := by
            cases W2 with
            | nil => have e1 := HW.out.2.2; have e2 := congrArg List.length HW.out.2.1; have e3 := HL1.out; simp only [List.append_nil] at e2; omega
            | cons u W3 => exact ⟨u, W3, rfl⟩
          have ea2a : ((q : Int)).toNat = q := by omega
          have pa2a : (0 : Int) ≤ (q : Int) := by omega
          have ba2a : (q : Int) < (n : Int) := by omega
          have ea2b : ((q : Int) + 1).toNat = q + 1 := by omega
          have pa2b : (0 : Int) ≤ (q : Int) + 1 := by omega
          have ba2b : (q : Int) + 1 < (n : Int) := by omega
          have ra2b : IntKind.i64.wrap ((q : Int) + 1) = (q : Int) + 1 := by rw [IntKind.wrap_i64]; omega
          have S3 : Aside (SWK enc k w0 blk off (swp dk (q) (q + 1)) ((wr.drew.setCells blk (off + (q) * k) (enc dk[q + 1]!)).setCells blk (off + (q + 1) * k) (enc dk[q]!))) := S2.out.swapped R (q) (q + 1) (by omega) (by omega)
          have l2a := S2.out.ld1 R (by omega) Tryd.prog (q) (by omega)
          have l2b := S2.out.ld1 R (by omega) Tryd.prog (q + 1) (by omega)
          have s2a := S2.out.st1 R (by omega) Tryd.prog (q) (by omega) dk[q + 1]!
          have s2b := S2.out.st2 R (by omega) Tryd.prog (q) (q + 1) (by omega) (by omega) dk[q + 1]! dk[q]!
          have n2a : (enc dk[q]!).length = k := R.hk _
          have n2b : (enc dk[q + 1]!).length = k := R.hk _
          generalize enc dk[q]! = cI2 at S3 l2a s2b n2a
          generalize enc dk[q + 1]! = cJ2 at S3 l2b s2a s2b n2b
          clear S2
          go_wp2_with fail
          go_big_region_o
          clear l2a l2b s2a s2b
          generalize (wr.drew.setCells blk (off + (q) * k) cJ2).setCells blk (off + (q + 1) * k) cI2 = w3 at S3 ⊢
          go_wp2_with fail
          go_roundg (i - (q + 1))
          case measure => omega
          case rel =>
            refine ⟨q + 1, W1 ++ [u], W3, swp dk q (q + 1), by go_num, by omega, by omega, by omega, Lib.hid ⟨?_, by rw [HW.out.2.1]; simp, by have := HW.out.2.2; simp; omega⟩, by rw [swp_size]; exact hdk, S3⟩
            have := swp_list (d := dk) (P := A ++ W1) (Q := []) (R := W3 ++ (Y2 ++ C)) (u := x) (v := u) (by rw [HW.out.1]; simp) (i := q) (j := q + 1) (by have := HW.out.2.2; have := HA.out; simp; omega) (by have := HW.out.2.2; have := HA.out; simp; omega)
            rw [this]; simp
        · obtain rfl : q = i - 1 := by omega
          have hqz : ¬ (((i - 1 : Nat) : Int) < (i : Int) - 1) := by omega
          go_wp2_with fail
          (try simp only [Exit.inBlock, Exit.then]); refine bodyPost_ret (results_none rfl _ _ _) rfl ?_
          obtain rfl : W2 = [] := List.eq_nil_of_length_eq_zero (by have := HW.out.2.2; have e2 := congrArg List.length HW.out.2.1; have := HL1.out; simp only [List.length_append] at e2; omega)
          refine ⟨rfl, dk, Y1 ++ x :: Y2, ?_, HM.out, hdk, S2.out⟩
          rw [HW.out.1, HW.out.2.1]; simp
end Go.Proofs.YtjjnhmbgffdenaaDoor
namespace Go.Proofs.YtjjnhmbgffdenaaDoor
open Go.Shelf Go.RowKit Go.Lib Go.Sort Go.Proofs
variable {α : Type} [Inhabited α]
theorem swp_comm2 (d : Array α) (i : Nat) : swp d (i + 1) i = swp d i (i + 1) := by
  unfold swp
  apply Array.ext_getElem?
  intro m
  simp only [Array.getElem?_setIfInBounds, Array.size_setIfInBounds]
  by_cases h1 : i = m <;> by_cases h2 : i + 1 = m <;> simp [h1, h2] <;> omega
set_option maxHeartbeats 4000000 in
set_option maxRecDepth 1000000 in
theorem symMerge_back (k : Nat) (zE : ∀ w, (Go.sizeOf 40).run Tryd.prog w = .ok k w) (enc : α → List Value) (key : α → Int) (cf : α → α → Int) (hcf : ∀ x y, cf x y < 0 ↔ key x < key y) (g : Nat) (cb : Array Value) (eg : ∀ args w, (callFunc g args).run Tryd.prog w = .ok (.enter g args) w) (blk off cap n : Nat) (d0 d : Array α) (w0 w : World) (hcmp : CmpLays Tryd.prog g cb enc k cf blk off n w0) (A X C : List α) (y : α)
    (R : RowK enc k w0 blk off d0) (hs : d0.size = n) (hn : d.size = n) (S : SWK enc k w0 blk off d w) (hd : d.toList = A ++ (X ++ (y :: C))) (hX : 1 < X.length) (hSX : Srt key X) (hsz : n < 4611686018427387904) :
    Calls Tryd.prog 71 #[.slice (some ⟨blk, off, none⟩) n cap, .int .i64 A.length, .int .i64 (A.length + X.length : Nat), .int .i64 (A.length + X.length + 1 : Nat), .func (.func g) #[] cb] w fun e w' => e = .returned (.tuple #[]) ∧
      ∃ d' Z, d'.toList = A ++ (Z ++ C) ∧ Mrg key (X ++ [y]) Z ∧ d'.size = n ∧ SWK enc k w0 blk off d' w' := by
  have aE := aE40
  have mixed := mix40
  obtain ⟨la, hla⟩ : ∃ n, A.length = n := ⟨_, rfl⟩
  obtain ⟨lx, hlx⟩ : ∃ n, X.length = n := ⟨_, rfl⟩
  have hn2 : la + lx + 1 ≤ n := by
    have := congrArg List.length hd
    simp only [List.length_append, List.length_cons, Array.length_toList] at this
    omega
  have hy : d[la + lx]! = y := get_at (P := A ++ X) (R := C) (by rw [hd]; simp) (by simp; omega)
  have hsr : ∀ p q, la ≤ p → p ≤ q → q < la + lx → key d[p]! ≤ key d[q]! := fun p q h1 h2 h3 => srt_at (P := A) (Y := X) (R := y :: C) (by rw [hd]) hSX (by omega) h2 (by omega)
  rw [hla, hlx]
  rw [hlx] at hX
  have HC := Lib.hid hcmp
  have HCF := Lib.hid hcf
  have HSR := Lib.hid hsr
  have HX := Lib.hid hy
  have HD := Lib.hid hd
  have HSY := Lib.hid hSX
  have HA := Lib.hid hla
  have HY := Lib.hid hlx
  have S0 : Aside (SWK enc k w0 blk off d w) := S
  have rm : IntKind.i64.wrap ((la : Int) + (lx : Int) - (la : Int)) = (lx : Int) := by rw [IntKind.wrap_i64]; omega
  have zm : ((lx : Int) == 1) = false := by simp; omega
  have zm2 : ((la : Int) + (lx : Int) - (la : Int) == 1) = false := by simp; omega
  have rm2 : IntKind.i64.wrap ((la : Int) + (lx : Int) + 1 - ((la : Int) + (lx : Int))) = 1 := by rw [IntKind.wrap_i64]; omega
  have zm3 : ((la : Int) + (lx : Int) + 1 - ((la : Int) + (lx : Int)) == 1) = true := by simp; omega
  clear S hcmp hcf hsr hy hd hSX hla hlx
  go_enter Tryd.func71, Tryd.ntmps71
  go_wp2
  go_loopg [14, 15] (lx + 1) (fun g1 s14 s15 wr => ∃ (i j : Nat), s14 = .int .i64 i ∧ s15 = .int .i64 j ∧ j - i ≤ g1 ∧ la ≤ i ∧ i ≤ j ∧ j ≤ la + lx ∧ Hid ((∀ p, la ≤ p → p < i → key d[p]! ≤ key y) ∧ ∀ p, j ≤ p → p < la + lx → key y < key d[p]!) ∧ Aside (SWK enc k w0 blk off d wr))
  case atStart => exact ⟨la, la + lx, by go_num, by go_num, by omega, by omega, by omega, by omega, Lib.hid ⟨fun p h1 h2 => by omega, fun p h1 h2 => by omega⟩, S0⟩
  case round =>
    clear S0
    obtain ⟨i, j, rfl, rfl, hg, hi, hij, hj, HI, S1⟩ := hrel
    by_cases hlt : i < j
    · have hlz : (i : Int) < (j : Int) := by omega
      obtain ⟨h, hh⟩ : ∃ h, (i + j) / 2 = h := ⟨_, rfl⟩
      have hhz : ((i : Int) + (j : Int)) / 2 = (h : Int) := by omega
      have h1 : i ≤ h := by omega
      have h2 : h < j := by omega
      by_cases hv : key d[la + lx]! < key d[h]!
      · have ea1a : ((la : Int) + (lx : Int)).toNat = la + lx := by omega
        have pa1a : (0 : Int) ≤ (la : Int) + (lx : Int) := by omega
        have ba1a : (la : Int) + (lx : Int) < (n : Int) := by omega
        have ra1a : IntKind.i64.wrap ((la : Int) + (lx : Int)) = (la : Int) + (lx : Int) := by rw [IntKind.wrap_i64]; omega
        have ea1b : ((h : Int)).toNat = h := by omega
        have pa1b : (0 : Int) ≤ (h : Int) := by omega
        have ba1b : (h : Int) < (n : Int) := by omega
        have ra1b : IntKind.i64.wrap ((h : Int)) = (h : Int) := by rw [IntKind.wrap_i64]; omega
        obtain ⟨x1, hx1⟩ : ∃ x, x = d[la + lx]! := ⟨_, rfl⟩
        obtain ⟨y1, hy1⟩ : ∃ x, x = d[h]! := ⟨_, rfl⟩
        have l1a := S1.out.ld R (by omega) Tryd.prog (la + lx) (by omega)
        have l1b := S1.out.ld R (by omega) Tryd.prog (h) (by omega)
        rw [← hx1] at l1a
        rw [← hy1] at l1b
        have hc1 := S1.out.cmp HC.out (by omega) x1 y1
        have hv1 : (cf x1 y1 < 0) := by rw [hx1, hy1, HCF.out]; exact hv
        have hd1 : decide (cf x1 y1 < 0) = true := decide_eq_true hv1
        clear hx1 hy1
        have HV := Lib.hid hv
        clear hv
        go_wp2_with fail
        go_quiet_grown (first | (go_at_fn g; refine Calls.grown_of (hc1 _ _)))
        have S2 : Aside (SWK enc k w0 blk off d (grow (wr.drewN nq) osq)) := S1.out.grown nq osq
        clear l1a l1b hc1 S1
        generalize grow (wr.drewN nq) osq = w1 at S2 ⊢
        clear nq osq
  
        go_wp2_with fail
        go_roundg (h - i)
        case measure => omega
        case rel => exact ⟨i, h, rfl, by go_num, by omega, by omega, by omega, by omega, Lib.hid ⟨HI.out.1, fun p q1 q2 => Int.lt_of_lt_of_le (by have := HV.out; rw [HX.out] at this; exact this) (HSR.out h p (by omega) q1 q2)⟩, S2⟩
      · have ea1a : ((la : Int) + (lx : Int)).toNat = la + lx := by omega
        have pa1a : (0 : Int) ≤ (la : Int) + (lx : Int) := by omega
        have ba1a : (la : Int) + (lx : Int) < (n : Int) := by omega
        have ra1a : IntKind.i64.wrap ((la : Int) + (lx : Int)) = (la : Int) + (lx : Int) := by rw [IntKind.wrap_i64]; omega
        have ea1b : ((h : Int)).toNat = h := by omega
        have pa1b : (0 : Int) ≤ (h : Int) := by omega
        have ba1b : (h : Int) < (n : Int) := by omega
        have ra1b : IntKind.i64.wrap ((h : Int)) = (h : Int) := by rw [IntKind.wrap_i64]; omega
        obtain ⟨x1, hx1⟩ : ∃ x, x = d[la + lx]! := ⟨_, rfl⟩
        obtain ⟨y1, hy1⟩ : ∃ x, x = d[h]! := ⟨_, rfl⟩
        have l1a := S1.out.ld R (by omega) Tryd.prog (la + lx) (by omega)
        have l1b := S1.out.ld R (by omega) Tryd.prog (h) (by omega)
        rw [← hx1] at l1a
        rw [← hy1] at l1b
        have hc1 := S1.out.cmp HC.out (by omega) x1 y1
        have hv1 : ¬ (cf x1 y1 < 0) := by rw [hx1, hy1, HCF.out]; exact hv
        have hd1 : decide (cf x1 y1 < 0) = false := decide_eq_false hv1
        clear hx1 hy1
        have HV := Lib.hid hv
        clear hv
        go_wp2_with fail
        go_quiet_grown (first | (go_at_fn g; refine Calls.grown_of (hc1 _ _)))
        have S2 : Aside (SWK enc k w0 blk off d (grow (wr.drewN nq) osq)) := S1.out.grown nq osq
        clear l1a l1b hc1 S1
        generalize grow (wr.drewN nq) osq = w1 at S2 ⊢
        clear nq osq
  
        go_wp2_with fail
        go_roundg (j - (h + 1))
        case measure => omega
        case rel => exact ⟨h + 1, j, by go_num, rfl, by omega, by omega, by omega, by omega, Lib.hid ⟨fun p q1 q2 => Int.le_trans (HSR.out p h q1 (by omega) (by omega)) (by have := HV.out; rw [HX.out] at this; omega), HI.out.2⟩, S2⟩
    · obtain rfl : i = j := by omega
      have hlz : ¬ ((i : Int) < (i : Int)) := by omega
      obtain ⟨X1, X2, hYe, hY1, hY2⟩ := cut_list X (i - la) (by have := HY.out; omega)
      have m1 : Mrg key (X ++ [y]) (X1 ++ y :: X2) := by
        rw [hYe]
        refine Mrg.back (by rw [← hYe]; exact HSY.out) (fun z hz => ?_) (fun z hz => ?_)
        · obtain ⟨p, p1, p2, rfl⟩ := mem_at (d := d) (P := A) (Y := X1) (R := X2 ++ (y :: C)) (by rw [HD.out, hYe]; simp) hz
          have := HA.out
          exact HI.out.1 p (by omega) (by omega)
        · obtain ⟨p, p1, p2, rfl⟩ := mem_at (d := d) (P := A ++ X1) (Y := X2) (R := y :: C) (by rw [HD.out, hYe]; simp) hz
          have := HA.out
          have := HY.out
          simp only [List.length_append, List.length_cons, List.length_nil] at p1 p2
          exact HI.out.2 p (by omega) (by omega)
      have HM := Lib.hid m1
      have HYE := Lib.hid hYe
      have HL1 := Lib.hid hY1
      have HL2 : Hid (X2.length = la + lx - i) := Lib.hid (by have := HY.out; omega)
      clear m1 hYe hY1 hY2
      go_wp2_with fail
      go_loopg [17] (la + lx + 1) (fun g1 s17 wr => ∃ (q : Nat) (W1 W2 : List α) (dk : Array α), s17 = .int .i64 q ∧ i ≤ q ∧ q ≤ la + lx ∧ q - i ≤ g1 ∧ Hid (dk.toList = A ++ (X1 ++ (W1 ++ (y :: (W2 ++ C)))) ∧ X2 = W1 ++ W2 ∧ W1.length = q - i) ∧ dk.size = n ∧ Aside (SWK enc k w0 blk off dk wr))
      case atStart => exact ⟨la + lx, X2, [], d, by go_num, by omega, by omega, by omega, Lib.hid ⟨by rw [HD.out, HYE.out]; simp, by simp, HL2.out⟩, hn, S1⟩
      case round =>
        clear S1
        obtain ⟨q, W1, W2, dk, rfl, hq, hqi, hgq, HW, hdk, S2⟩ := hrel
        by_cases hlt : i < q
        · have hqz : (i : Int) < (q : Int) := by omega
          obtain ⟨W3, u, rfl⟩ := snoc_of (l := W1) (fun e => by have := HW.out.2.2; rw [e] at this; simp at this; omega)
          obtain ⟨r, rfl⟩ : ∃ r, q = r + 1 := ⟨q - 1, by omega⟩
          have rq : IntKind.i64.wrap ((r : Int) + 1 - 1) = (r : Int) := by rw [IntKind.wrap_i64]; omega
          have rq2 : IntKind.i64.wrap (r : Int) = (r : Int) := by rw [IntKind.wrap_i64]; omega
          have hL3 : W3.length = r - i := by have := HW.out.2.2; simp at this; omega
          have ea2a : ((r : Int) + 1).toNat = r + 1 := by omega
          have pa2a : (0 : Int) ≤ (r : Int) + 1 := by omega
          have ba2a : (r : Int) + 1 < (n : Int) := by omega
          have ra2a : IntKind.i64.wrap ((r : Int) + 1) = (r : Int) + 1 := by rw [IntKind.wrap_i64]; omega
          have ea2b : ((r : Int)).toNat = r := by omega
          have pa2b : (0 : Int) ≤ (r : Int) := by omega
          have ba2b : (r : Int) < (n : Int) := by omega
          have ra2b : IntKind.i64.wrap ((r : Int)) = (r : Int) := by rw [IntKind.wrap_i64]; omega
          have S3 : Aside (SWK enc k w0 blk off (swp dk (r + 1) (r)) ((wr.drew.setCells blk (off + (r + 1) * k) (enc dk[r]!)).setCells blk (off + (r) * k) (enc dk[r + 1]!))) := S2.out.swapped R (r + 1) (r) (by omega) (by omega)
          have l2a := S2.out.ld1 R (by omega) Tryd.prog (r + 1) (by omega)
          have l2b := S2.out.ld1 R (by omega) Tryd.prog (r) (by omega)
          have s2a := S2.out.st1 R (by omega) Tryd.prog (r + 1) (by omega) dk[r]!
          have s2b := S2.out.st2 R (by omega) Tryd.prog (r + 1) (r) (by omega) (by omega) dk[r]! dk[r + 1]!
          have n2a : (enc dk[r + 1]!).length = k := R.hk _
          have n2b : (enc dk[r]!).length = k := R.hk _
          generalize enc dk[r + 1]! = cI2 at S3 l2a s2b n2a
          generalize enc dk[r]! = cJ2 at S3 l2b s2a s2b n2b
          clear S2
          go_wp2_with fail
          go_big_region_o
          clear l2a l2b s2a s2b
          generalize (wr.drew.setCells blk (off + (r + 1) * k) cJ2).setCells blk (off + (r) * k) cI2 = w3 at S3 ⊢
          go_wp2_with fail
          go_roundg (r - i)
          case measure => omega
          case rel =>
            refine ⟨r, W3, u :: W2, swp dk (r + 1) r, by go_num, by omega, by omega, by omega, Lib.hid ⟨?_, by rw [HW.out.2.1]; simp, by omega⟩, by rw [swp_size]; exact hdk, S3⟩
            rw [swp_comm2]
            have := swp_list (d := dk) (P := A ++ (X1 ++ W3)) (Q := []) (R := W2 ++ C) (u := u) (v := y) (by rw [HW.out.1]; simp) (i := r) (j := r + 1) (by have := HA.out; have := HL1.out; simp; omega) (by have := HA.out; have := HL1.out; simp; omega)
            rw [this]; simp
        · obtain rfl : q = i := by omega
          have hqz : ¬ ((q : Int) < (q : Int)) := by omega
          go_wp2_with fail
          (try simp only [Exit.inBlock, Exit.then]); refine bodyPost_ret (results_none rfl _ _ _) rfl ?_
          obtain rfl : W1 = [] := List.eq_nil_of_length_eq_zero (by have := HW.out.2.2; omega)
          refine ⟨rfl, dk, X1 ++ y :: X2, ?_, HM.out, hdk, S2.out⟩
          rw [HW.out.1, HW.out.2.1]; simp
end Go.Proofs.YtjjnhmbgffdenaaDoor
