import Derived.Test.YtikdhdikaihenaaLives
import Derived.Test.YtikdhdikaihenaaSteps2
import Derived.Test.YtikdhdikaihenaaInv
import Derived.Test.YtikdhdikaihenaaActs
import Derived.Test.YtikdhdikaihenaaMake
import Derived.Deep.Cut
import Derived.Deep.RegionWith
namespace Go.Proofs.Ytikdhdikaihenaa
open Go.RowKit Go.Sort

theorem good_of (xs : List Int) (h : Bytes xs) : ∀ p ∈ xs.map pOf, Good p := by
  intro p hp
  obtain ⟨x, hx, rfl⟩ := List.mem_map.1 hp
  have := h x hx
  refine ⟨?_, ?_⟩ <;> simp [pOf] <;> omega
theorem good_app {a b : List Ps} (ha : ∀ p ∈ a, Good p) (hb : ∀ p ∈ b, Good p) : ∀ p ∈ red (a ++ b), Good p := fun p hp => by
  rcases List.mem_append.1 (mem_red hp) with h | h
  · exact ha p h
  · exact hb p h
theorem good_inv {a : List Ps} (ha : ∀ p ∈ a, Good p) : ∀ p ∈ inv a, Good p := fun p hp => by
  simp only [inv, List.mem_reverse, List.mem_map] at hp
  obtain ⟨q, hq, rfl⟩ := hp
  have := ha q hq
  exact ⟨this.1, bck_dir q⟩
theorem good_dirs {a : List Ps} (ha : ∀ p ∈ a, Good p) : Dirs a := fun p hp => (ha p hp).2
theorem vy_go {p c : Int} {nw : Bool} {ps qs : List Ps} (h : VY true p c nw ps) {pl : Int} (hp : PlaceOk pl) (hq : ∀ p ∈ qs, Good p) (hl : (red (ps ++ qs)).length ≤ 4096) : VY true pl c nw (red (ps ++ qs)) := by
  obtain ⟨h1, h2⟩ := h
  simp only [if_true] at h2
  refine ⟨h1, ?_⟩
  simp only [if_true]
  exact ⟨hp, hl, good_app h2.2.2.1 hq, red_red _⟩

theorem below_drewN {B : Nat} {a w : World} (h : Below B a w) (n : Nat) : Below B a (w.drewN n) := ⟨h.os, h.tape, h.output, h.size, h.block⟩
theorem place_of (x : Int) : PlaceOk (-13 + 2 * (x % 97)) := by
  refine ⟨by omega, by omega, ?_⟩
  have h1 : ∀ k : Fin 97, (-13 + 2 * ((k : Nat) : Int)).tmod 2 ≠ 0 := by decide
  have h2 := h1 ⟨(x % 97).toNat, by omega⟩
  simp only at h2
  rwa [Int.toNat_of_nonneg (by omega)] at h2
theorem owns_block {w : World} {B e n : Nat} {ao : Option Addr} {q cap : Nat} {xs : List Value} (h : w.ownsRow B e 4 (.slice ao q cap) n xs) {k : Nat} (hk : k < B) : ∀ b o, ao = some ⟨b, o, none⟩ → b ≠ k := by
  rintro b o rfl
  have := (h.lt b rfl).1
  omega
theorem five1 (w : World) (i : Bool) (p c : Int) (nw : Bool) (v : Value) : Five (w.alloc (.cells #[.bool i, .int .i64 p, .int .i64 c, .bool nw, v] 38)) w.heap.size (.bool i) (.int .i64 p) (.int .i64 c) (.bool nw) v := by
  refine ⟨⟨?_, ?_, ?_, ?_, ?_⟩, ⟨?_, ?_, ?_, ?_, ?_⟩⟩ <;> go_simp
theorem five_set {w : World} {b : Nat} {u0 u1 u2 u3 u4 : Value} (h : Five w b u0 u1 u2 u3 u4) (v0 v1 v2 v3 v4 : Value) :
    Five (((((w.setCell ⟨b, 0, none⟩ v0).setCell ⟨b, 1, none⟩ v1).setCell ⟨b, 2, none⟩ v2).setCell ⟨b, 3, none⟩ v3).setCell ⟨b, 4, none⟩ v4) b v0 v1 v2 v3 v4 := by
  obtain ⟨⟨c0, c1, c2, c3, c4⟩, ⟨f0, f1, f2, f3, f4⟩⟩ := h
  refine ⟨⟨?_, ?_, ?_, ?_, ?_⟩, ⟨?_, ?_, ?_, ?_, ?_⟩⟩ <;> go_simp
theorem lie_sets5 {W : World} {g : Nat} {ao : Option Addr} {ps : List Ps} (h : Lie W ao ps) (hg : ∀ b o, ao = some ⟨b, o, none⟩ → b ≠ g) (v0 v1 v2 v3 v4 : Value) :
    Lie (((((W.setCell ⟨g, 0, none⟩ v0).setCell ⟨g, 1, none⟩ v1).setCell ⟨g, 2, none⟩ v2).setCell ⟨g, 3, none⟩ v3).setCell ⟨g, 4, none⟩ v4) ao ps := by
  rcases h with h | ⟨b, o, h1, h2, h3⟩
  · exact .inl h
  · have hb := hg b o h1
    have e : ∀ x, (((((W.setCell ⟨g, 0, none⟩ v0).setCell ⟨g, 1, none⟩ v1).setCell ⟨g, 2, none⟩ v2).setCell ⟨g, 3, none⟩ v3).setCell ⟨g, 4, none⟩ v4).cell? ⟨b, x, none⟩ = W.cell? ⟨b, x, none⟩ := fun x => by
      have ne : ∀ y, (⟨g, y, none⟩ : Addr) ≠ ⟨b, x, none⟩ := fun y e => hb (by injection e with e _ _; exact e.symm)
      rw [World.cell?_setCell_other _ _ _ _ (ne 4), World.cell?_setCell_other _ _ _ _ (ne 3), World.cell?_setCell_other _ _ _ _ (ne 2), World.cell?_setCell_other _ _ _ _ (ne 1), World.cell?_setCell_other _ _ _ _ (ne 0)]
    refine .inr ⟨b, o, h1, by simpa using h2, fun i p hp => ?_⟩
    obtain ⟨c0, c1, c2, c3⟩ := h3 i p hp
    exact ⟨(e _).trans c0, (e _).trans c1, (e _).trans c2, (e _).trans c3⟩

theorem heap_new (w : World) : (w.alloc newYarn).heap[w.heap.size]? = some newYarn := heap_alloc_new w _
theorem vs1 {a : Act} {s : Tmp} {x : Value} (h1 : a.tmps.getD s undef = x) : Array.map a.eval #[.tmp s] = #[x] := by
  have e1 : a.eval (.tmp s) = x := h1
  simp only [List.map_toArray, List.map_cons, List.map_nil, e1]
theorem vs3 {a : Act} {s t u : Tmp} {x y z : Value} (h1 : a.tmps.getD s undef = x) (h2 : a.tmps.getD t undef = y) (h3 : a.tmps.getD u undef = z) : Array.map a.eval #[.tmp s, .tmp t, .tmp u] = #[x, y, z] := by
  have e1 : a.eval (.tmp s) = x := h1
  have e2 : a.eval (.tmp t) = y := h2
  have e3 : a.eval (.tmp u) = z := h3
  simp only [List.map_toArray, List.map_cons, List.map_nil, e1, e2, e3]
theorem inv_length (ps : List Ps) : (inv ps).length = ps.length := by simp [inv]
theorem lie_set_new {W : World} {g : Nat} (hn : W.heap[g]? = some newYarn) {ao : Option Addr} {ps : List Ps} (h : Lie W ao ps) (v0 v1 v2 v3 v4 : Value) :
    Lie (((((W.setCell ⟨g, 0, none⟩ v0).setCell ⟨g, 1, none⟩ v1).setCell ⟨g, 2, none⟩ v2).setCell ⟨g, 3, none⟩ v3).setCell ⟨g, 4, none⟩ v4) ao ps := by
  rcases lie_ne_new hn h with rfl | hne
  · exact .inl rfl
  · exact lie_sets5 h hne _ _ _ _ _
def layOn (f : Nat → Bool) (u : Nat → Value) : Nat → List Value → List Value
  | _, [] => []
  | k, x :: r => (if f k = true then u k else x) :: layOn f u (k + 1) r
theorem layOn_length (f : Nat → Bool) (u : Nat → Value) : ∀ (l : List Value) (k : Nat), (layOn f u k l).length = l.length := by
  intro l
  induction l with
  | nil => intro k; rfl
  | cons x l ih => intro k; simp [layOn, ih]
theorem layOn_get (f : Nat → Bool) (u : Nat → Value) : ∀ (l : List Value) (k i : Nat) (h : i < l.length), (layOn f u k l)[i]? = some (if f (k + i) = true then u (k + i) else l[i]) := by
  intro l
  induction l with
  | nil => intro k i h; simp at h
  | cons x l ih =>
    intro k i h
    cases i with
    | zero => simp [layOn]
    | succ i =>
      have := ih (k + 1) i (by simpa using h)
      simp only [layOn, List.getElem?_cons_succ, List.getElem_cons_succ]
      rw [this, show k + 1 + i = k + (i + 1) by omega]
theorem frame_on (dsts : List (Option Tmp)) (A0 : List Value) (tmps : Array Value) (hs : tmps.size = A0.length) (h : ∀ s, dsts.contains (some s) = false → tmps.getD s undef = A0.toArray.getD s undef) :
    tmps = (layOn (fun s => dsts.contains (some s)) (fun s => tmps.getD s undef) 0 A0).toArray := by
  apply Array.ext_getElem?
  intro i
  by_cases hi' : i < tmps.size
  · have hl : i < A0.length := by omega
    have h2 : ((layOn (fun s => dsts.contains (some s)) (fun s => tmps.getD s undef) 0 A0).toArray)[i]? = some (if dsts.contains (some (0 + i)) = true then tmps.getD (0 + i) undef else A0[i]) := by
      rw [List.getElem?_toArray]; exact layOn_get _ _ _ _ _ hl
    rw [h2, Array.getElem?_eq_getElem hi']
    rw [Nat.zero_add]
    cases hc : dsts.contains (some i) with
    | true => rw [if_pos rfl]; simp [hi']
    | false =>
      rw [if_neg (by simp)]
      have := h i hc
      simp [hi', hl] at this
      rw [this]
  · rw [Array.getElem?_eq_none (by omega), Array.getElem?_eq_none (by simp [layOn_length]; omega)]
def psi7 (p1 : Int) (sl : Value) (ao : Option Addr) (n : Nat) (cap : Nat) (ys : List Int) (R : List Ps) (K : Nat) : Nat → Value → World → Prop
  | 0, v, _ => v = .agg #[.bool true, .int .i64 (-13), .int .i64 5, .bool true, sl]
  | 1, v, _ => v = .int .i64 p1
  | 2, v, _ => v = .slice ao n cap
  | 3, v, w => ∃ bo cp, v = .slice bo (ys.map pOf).length cp ∧ Lie w bo (ys.map pOf)
  | 4, v, w => ∃ bo, v = .tuple #[.agg #[.bool true, .int .i64 p1, .int .i64 5, .bool true, .slice bo R.length R.length], .int .i64 0] ∧ Lie w bo R ∧ ∀ b o, bo = some ⟨b, o, none⟩ → b ≠ K
  | 5, v, w => ∃ bo, v = .tuple #[.agg #[.bool true, .int .i64 p1, .int .i64 5, .bool true, .slice bo R.length R.length], .int .i64 0] ∧ Lie w bo R ∧ ∀ b o, bo = some ⟨b, o, none⟩ → b ≠ K
  | 6, v, w => ∃ bo, v = .agg #[.bool true, .int .i64 p1, .int .i64 5, .bool true, .slice bo R.length R.length] ∧ Lie w bo R ∧ ∀ b o, bo = some ⟨b, o, none⟩ → b ≠ K
  | 7, v, _ => v = .int .i64 0
  | 9, v, _ => v = .int .i64 0
  | _, _, _ => True
theorem psi7_stab (p1 : Int) (sl : Value) (ao : Option Addr) (n : Nat) (cap : Nat) (ys : List Int) (R : List Ps) (K : Nat) (i : Nat) (v : Value) (w w' : World) (h : psi7 p1 sl ao n cap ys R K i v w) (hb : Below w.heap.size w w') : psi7 p1 sl ao n cap ys R K i v w' := by
  match i, h with
  | 0, h => exact h
  | 1, h => exact h
  | 2, h => exact h
  | 3, ⟨bo, cp, h1, h2⟩ => exact ⟨bo, cp, h1, h2.below hb⟩
  | 4, ⟨bo, h1, h2, h3⟩ => exact ⟨bo, h1, h2.below hb, h3⟩
  | 5, ⟨bo, h1, h2, h3⟩ => exact ⟨bo, h1, h2.below hb, h3⟩
  | 6, ⟨bo, h1, h2, h3⟩ => exact ⟨bo, h1, h2.below hb, h3⟩
  | 7, h => exact h
  | 9, h => exact h
  | 8, _ => exact trivial
  | i + 10, _ => exact trivial
def psi7b : Nat → Value → Prop
  | 5, v => ∃ x, v = .tuple #[x, .int .i64 0]
  | 7, v => v = .int .i64 0
  | 9, v => v = .int .i64 0
  | _, _ => True
theorem psi7_to (p1 : Int) (sl : Value) (ao : Option Addr) (n : Nat) (cap : Nat) (ys : List Int) (R : List Ps) (K : Nat) (i : Nat) (v : Value) (w : World) (h : psi7 p1 sl ao n cap ys R K i v w) : psi7b i v := by
  match i, h with
  | 0, _ => exact trivial
  | 1, _ => exact trivial
  | 2, _ => exact trivial
  | 3, _ => exact trivial
  | 4, _ => exact trivial
  | 5, ⟨bo, h1, _⟩ => exact ⟨_, h1⟩
  | 6, _ => exact trivial
  | 7, h => exact h
  | 8, _ => exact trivial
  | 9, h => exact h
  | i + 10, _ => exact trivial
def psi8 (p0 : Int) (p1 : Int) (sl : Value) (ao : Option Addr) (n : Nat) (cap : Nat) (ys : List Int) (R : List Ps) (B : Nat) : Nat → Value → World → Prop
  | 0, v, _ => v = .agg #[.bool true, .int .i64 p0, .int .i64 5, .bool true, sl]
  | 1, v, _ => v = .int .i64 p1
  | 2, v, _ => v = .slice ao n cap
  | 3, v, w => ∃ bo cp, v = .slice bo (ys.map pOf).length cp ∧ Lie w bo (ys.map pOf)
  | 4, v, w => ∃ bo, v = .tuple #[.agg #[.bool true, .int .i64 p1, .int .i64 5, .bool true, .slice bo R.length R.length], .int .i64 0] ∧ Lie w bo R
  | 5, v, w => ∃ bo, v = .tuple #[.agg #[.bool true, .int .i64 p1, .int .i64 5, .bool true, .slice bo R.length R.length], .int .i64 0] ∧ Lie w bo R
  | 6, v, w => ∃ bo, v = .agg #[.bool true, .int .i64 p1, .int .i64 5, .bool true, .slice bo R.length R.length] ∧ Lie w bo R
  | 7, v, _ => v = .int .i64 0
  | 8, v, w => ∃ k, v = .pointer (some ⟨k, 0, none⟩) ∧ B ≤ k ∧ w.heap[k]? = some newYarn
  | 10, v, _ => v = .int .i64 0
  | _, _, _ => True
theorem psi8_stab (p0 : Int) (p1 : Int) (sl : Value) (ao : Option Addr) (n : Nat) (cap : Nat) (ys : List Int) (R : List Ps) (B : Nat) (i : Nat) (v : Value) (w w' : World) (h : psi8 p0 p1 sl ao n cap ys R B i v w) (hb : Below w.heap.size w w') : psi8 p0 p1 sl ao n cap ys R B i v w' := by
  match i, h with
  | 0, h => exact h
  | 1, h => exact h
  | 2, h => exact h
  | 3, ⟨bo, cp, h1, h2⟩ => exact ⟨bo, cp, h1, h2.below hb⟩
  | 4, ⟨bo, h1, h2⟩ => exact ⟨bo, h1, h2.below hb⟩
  | 5, ⟨bo, h1, h2⟩ => exact ⟨bo, h1, h2.below hb⟩
  | 6, ⟨bo, h1, h2⟩ => exact ⟨bo, h1, h2.below hb⟩
  | 7, h => exact h
  | 8, ⟨k, h1, h2, h3⟩ => exact ⟨k, h1, h2, below_heap hb h3⟩
  | 10, h => exact h
  | 9, _ => exact trivial
  | i + 11, _ => exact trivial
def psi8b : Nat → Value → Prop
  | 5, v => ∃ x, v = .tuple #[x, .int .i64 0]
  | 7, v => v = .int .i64 0
  | 10, v => v = .int .i64 0
  | _, _ => True
theorem psi8_to (p0 : Int) (p1 : Int) (sl : Value) (ao : Option Addr) (n : Nat) (cap : Nat) (ys : List Int) (R : List Ps) (B : Nat) (i : Nat) (v : Value) (w : World) (h : psi8 p0 p1 sl ao n cap ys R B i v w) : psi8b i v := by
  match i, h with
  | 0, _ => exact trivial
  | 1, _ => exact trivial
  | 2, _ => exact trivial
  | 3, _ => exact trivial
  | 4, _ => exact trivial
  | 5, ⟨bo, h1, _⟩ => exact ⟨_, h1⟩
  | 6, _ => exact trivial
  | 7, h => exact h
  | 8, _ => exact trivial
  | 9, _ => exact trivial
  | 10, h => exact h
  | i + 11, _ => exact trivial
def psi9 (p0 : Int) (p1 : Int) (sl : Value) (ao : Option Addr) (n : Nat) (cap : Nat) (ys : List Int) (R : List Ps) (B : Nat) : Nat → Value → World → Prop
  | 0, v, _ => v = .agg #[.bool true, .int .i64 p0, .int .i64 5, .bool true, sl]
  | 1, v, _ => v = .int .i64 p1
  | 2, v, _ => v = .slice ao n cap
  | 3, v, w => ∃ bo cp, v = .slice bo (ys.map pOf).length cp ∧ Lie w bo (ys.map pOf)
  | 4, v, w => ∃ bo, v = .slice bo (inv (ys.map pOf)).length (inv (ys.map pOf)).length ∧ Lie w bo (inv (ys.map pOf))
  | 5, v, w => ∃ bo, v = .tuple #[.agg #[.bool true, .int .i64 p1, .int .i64 5, .bool true, .slice bo R.length R.length], .int .i64 0] ∧ Lie w bo R
  | 6, v, w => ∃ bo, v = .tuple #[.agg #[.bool true, .int .i64 p1, .int .i64 5, .bool true, .slice bo R.length R.length], .int .i64 0] ∧ Lie w bo R
  | 7, v, w => ∃ bo, v = .agg #[.bool true, .int .i64 p1, .int .i64 5, .bool true, .slice bo R.length R.length] ∧ Lie w bo R
  | 8, v, _ => v = .int .i64 0
  | 9, v, w => ∃ k, v = .pointer (some ⟨k, 0, none⟩) ∧ B ≤ k ∧ w.heap[k]? = some newYarn
  | 11, v, _ => v = .int .i64 0
  | _, _, _ => True
theorem psi9_stab (p0 : Int) (p1 : Int) (sl : Value) (ao : Option Addr) (n : Nat) (cap : Nat) (ys : List Int) (R : List Ps) (B : Nat) (i : Nat) (v : Value) (w w' : World) (h : psi9 p0 p1 sl ao n cap ys R B i v w) (hb : Below w.heap.size w w') : psi9 p0 p1 sl ao n cap ys R B i v w' := by
  match i, h with
  | 0, h => exact h
  | 1, h => exact h
  | 2, h => exact h
  | 3, ⟨bo, cp, h1, h2⟩ => exact ⟨bo, cp, h1, h2.below hb⟩
  | 4, ⟨bo, h1, h2⟩ => exact ⟨bo, h1, h2.below hb⟩
  | 5, ⟨bo, h1, h2⟩ => exact ⟨bo, h1, h2.below hb⟩
  | 6, ⟨bo, h1, h2⟩ => exact ⟨bo, h1, h2.below hb⟩
  | 7, ⟨bo, h1, h2⟩ => exact ⟨bo, h1, h2.below hb⟩
  | 8, h => exact h
  | 9, ⟨k, h1, h2, h3⟩ => exact ⟨k, h1, h2, below_heap hb h3⟩
  | 11, h => exact h
  | 10, _ => exact trivial
  | i + 12, _ => exact trivial
def psi9b : Nat → Value → Prop
  | 6, v => ∃ x, v = .tuple #[x, .int .i64 0]
  | 8, v => v = .int .i64 0
  | 11, v => v = .int .i64 0
  | _, _ => True
theorem psi9_to (p0 : Int) (p1 : Int) (sl : Value) (ao : Option Addr) (n : Nat) (cap : Nat) (ys : List Int) (R : List Ps) (B : Nat) (i : Nat) (v : Value) (w : World) (h : psi9 p0 p1 sl ao n cap ys R B i v w) : psi9b i v := by
  match i, h with
  | 0, _ => exact trivial
  | 1, _ => exact trivial
  | 2, _ => exact trivial
  | 3, _ => exact trivial
  | 4, _ => exact trivial
  | 5, _ => exact trivial
  | 6, ⟨bo, h1, _⟩ => exact ⟨_, h1⟩
  | 7, _ => exact trivial
  | 8, h => exact h
  | 9, _ => exact trivial
  | 10, _ => exact trivial
  | 11, h => exact h
  | i + 12, _ => exact trivial
set_option maxRecDepth 100000 in
set_option maxHeartbeats 4000000 in
theorem back_core (HLV : LivesSaid) (ao1 ao2 : Option Addr) (xs ys : List Int) (n1 cap1 n2 cap2 : Nat) (p0 p1 : Int) (w : World) (hn1 : n1 = xs.length) (hn2 : n2 = ys.length)
    (hm1 : n1 ≤ 20) (hm2 : n2 ≤ 20) (h1 : LieB w ao1 xs) (h2 : LieB w ao2 ys) (hx : Bytes xs) (hy : Bytes ys) (hp0 : 0 ≤ p0) (hp0' : p0 ≤ 255) (hp1 : 0 ≤ p1) (hp1' : p1 ≤ 255) :
    Calls Try.prog 6 #[.slice ao1 n1 cap1, .slice ao2 n2 cap2, .agg #[.int .u8 p0, .int .u8 p1]] w fun e w' => e = .returned (.bool true) ∧ Below w.heap.size w w' := by
  have HN1 := Lib.hid hn1
  have HN2 := Lib.hid hn2
  have HL1 := Lib.hid h1
  have HL2 := Lib.hid h2
  have HX := Lib.hid hx
  have HY := Lib.hid hy
  clear hn1 hn2 h1 h2 hx hy
  have g1 : ¬ ((20 : Int) < n1) := by omega
  have g2 : ¬ ((20 : Int) < n2) := by omega
  go_enter Try.func6, Try.ntmps6
  go_wp2_with fail
  go_quiet (fail)
  obtain ⟨V, hV⟩ : ∃ V : World, V = (w.alloc (Obj.cells #[Value.int IntKind.u8 p0, Value.int IntKind.u8 p1] 52)).drewN nq := ⟨_, rfl⟩
  rw [← hV]
  have hbV : Below w.heap.size w V := by rw [hV]; exact below_drewN (below1 _ _) _
  obtain ⟨a, ha⟩ : ∃ a, a = -13 + 2 * (p0 % 97) := ⟨_, rfl⟩
  obtain ⟨b, hb⟩ : ∃ b, b = -13 + 2 * (p1 % 97) := ⟨_, rfl⟩
  have PA : Hid (PlaceOk a) := by rw [ha]; exact place_of p0
  have PB : Hid (PlaceOk b) := by rw [hb]; exact place_of p1
  rw [← ha, ← hb]
  clear hV ha hb
  have hzV := hbV.size
  have HLV1 := Lib.hid (HL1.out.below hbV)
  have HLV2 := Lib.hid (HL2.out.below hbV)
  have VE : Hid (VY false 0 5 false []) := ⟨⟨by omega, by omega⟩, by simp⟩
  go_wp2_with (go_at_call 17; refine (enter_ok0 0 5 false none [] 0 0 _ rfl (by omega) (Lie.nil _ _) VE.out).mono ?_; rintro e w1 ⟨rfl, hb⟩; refine Hid.out ?_)
  have hb1 : Below w.heap.size w w1 := hbV.trans (hb.mono hzV)
  have HLV1 := Lib.hid (HLV1.out.below hb)
  have HLV2 := Lib.hid (HLV2.out.below hb)
  clear hb hbV hzV
  have hz1 := hb1.size
  refine Lib.hid ?_
  go_wp2_with fail
  obtain ⟨W, hW⟩ : ∃ W : World, W = w1.alloc (.cells #[.bool true, .int .i64 (-13), .int .i64 5, .bool true, .slice none 0 0] 38) := ⟨_, rfl⟩
  obtain ⟨K1, hK1⟩ : ∃ K1, K1 = w1.heap.size := ⟨_, rfl⟩
  rw [← hW, ← hK1]
  have F0 : Hid (Five W K1 (.bool true) (.int .i64 (-13)) (.int .i64 5) (.bool true) (.slice none 0 0)) := by rw [hW, hK1]; exact five1 _ _ _ _ _ _
  have hbW : Below w.heap.size w W := by rw [hW]; exact hb1.alloc hz1 _
  have hKw : w.heap.size ≤ K1 := by rw [hK1]; exact hz1
  have hKW : K1 < W.heap.size := by rw [hW, hK1]; simp
  have HLV1 := Lib.hid (HL1.out.below hbW)
  have HLV2 := Lib.hid (HL2.out.below hbW)
  clear hW hK1 hb1 hz1
  have GL : Hid (∀ p ∈ xs.map pOf, Good p) := good_of xs HX.out
  have GM : Hid (∀ p ∈ ys.map pOf, Good p) := good_of ys HY.out
  have V1 : Hid (VY true (-13) 5 true []) := ⟨⟨by omega, by omega⟩, by simp only [if_true]; exact ⟨⟨by omega, by omega, by decide⟩, by simp, fun _ h => absurd h (by simp), Red.nil⟩⟩
  have hxl : xs.length ≤ 20 := by rw [← HN1.out]; exact hm1
  have hyl : ys.length ≤ 20 := by rw [← HN2.out]; exact hm2
  obtain ⟨R1, hR1⟩ : ∃ R, R = red (xs.map pOf) := ⟨_, rfl⟩
  have HR1 := Lib.hid hR1
  have hr1 : R1.length ≤ 20 := by rw [hR1]; have := length_red (xs.map pOf); simp at this; omega
  clear hR1
  have HE1 : Hid (red ([] ++ xs.map pOf) = R1) := by rw [List.nil_append]; exact HR1.out.symm
  refine rgT 8 [7, 9] [some 44, some 45, some 46, some 47, some 48, some 43, some 49, some 50, none, some 10] 9 (psi7 a (.slice none 0 0) ao1 n1 cap1 xs R1 K1) psi7b (fun w' => Below W.heap.size W w') (fun _ w' => ∃ bo, Five w' K1 (.bool true) (.int .i64 a) (.int .i64 5) (.bool true) (.slice bo R1.length R1.length) ∧ Lie w' bo R1 ∧ Below w.heap.size w w') (by kernel_rfl) (by kernel_rfl) (by kernel_rfl) (by kernel_rfl) (.inr (by kernel_rfl)) (psi7_stab a (.slice none 0 0) ao1 n1 cap1 xs R1 K1) (fun _ _ h hb => h.trans (hb.mono h.size)) (psi7_to a (.slice none 0 0) ao1 n1 cap1 xs R1 K1) (fun i o ho hiS fa w1 hs hout hI hdep => ?_) (fun o ho fa w1 hs hout hI hdep => ?_) (fun i o ho hl fa w1 hs hout hdep => ?_) ?_ (Below.refl _ _).drew
  · have hlt := (Array.getElem?_eq_some_iff.1 ho).1
    match i, ho with
    | 0, ho =>
      obtain rfl := Option.some.inj ho
      refine .inl ⟨rfl, fun K hK => ?_⟩
      exact step_load38 rfl ((hout 9 rfl).trans rfl) (F0.out.below hI (by omega)) (hK _ _ (Below.refl _ _) rfl)
    | 1, ho =>
      obtain rfl := Option.some.inj ho
      refine .inl ⟨rfl, fun K hK => ?_⟩
      exact step_move rfl ((hout 7 rfl).trans rfl) (hK _ _ (Below.refl _ _) rfl)
    | 2, ho =>
      obtain rfl := Option.some.inj ho
      refine .inl ⟨rfl, fun K hK => ?_⟩
      exact step_move rfl ((hout 0 rfl).trans rfl) (hK _ _ (Below.refl _ _) rfl)
    | 3, ho =>
      obtain rfl := Option.some.inj ho
      have q_arg : fa.tmps.getD 46 undef = .slice ao1 n1 cap1 := hdep ⟨2, .data⟩ (by simp) rfl _ 46 rfl rfl
      refine .inl ⟨rfl, fun K hK => ?_⟩
      exact step_calls rfl enter10 (vs := #[.slice ao1 n1 cap1]) (vs1 q_arg) ((of_any _ xs _ _ _ HN1.out (by omega) HX.out (HLV1.out.below hI)).mono fun e w' hh => by
        obtain ⟨bo, cp, rfl, -, hl, hb⟩ := hh.out
        exact ⟨_, rfl, hK _ _ hb ⟨bo, cp, rfl, hl⟩⟩)
    | 4, ho =>
      obtain rfl := Option.some.inj ho
      have q_load : fa.tmps.getD 44 undef = .agg #[.bool true, .int .i64 (-13), .int .i64 5, .bool true, .slice none 0 0] := hdep ⟨0, .data⟩ (by simp) rfl _ 44 rfl rfl
      have q_place : fa.tmps.getD 45 undef = .int .i64 a := hdep ⟨1, .data⟩ (by simp) rfl _ 45 rfl rfl
      have q_of : ∃ bo cp, fa.tmps.getD 47 undef = .slice bo (xs.map pOf).length cp ∧ Lie w1 bo (xs.map pOf) := hdep ⟨3, .data⟩ (by simp) rfl _ 47 rfl rfl
      refine .inl ⟨rfl, fun K hK => ?_⟩
      obtain ⟨bx, cp, hv, hl⟩ := q_of
      exact step_calls rfl enter19 (vs := #[.agg #[.bool true, .int .i64 (-13), .int .i64 5, .bool true, .slice none 0 0], .int .i64 a, .slice bx (xs.map pOf).length cp]) (vs3 q_load q_place hv) ((go_ok (-13) 5 true none [] _ _ _ rfl (by simp) (Lie.nil _ _) a bx (xs.map pOf) _ _ rfl (by simp only [List.length_map]; omega) hl V1.out PA.out GL.out (by simp only [List.length_map]; omega) (by rw [HE1.out]; omega)).mono fun e w' hh => by
        obtain ⟨bo, rfl, ho, hb⟩ := hh
        rw [HE1.out] at ho ⊢
        obtain ⟨-, aoX, capX, hvX, -, -, hlX⟩ := lie_of_owns ho
        obtain ⟨rfl, -⟩ : bo = aoX ∧ _ = capX := by simpa using hvX
        exact ⟨_, rfl, hK _ _ hb ⟨bo, rfl, hlX, owns_block ho (Nat.lt_of_lt_of_le hKW hI.size)⟩⟩)
    | 5, ho =>
      obtain rfl := Option.some.inj ho
      have q_go : ∃ bo, fa.tmps.getD 48 undef = .tuple #[.agg #[.bool true, .int .i64 a, .int .i64 5, .bool true, .slice bo R1.length R1.length], .int .i64 0] ∧ Lie w1 bo R1 ∧ ∀ b o, bo = some ⟨b, o, none⟩ → b ≠ K1 := hdep ⟨4, .data⟩ (by simp) rfl _ 48 rfl rfl
      refine .inl ⟨rfl, fun K hK => ?_⟩
      obtain ⟨bo, hv, hl⟩ := q_go
      exact step_move rfl hv (hK _ _ (Below.refl _ _) ⟨bo, rfl, hl⟩)
    | 6, ho =>
      obtain rfl := Option.some.inj ho
      have q_mv : ∃ bo, fa.tmps.getD 43 undef = .tuple #[.agg #[.bool true, .int .i64 a, .int .i64 5, .bool true, .slice bo R1.length R1.length], .int .i64 0] ∧ Lie w1 bo R1 ∧ ∀ b o, bo = some ⟨b, o, none⟩ → b ≠ K1 := hdep ⟨5, .data⟩ (by simp) rfl _ 43 rfl rfl
      refine .inl ⟨rfl, fun K hK => ?_⟩
      obtain ⟨bo, hv, hl⟩ := q_mv
      exact step_extract rfl hv rfl (hK _ _ (Below.refl _ _) ⟨bo, rfl, hl⟩)
    | 7, ho =>
      obtain rfl := Option.some.inj ho
      have q_mv : ∃ bo, fa.tmps.getD 43 undef = .tuple #[.agg #[.bool true, .int .i64 a, .int .i64 5, .bool true, .slice bo R1.length R1.length], .int .i64 0] ∧ Lie w1 bo R1 ∧ ∀ b o, bo = some ⟨b, o, none⟩ → b ≠ K1 := hdep ⟨5, .data⟩ (by simp) rfl _ 43 rfl rfl
      refine .inl ⟨rfl, fun K hK => ?_⟩
      obtain ⟨bo, hv, -⟩ := q_mv
      exact step_extract rfl hv rfl (hK _ _ (Below.refl _ _) rfl)
    | 8, _ => exact absurd rfl hiS
    | 9, ho =>
      obtain rfl := Option.some.inj ho
      have q_x1 : fa.tmps.getD 50 undef = .int .i64 0 := hdep ⟨7, .data⟩ (by simp) rfl _ 50 rfl rfl
      refine .inl ⟨rfl, fun K hK => ?_⟩
      exact step_assign rfl q_x1 (hK _ _ (Below.refl _ _) rfl)
    | i + 10, ho => exact absurd (show i + 10 < 10 from hlt) (by omega)
  · obtain rfl := Option.some.inj ho
    refine ⟨rfl, rfl, fun K hK => ?_⟩
    have q_x0 : ∃ bo, fa.tmps.getD 49 undef = .agg #[.bool true, .int .i64 a, .int .i64 5, .bool true, .slice bo R1.length R1.length] ∧ Lie w1 bo R1 ∧ ∀ b o, bo = some ⟨b, o, none⟩ → b ≠ K1 := hdep 6 _ 49 rfl (by decide) rfl rfl
    obtain ⟨bo, hv, hl, hne⟩ := q_x0
    exact step_store38 rfl rfl ((hout 9 rfl).trans rfl) hv (F0.out.below hI (by omega)) (hK _ ⟨bo, five_set (F0.out.below hI (by omega)) _ _ _ _ _, lie_sets5 hl hne _ _ _ _ _, below_sets5 (hbW.trans (hI.mono hbW.size)) (by omega) _ _ _ _ _⟩)
  · match i, ho, hl with
    | 7, ho, _ =>
      obtain rfl := Option.some.inj ho
      refine ⟨rfl, fun K hK => ?_⟩
      have q_mv : ∃ x, fa.tmps.getD 43 undef = .tuple #[x, .int .i64 0] := hdep ⟨5, .data⟩ (by simp) rfl _ 43 rfl rfl
      obtain ⟨x, hv⟩ := q_mv
      exact step_extract rfl hv rfl (hK _ rfl)
    | 9, ho, _ =>
      obtain rfl := Option.some.inj ho
      refine ⟨rfl, fun K hK => ?_⟩
      have q_x1 : fa.tmps.getD 50 undef = .int .i64 0 := hdep ⟨7, .data⟩ (by simp) rfl _ 50 rfl rfl
      exact step_assign rfl q_x1 (hK _ rfl)
    | 0, _, hl => exact absurd hl (by decide)
    | 1, _, hl => exact absurd hl (by decide)
    | 2, _, hl => exact absurd hl (by decide)
    | 3, _, hl => exact absurd hl (by decide)
    | 4, _, hl => exact absurd hl (by decide)
    | 5, _, hl => exact absurd hl (by decide)
    | 6, _, hl => exact absurd hl (by decide)
    | 8, _, hl => exact absurd hl (by decide)
    | i + 10, _, hl => exact absurd (show ([7, 9] : List Nat).contains (i + 10) = true from hl) (by simp)
  · intro a2 wd hs hd hout hA _
    obtain ⟨tmps, defers⟩ := a2
    obtain ⟨hF, hPB⟩ := hA (by decide)
    have e_err : tmps.getD 10 undef = .int .i64 0 := hPB 9 _ 10 rfl rfl
    obtain ⟨bo1, G1, hl1, hbC⟩ := hF
    simp only at hs hd hout
    have ef := frame_on [some 44, some 45, some 46, some 47, some 48, some 43, some 49, some 50, none, some 10] _ tmps hs hout
    obtain ⟨u7, hu⟩ : ∃ u : Nat → Value, u = fun s => tmps.getD s undef := ⟨_, rfl⟩
    have eu : u7 10 = .int .i64 0 := by rw [hu]; exact e_err
    rw [← hu] at ef
    have ef2 : tmps = #[Value.slice ao1 n1 cap1, Value.slice ao2 n2 cap2, Value.agg #[Value.int IntKind.u8 p0, Value.int IntKind.u8 p1], undef, undef, Value.pointer (some { block := w.heap.size, off := 0 }), Value.bool false, Value.int IntKind.i64 a, Value.int IntKind.i64 b, Value.pointer (some { block := K1, off := 0 }), u7 10, undef, undef, undef, undef, Value.slice ao1 n1 cap1, Value.int IntKind.i64 n1, Value.bool false, Value.bool false, Value.slice ao2 n2 cap2, Value.int IntKind.i64 n2, Value.bool false, Value.bool false, undef, Value.pointer (some { block := w.heap.size, off := 0 }), Value.int IntKind.u8 p0, Value.int IntKind.u8 (p0 % 97), Value.int IntKind.i64 (p0 % 97), Value.int IntKind.i64 (2 * (p0 % 97)), Value.int IntKind.i64 a, Value.pointer (some { block := w.heap.size, off := 1 }), Value.int IntKind.u8 p1, Value.int IntKind.u8 (p1 % 97), Value.int IntKind.i64 (p1 % 97), Value.int IntKind.i64 (2 * (p1 % 97)), Value.int IntKind.i64 b, Value.tuple #[Value.agg #[Value.bool true, Value.int IntKind.i64 (-13), Value.int IntKind.i64 5, Value.bool true, Value.slice none 0 0], Value.int IntKind.i64 0], Value.agg #[Value.bool false, Value.int IntKind.i64 0, Value.int IntKind.i64 5, Value.bool false, Value.slice none 0 0], Value.tuple #[Value.agg #[Value.bool true, Value.int IntKind.i64 (-13), Value.int IntKind.i64 5, Value.bool true, Value.slice none 0 0], Value.int IntKind.i64 0], Value.agg #[Value.bool true, Value.int IntKind.i64 (-13), Value.int IntKind.i64 5, Value.bool true, Value.slice none 0 0], Value.int IntKind.i64 0, Value.int IntKind.i64 0, Value.bool false, u7 43, u7 44, u7 45, u7 46, u7 47, u7 48, u7 49, u7 50, undef, undef, undef, undef, undef, undef, undef, undef, undef, undef, undef, undef, undef, undef, undef, undef, undef, undef, undef, undef, undef, undef, undef, undef, undef, undef, undef, undef, undef, undef, undef, undef, undef, undef, undef, undef, undef, undef, undef, undef, undef, undef, undef, undef, undef, undef, undef, undef, undef, undef, undef, undef, undef, undef, undef, undef, undef, undef] := ef
    subst hd
    rw [eu] at ef2
    rw [ef2]
    clear ef ef2 hu hs hout hA hPB e_err eu
    have F1 := Lib.hid G1
    have L1 := Lib.hid hl1
    have hK1C : K1 < wd.heap.size := World.block_lt_of_cell? _ _ G1.1.1
    have HM2 := Lib.hid (HL2.out.below hbC)
    have VR1 : Hid (VY true a 5 true R1) := by rw [HR1.out]; exact vy_go V1.out PA.out GL.out (by rw [List.nil_append, ← HR1.out]; omega)
    obtain ⟨R2, hR2⟩ : ∃ R, R = red (R1 ++ ys.map pOf) := ⟨_, rfl⟩
    have hr2 : R2.length ≤ 40 := by rw [hR2]; have := length_red (R1 ++ ys.map pOf); simp at this; omega
    have HE2 := Lib.hid hR2.symm
    clear hR2 G1 hl1 HLV1 HLV2 F0
    have hzC := hbC.size
    go_wp2_with fail
    refine rgT 9 [7, 10] [some 52, some 53, some 54, some 55, some 56, some 51, some 57, some 58, some 11, none, some 12] 11 (psi8 a b (.slice bo1 R1.length R1.length) ao2 n2 cap2 ys R2 wd.heap.size) psi8b (fun w' => Below wd.heap.size wd w') (fun v w' => ∃ k bo, v = .pointer (some ⟨k, 0, none⟩) ∧ wd.heap.size ≤ k ∧ Five w' k (.bool true) (.int .i64 b) (.int .i64 5) (.bool true) (.slice bo R2.length R2.length) ∧ Lie w' bo R2 ∧ Below wd.heap.size wd w') (by kernel_rfl) (by kernel_rfl) (by kernel_rfl) (by kernel_rfl) (.inr (by kernel_rfl)) (psi8_stab a b (.slice bo1 R1.length R1.length) ao2 n2 cap2 ys R2 wd.heap.size) (fun _ _ h hb => h.trans (hb.mono h.size)) (psi8_to a b (.slice bo1 R1.length R1.length) ao2 n2 cap2 ys R2 wd.heap.size) (fun i o ho hiS fa w1 hs hout hI hdep => ?_) (fun o ho fa w1 hs hout hI hdep => ?_) (fun i o ho hl fa w1 hs hout hdep => ?_) ?_ (Below.refl _ _).drew
    · have hlt := (Array.getElem?_eq_some_iff.1 ho).1
      match i, ho with
      | 0, ho =>
        obtain rfl := Option.some.inj ho
        refine .inl ⟨rfl, fun K hK => ?_⟩
        exact step_load38 rfl ((hout 9 rfl).trans rfl) (F1.out.below hI (by omega)) (hK _ _ (Below.refl _ _) rfl)
      | 1, ho =>
        obtain rfl := Option.some.inj ho
        refine .inl ⟨rfl, fun K hK => ?_⟩
        exact step_move rfl ((hout 8 rfl).trans rfl) (hK _ _ (Below.refl _ _) rfl)
      | 2, ho =>
        obtain rfl := Option.some.inj ho
        refine .inl ⟨rfl, fun K hK => ?_⟩
        exact step_move rfl ((hout 1 rfl).trans rfl) (hK _ _ (Below.refl _ _) rfl)
      | 3, ho =>
        obtain rfl := Option.some.inj ho
        have q_arg : fa.tmps.getD 54 undef = .slice ao2 n2 cap2 := hdep ⟨2, .data⟩ (by simp) rfl _ 54 rfl rfl
        refine .inl ⟨rfl, fun K hK => ?_⟩
        exact step_calls rfl enter10 (vs := #[.slice ao2 n2 cap2]) (vs1 q_arg) ((of_any _ ys _ _ _ HN2.out (by omega) HY.out (HM2.out.below hI)).mono fun e w' hh => by
          obtain ⟨bo, cp, rfl, -, hl, hb⟩ := hh.out
          exact ⟨_, rfl, hK _ _ hb ⟨bo, cp, rfl, hl⟩⟩)
      | 4, ho =>
        obtain rfl := Option.some.inj ho
        have q_load : fa.tmps.getD 52 undef = .agg #[.bool true, .int .i64 a, .int .i64 5, .bool true, .slice bo1 R1.length R1.length] := hdep ⟨0, .data⟩ (by simp) rfl _ 52 rfl rfl
        have q_place : fa.tmps.getD 53 undef = .int .i64 b := hdep ⟨1, .data⟩ (by simp) rfl _ 53 rfl rfl
        have q_of : ∃ bo cp, fa.tmps.getD 55 undef = .slice bo (ys.map pOf).length cp ∧ Lie w1 bo (ys.map pOf) := hdep ⟨3, .data⟩ (by simp) rfl _ 55 rfl rfl
        refine .inl ⟨rfl, fun K hK => ?_⟩
        obtain ⟨bx, cp, hv, hl⟩ := q_of
        exact step_calls rfl enter19 (vs := #[.agg #[.bool true, .int .i64 a, .int .i64 5, .bool true, .slice bo1 R1.length R1.length], .int .i64 b, .slice bx (ys.map pOf).length cp]) (vs3 q_load q_place hv) ((go_ok a 5 true bo1 R1 _ _ _ rfl (by omega) (L1.out.below hI) b bx (ys.map pOf) _ _ rfl (by simp only [List.length_map]; omega) hl VR1.out PB.out GM.out (by simp only [List.length_map]; omega) (by rw [HE2.out]; omega)).mono fun e w' hh => by
          obtain ⟨bo, rfl, ho, hb⟩ := hh
          rw [HE2.out] at ho ⊢
          obtain ⟨-, aoX, capX, hvX, -, -, hlX⟩ := lie_of_owns ho
          obtain ⟨rfl, -⟩ : bo = aoX ∧ _ = capX := by simpa using hvX
          exact ⟨_, rfl, hK _ _ hb ⟨bo, rfl, hlX⟩⟩)
      | 5, ho =>
        obtain rfl := Option.some.inj ho
        have q_go : ∃ bo, fa.tmps.getD 56 undef = .tuple #[.agg #[.bool true, .int .i64 b, .int .i64 5, .bool true, .slice bo R2.length R2.length], .int .i64 0] ∧ Lie w1 bo R2 := hdep ⟨4, .data⟩ (by simp) rfl _ 56 rfl rfl
        refine .inl ⟨rfl, fun K hK => ?_⟩
        obtain ⟨bo, hv, hl⟩ := q_go
        exact step_move rfl hv (hK _ _ (Below.refl _ _) ⟨bo, rfl, hl⟩)
      | 6, ho =>
        obtain rfl := Option.some.inj ho
        have q_mv : ∃ bo, fa.tmps.getD 51 undef = .tuple #[.agg #[.bool true, .int .i64 b, .int .i64 5, .bool true, .slice bo R2.length R2.length], .int .i64 0] ∧ Lie w1 bo R2 := hdep ⟨5, .data⟩ (by simp) rfl _ 51 rfl rfl
        refine .inl ⟨rfl, fun K hK => ?_⟩
        obtain ⟨bo, hv, hl⟩ := q_mv
        exact step_extract rfl hv rfl (hK _ _ (Below.refl _ _) ⟨bo, rfl, hl⟩)
      | 7, ho =>
        obtain rfl := Option.some.inj ho
        have q_mv : ∃ bo, fa.tmps.getD 51 undef = .tuple #[.agg #[.bool true, .int .i64 b, .int .i64 5, .bool true, .slice bo R2.length R2.length], .int .i64 0] ∧ Lie w1 bo R2 := hdep ⟨5, .data⟩ (by simp) rfl _ 51 rfl rfl
        refine .inl ⟨rfl, fun K hK => ?_⟩
        obtain ⟨bo, hv, -⟩ := q_mv
        exact step_extract rfl hv rfl (hK _ _ (Below.refl _ _) rfl)
      | 8, ho =>
        obtain rfl := Option.some.inj ho
        refine .inl ⟨rfl, fun K hK => ?_⟩
        exact step_alloc38 rfl (hK _ _ (below1 _ _) ⟨_, rfl, hI.size, heap_new _⟩)
      | 9, _ => exact absurd rfl hiS
      | 10, ho =>
        obtain rfl := Option.some.inj ho
        have q_x1 : fa.tmps.getD 58 undef = .int .i64 0 := hdep ⟨7, .data⟩ (by simp) rfl _ 58 rfl rfl
        refine .inl ⟨rfl, fun K hK => ?_⟩
        exact step_assign rfl q_x1 (hK _ _ (Below.refl _ _) rfl)
      | i + 11, ho => exact absurd (show i + 11 < 11 from hlt) (by omega)
    · obtain rfl := Option.some.inj ho
      refine ⟨rfl, rfl, fun K hK => ?_⟩
      have q_x0 : ∃ bo, fa.tmps.getD 57 undef = .agg #[.bool true, .int .i64 b, .int .i64 5, .bool true, .slice bo R2.length R2.length] ∧ Lie w1 bo R2 := hdep 6 _ 57 rfl (by decide) rfl rfl
      have q_al : ∃ k, fa.tmps.getD 11 undef = .pointer (some ⟨k, 0, none⟩) ∧ wd.heap.size ≤ k ∧ w1.heap[k]? = some newYarn := hdep 8 _ 11 rfl (by decide) rfl rfl
      obtain ⟨bo, hv, hl⟩ := q_x0
      obtain ⟨k, hp, hk, hn⟩ := q_al
      exact step_store38 rfl rfl hp hv (five_of_new hn) (hK _ ⟨k, bo, hp, hk, five_set (five_of_new hn) _ _ _ _ _, lie_set_new hn hl _ _ _ _ _, below_sets5 hI hk _ _ _ _ _⟩)
    · match i, ho, hl with
      | 7, ho, _ =>
        obtain rfl := Option.some.inj ho
        refine ⟨rfl, fun K hK => ?_⟩
        have q_mv : ∃ x, fa.tmps.getD 51 undef = .tuple #[x, .int .i64 0] := hdep ⟨5, .data⟩ (by simp) rfl _ 51 rfl rfl
        obtain ⟨x, hv⟩ := q_mv
        exact step_extract rfl hv rfl (hK _ rfl)
      | 10, ho, _ =>
        obtain rfl := Option.some.inj ho
        refine ⟨rfl, fun K hK => ?_⟩
        have q_x1 : fa.tmps.getD 58 undef = .int .i64 0 := hdep ⟨7, .data⟩ (by simp) rfl _ 58 rfl rfl
        exact step_assign rfl q_x1 (hK _ rfl)
      | 0, _, hl => exact absurd hl (by decide)
      | 1, _, hl => exact absurd hl (by decide)
      | 2, _, hl => exact absurd hl (by decide)
      | 3, _, hl => exact absurd hl (by decide)
      | 4, _, hl => exact absurd hl (by decide)
      | 5, _, hl => exact absurd hl (by decide)
      | 6, _, hl => exact absurd hl (by decide)
      | 8, _, hl => exact absurd hl (by decide)
      | 9, _, hl => exact absurd hl (by decide)
      | i + 11, _, hl => exact absurd (show ([7, 10] : List Nat).contains (i + 11) = true from hl) (by simp)
    · intro a2 we hs hd hout hA _
      obtain ⟨tmps, defers⟩ := a2
      obtain ⟨hF, hPB⟩ := hA (by decide)
      have e_err : tmps.getD 12 undef = .int .i64 0 := hPB 10 _ 12 rfl rfl
      obtain ⟨K2, bo2, e_new, hK2, G2, hl2, hbE⟩ := hF
      simp only at hs hd hout e_new
      have ef := frame_on [some 52, some 53, some 54, some 55, some 56, some 51, some 57, some 58, some 11, none, some 12] _ tmps hs hout
      obtain ⟨u8, hu⟩ : ∃ u : Nat → Value, u = fun s => tmps.getD s undef := ⟨_, rfl⟩
      have eu : u8 12 = .int .i64 0 := by rw [hu]; exact e_err
      have en : u8 11 = .pointer (some ⟨K2, 0, none⟩) := by rw [hu]; exact e_new
      rw [← hu] at ef
      have ef2 : tmps = #[Value.slice ao1 n1 cap1, Value.slice ao2 n2 cap2, Value.agg #[Value.int IntKind.u8 p0, Value.int IntKind.u8 p1], undef, undef, Value.pointer (some { block := w.heap.size, off := 0 }), Value.bool false, Value.int IntKind.i64 a, Value.int IntKind.i64 b, Value.pointer (some { block := K1, off := 0 }), .int .i64 0, u8 11, u8 12, undef, undef, Value.slice ao1 n1 cap1, Value.int IntKind.i64 n1, Value.bool false, Value.bool false, Value.slice ao2 n2 cap2, Value.int IntKind.i64 n2, Value.bool false, Value.bool false, undef, Value.pointer (some { block := w.heap.size, off := 0 }), Value.int IntKind.u8 p0, Value.int IntKind.u8 (p0 % 97), Value.int IntKind.i64 (p0 % 97), Value.int IntKind.i64 (2 * (p0 % 97)), Value.int IntKind.i64 a, Value.pointer (some { block := w.heap.size, off := 1 }), Value.int IntKind.u8 p1, Value.int IntKind.u8 (p1 % 97), Value.int IntKind.i64 (p1 % 97), Value.int IntKind.i64 (2 * (p1 % 97)), Value.int IntKind.i64 b, Value.tuple #[Value.agg #[Value.bool true, Value.int IntKind.i64 (-13), Value.int IntKind.i64 5, Value.bool true, Value.slice none 0 0], Value.int IntKind.i64 0], Value.agg #[Value.bool false, Value.int IntKind.i64 0, Value.int IntKind.i64 5, Value.bool false, Value.slice none 0 0], Value.tuple #[Value.agg #[Value.bool true, Value.int IntKind.i64 (-13), Value.int IntKind.i64 5, Value.bool true, Value.slice none 0 0], Value.int IntKind.i64 0], Value.agg #[Value.bool true, Value.int IntKind.i64 (-13), Value.int IntKind.i64 5, Value.bool true, Value.slice none 0 0], Value.int IntKind.i64 0, Value.int IntKind.i64 0, Value.bool false, u7 43, u7 44, u7 45, u7 46, u7 47, u7 48, u7 49, u7 50, u8 51, u8 52, u8 53, u8 54, u8 55, u8 56, u8 57, u8 58, undef, undef, undef, undef, undef, undef, undef, undef, undef, undef, undef, undef, undef, undef, undef, undef, undef, undef, undef, undef, undef, undef, undef, undef, undef, undef, undef, undef, undef, undef, undef, undef, undef, undef, undef, undef, undef, undef, undef, undef, undef, undef, undef, undef, undef, undef, undef, undef, undef, undef] := ef
      subst hd
      rw [eu, en] at ef2
      rw [ef2]
      clear ef ef2 hu hs hout hA hPB e_err eu en e_new
      have F2 := Lib.hid G2
      have L2 := Lib.hid hl2
      have hK2E : K2 < we.heap.size := World.block_lt_of_cell? _ _ G2.1.1
      have HM3 := Lib.hid (HM2.out.below hbE)
      have VR2 : Hid (VY true b 5 true R2) := by rw [← HE2.out]; exact vy_go VR1.out PB.out GM.out (by rw [HE2.out]; omega)
      have HE3 : Hid (red (R2 ++ inv (ys.map pOf)) = R1) := by
        rw [← HE2.out, red_left, List.append_assoc, red_inv (good_dirs GM.out)]
        exact red_id (by rw [HR1.out]; exact red_red _)
      clear G2 hl2
      have hzE := hbE.size
      go_wp2_with fail
      refine rgT 10 [8, 11] [some 60, some 61, some 62, some 63, some 64, some 65, some 59, some 66, some 67, some 13, none, some 14] 13 (psi9 b a (.slice bo2 R2.length R2.length) ao2 n2 cap2 ys R1 we.heap.size) psi9b (fun w' => Below we.heap.size we w') (fun v w' => ∃ k bo, v = .pointer (some ⟨k, 0, none⟩) ∧ we.heap.size ≤ k ∧ Five w' k (.bool true) (.int .i64 a) (.int .i64 5) (.bool true) (.slice bo R1.length R1.length) ∧ Lie w' bo R1 ∧ Below we.heap.size we w') (by kernel_rfl) (by kernel_rfl) (by kernel_rfl) (by kernel_rfl) (.inr (by kernel_rfl)) (psi9_stab b a (.slice bo2 R2.length R2.length) ao2 n2 cap2 ys R1 we.heap.size) (fun _ _ h hb => h.trans (hb.mono h.size)) (psi9_to b a (.slice bo2 R2.length R2.length) ao2 n2 cap2 ys R1 we.heap.size) (fun i o ho hiS fa w1 hs hout hI hdep => ?_) (fun o ho fa w1 hs hout hI hdep => ?_) (fun i o ho hl fa w1 hs hout hdep => ?_) ?_ (Below.refl _ _).drew
      · have hlt := (Array.getElem?_eq_some_iff.1 ho).1
        match i, ho with
        | 0, ho =>
          obtain rfl := Option.some.inj ho
          refine .inl ⟨rfl, fun K hK => ?_⟩
          exact step_load38 rfl ((hout 11 rfl).trans rfl) (F2.out.below hI (by omega)) (hK _ _ (Below.refl _ _) rfl)
        | 1, ho =>
          obtain rfl := Option.some.inj ho
          refine .inl ⟨rfl, fun K hK => ?_⟩
          exact step_move rfl ((hout 7 rfl).trans rfl) (hK _ _ (Below.refl _ _) rfl)
        | 2, ho =>
          obtain rfl := Option.some.inj ho
          refine .inl ⟨rfl, fun K hK => ?_⟩
          exact step_move rfl ((hout 1 rfl).trans rfl) (hK _ _ (Below.refl _ _) rfl)
        | 3, ho =>
          obtain rfl := Option.some.inj ho
          have q_arg : fa.tmps.getD 62 undef = .slice ao2 n2 cap2 := hdep ⟨2, .data⟩ (by simp) rfl _ 62 rfl rfl
          refine .inl ⟨rfl, fun K hK => ?_⟩
          exact step_calls rfl enter10 (vs := #[.slice ao2 n2 cap2]) (vs1 q_arg) ((of_any _ ys _ _ _ HN2.out (by omega) HY.out (HM3.out.below hI)).mono fun e w' hh => by
            obtain ⟨bo, cp, rfl, -, hl, hb⟩ := hh.out
            exact ⟨_, rfl, hK _ _ hb ⟨bo, cp, rfl, hl⟩⟩)
        | 4, ho =>
          obtain rfl := Option.some.inj ho
          have q_of : ∃ bo cp, fa.tmps.getD 63 undef = .slice bo (ys.map pOf).length cp ∧ Lie w1 bo (ys.map pOf) := hdep ⟨3, .data⟩ (by simp) rfl _ 63 rfl rfl
          refine .inl ⟨rfl, fun K hK => ?_⟩
          obtain ⟨bo, cp, hv, hl⟩ := q_of
          exact step_calls rfl enter16 (vs := #[.slice bo (ys.map pOf).length cp]) (vs1 hv) ((inverse_any bo (ys.map pOf) _ _ _ rfl (by simp only [List.length_map]; omega) hl).mono fun e w' hh => by
            obtain ⟨bo, rfl, -, hl', hb⟩ := hh.out
            exact ⟨_, rfl, hK _ _ hb ⟨bo, rfl, hl'⟩⟩)
        | 5, ho =>
          obtain rfl := Option.some.inj ho
          have q_load : fa.tmps.getD 60 undef = .agg #[.bool true, .int .i64 b, .int .i64 5, .bool true, .slice bo2 R2.length R2.length] := hdep ⟨0, .data⟩ (by simp) rfl _ 60 rfl rfl
          have q_place : fa.tmps.getD 61 undef = .int .i64 a := hdep ⟨1, .data⟩ (by simp) rfl _ 61 rfl rfl
          have q_inv : ∃ bo, fa.tmps.getD 64 undef = .slice bo (inv (ys.map pOf)).length (inv (ys.map pOf)).length ∧ Lie w1 bo (inv (ys.map pOf)) := hdep ⟨4, .data⟩ (by simp) rfl _ 64 rfl rfl
          refine .inl ⟨rfl, fun K hK => ?_⟩
          obtain ⟨bx, hv, hl⟩ := q_inv
          exact step_calls rfl enter19 (vs := #[.agg #[.bool true, .int .i64 b, .int .i64 5, .bool true, .slice bo2 R2.length R2.length], .int .i64 a, .slice bx (inv (ys.map pOf)).length (inv (ys.map pOf)).length]) (vs3 q_load q_place hv) ((go_ok b 5 true bo2 R2 _ _ _ rfl (by omega) (L2.out.below hI) a bx (inv (ys.map pOf)) _ _ rfl (by rw [inv_length]; simp only [List.length_map]; omega) hl VR2.out PA.out (good_inv GM.out) (by rw [inv_length]; simp only [List.length_map]; omega) (by rw [HE3.out]; omega)).mono fun e w' hh => by
            obtain ⟨bo, rfl, ho, hb⟩ := hh
            rw [HE3.out] at ho ⊢
            obtain ⟨-, aoX, capX, hvX, -, -, hlX⟩ := lie_of_owns ho
            obtain ⟨rfl, -⟩ : bo = aoX ∧ _ = capX := by simpa using hvX
            exact ⟨_, rfl, hK _ _ hb ⟨bo, rfl, hlX⟩⟩)
        | 6, ho =>
          obtain rfl := Option.some.inj ho
          have q_go : ∃ bo, fa.tmps.getD 65 undef = .tuple #[.agg #[.bool true, .int .i64 a, .int .i64 5, .bool true, .slice bo R1.length R1.length], .int .i64 0] ∧ Lie w1 bo R1 := hdep ⟨5, .data⟩ (by simp) rfl _ 65 rfl rfl
          refine .inl ⟨rfl, fun K hK => ?_⟩
          obtain ⟨bo, hv, hl⟩ := q_go
          exact step_move rfl hv (hK _ _ (Below.refl _ _) ⟨bo, rfl, hl⟩)
        | 7, ho =>
          obtain rfl := Option.some.inj ho
          have q_mv : ∃ bo, fa.tmps.getD 59 undef = .tuple #[.agg #[.bool true, .int .i64 a, .int .i64 5, .bool true, .slice bo R1.length R1.length], .int .i64 0] ∧ Lie w1 bo R1 := hdep ⟨6, .data⟩ (by simp) rfl _ 59 rfl rfl
          refine .inl ⟨rfl, fun K hK => ?_⟩
          obtain ⟨bo, hv, hl⟩ := q_mv
          exact step_extract rfl hv rfl (hK _ _ (Below.refl _ _) ⟨bo, rfl, hl⟩)
        | 8, ho =>
          obtain rfl := Option.some.inj ho
          have q_mv : ∃ bo, fa.tmps.getD 59 undef = .tuple #[.agg #[.bool true, .int .i64 a, .int .i64 5, .bool true, .slice bo R1.length R1.length], .int .i64 0] ∧ Lie w1 bo R1 := hdep ⟨6, .data⟩ (by simp) rfl _ 59 rfl rfl
          refine .inl ⟨rfl, fun K hK => ?_⟩
          obtain ⟨bo, hv, -⟩ := q_mv
          exact step_extract rfl hv rfl (hK _ _ (Below.refl _ _) rfl)
        | 9, ho =>
          obtain rfl := Option.some.inj ho
          refine .inl ⟨rfl, fun K hK => ?_⟩
          exact step_alloc38 rfl (hK _ _ (below1 _ _) ⟨_, rfl, hI.size, heap_new _⟩)
        | 10, _ => exact absurd rfl hiS
        | 11, ho =>
          obtain rfl := Option.some.inj ho
          have q_x1 : fa.tmps.getD 67 undef = .int .i64 0 := hdep ⟨8, .data⟩ (by simp) rfl _ 67 rfl rfl
          refine .inl ⟨rfl, fun K hK => ?_⟩
          exact step_assign rfl q_x1 (hK _ _ (Below.refl _ _) rfl)
        | i + 12, ho => exact absurd (show i + 12 < 12 from hlt) (by omega)
      · obtain rfl := Option.some.inj ho
        refine ⟨rfl, rfl, fun K hK => ?_⟩
        have q_x0 : ∃ bo, fa.tmps.getD 66 undef = .agg #[.bool true, .int .i64 a, .int .i64 5, .bool true, .slice bo R1.length R1.length] ∧ Lie w1 bo R1 := hdep 7 _ 66 rfl (by decide) rfl rfl
        have q_al : ∃ k, fa.tmps.getD 13 undef = .pointer (some ⟨k, 0, none⟩) ∧ we.heap.size ≤ k ∧ w1.heap[k]? = some newYarn := hdep 9 _ 13 rfl (by decide) rfl rfl
        obtain ⟨bo, hv, hl⟩ := q_x0
        obtain ⟨k, hp, hk, hn⟩ := q_al
        exact step_store38 rfl rfl hp hv (five_of_new hn) (hK _ ⟨k, bo, hp, hk, five_set (five_of_new hn) _ _ _ _ _, lie_set_new hn hl _ _ _ _ _, below_sets5 hI hk _ _ _ _ _⟩)
      · match i, ho, hl with
        | 8, ho, _ =>
          obtain rfl := Option.some.inj ho
          refine ⟨rfl, fun K hK => ?_⟩
          have q_mv : ∃ x, fa.tmps.getD 59 undef = .tuple #[x, .int .i64 0] := hdep ⟨6, .data⟩ (by simp) rfl _ 59 rfl rfl
          obtain ⟨x, hv⟩ := q_mv
          exact step_extract rfl hv rfl (hK _ rfl)
        | 11, ho, _ =>
          obtain rfl := Option.some.inj ho
          refine ⟨rfl, fun K hK => ?_⟩
          have q_x1 : fa.tmps.getD 67 undef = .int .i64 0 := hdep ⟨8, .data⟩ (by simp) rfl _ 67 rfl rfl
          exact step_assign rfl q_x1 (hK _ rfl)
        | 0, _, hl => exact absurd hl (by decide)
        | 1, _, hl => exact absurd hl (by decide)
        | 2, _, hl => exact absurd hl (by decide)
        | 3, _, hl => exact absurd hl (by decide)
        | 4, _, hl => exact absurd hl (by decide)
        | 5, _, hl => exact absurd hl (by decide)
        | 6, _, hl => exact absurd hl (by decide)
        | 7, _, hl => exact absurd hl (by decide)
        | 9, _, hl => exact absurd hl (by decide)
        | 10, _, hl => exact absurd hl (by decide)
        | i + 12, _, hl => exact absurd (show ([8, 11] : List Nat).contains (i + 12) = true from hl) (by simp)
      · intro a2 wf hs hd hout hA _
        obtain ⟨tmps, defers⟩ := a2
        obtain ⟨hF, hPB⟩ := hA (by decide)
        have e_err : tmps.getD 14 undef = .int .i64 0 := hPB 11 _ 14 rfl rfl
        obtain ⟨K3, bo3, e_new, hK3, G3, hl3, hbF⟩ := hF
        simp only at hs hd hout e_new
        have ef := frame_on [some 60, some 61, some 62, some 63, some 64, some 65, some 59, some 66, some 67, some 13, none, some 14] _ tmps hs hout
        obtain ⟨u9, hu⟩ : ∃ u : Nat → Value, u = fun s => tmps.getD s undef := ⟨_, rfl⟩
        have eu : u9 14 = .int .i64 0 := by rw [hu]; exact e_err
        have en : u9 13 = .pointer (some ⟨K3, 0, none⟩) := by rw [hu]; exact e_new
        rw [← hu] at ef
        have ef2 : tmps = #[Value.slice ao1 n1 cap1, Value.slice ao2 n2 cap2, Value.agg #[Value.int IntKind.u8 p0, Value.int IntKind.u8 p1], undef, undef, Value.pointer (some { block := w.heap.size, off := 0 }), Value.bool false, Value.int IntKind.i64 a, Value.int IntKind.i64 b, Value.pointer (some { block := K1, off := 0 }), .int .i64 0, .pointer (some ⟨K2, 0, none⟩), .int .i64 0, u9 13, u9 14, Value.slice ao1 n1 cap1, Value.int IntKind.i64 n1, Value.bool false, Value.bool false, Value.slice ao2 n2 cap2, Value.int IntKind.i64 n2, Value.bool false, Value.bool false, undef, Value.pointer (some { block := w.heap.size, off := 0 }), Value.int IntKind.u8 p0, Value.int IntKind.u8 (p0 % 97), Value.int IntKind.i64 (p0 % 97), Value.int IntKind.i64 (2 * (p0 % 97)), Value.int IntKind.i64 a, Value.pointer (some { block := w.heap.size, off := 1 }), Value.int IntKind.u8 p1, Value.int IntKind.u8 (p1 % 97), Value.int IntKind.i64 (p1 % 97), Value.int IntKind.i64 (2 * (p1 % 97)), Value.int IntKind.i64 b, Value.tuple #[Value.agg #[Value.bool true, Value.int IntKind.i64 (-13), Value.int IntKind.i64 5, Value.bool true, Value.slice none 0 0], Value.int IntKind.i64 0], Value.agg #[Value.bool false, Value.int IntKind.i64 0, Value.int IntKind.i64 5, Value.bool false, Value.slice none 0 0], Value.tuple #[Value.agg #[Value.bool true, Value.int IntKind.i64 (-13), Value.int IntKind.i64 5, Value.bool true, Value.slice none 0 0], Value.int IntKind.i64 0], Value.agg #[Value.bool true, Value.int IntKind.i64 (-13), Value.int IntKind.i64 5, Value.bool true, Value.slice none 0 0], Value.int IntKind.i64 0, Value.int IntKind.i64 0, Value.bool false, u7 43, u7 44, u7 45, u7 46, u7 47, u7 48, u7 49, u7 50, u8 51, u8 52, u8 53, u8 54, u8 55, u8 56, u8 57, u8 58, u9 59, u9 60, u9 61, u9 62, u9 63, u9 64, u9 65, u9 66, u9 67, undef, undef, undef, undef, undef, undef, undef, undef, undef, undef, undef, undef, undef, undef, undef, undef, undef, undef, undef, undef, undef, undef, undef, undef, undef, undef, undef, undef, undef, undef, undef, undef, undef, undef, undef, undef, undef, undef, undef, undef, undef] := ef
        subst hd
        rw [eu, en] at ef2
        rw [ef2]
        clear ef ef2 hu hs hout hA hPB e_err eu en e_new
        have hzF := hbF.size
        have HL1F := Lib.hid ((L1.out.below hbE).below hbF)
        have HL3F := Lib.hid hl3
        obtain ⟨⟨x0, x1, x2, x3, x4⟩, -⟩ := G3
        obtain ⟨⟨y0, y1, y2, y3, y4⟩, -⟩ := (F1.out.below hbE hK1C).below hbF (by omega)
        obtain ⟨⟨z0, z1, z2, z3, z4⟩, -⟩ := F2.out.below hbF hK2E
        have hbz : Below w.heap.size w wf := hbC.trans ((hbE.mono hzC).trans (hbF.mono (by omega)))
        have hzz := hbz.size
        go_wp2_with (first
          | (go_at_call 13; refine (same_yes bo3 bo1 R1 _ _ _ rfl (by omega) HL3F.out HL1F.out).mono ?_; rintro e wg ⟨rfl, hb⟩; have hbg := hbz.trans (hb.mono hzz); clear hb)
          | (go_at_call 9; refine (HLV _).mono ?_; rintro e wh ⟨rfl, hb⟩; have hbh := hbg.trans (hb.mono hbg.size); clear hb))
        go_ret
        exact ⟨rfl, hbh⟩

end Go.Proofs.Ytikdhdikaihenaa
