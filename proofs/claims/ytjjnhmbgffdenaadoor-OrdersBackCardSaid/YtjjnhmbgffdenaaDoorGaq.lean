import Derived.Test.YtjjnhmbgffdenaaDoorGap
import Derived.WalkKit
import Derived.WalkSpells
import Derived.WalkLawsBesides
import Derived.Lib.Hide
import Derived.Lib.QuietBelow
import Derived.BigQuiet
import Derived.Deep.LoopGhost
import Derived.Outline
import Derived.Laws.CopyOwn
import Derived.Deep.OwnRows
namespace Go.Proofs.YtjjnhmbgffdenaaDoor.Ya
set_option maxRecDepth 100000
open Go.RowKit Go.Sort
open Go.RowKit

/-- A pass as plain data: the yarn and the number of the loop, whether it lies in front, the direction. -/
structure Ps where
  y : Int
  n : Int
  f : Bool
  d : Int
deriving DecidableEq

def Ps.nil : Ps := ⟨0, 0, false, 0⟩
/-- Two passes cancel. -/
def canc (a b : Ps) : Bool := decide (a.y = b.y) && decide (a.n = b.n) && decide (a.f = b.f) && (decide (a.d = 0 ∧ b.d = 1) || decide (a.d = 1 ∧ b.d = 0))
/-- The pass of the way back. -/
def bck (p : Ps) : Ps := { p with d := if p.d = 1 then 0 else 1 }

theorem canc_iff (a b : Ps) : canc a b = true ↔ a.y = b.y ∧ a.n = b.n ∧ a.f = b.f ∧ ((a.d = 0 ∧ b.d = 1) ∨ (a.d = 1 ∧ b.d = 0)) := by
  simp [canc, and_assoc]
theorem canc_uniq {a b c : Ps} (h : canc a b = true) (h' : canc b c = true) : a = c := by
  rw [canc_iff] at h h'
  obtain ⟨ay, an, af, ad⟩ := a
  obtain ⟨cy, cn, cf, cd⟩ := c
  simp only [Ps.mk.injEq]
  simp only at h h'
  obtain ⟨h1, h2, h3, h4⟩ := h
  obtain ⟨g1, g2, g3, g4⟩ := h'
  exact ⟨h1.trans g1, h2.trans g2, h3.trans g3, by omega⟩
theorem canc_bck {a : Ps} (h : a.d = 0 ∨ a.d = 1) : canc a (bck a) = true := by
  rw [canc_iff]
  rcases h with h | h <;> simp [bck, h]
theorem bck_bck {a : Ps} (h : a.d = 0 ∨ a.d = 1) : bck (bck a) = a := by
  obtain ⟨y, n, f, d⟩ := a
  rcases h with h | h <;> simp only at h <;> subst h <;> simp [bck]
theorem bck_dir (a : Ps) : (bck a).d = 0 ∨ (bck a).d = 1 := by
  by_cases h : a.d = 1 <;> simp [bck, h]

/-- No two that follow each other cancel. -/
def Red (s : List Ps) : Prop := ∀ i a b, s[i]? = some a → s[i + 1]? = some b → canc a b = false

/-- A list with one pass more, reduced. -/
def psh (s : List Ps) (p : Ps) : List Ps := match s.getLast? with
  | some x => if canc x p = true then s.dropLast else s ++ [p]
  | none => [p]
def red (l : List Ps) : List Ps := l.foldl psh []

theorem psh_nil (p : Ps) : psh [] p = [p] := rfl
theorem psh_yes {s : List Ps} {x p : Ps} (h : canc x p = true) : psh (s ++ [x]) p = s := by simp [psh, h]
theorem psh_no {s : List Ps} {x p : Ps} (h : canc x p = false) : psh (s ++ [x]) p = s ++ [x] ++ [p] := by simp [psh, h]

theorem list_last (s : List Ps) : s = [] ∨ ∃ t x, s = t ++ [x] := by
  rcases List.eq_nil_or_concat s with h | ⟨t, x, h⟩
  · exact .inl h
  · exact .inr ⟨t, x, by simpa using h⟩

theorem Red.nil : Red [] := fun _ _ _ h => by simp at h
theorem Red.init {s : List Ps} {x : Ps} (h : Red (s ++ [x])) : Red s := fun i a b h1 h2 => by
  have l2 := (List.getElem?_eq_some_iff.1 h2).1
  exact h i a b (by rw [List.getElem?_append_left (by omega)]; exact h1) (by rw [List.getElem?_append_left (by omega)]; exact h2)
theorem Red.add {s : List Ps} {x p : Ps} (h : Red (s ++ [x])) (hc : canc x p = false) : Red (s ++ [x] ++ [p]) := fun i a b h1 h2 => by
  have l2 := (List.getElem?_eq_some_iff.1 h2).1
  simp at l2
  by_cases e : i + 1 < (s ++ [x]).length
  · exact h i a b (by rw [List.getElem?_append_left (by omega)] at h1; exact h1) (by rw [List.getElem?_append_left e] at h2; exact h2)
  · have e2 : i = s.length := by simp at e; omega
    subst e2
    simp at h1 h2
    subst h1; subst h2
    exact hc
theorem Red.one (p : Ps) : Red [p] := fun i a b _ h2 => by simp at h2
theorem Red.psh {s : List Ps} (h : Red s) (p : Ps) : Red (psh s p) := by
  rcases list_last s with rfl | ⟨t, x, rfl⟩
  · exact Red.one p
  · cases hc : canc x p
    · rw [psh_no hc]; exact h.add hc
    · rw [psh_yes hc]; exact h.init

theorem psh_psh {s : List Ps} (h : Red s) {a b : Ps} (hc : canc a b = true) : psh (psh s a) b = s := by
  rcases list_last s with rfl | ⟨t, x, rfl⟩
  · show psh ([] ++ [a]) b = []
    exact psh_yes hc
  · cases hx : canc x a
    · rw [psh_no hx, psh_yes hc]
    · rw [psh_yes hx]
      obtain rfl := canc_uniq hx hc
      rcases list_last t with rfl | ⟨u, y, rfl⟩
      · rfl
      · have hy : canc y x = false := h u.length y x (by simp) (by simp)
        rw [psh_no hy]

theorem Red.fold {s : List Ps} (h : Red s) (l : List Ps) : Red (l.foldl Go.Proofs.YtjjnhmbgffdenaaDoor.Ya.psh s) := by
  induction l generalizing s with
  | nil => exact h
  | cons p l ih => exact ih (h.psh p)
theorem red_red (l : List Ps) : Red (red l) := Red.nil.fold l

theorem fold_cut {s : List Ps} (h : Red s) (u v : List Ps) {a b : Ps} (hc : canc a b = true) : (u ++ a :: b :: v).foldl psh s = (u ++ v).foldl psh s := by
  rw [List.foldl_append, List.foldl_append, List.foldl_cons, List.foldl_cons, psh_psh (h.fold u) hc]
theorem red_cut (u v : List Ps) {a b : Ps} (hc : canc a b = true) : red (u ++ a :: b :: v) = red (u ++ v) := fold_cut Red.nil u v hc

theorem fold_id (l : List Ps) : ∀ s : List Ps, Red (s ++ l) → l.foldl psh s = s ++ l := by
  induction l with
  | nil => intro s _; simp
  | cons p l ih =>
    intro s h
    have e : psh s p = s ++ [p] := by
      rcases list_last s with rfl | ⟨t, x, rfl⟩
      · rfl
      · exact psh_no (h t.length x p (by simp) (by simp))
    rw [List.foldl_cons, e, ih (s ++ [p]) (by simpa using h)]
    simp
theorem red_id {l : List Ps} (h : Red l) : red l = l := by
  have := fold_id l [] (by simpa using h)
  simpa [red] using this

/-- What two lists come to behind every reduced list. -/
def Eqv (l m : List Ps) : Prop := ∀ s, Red s → l.foldl psh s = m.foldl psh s
theorem Eqv.app {l m l' m' : List Ps} (h : Eqv l m) (h' : Eqv l' m') : Eqv (l ++ l') (m ++ m') := fun s hs => by
  rw [List.foldl_append, List.foldl_append, h s hs, h' _ (hs.fold m)]
theorem Eqv.rfl' (l : List Ps) : Eqv l l := fun _ _ => rfl
theorem eqv_psh (s : List Ps) (p : Ps) : Eqv (psh s p) (s ++ [p]) := by
  rcases list_last s with rfl | ⟨t, x, rfl⟩
  · exact Eqv.rfl' _
  · cases hc : canc x p
    · rw [psh_no hc]; exact Eqv.rfl' _
    · rw [psh_yes hc]
      intro s hs
      have := fold_cut hs t [] hc
      simp only [List.append_nil] at this
      rw [← this]; simp
theorem eqv_fold (l : List Ps) : ∀ s, Eqv (l.foldl psh s) (s ++ l) := by
  induction l with
  | nil => intro s; simpa using Eqv.rfl' s
  | cons p l ih =>
    intro s t ht
    rw [List.foldl_cons, ih (psh s p) t ht, List.foldl_append, eqv_psh s p t ht]
    simp
theorem eqv_red (l : List Ps) : Eqv (red l) l := by have := eqv_fold l []; rw [List.nil_append] at this; exact this
theorem Eqv.red {l m : List Ps} (h : Eqv l m) : red l = red m := h [] Red.nil
theorem red_parts (a b : List Ps) : red (red a ++ red b) = red (a ++ b) := ((eqv_red a).app (eqv_red b)).red
theorem red_left (a b : List Ps) : red (red a ++ b) = red (a ++ b) := ((eqv_red a).app (Eqv.rfl' b)).red
theorem red_again (a : List Ps) : red (red a) = red a := red_id (red_red a)

def inv (l : List Ps) : List Ps := (l.map bck).reverse
theorem inv_cons (p : Ps) (l : List Ps) : inv (p :: l) = inv l ++ [bck p] := by simp [inv]
def Dirs (l : List Ps) : Prop := ∀ p ∈ l, p.d = 0 ∨ p.d = 1
theorem inv_inv {l : List Ps} (h : Dirs l) : inv (inv l) = l := by
  simp only [inv, List.map_reverse, List.reverse_reverse, List.map_map]
  conv => rhs; rw [← List.map_id l]
  exact List.map_congr_left fun p hp => bck_bck (h p hp)
theorem red_inv_from (l : List Ps) : Dirs l → ∀ u v : List Ps, red (u ++ (l ++ inv l) ++ v) = red (u ++ v) := by
  induction l with
  | nil => intro _ u v; simp [inv]
  | cons p l ih =>
    intro h u v
    have h1 := ih (fun q hq => h q (List.mem_cons_of_mem _ hq)) (u ++ [p]) ([bck p] ++ v)
    have h2 := red_cut u v (canc_bck (h p (List.mem_cons_self ..)))
    rw [inv_cons]
    simp only [List.append_assoc, List.cons_append, List.nil_append] at h1 h2 ⊢
    rw [h1, h2]
theorem red_inv {l : List Ps} (h : Dirs l) (u : List Ps) : red (u ++ (l ++ inv l)) = red u := by
  have := red_inv_from l h u []
  simpa using this
theorem Dirs.psh {s : List Ps} (h : Dirs s) {p : Ps} (hp : p.d = 0 ∨ p.d = 1) : Dirs (psh s p) := by
  rcases list_last s with rfl | ⟨t, x, rfl⟩
  · intro q hq; simp [psh_nil] at hq; subst hq; exact hp
  · cases hc : canc x p
    · rw [psh_no hc]; intro q hq
      rcases List.mem_append.1 hq with hq | hq
      · exact h q hq
      · simp at hq; subst hq; exact hp
    · rw [psh_yes hc]; exact fun q hq => h q (by simp [hq])
theorem length_psh (s : List Ps) (p : Ps) : (psh s p).length ≤ s.length + 1 := by
  rcases list_last s with rfl | ⟨t, x, rfl⟩
  · simp [psh_nil]
  · cases hc : canc x p
    · rw [psh_no hc]; simp
    · rw [psh_yes hc]; simp; omega
theorem length_fold (l : List Ps) : ∀ s : List Ps, (l.foldl psh s).length ≤ s.length + l.length := by
  induction l with
  | nil => intro s; simp
  | cons p l ih => intro s; have := ih (psh s p); have := length_psh s p; simp only [List.foldl_cons, List.length_cons]; omega
theorem length_red (l : List Ps) : (red l).length ≤ l.length := by have := length_fold l []; simpa [red] using this
theorem mem_psh {s : List Ps} {p q : Ps} (h : q ∈ psh s p) : q ∈ s ∨ q = p := by
  rcases list_last s with rfl | ⟨t, x, rfl⟩
  · simp [psh_nil] at h; exact .inr h
  · cases hc : canc x p
    · rw [psh_no hc] at h
      rcases List.mem_append.1 h with h | h
      · exact .inl h
      · simp at h; exact .inr h
    · rw [psh_yes hc] at h; exact .inl (by simp [h])
theorem mem_fold (l : List Ps) : ∀ {s : List Ps} {q : Ps}, q ∈ l.foldl psh s → q ∈ s ∨ q ∈ l := by
  induction l with
  | nil => intro s q h; exact .inl h
  | cons p l ih =>
    intro s q h
    rcases ih h with h | h
    · rcases mem_psh h with h | h
      · exact .inl h
      · exact .inr (by simp [h])
    · exact .inr (by simp [h])
theorem mem_red {l : List Ps} {q : Ps} (h : q ∈ red l) : q ∈ l := by
  rcases mem_fold l h with h | h
  · simp at h
  · exact h

open Go.RowKit

theorem bcell {W w1 : World} (hb : Below W.heap.size W w1) : (∀ b o, b < W.heap.size → w1.cell? ⟨b, o, none⟩ = W.cell? ⟨b, o, none⟩) ∧ (∀ b o, b < W.heap.size → w1.frozen? ⟨b, o, none⟩ = W.frozen? ⟨b, o, none⟩) :=
  ⟨fun b o h => hb.cell (p := ⟨b, o, none⟩) h, fun b o h => hb.frozen (p := ⟨b, o, none⟩) h⟩

/-- A pass as a value. -/
def Ps.v (p : Ps) : Value := .agg #[.int .u8 p.y, .int .i64 p.n, .bool p.f, .int .u8 p.d]

theorem below1 (w : World) (o : Obj) : Below w.heap.size w (w.alloc o) := (Below.refl _ _).alloc (Nat.le_refl _) _
theorem below2 (w : World) (o p : Obj) : Below w.heap.size w ((w.alloc o).alloc p) := (below1 w o).alloc (by simp) _

theorem back_right (y n : Int) (f : Bool) (w : World) :
    Calls Tryd.prog 46 #[.agg #[.int .u8 y, .int .i64 n, .bool f, .int .u8 1]] w fun e w' => e = .returned (.agg #[.int .u8 y, .int .i64 n, .bool f, .int .u8 0]) ∧ Below w.heap.size w w' := by
  go_enter Tryd.func46, Tryd.ntmps46
  go_wp2
  exact bodyPost_ret (v := .agg #[.int .u8 y, .int .i64 n, .bool f, .int .u8 0]) (by simp [results, Tryd.results46, go_sem]) rfl ⟨rfl, below2 _ _ _⟩

theorem back_other (y n : Int) (f : Bool) (d : Int) (h : d ≠ 1) (w : World) :
    Calls Tryd.prog 46 #[.agg #[.int .u8 y, .int .i64 n, .bool f, .int .u8 d]] w fun e w' => e = .returned (.agg #[.int .u8 y, .int .i64 n, .bool f, .int .u8 1]) ∧ Below w.heap.size w w' := by
  go_enter Tryd.func46, Tryd.ntmps46
  go_wp2
  exact bodyPost_ret (v := .agg #[.int .u8 y, .int .i64 n, .bool f, .int .u8 1]) (by simp [results, Tryd.results46, go_sem]) rfl ⟨rfl, below2 _ _ _⟩

theorem back_any (y n : Int) (f : Bool) (d : Int) (w : World) :
    Calls Tryd.prog 46 #[.agg #[.int .u8 y, .int .i64 n, .bool f, .int .u8 d]] w fun e w' => e = .returned (.agg #[.int .u8 y, .int .i64 n, .bool f, .int .u8 (bck ⟨y, n, f, d⟩).d]) ∧ Below w.heap.size w w' := by
  by_cases h : d = 1
  · subst h; exact back_right y n f w
  · have := back_other y n f d h w
    simpa [bck, h] using this

open Go.RowKit Go.Sort

/-- The four cells of a pass. -/
def Four (w : World) (b o : Nat) (p : Ps) : Prop :=
  w.cell? ⟨b, o, none⟩ = some (.int .u8 p.y) ∧ w.cell? ⟨b, o + 1, none⟩ = some (.int .i64 p.n) ∧ w.cell? ⟨b, o + 2, none⟩ = some (.bool p.f) ∧ w.cell? ⟨b, o + 3, none⟩ = some (.int .u8 p.d)

/-- The passes of a list lie in memory. -/
def Lie (w : World) (ao : Option Addr) (ps : List Ps) : Prop :=
  ps = [] ∨ ∃ b o, ao = some ⟨b, o, none⟩ ∧ b < w.heap.size ∧ ∀ i p, ps[i]? = some p → Four w b (o + i * 4) p

theorem Four.below {w w' : World} {b o : Nat} {p : Ps} (h : Four w b o p) {B : Nat} (hb : Below B w w') (hB : b < B) : Four w' b o p := by
  obtain ⟨h1, h2, h3, h4⟩ := h
  refine ⟨?_, ?_, ?_, ?_⟩
  · rw [hb.cell (p := ⟨b, o, none⟩) hB]; exact h1
  · rw [hb.cell (p := ⟨b, o + 1, none⟩) hB]; exact h2
  · rw [hb.cell (p := ⟨b, o + 2, none⟩) hB]; exact h3
  · rw [hb.cell (p := ⟨b, o + 3, none⟩) hB]; exact h4

theorem Lie.below {w w' : World} {ao : Option Addr} {ps : List Ps} (h : Lie w ao ps) (hb : Below w.heap.size w w') : Lie w' ao ps := by
  rcases h with h | ⟨b, o, h1, h2, h3⟩
  · exact .inl h
  · exact .inr ⟨b, o, h1, Nat.lt_of_lt_of_le h2 hb.size, fun i p hp => (h3 i p hp).below hb h2⟩

theorem Lie.nil (w : World) (ao : Option Addr) : Lie w ao [] := .inl rfl

/-- The pass at a place of a list that is not empty. -/
theorem Lie.at {w : World} {ao : Option Addr} {ps : List Ps} (h : Lie w ao ps) {i : Nat} (hi : i < ps.length) :
    ∃ b o, ao = some ⟨b, o, none⟩ ∧ b < w.heap.size ∧ Four w b (o + i * 4) (ps.getD i Ps.nil) := by
  rcases h with rfl | ⟨b, o, h1, h2, h3⟩
  · simp at hi
  · exact ⟨b, o, h1, h2, h3 i _ (by simp [List.getD, List.getElem?_eq_getElem hi])⟩

open Go.RowKit Go.Sort

/-- The cells of a list of passes, in a row. -/
def cellsOf (ps : List Ps) : List Value := ps.flatMap fun p => [.int .u8 p.y, .int .i64 p.n, .bool p.f, .int .u8 p.d]

theorem cellsOf_nil : cellsOf [] = [] := rfl
theorem cellsOf_cons (p : Ps) (ps : List Ps) : cellsOf (p :: ps) = .int .u8 p.y :: .int .i64 p.n :: .bool p.f :: .int .u8 p.d :: cellsOf ps := rfl
theorem cellsOf_append (a b : List Ps) : cellsOf (a ++ b) = cellsOf a ++ cellsOf b := by simp [cellsOf]
theorem cellsOf_length (ps : List Ps) : (cellsOf ps).length = ps.length * 4 := by
  induction ps with
  | nil => rfl
  | cons p ps ih => rw [cellsOf_cons]; simp [ih]; omega
theorem cellsOf_one (ps : List Ps) : ∀ u ∈ cellsOf ps, u.oneCell' = true := by
  intro u hu
  simp only [cellsOf, List.mem_flatMap] at hu
  obtain ⟨p, _, hu⟩ := hu
  simp at hu
  rcases hu with rfl | rfl | rfl | rfl <;> rfl
theorem cellsOf_at (ps : List Ps) : ∀ (i : Nat) (p : Ps), ps[i]? = some p →
    (cellsOf ps)[i * 4]? = some (.int .u8 p.y) ∧ (cellsOf ps)[i * 4 + 1]? = some (.int .i64 p.n) ∧ (cellsOf ps)[i * 4 + 2]? = some (.bool p.f) ∧ (cellsOf ps)[i * 4 + 3]? = some (.int .u8 p.d) := by
  induction ps with
  | nil => intro i p h; simp at h
  | cons q ps ih =>
    intro i p h
    rw [cellsOf_cons]
    cases i with
    | zero => simp at h; subst h; simp
    | succ i =>
      have := ih i p (by simpa using h)
      rw [show (i + 1) * 4 = i * 4 + 4 by omega]
      simpa [Nat.add_assoc] using this
/-- The cells of a list that lies, one by one. -/
theorem Lie.cells {w : World} {ao : Option Addr} {ps : List Ps} (h : Lie w ao ps) : ∀ ad, ao = some ad → ∀ j u, (cellsOf ps)[j]? = some u → w.cell? (ad.add j) = some u := by
  rintro ad rfl j u hj
  rcases h with rfl | ⟨b, o, h1, h2, h3⟩
  · simp [cellsOf] at hj
  · obtain rfl : ad = ⟨b, o, none⟩ := by simpa using h1
    have hlt : j < ps.length * 4 := by rw [← cellsOf_length]; exact (List.getElem?_eq_some_iff.1 hj).1
    have hi : j / 4 < ps.length := by omega
    obtain ⟨p, hp⟩ : ∃ p, ps[j / 4]? = some p := ⟨_, List.getElem?_eq_getElem hi⟩
    obtain ⟨a0, a1, a2, a3⟩ := cellsOf_at ps _ p hp
    obtain ⟨c0, c1, c2, c3⟩ := h3 _ p hp
    have e : (⟨b, o, none⟩ : Addr).add j = ⟨b, o + j, none⟩ := Addr.add_lit ..
    rw [e]
    have hm : j % 4 < 4 := Nat.mod_lt _ (by omega)
    rcases (by omega : j % 4 = 0 ∨ j % 4 = 1 ∨ j % 4 = 2 ∨ j % 4 = 3) with h | h | h | h
    · rw [show j / 4 * 4 = j by omega] at a0 c0
      rw [hj] at a0; rw [a0]; exact c0
    · rw [show j / 4 * 4 + 1 = j by omega] at a1
      rw [show o + j / 4 * 4 + 1 = o + j by omega] at c1
      rw [hj] at a1; rw [a1]; exact c1
    · rw [show j / 4 * 4 + 2 = j by omega] at a2
      rw [show o + j / 4 * 4 + 2 = o + j by omega] at c2
      rw [hj] at a2; rw [a2]; exact c2
    · rw [show j / 4 * 4 + 3 = j by omega] at a3
      rw [show o + j / 4 * 4 + 3 = o + j by omega] at c3
      rw [hj] at a3; rw [a3]; exact c3

/-- What a row of one's own holds lies. -/
theorem lie_of_row {w : World} {g : Nat} {cur : Array Value} {t : TypeId} {ps : List Ps} (hg : w.heap[g]? = some (.cells cur t (0, 0))) (hc : cur.toList.take (ps.length * 4) = cellsOf ps) : Lie w (some ⟨g, 0, none⟩) ps := by
  refine .inr ⟨g, 0, rfl, (Array.getElem?_eq_some_iff.1 hg).1, fun i p hp => ?_⟩
  have hi := (List.getElem?_eq_some_iff.1 hp).1
  obtain ⟨a0, a1, a2, a3⟩ := cellsOf_at ps i p hp
  have key : ∀ j u, j < ps.length * 4 → (cellsOf ps)[j]? = some u → w.cell? ⟨g, j, none⟩ = some u := fun j u hj hu => by
    rw [cell_of_row w g j cur t (0, 0) hg]
    rw [← hc, List.getElem?_take, if_pos hj] at hu
    simpa using hu
  rw [Nat.zero_add]
  exact ⟨key _ _ (by omega) a0, key _ _ (by omega) a1, key _ _ (by omega) a2, key _ _ (by omega) a3⟩

/-- A row that the call owns holds the passes. -/
theorem lie_of_owns {w : World} {B e : Nat} {v : Value} {n : Nat} {ps : List Ps} (h : w.ownsRow B e 4 v n (cellsOf ps)) : n = ps.length ∧ ∃ ao cap, v = .slice ao n cap ∧ n ≤ cap ∧ cap ≤ maxLen ∧ Lie w ao ps := by
  have hn : n = ps.length := by have := h.1; rw [cellsOf_length] at this; omega
  refine ⟨hn, ?_⟩
  rcases h.2 with ⟨rfl, rfl⟩ | ⟨g, cap, cur, rfl, hb, hg, hnc, hcm, hcs, htake⟩
  · exact ⟨none, 0, rfl, Nat.le_refl _, by simp [maxLen], .inl (List.eq_nil_of_length_eq_zero hn.symm)⟩
  · exact ⟨_, cap, rfl, hnc, hcm, lie_of_row hg (by rw [← hn]; exact htake)⟩

/-- A copy of whole elements of several cells into a row of one's own. -/
theorem run_copy_all {P : Program} (w : World) (dT sT ty e : TypeId) (g : Nat) (n dCap : Nat) (a : Addr) (sCap size : Nat) (cur : Array Value) (t : TypeId) (cs : List Value)
    (hu : P.underlying dT = some (.slice e)) (i : TypeInfo) (hi : P.info? e = some i) (hsz : i.size = size) (hg : w.heap[g]? = some (.cells cur t (0, 0))) (hl : cs.length = n * size)
    (hsrc : ∀ j v, cs[j]? = some v → w.cell? (a.add j) = some v) (hfit : cs.length ≤ cur.size) (h1 : ∀ v ∈ cs, v.oneCell' = true) :
    (Builtin.copy_ #[dT, sT] ty #[.slice (some ⟨g, 0, none⟩) n dCap, .slice (some a) n sCap]).run P w = .ok (goInt n) (w.setRow g (cs ++ cur.toList.drop cs.length).toArray) := by
  subst hsz
  have hf := run_firstCells_some (P := P) w i.size n a n sCap cs hl hsrc
  have hst := run_storeCells_at P g 0 t cs 0 cur w hg (by simpa using hfit) h1
  simp only [Nat.add_zero, Nat.zero_add, List.take_zero, List.nil_append] at hst
  simp [Builtin.copy_, run_underlying hu, Builtin.lenOf, sizeOf, typeInfo, hi, hf, hst]

open Go.RowKit Go.Sort

theorem setRow_alloc (w : World) (cur new : Array Value) (t : TypeId) : (w.alloc (.cells cur t)).setRow w.heap.size new = w.alloc (.cells new t) := by
  unfold World.setRow World.alloc
  simp only
  congr 1
  apply Array.ext
  · simp
  · intro k h1 h2
    simp only [Array.getElem_modify]
    split
    · rename_i hk; subst hk; simp
    · rename_i hk
      simp only [Array.size_modify, Array.size_push] at h1
      rw [Array.getElem_push_lt (by omega), Array.getElem_push_lt (by omega)]

/-- The zero pass. -/
def zero33 : Value := .agg #[.int .u8 0, .int .i64 0, .bool false, .int .u8 0]
theorem info33 : (Tryd.prog.info? 47).map (fun i => (i.zero, i.size, i.bytes)) = some (some zero33, 4, 24) := by kernel_rfl

/-- The row of the call's own that 'make' lays. -/
def rowNew (n : Nat) : Array Value := madeCells zero33.cells (n * 4)

theorem run_mk (c : Int) (n : Nat) (hc : c = n) (h1 : 24 * n ≤ 281474976710656) (w : World) :
    (Instr.makeSlice 43 (.int .i64 c) (.int .i64 c)).run Tryd.prog w = .ok (.slice (some ⟨w.heap.size, 0, none⟩) n n) (w.alloc (.cells (rowNew n) 47)) := by
  subst hc
  obtain ⟨i0, hi, hz0, hz1, hz2⟩ := info_parts info33
  have hr := run_make (P := Tryd.prog) w 43 47 i0 zero33 Tryd.underlying43 hi hz0 .i64 .i64 n n (by omega) (Int.le_refl _) (by rw [hz2]; omega) (by omega)
  simp only [Int.toNat_natCast, hz1] at hr
  exact hr
theorem run_mk0 (c : Int) (n : Nat) (hc : c = n) (h1 : 24 * n ≤ 281474976710656) (w : World) :
    (Instr.makeSlice 43 (.int .i64 0) (.int .i64 c)).run Tryd.prog w = .ok (.slice (some ⟨w.heap.size, 0, none⟩) 0 n) (w.alloc (.cells (rowNew n) 47)) := by
  subst hc
  obtain ⟨i0, hi, hz0, hz1, hz2⟩ := info_parts info33
  have hr := run_make (P := Tryd.prog) w 43 47 i0 zero33 Tryd.underlying43 hi hz0 .i64 .i64 0 n (by omega) (by omega) (by rw [hz2]; omega) (by omega)
  simp only [Int.toNat_natCast, hz1, Int.toNat_zero] at hr
  exact hr
theorem rowNew_size (n : Nat) : (rowNew n).size = n * 4 := size_madeCells _ _

/-- A list of passes that the call has made: its length is its room. -/
def Made (B : Nat) (w w' : World) (e : Ending) (ps : List Ps) : Prop :=
  ∃ bo, e = .returned (.slice bo ps.length ps.length) ∧ w'.ownsRow B 47 4 (.slice bo ps.length ps.length) ps.length (cellsOf ps) ∧ Below w.heap.size w w'

theorem copied_any (ao : Option Addr) (ps : List Ps) (n cap : Nat) (w : World) (hn : n = ps.length) (hm : 24 * n ≤ 281474976710656) (h : Lie w ao ps) :
    Calls Tryd.prog 45 #[.slice ao n cap] w fun e w' => Made w.heap.size w w' e ps := by
  have HN := Lib.hid hn
  have HL := Lib.hid h
  clear hn h
  by_cases h0 : n = 0
  · subst h0
    obtain rfl : ps = [] := List.eq_nil_of_length_eq_zero HN.out.symm
    go_enter Tryd.func45, Tryd.ntmps45
    go_wp2
    go_ret
    exact ⟨none, rfl, World.ownsRow_nil _ _ _ _, Below.refl _ _⟩
  · obtain ⟨b, o, rfl, hb, -⟩ := Lie.at HL.out (i := 0) (by rw [← HN.out]; omega)
    have hmk := fun w => run_mk (n : Int) n rfl hm w
    obtain ⟨i0, hi, hz0, hz1, hz2⟩ := info_parts info33
    have hlen : (cellsOf ps).length = n * 4 := by rw [cellsOf_length, HN.out]
    have hcp : (Builtin.copy_ #[43, 43] 3 #[.slice (some ⟨w.heap.size, 0, none⟩) n n, .slice (some ⟨b, o, none⟩) n cap]).run Tryd.prog (w.alloc (.cells (rowNew n) 47)) = .ok (goInt n) (w.alloc (.cells (cellsOf ps).toArray 47)) := by
      have := run_copy_all (P := Tryd.prog) (w.alloc (.cells (rowNew n) 47)) 43 43 3 47 w.heap.size n n ⟨b, o, none⟩ cap 4 (rowNew n) 47 (cellsOf ps) Tryd.underlying43 i0 hi hz1 (heap_alloc_new w _) hlen
        ((HL.out.below (below1 w _)).cells _ rfl) (by rw [rowNew_size, hlen]; exact Nat.le_refl _) (cellsOf_one ps)
      rw [this, setRow_alloc, List.drop_of_length_le (by rw [Array.length_toList, rowNew_size, hlen]; exact Nat.le_refl _), List.append_nil]
    have HLEN := Lib.hid hlen
    clear hi hz0 hz1 hz2 hlen
    go_enter Tryd.func45, Tryd.ntmps45
    go_wp2_with fail
    go_ret
    refine ⟨some ⟨w.heap.size, 0, none⟩, by rw [← HN.out]; rfl, ?_, below1 _ _⟩
    have hp := World.ownsRow_lit (base := w.heap.size) (e := 47) (size := 4) w (cellsOf ps).toArray ps.length (Nat.le_refl _) (by rw [← HN.out]; simp [maxLen]; omega) (by simp [cellsOf_length])
    simpa using hp

open Go.RowKit Go.Sort

theorem grown_of_below {w w' : World} (h : Below w.heap.size w w') : w.grownBy w' none := ⟨h.os, h.tape, h.output, h.size, fun k hk _ => h.block k hk⟩
theorem owns_below {w w' : World} {B e n : Nat} {v : Value} {xs : List Value} (h : w.ownsRow B e 4 v n xs) (hb : Below w.heap.size w w') : w'.ownsRow B e 4 v n xs :=
  h.kept (grown_of_below hb) (by cases hv : v.ownBlock <;> simp)

open Go.RowKit Go.Sort

theorem cellsOf_set (ps : List Ps) : ∀ (i : Nat) (p : Ps), i < ps.length →
    ((((cellsOf ps).set (i * 4) (.int .u8 p.y)).set (i * 4 + 1) (.int .i64 p.n)).set (i * 4 + 2) (.bool p.f)).set (i * 4 + 3) (.int .u8 p.d) = cellsOf (ps.set i p) := by
  induction ps with
  | nil => intro i p h; simp at h
  | cons q ps ih =>
    intro i p h
    cases i with
    | zero => simp [cellsOf_cons]
    | succ i =>
      have := ih i p (by simpa using h)
      rw [show (i + 1) * 4 = i * 4 + 4 by omega, List.set_cons_succ, cellsOf_cons, cellsOf_cons, ← this]
      simp [Nat.add_right_comm]

set_option maxHeartbeats 1000000 in
theorem inverse_any (ao : Option Addr) (ps : List Ps) (n cap : Nat) (w : World) (hn : n = ps.length) (hm : 24 * n ≤ 281474976710656) (h : Lie w ao ps) :
    Calls Tryd.prog 18 #[.slice ao n cap] w fun e w' => Made w.heap.size w w' e (inv ps) := by
  have HN := Lib.hid hn
  have HL := Lib.hid h
  have K := Lib.hid (copied_any ao ps n cap w hn hm h)
  clear hn h
  have hm2 : n ≤ 11728124029610 := by omega
  go_enter Tryd.func18, Tryd.ntmps18
  go_wp2_with (go_at_call 45; refine K.out.mono ?_; rintro e w3 ⟨bo, rfl, ho, hb3⟩; refine Hid.out ?_)
  rw [← HN.out] at ho ⊢
  have HO := Lib.hid ho
  clear ho K
  refine Lib.hid ?_
  go_wp2_with fail
  go_loopg [10] (n + 1) (fun g i wr => ∃ k : Nat, k ≤ n ∧ g = n + 1 - k ∧ i = .int .i64 k ∧ (∃ cur : List Ps, Hid (cur.length = n ∧ (∀ i, i < k → cur[n - 1 - i]? = some (bck (ps.getD i Ps.nil))) ∧ wr.ownsRow w.heap.size 47 4 (.slice bo n n) n (cellsOf cur))) ∧ Below w.heap.size w wr)
  case atStart => exact ⟨0, by omega, rfl, rfl, ⟨ps, HN.out.symm, fun i hi => absurd hi (by omega), HO.out⟩, hb3⟩
  case round =>
    obtain ⟨k, hk, hg, rfl, ⟨cur, HC⟩, hb⟩ := hrel
    have HM := Lib.hid hg
    clear hg
    have hsz := hb.size
    by_cases hlt : k < n
    · obtain ⟨b, o, rfl, hbb, hf⟩ := Lie.at (HL.out.below hb) (i := k) (by rw [← HN.out]; exact hlt)
      obtain ⟨g, rfl, hgB, hgz⟩ : ∃ g, bo = some ⟨g, 0, none⟩ ∧ w.heap.size ≤ g ∧ g < wr.heap.size := by
        rcases HC.out.2.2.2 with ⟨_, h0⟩ | ⟨g, cap, cr, hv, hb, hg, _⟩
        · omega
        · exact ⟨g, by simpa using (Value.slice.inj hv).1, hb, (Array.getElem?_eq_some_iff.1 hg).1⟩
      obtain ⟨p, hp⟩ : ∃ p, p = ps.getD k Ps.nil := ⟨_, rfl⟩
      rw [← hp] at hf
      have HP := Lib.hid hp
      clear hp
      obtain ⟨y, m, f, d⟩ := p
      obtain ⟨c0, c1, c2, c3⟩ := hf
      simp only at c0 c1 c2 c3
      go_wp2_with (go_at_call 46; refine (back_any _ _ _ _ _).mono ?_; rintro e w4 ⟨rfl, hb4⟩; refine Hid.out ?_)
      have hb5 : Below wr.heap.size wr w4 := (below1 _ _).trans (hb4.mono (by simp))
      have hO4 := owns_below HC.out.2.2 hb5
      have hb6 : Below w.heap.size w w4 := hb.trans (hb5.mono hsz)
      clear hb4 hb5 c0 c1 c2 c3
      have x0 := hO4.cellAt ((n - 1 - k) * 4) (by omega)
      have x1 := hO4.cellAt ((n - 1 - k) * 4 + 1) (by omega)
      have x2 := hO4.cellAt ((n - 1 - k) * 4 + 2) (by omega)
      have x3 := hO4.cellAt ((n - 1 - k) * 4 + 3) (by omega)
      obtain ⟨r, hr⟩ : ∃ r, cur[n - 1 - k]? = some r := ⟨_, List.getElem?_eq_getElem (by have := HC.out.1; omega)⟩
      obtain ⟨a0, a1, a2, a3⟩ := cellsOf_at cur _ r hr
      rw [a0] at x0
      rw [a1] at x1
      rw [a2] at x2
      rw [a3] at x3
      have f0 := hO4.frozenAt
      have HO4 := Lib.hid hO4
      clear a0 a1 a2 a3 hr hO4
      refine Lib.hid ?_
      go_wp2_with fail
      obtain ⟨d', hd'⟩ : ∃ d', d' = (bck ⟨y, m, f, d⟩).d := ⟨_, rfl⟩
      rw [← hd']
      have s1 := (HO4.out.stored ((n - 1 - k) * 4) (.int .u8 y)).1
      have s2 := (s1.stored ((n - 1 - k) * 4 + 1) (.int .i64 m)).1
      have s3 := (s2.stored ((n - 1 - k) * 4 + 2) (.bool f)).1
      have s4 := (s3.stored ((n - 1 - k) * 4 + 3) (.int .u8 d')).1
      rw [cellsOf_set cur (n - 1 - k) ⟨y, m, f, d'⟩ (by have := HC.out.1; omega)] at s4
      have hb7 := (((hb6.setCell (p := ⟨g, (n - 1 - k) * 4, none⟩) hgB (.int .u8 y)).setCell (p := ⟨g, (n - 1 - k) * 4 + 1, none⟩) hgB (.int .i64 m)).setCell (p := ⟨g, (n - 1 - k) * 4 + 2, none⟩) hgB (.bool f)).setCell (p := ⟨g, (n - 1 - k) * 4 + 3, none⟩) hgB (.int .u8 d')
      go_roundg (gk - 1)
      case measure => have := HM.out; omega
      case rel =>
        refine ⟨k + 1, by omega, by have := HM.out; omega, by go_num, ⟨cur.set (n - 1 - k) ⟨y, m, f, d'⟩, by simpa using HC.out.1, fun i hi => ?_, s4⟩, hb7⟩
        by_cases e : i = k
        · subst e
          rw [List.getElem?_set_self (by have := HC.out.1; omega), ← HP.out, hd']
          rfl
        · rw [List.getElem?_set_ne (by omega)]
          exact HC.out.2.1 i (by omega)
    · obtain rfl : k = n := by omega
      go_wp2
      go_ret
      obtain ⟨c1, c2, c3⟩ := HC.out
      have e : cur = inv ps := by
        apply List.ext_getElem?
        intro i
        by_cases hi : i < k
        · have := c2 (k - 1 - i) (by omega)
          rw [show k - 1 - (k - 1 - i) = i by omega] at this
          rw [this, inv, List.getElem?_reverse (by simp; rw [← HN.out]; exact hi), List.getElem?_map, List.length_map, ← HN.out]
          rw [List.getElem?_eq_getElem (show k - 1 - i < ps.length by rw [← HN.out]; omega)]
          simp [List.getD, List.getElem?_eq_getElem (show k - 1 - i < ps.length by rw [← HN.out]; omega)]
        · rw [List.getElem?_eq_none (by omega), List.getElem?_eq_none (by simp [inv, ← HN.out]; omega)]
      have e2 : (inv ps).length = k := by rw [← e]; exact c1
      refine ⟨bo, by rw [e2]; rfl, by rw [e2, ← e]; exact c3, hb⟩

end Go.Proofs.YtjjnhmbgffdenaaDoor.Ya
namespace Go.Proofs.YtjjnhmbgffdenaaDoor
open Go.RowKit Go.Sort
set_option maxRecDepth 100000 in
set_option maxHeartbeats 1000000 in
theorem Of_any (ao : Option Addr) (xs : List (Nat × Nat)) (cap : Nat) (w : World) (h : LieP w ao xs) :
    Calls Tryd.prog 9 #[.slice ao xs.length cap] w (BdOf (ofM xs) w) := by
  have HL := Lib.hid h
  clear h
  obtain ⟨T9, hT9⟩ : ∃ T9, T9 = ofM xs := ⟨_, rfl⟩
  rw [← hT9]
  have HT9 := Lib.hid hT9
  clear hT9
  obtain ⟨N, hN⟩ : ∃ N, N = xs.length := ⟨_, rfl⟩
  rw [← hN]
  have HN := Lib.hid hN
  clear hN
  go_enter Tryd.func9, Tryd.ntmps9
  go_wp2_with fail
  obtain ⟨W0, hW0⟩ : ∃ W0, w.alloc (.cells #[.slice none 0 0, .slice none 0 0] 26) = W0 := ⟨_, rfl⟩
  have bR : Boxed2 W0 w.heap.size 26 (.slice none 0 0) (.slice none 0 0) := by rw [← hW0]; exact Boxed2.new _ _ _ _
  have hB0 : Below w.heap.size w W0 := by rw [← hW0]; exact below1 _ _
  have HOF : Hid (Calls Tryd.prog 20 #[.slice ao N cap] W0 (NewFul T9 W0)) := Lib.hid (by
    rw [HN.out, HT9.out]; exact of_any ao xs cap W0 (HL.out.below hB0))
  rw [hW0]
  clear hW0
  go_wp2_with (first
    | (go_at_call 20; refine HOF.out.mono ?_; rintro e w1 ⟨cs, rfl, hcs, hb1⟩; have hB1 : Below w.heap.size w w1 := hB0.trans (hb1.mono hB0.size); have bR1 := bR.below hb1 bR.lt)
    | (go_at_call 21; refine (beds_any cs w1 hcs.out.1 hcs.out.2.2).mono ?_; rw [hcs.out.2.1]; rintro e w2 ⟨⟨⟨ga, gs, gc⟩, ⟨ka, ks, kc⟩⟩, rfl, hbd, hb2⟩; simp only [Bds.v, Bed.v]; have hB2 : Below w.heap.size w w2 := hB1.trans (hb2.mono hB1.size); have bR2 := bR1.below hb2 bR1.lt; have r0 := bR2.cell0; have r1 := bR2.cell1; have fR := bR2.frozen))
  have nF : ∀ b o, ga = some ⟨b, o, none⟩ → b ≠ w.heap.size := fun b o e => by
    have h1 := hbd.out.2.2.2.1 b o e
    have h2 := bR1.lt
    omega
  have nB : ∀ b o, ka = some ⟨b, o, none⟩ → b ≠ w.heap.size := fun b o e => by
    have h1 := hbd.out.2.2.2.2 b o e
    have h2 := bR1.lt
    omega
  have b9 := bR2.set0 (.slice ga gs.length gc)
  have b4 := b9.set1 (.slice ka ks.length kc)
  have b40 := b4.cell0
  have b41 := b4.cell1
  have okF := ((hbd.out.2.2.1.1.set_box bR2 (isSl_mk _ _ _) (isSl_mk _ _ _) nF 0 (.slice ga gs.length gc)).set_box b9 (isSl_mk _ _ _) (isSl_mk _ _ _) nF 1 (.slice ka ks.length kc))
  have okB := ((hbd.out.2.2.1.2.set_box bR2 (isSl_mk _ _ _) (isSl_mk _ _ _) nB 0 (.slice ga gs.length gc)).set_box b9 (isSl_mk _ _ _) (isSl_mk _ _ _) nB 1 (.slice ka ks.length kc))
  refine bodyPost_ret (v := .agg #[.slice ga gs.length gc, .slice ka ks.length kc]) (by simp [results, Tryd.results9, go_sem, b40, b41]) rfl ⟨⟨⟨ga, gs, gc⟩, ⟨ka, ks, kc⟩⟩, rfl, Lib.hid ⟨hbd.out.1, hbd.out.2.1, ⟨okF.mono (by simp), okB.mono (by simp)⟩, fun b o e => ?_, fun b o e => ?_⟩, ?_⟩
  · have h1 := hbd.out.2.2.2.1 b o e
    have h2 := bR1.lt
    omega
  · have h1 := hbd.out.2.2.2.2 b o e
    have h2 := bR1.lt
    omega
  · exact (hB2.setCell (p := ⟨w.heap.size, 0, none⟩) (by simp) _).setCell (p := ⟨w.heap.size, 1, none⟩) (by simp) _
end Go.Proofs.YtjjnhmbgffdenaaDoor
namespace Go.Proofs.YtjjnhmbgffdenaaDoor
open Go.RowKit Go.Sort
section
variable {o : Oper} {a : Act} {w : World} {K : Act → World → Prop} {Q : Exit → Act → World → Prop} {x y : Operand}
theorem ld40 {b q : Nat} {v0 v1 v2 v3 v4 : Value} (hop : o.op = .load 40 x) (hx : a.eval x = .pointer (some ⟨b, q, none⟩)) (c0 : w.cell? ⟨b, q, none⟩ = some v0) (c1 : w.cell? ⟨b, q + 1, none⟩ = some v1) (c2 : w.cell? ⟨b, q + 2, none⟩ = some v2) (c3 : w.cell? ⟨b, q + 3, none⟩ = some v3) (c4 : w.cell? ⟨b, q + 4, none⟩ = some v4) (hK : K (a.put o.dst (.agg #[v0, v1, v2, v3, v4])) w) : o.wp Tryd.prog a w K Q := by
  exact step_val (by simp only [execOp, hop, hx]; go_simp) hK
end
/-- The cells of a head, in a later world. -/
theorem Lies.heads {N : Nat} {w : World} {ao : Option Addr} {l : List Hd} (h : Lies Hd.enc N w ao l) {i : Nat} (hi : i < l.length) : ∃ b, ao = some ⟨b, 0, none⟩ ∧ ∀ (W : World), Below w.heap.size w W → W.cell? ⟨b, 0 + i * 5, none⟩ = some (.int .u8 l[i].id.y) ∧ W.cell? ⟨b, 0 + i * 5 + 1, none⟩ = some (.int .i64 l[i].id.n) ∧ W.cell? ⟨b, 0 + i * 5 + 2, none⟩ = some (.int .u8 l[i].b) ∧ W.cell? ⟨b, 0 + i * 5 + 3, none⟩ = some (.int .i64 l[i].a) ∧ W.cell? ⟨b, 0 + i * 5 + 4, none⟩ = some (.int .i64 l[i].s) := by
  obtain ⟨b, h1, h2, h3⟩ := h.at Hd.enc_len hi
  refine ⟨b, h1, fun W hb => ?_⟩
  rw [Nat.zero_add]
  exact ⟨(hb.cell (p := ⟨b, i * 5, none⟩) h2).trans (h3 0 _ (by decide) rfl), (hb.cell (p := ⟨b, i * 5 + 1, none⟩) h2).trans (h3 1 _ (by decide) rfl), (hb.cell (p := ⟨b, i * 5 + 2, none⟩) h2).trans (h3 2 _ (by decide) rfl), (hb.cell (p := ⟨b, i * 5 + 3, none⟩) h2).trans (h3 3 _ (by decide) rfl), (hb.cell (p := ⟨b, i * 5 + 4, none⟩) h2).trans (h3 4 _ (by decide) rfl)⟩
theorem list_bad (d : Bds) (T : List (List Nm)) (r : Int) (B : Nat) (w : World) (hB : B ≤ w.heap.size) (hd : d.ok B w) (hr : Reads T d) (hT : TOk T) (h : okR r = false) :
    Calls Tryd.prog 10 #[d.v, .int .i64 r] w fun e w' => e = .returned (.tuple #[.slice none 0 0, .int .i64 11]) ∧ Below w.heap.size w w' := by
  refine (list_any d T r B w hB hd hr hT).mono ?_
  rintro e w' (⟨_, h1, h2⟩ | ⟨h1, _⟩)
  · exact ⟨h1, h2⟩
  · rw [h] at h1; cases h1
theorem list_good (d : Bds) (T : List (List Nm)) (r : Int) (B : Nat) (w : World) (hB : B ≤ w.heap.size) (hd : d.ok B w) (hr : Reads T d) (hT : TOk T) (h : okR r = true) (L : List Hd) (hL : lstH T r 95 = L) (n : Nat) (hn : L.length = n) :
    Calls Tryd.prog 10 #[d.v, .int .i64 r] w fun e w' => ∃ ao, e = .returned (.tuple #[.slice ao n n, .int .i64 0]) ∧ Hid (Lies Hd.enc w.heap.size w' ao L) ∧ Below w.heap.size w w' := by
  subst hn hL
  refine (list_any d T r B w hB hd hr hT).mono ?_
  rintro e w' (⟨h1, _⟩ | ⟨_, v, l, rfl, ho, ao, rfl, h2, hb⟩)
  · rw [h] at h1; cases h1
  · obtain rfl := ord_lst h ho.out
    exact ⟨ao, rfl, h2, hb⟩
theorem listed_L (d : Bds) (T : List (List Nm)) (r : Int) (B : Nat) (w : World) (hB : B ≤ w.heap.size) (hd : d.ok B w) (hr : Reads T d) (hT : TOk T) (L : List Hd) (hL : lstH T r 95 = L) (n : Nat) (hn : L.length = n) :
    Calls Tryd.prog 12 #[d.v, .int .i64 r] w fun e w' => ∃ ao cap, e = .returned (.slice ao n cap) ∧ Hid (Lies Hd.enc w.heap.size w' ao L) ∧ Below w.heap.size w w' := by
  subst hn hL
  refine (listed_any d T r B w hB hd hr hT).mono ?_
  rintro e w' ⟨v, rfl, h1, h2⟩
  obtain ⟨ao, cap, rfl, h3, h4⟩ := lies_of_own Hd.enc_len h1 rfl
  exact ⟨ao, cap, rfl, Lib.hid h3, h2⟩
def psiLl11 (b : Nat) (b2 : Nat) (n : Nat) (c2 : Nat) (kq : Nat) (py : Int) (pn : Int) (nb : Int) (na : Int) (sp : Int) : Nat → Value → World → Prop
  | 0, v9, _ => v9 = .slice (some ⟨b, 0, none⟩) n n
  | 1, v9, _ => v9 = .int .i64 (kq : Int)
  | 2, v9, _ => v9 = .pointer (some ⟨b, 0 + kq * 5, none⟩)
  | 3, v9, _ => v9 = .agg #[.int .u8 py, .int .i64 pn, .int .u8 nb, .int .i64 na, .int .i64 sp]
  | 4, v9, _ => v9 = .slice (some ⟨b2, 0, none⟩) n c2
  | 5, v9, _ => v9 = .int .i64 (kq : Int)
  | 6, v9, _ => v9 = .pointer (some ⟨b2, 0 + kq * 5, none⟩)
  | 7, v9, _ => v9 = .agg #[.int .u8 py, .int .i64 pn, .int .u8 nb, .int .i64 na, .int .i64 sp]
  | _, _, _ => True
theorem psiLl11_stab (b : Nat) (b2 : Nat) (n : Nat) (c2 : Nat) (kq : Nat) (py : Int) (pn : Int) (nb : Int) (na : Int) (sp : Int) (i9 : Nat) (v9 : Value) (w9 w9' : World) (h : psiLl11 b b2 n c2 kq py pn nb na sp i9 v9 w9) (_hb : Below w9.heap.size w9 w9') : psiLl11 b b2 n c2 kq py pn nb na sp i9 v9 w9' := by
  match i9, h with
  | 0, h => exact h
  | 1, h => exact h
  | 2, h => exact h
  | 3, h => exact h
  | 4, h => exact h
  | 5, h => exact h
  | 6, h => exact h
  | 7, h => exact h
  | i9 + 8, _ => exact trivial
set_option maxRecDepth 100000 in
set_option maxHeartbeats 8000000 in
/-- OrdersList: true. -/
theorem list_law (ao : Option Addr) (xs : List (Nat × Nat)) (cap : Nat) (r : Int) (w : World) (h : LieP w ao xs) (hs : Stp w) :
    Calls Tryd.prog 3 #[.slice ao xs.length cap, .int .i64 r] w fun e w' => e = .returned (.bool true) ∧ Below w.heap.size w w' := by
  have HOF := Lib.hid (Of_any ao xs cap w h)
  have HTO := Lib.hid (ofM_ok xs)
  have HST := Lib.hid (fun (W : World) (hb : RowKit.Below w.heap.size w W) => lives_any W (hs.below hb hs.lt))
  obtain ⟨T, hT⟩ : ∃ T, ofM xs = T := ⟨_, rfl⟩
  rw [hT] at HOF HTO
  obtain ⟨N, hN⟩ : ∃ N, xs.length = N := ⟨_, rfl⟩
  rw [hN] at HOF ⊢
  clear h hs hT hN
  by_cases hok : okR r = true
  · have HOK := Lib.hid hok
    obtain ⟨L, hL⟩ : ∃ L, lstH T r 95 = L := ⟨_, rfl⟩
    obtain ⟨n, hn⟩ : ∃ n, L.length = n := ⟨_, rfl⟩
    have hn9 : n ≤ 30400 := by rw [← hn, ← hL]; exact lstH_len T HTO.out r 95
    have HL := Lib.hid hL
    have HN := Lib.hid hn
    have hr4 : -4 ≤ r ∧ r ≤ 4 := by unfold okR at hok; simpa using hok
    clear hok hL hn
    go_enter Tryd.func3, Tryd.ntmps3
    go_wp2_with (first
      | (go_at_call 9; refine HOF.out.mono ?_; rintro e w1 ⟨⟨⟨ga, gs, gc⟩, ⟨ka, ks, kc⟩⟩, rfl, hbd, hb1⟩; have HB1 := Lib.hid hb1; have HBD := Lib.hid hbd.out; simp only [Bds.v, Bed.v]; have HLI := Lib.hid (fun (W : World) (hb : RowKit.Below w1.heap.size w1 W) => list_good ⟨⟨ga, gs, gc⟩, ⟨ka, ks, kc⟩⟩ T r w1.heap.size W hb.size (HBD.out.2.2.1.below hb) HBD.out.1 HTO.out HOK.out L HL.out n HN.out); have HLW := Lib.hid (fun (W : World) (hb : RowKit.Below w1.heap.size w1 W) => listed_L ⟨⟨ga, gs, gc⟩, ⟨ka, ks, kc⟩⟩ T r w1.heap.size W hb.size (HBD.out.2.2.1.below hb) HBD.out.1 HTO.out L HL.out n HN.out); simp only [Bds.v, Bed.v] at HLI HLW; have bx := Boxed2.new w1 26 (.slice ga gs.length gc) (.slice ka ks.length kc); have hb0 := below1 w1 (.cells #[.slice ga gs.length gc, .slice ka ks.length kc] 26); obtain ⟨w2, hw2⟩ : ∃ w2, w1.alloc (.cells #[.slice ga gs.length gc, .slice ka ks.length kc] 26) = w2 := ⟨_, rfl⟩; rw [hw2] at bx hb0; have HBX := Lib.hid (fun (W : World) (hb : RowKit.Below w2.heap.size w2 W) => bx.below hb bx.lt); have HB := Lib.hid (Below.refl w2.heap.size w2); have HB0 := Lib.hid hb0; have x0 := bx.cell0; have x1 := bx.cell1; have HUP := Lib.hid (fun (W : World) (hb : RowKit.Below w2.heap.size w2 W) => HB0.out.trans (hb.mono HB0.out.size)); clear bx hb0 hbd hb1)
      | (go_at_call 10; refine (HLI.out _ (HUP.out _ HB.out)).mono ?_; rintro e w3 ⟨al, rfl, HLa, hb⟩; replace HB := Lib.hid (HB.out.trans (hb.mono HB.out.size)); clear x0 x1; have x0 := (HBX.out _ HB.out).cell0; have x1 := (HBX.out _ HB.out).cell1; (try replace HLa := Lib.hid (HLa.out.below hb)); (try replace HLb := Lib.hid (HLb.out.below hb)); clear hb)
      | (go_at_call 12; refine (HLW.out _ (HUP.out _ HB.out)).mono ?_; rintro e w4 ⟨am, cm, rfl, HLb, hb⟩; replace HB := Lib.hid (HB.out.trans (hb.mono HB.out.size)); clear x0 x1; have x0 := (HBX.out _ HB.out).cell0; have x1 := (HBX.out _ HB.out).cell1; (try replace HLa := Lib.hid (HLa.out.below hb)); (try replace HLb := Lib.hid (HLb.out.below hb)); clear hb))
    clear x0 x1
    go_loopg [9] (n + 1) (fun g s9 wr => ∃ i : Nat, s9 = .int .i64 i ∧ i ≤ n ∧ g = n + 1 - i ∧ RowKit.Below w4.heap.size w4 wr)
    case atStart => exact ⟨0, rfl, by omega, by omega, Below.refl _ _⟩
    case round =>
      obtain ⟨i, rfl, hi, hg, hbr⟩ := hrel
      have HG := Lib.hid hg
      clear hg
      by_cases hlt : i < n
      · have hiz : (i : Int) < (n : Int) := by omega
        obtain ⟨b, rfl, hP⟩ := (HLa.out.below hbr).heads (i := i) (by rw [HN.out]; exact hlt)
        obtain ⟨b2, rfl, hQ⟩ := (HLb.out.below hbr).heads (i := i) (by rw [HN.out]; exact hlt)
        obtain ⟨x, hx⟩ : ∃ x, L[i]'(by rw [HN.out]; exact hlt) = x := ⟨_, rfl⟩
        simp only [hx] at hP hQ
        obtain ⟨⟨py, pn⟩, nb, na, sp⟩ := x
        simp only at hP hQ
        have HP := Lib.hid hP
        have HQ := Lib.hid hQ
        have HKN := Lib.hid hlt
        clear hP hQ hx
        go_upto_region 11 with fail
        refine rgT2 8 [some 59, some 60, some 61, some 62, some 63, some 64, some 65, some 66, some 67] (psiLl11 b b2 n cm i py pn nb na sp) (fun w' => RowKit.Below wr.heap.size wr w') (by kernel_rfl) (by kernel_rfl) (by kernel_rfl) (by kernel_rfl) (psiLl11_stab b b2 n cm i py pn nb na sp) (fun _ _ h hb => h.trans (hb.mono h.size)) (fun i9 o9 hi9 ho9 aq9 w1 hs hout hI hdep => ?_) ?_ ((Below.refl _ _).drew)
        · skip
          match i9, hi9, ho9 with
          | 0, _, ho9 =>
            obtain rfl := Option.some.inj ho9
            refine .inl ⟨rfl, fun K hK => ?_⟩
            exact st_move rfl ((hout 6 rfl).trans rfl) (hK _ _ (Below.refl _ _) rfl)
          | 1, _, ho9 =>
            obtain rfl := Option.some.inj ho9
            refine .inl ⟨rfl, fun K hK => ?_⟩
            exact st_move rfl ((hout 9 rfl).trans rfl) (hK _ _ (Below.refl _ _) rfl)
          | 2, _, ho9 =>
            obtain rfl := Option.some.inj ho9
            have dq0 : (aq9.tmps.getD 59 undef) = .slice (some ⟨b, 0, none⟩) n n := hdep ⟨0, .data⟩ (by simp) rfl _ rfl
            have dq1 : (aq9.tmps.getD 60 undef) = .int .i64 (i : Int) := hdep ⟨1, .data⟩ (by simp) rfl _ rfl
            refine .inl ⟨rfl, fun K hK => ?_⟩
            exact st_idx28 (k := i) rfl dq0 dq1 HKN.out (hK _ _ (Below.refl _ _) rfl)
          | 3, _, ho9 =>
            obtain rfl := Option.some.inj ho9
            have dq2 : (aq9.tmps.getD 61 undef) = .pointer (some ⟨b, 0 + i * 5, none⟩) := hdep ⟨2, .data⟩ (by simp) rfl _ rfl
            refine .inl ⟨rfl, fun K hK => ?_⟩
            exact ld40 rfl dq2 (HP.out _ hI).1 (HP.out _ hI).2.1 (HP.out _ hI).2.2.1 (HP.out _ hI).2.2.2.1 (HP.out _ hI).2.2.2.2 (hK _ _ (Below.refl _ _) rfl)
          | 4, _, ho9 =>
            obtain rfl := Option.some.inj ho9
            refine .inl ⟨rfl, fun K hK => ?_⟩
            exact st_move rfl ((hout 8 rfl).trans rfl) (hK _ _ (Below.refl _ _) rfl)
          | 5, _, ho9 =>
            obtain rfl := Option.some.inj ho9
            refine .inl ⟨rfl, fun K hK => ?_⟩
            exact st_move rfl ((hout 9 rfl).trans rfl) (hK _ _ (Below.refl _ _) rfl)
          | 6, _, ho9 =>
            obtain rfl := Option.some.inj ho9
            have dq4 : (aq9.tmps.getD 63 undef) = .slice (some ⟨b2, 0, none⟩) n cm := hdep ⟨4, .data⟩ (by simp) rfl _ rfl
            have dq5 : (aq9.tmps.getD 64 undef) = .int .i64 (i : Int) := hdep ⟨5, .data⟩ (by simp) rfl _ rfl
            refine .inl ⟨rfl, fun K hK => ?_⟩
            exact st_idx28 (k := i) rfl dq4 dq5 HKN.out (hK _ _ (Below.refl _ _) rfl)
          | 7, _, ho9 =>
            obtain rfl := Option.some.inj ho9
            have dq6 : (aq9.tmps.getD 65 undef) = .pointer (some ⟨b2, 0 + i * 5, none⟩) := hdep ⟨6, .data⟩ (by simp) rfl _ rfl
            refine .inl ⟨rfl, fun K hK => ?_⟩
            exact ld40 rfl dq6 (HQ.out _ hI).1 (HQ.out _ hI).2.1 (HQ.out _ hI).2.2.1 (HQ.out _ hI).2.2.2.1 (HQ.out _ hI).2.2.2.2 (hK _ _ (Below.refl _ _) rfl)
          | i9 + 8, hi9, _ => exact absurd hi9 (by omega)
        · intro a2 w2 hs hd hout hI hall
          obtain ⟨tmps, defers⟩ := a2
          have e_62 : (tmps.getD 62 undef) = .agg #[.int .u8 py, .int .i64 pn, .int .u8 nb, .int .i64 na, .int .i64 sp] := hall 3 _ (by decide) rfl
          have e_66 : (tmps.getD 66 undef) = .agg #[.int .u8 py, .int .i64 pn, .int .u8 nb, .int .i64 na, .int .i64 sp] := hall 7 _ (by decide) rfl
          simp only at hs hd hout
          have ef := frameAt [some 59, some 60, some 61, some 62, some 63, some 64, some 65, some 66, some 67] _ tmps hs hout
          obtain ⟨sv11, hu⟩ : ∃ u : Nat → Value, u = fun s => tmps.getD s undef := ⟨_, rfl⟩
          have eu_62 : sv11 62 = .agg #[.int .u8 py, .int .i64 pn, .int .u8 nb, .int .i64 na, .int .i64 sp] := by rw [hu]; exact e_62
          have eu_66 : sv11 66 = .agg #[.int .u8 py, .int .i64 pn, .int .u8 nb, .int .i64 na, .int .i64 sp] := by rw [hu]; exact e_66
          rw [← hu] at ef
          have ef2 : tmps = #[Value.slice ao N cap, Value.int IntKind.i64 r, undef, undef, u4, Value.pointer (some { block := w1.heap.size, off := 0 }), Value.slice (some { block := b, off := 0 }) n n, Value.int IntKind.i64 0, Value.slice (some { block := b2, off := 0 }) n cm, Value.int IntKind.i64 i, Value.slice ao N cap, Value.agg #[Value.slice ga gs.length gc, Value.slice ka ks.length kc], Value.tuple #[Value.slice (some { block := b, off := 0 }) n n, Value.int IntKind.i64 0], Value.agg #[Value.slice ga gs.length gc, Value.slice ka ks.length kc], Value.int IntKind.i64 r, Value.tuple #[Value.slice (some { block := b, off := 0 }) n n, Value.int IntKind.i64 0], Value.slice (some { block := b, off := 0 }) n n, Value.int IntKind.i64 0, Value.int IntKind.i64 r, Value.bool (decide (r < -4)), Value.bool (decide (r < -4)), Value.int IntKind.i64 r, Value.bool (decide (4 < r)), Value.bool (decide (r < -4) || decide (4 < r)), undef, undef, undef, undef, undef, undef, undef, undef, undef, undef, Value.agg #[Value.slice ga gs.length gc, Value.slice ka ks.length kc], Value.int IntKind.i64 r, Value.slice (some { block := b2, off := 0 }) n cm, Value.int IntKind.i64 0, Value.bool false, Value.bool false, Value.slice (some { block := b, off := 0 }) n n, Value.int IntKind.i64 n, Value.slice (some { block := b2, off := 0 }) n cm, Value.int IntKind.i64 n, Value.bool false, Value.bool false, Value.bool false, Value.slice (some { block := b, off := 0 }) n n, Value.int IntKind.i64 n, Value.slice (some { block := b, off := 0 }) n n, Value.int IntKind.i64 n, Value.bool false, Value.bool false, Value.int IntKind.i64 i, Value.slice (some { block := b, off := 0 }) n n, Value.int IntKind.i64 n, Value.bool true, u57, u58, (sv11 59), (sv11 60), (sv11 61), (sv11 62), (sv11 63), (sv11 64), (sv11 65), (sv11 66), (sv11 67), undef] := ef
          subst hd
          rw [eu_62, eu_66] at ef2
          rw [ef2]
          clear ef ef2 hu hs hout hall e_62 eu_62 e_66 eu_66
          simp only [List.drop_succ_cons, List.drop_zero]
          have hbr2 := hbr.trans (hI.mono hbr.size)
          clear HP HQ hI
          go_wp2_with fail
          go_roundg (n + 1 - (i + 1))
          case measure => have := HG.out; omega
          case rel => exact ⟨i + 1, by go_num, by omega, by omega, hbr2⟩
      · obtain rfl : i = n := by omega
        have hiz : ¬ ((i : Int) < (i : Int)) := by omega
        replace HB := Lib.hid (HB.out.trans (hbr.mono HB.out.size))
        have HLV := Lib.hid (HST.out _ (HB1.out.trans ((HUP.out _ HB.out).mono HB1.out.size)))
        clear HLa HLb HLI HLW
        go_wp2_with (go_at_call 11; refine HLV.out.mono ?_; rintro e w5 ⟨rfl, hb⟩; replace HB := Lib.hid (HB.out.trans (hb.mono HB.out.size)); clear hb)
        go_ret
        exact ⟨rfl, HB1.out.trans ((HUP.out _ HB.out).mono HB1.out.size)⟩
  · have HOK := Lib.hid (show okR r = false by simpa using hok)
    have hr4 : r < -4 ∨ 4 < r := by
      have := HOK.out
      unfold okR at this
      rcases Int.lt_or_le r (-4) with h1 | h1
      · exact .inl h1
      · refine .inr (Int.lt_of_not_ge fun h2 => ?_)
        simp at this
        omega
    clear hok
    rcases hr4 with hr4 | hr4
    all_goals (
      (try have hr5 : ¬ (r < -4) := by omega)
      go_enter Tryd.func3, Tryd.ntmps3
      go_wp2_with (first
        | (go_at_call 9; refine HOF.out.mono ?_; rintro e w1 ⟨⟨⟨ga, gs, gc⟩, ⟨ka, ks, kc⟩⟩, rfl, hbd, hb1⟩; have HB1 := Lib.hid hb1; have HBD := Lib.hid hbd.out; simp only [Bds.v, Bed.v]; have HLI := Lib.hid (fun (W : World) (hb : RowKit.Below w1.heap.size w1 W) => list_bad ⟨⟨ga, gs, gc⟩, ⟨ka, ks, kc⟩⟩ T r w1.heap.size W hb.size (HBD.out.2.2.1.below hb) HBD.out.1 HTO.out HOK.out); simp only [Bds.v, Bed.v] at HLI; have bx := Boxed2.new w1 26 (.slice ga gs.length gc) (.slice ka ks.length kc); have hb0 := below1 w1 (.cells #[.slice ga gs.length gc, .slice ka ks.length kc] 26); obtain ⟨w2, hw2⟩ : ∃ w2, w1.alloc (.cells #[.slice ga gs.length gc, .slice ka ks.length kc] 26) = w2 := ⟨_, rfl⟩; rw [hw2] at bx hb0; have HBX := Lib.hid (fun (W : World) (hb : RowKit.Below w2.heap.size w2 W) => bx.below hb bx.lt); have HB := Lib.hid (Below.refl w2.heap.size w2); have HB0 := Lib.hid hb0; have x0 := bx.cell0; have x1 := bx.cell1; have HUP := Lib.hid (fun (W : World) (hb : RowKit.Below w2.heap.size w2 W) => HB0.out.trans (hb.mono HB0.out.size)); clear bx hb0 hbd hb1)
        | (go_at_call 10; refine (HLI.out _ (HUP.out _ HB.out)).mono ?_; rintro e w3 ⟨rfl, hb⟩; replace HB := Lib.hid (HB.out.trans (hb.mono HB.out.size)); clear x0 x1; have x0 := (HBX.out _ HB.out).cell0; have x1 := (HBX.out _ HB.out).cell1; clear hb)
        | (go_at_call 11; refine (HST.out _ (HB1.out.trans ((HUP.out _ HB.out).mono HB1.out.size))).mono ?_; rintro e w4 ⟨rfl, hb⟩; replace HB := Lib.hid (HB.out.trans (hb.mono HB.out.size)); clear x0 x1; have x0 := (HBX.out _ HB.out).cell0; have x1 := (HBX.out _ HB.out).cell1; clear hb))
      go_ret
      exact ⟨rfl, HB1.out.trans ((HUP.out _ HB.out).mono HB1.out.size)⟩)
end Go.Proofs.YtjjnhmbgffdenaaDoor
