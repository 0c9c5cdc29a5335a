import Derived.Test.YtikdhdikaihenaaRows
import Derived.WalkKit
namespace Go.Proofs.Ytikdhdikaihenaa
open Go.RowKit

/-- A pass as plain data: the yarn and the number of the loop, whether it lies in front, the direction. -/
structure Ps where
  y : Int
  n : Int
  f : Bool
  d : Int
deriving DecidableEq

def Ps.nil : Ps := ⟨0, 0, false, 0⟩
/-- Two passes cancel. -/
def canc (a b : Ps) : Bool := decide (a.y = b.y) && decide (a.n = b.n) && decide (a.f = b.f) && (decide (a.d = 0 ∧ b.d = 1) || decide (a.d = 1 ∧ b.d = 0))
/-- The pass of the way back. -/
def bck (p : Ps) : Ps := { p with d := if p.d = 1 then 0 else 1 }

theorem canc_iff (a b : Ps) : canc a b = true ↔ a.y = b.y ∧ a.n = b.n ∧ a.f = b.f ∧ ((a.d = 0 ∧ b.d = 1) ∨ (a.d = 1 ∧ b.d = 0)) := by
  simp [canc, and_assoc]
theorem canc_uniq {a b c : Ps} (h : canc a b = true) (h' : canc b c = true) : a = c := by
  rw [canc_iff] at h h'
  obtain ⟨ay, an, af, ad⟩ := a
  obtain ⟨cy, cn, cf, cd⟩ := c
  simp only [Ps.mk.injEq]
  simp only at h h'
  obtain ⟨h1, h2, h3, h4⟩ := h
  obtain ⟨g1, g2, g3, g4⟩ := h'
  exact ⟨h1.trans g1, h2.trans g2, h3.trans g3, by omega⟩
theorem canc_bck {a : Ps} (h : a.d = 0 ∨ a.d = 1) : canc a (bck a) = true := by
  rw [canc_iff]
  rcases h with h | h <;> simp [bck, h]
theorem bck_bck {a : Ps} (h : a.d = 0 ∨ a.d = 1) : bck (bck a) = a := by
  obtain ⟨y, n, f, d⟩ := a
  rcases h with h | h <;> simp only at h <;> subst h <;> simp [bck]
theorem bck_dir (a : Ps) : (bck a).d = 0 ∨ (bck a).d = 1 := by
  by_cases h : a.d = 1 <;> simp [bck, h]

/-- No two that follow each other cancel. -/
def Red (s : List Ps) : Prop := ∀ i a b, s[i]? = some a → s[i + 1]? = some b → canc a b = false

/-- A list with one pass more, reduced. -/
def psh (s : List Ps) (p : Ps) : List Ps := match s.getLast? with
  | some x => if canc x p = true then s.dropLast else s ++ [p]
  | none => [p]
def red (l : List Ps) : List Ps := l.foldl psh []

theorem psh_nil (p : Ps) : psh [] p = [p] := rfl
theorem psh_yes {s : List Ps} {x p : Ps} (h : canc x p = true) : psh (s ++ [x]) p = s := by simp [psh, h]
theorem psh_no {s : List Ps} {x p : Ps} (h : canc x p = false) : psh (s ++ [x]) p = s ++ [x] ++ [p] := by simp [psh, h]

theorem list_last (s : List Ps) : s = [] ∨ ∃ t x, s = t ++ [x] := by
  rcases List.eq_nil_or_concat s with h | ⟨t, x, h⟩
  · exact .inl h
  · exact .inr ⟨t, x, by simpa using h⟩

theorem Red.nil : Red [] := fun _ _ _ h => by simp at h
theorem Red.init {s : List Ps} {x : Ps} (h : Red (s ++ [x])) : Red s := fun i a b h1 h2 => by
  have l2 := (List.getElem?_eq_some_iff.1 h2).1
  exact h i a b (by rw [List.getElem?_append_left (by omega)]; exact h1) (by rw [List.getElem?_append_left (by omega)]; exact h2)
theorem Red.add {s : List Ps} {x p : Ps} (h : Red (s ++ [x])) (hc : canc x p = false) : Red (s ++ [x] ++ [p]) := fun i a b h1 h2 => by
  have l2 := (List.getElem?_eq_some_iff.1 h2).1
  simp at l2
  by_cases e : i + 1 < (s ++ [x]).length
  · exact h i a b (by rw [List.getElem?_append_left (by omega)] at h1; exact h1) (by rw [List.getElem?_append_left e] at h2; exact h2)
  · have e2 : i = s.length := by simp at e; omega
    subst e2
    simp at h1 h2
    subst h1; subst h2
    exact hc
theorem Red.one (p : Ps) : Red [p] := fun i a b _ h2 => by simp at h2
theorem Red.psh {s : List Ps} (h : Red s) (p : Ps) : Red (psh s p) := by
  rcases list_last s with rfl | ⟨t, x, rfl⟩
  · exact Red.one p
  · cases hc : canc x p
    · rw [psh_no hc]; exact h.add hc
    · rw [psh_yes hc]; exact h.init

theorem psh_psh {s : List Ps} (h : Red s) {a b : Ps} (hc : canc a b = true) : psh (psh s a) b = s := by
  rcases list_last s with rfl | ⟨t, x, rfl⟩
  · show psh ([] ++ [a]) b = []
    exact psh_yes hc
  · cases hx : canc x a
    · rw [psh_no hx, psh_yes hc]
    · rw [psh_yes hx]
      obtain rfl := canc_uniq hx hc
      rcases list_last t with rfl | ⟨u, y, rfl⟩
      · rfl
      · have hy : canc y x = false := h u.length y x (by simp) (by simp)
        rw [psh_no hy]

theorem Red.fold {s : List Ps} (h : Red s) (l : List Ps) : Red (l.foldl Go.Proofs.Ytikdhdikaihenaa.psh s) := by
  induction l generalizing s with
  | nil => exact h
  | cons p l ih => exact ih (h.psh p)
theorem red_red (l : List Ps) : Red (red l) := Red.nil.fold l

theorem fold_cut {s : List Ps} (h : Red s) (u v : List Ps) {a b : Ps} (hc : canc a b = true) : (u ++ a :: b :: v).foldl psh s = (u ++ v).foldl psh s := by
  rw [List.foldl_append, List.foldl_append, List.foldl_cons, List.foldl_cons, psh_psh (h.fold u) hc]
theorem red_cut (u v : List Ps) {a b : Ps} (hc : canc a b = true) : red (u ++ a :: b :: v) = red (u ++ v) := fold_cut Red.nil u v hc

theorem fold_id (l : List Ps) : ∀ s : List Ps, Red (s ++ l) → l.foldl psh s = s ++ l := by
  induction l with
  | nil => intro s _; simp
  | cons p l ih =>
    intro s h
    have e : psh s p = s ++ [p] := by
      rcases list_last s with rfl | ⟨t, x, rfl⟩
      · rfl
      · exact psh_no (h t.length x p (by simp) (by simp))
    rw [List.foldl_cons, e, ih (s ++ [p]) (by simpa using h)]
    simp
theorem red_id {l : List Ps} (h : Red l) : red l = l := by
  have := fold_id l [] (by simpa using h)
  simpa [red] using this

/-- What two lists come to behind every reduced list. -/
def Eqv (l m : List Ps) : Prop := ∀ s, Red s → l.foldl psh s = m.foldl psh s
theorem Eqv.app {l m l' m' : List Ps} (h : Eqv l m) (h' : Eqv l' m') : Eqv (l ++ l') (m ++ m') := fun s hs => by
  rw [List.foldl_append, List.foldl_append, h s hs, h' _ (hs.fold m)]
theorem Eqv.rfl' (l : List Ps) : Eqv l l := fun _ _ => rfl
theorem eqv_psh (s : List Ps) (p : Ps) : Eqv (psh s p) (s ++ [p]) := by
  rcases list_last s with rfl | ⟨t, x, rfl⟩
  · exact Eqv.rfl' _
  · cases hc : canc x p
    · rw [psh_no hc]; exact Eqv.rfl' _
    · rw [psh_yes hc]
      intro s hs
      have := fold_cut hs t [] hc
      simp only [List.append_nil] at this
      rw [← this]; simp
theorem eqv_fold (l : List Ps) : ∀ s, Eqv (l.foldl psh s) (s ++ l) := by
  induction l with
  | nil => intro s; simpa using Eqv.rfl' s
  | cons p l ih =>
    intro s t ht
    rw [List.foldl_cons, ih (psh s p) t ht, List.foldl_append, eqv_psh s p t ht]
    simp
theorem eqv_red (l : List Ps) : Eqv (red l) l := by have := eqv_fold l []; rw [List.nil_append] at this; exact this
theorem Eqv.red {l m : List Ps} (h : Eqv l m) : red l = red m := h [] Red.nil
theorem red_parts (a b : List Ps) : red (red a ++ red b) = red (a ++ b) := ((eqv_red a).app (eqv_red b)).red
theorem red_left (a b : List Ps) : red (red a ++ b) = red (a ++ b) := ((eqv_red a).app (Eqv.rfl' b)).red
theorem red_again (a : List Ps) : red (red a) = red a := red_id (red_red a)

def inv (l : List Ps) : List Ps := (l.map bck).reverse
theorem inv_cons (p : Ps) (l : List Ps) : inv (p :: l) = inv l ++ [bck p] := by simp [inv]
def Dirs (l : List Ps) : Prop := ∀ p ∈ l, p.d = 0 ∨ p.d = 1
theorem inv_inv {l : List Ps} (h : Dirs l) : inv (inv l) = l := by
  simp only [inv, List.map_reverse, List.reverse_reverse, List.map_map]
  conv => rhs; rw [← List.map_id l]
  exact List.map_congr_left fun p hp => bck_bck (h p hp)
theorem red_inv_from (l : List Ps) : Dirs l → ∀ u v : List Ps, red (u ++ (l ++ inv l) ++ v) = red (u ++ v) := by
  induction l with
  | nil => intro _ u v; simp [inv]
  | cons p l ih =>
    intro h u v
    have h1 := ih (fun q hq => h q (List.mem_cons_of_mem _ hq)) (u ++ [p]) ([bck p] ++ v)
    have h2 := red_cut u v (canc_bck (h p (List.mem_cons_self ..)))
    rw [inv_cons]
    simp only [List.append_assoc, List.cons_append, List.nil_append] at h1 h2 ⊢
    rw [h1, h2]
theorem red_inv {l : List Ps} (h : Dirs l) (u : List Ps) : red (u ++ (l ++ inv l)) = red u := by
  have := red_inv_from l h u []
  simpa using this
theorem Dirs.psh {s : List Ps} (h : Dirs s) {p : Ps} (hp : p.d = 0 ∨ p.d = 1) : Dirs (psh s p) := by
  rcases list_last s with rfl | ⟨t, x, rfl⟩
  · intro q hq; simp [psh_nil] at hq; subst hq; exact hp
  · cases hc : canc x p
    · rw [psh_no hc]; intro q hq
      rcases List.mem_append.1 hq with hq | hq
      · exact h q hq
      · simp at hq; subst hq; exact hp
    · rw [psh_yes hc]; exact fun q hq => h q (by simp [hq])
theorem length_psh (s : List Ps) (p : Ps) : (psh s p).length ≤ s.length + 1 := by
  rcases list_last s with rfl | ⟨t, x, rfl⟩
  · simp [psh_nil]
  · cases hc : canc x p
    · rw [psh_no hc]; simp
    · rw [psh_yes hc]; simp; omega
theorem length_fold (l : List Ps) : ∀ s : List Ps, (l.foldl psh s).length ≤ s.length + l.length := by
  induction l with
  | nil => intro s; simp
  | cons p l ih => intro s; have := ih (psh s p); have := length_psh s p; simp only [List.foldl_cons, List.length_cons]; omega
theorem length_red (l : List Ps) : (red l).length ≤ l.length := by have := length_fold l []; simpa [red] using this
theorem mem_psh {s : List Ps} {p q : Ps} (h : q ∈ psh s p) : q ∈ s ∨ q = p := by
  rcases list_last s with rfl | ⟨t, x, rfl⟩
  · simp [psh_nil] at h; exact .inr h
  · cases hc : canc x p
    · rw [psh_no hc] at h
      rcases List.mem_append.1 h with h | h
      · exact .inl h
      · simp at h; exact .inr h
    · rw [psh_yes hc] at h; exact .inl (by simp [h])
theorem mem_fold (l : List Ps) : ∀ {s : List Ps} {q : Ps}, q ∈ l.foldl psh s → q ∈ s ∨ q ∈ l := by
  induction l with
  | nil => intro s q h; exact .inl h
  | cons p l ih =>
    intro s q h
    rcases ih h with h | h
    · rcases mem_psh h with h | h
      · exact .inl h
      · exact .inr (by simp [h])
    · exact .inr (by simp [h])
theorem mem_red {l : List Ps} {q : Ps} (h : q ∈ red l) : q ∈ l := by
  rcases mem_fold l h with h | h
  · simp at h
  · exact h

end Go.Proofs.Ytikdhdikaihenaa
