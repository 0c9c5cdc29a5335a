import Derived.Test.YtgaofkbmnapogaaGac
import Derived.WalkKit
import Derived.WalkSpells
import Derived.WalkLawsBesides
import Derived.Lib.Hide
import Derived.Lib.QuietBelow
import Derived.BigQuiet
import Derived.Deep.LoopGhost
import Derived.Outline
import Derived.Laws.CopyOwn
import Derived.Deep.OwnRows
namespace Go.Proofs.Ytgaofkbmnapogaa
open Go.RowKit Go.WideMaps

theorem laidOut : laidOutB Try.prog = true := by kernel_rfl
theorem row36 : 36 < Try.prog.types.size := of_decide_eq_true (by kernel_rfl)
theorem klaw36 : KeyLaw Try.prog 36 := deep_law_laid laidOut (m := 3) (by omega) row36 (by kernel_rfl) (by rw [show Try.prog.underlying 36 = _ from Try.underlying36])
theorem law36 : Maps.Keyed Try.prog 36 := Maps.Keyed.of_law klaw36

def key36 (y n : Int) : Option Lit :=
  ((do let a ← (if IntKind.u8 = IntKind.u8 ∧ (Lit.int .u8 y).wf = true then some [Lit.int .u8 y] else none)
       let b ← (if IntKind.i64 = IntKind.i64 ∧ (Lit.int .i64 n).wf = true then some [Lit.int .i64 n] else none)
       pure [a, b] : Option (List (List Lit))).map List.flatten).map fun ls => .string (keyBytes ls)
theorem keyOf36 (y n : Int) : keyOf Try.prog 36 (.agg #[.int .u8 y, .int .i64 n]) = key36 y n := by
  kernel_rfl
/-- What a name reads as. -/
def kl (p : Nm) : Lit := (key36 p.y p.n).getD (.bool false)
theorem kl_of {p : Nm} (h : p.wf) : keyOf Try.prog 36 (.agg #[.int .u8 p.y, .int .i64 p.n]) = some (kl p) := by
  obtain ⟨⟨h1, h2⟩, h3, h4⟩ := h
  have w1 : (Lit.int .u8 p.y).wf = true := by have a1 : IntKind.u8.min = 0 := rfl; have a2 : IntKind.u8.max = 255 := rfl; have a3 : IntKind.i64.min = -9223372036854775808 := rfl; have a4 : IntKind.i64.max = 9223372036854775807 := rfl; simp [Lit.wf]; omega
  have w2 : (Lit.int .i64 p.n).wf = true := by have a1 : IntKind.u8.min = 0 := rfl; have a2 : IntKind.u8.max = 255 := rfl; have a3 : IntKind.i64.min = -9223372036854775808 := rfl; have a4 : IntKind.i64.max = 9223372036854775807 := rfl; simp [Lit.wf]; omega
  rw [keyOf36]
  simp [kl, key36, w1, w2]
theorem kl_inj {p q : Nm} (h : p.wf) (h' : q.wf) (e : kl p = kl q) : p = q := by
  have a := kl_of h
  rw [e] at a
  have := law36.inj a (kl_of h')
  obtain ⟨y, n⟩ := p
  obtain ⟨y', n'⟩ := q
  simp at this
  simp [this.1, this.2]
theorem kl_key {p : Nm} (h : p.wf) : WideAt.IsKeyLit (kl p) := law36.key (kl_of h)

/-- How often the names have been seen, each once. -/
def seenI (ns : List Nm) : DataW Unit := ns.foldl (fun D p => D.put (kl p) (.lit (.int .i64 1))) (.map [])
theorem seenI_snoc (ns : List Nm) (p : Nm) : seenI (ns ++ [p]) = (seenI ns).put (kl p) (.lit (.int .i64 1)) := by simp [seenI]
theorem seenI_from (p : Nm) (hp : p.wf) (ns : List Nm) : ∀ (D : DataW Unit) (b : Bool), (∀ q ∈ ns, q.wf) → Maps.IsMap D → D.atKey (kl p) (.lit (.int .i64 0)) = .lit (.int .i64 (if b then 1 else 0)) →
    (ns.foldl (fun D p => D.put (kl p) (.lit (.int .i64 1))) D).atKey (kl p) (.lit (.int .i64 0)) = .lit (.int .i64 (if (b || decide (p ∈ ns)) then 1 else 0)) := by
  induction ns with
  | nil => intro D b _ _ h; simpa using h
  | cons q ns ih =>
    intro D b h hD hb
    rw [List.foldl_cons]
    by_cases e : q = p
    · subst e
      have := ih _ true (fun x hx => h x (List.mem_cons_of_mem _ hx)) (hD.put _ _) (Maps.atKey_put_same hD (kl_key hp) _ _)
      refine this.trans ?_
      simp
    · have hne : kl p ≠ kl q := fun h' => e (kl_inj (h q (List.mem_cons_self ..)) hp h'.symm)
      rw [ih _ b (fun x hx => h x (List.mem_cons_of_mem _ hx)) (hD.put _ _) ((Maps.atKey_put_other hne _ _).trans hb)]
      have e' : ¬ p = q := fun h => e h.symm
      simp [e']
theorem seenI_at {p : Nm} (hp : p.wf) {ns : List Nm} (h : ∀ q ∈ ns, q.wf) : (seenI ns).atKey (kl p) (.lit (.int .i64 0)) = .lit (.int .i64 (if p ∈ ns then 1 else 0)) := by
  have := seenI_from p hp ns (.map []) false h Maps.isMap_empty rfl
  simpa [seenI] using this
theorem zeroI (w : World) : (zeroValue 3).run Try.prog w = .ok (.int .i64 0) w := by kernel_rfl
end Go.Proofs.Ytgaofkbmnapogaa
namespace Go.Proofs.Ytgaofkbmnapogaa
open Go.RowKit Go.Sort

set_option maxRecDepth 100000 in
set_option maxHeartbeats 2000000 in
theorem isThere_any (t : Tb) (p : Nm) (N : Nat) (w : World) (hN : N ≤ w.heap.size) (ht : Tb.ok N w t) (hp : p.byte) :
    Calls Try.prog 26 #[t.v, p.v] w fun e w' => e = .returned (.bool (there t.sem p)) ∧ Below w.heap.size w w' := by
  obtain ⟨c, hc⟩ : ∃ c, there t.sem p = c := ⟨_, rfl⟩
  rw [hc]
  have HC := Lib.hid hc
  have HT := Lib.hid (ht.mono hN)
  obtain ⟨ao, ls, cap⟩ := t
  obtain ⟨y, n⟩ := p
  simp only [Sl.v, Nm.v]
  obtain ⟨hy0, hy1⟩ := hp
  simp only at hy0 hy1
  have hlen : ls.length ≤ 100 := HT.out.len
  have HS : Hid ((Tb.sem ⟨ao, ls, cap⟩).length = ls.length) := Lib.hid (Tb.sem_len _)
  clear hc ht
  have hb0 := below1 w (.cells #[.int .u8 y, .int .i64 n] 36)
  by_cases h1 : y < 1
  · have hcf : c = false := by rw [← HC.out]; unfold there; exact decide_eq_false (by simp only; omega)
    subst hcf
    go_enter Try.func26, Try.ntmps26
    go_wp2
    go_ret
    exact ⟨rfl, hb0⟩
  · by_cases h2 : (ls.length : Int) < y
    · have hcf : c = false := by rw [← HC.out]; unfold there; rw [HS.out]; exact decide_eq_false (by simp only; omega)
      subst hcf
      go_enter Try.func26, Try.ntmps26
      go_wp2
      go_ret
      exact ⟨rfl, hb0⟩
    · obtain ⟨k, hk⟩ : ∃ k : Nat, y = (k : Int) + 1 := ⟨(y - 1).toNat, by omega⟩
      have hkl : k < ls.length := by omega
      obtain ⟨r, hr⟩ : ∃ r, ls[k]? = some r := ⟨ls[k], List.getElem?_eq_getElem hkl⟩
      obtain ⟨b, o, hao, hbl, hcell, hro⟩ := HT.out.row hr
      obtain rfl : ao = some ⟨b, o, none⟩ := hao
      obtain ⟨ra, rl, rc⟩ := r
      have hrl : rl.length ≤ 100 := hro.len
      simp only [Sl.v] at hcell
      have hse : (Tb.sem ⟨some ⟨b, o, none⟩, ls, cap⟩).getD (y - 1).toNat [] = rl.map Lp.q := by
        rw [show (y - 1).toNat = k by omega]
        exact Tb.sem_at (t := ⟨some ⟨b, o, none⟩, ls, cap⟩) hr
      have hcc : there (Tb.sem ⟨some ⟨b, o, none⟩, ls, cap⟩) ⟨y, n⟩ = decide (0 ≤ n ∧ n < rl.length) := by
        unfold there
        rw [HS.out, hse, List.length_map]
        simp only
        rw [Bool.eq_iff_iff, decide_eq_true_eq, decide_eq_true_eq]
        omega
      rw [hcc] at HC
      have hyk : y - 1 = (k : Int) := by omega
      clear hcc hse hr hro hk
      obtain ⟨w0, hw0⟩ : ∃ w0, w.alloc (.cells #[.int .u8 y, .int .i64 n] 36) = w0 := ⟨_, rfl⟩
      have n0 : w0.cell? ⟨w.heap.size, 0, none⟩ = some (.int .u8 y) := by rw [← hw0]; simp
      have n1 : w0.cell? ⟨w.heap.size, 1, none⟩ = some (.int .i64 n) := by rw [← hw0]; simp
      rw [hw0] at hb0
      have hc0 := (hb0.cell (p := ⟨b, o + k, none⟩) hbl).trans hcell
      have hkz : (k : Int) < (ls.length : Int) := by omega
      have h2z : ¬ ((ls.length : Int) < y) := h2
      clear hcell
      by_cases h3 : 0 ≤ n
      · by_cases h4 : n < rl.length
        · have hcf : c = true := by rw [← HC.out]; exact decide_eq_true ⟨h3, h4⟩
          subst hcf
          go_enter Try.func26, Try.ntmps26
          go_upto_region 3 with fail
          go_quiet (fail)
          go_wp2_with fail
          go_ret
          exact ⟨rfl, below_drewN hb0 _⟩
        · have hcf : c = false := by rw [← HC.out]; exact decide_eq_false (by omega)
          subst hcf
          go_enter Try.func26, Try.ntmps26
          go_upto_region 3 with fail
          go_quiet (fail)
          go_wp2_with fail
          go_ret
          exact ⟨rfl, below_drewN hb0 _⟩
      · have hcf : c = false := by rw [← HC.out]; exact decide_eq_false (by omega)
        subst hcf
        go_enter Try.func26, Try.ntmps26
        go_upto_region 3 with fail
        go_quiet (fail)
        go_wp2_with fail
        go_ret
        exact ⟨rfl, below_drewN hb0 _⟩
set_option maxHeartbeats 2000000 in
theorem count_any (t : Tb) (N : Nat) (w : World) (hN : N ≤ w.heap.size) (ht : Tb.ok N w t) :
    Calls Try.prog 11 #[t.v] w fun e w' => e = .returned (.int .i64 ((t.l.map fun r => r.l.length).sum : Nat)) ∧ w' = w := by
  have HT := Lib.hid (ht.mono hN)
  obtain ⟨ao, ls, cap⟩ := t
  simp only [Sl.v]
  have hlen : ls.length ≤ 100 := HT.out.len
  have hsum : ∀ i, ((ls.take i).map fun r => r.l.length).sum ≤ 100 * i := fun i => by
    induction i with
    | zero => simp
    | succ i ih =>
      by_cases hi : i < ls.length
      · rw [List.take_succ_eq_append_getElem hi, List.map_append, List.sum_append]
        have := (HT.out.el ls[i] (List.getElem_mem hi)).len
        simp only [List.map_cons, List.map_nil, List.sum_cons, List.sum_nil]
        omega
      · rw [List.take_of_length_le (by omega)] at ih ⊢
        omega
  clear ht
  go_enter Try.func11, Try.ntmps11
  go_wp2
  go_loopg [3, 8] (ls.length + 1) (fun g s3 s8 wr => ∃ i : Nat, s3 = .int .i64 (((ls.take i).map fun r => r.l.length).sum : Nat) ∧ s8 = .int .i64 i ∧ i ≤ ls.length ∧ g = ls.length + 1 - i ∧ wr = w)
  case atStart => exact ⟨0, rfl, rfl, by omega, by omega, rfl⟩
  case round =>
    obtain ⟨i, rfl, rfl, hi, hg, rfl⟩ := hrel
    have HG := Lib.hid hg
    clear hg
    have hle := hsum i
    by_cases hlt : i < ls.length
    · have hiz : (i : Int) < (ls.length : Int) := by omega
      obtain ⟨r, hr⟩ : ∃ r, ls[i]? = some r := ⟨ls[i], List.getElem?_eq_getElem hlt⟩
      obtain ⟨b, o, hao, hbl, hcell, hro⟩ := HT.out.row hr
      obtain rfl : ao = some ⟨b, o, none⟩ := hao
      have hrl : r.l.length ≤ 100 := hro.len
      have hnx : ((ls.take (i + 1)).map fun r => r.l.length).sum = ((ls.take i).map fun r => r.l.length).sum + r.l.length := by
        have e : ls[i] = r := by rw [List.getElem?_eq_getElem hlt] at hr; simpa using hr
        rw [List.take_succ_eq_append_getElem hlt, List.map_append, List.sum_append, e]
        simp
      obtain ⟨S, hS⟩ : ∃ S, ((ls.take i).map fun r => r.l.length).sum = S := ⟨_, rfl⟩
      rw [hS] at hle hnx ⊢
      have HNX := Lib.hid hnx
      obtain ⟨ra, rl, rc⟩ := r
      simp only [Sl.v] at hcell hrl
      clear hr hro hnx hS
      go_wp2
      go_roundg (ls.length + 1 - (i + 1))
      case measure => have := HG.out; omega
      case rel => exact ⟨i + 1, by rw [HNX.out]; go_num, by go_num, by omega, by omega, rfl⟩
    · obtain rfl : i = ls.length := by omega
      go_wp2
      go_ret
      exact ⟨by simp, rfl⟩
end Go.Proofs.Ytgaofkbmnapogaa
namespace Go.Proofs.Ytgaofkbmnapogaa.Ya
set_option maxRecDepth 100000
open Go.RowKit Go.Sort
open Go.RowKit

/-- A pass as plain data: the yarn and the number of the loop, whether it lies in front, the direction. -/
structure Ps where
  y : Int
  n : Int
  f : Bool
  d : Int
deriving DecidableEq

def Ps.nil : Ps := ⟨0, 0, false, 0⟩
/-- Two passes cancel. -/
def canc (a b : Ps) : Bool := decide (a.y = b.y) && decide (a.n = b.n) && decide (a.f = b.f) && (decide (a.d = 0 ∧ b.d = 1) || decide (a.d = 1 ∧ b.d = 0))
/-- The pass of the way back. -/
def bck (p : Ps) : Ps := { p with d := if p.d = 1 then 0 else 1 }

theorem canc_iff (a b : Ps) : canc a b = true ↔ a.y = b.y ∧ a.n = b.n ∧ a.f = b.f ∧ ((a.d = 0 ∧ b.d = 1) ∨ (a.d = 1 ∧ b.d = 0)) := by
  simp [canc, and_assoc]
theorem canc_uniq {a b c : Ps} (h : canc a b = true) (h' : canc b c = true) : a = c := by
  rw [canc_iff] at h h'
  obtain ⟨ay, an, af, ad⟩ := a
  obtain ⟨cy, cn, cf, cd⟩ := c
  simp only [Ps.mk.injEq]
  simp only at h h'
  obtain ⟨h1, h2, h3, h4⟩ := h
  obtain ⟨g1, g2, g3, g4⟩ := h'
  exact ⟨h1.trans g1, h2.trans g2, h3.trans g3, by omega⟩
theorem canc_bck {a : Ps} (h : a.d = 0 ∨ a.d = 1) : canc a (bck a) = true := by
  rw [canc_iff]
  rcases h with h | h <;> simp [bck, h]
theorem bck_bck {a : Ps} (h : a.d = 0 ∨ a.d = 1) : bck (bck a) = a := by
  obtain ⟨y, n, f, d⟩ := a
  rcases h with h | h <;> simp only at h <;> subst h <;> simp [bck]
theorem bck_dir (a : Ps) : (bck a).d = 0 ∨ (bck a).d = 1 := by
  by_cases h : a.d = 1 <;> simp [bck, h]

/-- No two that follow each other cancel. -/
def Red (s : List Ps) : Prop := ∀ i a b, s[i]? = some a → s[i + 1]? = some b → canc a b = false

/-- A list with one pass more, reduced. -/
def psh (s : List Ps) (p : Ps) : List Ps := match s.getLast? with
  | some x => if canc x p = true then s.dropLast else s ++ [p]
  | none => [p]
def red (l : List Ps) : List Ps := l.foldl psh []

theorem psh_nil (p : Ps) : psh [] p = [p] := rfl
theorem psh_yes {s : List Ps} {x p : Ps} (h : canc x p = true) : psh (s ++ [x]) p = s := by simp [psh, h]
theorem psh_no {s : List Ps} {x p : Ps} (h : canc x p = false) : psh (s ++ [x]) p = s ++ [x] ++ [p] := by simp [psh, h]

theorem list_last (s : List Ps) : s = [] ∨ ∃ t x, s = t ++ [x] := by
  rcases List.eq_nil_or_concat s with h | ⟨t, x, h⟩
  · exact .inl h
  · exact .inr ⟨t, x, by simpa using h⟩

theorem Red.nil : Red [] := fun _ _ _ h => by simp at h
theorem Red.init {s : List Ps} {x : Ps} (h : Red (s ++ [x])) : Red s := fun i a b h1 h2 => by
  have l2 := (List.getElem?_eq_some_iff.1 h2).1
  exact h i a b (by rw [List.getElem?_append_left (by omega)]; exact h1) (by rw [List.getElem?_append_left (by omega)]; exact h2)
theorem Red.add {s : List Ps} {x p : Ps} (h : Red (s ++ [x])) (hc : canc x p = false) : Red (s ++ [x] ++ [p]) := fun i a b h1 h2 => by
  have l2 := (List.getElem?_eq_some_iff.1 h2).1
  simp at l2
  by_cases e : i + 1 < (s ++ [x]).length
  · exact h i a b (by rw [List.getElem?_append_left (by omega)] at h1; exact h1) (by rw [List.getElem?_append_left e] at h2; exact h2)
  · have e2 : i = s.length := by simp at e; omega
    subst e2
    simp at h1 h2
    subst h1; subst h2
    exact hc
theorem Red.one (p : Ps) : Red [p] := fun i a b _ h2 => by simp at h2
theorem Red.psh {s : List Ps} (h : Red s) (p : Ps) : Red (psh s p) := by
  rcases list_last s with rfl | ⟨t, x, rfl⟩
  · exact Red.one p
  · cases hc : canc x p
    · rw [psh_no hc]; exact h.add hc
    · rw [psh_yes hc]; exact h.init

theorem psh_psh {s : List Ps} (h : Red s) {a b : Ps} (hc : canc a b = true) : psh (psh s a) b = s := by
  rcases list_last s with rfl | ⟨t, x, rfl⟩
  · show psh ([] ++ [a]) b = []
    exact psh_yes hc
  · cases hx : canc x a
    · rw [psh_no hx, psh_yes hc]
    · rw [psh_yes hx]
      obtain rfl := canc_uniq hx hc
      rcases list_last t with rfl | ⟨u, y, rfl⟩
      · rfl
      · have hy : canc y x = false := h u.length y x (by simp) (by simp)
        rw [psh_no hy]

theorem Red.fold {s : List Ps} (h : Red s) (l : List Ps) : Red (l.foldl Go.Proofs.Ytgaofkbmnapogaa.Ya.psh s) := by
  induction l generalizing s with
  | nil => exact h
  | cons p l ih => exact ih (h.psh p)
theorem red_red (l : List Ps) : Red (red l) := Red.nil.fold l

theorem fold_cut {s : List Ps} (h : Red s) (u v : List Ps) {a b : Ps} (hc : canc a b = true) : (u ++ a :: b :: v).foldl psh s = (u ++ v).foldl psh s := by
  rw [List.foldl_append, List.foldl_append, List.foldl_cons, List.foldl_cons, psh_psh (h.fold u) hc]
theorem red_cut (u v : List Ps) {a b : Ps} (hc : canc a b = true) : red (u ++ a :: b :: v) = red (u ++ v) := fold_cut Red.nil u v hc

theorem fold_id (l : List Ps) : ∀ s : List Ps, Red (s ++ l) → l.foldl psh s = s ++ l := by
  induction l with
  | nil => intro s _; simp
  | cons p l ih =>
    intro s h
    have e : psh s p = s ++ [p] := by
      rcases list_last s with rfl | ⟨t, x, rfl⟩
      · rfl
      · exact psh_no (h t.length x p (by simp) (by simp))
    rw [List.foldl_cons, e, ih (s ++ [p]) (by simpa using h)]
    simp
theorem red_id {l : List Ps} (h : Red l) : red l = l := by
  have := fold_id l [] (by simpa using h)
  simpa [red] using this

/-- What two lists come to behind every reduced list. -/
def Eqv (l m : List Ps) : Prop := ∀ s, Red s → l.foldl psh s = m.foldl psh s
theorem Eqv.app {l m l' m' : List Ps} (h : Eqv l m) (h' : Eqv l' m') : Eqv (l ++ l') (m ++ m') := fun s hs => by
  rw [List.foldl_append, List.foldl_append, h s hs, h' _ (hs.fold m)]
theorem Eqv.rfl' (l : List Ps) : Eqv l l := fun _ _ => rfl
theorem eqv_psh (s : List Ps) (p : Ps) : Eqv (psh s p) (s ++ [p]) := by
  rcases list_last s with rfl | ⟨t, x, rfl⟩
  · exact Eqv.rfl' _
  · cases hc : canc x p
    · rw [psh_no hc]; exact Eqv.rfl' _
    · rw [psh_yes hc]
      intro s hs
      have := fold_cut hs t [] hc
      simp only [List.append_nil] at this
      rw [← this]; simp
theorem eqv_fold (l : List Ps) : ∀ s, Eqv (l.foldl psh s) (s ++ l) := by
  induction l with
  | nil => intro s; simpa using Eqv.rfl' s
  | cons p l ih =>
    intro s t ht
    rw [List.foldl_cons, ih (psh s p) t ht, List.foldl_append, eqv_psh s p t ht]
    simp
theorem eqv_red (l : List Ps) : Eqv (red l) l := by have := eqv_fold l []; rw [List.nil_append] at this; exact this
theorem Eqv.red {l m : List Ps} (h : Eqv l m) : red l = red m := h [] Red.nil
theorem red_parts (a b : List Ps) : red (red a ++ red b) = red (a ++ b) := ((eqv_red a).app (eqv_red b)).red
theorem red_left (a b : List Ps) : red (red a ++ b) = red (a ++ b) := ((eqv_red a).app (Eqv.rfl' b)).red
theorem red_again (a : List Ps) : red (red a) = red a := red_id (red_red a)

def inv (l : List Ps) : List Ps := (l.map bck).reverse
theorem inv_cons (p : Ps) (l : List Ps) : inv (p :: l) = inv l ++ [bck p] := by simp [inv]
def Dirs (l : List Ps) : Prop := ∀ p ∈ l, p.d = 0 ∨ p.d = 1
theorem inv_inv {l : List Ps} (h : Dirs l) : inv (inv l) = l := by
  simp only [inv, List.map_reverse, List.reverse_reverse, List.map_map]
  conv => rhs; rw [← List.map_id l]
  exact List.map_congr_left fun p hp => bck_bck (h p hp)
theorem red_inv_from (l : List Ps) : Dirs l → ∀ u v : List Ps, red (u ++ (l ++ inv l) ++ v) = red (u ++ v) := by
  induction l with
  | nil => intro _ u v; simp [inv]
  | cons p l ih =>
    intro h u v
    have h1 := ih (fun q hq => h q (List.mem_cons_of_mem _ hq)) (u ++ [p]) ([bck p] ++ v)
    have h2 := red_cut u v (canc_bck (h p (List.mem_cons_self ..)))
    rw [inv_cons]
    simp only [List.append_assoc, List.cons_append, List.nil_append] at h1 h2 ⊢
    rw [h1, h2]
theorem red_inv {l : List Ps} (h : Dirs l) (u : List Ps) : red (u ++ (l ++ inv l)) = red u := by
  have := red_inv_from l h u []
  simpa using this
theorem Dirs.psh {s : List Ps} (h : Dirs s) {p : Ps} (hp : p.d = 0 ∨ p.d = 1) : Dirs (psh s p) := by
  rcases list_last s with rfl | ⟨t, x, rfl⟩
  · intro q hq; simp [psh_nil] at hq; subst hq; exact hp
  · cases hc : canc x p
    · rw [psh_no hc]; intro q hq
      rcases List.mem_append.1 hq with hq | hq
      · exact h q hq
      · simp at hq; subst hq; exact hp
    · rw [psh_yes hc]; exact fun q hq => h q (by simp [hq])
theorem length_psh (s : List Ps) (p : Ps) : (psh s p).length ≤ s.length + 1 := by
  rcases list_last s with rfl | ⟨t, x, rfl⟩
  · simp [psh_nil]
  · cases hc : canc x p
    · rw [psh_no hc]; simp
    · rw [psh_yes hc]; simp; omega
theorem length_fold (l : List Ps) : ∀ s : List Ps, (l.foldl psh s).length ≤ s.length + l.length := by
  induction l with
  | nil => intro s; simp
  | cons p l ih => intro s; have := ih (psh s p); have := length_psh s p; simp only [List.foldl_cons, List.length_cons]; omega
theorem length_red (l : List Ps) : (red l).length ≤ l.length := by have := length_fold l []; simpa [red] using this
theorem mem_psh {s : List Ps} {p q : Ps} (h : q ∈ psh s p) : q ∈ s ∨ q = p := by
  rcases list_last s with rfl | ⟨t, x, rfl⟩
  · simp [psh_nil] at h; exact .inr h
  · cases hc : canc x p
    · rw [psh_no hc] at h
      rcases List.mem_append.1 h with h | h
      · exact .inl h
      · simp at h; exact .inr h
    · rw [psh_yes hc] at h; exact .inl (by simp [h])
theorem mem_fold (l : List Ps) : ∀ {s : List Ps} {q : Ps}, q ∈ l.foldl psh s → q ∈ s ∨ q ∈ l := by
  induction l with
  | nil => intro s q h; exact .inl h
  | cons p l ih =>
    intro s q h
    rcases ih h with h | h
    · rcases mem_psh h with h | h
      · exact .inl h
      · exact .inr (by simp [h])
    · exact .inr (by simp [h])
theorem mem_red {l : List Ps} {q : Ps} (h : q ∈ red l) : q ∈ l := by
  rcases mem_fold l h with h | h
  · simp at h
  · exact h

open Go.RowKit

theorem bcell {W w1 : World} (hb : Below W.heap.size W w1) : (∀ b o, b < W.heap.size → w1.cell? ⟨b, o, none⟩ = W.cell? ⟨b, o, none⟩) ∧ (∀ b o, b < W.heap.size → w1.frozen? ⟨b, o, none⟩ = W.frozen? ⟨b, o, none⟩) :=
  ⟨fun b o h => hb.cell (p := ⟨b, o, none⟩) h, fun b o h => hb.frozen (p := ⟨b, o, none⟩) h⟩

/-- A pass as a value. -/
def Ps.v (p : Ps) : Value := .agg #[.int .u8 p.y, .int .i64 p.n, .bool p.f, .int .u8 p.d]

theorem below1 (w : World) (o : Obj) : Below w.heap.size w (w.alloc o) := (Below.refl _ _).alloc (Nat.le_refl _) _
theorem below2 (w : World) (o p : Obj) : Below w.heap.size w ((w.alloc o).alloc p) := (below1 w o).alloc (by simp) _

theorem back_right (y n : Int) (f : Bool) (w : World) :
    Calls Try.prog 68 #[.agg #[.int .u8 y, .int .i64 n, .bool f, .int .u8 1]] w fun e w' => e = .returned (.agg #[.int .u8 y, .int .i64 n, .bool f, .int .u8 0]) ∧ Below w.heap.size w w' := by
  go_enter Try.func68, Try.ntmps68
  go_wp2
  exact bodyPost_ret (v := .agg #[.int .u8 y, .int .i64 n, .bool f, .int .u8 0]) (by simp [results, Try.results46, go_sem]) rfl ⟨rfl, below2 _ _ _⟩

theorem back_other (y n : Int) (f : Bool) (d : Int) (h : d ≠ 1) (w : World) :
    Calls Try.prog 68 #[.agg #[.int .u8 y, .int .i64 n, .bool f, .int .u8 d]] w fun e w' => e = .returned (.agg #[.int .u8 y, .int .i64 n, .bool f, .int .u8 1]) ∧ Below w.heap.size w w' := by
  go_enter Try.func68, Try.ntmps68
  go_wp2
  exact bodyPost_ret (v := .agg #[.int .u8 y, .int .i64 n, .bool f, .int .u8 1]) (by simp [results, Try.results46, go_sem]) rfl ⟨rfl, below2 _ _ _⟩

theorem back_any (y n : Int) (f : Bool) (d : Int) (w : World) :
    Calls Try.prog 68 #[.agg #[.int .u8 y, .int .i64 n, .bool f, .int .u8 d]] w fun e w' => e = .returned (.agg #[.int .u8 y, .int .i64 n, .bool f, .int .u8 (bck ⟨y, n, f, d⟩).d]) ∧ Below w.heap.size w w' := by
  by_cases h : d = 1
  · subst h; exact back_right y n f w
  · have := back_other y n f d h w
    simpa [bck, h] using this

open Go.RowKit Go.Sort

/-- The four cells of a pass. -/
def Four (w : World) (b o : Nat) (p : Ps) : Prop :=
  w.cell? ⟨b, o, none⟩ = some (.int .u8 p.y) ∧ w.cell? ⟨b, o + 1, none⟩ = some (.int .i64 p.n) ∧ w.cell? ⟨b, o + 2, none⟩ = some (.bool p.f) ∧ w.cell? ⟨b, o + 3, none⟩ = some (.int .u8 p.d)

/-- The passes of a list lie in memory. -/
def Lie (w : World) (ao : Option Addr) (ps : List Ps) : Prop :=
  ps = [] ∨ ∃ b o, ao = some ⟨b, o, none⟩ ∧ b < w.heap.size ∧ ∀ i p, ps[i]? = some p → Four w b (o + i * 4) p

theorem Four.below {w w' : World} {b o : Nat} {p : Ps} (h : Four w b o p) {B : Nat} (hb : Below B w w') (hB : b < B) : Four w' b o p := by
  obtain ⟨h1, h2, h3, h4⟩ := h
  refine ⟨?_, ?_, ?_, ?_⟩
  · rw [hb.cell (p := ⟨b, o, none⟩) hB]; exact h1
  · rw [hb.cell (p := ⟨b, o + 1, none⟩) hB]; exact h2
  · rw [hb.cell (p := ⟨b, o + 2, none⟩) hB]; exact h3
  · rw [hb.cell (p := ⟨b, o + 3, none⟩) hB]; exact h4

theorem Lie.below {w w' : World} {ao : Option Addr} {ps : List Ps} (h : Lie w ao ps) (hb : Below w.heap.size w w') : Lie w' ao ps := by
  rcases h with h | ⟨b, o, h1, h2, h3⟩
  · exact .inl h
  · exact .inr ⟨b, o, h1, Nat.lt_of_lt_of_le h2 hb.size, fun i p hp => (h3 i p hp).below hb h2⟩

theorem Lie.nil (w : World) (ao : Option Addr) : Lie w ao [] := .inl rfl

/-- The pass at a place of a list that is not empty. -/
theorem Lie.at {w : World} {ao : Option Addr} {ps : List Ps} (h : Lie w ao ps) {i : Nat} (hi : i < ps.length) :
    ∃ b o, ao = some ⟨b, o, none⟩ ∧ b < w.heap.size ∧ Four w b (o + i * 4) (ps.getD i Ps.nil) := by
  rcases h with rfl | ⟨b, o, h1, h2, h3⟩
  · simp at hi
  · exact ⟨b, o, h1, h2, h3 i _ (by simp [List.getD, List.getElem?_eq_getElem hi])⟩

open Go.RowKit Go.Sort

/-- The cells of a list of passes, in a row. -/
def cellsOf (ps : List Ps) : List Value := ps.flatMap fun p => [.int .u8 p.y, .int .i64 p.n, .bool p.f, .int .u8 p.d]

theorem cellsOf_nil : cellsOf [] = [] := rfl
theorem cellsOf_cons (p : Ps) (ps : List Ps) : cellsOf (p :: ps) = .int .u8 p.y :: .int .i64 p.n :: .bool p.f :: .int .u8 p.d :: cellsOf ps := rfl
theorem cellsOf_append (a b : List Ps) : cellsOf (a ++ b) = cellsOf a ++ cellsOf b := by simp [cellsOf]
theorem cellsOf_length (ps : List Ps) : (cellsOf ps).length = ps.length * 4 := by
  induction ps with
  | nil => rfl
  | cons p ps ih => rw [cellsOf_cons]; simp [ih]; omega
theorem cellsOf_one (ps : List Ps) : ∀ u ∈ cellsOf ps, u.oneCell' = true := by
  intro u hu
  simp only [cellsOf, List.mem_flatMap] at hu
  obtain ⟨p, _, hu⟩ := hu
  simp at hu
  rcases hu with rfl | rfl | rfl | rfl <;> rfl
theorem cellsOf_at (ps : List Ps) : ∀ (i : Nat) (p : Ps), ps[i]? = some p →
    (cellsOf ps)[i * 4]? = some (.int .u8 p.y) ∧ (cellsOf ps)[i * 4 + 1]? = some (.int .i64 p.n) ∧ (cellsOf ps)[i * 4 + 2]? = some (.bool p.f) ∧ (cellsOf ps)[i * 4 + 3]? = some (.int .u8 p.d) := by
  induction ps with
  | nil => intro i p h; simp at h
  | cons q ps ih =>
    intro i p h
    rw [cellsOf_cons]
    cases i with
    | zero => simp at h; subst h; simp
    | succ i =>
      have := ih i p (by simpa using h)
      rw [show (i + 1) * 4 = i * 4 + 4 by omega]
      simpa [Nat.add_assoc] using this
/-- The cells of a list that lies, one by one. -/
theorem Lie.cells {w : World} {ao : Option Addr} {ps : List Ps} (h : Lie w ao ps) : ∀ ad, ao = some ad → ∀ j u, (cellsOf ps)[j]? = some u → w.cell? (ad.add j) = some u := by
  rintro ad rfl j u hj
  rcases h with rfl | ⟨b, o, h1, h2, h3⟩
  · simp [cellsOf] at hj
  · obtain rfl : ad = ⟨b, o, none⟩ := by simpa using h1
    have hlt : j < ps.length * 4 := by rw [← cellsOf_length]; exact (List.getElem?_eq_some_iff.1 hj).1
    have hi : j / 4 < ps.length := by omega
    obtain ⟨p, hp⟩ : ∃ p, ps[j / 4]? = some p := ⟨_, List.getElem?_eq_getElem hi⟩
    obtain ⟨a0, a1, a2, a3⟩ := cellsOf_at ps _ p hp
    obtain ⟨c0, c1, c2, c3⟩ := h3 _ p hp
    have e : (⟨b, o, none⟩ : Addr).add j = ⟨b, o + j, none⟩ := Addr.add_lit ..
    rw [e]
    have hm : j % 4 < 4 := Nat.mod_lt _ (by omega)
    rcases (by omega : j % 4 = 0 ∨ j % 4 = 1 ∨ j % 4 = 2 ∨ j % 4 = 3) with h | h | h | h
    · rw [show j / 4 * 4 = j by omega] at a0 c0
      rw [hj] at a0; rw [a0]; exact c0
    · rw [show j / 4 * 4 + 1 = j by omega] at a1
      rw [show o + j / 4 * 4 + 1 = o + j by omega] at c1
      rw [hj] at a1; rw [a1]; exact c1
    · rw [show j / 4 * 4 + 2 = j by omega] at a2
      rw [show o + j / 4 * 4 + 2 = o + j by omega] at c2
      rw [hj] at a2; rw [a2]; exact c2
    · rw [show j / 4 * 4 + 3 = j by omega] at a3
      rw [show o + j / 4 * 4 + 3 = o + j by omega] at c3
      rw [hj] at a3; rw [a3]; exact c3

/-- What a row of one's own holds lies. -/
theorem lie_of_row {w : World} {g : Nat} {cur : Array Value} {t : TypeId} {ps : List Ps} (hg : w.heap[g]? = some (.cells cur t (0, 0))) (hc : cur.toList.take (ps.length * 4) = cellsOf ps) : Lie w (some ⟨g, 0, none⟩) ps := by
  refine .inr ⟨g, 0, rfl, (Array.getElem?_eq_some_iff.1 hg).1, fun i p hp => ?_⟩
  have hi := (List.getElem?_eq_some_iff.1 hp).1
  obtain ⟨a0, a1, a2, a3⟩ := cellsOf_at ps i p hp
  have key : ∀ j u, j < ps.length * 4 → (cellsOf ps)[j]? = some u → w.cell? ⟨g, j, none⟩ = some u := fun j u hj hu => by
    rw [cell_of_row w g j cur t (0, 0) hg]
    rw [← hc, List.getElem?_take, if_pos hj] at hu
    simpa using hu
  rw [Nat.zero_add]
  exact ⟨key _ _ (by omega) a0, key _ _ (by omega) a1, key _ _ (by omega) a2, key _ _ (by omega) a3⟩

/-- A row that the call owns holds the passes. -/
theorem lie_of_owns {w : World} {B e : Nat} {v : Value} {n : Nat} {ps : List Ps} (h : w.ownsRow B e 4 v n (cellsOf ps)) : n = ps.length ∧ ∃ ao cap, v = .slice ao n cap ∧ n ≤ cap ∧ cap ≤ maxLen ∧ Lie w ao ps := by
  have hn : n = ps.length := by have := h.1; rw [cellsOf_length] at this; omega
  refine ⟨hn, ?_⟩
  rcases h.2 with ⟨rfl, rfl⟩ | ⟨g, cap, cur, rfl, hb, hg, hnc, hcm, hcs, htake⟩
  · exact ⟨none, 0, rfl, Nat.le_refl _, by simp [maxLen], .inl (List.eq_nil_of_length_eq_zero hn.symm)⟩
  · exact ⟨_, cap, rfl, hnc, hcm, lie_of_row hg (by rw [← hn]; exact htake)⟩

/-- A copy of whole elements of several cells into a row of one's own. -/
theorem run_copy_all {P : Program} (w : World) (dT sT ty e : TypeId) (g : Nat) (n dCap : Nat) (a : Addr) (sCap size : Nat) (cur : Array Value) (t : TypeId) (cs : List Value)
    (hu : P.underlying dT = some (.slice e)) (i : TypeInfo) (hi : P.info? e = some i) (hsz : i.size = size) (hg : w.heap[g]? = some (.cells cur t (0, 0))) (hl : cs.length = n * size)
    (hsrc : ∀ j v, cs[j]? = some v → w.cell? (a.add j) = some v) (hfit : cs.length ≤ cur.size) (h1 : ∀ v ∈ cs, v.oneCell' = true) :
    (Builtin.copy_ #[dT, sT] ty #[.slice (some ⟨g, 0, none⟩) n dCap, .slice (some a) n sCap]).run P w = .ok (goInt n) (w.setRow g (cs ++ cur.toList.drop cs.length).toArray) := by
  subst hsz
  have hf := run_firstCells_some (P := P) w i.size n a n sCap cs hl hsrc
  have hst := run_storeCells_at P g 0 t cs 0 cur w hg (by simpa using hfit) h1
  simp only [Nat.add_zero, Nat.zero_add, List.take_zero, List.nil_append] at hst
  simp [Builtin.copy_, run_underlying hu, Builtin.lenOf, sizeOf, typeInfo, hi, hf, hst]

open Go.RowKit Go.Sort

theorem setRow_alloc (w : World) (cur new : Array Value) (t : TypeId) : (w.alloc (.cells cur t)).setRow w.heap.size new = w.alloc (.cells new t) := by
  unfold World.setRow World.alloc
  simp only
  congr 1
  apply Array.ext
  · simp
  · intro k h1 h2
    simp only [Array.getElem_modify]
    split
    · rename_i hk; subst hk; simp
    · rename_i hk
      simp only [Array.size_modify, Array.size_push] at h1
      rw [Array.getElem_push_lt (by omega), Array.getElem_push_lt (by omega)]

/-- The zero pass. -/
def zero33 : Value := .agg #[.int .u8 0, .int .i64 0, .bool false, .int .u8 0]
theorem info33 : (Try.prog.info? 56).map (fun i => (i.zero, i.size, i.bytes)) = some (some zero33, 4, 24) := by kernel_rfl

/-- The row of the call's own that 'make' lays. -/
def rowNew (n : Nat) : Array Value := madeCells zero33.cells (n * 4)

theorem run_mk (c : Int) (n : Nat) (hc : c = n) (h1 : 24 * n ≤ 281474976710656) (w : World) :
    (Instr.makeSlice 43 (.int .i64 c) (.int .i64 c)).run Try.prog w = .ok (.slice (some ⟨w.heap.size, 0, none⟩) n n) (w.alloc (.cells (rowNew n) 56)) := by
  subst hc
  obtain ⟨i0, hi, hz0, hz1, hz2⟩ := info_parts info33
  have hr := run_make (P := Try.prog) w 43 56 i0 zero33 Try.underlying43 hi hz0 .i64 .i64 n n (by omega) (Int.le_refl _) (by rw [hz2]; omega) (by omega)
  simp only [Int.toNat_natCast, hz1] at hr
  exact hr
theorem run_mk0 (c : Int) (n : Nat) (hc : c = n) (h1 : 24 * n ≤ 281474976710656) (w : World) :
    (Instr.makeSlice 43 (.int .i64 0) (.int .i64 c)).run Try.prog w = .ok (.slice (some ⟨w.heap.size, 0, none⟩) 0 n) (w.alloc (.cells (rowNew n) 56)) := by
  subst hc
  obtain ⟨i0, hi, hz0, hz1, hz2⟩ := info_parts info33
  have hr := run_make (P := Try.prog) w 43 56 i0 zero33 Try.underlying43 hi hz0 .i64 .i64 0 n (by omega) (by omega) (by rw [hz2]; omega) (by omega)
  simp only [Int.toNat_natCast, hz1, Int.toNat_zero] at hr
  exact hr
theorem rowNew_size (n : Nat) : (rowNew n).size = n * 4 := size_madeCells _ _

/-- A list of passes that the call has made: its length is its room. -/
def Made (B : Nat) (w w' : World) (e : Ending) (ps : List Ps) : Prop :=
  ∃ bo, e = .returned (.slice bo ps.length ps.length) ∧ w'.ownsRow B 56 4 (.slice bo ps.length ps.length) ps.length (cellsOf ps) ∧ Below w.heap.size w w'

theorem copied_any (ao : Option Addr) (ps : List Ps) (n cap : Nat) (w : World) (hn : n = ps.length) (hm : 24 * n ≤ 281474976710656) (h : Lie w ao ps) :
    Calls Try.prog 66 #[.slice ao n cap] w fun e w' => Made w.heap.size w w' e ps := by
  have HN := Lib.hid hn
  have HL := Lib.hid h
  clear hn h
  by_cases h0 : n = 0
  · subst h0
    obtain rfl : ps = [] := List.eq_nil_of_length_eq_zero HN.out.symm
    go_enter Try.func66, Try.ntmps66
    go_wp2
    go_ret
    exact ⟨none, rfl, World.ownsRow_nil _ _ _ _, Below.refl _ _⟩
  · obtain ⟨b, o, rfl, hb, -⟩ := Lie.at HL.out (i := 0) (by rw [← HN.out]; omega)
    have hmk := fun w => run_mk (n : Int) n rfl hm w
    obtain ⟨i0, hi, hz0, hz1, hz2⟩ := info_parts info33
    have hlen : (cellsOf ps).length = n * 4 := by rw [cellsOf_length, HN.out]
    have hcp : (Builtin.copy_ #[43, 43] 3 #[.slice (some ⟨w.heap.size, 0, none⟩) n n, .slice (some ⟨b, o, none⟩) n cap]).run Try.prog (w.alloc (.cells (rowNew n) 56)) = .ok (goInt n) (w.alloc (.cells (cellsOf ps).toArray 56)) := by
      have := run_copy_all (P := Try.prog) (w.alloc (.cells (rowNew n) 56)) 43 43 3 56 w.heap.size n n ⟨b, o, none⟩ cap 4 (rowNew n) 56 (cellsOf ps) Try.underlying43 i0 hi hz1 (heap_alloc_new w _) hlen
        ((HL.out.below (below1 w _)).cells _ rfl) (by rw [rowNew_size, hlen]; exact Nat.le_refl _) (cellsOf_one ps)
      rw [this, setRow_alloc, List.drop_of_length_le (by rw [Array.length_toList, rowNew_size, hlen]; exact Nat.le_refl _), List.append_nil]
    have HLEN := Lib.hid hlen
    clear hi hz0 hz1 hz2 hlen
    go_enter Try.func66, Try.ntmps66
    go_wp2_with fail
    go_ret
    refine ⟨some ⟨w.heap.size, 0, none⟩, by rw [← HN.out]; rfl, ?_, below1 _ _⟩
    have hp := World.ownsRow_lit (base := w.heap.size) (e := 56) (size := 4) w (cellsOf ps).toArray ps.length (Nat.le_refl _) (by rw [← HN.out]; simp [maxLen]; omega) (by simp [cellsOf_length])
    simpa using hp

open Go.RowKit Go.Sort

theorem grown_of_below {w w' : World} (h : Below w.heap.size w w') : w.grownBy w' none := ⟨h.os, h.tape, h.output, h.size, fun k hk _ => h.block k hk⟩
theorem owns_below {w w' : World} {B e n : Nat} {v : Value} {xs : List Value} (h : w.ownsRow B e 4 v n xs) (hb : Below w.heap.size w w') : w'.ownsRow B e 4 v n xs :=
  h.kept (grown_of_below hb) (by cases hv : v.ownBlock <;> simp)

open Go.RowKit Go.Sort

theorem cellsOf_set (ps : List Ps) : ∀ (i : Nat) (p : Ps), i < ps.length →
    ((((cellsOf ps).set (i * 4) (.int .u8 p.y)).set (i * 4 + 1) (.int .i64 p.n)).set (i * 4 + 2) (.bool p.f)).set (i * 4 + 3) (.int .u8 p.d) = cellsOf (ps.set i p) := by
  induction ps with
  | nil => intro i p h; simp at h
  | cons q ps ih =>
    intro i p h
    cases i with
    | zero => simp [cellsOf_cons]
    | succ i =>
      have := ih i p (by simpa using h)
      rw [show (i + 1) * 4 = i * 4 + 4 by omega, List.set_cons_succ, cellsOf_cons, cellsOf_cons, ← this]
      simp [Nat.add_right_comm]

end Go.Proofs.Ytgaofkbmnapogaa.Ya
namespace Go.Proofs.Ytgaofkbmnapogaa.Ya
set_option maxRecDepth 100000
open Go.RowKit Go.Sort
theorem new2 (w : World) (y n : Int) (f : Bool) (d y' n' : Int) (f' : Bool) (d' : Int) :
    (let W := (w.alloc (.cells #[.int .u8 y, .int .i64 n, .bool f, .int .u8 d] 56)).alloc (.cells #[.int .u8 y', .int .i64 n', .bool f', .int .u8 d'] 56)
    (W.cell? ⟨w.heap.size, 0, none⟩ = some (.int .u8 y) ∧ W.cell? ⟨w.heap.size, 1, none⟩ = some (.int .i64 n) ∧ W.cell? ⟨w.heap.size, 2, none⟩ = some (.bool f) ∧ W.cell? ⟨w.heap.size, 3, none⟩ = some (.int .u8 d)) ∧
    (W.cell? ⟨w.heap.size + 1, 0, none⟩ = some (.int .u8 y') ∧ W.cell? ⟨w.heap.size + 1, 1, none⟩ = some (.int .i64 n') ∧ W.cell? ⟨w.heap.size + 1, 2, none⟩ = some (.bool f') ∧ W.cell? ⟨w.heap.size + 1, 3, none⟩ = some (.int .u8 d'))) := by
  refine ⟨⟨?_, ?_, ?_, ?_⟩, ⟨?_, ?_, ?_, ?_⟩⟩ <;> go_simp


theorem cancel_core (y n : Int) (f : Bool) (d y' n' : Int) (f' : Bool) (d' e e' : Int) (w : World) (he : (bck ⟨y', n', f', d'⟩).d = e) (he' : (bck ⟨y, n, f, d⟩).d = e') :
    Calls Try.prog 65 #[.agg #[.int .u8 y, .int .i64 n, .bool f, .int .u8 d], .agg #[.int .u8 y', .int .i64 n', .bool f', .int .u8 d']] w fun x w' => x = .returned (.bool (decide (y = y' ∧ n = n' ∧ f = f' ∧ d = e ∧ d' = e'))) ∧ Below w.heap.size w w' := by
  have HE := Lib.hid he
  have HE' := Lib.hid he'
  clear he he'
  obtain ⟨B, hB⟩ : ∃ B : Bool, B = decide (y = y' ∧ n = n' ∧ f = f' ∧ d = e ∧ d' = e') := ⟨_, rfl⟩
  rw [← hB]
  have HB := Lib.hid hB
  clear hB
  go_enter Try.func65, Try.ntmps65
  go_wp2_with fail
  obtain ⟨W, hW⟩ : ∃ W : World, W = (w.alloc (.cells #[.int .u8 y, .int .i64 n, .bool f, .int .u8 d] 56)).alloc (.cells #[.int .u8 y', .int .i64 n', .bool f', .int .u8 d'] 56) := ⟨_, rfl⟩
  rw [← hW]
  have BW : Below w.heap.size w W := by rw [hW]; exact below2 _ _ _
  obtain ⟨⟨c0, c1, c2, c3⟩, ⟨c4, c5, c6, c7⟩⟩ := new2 w y n f d y' n' f' d'
  rw [← hW] at c0 c1 c2 c3 c4 c5 c6 c7
  clear hW
  have g0 := fun d os => cell_regrown (d := d) (os := os) c0
  have g1 := fun d os => cell_regrown (d := d) (os := os) c1
  have g2 := fun d os => cell_regrown (d := d) (os := os) c2
  have g3 := fun d os => cell_regrown (d := d) (os := os) c3
  have g4 := fun d os => cell_regrown (d := d) (os := os) c4
  have g5 := fun d os => cell_regrown (d := d) (os := os) c5
  have g6 := fun d os => cell_regrown (d := d) (os := os) c6
  have g7 := fun d os => cell_regrown (d := d) (os := os) c7
  have k1 : ∀ m os, Calls Try.prog 68 #[.agg #[.int .u8 y', .int .i64 n', .bool f', .int .u8 d']] (grow (redrawn W m) os) fun x w'' => x = .returned (.agg #[.int .u8 y', .int .i64 n', .bool f', .int .u8 e]) ∧ ∃ p : Regrown, w'' = grow (redrawn W p.d) p.os :=
    fun m os => by rw [← HE.out]; exact Calls.regrown_of (back_any _ _ _ _ _)
  have k2 : ∀ m os, Calls Try.prog 68 #[.agg #[.int .u8 y, .int .i64 n, .bool f, .int .u8 d]] (grow (redrawn W m) os) fun x w'' => x = .returned (.agg #[.int .u8 y, .int .i64 n, .bool f, .int .u8 e']) ∧ ∃ p : Regrown, w'' = grow (redrawn W p.d) p.os :=
    fun m os => by rw [← HE'.out]; exact Calls.regrown_of (back_any _ _ _ _ _)
  have K1 := Lib.hid k1
  have K2 := Lib.hid k2
  clear k1 k2 HE HE'
  by_cases h1 : y = y'
  · subst h1
    by_cases h2 : n = n'
    · subst h2
      by_cases h3 : f = f'
      · subst h3
        by_cases h4 : d = e
        · subst h4
          by_cases h5 : d' = e'
          · subst h5
            refine wp_region_quiet_below (by kernel_rfl) (by kernel_rfl) ?_
            iterate 3 (quiet_step (exact K1.out _ _))
            repeat (quiet_step (exact K2.out _ _))
            rintro w1 ⟨p, rfl⟩
            have hb := below_regrown W p.d p.os
            go_wp2
            go_ret
            exact ⟨ret_bool (by rw [HB.out]; simp []), BW.trans (hb.mono BW.size)⟩
          · refine wp_region_quiet_below (by kernel_rfl) (by kernel_rfl) ?_
            iterate 3 (quiet_step (exact K1.out _ _))
            repeat (quiet_step (exact K2.out _ _))
            rintro w1 ⟨p, rfl⟩
            have hb := below_regrown W p.d p.os
            go_wp2
            go_ret
            exact ⟨ret_bool (by rw [HB.out]; simp [h5]), BW.trans (hb.mono BW.size)⟩
        · refine wp_region_quiet_below (by kernel_rfl) (by kernel_rfl) ?_
          iterate 3 (quiet_step (exact K1.out _ _))
          repeat (quiet_step (exact K2.out _ _))
          rintro w1 ⟨p, rfl⟩
          have hb := below_regrown W p.d p.os
          go_wp2
          go_ret
          exact ⟨ret_bool (by rw [HB.out]; simp [h4]), BW.trans (hb.mono BW.size)⟩
      · refine wp_region_quiet_below (by kernel_rfl) (by kernel_rfl) ?_
        iterate 3 (quiet_step (exact K1.out _ _))
        repeat (quiet_step (exact K2.out _ _))
        rintro w1 ⟨p, rfl⟩
        have hb := below_regrown W p.d p.os
        go_wp2
        go_ret
        exact ⟨ret_bool (by rw [HB.out]; simp [h3]), BW.trans (hb.mono BW.size)⟩
    · refine wp_region_quiet_below (by kernel_rfl) (by kernel_rfl) ?_
      iterate 3 (quiet_step (exact K1.out _ _))
      repeat (quiet_step (exact K2.out _ _))
      rintro w1 ⟨p, rfl⟩
      have hb := below_regrown W p.d p.os
      go_wp2
      go_ret
      exact ⟨ret_bool (by rw [HB.out]; simp [h2]), BW.trans (hb.mono BW.size)⟩
  · refine wp_region_quiet_below (by kernel_rfl) (by kernel_rfl) ?_
    iterate 3 (quiet_step (exact K1.out _ _))
    repeat (quiet_step (exact K2.out _ _))
    rintro w1 ⟨p, rfl⟩
    have hb := below_regrown W p.d p.os
    go_wp2
    go_ret
    exact ⟨ret_bool (by rw [HB.out]; simp [h1]), BW.trans (hb.mono BW.size)⟩

theorem cancel_any (y n : Int) (f : Bool) (d y' n' : Int) (f' : Bool) (d' : Int) (w : World) :
    Calls Try.prog 65 #[.agg #[.int .u8 y, .int .i64 n, .bool f, .int .u8 d], .agg #[.int .u8 y', .int .i64 n', .bool f', .int .u8 d']] w fun x w' => x = .returned (.bool (canc ⟨y, n, f, d⟩ ⟨y', n', f', d'⟩)) ∧ Below w.heap.size w w' := by
  refine (cancel_core y n f d y' n' f' d' _ _ w rfl rfl).mono fun x w' h => ⟨h.1.trans (ret_bool ?_), h.2⟩
  rw [Bool.eq_iff_iff, canc_iff]
  constructor
  · intro h
    obtain ⟨a, b, c, g1, g2⟩ := of_decide_eq_true h
    refine ⟨a, b, c, ?_⟩
    by_cases e1 : d' = 1 <;> by_cases e2 : d = 1 <;> simp [bck, e1, e2] at g1 g2 ⊢ <;> omega
  · rintro ⟨a, b, c, ⟨g1, g2⟩ | ⟨g1, g2⟩⟩ <;> simp only at a b c g1 g2 <;> exact decide_eq_true ⟨a, b, c, by simp [bck, g1, g2], by simp [bck, g1, g2]⟩

theorem Four.regrown {w : World} {b o : Nat} {y n : Int} {f : Bool} {d : Int} (h : Four w b o ⟨y, n, f, d⟩) :
    (∀ m os, (grow (redrawn w m) os).cell? ⟨b, o, none⟩ = some (.int .u8 y)) ∧ (∀ m os, (grow (redrawn w m) os).cell? ⟨b, o + 1, none⟩ = some (.int .i64 n)) ∧
    (∀ m os, (grow (redrawn w m) os).cell? ⟨b, o + 2, none⟩ = some (.bool f)) ∧ (∀ m os, (grow (redrawn w m) os).cell? ⟨b, o + 3, none⟩ = some (.int .u8 d)) :=
  ⟨fun m os => cell_regrown (d := m) (os := os) h.1, fun m os => cell_regrown (d := m) (os := os) h.2.1, fun m os => cell_regrown (d := m) (os := os) h.2.2.1, fun m os => cell_regrown (d := m) (os := os) h.2.2.2⟩

theorem cancel_regrown {y n : Int} {f : Bool} {d y' n' : Int} {f' : Bool} {d' : Int} {c : Bool} (hc : canc ⟨y, n, f, d⟩ ⟨y', n', f', d'⟩ = c) (w : World) :
    ∀ m os, Calls Try.prog 65 #[.agg #[.int .u8 y, .int .i64 n, .bool f, .int .u8 d], .agg #[.int .u8 y', .int .i64 n', .bool f', .int .u8 d']] (grow (redrawn w m) os) fun x w'' => x = .returned (.bool c) ∧ ∃ p : Regrown, w'' = grow (redrawn w p.d) p.os :=
  fun m os => by subst hc; exact Calls.regrown_of (cancel_any _ _ _ _ _ _ _ _ _)

theorem wrap_nat (j : Nat) (h : j ≤ 9223372036854775807) : IntKind.i64.wrap (j : Int) = j := by
  rw [IntKind.wrap_i64]; omega


theorem owns_pop {w : World} {B e g cap n : Nat} {t : List Ps} {x : Ps} (h : w.ownsRow B e 4 (.slice (some ⟨g, 0, none⟩) (n + 1) cap) (n + 1) (cellsOf (t ++ [x]))) : w.ownsRow B e 4 (.slice (some ⟨g, 0, none⟩) n cap) n (cellsOf t) := by
  have hn : n = t.length := by have := h.1; rw [cellsOf_length, List.length_append] at this; simp at this; omega
  rcases h.2 with ⟨h', _⟩ | ⟨g', cap', cur, h', hb, hg, hnc, hcm, hcs, htake⟩
  · simp at h'
  · simp only [Value.slice.injEq, Option.some.injEq, Addr.mk.injEq, and_true, true_and] at h'
    obtain ⟨rfl, rfl⟩ := h'
    refine ⟨by rw [cellsOf_length, hn], .inr ⟨g, cap, cur, rfl, hb, hg, by omega, hcm, hcs, ?_⟩⟩
    have hx : (cellsOf (t ++ [x])).take (n * 4) = cellsOf t := by
      rw [cellsOf_append, List.take_append_of_le_length (by rw [cellsOf_length, hn]; exact Nat.le_refl _), List.take_of_length_le (by rw [cellsOf_length, hn]; exact Nat.le_refl _)]
    rw [← hx, ← htake, List.take_take]; congr 1; omega

/-- The last pass of a row of one's own. -/
theorem owns_last {w : World} {B e g cap n : Nat} {t : List Ps} {x : Ps} (h : w.ownsRow B e 4 (.slice (some ⟨g, 0, none⟩) (n + 1) cap) (n + 1) (cellsOf (t ++ [x]))) : g < w.heap.size ∧ Four w g (n * 4) x := by
  obtain ⟨hn, ao, cap', hv, -, -, hl⟩ := lie_of_owns h
  obtain ⟨rfl, -⟩ : some ⟨g, 0, none⟩ = ao ∧ cap = cap' := by simpa using hv
  obtain ⟨b, o, hbo, hb, hf⟩ := hl.at (i := n) (by omega)
  obtain ⟨rfl, rfl⟩ : g = b ∧ 0 = o := by simpa using hbo
  have e2 : (t ++ [x]).getD n Ps.nil = x := by
    have : n = t.length := by simp at hn; omega
    subst this; simp [List.getD]
  rw [e2, Nat.zero_add] at hf
  exact ⟨hb, hf⟩

theorem owns_add {w : World} {B e n : Nat} {v : Value} {t : List Ps} {x : Ps} (h : w.ownsRow B e 4 v n (cellsOf t ++ [.int .u8 x.y, .int .i64 x.n, .bool x.f, .int .u8 x.d])) : w.ownsRow B e 4 v n (cellsOf (t ++ [x])) := by
  rw [cellsOf_append]; exact h

theorem four_new (w : World) (y m : Int) (f : Bool) (d : Int) : Four (w.alloc (.cells #[.int .u8 y, .int .i64 m, .bool f, .int .u8 d] 56)) w.heap.size 0 ⟨y, m, f, d⟩ := by
  refine ⟨?_, ?_, ?_, ?_⟩ <;> go_simp

theorem owns_mono {w : World} {B B' e n : Nat} {v : Value} {xs : List Value} (h : w.ownsRow B e 4 v n xs) (hB : B' ≤ B) : w.ownsRow B' e 4 v n xs := by
  refine ⟨h.1, ?_⟩
  rcases h.2 with h' | ⟨g, cap, cur, hv, hb, hx⟩
  · exact .inl h'
  · exact .inr ⟨g, cap, cur, hv, Nat.le_trans hB hb, hx⟩

theorem new4 (w : World) (y m : Int) (f : Bool) (d : Int) : ∀ j u, [Value.int .u8 y, .int .i64 m, .bool f, .int .u8 d][j]? = some u → (w.alloc (.cells #[.int .u8 y, .int .i64 m, .bool f, .int .u8 d] 56)).cell? ((⟨w.heap.size, 0, none⟩ : Addr).add j) = some u := by
  intro j u hj
  obtain ⟨c0, c1, c2, c3⟩ := four_new w y m f d
  have e : (⟨w.heap.size, 0, none⟩ : Addr).add j = ⟨w.heap.size, 0 + j, none⟩ := Addr.add_lit ..
  rw [e, Nat.zero_add]
  match j, hj with
  | 0, hj => simp at hj; subst hj; exact c0
  | 1, hj => simp at hj; subst hj; exact c1
  | 2, hj => simp at hj; subst hj; exact c2
  | 3, hj => simp at hj; subst hj; exact c3
  | j + 4, hj => simp at hj
theorem one4 (y m : Int) (f : Bool) (d : Int) : ∀ u ∈ [Value.int .u8 y, .int .i64 m, .bool f, .int .u8 d], u.oneCell' = true := by
  intro u hu
  simp at hu
  rcases hu with rfl | rfl | rfl | rfl <;> rfl
theorem fold_take (ps s0 : List Ps) (k : Nat) (hk : k < ps.length) : (ps.take (k + 1)).foldl psh s0 = psh ((ps.take k).foldl psh s0) (ps.getD k Ps.nil) := by
  have e : ps.take (k + 1) = ps.take k ++ [ps.getD k Ps.nil] := by
    rw [List.take_succ_eq_append_getElem hk]; simp [List.getD, List.getElem?_eq_getElem hk]
  rw [e, List.foldl_append]; rfl

set_option maxRecDepth 10000 in
set_option maxHeartbeats 2000000 in
theorem behind_any (ao1 ao2 : Option Addr) (ps1 ps2 : List Ps) (n1 n2 cap1 cap2 : Nat) (w : World) (hn1 : n1 = ps1.length) (hn2 : n2 = ps2.length) (hm : 24 * (n1 + n2) ≤ 281474976710656) (h1 : Lie w ao1 ps1) (h2 : Lie w ao2 ps2) :
    Calls Try.prog 59 #[.slice ao1 n1 cap1, .slice ao2 n2 cap2] w fun e w' => Made w.heap.size w w' e (red (ps1 ++ ps2)) := by
  have HN1 := Lib.hid hn1
  have HN2 := Lib.hid hn2
  have HL1 := Lib.hid h1
  have HL2 := Lib.hid h2
  clear hn1 hn2 h1 h2
  have hmk := fun w => run_mk0 ((n1 : Int) + n2) (n1 + n2) (by omega) hm w
  obtain ⟨i0, hi, hz0, hz1, hz2⟩ := info_parts info33
  have HI := Lib.hid (And.intro hi hz1)
  clear hi hz0 hz1 hz2
  go_enter Try.func59, Try.ntmps59
  go_wp2_with fail
  clear hmk
  have own0 := World.ownsRow_made (base := w.heap.size) (e := 56) (size := 4) w (rowNew (n1 + n2)) (n1 + n2) (Nat.le_refl _) (by simp [maxLen]; omega) (rowNew_size _)
  obtain ⟨W0, hW0⟩ : ∃ W0 : World, W0 = w.alloc (.cells (rowNew (n1 + n2)) 56) := ⟨_, rfl⟩
  rw [← hW0] at own0 ⊢
  have B0 : Below w.heap.size w W0 := by rw [hW0]; exact below1 _ _
  clear hW0
  have hrm : n1 + n2 ≤ 11728124029610 := by omega
  go_loopg [6, 22] 3 (fun g v i wr => ∃ j : Nat, j ≤ 2 ∧ g = 3 - j ∧ i = .int .i64 j ∧ ∃ s : List Ps, ∃ k : Nat, v = .slice (some ⟨w.heap.size, 0, none⟩) k (n1 + n2) ∧ Hid (k = s.length ∧ k ≤ (if j = 0 then 0 else if j = 1 then n1 else n1 + n2) ∧
    s = red (if j = 0 then [] else if j = 1 then ps1 else ps1 ++ ps2) ∧ wr.ownsRow w.heap.size 56 4 (.slice (some ⟨w.heap.size, 0, none⟩) k (n1 + n2)) k (cellsOf s)) ∧ Below w.heap.size w wr)
  case atStart => exact ⟨0, by omega, rfl, rfl, [], 0, rfl, ⟨rfl, Nat.le_refl _, rfl, own0⟩, B0⟩
  case round =>
    obtain ⟨j, hj, hg, rfl, s0, k0, rfl, HS, hb⟩ := hrel
    have HM := Lib.hid hg
    clear hg own0
    obtain ⟨go, rfl⟩ : ∃ go : Nat, go = gk := ⟨_, rfl⟩
    obtain ⟨wo, rfl⟩ : ∃ wo : World, wo = wr := ⟨_, rfl⟩
    by_cases hlt : j < 2
    · have hjd : decide ((j : Int) < 2) = true := by simp; omega
      obtain ⟨ao, n, cap, ps, pj, hij, hx⟩ : ∃ ao n cap ps pj, (∀ w, (Instr.index 112 (.agg #[.slice ao1 n1 cap1, .slice ao2 n2 cap2]) (.int .i64 j)).run Try.prog w = .ok (.slice ao n cap) w) ∧
          (n = ps.length ∧ Lie w ao ps ∧ k0 ≤ pj ∧ pj + n ≤ n1 + n2 ∧ pj + n = (if j + 1 = 0 then 0 else if j + 1 = 1 then n1 else n1 + n2) ∧ ps.foldl psh s0 = red (if j + 1 = 0 then [] else if j + 1 = 1 then ps1 else ps1 ++ ps2)) := by
        have hs := HS.out
        obtain rfl | rfl : j = 0 ∨ j = 1 := by omega
        · refine ⟨ao1, n1, cap1, ps1, 0, fun _ => by kernel_rfl, HN1.out, HL1.out, by simpa using hs.2.1, by omega, by simp, ?_⟩
          rw [hs.2.2.1]; simp [red]
        · refine ⟨ao2, n2, cap2, ps2, n1, fun _ => by kernel_rfl, HN2.out, HL2.out, by simpa using hs.2.1, by omega, by simp, ?_⟩
          rw [hs.2.2.1]; simp [red]
      have HX := Lib.hid hx
      have hnr : n ≤ n1 + n2 := by omega
      clear hx
      go_wp2_with fail
      clear hij
      go_loopg [6, 27] (n + 1) (fun g v i wr => ∃ k : Nat, k ≤ n ∧ g = n + 1 - k ∧ i = .int .i64 k ∧ ∃ s : List Ps, ∃ q : Nat, v = .slice (some ⟨w.heap.size, 0, none⟩) q (n1 + n2) ∧ Hid (q = s.length ∧ q ≤ pj + k ∧
        s = (ps.take k).foldl psh s0 ∧ wr.ownsRow w.heap.size 56 4 (.slice (some ⟨w.heap.size, 0, none⟩) q (n1 + n2)) q (cellsOf s)) ∧ Below w.heap.size w wr)
      case atStart => exact ⟨0, by omega, rfl, rfl, s0, k0, rfl, ⟨HS.out.1, HX.out.2.2.1, by simp, HS.out.2.2.2⟩, hb⟩
      case round =>
        obtain ⟨k, hk, hg, rfl, s, q, rfl, HT, hb2⟩ := hrel
        have HM2 := Lib.hid hg
        clear hg
        have hsz := hb2.size
        obtain ⟨q1, q2, q3, hown⟩ := HT.out
        have HQ := Lib.hid (And.intro q1 q3)
        have HO := Lib.hid hown
        have hql : q ≤ n1 + n2 := by have := HX.out.2.2.2.1; omega
        have hqk : k < n → q + 1 ≤ n1 + n2 := fun _ => by have := HX.out.2.2.2.1; omega
        have HPJ := Lib.hid q2
        clear q1 q2 q3 hown HT
        by_cases hlt2 : k < n
        · have hqr := hqk hlt2
          clear hqk
          obtain ⟨b, o, rfl, hbb, hf⟩ := Lie.at (HX.out.2.1.below hb2) (i := k) (by rw [← HX.out.1]; exact hlt2)
          obtain ⟨p, hp⟩ : ∃ p, p = ps.getD k Ps.nil := ⟨_, rfl⟩
          rw [← hp] at hf
          have HP := Lib.hid hp
          clear hp
          obtain ⟨y, m, f, d⟩ := p
          have hfw := hf
          obtain ⟨c0, c1, c2, c3⟩ := hf
          simp only at c0 c1 c2 c3
          rcases list_last s with rfl | ⟨t, x, rfl⟩
          · obtain rfl : q = 0 := HQ.out.1
            go_wp2_with fail
            obtain ⟨W1, hW1⟩ : ∃ W1 : World, W1 = wr.alloc (.cells #[.int .u8 y, .int .i64 m, .bool f, .int .u8 d] 56) := ⟨_, rfl⟩
            rw [← hW1]
            have hf1 : Four W1 wr.heap.size 0 ⟨y, m, f, d⟩ := by rw [hW1]; exact four_new _ _ _ _ _
            have hO1 : W1.ownsRow w.heap.size 56 4 (.slice (some ⟨w.heap.size, 0, none⟩) 0 (n1 + n2)) 0 (cellsOf []) := by rw [hW1]; exact HO.out.alloc _
            have hbW : Below w.heap.size w W1 := by rw [hW1]; exact hb2.alloc hsz _
            have hz1 : W1.heap.size = wr.heap.size + 1 := by rw [hW1]; simp
            clear hW1
            refine wp_region_quiet_below (by kernel_rfl) (by kernel_rfl) ?_
            repeat (quiet_step (fail))
            rintro w2 ⟨⟨dq, osq⟩, rfl⟩
            have hbV : Below w.heap.size w (grow (redrawn W1 dq) osq) := hbW.trans ((below_regrown W1 dq osq).mono (by omega))
            have hOV := owns_below hO1 (below_regrown W1 dq osq)
            have hfV := hf1.below (below_regrown W1 dq osq) (by omega)
            obtain ⟨V, hV⟩ : ∃ V : World, V = grow (redrawn W1 dq) osq := ⟨_, rfl⟩
            rw [← hV] at hbV hOV hfV ⊢
            have HOV := Lib.hid hOV
            have hzV := hbV.size
            obtain ⟨v0, v1, v2, v3⟩ := hfV
            simp only [Nat.zero_add] at v0 v1 v2 v3
            clear hV hOV hO1 hf1 hbW hz1 
            go_wp2_with (at_builtin; refine wpList_append_fits _ rfl _ _ 43 rfl w.heap.size 56 i0 4 Try.underlying43 HI.out.1 HI.out.2 w.heap.size 0 (n1 + n2) (cellsOf []) rfl (HOV.out.alloc _) ⟨V.heap.size, 0, none⟩ 1 1 [.int .u8 y, .int .i64 m, .bool f, .int .u8 d] rfl rfl (new4 _ _ _ _ _) (one4 _ _ _ _) (by omega) ?_)
            intro w4 hown4 hgrow4
            have HO4 := Lib.hid hown4
            have hb4 : Below w.heap.size w w4 := (hbV.alloc (by omega) _).grown hgrow4 (by simp; omega) (by rintro _ ⟨⟩; exact Nat.le_refl _)
            clear hown4 hgrow4
            go_wp2
            go_roundg (gk - 1)
            case measure => have := HM2.out; omega
            case rel =>
              refine ⟨k + 1, by omega, by have := HM2.out; omega, by go_num, [] ++ [⟨y, m, f, d⟩], 0 + 1, rfl, ⟨by rw [HQ.out.1]; simp, by have := HPJ.out; omega, ?_, owns_add HO4.out⟩, hb4⟩
              rw [fold_take _ _ _ (by rw [← HX.out.1]; exact hlt2), ← HQ.out.2, ← HP.out]
              exact (psh_nil _).symm
          · obtain ⟨q', rfl⟩ : ∃ q', q = q' + 1 := ⟨t.length, by rw [HQ.out.1]; simp⟩
            obtain ⟨yx, mx, fx, dx⟩ := x
            go_wp2_with fail
            obtain ⟨W1, hW1⟩ : ∃ W1 : World, W1 = wr.alloc (.cells #[.int .u8 y, .int .i64 m, .bool f, .int .u8 d] 56) := ⟨_, rfl⟩
            rw [← hW1]
            have hf1 : Four W1 wr.heap.size 0 ⟨y, m, f, d⟩ := by rw [hW1]; exact four_new _ _ _ _ _
            have hO1 : W1.ownsRow w.heap.size 56 4 (.slice (some ⟨w.heap.size, 0, none⟩) (q' + 1) (n1 + n2)) (q' + 1) (cellsOf (t ++ [⟨yx, mx, fx, dx⟩])) := by rw [hW1]; exact HO.out.alloc _
            have hbW : Below w.heap.size w W1 := by rw [hW1]; exact hb2.alloc hsz _
            have hz1 : W1.heap.size = wr.heap.size + 1 := by rw [hW1]; simp
            clear hW1
            obtain ⟨hgz, hfx⟩ := owns_last hO1
            obtain ⟨g0, g1, g2, g3⟩ := hfx.regrown
            obtain ⟨g4, g5, g6, g7⟩ := hf1.regrown
            simp only [Nat.zero_add] at g4 g5 g6 g7
            have gd : decide ((0 : Int) ≤ (q' : Int)) = true := by simp
            have gn : (0 : Int) ≤ (q' : Int) := by omega
            have gl : (q' : Int) < (q' : Int) + 1 := by omega
            obtain ⟨c, hc⟩ : ∃ c, canc ⟨yx, mx, fx, dx⟩ ⟨y, m, f, d⟩ = c := ⟨_, rfl⟩
            have K1 := Lib.hid (cancel_regrown hc W1)
            have HC := Lib.hid hc
            clear hc hfx
            refine wp_region_quiet_below (by kernel_rfl) (by kernel_rfl) ?_
            repeat (quiet_step (exact K1.out _ _))
            rintro w2 ⟨⟨dq, osq⟩, rfl⟩
            have hbV : Below w.heap.size w (grow (redrawn W1 dq) osq) := hbW.trans ((below_regrown W1 dq osq).mono (by omega))
            have hOV := owns_below hO1 (below_regrown W1 dq osq)
            have hfV := hf1.below (below_regrown W1 dq osq) (by omega)
            obtain ⟨V, hV⟩ : ∃ V : World, V = grow (redrawn W1 dq) osq := ⟨_, rfl⟩
            rw [← hV] at hbV hOV hfV ⊢
            have HOV := Lib.hid hOV
            have hzV := hbV.size
            obtain ⟨v0, v1, v2, v3⟩ := hfV
            simp only [Nat.zero_add] at v0 v1 v2 v3
            clear hV hOV hO1 hf1 hbW hz1 g0 g1 g2 g3 g4 g5 g6 g7 gd gn gl K1
            cases c
            · go_wp2_with (at_builtin; refine wpList_append_fits _ rfl _ _ 43 rfl w.heap.size 56 i0 4 Try.underlying43 HI.out.1 HI.out.2 w.heap.size (q' + 1) (n1 + n2) (cellsOf (t ++ [⟨yx, mx, fx, dx⟩])) rfl (HOV.out.alloc _) ⟨V.heap.size, 0, none⟩ 1 1 [.int .u8 y, .int .i64 m, .bool f, .int .u8 d] rfl rfl (new4 _ _ _ _ _) (one4 _ _ _ _) (by omega) ?_)
              intro w4 hown4 hgrow4
              have HO4 := Lib.hid hown4
              have hb4 : Below w.heap.size w w4 := (hbV.alloc (by omega) _).grown hgrow4 (by simp; omega) (by rintro _ ⟨⟩; exact Nat.le_refl _)
              clear hown4 hgrow4
              go_wp2
              go_roundg (gk - 1)
              case measure => have := HM2.out; omega
              case rel =>
                refine ⟨k + 1, by omega, by have := HM2.out; omega, by go_num, (t ++ [⟨yx, mx, fx, dx⟩]) ++ [⟨y, m, f, d⟩], (q' + 1) + 1, rfl, ⟨by rw [HQ.out.1]; simp, by have := HPJ.out; omega, ?_, owns_add HO4.out⟩, hb4⟩
                rw [fold_take _ _ _ (by rw [← HX.out.1]; exact hlt2), ← HQ.out.2, ← HP.out]
                exact (psh_no HC.out).symm
            · have gm : ¬ (n1 + n2 = 0) := by omega
              go_wp2
              go_roundg (gk - 1)
              case measure => have := HM2.out; omega
              case rel =>
                refine ⟨k + 1, by omega, by have := HM2.out; omega, by go_num, t, q', rfl, ⟨by have := HQ.out.1; simp at this; omega, by have := HPJ.out; omega, ?_, owns_pop HOV.out⟩, hbV⟩
                rw [fold_take _ _ _ (by rw [← HX.out.1]; exact hlt2), ← HQ.out.2, ← HP.out]
                exact (psh_yes HC.out).symm
        · obtain rfl : k = n := by omega
          clear hqk
          go_wp2
          go_roundg (go - 1)
          case measure => have := HM.out; omega
          case rel =>
            refine ⟨j + 1, by omega, by have := HM.out; omega, by go_num, s, q, rfl, ⟨HQ.out.1, ?_, ?_, HO.out⟩, hb2⟩
            · rw [← HX.out.2.2.2.2.1]; exact HPJ.out
            · rw [← HX.out.2.2.2.2.2, HQ.out.2, HX.out.1, List.take_length]
    · have e2 : j = 2 := by omega
      subst e2
      have hs := HS.out
      simp only [if_neg (show ¬ (2 : Nat) = 0 by omega), if_neg (show ¬ (2 : Nat) = 1 by omega)] at hs
      obtain ⟨r1, r2, r3, r4⟩ := hs
      have HR := Lib.hid r3
      obtain ⟨hn, ao, cp, hv, -, -, hl⟩ := lie_of_owns r4
      obtain ⟨rfl, rfl⟩ : some ⟨w.heap.size, 0, none⟩ = ao ∧ n1 + n2 = cp := by simpa using hv
      have HF := Lib.hid (copied_any (some ⟨w.heap.size, 0, none⟩) s0 k0 (n1 + n2) wo r1 (by omega) hl)
      have hsz := hb.size
      clear r1 r2 r4 hn hv hl
      go_wp2_with (go_at_call 66; refine HF.out.mono ?_; rintro e w3 ⟨bo, rfl, ho, hb3⟩; refine Hid.out ?_)
      have HO := Lib.hid ho
      clear ho
      refine Lib.hid ?_
      go_wp2_with fail
      go_ret
      subst r3
      exact ⟨bo, rfl, owns_mono HO.out hsz, hb.trans (hb3.mono hsz)⟩

theorem reduce_any (ao : Option Addr) (ps : List Ps) (n cap : Nat) (w : World) (hn : n = ps.length) (hm : 24 * n ≤ 281474976710656) (h : Lie w ao ps) :
    Calls Try.prog 45 #[.slice ao n cap] w fun e w' => Made w.heap.size w w' e (red ps) := by
  have K := Lib.hid (behind_any none ao [] ps 0 n 0 cap w rfl hn (by omega) (Lie.nil _ _) h)
  clear hn h
  go_enter Try.func45, Try.ntmps45
  go_wp2_with (go_at_call 59; refine K.out.mono ?_; rintro e w3 ⟨bo, rfl, ho, hb3⟩; refine Hid.out ?_)
  have HO := Lib.hid ho
  clear ho
  refine Lib.hid ?_
  go_wp2_with fail
  go_ret
  exact ⟨bo, rfl, HO.out, hb3⟩

end Go.Proofs.Ytgaofkbmnapogaa.Ya
