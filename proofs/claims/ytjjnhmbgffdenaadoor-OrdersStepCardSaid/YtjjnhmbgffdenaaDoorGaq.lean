import Derived.Test.YtjjnhmbgffdenaaDoorGap
import Derived.WalkKit
import Derived.WalkSpells
import Derived.WalkLawsBesides
import Derived.Lib.Hide
import Derived.Lib.QuietBelow
import Derived.BigQuiet
import Derived.Deep.LoopGhost
import Derived.Outline
import Derived.Laws.CopyOwn
import Derived.Deep.OwnRows
namespace Go.Proofs.YtjjnhmbgffdenaaDoor
open Go.RowKit Go.Sort
/-- Crossings done one after the other, each of neighbours: they lead from one list to another. -/
def Sw (d : Int) : List Hd → List Cx → List Hd → Prop
  | l, [], l' => l = l'
  | l, c :: cs, l' => ∃ P x y S, l = P ++ x :: y :: S ∧ c = ⟨x.id, y.id, if d = 1 then -1 else 1⟩ ∧ (x.b = if d = 1 then 1 else 0) ∧ (y.b = if d = 1 then 0 else 1) ∧ Sw d (P ++ y :: x :: S) cs l'
theorem Sw.append {d : Int} : ∀ {cs cs' : List Cx} {l l' l'' : List Hd}, Sw d l cs l' → Sw d l' cs' l'' → Sw d l (cs ++ cs') l''
  | [], _, _, _, _, h, h' => by cases h; exact h'
  | c :: cs, _, _, _, _, ⟨P, x, y, S, h1, h2, h3, h4, h5⟩, h' => ⟨P, x, y, S, h1, h2, h3, h4, h5.append h'⟩
theorem Sw.ctx {d : Int} (A B : List Hd) : ∀ {cs : List Cx} {l l' : List Hd}, Sw d l cs l' → Sw d (A ++ l ++ B) cs (A ++ l' ++ B)
  | [], _, _, h => by cases h; exact rfl
  | c :: cs, _, _, ⟨P, x, y, S, h1, h2, h3, h4, h5⟩ => by
    refine ⟨A ++ P, x, y, S ++ B, by rw [h1]; simp, h2, h3, h4, ?_⟩
    have := h5.ctx A B
    simpa using this
theorem Sw.perm {d : Int} : ∀ {cs : List Cx} {l l' : List Hd}, Sw d l cs l' → l.Perm l'
  | [], _, _, h => by cases h; exact List.Perm.refl _
  | c :: cs, _, _, ⟨P, x, y, S, h1, h2, h3, h4, h5⟩ => by
    rw [h1]
    exact ((List.Perm.swap y x S).append_left P).trans h5.perm
theorem Sw.len {d : Int} {cs : List Cx} {l l' : List Hd} (h : Sw d l cs l') : l'.length = l.length := h.perm.length_eq.symm
/-- One loop passes a list to the right. -/
theorem sw_one_right (x : Hd) (hx : x.b = 1) : ∀ (Y : List Hd), (∀ y ∈ Y, y.b = 0) → Sw 1 (x :: Y) (Y.map fun y => crossM x.id y.id 1) (Y ++ [x])
  | [], _ => rfl
  | y :: Y, h => by
    refine ⟨[], x, y, Y, rfl, rfl, hx, h y (by simp), ?_⟩
    have := (sw_one_right x hx Y fun z hz => h z (by simp [hz])).ctx [y] []
    simpa using this
theorem sw_blk_right (Y : List Hd) (hY : ∀ y ∈ Y, y.b = 0) : ∀ (X : List Hd), (∀ x ∈ X, x.b = 1) → Sw 1 (X ++ Y) (X.reverse.flatMap fun x => Y.map fun y => crossM x.id y.id 1) (Y ++ X)
  | [], _ => by
    rw [List.append_nil]
    exact (rfl : Y = Y)
  | x :: X, h => by
    rw [List.reverse_cons, List.flatMap_append, List.flatMap_singleton]
    have h1 := (sw_blk_right Y hY X fun z hz => h z (by simp [hz])).ctx [x] []
    have h2 := (sw_one_right x (h x (by simp)) Y hY).ctx [] X
    simp only [List.append_nil, List.nil_append, List.singleton_append, List.cons_append, List.append_assoc] at h1 h2
    exact h1.append h2
/-- One loop is passed by a list: it goes to the left. -/
theorem sw_one_left (y : Hd) (hy : y.b = 1) : ∀ (X : List Hd), (∀ x ∈ X, x.b = 0) → Sw 0 (X ++ [y]) (X.reverse.map fun x => crossM y.id x.id 0) (y :: X)
  | [], _ => rfl
  | x :: X, h => by
    rw [List.reverse_cons, List.map_append]
    have h1 := (sw_one_left y hy X fun z hz => h z (by simp [hz])).ctx [x] []
    simp only [List.append_nil, List.singleton_append, List.cons_append] at h1
    refine h1.append ?_
    exact ⟨[], x, y, X, rfl, rfl, h x (by simp), hy, rfl⟩
theorem sw_blk_left (X : List Hd) (hX : ∀ x ∈ X, x.b = 0) : ∀ (Y : List Hd), (∀ y ∈ Y, y.b = 1) → Sw 0 (X ++ Y) (Y.flatMap fun y => X.reverse.map fun x => crossM y.id x.id 0) (Y ++ X)
  | [], _ => by
    rw [List.append_nil]
    exact (rfl : X = X)
  | y :: Y, h => by
    rw [List.flatMap_cons]
    have h1 := (sw_one_left y (h y (by simp)) X hX).ctx [] Y
    have h2 := (sw_blk_left X hX Y fun z hz => h z (by simp [hz])).ctx [y] []
    simp only [List.append_nil, List.nil_append, List.singleton_append, List.cons_append, List.append_assoc] at h1 h2
    exact h1.append h2
/-- Blocks side by side. -/
def blks (X Y : Nat → List Hd) (n : Nat) : List Hd := (List.range n).flatMap fun j => X j ++ Y j
theorem blks_succ (X Y : Nat → List Hd) (n : Nat) : blks X Y (n + 1) = blks X Y n ++ (X n ++ Y n) := by
  unfold blks
  rw [List.range_succ, List.flatMap_append]
  simp
theorem sw_right (X Y : Nat → List Hd) (f : Hd → List Cx) (hX : ∀ j, ∀ x ∈ X j, x.b = 1) (hY : ∀ j, ∀ y ∈ Y j, y.b = 0) (hf : ∀ j, ∀ x ∈ X j, f x = (Y j).map fun y => crossM x.id y.id 1) :
    ∀ n, Sw 1 (blks X Y n) (((List.range n).flatMap X).reverse.flatMap f) (blks Y X n)
  | 0 => rfl
  | n + 1 => by
    rw [blks_succ, blks_succ, List.range_succ, List.flatMap_append, List.reverse_append, List.flatMap_append, List.flatMap_singleton]
    have h1 := (sw_blk_right (Y n) (hY n) (X n) (hX n)).ctx (blks X Y n) []
    have h2 := (sw_right X Y f hX hY hf n).ctx [] (Y n ++ X n)
    have e : (X n).reverse.flatMap f = (X n).reverse.flatMap fun x => (Y n).map fun y => crossM x.id y.id 1 := flat_congr' fun x hx => hf n x (List.mem_reverse.1 hx)
    rw [e]
    simp only [List.append_nil, List.nil_append] at h1 h2
    exact h1.append h2
theorem sw_left (X Y : Nat → List Hd) (f : Hd → List Cx) (hX : ∀ j, ∀ x ∈ X j, x.b = 0) (hY : ∀ j, ∀ y ∈ Y j, y.b = 1) (hf : ∀ j, ∀ y ∈ Y j, f y = (X j).reverse.map fun x => crossM y.id x.id 0) :
    ∀ n, Sw 0 (blks X Y n) (((List.range n).flatMap Y).flatMap f) (blks Y X n)
  | 0 => rfl
  | n + 1 => by
    rw [blks_succ, blks_succ, List.range_succ, List.flatMap_append, List.flatMap_append, List.flatMap_singleton]
    have h1 := (sw_left X Y f hX hY hf n).ctx [] (X n ++ Y n)
    have h2 := (sw_blk_left (X n) (hX n) (Y n) (hY n)).ctx (blks Y X n) []
    have e : (Y n).flatMap f = (Y n).flatMap fun y => (X n).reverse.map fun x => crossM y.id x.id 0 := flat_congr' fun y hy => hf n y hy
    rw [e]
    simp only [List.append_nil, List.nil_append] at h1 h2
    exact h1.append h2
/-- What stands at a spot. -/
theorem spH_f {r : Int} (hr : okR r = true) {i : Nat} (hi : i < 40) : spH r i = 4 * ((i : Int) + 1) + 2 := by
  unfold spH
  have e1 : i / 40 = 0 := by omega
  have e2 : i % 40 = i := by omega
  rw [e1, e2]
  have hn : isN ((0 : Nat) : Int) ((i : Int) + 1) = true := isN_mk (by omega)
  unfold spotM
  rw [if_pos ⟨hn, hr⟩, if_neg (by decide)]
theorem spH_b {r : Int} (hr : okR r = true) {i : Nat} (hi : 40 ≤ i ∧ i < 80) : spH r i = 4 * ((i : Int) - 39 + r) := by
  unfold spH
  have e1 : i / 40 = 1 := by omega
  have e2 : ((i % 40 : Nat) : Int) + 1 = (i : Int) - 39 := by omega
  rw [e1, e2]
  have hn : isN ((1 : Nat) : Int) ((i : Int) - 39) = true := isN_mk (by omega)
  unfold spotM
  rw [if_pos ⟨hn, hr⟩, if_pos (by decide)]
theorem row_of {T : List (List Nm)} {r s : Int} {i : Nat} (hi : i < 80) (h : spH r i = s) (hu : ∀ k, k < 80 → spH r k = s → k = i) : rowH T r s 80 = elH T r i := by
  have e := flat_one (f := selH T r s) (l := List.range 80) (a := i) List.nodup_range (List.mem_range.2 hi) (fun y hy hne => by
    unfold selH
    rw [if_neg]
    exact fun h' => hne (hu y (List.mem_range.1 hy) h'))
  unfold rowH
  rw [e]
  unfold selH
  rw [if_pos h]
theorem row_no {T : List (List Nm)} {r s : Int} (hu : ∀ k, k < 80 → spH r k ≠ s) : rowH T r s 80 = [] := by
  unfold rowH
  rw [List.flatMap_eq_nil_iff]
  intro y hy
  unfold selH
  rw [if_neg (hu y (List.mem_range.1 hy))]
theorem spH_any {r : Int} (hr : okR r = true) {k : Nat} (hk : k < 80) : (k < 40 ∧ spH r k = 4 * ((k : Int) + 1) + 2) ∨ (40 ≤ k ∧ spH r k = 4 * ((k : Int) - 39 + r)) := by
  by_cases h : k < 40
  · exact .inl ⟨h, spH_f hr h⟩
  · exact .inr ⟨by omega, spH_b hr ⟨by omega, hk⟩⟩
/-- Front loops of a position. -/
def fr (T : List (List Nm)) (r a : Int) : List Hd := if 1 ≤ a ∧ a ≤ 40 then elH T r (a - 1).toNat else []
/-- Back loops of a needle. -/
def bk (T : List (List Nm)) (r a : Int) : List Hd := if 1 ≤ a ∧ a ≤ 40 then elH T r (39 + a).toNat else []
theorem row_fr (T : List (List Nm)) {r : Int} (hr : okR r = true) (a : Int) : rowH T r (4 * a + 2) 80 = fr T r a := by
  unfold fr
  by_cases h : 1 ≤ a ∧ a ≤ 40
  · rw [if_pos h]
    refine row_of (by omega) ?_ fun k hk h' => ?_
    · rw [spH_f hr (by omega)]; omega
    · rcases spH_any hr hk with ⟨_, e⟩ | ⟨_, e⟩ <;> omega
  · rw [if_neg h]
    refine row_no fun k hk h' => ?_
    rcases spH_any hr hk with ⟨_, e⟩ | ⟨_, e⟩ <;> omega
theorem row_bk (T : List (List Nm)) {r : Int} (hr : okR r = true) (p : Int) : rowH T r (4 * p) 80 = bk T r (p - r) := by
  unfold bk
  by_cases h : 1 ≤ p - r ∧ p - r ≤ 40
  · rw [if_pos h]
    refine row_of (by omega) ?_ fun k hk h' => ?_
    · rw [spH_b hr (by omega)]; omega
    · rcases spH_any hr hk with ⟨_, e⟩ | ⟨_, e⟩ <;> omega
  · rw [if_neg h]
    refine row_no fun k hk h' => ?_
    rcases spH_any hr hk with ⟨_, e⟩ | ⟨_, e⟩ <;> omega
theorem fr_b {T : List (List Nm)} {r a : Int} {x : Hd} (h : x ∈ fr T r a) : x.b = 0 := by
  unfold fr at h
  split at h
  · unfold elH at h
    obtain ⟨p, _, rfl⟩ := List.mem_map.1 h
    simp only
    omega
  · cases h
theorem bk_b {T : List (List Nm)} {r a : Int} {x : Hd} (h : x ∈ bk T r a) : x.b = 1 ∧ x.a = a := by
  unfold bk at h
  split at h
  · unfold elH at h
    obtain ⟨p, _, rfl⟩ := List.mem_map.1 h
    simp only
    omega
  · cases h
theorem el_ids (T : List (List Nm)) (r : Int) (j : Nat) : (elH T r j).map (·.id) = T.getD j [] := by
  unfold elH
  rw [List.map_map]
  have : (T.getD j []).map ((fun h : Hd => h.id) ∘ fun p => (⟨p, ((j / 40 : Nat) : Int), ((j % 40 : Nat) : Int) + 1, spotM ((j / 40 : Nat) : Int) (((j % 40 : Nat) : Int) + 1) r⟩ : Hd)) = (T.getD j []).map id := List.map_congr_left fun p _ => rfl
  rw [this, List.map_id]
theorem fr_ids (T : List (List Nm)) (r a : Int) : (fr T r a).map (·.id) = frontM T a := by
  unfold fr frontM
  split
  · exact el_ids _ _ _
  · rfl
theorem bk_ids (T : List (List Nm)) (r r' a : Int) : (bk T r a).map (·.id) = (bk T r' a).map (·.id) := by
  unfold bk
  split
  · rw [el_ids, el_ids]
  · rfl
theorem fr_ids' (T : List (List Nm)) (r r' a : Int) : (fr T r a).map (·.id) = (fr T r' a).map (·.id) := by rw [fr_ids, fr_ids]
theorem crs_one (T : List (List Nm)) (r : Int) {x : Hd} {a : Int} (h : x.a + r = a) : crs T r 1 x = (fr T r a).map fun y => crossM x.id y.id 1 := by
  unfold crs
  have e : toF x.a r 1 = a := by unfold toF; rw [if_pos rfl]; omega
  rw [if_neg (by decide), e, ← fr_ids T r a, List.map_map]
  rfl
theorem crs_zero (T : List (List Nm)) (r : Int) {x : Hd} {a : Int} (h : x.a + r - 1 = a) : crs T r 0 x = (fr T r a).reverse.map fun y => crossM x.id y.id 0 := by
  unfold crs
  have e : toF x.a r 0 = a := by unfold toF; rw [if_neg (by decide)]; omega
  rw [if_pos rfl, e, ← fr_ids T r a, ← List.map_reverse, List.map_map]
  rfl
/-- The list, as blocks of a back needle and the front needle behind it. -/
theorem lst_right (T : List (List Nm)) {r : Int} (hr : okR r = true) : ∀ n : Nat, lstH T r (2 * n) = blks (fun j => bk T r ((j : Int) - 3 - r)) (fun j => fr T r ((j : Int) - 3)) n
  | 0 => rfl
  | n + 1 => by
    rw [blks_succ, ← lst_right T hr n, show 2 * (n + 1) = 2 * n + 1 + 1 by omega, lstH_succ, lstH_succ, List.append_assoc]
    have e1 : (-12 + 2 * ((2 * n : Nat) : Int)) = 4 * ((n : Int) - 3) := by omega
    have e2 : (-12 + 2 * ((2 * n + 1 : Nat) : Int)) = 4 * ((n : Int) - 3) + 2 := by omega
    rw [e1, e2, row_bk T hr, row_fr T hr]
/-- The list, as blocks of a front needle and the back needle behind it. -/
theorem lst_left (T : List (List Nm)) {r : Int} (hr : okR r = true) : ∀ n : Nat, lstH T r (2 * n + 1) = blks (fun j => fr T r ((j : Int) - 4)) (fun j => bk T r ((j : Int) - 3 - r)) (n + 1)
  | 0 => by
    rw [blks_succ, show 2 * 0 + 1 = 0 + 1 by omega, lstH_succ]
    have e1 : (-12 + 2 * ((0 : Nat) : Int)) = 4 * (((0 : Nat) : Int) - 3) := by omega
    rw [e1, row_bk T hr]
    have e2 : fr T r (((0 : Nat) : Int) - 4) = [] := by unfold fr; rw [if_neg (by omega)]
    rw [e2]
    rfl
  | n + 1 => by
    rw [blks_succ, ← lst_left T hr n, show 2 * (n + 1) + 1 = 2 * n + 1 + 1 + 1 by omega, lstH_succ, lstH_succ, List.append_assoc]
    have e1 : (-12 + 2 * ((2 * n + 1 : Nat) : Int)) = 4 * (((n + 1 : Nat) : Int) - 4) + 2 := by omega
    have e2 : (-12 + 2 * ((2 * n + 1 + 1 : Nat) : Int)) = 4 * (((n + 1 : Nat) : Int) - 3) := by omega
    rw [e1, e2, row_bk T hr, row_fr T hr]
theorem lst95 (T : List (List Nm)) {r : Int} (hr : okR r = true) : lstH T r 95 = blks (fun j => bk T r ((j : Int) - 3 - r)) (fun j => fr T r ((j : Int) - 3)) 48 := by
  have e3 := lst_right T hr 48
  rw [show 2 * 48 = 95 + 1 by omega] at e3
  rw [← e3, lstH_succ T r 95]
  have e1 : (-12 + 2 * ((95 : Nat) : Int)) = 4 * 44 + 2 := by omega
  have e2 : fr T r 44 = [] := by unfold fr; rw [if_neg (by omega)]
  rw [e1, row_fr T hr, e2, List.append_nil]
theorem lst95' (T : List (List Nm)) {r : Int} (hr : okR r = true) : lstH T r 95 = blks (fun j => fr T r ((j : Int) - 4)) (fun j => bk T r ((j : Int) - 3 - r)) 48 := lst_left T hr 47
theorem backs_app (a b : List Hd) : backs (a ++ b) = backs a ++ backs b := by unfold backs; rw [List.filter_append]
theorem backs_all {l : List Hd} (h : ∀ x ∈ l, x.b = 1) : backs l = l := by
  unfold backs
  rw [List.filter_eq_self]
  exact fun x hx => decide_eq_true (h x hx)
theorem backs_no {l : List Hd} (h : ∀ x ∈ l, x.b = 0) : backs l = [] := by
  unfold backs
  rw [List.filter_eq_nil_iff]
  intro x hx h'
  have := of_decide_eq_true h'
  rw [h x hx] at this
  exact absurd this (by decide)
theorem backs_blks (X Y : Nat → List Hd) (hX : ∀ j, ∀ x ∈ X j, x.b = 1) (hY : ∀ j, ∀ y ∈ Y j, y.b = 0) : ∀ n, backs (blks X Y n) = (List.range n).flatMap X
  | 0 => rfl
  | n + 1 => by
    rw [blks_succ, backs_app, backs_app, backs_blks X Y hX hY n, backs_all (hX n), backs_no (hY n), List.range_succ, List.flatMap_append, List.append_nil]
    simp
theorem backs_blks' (X Y : Nat → List Hd) (hX : ∀ j, ∀ x ∈ X j, x.b = 0) (hY : ∀ j, ∀ y ∈ Y j, y.b = 1) : ∀ n, backs (blks X Y n) = (List.range n).flatMap Y
  | 0 => rfl
  | n + 1 => by
    rw [blks_succ, backs_app, backs_app, backs_blks' X Y hX hY n, backs_all (hY n), backs_no (hX n), List.range_succ, List.flatMap_append, List.nil_append]
    simp
/-- Blocks exchanged, by names: the same from the next block on. -/
theorem blks_shift (X Y X' Y' : Nat → List Hd) (hX : ∀ j, (X' (j + 1)).map (·.id) = (X j).map (·.id)) (hY : ∀ j, (Y' j).map (·.id) = (Y j).map (·.id)) (h0 : (X' 0).map (·.id) = []) :
    ∀ n, (blks Y X n).map (·.id) = (blks X' Y' n).map (·.id) ++ (X' n).map (·.id)
  | 0 => by rw [h0]; rfl
  | n + 1 => by
    rw [blks_succ, blks_succ, List.map_append, List.map_append, List.map_append, List.map_append, blks_shift X Y X' Y' hX hY h0 n, hX, hY]
    simp only [List.append_assoc]
theorem blks_shift' (X Y X' Y' : Nat → List Hd) (hY : ∀ j, (Y' j).map (·.id) = (Y (j + 1)).map (·.id)) (hX : ∀ j, (X' j).map (·.id) = (X j).map (·.id)) (h0 : (Y 0).map (·.id) = []) :
    ∀ n, (blks Y X n).map (·.id) ++ (Y n).map (·.id) = (blks X' Y' n).map (·.id)
  | 0 => by rw [h0]; rfl
  | n + 1 => by
    rw [blks_succ, blks_succ, List.map_append, List.map_append, List.map_append, List.map_append, ← blks_shift' X Y X' Y' hY hX h0 n, hX, hY]
    simp only [List.append_assoc]
theorem step_right (T : List (List Nm)) {r : Int} (hr : -4 ≤ r ∧ r ≤ 3) : ∃ l', Sw 1 (lstH T r 95) (stepM T r 1 (lstH T r 95)) l' ∧ l'.map (·.id) = (lstH T (r + 1) 95).map (·.id) := by
  have h1 : okR r = true := by unfold okR; simp; omega
  have h2 : okR (r + 1) = true := by unfold okR; simp; omega
  have e2 : stepM T r 1 (lstH T r 95) = (backs (lstH T r 95)).reverse.flatMap (crs T r 1) := rfl
  rw [e2, lst95 T h1, lst95 T h2, backs_blks _ _ (fun j x hx => (bk_b hx).1) (fun j y hy => fr_b hy)]
  refine ⟨_, sw_right _ _ _ (fun j x hx => (bk_b hx).1) (fun j y hy => fr_b hy) (fun j x hx => crs_one T r (by rw [(bk_b hx).2]; omega)) 48, ?_⟩
  have h3 := blks_shift (fun j => bk T r ((j : Int) - 3 - r)) (fun j => fr T r ((j : Int) - 3)) (fun j => bk T (r + 1) ((j : Int) - 3 - (r + 1))) (fun j => fr T (r + 1) ((j : Int) - 3))
    (fun j => by
      have : ((j + 1 : Nat) : Int) - 3 - (r + 1) = (j : Int) - 3 - r := by omega
      simp only [this]
      exact bk_ids _ _ _ _) (fun j => fr_ids' _ _ _ _) (by
      have : bk T (r + 1) (((0 : Nat) : Int) - 3 - (r + 1)) = [] := by unfold bk; rw [if_neg (by omega)]
      simp only [this]; rfl) 48
  rw [h3]
  have : bk T (r + 1) (((48 : Nat) : Int) - 3 - (r + 1)) = [] := by unfold bk; rw [if_neg (by omega)]
  simp only [this, List.map_nil, List.append_nil]
theorem step_left (T : List (List Nm)) {r : Int} (hr : -3 ≤ r ∧ r ≤ 4) : ∃ l', Sw 0 (lstH T r 95) (stepM T r 0 (lstH T r 95)) l' ∧ l'.map (·.id) = (lstH T (r - 1) 95).map (·.id) := by
  have h1 : okR r = true := by unfold okR; simp; omega
  have h2 : okR (r - 1) = true := by unfold okR; simp; omega
  have e2 : stepM T r 0 (lstH T r 95) = (backs (lstH T r 95)).flatMap (crs T r 0) := rfl
  rw [e2, lst95' T h1, lst95' T h2, backs_blks' _ _ (fun j y hy => fr_b hy) (fun j x hx => (bk_b hx).1)]
  refine ⟨_, sw_left _ _ _ (fun j y hy => fr_b hy) (fun j x hx => (bk_b hx).1) (fun j x hx => crs_zero T r (by rw [(bk_b hx).2]; omega)) 48, ?_⟩
  have h3 := blks_shift' (fun j => fr T r ((j : Int) - 4)) (fun j => bk T r ((j : Int) - 3 - r)) (fun j => fr T (r - 1) ((j : Int) - 4)) (fun j => bk T (r - 1) ((j : Int) - 3 - (r - 1)))
    (fun j => by
      have : ((j : Nat) : Int) - 3 - (r - 1) = ((j + 1 : Nat) : Int) - 3 - r := by omega
      simp only [this]
      exact bk_ids _ _ _ _) (fun j => fr_ids' _ _ _ _) (by
      have : bk T r (((0 : Nat) : Int) - 3 - r) = [] := by unfold bk; rw [if_neg (by omega)]
      simp only [this]; rfl) 48
  rw [← h3]
  have : bk T r (((48 : Nat) : Int) - 3 - r) = [] := by unfold bk; rw [if_neg (by omega)]
  simp only [this, List.map_nil, List.append_nil]
/-- In a list whose names are once, the neighbours with two names stand at one place only. -/
theorem at_only {l : List Hd} (h : (l.map (·.id)).Nodup) {P S : List Hd} {x y : Hd} (e : l = P ++ x :: y :: S) {k : Nat} {u : Hd} (hk : l[k]? = some u) (hu : u.id = x.id) : k = P.length := by
  subst e
  have hx : (P ++ x :: y :: S)[P.length]? = some x := by simp
  have h1 : ((P ++ x :: y :: S).map (·.id))[k]? = some x.id := by rw [List.getElem?_map, hk]; simp [hu]
  have h2 : ((P ++ x :: y :: S).map (·.id))[P.length]? = some x.id := by rw [List.getElem?_map, hx]; rfl
  obtain ⟨i1, j1⟩ := List.getElem?_eq_some_iff.1 h1
  obtain ⟨i2, j2⟩ := List.getElem?_eq_some_iff.1 h2
  have e3 : ((P ++ x :: y :: S).map (·.id))[k]'i1 = ((P ++ x :: y :: S).map (·.id))[P.length]'i2 := j1.trans j2.symm
  by_cases hlt : k = P.length
  · exact hlt
  · exfalso
    rw [List.nodup_iff_pairwise_ne, List.pairwise_iff_getElem] at h
    rcases Nat.lt_or_gt_of_ne hlt with g | g
    · exact h _ _ i1 i2 g e3
    · exact h _ _ i2 i1 g e3.symm
end Go.Proofs.YtjjnhmbgffdenaaDoor
namespace Go.Proofs.YtjjnhmbgffdenaaDoor.Ya
set_option maxRecDepth 100000
open Go.RowKit Go.Sort
open Go.RowKit

/-- A pass as plain data: the yarn and the number of the loop, whether it lies in front, the direction. -/
structure Ps where
  y : Int
  n : Int
  f : Bool
  d : Int
deriving DecidableEq

def Ps.nil : Ps := ⟨0, 0, false, 0⟩
/-- Two passes cancel. -/
def canc (a b : Ps) : Bool := decide (a.y = b.y) && decide (a.n = b.n) && decide (a.f = b.f) && (decide (a.d = 0 ∧ b.d = 1) || decide (a.d = 1 ∧ b.d = 0))
/-- The pass of the way back. -/
def bck (p : Ps) : Ps := { p with d := if p.d = 1 then 0 else 1 }

theorem canc_iff (a b : Ps) : canc a b = true ↔ a.y = b.y ∧ a.n = b.n ∧ a.f = b.f ∧ ((a.d = 0 ∧ b.d = 1) ∨ (a.d = 1 ∧ b.d = 0)) := by
  simp [canc, and_assoc]
theorem canc_uniq {a b c : Ps} (h : canc a b = true) (h' : canc b c = true) : a = c := by
  rw [canc_iff] at h h'
  obtain ⟨ay, an, af, ad⟩ := a
  obtain ⟨cy, cn, cf, cd⟩ := c
  simp only [Ps.mk.injEq]
  simp only at h h'
  obtain ⟨h1, h2, h3, h4⟩ := h
  obtain ⟨g1, g2, g3, g4⟩ := h'
  exact ⟨h1.trans g1, h2.trans g2, h3.trans g3, by omega⟩
theorem canc_bck {a : Ps} (h : a.d = 0 ∨ a.d = 1) : canc a (bck a) = true := by
  rw [canc_iff]
  rcases h with h | h <;> simp [bck, h]
theorem bck_bck {a : Ps} (h : a.d = 0 ∨ a.d = 1) : bck (bck a) = a := by
  obtain ⟨y, n, f, d⟩ := a
  rcases h with h | h <;> simp only at h <;> subst h <;> simp [bck]
theorem bck_dir (a : Ps) : (bck a).d = 0 ∨ (bck a).d = 1 := by
  by_cases h : a.d = 1 <;> simp [bck, h]

/-- No two that follow each other cancel. -/
def Red (s : List Ps) : Prop := ∀ i a b, s[i]? = some a → s[i + 1]? = some b → canc a b = false

/-- A list with one pass more, reduced. -/
def psh (s : List Ps) (p : Ps) : List Ps := match s.getLast? with
  | some x => if canc x p = true then s.dropLast else s ++ [p]
  | none => [p]
def red (l : List Ps) : List Ps := l.foldl psh []

theorem psh_nil (p : Ps) : psh [] p = [p] := rfl
theorem psh_yes {s : List Ps} {x p : Ps} (h : canc x p = true) : psh (s ++ [x]) p = s := by simp [psh, h]
theorem psh_no {s : List Ps} {x p : Ps} (h : canc x p = false) : psh (s ++ [x]) p = s ++ [x] ++ [p] := by simp [psh, h]

theorem list_last (s : List Ps) : s = [] ∨ ∃ t x, s = t ++ [x] := by
  rcases List.eq_nil_or_concat s with h | ⟨t, x, h⟩
  · exact .inl h
  · exact .inr ⟨t, x, by simpa using h⟩

theorem Red.nil : Red [] := fun _ _ _ h => by simp at h
theorem Red.init {s : List Ps} {x : Ps} (h : Red (s ++ [x])) : Red s := fun i a b h1 h2 => by
  have l2 := (List.getElem?_eq_some_iff.1 h2).1
  exact h i a b (by rw [List.getElem?_append_left (by omega)]; exact h1) (by rw [List.getElem?_append_left (by omega)]; exact h2)
theorem Red.add {s : List Ps} {x p : Ps} (h : Red (s ++ [x])) (hc : canc x p = false) : Red (s ++ [x] ++ [p]) := fun i a b h1 h2 => by
  have l2 := (List.getElem?_eq_some_iff.1 h2).1
  simp at l2
  by_cases e : i + 1 < (s ++ [x]).length
  · exact h i a b (by rw [List.getElem?_append_left (by omega)] at h1; exact h1) (by rw [List.getElem?_append_left e] at h2; exact h2)
  · have e2 : i = s.length := by simp at e; omega
    subst e2
    simp at h1 h2
    subst h1; subst h2
    exact hc
theorem Red.one (p : Ps) : Red [p] := fun i a b _ h2 => by simp at h2
theorem Red.psh {s : List Ps} (h : Red s) (p : Ps) : Red (psh s p) := by
  rcases list_last s with rfl | ⟨t, x, rfl⟩
  · exact Red.one p
  · cases hc : canc x p
    · rw [psh_no hc]; exact h.add hc
    · rw [psh_yes hc]; exact h.init

theorem psh_psh {s : List Ps} (h : Red s) {a b : Ps} (hc : canc a b = true) : psh (psh s a) b = s := by
  rcases list_last s with rfl | ⟨t, x, rfl⟩
  · show psh ([] ++ [a]) b = []
    exact psh_yes hc
  · cases hx : canc x a
    · rw [psh_no hx, psh_yes hc]
    · rw [psh_yes hx]
      obtain rfl := canc_uniq hx hc
      rcases list_last t with rfl | ⟨u, y, rfl⟩
      · rfl
      · have hy : canc y x = false := h u.length y x (by simp) (by simp)
        rw [psh_no hy]

theorem Red.fold {s : List Ps} (h : Red s) (l : List Ps) : Red (l.foldl Go.Proofs.YtjjnhmbgffdenaaDoor.Ya.psh s) := by
  induction l generalizing s with
  | nil => exact h
  | cons p l ih => exact ih (h.psh p)
theorem red_red (l : List Ps) : Red (red l) := Red.nil.fold l

theorem fold_cut {s : List Ps} (h : Red s) (u v : List Ps) {a b : Ps} (hc : canc a b = true) : (u ++ a :: b :: v).foldl psh s = (u ++ v).foldl psh s := by
  rw [List.foldl_append, List.foldl_append, List.foldl_cons, List.foldl_cons, psh_psh (h.fold u) hc]
theorem red_cut (u v : List Ps) {a b : Ps} (hc : canc a b = true) : red (u ++ a :: b :: v) = red (u ++ v) := fold_cut Red.nil u v hc

theorem fold_id (l : List Ps) : ∀ s : List Ps, Red (s ++ l) → l.foldl psh s = s ++ l := by
  induction l with
  | nil => intro s _; simp
  | cons p l ih =>
    intro s h
    have e : psh s p = s ++ [p] := by
      rcases list_last s with rfl | ⟨t, x, rfl⟩
      · rfl
      · exact psh_no (h t.length x p (by simp) (by simp))
    rw [List.foldl_cons, e, ih (s ++ [p]) (by simpa using h)]
    simp
theorem red_id {l : List Ps} (h : Red l) : red l = l := by
  have := fold_id l [] (by simpa using h)
  simpa [red] using this

/-- What two lists come to behind every reduced list. -/
def Eqv (l m : List Ps) : Prop := ∀ s, Red s → l.foldl psh s = m.foldl psh s
theorem Eqv.app {l m l' m' : List Ps} (h : Eqv l m) (h' : Eqv l' m') : Eqv (l ++ l') (m ++ m') := fun s hs => by
  rw [List.foldl_append, List.foldl_append, h s hs, h' _ (hs.fold m)]
theorem Eqv.rfl' (l : List Ps) : Eqv l l := fun _ _ => rfl
theorem eqv_psh (s : List Ps) (p : Ps) : Eqv (psh s p) (s ++ [p]) := by
  rcases list_last s with rfl | ⟨t, x, rfl⟩
  · exact Eqv.rfl' _
  · cases hc : canc x p
    · rw [psh_no hc]; exact Eqv.rfl' _
    · rw [psh_yes hc]
      intro s hs
      have := fold_cut hs t [] hc
      simp only [List.append_nil] at this
      rw [← this]; simp
theorem eqv_fold (l : List Ps) : ∀ s, Eqv (l.foldl psh s) (s ++ l) := by
  induction l with
  | nil => intro s; simpa using Eqv.rfl' s
  | cons p l ih =>
    intro s t ht
    rw [List.foldl_cons, ih (psh s p) t ht, List.foldl_append, eqv_psh s p t ht]
    simp
theorem eqv_red (l : List Ps) : Eqv (red l) l := by have := eqv_fold l []; rw [List.nil_append] at this; exact this
theorem Eqv.red {l m : List Ps} (h : Eqv l m) : red l = red m := h [] Red.nil
theorem red_parts (a b : List Ps) : red (red a ++ red b) = red (a ++ b) := ((eqv_red a).app (eqv_red b)).red
theorem red_left (a b : List Ps) : red (red a ++ b) = red (a ++ b) := ((eqv_red a).app (Eqv.rfl' b)).red
theorem red_again (a : List Ps) : red (red a) = red a := red_id (red_red a)

def inv (l : List Ps) : List Ps := (l.map bck).reverse
theorem inv_cons (p : Ps) (l : List Ps) : inv (p :: l) = inv l ++ [bck p] := by simp [inv]
def Dirs (l : List Ps) : Prop := ∀ p ∈ l, p.d = 0 ∨ p.d = 1
theorem inv_inv {l : List Ps} (h : Dirs l) : inv (inv l) = l := by
  simp only [inv, List.map_reverse, List.reverse_reverse, List.map_map]
  conv => rhs; rw [← List.map_id l]
  exact List.map_congr_left fun p hp => bck_bck (h p hp)
theorem red_inv_from (l : List Ps) : Dirs l → ∀ u v : List Ps, red (u ++ (l ++ inv l) ++ v) = red (u ++ v) := by
  induction l with
  | nil => intro _ u v; simp [inv]
  | cons p l ih =>
    intro h u v
    have h1 := ih (fun q hq => h q (List.mem_cons_of_mem _ hq)) (u ++ [p]) ([bck p] ++ v)
    have h2 := red_cut u v (canc_bck (h p (List.mem_cons_self ..)))
    rw [inv_cons]
    simp only [List.append_assoc, List.cons_append, List.nil_append] at h1 h2 ⊢
    rw [h1, h2]
theorem red_inv {l : List Ps} (h : Dirs l) (u : List Ps) : red (u ++ (l ++ inv l)) = red u := by
  have := red_inv_from l h u []
  simpa using this
theorem Dirs.psh {s : List Ps} (h : Dirs s) {p : Ps} (hp : p.d = 0 ∨ p.d = 1) : Dirs (psh s p) := by
  rcases list_last s with rfl | ⟨t, x, rfl⟩
  · intro q hq; simp [psh_nil] at hq; subst hq; exact hp
  · cases hc : canc x p
    · rw [psh_no hc]; intro q hq
      rcases List.mem_append.1 hq with hq | hq
      · exact h q hq
      · simp at hq; subst hq; exact hp
    · rw [psh_yes hc]; exact fun q hq => h q (by simp [hq])
theorem length_psh (s : List Ps) (p : Ps) : (psh s p).length ≤ s.length + 1 := by
  rcases list_last s with rfl | ⟨t, x, rfl⟩
  · simp [psh_nil]
  · cases hc : canc x p
    · rw [psh_no hc]; simp
    · rw [psh_yes hc]; simp; omega
theorem length_fold (l : List Ps) : ∀ s : List Ps, (l.foldl psh s).length ≤ s.length + l.length := by
  induction l with
  | nil => intro s; simp
  | cons p l ih => intro s; have := ih (psh s p); have := length_psh s p; simp only [List.foldl_cons, List.length_cons]; omega
theorem length_red (l : List Ps) : (red l).length ≤ l.length := by have := length_fold l []; simpa [red] using this
theorem mem_psh {s : List Ps} {p q : Ps} (h : q ∈ psh s p) : q ∈ s ∨ q = p := by
  rcases list_last s with rfl | ⟨t, x, rfl⟩
  · simp [psh_nil] at h; exact .inr h
  · cases hc : canc x p
    · rw [psh_no hc] at h
      rcases List.mem_append.1 h with h | h
      · exact .inl h
      · simp at h; exact .inr h
    · rw [psh_yes hc] at h; exact .inl (by simp [h])
theorem mem_fold (l : List Ps) : ∀ {s : List Ps} {q : Ps}, q ∈ l.foldl psh s → q ∈ s ∨ q ∈ l := by
  induction l with
  | nil => intro s q h; exact .inl h
  | cons p l ih =>
    intro s q h
    rcases ih h with h | h
    · rcases mem_psh h with h | h
      · exact .inl h
      · exact .inr (by simp [h])
    · exact .inr (by simp [h])
theorem mem_red {l : List Ps} {q : Ps} (h : q ∈ red l) : q ∈ l := by
  rcases mem_fold l h with h | h
  · simp at h
  · exact h

open Go.RowKit

theorem bcell {W w1 : World} (hb : Below W.heap.size W w1) : (∀ b o, b < W.heap.size → w1.cell? ⟨b, o, none⟩ = W.cell? ⟨b, o, none⟩) ∧ (∀ b o, b < W.heap.size → w1.frozen? ⟨b, o, none⟩ = W.frozen? ⟨b, o, none⟩) :=
  ⟨fun b o h => hb.cell (p := ⟨b, o, none⟩) h, fun b o h => hb.frozen (p := ⟨b, o, none⟩) h⟩

/-- A pass as a value. -/
def Ps.v (p : Ps) : Value := .agg #[.int .u8 p.y, .int .i64 p.n, .bool p.f, .int .u8 p.d]

theorem below1 (w : World) (o : Obj) : Below w.heap.size w (w.alloc o) := (Below.refl _ _).alloc (Nat.le_refl _) _
theorem below2 (w : World) (o p : Obj) : Below w.heap.size w ((w.alloc o).alloc p) := (below1 w o).alloc (by simp) _

theorem back_right (y n : Int) (f : Bool) (w : World) :
    Calls Tryd.prog 46 #[.agg #[.int .u8 y, .int .i64 n, .bool f, .int .u8 1]] w fun e w' => e = .returned (.agg #[.int .u8 y, .int .i64 n, .bool f, .int .u8 0]) ∧ Below w.heap.size w w' := by
  go_enter Tryd.func46, Tryd.ntmps46
  go_wp2
  exact bodyPost_ret (v := .agg #[.int .u8 y, .int .i64 n, .bool f, .int .u8 0]) (by simp [results, Tryd.results46, go_sem]) rfl ⟨rfl, below2 _ _ _⟩

theorem back_other (y n : Int) (f : Bool) (d : Int) (h : d ≠ 1) (w : World) :
    Calls Tryd.prog 46 #[.agg #[.int .u8 y, .int .i64 n, .bool f, .int .u8 d]] w fun e w' => e = .returned (.agg #[.int .u8 y, .int .i64 n, .bool f, .int .u8 1]) ∧ Below w.heap.size w w' := by
  go_enter Tryd.func46, Tryd.ntmps46
  go_wp2
  exact bodyPost_ret (v := .agg #[.int .u8 y, .int .i64 n, .bool f, .int .u8 1]) (by simp [results, Tryd.results46, go_sem]) rfl ⟨rfl, below2 _ _ _⟩

theorem back_any (y n : Int) (f : Bool) (d : Int) (w : World) :
    Calls Tryd.prog 46 #[.agg #[.int .u8 y, .int .i64 n, .bool f, .int .u8 d]] w fun e w' => e = .returned (.agg #[.int .u8 y, .int .i64 n, .bool f, .int .u8 (bck ⟨y, n, f, d⟩).d]) ∧ Below w.heap.size w w' := by
  by_cases h : d = 1
  · subst h; exact back_right y n f w
  · have := back_other y n f d h w
    simpa [bck, h] using this

open Go.RowKit Go.Sort

/-- The four cells of a pass. -/
def Four (w : World) (b o : Nat) (p : Ps) : Prop :=
  w.cell? ⟨b, o, none⟩ = some (.int .u8 p.y) ∧ w.cell? ⟨b, o + 1, none⟩ = some (.int .i64 p.n) ∧ w.cell? ⟨b, o + 2, none⟩ = some (.bool p.f) ∧ w.cell? ⟨b, o + 3, none⟩ = some (.int .u8 p.d)

/-- The passes of a list lie in memory. -/
def Lie (w : World) (ao : Option Addr) (ps : List Ps) : Prop :=
  ps = [] ∨ ∃ b o, ao = some ⟨b, o, none⟩ ∧ b < w.heap.size ∧ ∀ i p, ps[i]? = some p → Four w b (o + i * 4) p

theorem Four.below {w w' : World} {b o : Nat} {p : Ps} (h : Four w b o p) {B : Nat} (hb : Below B w w') (hB : b < B) : Four w' b o p := by
  obtain ⟨h1, h2, h3, h4⟩ := h
  refine ⟨?_, ?_, ?_, ?_⟩
  · rw [hb.cell (p := ⟨b, o, none⟩) hB]; exact h1
  · rw [hb.cell (p := ⟨b, o + 1, none⟩) hB]; exact h2
  · rw [hb.cell (p := ⟨b, o + 2, none⟩) hB]; exact h3
  · rw [hb.cell (p := ⟨b, o + 3, none⟩) hB]; exact h4

theorem Lie.below {w w' : World} {ao : Option Addr} {ps : List Ps} (h : Lie w ao ps) (hb : Below w.heap.size w w') : Lie w' ao ps := by
  rcases h with h | ⟨b, o, h1, h2, h3⟩
  · exact .inl h
  · exact .inr ⟨b, o, h1, Nat.lt_of_lt_of_le h2 hb.size, fun i p hp => (h3 i p hp).below hb h2⟩

theorem Lie.nil (w : World) (ao : Option Addr) : Lie w ao [] := .inl rfl

/-- The pass at a place of a list that is not empty. -/
theorem Lie.at {w : World} {ao : Option Addr} {ps : List Ps} (h : Lie w ao ps) {i : Nat} (hi : i < ps.length) :
    ∃ b o, ao = some ⟨b, o, none⟩ ∧ b < w.heap.size ∧ Four w b (o + i * 4) (ps.getD i Ps.nil) := by
  rcases h with rfl | ⟨b, o, h1, h2, h3⟩
  · simp at hi
  · exact ⟨b, o, h1, h2, h3 i _ (by simp [List.getD, List.getElem?_eq_getElem hi])⟩

open Go.RowKit Go.Sort

/-- The cells of a list of passes, in a row. -/
def cellsOf (ps : List Ps) : List Value := ps.flatMap fun p => [.int .u8 p.y, .int .i64 p.n, .bool p.f, .int .u8 p.d]

theorem cellsOf_nil : cellsOf [] = [] := rfl
theorem cellsOf_cons (p : Ps) (ps : List Ps) : cellsOf (p :: ps) = .int .u8 p.y :: .int .i64 p.n :: .bool p.f :: .int .u8 p.d :: cellsOf ps := rfl
theorem cellsOf_append (a b : List Ps) : cellsOf (a ++ b) = cellsOf a ++ cellsOf b := by simp [cellsOf]
theorem cellsOf_length (ps : List Ps) : (cellsOf ps).length = ps.length * 4 := by
  induction ps with
  | nil => rfl
  | cons p ps ih => rw [cellsOf_cons]; simp [ih]; omega
theorem cellsOf_one (ps : List Ps) : ∀ u ∈ cellsOf ps, u.oneCell' = true := by
  intro u hu
  simp only [cellsOf, List.mem_flatMap] at hu
  obtain ⟨p, _, hu⟩ := hu
  simp at hu
  rcases hu with rfl | rfl | rfl | rfl <;> rfl
theorem cellsOf_at (ps : List Ps) : ∀ (i : Nat) (p : Ps), ps[i]? = some p →
    (cellsOf ps)[i * 4]? = some (.int .u8 p.y) ∧ (cellsOf ps)[i * 4 + 1]? = some (.int .i64 p.n) ∧ (cellsOf ps)[i * 4 + 2]? = some (.bool p.f) ∧ (cellsOf ps)[i * 4 + 3]? = some (.int .u8 p.d) := by
  induction ps with
  | nil => intro i p h; simp at h
  | cons q ps ih =>
    intro i p h
    rw [cellsOf_cons]
    cases i with
    | zero => simp at h; subst h; simp
    | succ i =>
      have := ih i p (by simpa using h)
      rw [show (i + 1) * 4 = i * 4 + 4 by omega]
      simpa [Nat.add_assoc] using this
/-- The cells of a list that lies, one by one. -/
theorem Lie.cells {w : World} {ao : Option Addr} {ps : List Ps} (h : Lie w ao ps) : ∀ ad, ao = some ad → ∀ j u, (cellsOf ps)[j]? = some u → w.cell? (ad.add j) = some u := by
  rintro ad rfl j u hj
  rcases h with rfl | ⟨b, o, h1, h2, h3⟩
  · simp [cellsOf] at hj
  · obtain rfl : ad = ⟨b, o, none⟩ := by simpa using h1
    have hlt : j < ps.length * 4 := by rw [← cellsOf_length]; exact (List.getElem?_eq_some_iff.1 hj).1
    have hi : j / 4 < ps.length := by omega
    obtain ⟨p, hp⟩ : ∃ p, ps[j / 4]? = some p := ⟨_, List.getElem?_eq_getElem hi⟩
    obtain ⟨a0, a1, a2, a3⟩ := cellsOf_at ps _ p hp
    obtain ⟨c0, c1, c2, c3⟩ := h3 _ p hp
    have e : (⟨b, o, none⟩ : Addr).add j = ⟨b, o + j, none⟩ := Addr.add_lit ..
    rw [e]
    have hm : j % 4 < 4 := Nat.mod_lt _ (by omega)
    rcases (by omega : j % 4 = 0 ∨ j % 4 = 1 ∨ j % 4 = 2 ∨ j % 4 = 3) with h | h | h | h
    · rw [show j / 4 * 4 = j by omega] at a0 c0
      rw [hj] at a0; rw [a0]; exact c0
    · rw [show j / 4 * 4 + 1 = j by omega] at a1
      rw [show o + j / 4 * 4 + 1 = o + j by omega] at c1
      rw [hj] at a1; rw [a1]; exact c1
    · rw [show j / 4 * 4 + 2 = j by omega] at a2
      rw [show o + j / 4 * 4 + 2 = o + j by omega] at c2
      rw [hj] at a2; rw [a2]; exact c2
    · rw [show j / 4 * 4 + 3 = j by omega] at a3
      rw [show o + j / 4 * 4 + 3 = o + j by omega] at c3
      rw [hj] at a3; rw [a3]; exact c3

/-- What a row of one's own holds lies. -/
theorem lie_of_row {w : World} {g : Nat} {cur : Array Value} {t : TypeId} {ps : List Ps} (hg : w.heap[g]? = some (.cells cur t (0, 0))) (hc : cur.toList.take (ps.length * 4) = cellsOf ps) : Lie w (some ⟨g, 0, none⟩) ps := by
  refine .inr ⟨g, 0, rfl, (Array.getElem?_eq_some_iff.1 hg).1, fun i p hp => ?_⟩
  have hi := (List.getElem?_eq_some_iff.1 hp).1
  obtain ⟨a0, a1, a2, a3⟩ := cellsOf_at ps i p hp
  have key : ∀ j u, j < ps.length * 4 → (cellsOf ps)[j]? = some u → w.cell? ⟨g, j, none⟩ = some u := fun j u hj hu => by
    rw [cell_of_row w g j cur t (0, 0) hg]
    rw [← hc, List.getElem?_take, if_pos hj] at hu
    simpa using hu
  rw [Nat.zero_add]
  exact ⟨key _ _ (by omega) a0, key _ _ (by omega) a1, key _ _ (by omega) a2, key _ _ (by omega) a3⟩

/-- A row that the call owns holds the passes. -/
theorem lie_of_owns {w : World} {B e : Nat} {v : Value} {n : Nat} {ps : List Ps} (h : w.ownsRow B e 4 v n (cellsOf ps)) : n = ps.length ∧ ∃ ao cap, v = .slice ao n cap ∧ n ≤ cap ∧ cap ≤ maxLen ∧ Lie w ao ps := by
  have hn : n = ps.length := by have := h.1; rw [cellsOf_length] at this; omega
  refine ⟨hn, ?_⟩
  rcases h.2 with ⟨rfl, rfl⟩ | ⟨g, cap, cur, rfl, hb, hg, hnc, hcm, hcs, htake⟩
  · exact ⟨none, 0, rfl, Nat.le_refl _, by simp [maxLen], .inl (List.eq_nil_of_length_eq_zero hn.symm)⟩
  · exact ⟨_, cap, rfl, hnc, hcm, lie_of_row hg (by rw [← hn]; exact htake)⟩

/-- A copy of whole elements of several cells into a row of one's own. -/
theorem run_copy_all {P : Program} (w : World) (dT sT ty e : TypeId) (g : Nat) (n dCap : Nat) (a : Addr) (sCap size : Nat) (cur : Array Value) (t : TypeId) (cs : List Value)
    (hu : P.underlying dT = some (.slice e)) (i : TypeInfo) (hi : P.info? e = some i) (hsz : i.size = size) (hg : w.heap[g]? = some (.cells cur t (0, 0))) (hl : cs.length = n * size)
    (hsrc : ∀ j v, cs[j]? = some v → w.cell? (a.add j) = some v) (hfit : cs.length ≤ cur.size) (h1 : ∀ v ∈ cs, v.oneCell' = true) :
    (Builtin.copy_ #[dT, sT] ty #[.slice (some ⟨g, 0, none⟩) n dCap, .slice (some a) n sCap]).run P w = .ok (goInt n) (w.setRow g (cs ++ cur.toList.drop cs.length).toArray) := by
  subst hsz
  have hf := run_firstCells_some (P := P) w i.size n a n sCap cs hl hsrc
  have hst := run_storeCells_at P g 0 t cs 0 cur w hg (by simpa using hfit) h1
  simp only [Nat.add_zero, Nat.zero_add, List.take_zero, List.nil_append] at hst
  simp [Builtin.copy_, run_underlying hu, Builtin.lenOf, sizeOf, typeInfo, hi, hf, hst]

open Go.RowKit Go.Sort

theorem setRow_alloc (w : World) (cur new : Array Value) (t : TypeId) : (w.alloc (.cells cur t)).setRow w.heap.size new = w.alloc (.cells new t) := by
  unfold World.setRow World.alloc
  simp only
  congr 1
  apply Array.ext
  · simp
  · intro k h1 h2
    simp only [Array.getElem_modify]
    split
    · rename_i hk; subst hk; simp
    · rename_i hk
      simp only [Array.size_modify, Array.size_push] at h1
      rw [Array.getElem_push_lt (by omega), Array.getElem_push_lt (by omega)]

/-- The zero pass. -/
def zero33 : Value := .agg #[.int .u8 0, .int .i64 0, .bool false, .int .u8 0]
theorem info33 : (Tryd.prog.info? 47).map (fun i => (i.zero, i.size, i.bytes)) = some (some zero33, 4, 24) := by kernel_rfl

/-- The row of the call's own that 'make' lays. -/
def rowNew (n : Nat) : Array Value := madeCells zero33.cells (n * 4)

theorem run_mk (c : Int) (n : Nat) (hc : c = n) (h1 : 24 * n ≤ 281474976710656) (w : World) :
    (Instr.makeSlice 43 (.int .i64 c) (.int .i64 c)).run Tryd.prog w = .ok (.slice (some ⟨w.heap.size, 0, none⟩) n n) (w.alloc (.cells (rowNew n) 47)) := by
  subst hc
  obtain ⟨i0, hi, hz0, hz1, hz2⟩ := info_parts info33
  have hr := run_make (P := Tryd.prog) w 43 47 i0 zero33 Tryd.underlying43 hi hz0 .i64 .i64 n n (by omega) (Int.le_refl _) (by rw [hz2]; omega) (by omega)
  simp only [Int.toNat_natCast, hz1] at hr
  exact hr
theorem run_mk0 (c : Int) (n : Nat) (hc : c = n) (h1 : 24 * n ≤ 281474976710656) (w : World) :
    (Instr.makeSlice 43 (.int .i64 0) (.int .i64 c)).run Tryd.prog w = .ok (.slice (some ⟨w.heap.size, 0, none⟩) 0 n) (w.alloc (.cells (rowNew n) 47)) := by
  subst hc
  obtain ⟨i0, hi, hz0, hz1, hz2⟩ := info_parts info33
  have hr := run_make (P := Tryd.prog) w 43 47 i0 zero33 Tryd.underlying43 hi hz0 .i64 .i64 0 n (by omega) (by omega) (by rw [hz2]; omega) (by omega)
  simp only [Int.toNat_natCast, hz1, Int.toNat_zero] at hr
  exact hr
theorem rowNew_size (n : Nat) : (rowNew n).size = n * 4 := size_madeCells _ _

/-- A list of passes that the call has made: its length is its room. -/
def Made (B : Nat) (w w' : World) (e : Ending) (ps : List Ps) : Prop :=
  ∃ bo, e = .returned (.slice bo ps.length ps.length) ∧ w'.ownsRow B 47 4 (.slice bo ps.length ps.length) ps.length (cellsOf ps) ∧ Below w.heap.size w w'

theorem copied_any (ao : Option Addr) (ps : List Ps) (n cap : Nat) (w : World) (hn : n = ps.length) (hm : 24 * n ≤ 281474976710656) (h : Lie w ao ps) :
    Calls Tryd.prog 45 #[.slice ao n cap] w fun e w' => Made w.heap.size w w' e ps := by
  have HN := Lib.hid hn
  have HL := Lib.hid h
  clear hn h
  by_cases h0 : n = 0
  · subst h0
    obtain rfl : ps = [] := List.eq_nil_of_length_eq_zero HN.out.symm
    go_enter Tryd.func45, Tryd.ntmps45
    go_wp2
    go_ret
    exact ⟨none, rfl, World.ownsRow_nil _ _ _ _, Below.refl _ _⟩
  · obtain ⟨b, o, rfl, hb, -⟩ := Lie.at HL.out (i := 0) (by rw [← HN.out]; omega)
    have hmk := fun w => run_mk (n : Int) n rfl hm w
    obtain ⟨i0, hi, hz0, hz1, hz2⟩ := info_parts info33
    have hlen : (cellsOf ps).length = n * 4 := by rw [cellsOf_length, HN.out]
    have hcp : (Builtin.copy_ #[43, 43] 3 #[.slice (some ⟨w.heap.size, 0, none⟩) n n, .slice (some ⟨b, o, none⟩) n cap]).run Tryd.prog (w.alloc (.cells (rowNew n) 47)) = .ok (goInt n) (w.alloc (.cells (cellsOf ps).toArray 47)) := by
      have := run_copy_all (P := Tryd.prog) (w.alloc (.cells (rowNew n) 47)) 43 43 3 47 w.heap.size n n ⟨b, o, none⟩ cap 4 (rowNew n) 47 (cellsOf ps) Tryd.underlying43 i0 hi hz1 (heap_alloc_new w _) hlen
        ((HL.out.below (below1 w _)).cells _ rfl) (by rw [rowNew_size, hlen]; exact Nat.le_refl _) (cellsOf_one ps)
      rw [this, setRow_alloc, List.drop_of_length_le (by rw [Array.length_toList, rowNew_size, hlen]; exact Nat.le_refl _), List.append_nil]
    have HLEN := Lib.hid hlen
    clear hi hz0 hz1 hz2 hlen
    go_enter Tryd.func45, Tryd.ntmps45
    go_wp2_with fail
    go_ret
    refine ⟨some ⟨w.heap.size, 0, none⟩, by rw [← HN.out]; rfl, ?_, below1 _ _⟩
    have hp := World.ownsRow_lit (base := w.heap.size) (e := 47) (size := 4) w (cellsOf ps).toArray ps.length (Nat.le_refl _) (by rw [← HN.out]; simp [maxLen]; omega) (by simp [cellsOf_length])
    simpa using hp

open Go.RowKit Go.Sort

theorem grown_of_below {w w' : World} (h : Below w.heap.size w w') : w.grownBy w' none := ⟨h.os, h.tape, h.output, h.size, fun k hk _ => h.block k hk⟩
theorem owns_below {w w' : World} {B e n : Nat} {v : Value} {xs : List Value} (h : w.ownsRow B e 4 v n xs) (hb : Below w.heap.size w w') : w'.ownsRow B e 4 v n xs :=
  h.kept (grown_of_below hb) (by cases hv : v.ownBlock <;> simp)

open Go.RowKit Go.Sort

theorem cellsOf_set (ps : List Ps) : ∀ (i : Nat) (p : Ps), i < ps.length →
    ((((cellsOf ps).set (i * 4) (.int .u8 p.y)).set (i * 4 + 1) (.int .i64 p.n)).set (i * 4 + 2) (.bool p.f)).set (i * 4 + 3) (.int .u8 p.d) = cellsOf (ps.set i p) := by
  induction ps with
  | nil => intro i p h; simp at h
  | cons q ps ih =>
    intro i p h
    cases i with
    | zero => simp [cellsOf_cons]
    | succ i =>
      have := ih i p (by simpa using h)
      rw [show (i + 1) * 4 = i * 4 + 4 by omega, List.set_cons_succ, cellsOf_cons, cellsOf_cons, ← this]
      simp [Nat.add_right_comm]

set_option maxHeartbeats 1000000 in
theorem inverse_any (ao : Option Addr) (ps : List Ps) (n cap : Nat) (w : World) (hn : n = ps.length) (hm : 24 * n ≤ 281474976710656) (h : Lie w ao ps) :
    Calls Tryd.prog 18 #[.slice ao n cap] w fun e w' => Made w.heap.size w w' e (inv ps) := by
  have HN := Lib.hid hn
  have HL := Lib.hid h
  have K := Lib.hid (copied_any ao ps n cap w hn hm h)
  clear hn h
  have hm2 : n ≤ 11728124029610 := by omega
  go_enter Tryd.func18, Tryd.ntmps18
  go_wp2_with (go_at_call 45; refine K.out.mono ?_; rintro e w3 ⟨bo, rfl, ho, hb3⟩; refine Hid.out ?_)
  rw [← HN.out] at ho ⊢
  have HO := Lib.hid ho
  clear ho K
  refine Lib.hid ?_
  go_wp2_with fail
  go_loopg [10] (n + 1) (fun g i wr => ∃ k : Nat, k ≤ n ∧ g = n + 1 - k ∧ i = .int .i64 k ∧ (∃ cur : List Ps, Hid (cur.length = n ∧ (∀ i, i < k → cur[n - 1 - i]? = some (bck (ps.getD i Ps.nil))) ∧ wr.ownsRow w.heap.size 47 4 (.slice bo n n) n (cellsOf cur))) ∧ Below w.heap.size w wr)
  case atStart => exact ⟨0, by omega, rfl, rfl, ⟨ps, HN.out.symm, fun i hi => absurd hi (by omega), HO.out⟩, hb3⟩
  case round =>
    obtain ⟨k, hk, hg, rfl, ⟨cur, HC⟩, hb⟩ := hrel
    have HM := Lib.hid hg
    clear hg
    have hsz := hb.size
    by_cases hlt : k < n
    · obtain ⟨b, o, rfl, hbb, hf⟩ := Lie.at (HL.out.below hb) (i := k) (by rw [← HN.out]; exact hlt)
      obtain ⟨g, rfl, hgB, hgz⟩ : ∃ g, bo = some ⟨g, 0, none⟩ ∧ w.heap.size ≤ g ∧ g < wr.heap.size := by
        rcases HC.out.2.2.2 with ⟨_, h0⟩ | ⟨g, cap, cr, hv, hb, hg, _⟩
        · omega
        · exact ⟨g, by simpa using (Value.slice.inj hv).1, hb, (Array.getElem?_eq_some_iff.1 hg).1⟩
      obtain ⟨p, hp⟩ : ∃ p, p = ps.getD k Ps.nil := ⟨_, rfl⟩
      rw [← hp] at hf
      have HP := Lib.hid hp
      clear hp
      obtain ⟨y, m, f, d⟩ := p
      obtain ⟨c0, c1, c2, c3⟩ := hf
      simp only at c0 c1 c2 c3
      go_wp2_with (go_at_call 46; refine (back_any _ _ _ _ _).mono ?_; rintro e w4 ⟨rfl, hb4⟩; refine Hid.out ?_)
      have hb5 : Below wr.heap.size wr w4 := (below1 _ _).trans (hb4.mono (by simp))
      have hO4 := owns_below HC.out.2.2 hb5
      have hb6 : Below w.heap.size w w4 := hb.trans (hb5.mono hsz)
      clear hb4 hb5 c0 c1 c2 c3
      have x0 := hO4.cellAt ((n - 1 - k) * 4) (by omega)
      have x1 := hO4.cellAt ((n - 1 - k) * 4 + 1) (by omega)
      have x2 := hO4.cellAt ((n - 1 - k) * 4 + 2) (by omega)
      have x3 := hO4.cellAt ((n - 1 - k) * 4 + 3) (by omega)
      obtain ⟨r, hr⟩ : ∃ r, cur[n - 1 - k]? = some r := ⟨_, List.getElem?_eq_getElem (by have := HC.out.1; omega)⟩
      obtain ⟨a0, a1, a2, a3⟩ := cellsOf_at cur _ r hr
      rw [a0] at x0
      rw [a1] at x1
      rw [a2] at x2
      rw [a3] at x3
      have f0 := hO4.frozenAt
      have HO4 := Lib.hid hO4
      clear a0 a1 a2 a3 hr hO4
      refine Lib.hid ?_
      go_wp2_with fail
      obtain ⟨d', hd'⟩ : ∃ d', d' = (bck ⟨y, m, f, d⟩).d := ⟨_, rfl⟩
      rw [← hd']
      have s1 := (HO4.out.stored ((n - 1 - k) * 4) (.int .u8 y)).1
      have s2 := (s1.stored ((n - 1 - k) * 4 + 1) (.int .i64 m)).1
      have s3 := (s2.stored ((n - 1 - k) * 4 + 2) (.bool f)).1
      have s4 := (s3.stored ((n - 1 - k) * 4 + 3) (.int .u8 d')).1
      rw [cellsOf_set cur (n - 1 - k) ⟨y, m, f, d'⟩ (by have := HC.out.1; omega)] at s4
      have hb7 := (((hb6.setCell (p := ⟨g, (n - 1 - k) * 4, none⟩) hgB (.int .u8 y)).setCell (p := ⟨g, (n - 1 - k) * 4 + 1, none⟩) hgB (.int .i64 m)).setCell (p := ⟨g, (n - 1 - k) * 4 + 2, none⟩) hgB (.bool f)).setCell (p := ⟨g, (n - 1 - k) * 4 + 3, none⟩) hgB (.int .u8 d')
      go_roundg (gk - 1)
      case measure => have := HM.out; omega
      case rel =>
        refine ⟨k + 1, by omega, by have := HM.out; omega, by go_num, ⟨cur.set (n - 1 - k) ⟨y, m, f, d'⟩, by simpa using HC.out.1, fun i hi => ?_, s4⟩, hb7⟩
        by_cases e : i = k
        · subst e
          rw [List.getElem?_set_self (by have := HC.out.1; omega), ← HP.out, hd']
          rfl
        · rw [List.getElem?_set_ne (by omega)]
          exact HC.out.2.1 i (by omega)
    · obtain rfl : k = n := by omega
      go_wp2
      go_ret
      obtain ⟨c1, c2, c3⟩ := HC.out
      have e : cur = inv ps := by
        apply List.ext_getElem?
        intro i
        by_cases hi : i < k
        · have := c2 (k - 1 - i) (by omega)
          rw [show k - 1 - (k - 1 - i) = i by omega] at this
          rw [this, inv, List.getElem?_reverse (by simp; rw [← HN.out]; exact hi), List.getElem?_map, List.length_map, ← HN.out]
          rw [List.getElem?_eq_getElem (show k - 1 - i < ps.length by rw [← HN.out]; omega)]
          simp [List.getD, List.getElem?_eq_getElem (show k - 1 - i < ps.length by rw [← HN.out]; omega)]
        · rw [List.getElem?_eq_none (by omega), List.getElem?_eq_none (by simp [inv, ← HN.out]; omega)]
      have e2 : (inv ps).length = k := by rw [← e]; exact c1
      refine ⟨bo, by rw [e2]; rfl, by rw [e2, ← e]; exact c3, hb⟩

end Go.Proofs.YtjjnhmbgffdenaaDoor.Ya
namespace Go.Proofs.YtjjnhmbgffdenaaDoor
open Go.RowKit Go.Sort
set_option maxRecDepth 100000 in
set_option maxHeartbeats 1000000 in
theorem Of_any (ao : Option Addr) (xs : List (Nat × Nat)) (cap : Nat) (w : World) (h : LieP w ao xs) :
    Calls Tryd.prog 9 #[.slice ao xs.length cap] w (BdOf (ofM xs) w) := by
  have HL := Lib.hid h
  clear h
  obtain ⟨T9, hT9⟩ : ∃ T9, T9 = ofM xs := ⟨_, rfl⟩
  rw [← hT9]
  have HT9 := Lib.hid hT9
  clear hT9
  obtain ⟨N, hN⟩ : ∃ N, N = xs.length := ⟨_, rfl⟩
  rw [← hN]
  have HN := Lib.hid hN
  clear hN
  go_enter Tryd.func9, Tryd.ntmps9
  go_wp2_with fail
  obtain ⟨W0, hW0⟩ : ∃ W0, w.alloc (.cells #[.slice none 0 0, .slice none 0 0] 26) = W0 := ⟨_, rfl⟩
  have bR : Boxed2 W0 w.heap.size 26 (.slice none 0 0) (.slice none 0 0) := by rw [← hW0]; exact Boxed2.new _ _ _ _
  have hB0 : Below w.heap.size w W0 := by rw [← hW0]; exact below1 _ _
  have HOF : Hid (Calls Tryd.prog 20 #[.slice ao N cap] W0 (NewFul T9 W0)) := Lib.hid (by
    rw [HN.out, HT9.out]; exact of_any ao xs cap W0 (HL.out.below hB0))
  rw [hW0]
  clear hW0
  go_wp2_with (first
    | (go_at_call 20; refine HOF.out.mono ?_; rintro e w1 ⟨cs, rfl, hcs, hb1⟩; have hB1 : Below w.heap.size w w1 := hB0.trans (hb1.mono hB0.size); have bR1 := bR.below hb1 bR.lt)
    | (go_at_call 21; refine (beds_any cs w1 hcs.out.1 hcs.out.2.2).mono ?_; rw [hcs.out.2.1]; rintro e w2 ⟨⟨⟨ga, gs, gc⟩, ⟨ka, ks, kc⟩⟩, rfl, hbd, hb2⟩; simp only [Bds.v, Bed.v]; have hB2 : Below w.heap.size w w2 := hB1.trans (hb2.mono hB1.size); have bR2 := bR1.below hb2 bR1.lt; have r0 := bR2.cell0; have r1 := bR2.cell1; have fR := bR2.frozen))
  have nF : ∀ b o, ga = some ⟨b, o, none⟩ → b ≠ w.heap.size := fun b o e => by
    have h1 := hbd.out.2.2.2.1 b o e
    have h2 := bR1.lt
    omega
  have nB : ∀ b o, ka = some ⟨b, o, none⟩ → b ≠ w.heap.size := fun b o e => by
    have h1 := hbd.out.2.2.2.2 b o e
    have h2 := bR1.lt
    omega
  have b9 := bR2.set0 (.slice ga gs.length gc)
  have b4 := b9.set1 (.slice ka ks.length kc)
  have b40 := b4.cell0
  have b41 := b4.cell1
  have okF := ((hbd.out.2.2.1.1.set_box bR2 (isSl_mk _ _ _) (isSl_mk _ _ _) nF 0 (.slice ga gs.length gc)).set_box b9 (isSl_mk _ _ _) (isSl_mk _ _ _) nF 1 (.slice ka ks.length kc))
  have okB := ((hbd.out.2.2.1.2.set_box bR2 (isSl_mk _ _ _) (isSl_mk _ _ _) nB 0 (.slice ga gs.length gc)).set_box b9 (isSl_mk _ _ _) (isSl_mk _ _ _) nB 1 (.slice ka ks.length kc))
  refine bodyPost_ret (v := .agg #[.slice ga gs.length gc, .slice ka ks.length kc]) (by simp [results, Tryd.results9, go_sem, b40, b41]) rfl ⟨⟨⟨ga, gs, gc⟩, ⟨ka, ks, kc⟩⟩, rfl, Lib.hid ⟨hbd.out.1, hbd.out.2.1, ⟨okF.mono (by simp), okB.mono (by simp)⟩, fun b o e => ?_, fun b o e => ?_⟩, ?_⟩
  · have h1 := hbd.out.2.2.2.1 b o e
    have h2 := bR1.lt
    omega
  · have h1 := hbd.out.2.2.2.2 b o e
    have h2 := bR1.lt
    omega
  · exact (hB2.setCell (p := ⟨w.heap.size, 0, none⟩) (by simp) _).setCell (p := ⟨w.heap.size, 1, none⟩) (by simp) _
end Go.Proofs.YtjjnhmbgffdenaaDoor
