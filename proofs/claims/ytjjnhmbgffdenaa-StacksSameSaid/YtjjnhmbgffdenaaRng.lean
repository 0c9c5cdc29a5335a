import Derived.Test.YtjjnhmbgffdenaaEach
import Derived.Test.YtjjnhmbgffdenaaSmall4
import Derived.Test.YtjjnhmbgffdenaaSmall5
namespace Go.Proofs.Ytjjnhmbgffdenaa
open Go.RowKit Go.Shelf

/-- What a round may know of the stack that it is handed. -/
def ElOk (n : Nat) (w : World) (x : El) : Prop := x.k ≤ 1 ∧ x.i < 100 ∧ x.c.ok n w
def Al (n : Nat) (w : World) : Type := { x : El // ElOk n w x }
def Al.one (n : Nat) (w : World) : Al n w := ⟨⟨0, 0, Cel.nil⟩, by simp, by simp, Cel.nil_ok _ _⟩
open Classical in
noncomputable def Al.mk (n : Nat) (w : World) (x : El) : Al n w := if h : ElOk n w x then ⟨x, h⟩ else Al.one n w
theorem Bds.ok.els {n : Nat} {w : World} {d : Bds} (h : d.ok n w) {x : El} (hx : x ∈ d.els) : ElOk n w x := by
  unfold Bds.els at hx
  rcases List.mem_append.1 hx with hx | hx
  · simp only [Bed.els, List.mem_mapIdx] at hx
    obtain ⟨i, hi, rfl⟩ := hx
    exact ⟨by simp, by have := h.1.1; simp only; omega, h.1.2.1 _ (List.getElem_mem hi)⟩
  · simp only [Bed.els, List.mem_mapIdx] at hx
    obtain ⟨i, hi, rfl⟩ := hx
    exact ⟨by simp, by have := h.2.1; simp only; omega, h.2.2.1 _ (List.getElem_mem hi)⟩
theorem Al.mk_val {n : Nat} {w : World} {x : El} (h : ElOk n w x) : (Al.mk n w x).1 = x := by simp [Al.mk, h]
theorem Al.map_val {n : Nat} {w : World} {d : Bds} (h : d.ok n w) : (d.els.map (Al.mk n w)).map (fun x => x.1) = d.els := by
  rw [List.map_map]
  conv => rhs; rw [← List.map_id d.els]
  exact List.map_congr_left fun x hx => Al.mk_val (h.els hx)
theorem Al.prefix_val {n : Nat} {w : World} {d : Bds} (h : d.ok n w) {pre : List (Al n w)} (hp : pre <+: d.els.map (Al.mk n w)) : pre.map (fun x => x.1) <+: d.els := by
  have := hp.map (fun x : Al n w => x.1)
  rwa [Al.map_val h] at this
theorem Bds.ok.els_len {n : Nat} {w : World} {d : Bds} (h : d.ok n w) : d.els.length ≤ 200 := by
  rw [Bds.els_length]; have := h.1.1; have := h.2.1; omega
/-- The same, of another predicate. -/
def El.zero : El := ⟨0, 0, Cel.nil⟩
theorem El.zero_ok (n : Nat) (w : World) : ElOk n w El.zero := ⟨by simp [El.zero], by simp [El.zero], Cel.nil_ok _ _⟩
def Ap (P : El → Prop) : Type := { x : El // P x }
open Classical in
noncomputable def Ap.mk {P : El → Prop} (h0 : P El.zero) (x : El) : Ap P := if h : P x then ⟨x, h⟩ else ⟨El.zero, h0⟩
theorem Ap.mk_val {P : El → Prop} (h0 : P El.zero) {x : El} (h : P x) : (Ap.mk h0 x).1 = x := by simp [Ap.mk, h]
theorem Ap.map_val {P : El → Prop} (h0 : P El.zero) {xs : List El} (h : ∀ x ∈ xs, P x) : (xs.map (Ap.mk h0)).map (fun x => x.1) = xs := by
  rw [List.map_map]
  conv => rhs; rw [← List.map_id xs]
  exact List.map_congr_left fun x hx => Ap.mk_val h0 (h x hx)
theorem Ap.prefix_val {P : El → Prop} (h0 : P El.zero) {xs : List El} (h : ∀ x ∈ xs, P x) {pre : List (Ap P)} (hp : pre <+: xs.map (Ap.mk h0)) : pre.map (fun x => x.1) <+: xs := by
  have := hp.map (fun x : Ap P => x.1)
  rwa [Ap.map_val h0 h] at this
/-- The box of a pair. -/
def Boxed2 (W : World) (B : Nat) (t : TypeId) (u v : Value) : Prop := W.heap[B]? = some (.cells #[u, v] t (0, 0))
theorem Boxed2.lt {W : World} {B : Nat} {t : TypeId} {u v : Value} (h : Boxed2 W B t u v) : B < W.heap.size := (Array.getElem?_eq_some_iff.1 h).1
theorem Boxed2.cell0 {W : World} {B : Nat} {t : TypeId} {u v : Value} (h : Boxed2 W B t u v) : W.cell? ⟨B, 0, none⟩ = some u := by simp [World.cell?, show W.heap[B]? = _ from h]
theorem Boxed2.cell1 {W : World} {B : Nat} {t : TypeId} {u v : Value} (h : Boxed2 W B t u v) : W.cell? ⟨B, 1, none⟩ = some v := by simp [World.cell?, show W.heap[B]? = _ from h]
theorem Boxed2.frozen {W : World} {B : Nat} {t : TypeId} {u v : Value} (h : Boxed2 W B t u v) (o : Nat) : W.frozen? ⟨B, o, none⟩ = false := by simp [World.frozen?, show W.heap[B]? = _ from h]
theorem Boxed2.new (W : World) (t : TypeId) (u v : Value) : Boxed2 (W.alloc (.cells #[u, v] t)) W.heap.size t u v := World.alloc_heap_new W _
theorem Boxed2.kept {W W' : World} {row : Option Nat} {B : Nat} {t : TypeId} {u v : Value} (h : Boxed2 W B t u v) (hg : W.grownBy W' row) (hne : some B ≠ row) : Boxed2 W' B t u v := (hg.block B h.lt hne).trans h
theorem Boxed2.alloc {W : World} {B : Nat} {t : TypeId} {u v : Value} (h : Boxed2 W B t u v) (o : Obj) : Boxed2 (W.alloc o) B t u v := h.kept (World.grownBy_alloc W o none) (by simp)
theorem Boxed2.below {W W' : World} {B N : Nat} {t : TypeId} {u v : Value} (h : Boxed2 W B t u v) (hb : Below N W W') (hB : B < N) : Boxed2 W' B t u v := (hb.block B hB).trans h
theorem setCell_block (W : World) (B o : Nat) (v : Value) {cs : Array Value} {t : TypeId} (h : W.heap[B]? = some (.cells cs t (0, 0))) : (W.setCell ⟨B, o, none⟩ v).heap[B]? = some (.cells (cs.setIfInBounds o v) t (0, 0)) := by
  obtain ⟨hlt, hk⟩ := Array.getElem?_eq_some_iff.1 h
  show (W.heap.modify B _)[B]? = _
  rw [Array.getElem?_eq_getElem (by rw [Array.size_modify]; exact hlt), Array.getElem_modify_self, hk]
  rfl
theorem Boxed2.set0 {W : World} {B : Nat} {t : TypeId} {u v : Value} (u' : Value) (h : Boxed2 W B t u v) : Boxed2 (W.setCell ⟨B, 0, none⟩ u') B t u' v := (setCell_block W B 0 u' h).trans rfl
theorem Boxed2.set1 {W : World} {B : Nat} {t : TypeId} {u v : Value} (v' : Value) (h : Boxed2 W B t u v) : Boxed2 (W.setCell ⟨B, 1, none⟩ v') B t u v' := (setCell_block W B 1 v' h).trans rfl
theorem grownBy_setCellAt (W : World) (b o : Nat) (v : Value) : W.grownBy (W.setCell ⟨b, o, none⟩ v) (some b) :=
  ⟨rfl, rfl, rfl, (KeepsWalks.setCell W _ v).size, fun k _ hk => Below.heap_setCell _ _ _ k (fun e => hk (by rw [e]))⟩
theorem Boxed2.other {W : World} {B C o : Nat} {t : TypeId} {u v x : Value} (h : Boxed2 W B t u v) (hne : B ≠ C) : Boxed2 (W.setCell ⟨C, o, none⟩ x) B t u v := h.kept (grownBy_setCellAt W C o x) (by simp [hne])
theorem boxed_other {W : World} {B C o : Nat} {t : TypeId} {v x : Value} (h : Boxed W B t v) (hne : B ≠ C) : Boxed (W.setCell ⟨C, o, none⟩ x) B t v := h.kept (grownBy_setCellAt W C o x) (by simp [hne])
theorem boxed2_own {β : Type} (B : Nat) (t : TypeId) (u v : β → Value) : Own (fun s W => Boxed2 W B t (u s) (v s)) := by
  rintro s X Y row hs hg hrow
  refine hs.kept hg (fun e' => ?_)
  obtain ⟨o, ho, hc⟩ := hrow B e'.symm
  rw [show X.heap[B]? = _ from hs] at ho; cases ho; cases hc
theorem ownFrom_const {β : Type} (B : Nat) (p : β → Prop) : OwnFrom B (fun s (_ : World) => p s) := fun _ _ _ _ hs _ _ => hs
theorem boxed_below {W W' : World} {B N : Nat} {t : TypeId} {v : Value} (h : Boxed W B t v) (hb : Below N W W') (hB : B < N) : Boxed W' B t v := (hb.block B hB).trans h
theorem keepsFrom_below {B n : Nat} {W W' : World} (h : Below n W W') (hn : W.heap.size ≤ n) : KeepsFrom B W W' :=
  ⟨h.size, fun k o _ hk _ => (h.block k (Nat.lt_of_lt_of_le (Array.getElem?_eq_some_iff.1 hk).1 hn)).trans hk⟩
end Go.Proofs.Ytjjnhmbgffdenaa
