import Derived.Test.YtjjnhmbgffdenaaDoorGah
import Derived.Lib.AppendZeros
import Derived.Maps.AppendAt
namespace Go.Proofs.YtjjnhmbgffdenaaDoor
open Go.RowKit Go.Sort

/-- A table of 80 stacks in memory. -/
def Tab (w : World) (B t : Nat) (cs : List Cel) : Prop := w.heap[B]? = some (.cells (cs.map Cel.v).toArray t (0, 0)) ∧ cs.length = 80
theorem Tab.lt {w : World} {B t : Nat} {cs : List Cel} (h : Tab w B t cs) : B < w.heap.size := (Array.getElem?_eq_some_iff.1 h.1).1
theorem Tab.cell {w : World} {B t : Nat} {cs : List Cel} (h : Tab w B t cs) {k : Nat} (hk : k < 80) : w.cell? ⟨B, k, none⟩ = some (cs[k]'(by rw [h.2]; exact hk)).v := by
  simp [World.cell?, h.1, h.2, hk]
theorem Tab.cellE {w : World} {B t : Nat} {cs : List Cel} (h : Tab w B t cs) {k : Nat} (hk : k < 80) : ∃ a n c, w.cell? ⟨B, k, none⟩ = some (.slice a n c) := ⟨_, _, _, h.cell hk⟩
theorem Tab.frozen {w : World} {B t : Nat} {cs : List Cel} (h : Tab w B t cs) (k : Nat) : w.frozen? ⟨B, k, none⟩ = false := by simp [World.frozen?, h.1]
theorem Tab.below {w w' : World} {B N t : Nat} {cs : List Cel} (h : Tab w B t cs) (hb : Below N w w') (hB : B < N) : Tab w' B t cs := ⟨(hb.block B hB).trans h.1, h.2⟩
theorem Tab.set {w : World} {B t : Nat} {cs : List Cel} (h : Tab w B t cs) (k : Nat) (c : Cel) : Tab (w.setCell ⟨B, k, none⟩ c.v) B t (cs.set k c) :=
  ⟨(setCell_block w B k c.v h.1).trans (by simp [List.map_set]), by simp [h.2]⟩
theorem Tab.kept {w w' : World} {row : Option Nat} {B t : Nat} {cs : List Cel} (h : Tab w B t cs) (hg : w.grownBy w' row) (hne : some B ≠ row) : Tab w' B t cs := ⟨(hg.block B h.lt hne).trans h.1, h.2⟩
theorem Tab.alloc {w : World} {B t : Nat} {cs : List Cel} (h : Tab w B t cs) (o : Obj) : Tab (w.alloc o) B t cs := h.kept (World.grownBy_alloc w o none) (by simp)
theorem Tab.other {w : World} {B t C k : Nat} {x : Value} {cs : List Cel} (h : Tab w B t cs) (hne : B ≠ C) : Tab (w.setCell ⟨C, k, none⟩ x) B t cs := h.kept (grownBy_setCellAt w C k x) (by simp [hne])
/-- A stack's names do not lie in a table. -/
theorem Cel.ok.set_tab {n : Nat} {w : World} {c : Cel} (h : c.ok n w) {B t : Nat} {cs : List Cel} (ht : Tab w B t cs) (k : Nat) (x : Value) : c.ok n (w.setCell ⟨B, k, none⟩ x) := by
  refine ⟨h.1, h.2.imp id ?_⟩
  rintro ⟨b, o, e, hl, hc⟩
  refine ⟨b, o, e, hl, fun i p hp => ?_⟩
  have h2 := hc i p hp
  have hne : b ≠ B := by
    rintro rfl
    have h3 := h2.1
    simp only [World.cell?, ht.1, Option.bind_some] at h3
    have : (cs.map Cel.v)[o + i * 2]? = some (.int .u8 p.y) := by simpa using h3
    rw [List.getElem?_map] at this
    cases hcs : cs[o + i * 2]? with
    | none => rw [hcs] at this; cases this
    | some c' => rw [hcs] at this; simp [Cel.v] at this
  exact ⟨by rw [World.cell?_setCell_other _ _ _ _ (by simp [hne])]; exact h2.1, by rw [World.cell?_setCell_other _ _ _ _ (by simp [hne])]; exact h2.2⟩
theorem tab_own {β : Type} (B t : Nat) (f : β → List Cel) : Own (fun s W => Tab W B t (f s)) := by
  rintro s X Y row hs hg hrow
  refine hs.kept hg (fun e' => ?_)
  obtain ⟨o, ho, hc⟩ := hrow B e'.symm
  rw [hs.1] at ho; cases ho; cases hc

theorem info31 : (Tryd.prog.info? 65).map (·.size) = some 80 := by kernel_rfl
theorem info68 : (Tryd.prog.info? 65).map (·.size) = some 80 := by kernel_rfl
theorem tab_size {w : World} {B t : Nat} {cs : List Cel} (h : Tab w B t cs) : (cs.map Cel.v).toArray.size = 80 := by simp [h.2]
theorem tab_one (cs : List Cel) : (cs.map Cel.v).toArray.all (·.oneCell') = true := by
  rw [Array.all_eq_true_iff_forall_mem]
  intro v hv
  simp only [List.mem_toArray, List.mem_map] at hv
  obtain ⟨c, _, rfl⟩ := hv
  rfl
/-- The array as a value. -/
def tabV (cs : List Cel) : Value := .agg (cs.map Cel.v).toArray

section
variable {F : Fence} {nF : Nat} {w : World} {ops : Array Oper} {rest : List Oper} {o : Oper} {a : Act} {Q : Exit → Act → World → Prop} {K : Act → World → Prop}
theorem load_tab {ty : TypeId} (hty : ty = 65 ∨ ty = 65) {B t : Nat} {cs : List Cel} (hT : Tab w B t cs) : (loadVar ty ⟨B, 0, none⟩).run Tryd.prog w = .ok (tabV cs) w := by
  rcases hty with rfl | rfl
  · exact run_loadVar_row w B t 65 _ (0, 0) _ hT.1 Tryd.underlying65 rfl (by rw [info31, tab_size hT])
  · exact run_loadVar_row w B t 65 _ (0, 0) _ hT.1 Tryd.underlying65 rfl (by rw [info68, tab_size hT])
theorem exec_load_tab {ty : TypeId} (hty : ty = 65 ∨ ty = 65) (x : Operand) (hop : o.op = .load ty x) {B t : Nat} {cs : List Cel} (hx : a.eval x = .pointer (some ⟨B, 0, none⟩)) (hT : Tab w B t cs) : (execOp a.eval o).run Tryd.prog w = .ok (.value (tabV cs)) w := by
  unfold execOp
  simp only [hop, hx, Instr.loadAt, Instr.sureAddr, Sem.run_bind, Sem.run_pure, Result.andThen_ok, load_tab hty hT]
theorem wpListIn_load_tab (hg : o.guard = none) {ty : TypeId} (hty : ty = 65 ∨ ty = 65) (x : Operand) (hop : o.op = .load ty x) {B t : Nat} {cs : List Cel} (hx : a.eval x = .pointer (some ⟨B, 0, none⟩)) (hT : Tab w B t cs)
    (hK : wpListIn F nF Tryd.prog ops Q rest (a.put o.dst (tabV cs)) w) : wpListIn F nF Tryd.prog ops Q (o :: rest) a w := by
  refine wpListIn_plain hg fun K' hK' => ?_
  unfold Oper.wpIn
  refine ⟨by simp [Oper.about, hop], ?_⟩
  rw [Oper.semAt_plain F _ _ (by rw [hop]; intro c hc'; cases hc'), exec_load_tab hty x hop hx hT]
  exact hK' _ _ hK
theorem wpList_load_tab (hg : o.guard = none) {ty : TypeId} (hty : ty = 65 ∨ ty = 65) (x : Operand) (hop : o.op = .load ty x) {B t : Nat} {cs : List Cel} (hx : a.eval x = .pointer (some ⟨B, 0, none⟩)) (hT : Tab w B t cs)
    (hK : wpList Tryd.prog ops Q rest (a.put o.dst (tabV cs)) w) : wpList Tryd.prog ops Q (o :: rest) a w := by
  refine wpList_plain hg fun K' hK' => ?_
  exact step_val (exec_load_tab hty x hop hx hT) (hK' _ _ hK)
theorem ld_tab {ty : TypeId} (hty : ty = 65 ∨ ty = 65) {x : Operand} (hop : o.op = .load ty x) {B t : Nat} {cs : List Cel} (hx : a.eval x = .pointer (some ⟨B, 0, none⟩)) (hT : Tab w B t cs)
    (hK : K (a.put o.dst (tabV cs)) w) : o.wp Tryd.prog a w K Q := step_val (exec_load_tab hty x hop hx hT) hK

/-- What a store of a whole table leaves. -/
structure TabSet (w w' : World) (B t : Nat) (cs : List Cel) : Prop where
  tab : Tab w' B t cs
  grown : w.grownBy w' (some B)
  others : KeepsOthers w w'
theorem exec_store_tab {ty : TypeId} (hty : ty = 65 ∨ ty = 65) (x y : Operand) (hop : o.op = .store ty x y) {B t : Nat} {cs cs' : List Cel} (hx : a.eval x = .pointer (some ⟨B, 0, none⟩)) (hy : a.eval y = tabV cs') (hT : Tab w B t cs) (hl : cs'.length = 80) :
    ∃ w', (execOp a.eval o).run Tryd.prog w = .ok .skip w' ∧ TabSet w w' B t cs' := by
  have hs : (cs'.map Cel.v).toArray.size = 80 := by simp [hl]
  have hr : (storeVar ty ⟨B, 0, none⟩ (tabV cs')).run Tryd.prog w = .ok () (w.setRow B (cs'.map Cel.v).toArray) := by
    rcases hty with rfl | rfl
    · exact run_storeVar_row w B t 65 _ _ hT.1 (by rw [info31, hs]) (by rw [tab_size hT, hs]) (tab_one _)
    · exact run_storeVar_row w B t 65 _ _ hT.1 (by rw [info68, hs]) (by rw [tab_size hT, hs]) (tab_one _)
  refine ⟨w.setRow B (cs'.map Cel.v).toArray, ?_, ⟨setRow_heap w B _ _ t _ hT.1, hl⟩, ?_, ?_⟩
  · unfold execOp
    simp only [hop, hx, hy, Instr.storeAt, Instr.sureAddr, Sem.run_bind, Sem.run_pure, Result.andThen_ok, hr]
  · exact ⟨rfl, rfl, rfl, by simp, fun k _ hk => setRow_other w B k _ (fun e => hk (by rw [e]))⟩
  · exact KeepsOthers.of_grownBy ⟨rfl, rfl, rfl, by simp, fun k _ hk => setRow_other w B k _ (fun e => hk (by rw [e]))⟩ (fun j ob e h => by cases e; rw [hT.1] at h; cases h; rfl)
theorem wpListIn_store_tab (hg : o.guard = none) (hd : o.dst = none) {ty : TypeId} (hty : ty = 65 ∨ ty = 65) (x y : Operand) (hop : o.op = .store ty x y) {B t : Nat} {cs cs' : List Cel} (hx : a.eval x = .pointer (some ⟨B, 0, none⟩)) (hy : a.eval y = tabV cs') (hT : Tab w B t cs) (hl : cs'.length = 80)
    (hK : ∀ w', TabSet w w' B t cs' → wpListIn F nF Tryd.prog ops Q rest a w') : wpListIn F nF Tryd.prog ops Q (o :: rest) a w := by
  refine wpListIn_plain hg fun K' hK' => ?_
  obtain ⟨w', hr, hs⟩ := exec_store_tab (a := a) hty x y hop hx hy hT hl
  unfold Oper.wpIn
  refine ⟨by simp [Oper.about, hop], ?_⟩
  rw [Oper.semAt_plain F _ _ (by rw [hop]; intro c hc'; cases hc'), hr]
  show K' (a.put o.dst undef) w'
  rw [hd]
  exact hK' a w' (hK w' hs)
theorem wpList_store_tab (hg : o.guard = none) (hd : o.dst = none) {ty : TypeId} (hty : ty = 65 ∨ ty = 65) (x y : Operand) (hop : o.op = .store ty x y) {B t : Nat} {cs cs' : List Cel} (hx : a.eval x = .pointer (some ⟨B, 0, none⟩)) (hy : a.eval y = tabV cs') (hT : Tab w B t cs) (hl : cs'.length = 80)
    (hK : ∀ w', TabSet w w' B t cs' → wpList Tryd.prog ops Q rest a w') : wpList Tryd.prog ops Q (o :: rest) a w := by
  refine wpList_plain hg fun K' hK' => ?_
  obtain ⟨w', hr, hs⟩ := exec_store_tab (a := a) hty x y hop hx hy hT hl
  unfold Oper.wp
  rw [hr]
  show K' (a.put o.dst undef) w'
  rw [hd]
  exact hK' a w' (hK w' hs)
/-- A result that is a whole table. -/
theorem results_tab {fn : Func} {p : Tmp} {ty : TypeId} (hty : ty = 65 ∨ ty = 65) (h : fn.results = #[.cell p ty]) (tmps : Array Value) {B t : Nat} {cs : List Cel} (hp : tmps.getD p undef = .pointer (some ⟨B, 0, none⟩)) (hT : Tab w B t cs) :
    (results fn tmps).run Tryd.prog w = .ok (tabV cs) w := by
  have hp' : tmps[p]?.getD undef = .pointer (some ⟨B, 0, none⟩) := by simpa using hp
  simp [results, h, hp', asAddr, load_tab hty hT]
end
end Go.Proofs.YtjjnhmbgffdenaaDoor
namespace Go.Proofs.YtjjnhmbgffdenaaDoor
open Go.RowKit Go.Sort

def psiPut (BT : Nat) (BX : Nat) (k : Nat) (i : Nat) (c : Cel) : Nat → Value → World → Prop
  | 0, v9, _ => v9 = .pointer (some ⟨BT, 0, none⟩)
  | 1, v9, _ => v9 = .pointer (some ⟨BX, 0, none⟩)
  | 2, v9, _ => v9 = .int .u8 k
  | 3, v9, _ => v9 = .pointer (some ⟨BX, 1, none⟩)
  | 4, v9, _ => v9 = .int .i64 ((i : Int) + 1)
  | 5, v9, _ => v9 = .int .i64 i
  | 6, v9, _ => v9 = c.v
  | 7, v9, w9 => ∃ c2 : Cel, v9 = c2.v ∧ c2.l = c.l ∧ c2.cap = c.l.length ∧ c2.ok w9.heap.size w9
  | 8, v9, _ => v9 = .pointer (some ⟨BT, 0, none⟩)
  | 9, v9, _ => v9 = .pointer (some ⟨BT, k * 40, none⟩)
  | _, _, _ => True
theorem psiPut_stab (BT : Nat) (BX : Nat) (k : Nat) (i : Nat) (c : Cel) (i9 : Nat) (v9 : Value) (w9 w9' : World) (h : psiPut BT BX k i c i9 v9 w9) (_hb : Below w9.heap.size w9 w9') : psiPut BT BX k i c i9 v9 w9' := by
  match i9, h with
  | 0, h => exact h
  | 1, h => exact h
  | 2, h => exact h
  | 3, h => exact h
  | 4, h => exact h
  | 5, h => exact h
  | 6, h => exact h
  | 7, h => exact h.elim fun c2 hh => ⟨c2, hh.1, hh.2.1, hh.2.2.1, (hh.2.2.2.below _hb).mono _hb.size⟩
  | 8, h => exact h
  | 9, h => exact h
  | i9 + 10, _ => exact trivial

end Go.Proofs.YtjjnhmbgffdenaaDoor
namespace Go.Proofs.YtjjnhmbgffdenaaDoor
open Go.RowKit Go.Shelf
attribute [local go_sem] Oper.semAt_some

/-- Eighty empty stacks. -/
def z80 : List Cel := List.replicate 80 Cel.nil
def zA : Array Value := (z80.map Cel.v).toArray
theorem zero68 (w : World) : (zeroValue 65).run Tryd.prog w = .ok (.agg zA) w := by kernel_rfl
theorem zero31 (w : World) : (zeroValue 65).run Tryd.prog w = .ok (.agg zA) w := by kernel_rfl
theorem tab_new (w : World) (t : Nat) : Tab (w.alloc (.cells zA t)) w.heap.size t z80 := ⟨heap_alloc_new w _, by simp [z80]⟩
/-- A table whose stacks have no room for more. -/
def Fine (w : World) (cs : List Cel) : Prop := ∀ c ∈ cs, c.cap = c.l.length ∧ c.ok w.heap.size w
theorem fine_z80 (w : World) : Fine w z80 := fun c hc => by
  obtain rfl := List.eq_of_mem_replicate hc
  exact ⟨rfl, Cel.nil_ok _ _⟩
theorem Fine.set {w : World} {cs : List Cel} (h : Fine w cs) (k : Nat) {c : Cel} (hc : c.cap = c.l.length ∧ c.ok w.heap.size w) : Fine w (cs.set k c) := fun x hx => by
  rcases List.mem_or_eq_of_mem_set hx with h' | rfl
  · exact h x h'
  · exact hc
/-- What lies as cells lies on where others turn. -/
theorem Cel.ok.grown {w w' : World} {row : Option Nat} {c : Cel} (h : c.ok w.heap.size w) (hg : w.grownBy w' row) (hr : ∀ r, row = some r → ∃ o : Obj, w.heap[r]? = some o ∧ o.isCells = false) : c.ok w'.heap.size w' := by
  refine ⟨h.1, h.2.imp id ?_⟩
  rintro ⟨b, o, e, hl, hc⟩
  have hs := hg.size
  exact ⟨b, o, e, by omega, fun i p hp => ⟨cell_kept (hc i p hp).1 hg hr, cell_kept (hc i p hp).2 hg hr⟩⟩
theorem Cel.ok.grown_tab {w w' : World} {c : Cel} (h : c.ok w.heap.size w) {B t : Nat} {cs : List Cel} (ht : Tab w B t cs) (hg : w.grownBy w' (some B)) : c.ok w'.heap.size w' := by
  refine ⟨h.1, h.2.imp id ?_⟩
  rintro ⟨b, o, e, hl, hc⟩
  have hs := hg.size
  refine ⟨b, o, e, by omega, fun i p hp => ?_⟩
  have h2 := hc i p hp
  have hne : b ≠ B := by
    rintro rfl
    have h3 := h2.1
    simp only [World.cell?, ht.1, Option.bind_some] at h3
    have : (cs.map Cel.v)[o + i * 2]? = some (.int .u8 p.y) := by simpa using h3
    rw [List.getElem?_map] at this
    cases hcs : cs[o + i * 2]? with
    | none => rw [hcs] at this; cases this
    | some c' => rw [hcs] at this; simp [Cel.v] at this
  have hb : w'.heap[b]? = w.heap[b]? := hg.block b hl (by simp [hne])
  exact ⟨by rw [World.cell?_of_block (w := w) hb]; exact h2.1, by rw [World.cell?_of_block (w := w) hb]; exact h2.2⟩
theorem Fine.grown_tab {w w' : World} {xs : List Cel} (h : Fine w xs) {B t : Nat} {cs : List Cel} (ht : Tab w B t cs) (hg : w.grownBy w' (some B)) : Fine w' xs := fun c hc => ⟨(h c hc).1, (h c hc).2.grown_tab ht hg⟩
theorem Fine.below {w w' : World} {cs : List Cel} (h : Fine w cs) (hb : Below w.heap.size w w') : Fine w' cs := fun c hc => ⟨(h c hc).1, ((h c hc).2.below hb).mono hb.size⟩
theorem Fine.grown {w w' : World} {row : Option Nat} {cs : List Cel} (h : Fine w cs) (hg : w.grownBy w' row) (hr : ∀ r, row = some r → ∃ o : Obj, w.heap[r]? = some o ∧ o.isCells = false) : Fine w' cs := fun c hc => ⟨(h c hc).1, (h c hc).2.grown hg hr⟩

/-- A round knows besides that the needle is one of forty. -/
def ElP (n : Nat) (w : World) (x : El) : Prop := ElOk n w x ∧ x.i < 40
/-- What a table holds behind some stacks. -/
def fillM (xs : List El) : List (List Nm) := xs.foldl (fun t x => t.set (x.k * 40 + x.i) x.c.l) (List.replicate 80 [])
theorem fillM_snoc (xs : List El) (x : El) : fillM (xs ++ [x]) = (fillM xs).set (x.k * 40 + x.i) x.c.l := by simp [fillM]
/-- The call returns a table that holds this. -/
def NewTab (m : List (List Nm)) (w : World) (e : Ending) (w' : World) : Prop := ∃ cs : List Cel, e = .returned (tabV cs) ∧ Hid (cs.length = 80 ∧ cs.map (fun c => c.l) = m ∧ Fine w' cs) ∧ Below w.heap.size w w'

end Go.Proofs.YtjjnhmbgffdenaaDoor
namespace Go.Proofs.YtjjnhmbgffdenaaDoor
open Go.RowKit Go.Sort

/-- The cells of a bed, one by one. -/
theorem Bed.ok.cells {B : Nat} {w : World} {d : Bed} (h : d.ok B w) : ∀ ad, d.ao = some ad → ∀ j u, (d.cs.map Cel.v)[j]? = some u → w.cell? (ad.add j) = some u := by
  rintro ad e j u hj
  obtain ⟨ao, cs, cap⟩ := d
  obtain rfl : ao = some ad := e
  rcases h.2.2 with h0 | ⟨b, o, h1, h2, h3⟩
  · simp only at h0 hj; subst h0; simp at hj
  · obtain rfl : ad = ⟨b, o, none⟩ := by simpa using h1
    rw [show (⟨b, o, none⟩ : Addr).add j = ⟨b, o + j, none⟩ from Addr.add_lit ..]
    simp only at hj
    rw [List.getElem?_map] at hj
    cases hc : cs[j]? with
    | none => rw [hc] at hj; cases hj
    | some c =>
      rw [hc] at hj
      obtain rfl : c.v = u := by simpa using hj
      exact h3 j c hc

/-- A bed in new memory that has no room for more. -/
def NewBed (cs : List Cel) (w : World) (e : Ending) (w' : World) : Prop := ∃ d : Bed, e = .returned d.v ∧ Hid (d.cs = cs ∧ d.cap = cs.length ∧ d.ok w'.heap.size w' ∧ ∀ b o, d.ao = some ⟨b, o, none⟩ → w.heap.size ≤ b) ∧ Below w.heap.size w w'

/-- A value that is a slice. -/
def IsSl (v : Value) : Prop := ∃ a n c, v = .slice a n c
theorem Cel.ok.set_box {n : Nat} {w : World} {c : Cel} (h : c.ok n w) {B t : Nat} {u v : Value} (hb : Boxed2 w B t u v) (hu : IsSl u) (hv : IsSl v) (k : Nat) (x : Value) : c.ok n (w.setCell ⟨B, k, none⟩ x) := by
  refine ⟨h.1, h.2.imp id ?_⟩
  rintro ⟨b, o, e, hl, hc⟩
  refine ⟨b, o, e, hl, fun i p hp => ?_⟩
  have h2 := hc i p hp
  have hne : b ≠ B := by
    rintro rfl
    have h3 := h2.1
    obtain ⟨_, _, _, rfl⟩ := hu
    obtain ⟨_, _, _, rfl⟩ := hv
    simp only [World.cell?, show w.heap[b]? = _ from hb, Option.bind_some] at h3
    generalize o + i * 2 = q at h3
    match q, h3 with
    | 0, h3 => simp at h3
    | 1, h3 => simp at h3
    | q + 2, h3 => simp at h3
  exact ⟨by rw [World.cell?_setCell_other _ _ _ _ (by simp [hne])]; exact h2.1, by rw [World.cell?_setCell_other _ _ _ _ (by simp [hne])]; exact h2.2⟩
theorem Bed.ok.set_box {n : Nat} {w : World} {d : Bed} (h : d.ok n w) {B t : Nat} {u v : Value} (hb : Boxed2 w B t u v) (hu : IsSl u) (hv : IsSl v) (hne : ∀ b o, d.ao = some ⟨b, o, none⟩ → b ≠ B) (k : Nat) (x : Value) : d.ok n (w.setCell ⟨B, k, none⟩ x) := by
  refine ⟨h.1, fun c hc => (h.2.1 c hc).set_box hb hu hv k x, h.2.2.imp id ?_⟩
  rintro ⟨b, o, e, hl, hc⟩
  refine ⟨b, o, e, hl, fun i c hci => ?_⟩
  have h9 := hne b o e
  rw [World.cell?_setCell_other _ _ _ _ (by simp [h9])]
  exact hc i c hci
theorem isSl_mk (a : Option Addr) (n c : Nat) : IsSl (.slice a n c) := ⟨_, _, _, rfl⟩
/-- What 'short' leaves. -/
def shortN (cs : List Cel) (n : Nat) : Prop := n ≤ cs.length ∧ (∀ i, n ≤ i → ∀ c, cs[i]? = some c → c.l = []) ∧ ∀ c, 0 < n → cs[n - 1]? = some c → c.l ≠ []
/-- The first stacks of a bed. -/
def Bed.take (d : Bed) (n : Nat) : Bed := ⟨d.ao, d.cs.take n, d.cap⟩
theorem Bed.ok.take {B : Nat} {w : World} {d : Bed} (h : d.ok B w) (n : Nat) : (d.take n).ok B w := by
  refine ⟨?_, fun c hc => h.2.1 c (List.mem_of_mem_take hc), ?_⟩
  · simp only [Bed.take, List.length_take]; have := h.1; omega
  · rcases h.2.2 with h0 | ⟨b, o, h1, h2, h3⟩
    · exact .inl (by simp [Bed.take, h0])
    · refine .inr ⟨b, o, h1, h2, fun i c hc => h3 i c ?_⟩
      simp only [Bed.take] at hc
      rw [List.getElem?_take] at hc
      split at hc
      · exact hc
      · cases hc

end Go.Proofs.YtjjnhmbgffdenaaDoor
namespace Go.Proofs.YtjjnhmbgffdenaaDoor
open Go.RowKit Go.Sort

/-- Beds that are short, of a table. -/
def ShortOf (cs : List Cel) (bd : Bds) : Prop := ∃ nf nb, shortN (cs.take 40) nf ∧ shortN (cs.drop 40) nb ∧ bd.f.cs = (cs.take 40).take nf ∧ bd.b.cs = (cs.drop 40).take nb ∧ bd.f.cap = bd.f.cs.length ∧ bd.b.cap = bd.b.cs.length
/-- The call returns the short beds of a table. -/
def NewBeds (cs : List Cel) (w : World) (e : Ending) (w' : World) : Prop := ∃ bd : Bds, e = .returned bd.v ∧ Hid (ShortOf cs bd ∧ bd.ok w'.heap.size w' ∧ (∀ b o, bd.f.ao = some ⟨b, o, none⟩ → w.heap.size ≤ b) ∧ ∀ b o, bd.b.ao = some ⟨b, o, none⟩ → w.heap.size ≤ b) ∧ Below w.heap.size w w'
/-- Half of a table as a bed. -/
theorem half_ok {w : World} {BT t : Nat} {cs : List Cel} (hT : Tab w BT t cs) (hF : Fine w cs) (k : Nat) (hk : k < 2) : Bed.ok w.heap.size w ⟨some ⟨BT, k * 40, none⟩, (cs.drop (k * 40)).take 40, 40⟩ := by
  refine ⟨by simp only [List.length_take, List.length_drop]; omega, fun c hc => (hF c (List.mem_of_mem_drop (List.mem_of_mem_take hc))).2, .inr ⟨BT, k * 40, rfl, hT.lt, fun i c hc => ?_⟩⟩
  simp only at hc
  rw [List.getElem?_take] at hc
  split at hc
  · rename_i hi
    rw [List.getElem?_drop] at hc
    obtain ⟨h1, rfl⟩ := List.getElem?_eq_some_iff.1 hc
    exact hT.cell (by omega)
  · cases hc

def psiTB (BT : Nat) (BR : Nat) (cs : List Cel) : Nat → Value → World → Prop
  | 0, v9, _ => v9 = .pointer (some ⟨BT, 0, none⟩)
  | 1, v9, _ => v9 = .pointer (some ⟨BT, 0, none⟩)
  | 2, v9, _ => v9 = .pointer (some ⟨BT, 0, none⟩)
  | 3, v9, _ => v9 = .slice (some ⟨BT, 0, none⟩) 40 40
  | 4, v9, w9 => ∃ (n : Nat) (d2 : Bed), v9 = d2.v ∧ shortN (cs.take 40) n ∧ d2.cs = (cs.take 40).take n ∧ d2.cap = d2.cs.length ∧ d2.ok w9.heap.size w9 ∧ ∀ b o, d2.ao = some ⟨b, o, none⟩ → BR < b
  | 5, v9, _ => v9 = .pointer (some ⟨BT, 0, none⟩)
  | 6, v9, _ => v9 = .pointer (some ⟨BT, 0, none⟩)
  | 7, v9, _ => v9 = .pointer (some ⟨BT, 40, none⟩)
  | 8, v9, _ => v9 = .slice (some ⟨BT, 40, none⟩) 40 40
  | _, _, _ => True
theorem psiTB_stab (BT : Nat) (BR : Nat) (cs : List Cel) (i9 : Nat) (v9 : Value) (w9 w9' : World) (h : psiTB BT BR cs i9 v9 w9) (_hb : Below w9.heap.size w9 w9') : psiTB BT BR cs i9 v9 w9' := by
  match i9, h with
  | 0, h => exact h
  | 1, h => exact h
  | 2, h => exact h
  | 3, h => exact h
  | 4, h => exact (by obtain ⟨n, d2, h1, h2, h3, h4, h5, h6⟩ := h; exact ⟨n, d2, h1, h2, h3, h4, (h5.below _hb).mono _hb.size, h6⟩)
  | 5, h => exact h
  | 6, h => exact h
  | 7, h => exact h
  | 8, h => exact h
  | i9 + 9, _ => exact trivial

end Go.Proofs.YtjjnhmbgffdenaaDoor
namespace Go.Proofs.YtjjnhmbgffdenaaDoor
open Go.RowKit Go.Sort

def catL (cs : List Cel) : List Nm := (cs.map fun c => c.l).flatten
theorem catL_take_succ (cs : List Cel) {k : Nat} (hk : k < cs.length) : catL (cs.take (k + 1)) = catL (cs.take k) ++ cs[k].l := by
  unfold catL
  rw [List.take_succ_eq_append_getElem hk, List.map_append, List.flatten_append]
  simp only [List.map_cons, List.map_nil, List.flatten_cons, List.flatten_nil, List.append_nil]
theorem catL_take_le (cs : List Cel) (k : Nat) : (catL (cs.take k)).length ≤ (catL cs).length := by
  have h : catL cs = catL (cs.take k) ++ catL (cs.drop k) := by
    unfold catL
    rw [← List.flatten_append, ← List.map_append, List.take_append_drop]
  rw [h, List.length_append]
  exact Nat.le_add_right _ _
/-- A list in the call's own memory. -/
def NewOwn (l : List Nm) (w : World) (e : Ending) (w' : World) : Prop := ∃ c : Cel, e = .returned c.v ∧ Hid (c.l = l ∧ c.ok w'.heap.size w') ∧ Below w.heap.size w w'

end Go.Proofs.YtjjnhmbgffdenaaDoor
namespace Go.Proofs.YtjjnhmbgffdenaaDoor
open Go.RowKit Go.Shelf
attribute [local go_sem] Oper.semAt_some

def cntM (xs : List El) : Nat := (xs.map fun x => if isN x.k ((x.i : Int) + 1) = true then x.c.l.length else 0).sum
theorem cntM_snoc (xs : List El) (x : El) : cntM (xs ++ [x]) = cntM xs + if isN x.k ((x.i : Int) + 1) = true then x.c.l.length else 0 := by simp [cntM]
theorem cntM_le {n : Nat} {w : World} (xs : List (Al n w)) : cntM (xs.map fun x => x.1) ≤ xs.length * 100 := by
  induction xs with
  | nil => simp [cntM]
  | cons x xs ih =>
    have h : x.1.c.l.length ≤ 100 := x.2.2.2.1
    simp only [cntM, List.map_cons, List.sum_cons, List.length_cons] at ih ⊢
    split <;> omega

end Go.Proofs.YtjjnhmbgffdenaaDoor
namespace Go.Proofs.YtjjnhmbgffdenaaDoor
open Go.RowKit Go.Shelf
attribute [local go_sem] Oper.semAt_some

/-- Whether a needle that is valid holds a name. -/
def holds (p : Nm) (x : El) : Bool := isN x.k ((x.i : Int) + 1) && decide (p ∈ x.c.l)
/-- What 'Find' returns. -/
def findV (d : Bds) (p : Nm) : Value := match d.els.find? (holds p) with
  | some x => .tuple #[x.nv, .int .i64 0]
  | none => .tuple #[.agg #[.int .u8 0, .int .i64 0], .int .i64 7]
theorem find_none {p : Nm} {xs : List El} (h : ∀ x ∈ xs, holds p x = false) : xs.find? (holds p) = none := by
  rw [List.find?_eq_none]; intro x hx; simp [h x hx]
theorem find_some {p : Nm} {xs ini : List El} {x : El} (hp : ini ++ [x] <+: xs) (h : ∀ x ∈ ini, holds p x = false) (hx : holds p x = true) : xs.find? (holds p) = some x := by
  obtain ⟨r, rfl⟩ := hp
  rw [List.append_assoc, List.find?_append, find_none h]
  simp [hx]

end Go.Proofs.YtjjnhmbgffdenaaDoor
namespace Go.Proofs.YtjjnhmbgffdenaaDoor
open Go.RowKit Go.Shelf
attribute [local go_sem] Oper.semAt_some

/-- Whether a needle holds the same in other beds. -/
def sameAt (d' : Bds) (x : El) : Bool := decide (x.c.l = ((d'.bed x.k).cel x.i).l)
end Go.Proofs.YtjjnhmbgffdenaaDoor
namespace Go.Proofs.YtjjnhmbgffdenaaDoor
open Go.RowKit

/-- The beds hold what the table T says: the needle i + 1 of the bed k holds T's place k * 40 + i. -/
structure Reads (T : List (List Nm)) (d : Bds) : Prop where
  len : T.length = 80
  cel : ∀ k, k < 2 → ∀ i, i < 40 → ((d.bed k).cel i).l = T.getD (k * 40 + i) []
  f40 : d.f.cs.length ≤ 40
  b40 : d.b.cs.length ≤ 40
/-- .. and are short. -/
structure Tight (d : Bds) : Prop where
  f : d.f.cap = d.f.cs.length
  b : d.b.cap = d.b.cs.length
  fl : ∀ c, 0 < d.f.cs.length → d.f.cs[d.f.cs.length - 1]? = some c → c.l ≠ []
  bl : ∀ c, 0 < d.b.cs.length → d.b.cs[d.b.cs.length - 1]? = some c → c.l ≠ []

theorem cel_take {cs : List Cel} {n : Nat} (h : shortN cs n) (ao : Option Addr) (cap i : Nat) : (Bed.cel ⟨ao, cs.take n, cap⟩ i).l = (cs.getD i Cel.nil).l := by
  unfold Bed.cel
  simp only [List.getD_eq_getElem?_getD]
  rw [List.getElem?_take]
  split
  · rfl
  · rename_i hi
    cases hc : cs[i]? with
    | none => rfl
    | some c => rw [Option.getD_none, Option.getD_some, h.2.1 i (by omega) c hc]; rfl
theorem reads_of {cs : List Cel} {d : Bds} (hl : cs.length = 80) (h : ShortOf cs d) : Reads (cs.map fun c => c.l) d ∧ Tight d := by
  obtain ⟨nf, nb, hf, hb, ef, eb, cf, cb⟩ := h
  obtain ⟨⟨fa, fs, fc⟩, ⟨ba, bs, bc⟩⟩ := d
  simp only at ef eb cf cb
  have lf : fs.length = nf := by rw [ef, List.length_take]; exact Nat.min_eq_left hf.1
  have lb : bs.length = nb := by rw [eb, List.length_take]; exact Nat.min_eq_left hb.1
  have h40 : (cs.take 40).length = 40 := by rw [List.length_take]; omega
  have h40' : (cs.drop 40).length = 40 := by rw [List.length_drop]; omega
  refine ⟨⟨by simpa using hl, fun k hk i hi => ?_, ?_, ?_⟩, ⟨cf, cb, fun c h0 hc => ?_, fun c h0 hc => ?_⟩⟩
  · have key : ∀ j, ((cs.map fun c => c.l).getD j []) = (cs.getD j Cel.nil).l := fun j => by
      simp only [List.getD_eq_getElem?_getD, List.getElem?_map]
      cases cs[j]? <;> rfl
    rw [key]
    obtain rfl | rfl : k = 0 ∨ k = 1 := by omega
    · simp only [Bds.bed, if_true, ef]
      rw [cel_take hf]
      simp only [List.getD_eq_getElem?_getD, List.getElem?_take, hi, if_true, Nat.zero_mul, Nat.zero_add]
    · simp only [Bds.bed, Nat.one_ne_zero, if_false, eb]
      rw [cel_take hb]
      simp only [List.getD_eq_getElem?_getD, List.getElem?_drop, Nat.one_mul]
  · simp only; have := hf.1; omega
  · simp only; have := hb.1; omega
  · simp only at h0 hc
    rw [lf] at h0 hc
    refine hf.2.2 c h0 ?_
    rw [ef, List.getElem?_take, if_pos (by omega)] at hc
    exact hc
  · simp only at h0 hc
    rw [lb] at h0 hc
    refine hb.2.2 c h0 ?_
    rw [eb, List.getElem?_take, if_pos (by omega)] at hc
    exact hc

section
variable {T : List (List Nm)} {d : Bds}
theorem mem_els {x : El} (hx : x ∈ d.els) : x.k < 2 ∧ x.i < (d.bed x.k).cs.length ∧ (d.bed x.k).cel x.i = x.c := by
  unfold Bds.els at hx
  rcases List.mem_append.1 hx with hx | hx
  · simp only [Bed.els, List.mem_mapIdx] at hx
    obtain ⟨i, hi, rfl⟩ := hx
    refine ⟨by simp, by simpa [Bds.bed] using hi, ?_⟩
    simp [Bds.bed, Bed.cel, hi]
  · simp only [Bed.els, List.mem_mapIdx] at hx
    obtain ⟨i, hi, rfl⟩ := hx
    refine ⟨by simp, by simpa [Bds.bed] using hi, ?_⟩
    simp [Bds.bed, Bed.cel, hi]
theorem els_mem {k i : Nat} (hk : k < 2) (hi : i < (d.bed k).cs.length) : (⟨k, i, (d.bed k).cel i⟩ : El) ∈ d.els := by
  unfold Bds.els
  rw [List.mem_append]
  obtain rfl | rfl : k = 0 ∨ k = 1 := by omega
  · left
    simp only [Bds.bed, if_true] at hi ⊢
    simp only [Bed.els, List.mem_mapIdx]
    exact ⟨i, hi, by simp [Bed.cel, hi]⟩
  · right
    simp only [Bds.bed, Nat.one_ne_zero, if_false] at hi ⊢
    simp only [Bed.els, List.mem_mapIdx]
    exact ⟨i, hi, by simp [Bed.cel, hi]⟩
theorem Reads.i40 (h : Reads T d) {x : El} (hx : x ∈ d.els) : x.i < 40 := by
  obtain ⟨hk, hi, _⟩ := mem_els hx
  have : (d.bed x.k).cs.length ≤ 40 := by unfold Bds.bed; split; exact h.f40; exact h.b40
  omega
theorem Reads.at_el (h : Reads T d) {x : El} (hx : x ∈ d.els) : T.getD (x.k * 40 + x.i) [] = x.c.l := by
  obtain ⟨hk, hi, hc⟩ := mem_els hx
  rw [← h.cel _ hk _ (h.i40 hx), hc]
/-- What is not empty is an element. -/
theorem Reads.el_of (h : Reads T d) {k i : Nat} (hk : k < 2) (hi : i < 40) (hne : T.getD (k * 40 + i) [] ≠ []) : ∃ x ∈ d.els, x.k = k ∧ x.i = i := by
  by_cases hl : i < (d.bed k).cs.length
  · exact ⟨_, els_mem hk hl, rfl, rfl⟩
  · exfalso
    apply hne
    rw [← h.cel k hk i hi]
    unfold Bed.cel
    rw [List.getD_eq_getElem?_getD, List.getElem?_eq_none (by omega)]
    rfl

/-- A table that is filled from its own elements. -/
theorem foldl_set (g : Nat → List Nm) (xs : List El) : ∀ (t : List (List Nm)), (∀ x ∈ xs, g (x.k * 40 + x.i) = x.c.l) → ∀ j, (xs.foldl (fun t x => t.set (x.k * 40 + x.i) x.c.l) t)[j]? =
    if (∃ x ∈ xs, x.k * 40 + x.i = j) ∧ j < t.length then some (g j) else t[j]? := by
  induction xs with
  | nil => intro t _ j; simp
  | cons x xs ih =>
    intro t h j
    rw [List.foldl_cons, ih _ (fun y hy => h y (List.mem_cons_of_mem _ hy)), List.length_set]
    by_cases h1 : ∃ y ∈ xs, y.k * 40 + y.i = j
    · by_cases h2 : j < t.length
      · rw [if_pos ⟨h1, h2⟩, if_pos ⟨by obtain ⟨y, hy, e⟩ := h1; exact ⟨y, List.mem_cons_of_mem _ hy, e⟩, h2⟩]
      · rw [if_neg (fun hh => h2 hh.2), if_neg (fun hh => h2 hh.2), List.getElem?_eq_none (by simp; omega), List.getElem?_eq_none (by omega)]
    · rw [if_neg (fun hh => h1 hh.1)]
      by_cases h3 : x.k * 40 + x.i = j
      · subst h3
        by_cases h2 : x.k * 40 + x.i < t.length
        · rw [if_pos ⟨⟨x, List.mem_cons_self .., rfl⟩, h2⟩, List.getElem?_set_self h2, h x (List.mem_cons_self ..)]
        · rw [if_neg (fun hh => h2 hh.2), List.getElem?_eq_none (by simp; omega), List.getElem?_eq_none (by omega)]
      · rw [List.getElem?_set_ne h3, if_neg]
        rintro ⟨⟨y, hy, e⟩, _⟩
        rcases List.mem_cons.1 hy with rfl | hy
        · exact h3 e
        · exact h1 ⟨y, hy, e⟩
theorem Reads.fill (h : Reads T d) : fillM d.els = T := by
  apply List.ext_getElem?
  intro j
  unfold fillM
  rw [foldl_set (fun j => T.getD j []) d.els _ (fun x hx => h.at_el hx) j, List.length_replicate]
  by_cases hj : j < 80
  · have hT : T[j]? = some (T.getD j []) := by rw [List.getD_eq_getElem?_getD, List.getElem?_eq_getElem (by rw [h.len]; exact hj)]; rfl
    by_cases h1 : ∃ x ∈ d.els, x.k * 40 + x.i = j
    · rw [if_pos ⟨h1, hj⟩, hT]
    · rw [if_neg (fun hh => h1 hh.1), hT, List.getElem?_replicate, if_pos hj]
      congr 1
      by_cases hne : T.getD j [] = []
      · rw [hne]
      · exfalso
        obtain ⟨x, hx, hk, hi⟩ := h.el_of (k := j / 40) (i := j % 40) (by omega) (by omega) (by rw [show j / 40 * 40 + j % 40 = j by omega]; exact hne)
        exact h1 ⟨x, hx, by rw [hk, hi]; omega⟩
  · rw [if_neg (fun hh => hj hh.2), List.getElem?_eq_none (by rw [List.length_replicate]; omega), List.getElem?_eq_none (by rw [h.len]; omega)]
end
end Go.Proofs.YtjjnhmbgffdenaaDoor
namespace Go.Proofs.YtjjnhmbgffdenaaDoor
open Go.RowKit

theorem flatten_range (cs : List Cel) : ∀ m, cs.length ≤ m → ((List.range m).map fun i => (cs.getD i Cel.nil).l).flatten = cs.flatMap fun c => c.l := by
  intro m
  induction m with
  | zero => intro h; obtain rfl : cs = [] := List.eq_nil_of_length_eq_zero (by omega); rfl
  | succ m ih =>
    intro h
    rw [List.range_succ, List.map_append, List.flatten_append, List.map_singleton]
    by_cases h1 : cs.length ≤ m
    · rw [ih h1]
      simp [List.getD_eq_getElem?_getD, List.getElem?_eq_none h1, Cel.nil]
    · have hm : cs.length = m + 1 := by omega
      have e : cs = cs.take m ++ [cs.getD m Cel.nil] := by
        have h2 := List.take_succ_eq_append_getElem (l := cs) (i := m) (by omega)
        rw [List.take_of_length_le (by omega)] at h2
        rw [List.getD_eq_getElem?_getD, List.getElem?_eq_getElem (by omega)]
        exact h2
      have e2 : ((List.range m).map fun i => (cs.getD i Cel.nil).l) = ((List.range m).map fun i => ((cs.take m).getD i Cel.nil).l) := by
        refine List.map_congr_left fun i hi => ?_
        have := List.mem_range.1 hi
        simp only [List.getD_eq_getElem?_getD]
        rw [List.getElem?_take, if_pos this]
      have ih' : ∀ cs' : List Cel, cs'.length = m → ((List.range m).map fun i => (cs'.getD i Cel.nil).l).flatten = cs'.flatMap fun c => c.l := fun cs' hl => by
        have h3 : ((List.range m).map fun i => (cs'.getD i Cel.nil).l) = cs'.map fun c => c.l := by
          apply List.ext_getElem?
          intro i
          by_cases hi : i < m
          · rw [List.getElem?_map, List.getElem?_range hi, List.getElem?_map, List.getElem?_eq_getElem (by omega)]
            simp [List.getD_eq_getElem?_getD, List.getElem?_eq_getElem (show i < cs'.length by omega)]
          · rw [List.getElem?_eq_none (by simp; omega), List.getElem?_eq_none (by simp; omega)]
        rw [h3, List.flatMap_def]
      rw [e2, ih' (cs.take m) (by rw [List.length_take]; omega)]
      conv => rhs; rw [e]
      rw [List.flatMap_append]
      simp

section
variable {T : List (List Nm)} {d : Bds}
theorem bed_names (b : Bed) (k : Nat) : names (b.els k) = b.cs.flatMap fun c => c.l := by
  unfold names Bed.els
  rw [List.flatMap_def, List.flatMap_def]
  congr 1
  apply List.ext_getElem?
  intro i
  simp
  cases b.cs[i]? <;> rfl
theorem Reads.names (h : Reads T d) : names d.els = T.flatten := by
  have e : T = ((List.range 40).map fun i => (d.f.cs.getD i Cel.nil).l) ++ ((List.range 40).map fun i => (d.b.cs.getD i Cel.nil).l) := by
    apply List.ext_getElem?
    intro j
    by_cases hj : j < 80
    · have hT : T[j]? = some (T.getD j []) := by rw [List.getD_eq_getElem?_getD, List.getElem?_eq_getElem (by rw [h.len]; exact hj)]; rfl
      rw [hT]
      by_cases h1 : j < 40
      · rw [List.getElem?_append_left (by simpa using h1), List.getElem?_map, List.getElem?_range h1]
        have := h.cel 0 (by omega) j h1
        simp only [Bds.bed, if_true, Nat.zero_mul, Nat.zero_add] at this
        rw [← this]; rfl
      · rw [List.getElem?_append_right (by simp; omega), List.getElem?_map]
        simp only [List.length_map, List.length_range]
        rw [List.getElem?_range (by omega)]
        have := h.cel 1 (by omega) (j - 40) (by omega)
        simp only [Bds.bed, Nat.one_ne_zero, if_false, Nat.one_mul] at this
        rw [show 40 + (j - 40) = j by omega] at this
        rw [← this]; rfl
    · rw [List.getElem?_eq_none (by rw [h.len]; omega), List.getElem?_eq_none (by simp; omega)]
  unfold Bds.els
  rw [show YtjjnhmbgffdenaaDoor.names (d.f.els 0 ++ d.b.els 1) = YtjjnhmbgffdenaaDoor.names (d.f.els 0) ++ YtjjnhmbgffdenaaDoor.names (d.b.els 1) by simp [YtjjnhmbgffdenaaDoor.names], bed_names, bed_names]
  conv => rhs; rw [e]
  rw [List.flatten_append, flatten_range _ 40 h.f40, flatten_range _ 40 h.b40]
/-- A table that beds may hold. -/
structure TOk (T : List (List Nm)) : Prop where
  len : T.length = 80
  st : ∀ l ∈ T, l.length ≤ 4 ∧ ∀ p ∈ l, Named p
  once : T.flatten.Nodup
theorem getD_mem_or {l : List (List Nm)} (j : Nat) : l.getD j [] ∈ l ∨ l.getD j [] = [] := by
  rw [List.getD_eq_getElem?_getD]
  cases h : l[j]? with
  | none => exact .inr rfl
  | some x => exact .inl (List.mem_of_getElem? h)
theorem Reads.good (h : Reads T d) (hT : TOk T) : d.good := by
  refine ⟨h.f40, h.b40, fun x hx => ?_, by rw [h.names]; exact hT.once⟩
  rw [← h.at_el hx]
  rcases getD_mem_or (l := T) (x.k * 40 + x.i) with h1 | h1
  · exact hT.st _ h1
  · rw [h1]; exact ⟨by simp, fun p hp => by cases hp⟩
theorem Reads.isN (h : Reads T d) {x : El} (hx : x ∈ d.els) : isN x.k ((x.i : Int) + 1) = true := by
  have h1 := (mem_els hx).1
  have h2 := h.i40 hx
  exact isN_mk (by omega)
theorem cntM_eq {xs : List El} (h : ∀ x ∈ xs, isN x.k ((x.i : Int) + 1) = true) : cntM xs = (names xs).length := by
  induction xs with
  | nil => rfl
  | cons x xs ih =>
    have h1 := h x (List.mem_cons_self ..)
    have h2 := ih (fun y hy => h y (List.mem_cons_of_mem _ hy))
    simp only [cntM, names, List.map_cons, List.sum_cons, List.flatMap_cons, List.length_append, h1, if_true] at h2 ⊢
    rw [h2]
theorem Reads.cnt (h : Reads T d) : cntM d.els = T.flatten.length := by rw [cntM_eq fun x hx => h.isN hx, h.names]
/-- A needle as a value, by its index. -/
def ndlV (j : Nat) : Value := .agg #[.int .u8 ((j / 40 : Nat) : Int), .int .i64 (((j % 40 : Nat) : Int) + 1)]
theorem Reads.find_no (h : Reads T d) {p : Nm} (hp : p ∉ T.flatten) : findV d p = .tuple #[.agg #[.int .u8 0, .int .i64 0], .int .i64 7] := by
  unfold findV
  rw [find_none fun x hx => ?_]
  unfold holds
  have : p ∉ x.c.l := fun h9 => hp (by rw [← h.names]; exact List.mem_flatMap.2 ⟨x, hx, h9⟩)
  simp [this]
theorem Reads.find_yes (h : Reads T d) {p : Nm} {j : Nat} (hj : j < 80) (hp : p ∈ T.getD j []) (hu : ∀ j', j' < 80 → p ∈ T.getD j' [] → j' = j) : findV d p = .tuple #[ndlV j, .int .i64 0] := by
  obtain ⟨x, hx, hk, hi⟩ := h.el_of (k := j / 40) (i := j % 40) (by omega) (by omega) (by rw [show j / 40 * 40 + j % 40 = j by omega]; exact List.ne_nil_of_mem hp)
  unfold findV
  cases hf : d.els.find? (holds p) with
  | none =>
    exfalso
    have := List.find?_eq_none.1 hf x hx
    apply this
    have h2 := h.at_el hx
    rw [hk, hi, show j / 40 * 40 + j % 40 = j by omega] at h2
    unfold holds
    rw [h.isN hx, ← h2, Bool.true_and]
    exact decide_eq_true hp
  | some y =>
    have hy := List.mem_of_find?_eq_some hf
    have hh := List.find?_some hf
    have hpy : p ∈ y.c.l := by simp [holds] at hh; exact hh.2
    have hyk := (mem_els hy).1
    have hyi := h.i40 hy
    have := hu (y.k * 40 + y.i) (by omega) (by rw [h.at_el hy]; exact hpy)
    simp only
    congr 1
    have e1 : y.k = j / 40 := by omega
    have e2 : y.i = j % 40 := by omega
    simp [ndlV, El.nv, e1, e2]

/-- The same, of beds that may have empty stacks behind the fortieth needle. -/
structure Reads0 (T : List (List Nm)) (d : Bds) : Prop where
  len : T.length = 80
  cel : ∀ k, k < 2 → ∀ i, ((d.bed k).cel i).l = if i < 40 then T.getD (k * 40 + i) [] else []
theorem Reads.zero (h : Reads T d) : Reads0 T d := ⟨h.len, fun k hk i => by
  split
  · rename_i hi; exact h.cel k hk i hi
  · rename_i hi
    have : (d.bed k).cs.length ≤ 40 := by unfold Bds.bed; split; exact h.f40; exact h.b40
    unfold Bed.cel
    rw [List.getD_eq_getElem?_getD, List.getElem?_eq_none (by omega)]
    rfl⟩
theorem same_iff {T' : List (List Nm)} {d' : Bds} (h : Reads0 T d) (h' : Reads0 T' d') : (d.els.all (sameAt d') && d'.els.all (sameAt d)) = decide (T = T') := by
  have key : ∀ {A B : List (List Nm)} {a b : Bds}, Reads0 A a → Reads0 B b → A = B → a.els.all (sameAt b) = true := fun {A B a b} ha hb e => by
    refine List.all_eq_true.2 fun x hx => decide_eq_true ?_
    obtain ⟨hk, hi, hc⟩ := mem_els hx
    rw [← hc, ha.cel _ hk, hb.cel _ hk, e]
  by_cases e : T = T'
  · rw [decide_eq_true e, key h h' e, key h' h e.symm]; rfl
  · rw [decide_eq_false e, Bool.and_eq_false_iff]
    by_cases h1 : d.els.all (sameAt d') = true
    · by_cases h2 : d'.els.all (sameAt d) = true
      · exfalso
        apply e
        apply List.ext_getElem?
        intro j
        by_cases hj : j < 80
        · have g : ∀ (A : List (List Nm)), A.length = 80 → A[j]? = some (A.getD j []) := fun A hA => by rw [List.getD_eq_getElem?_getD, List.getElem?_eq_getElem (by rw [hA]; exact hj)]; rfl
          rw [g T h.len, g T' h'.len]
          congr 1
          have a1 := h.cel (j / 40) (by omega) (j % 40)
          have a2 := h'.cel (j / 40) (by omega) (j % 40)
          rw [if_pos (by omega), show j / 40 * 40 + j % 40 = j by omega] at a1 a2
          rw [← a1, ← a2]
          by_cases l1 : j % 40 < (d.bed (j / 40)).cs.length
          · have := List.all_eq_true.1 h1 _ (els_mem (d := d) (by omega) l1)
            exact of_decide_eq_true this
          · by_cases l2 : j % 40 < (d'.bed (j / 40)).cs.length
            · have := List.all_eq_true.1 h2 _ (els_mem (d := d') (by omega) l2)
              exact (of_decide_eq_true this).symm
            · unfold Bed.cel
              rw [List.getD_eq_getElem?_getD, List.getD_eq_getElem?_getD, List.getElem?_eq_none (by omega), List.getElem?_eq_none (by omega)]
        · rw [List.getElem?_eq_none (by rw [h.len]; omega), List.getElem?_eq_none (by rw [h'.len]; omega)]
      · right; simpa using h2
    · left; simpa using h1
end
end Go.Proofs.YtjjnhmbgffdenaaDoor
namespace Go.Proofs.YtjjnhmbgffdenaaDoor
open Go.RowKit Go.Sort

end Go.Proofs.YtjjnhmbgffdenaaDoor
namespace Go.Proofs.YtjjnhmbgffdenaaDoor
open Go.RowKit Go.Sort

/-- The table in which a needle holds other loops. -/
def setT (T : List (List Nm)) (b a : Int) (l : List Nm) : List (List Nm) := T.set (b.toNat * 40 + (a - 1).toNat) l
def setErr (T : List (List Nm)) (b a : Int) (l : List Nm) : Int :=
  if isN b a = false ∨ allNamed l = false then 1 else if 4 < l.length then 9 else if (setT T b a l).flatten.Nodup then 0 else 8
def zBeds : Value := .agg #[.slice none 0 0, .slice none 0 0]
/-- What a change of valid beds returns: an error and no beds, or the beds of the new table. -/
def Changed (T' : List (List Nm)) (err : Int) (w : World) (e : Ending) (w' : World) : Prop :=
  ∃ V, e = .returned (.tuple #[V, .int .i64 err]) ∧ Hid ((err ≠ 0 → V = zBeds) ∧ (err = 0 → ∃ bd : Bds, V = bd.v ∧ Reads T' bd ∧ Tight bd ∧ bd.ok w'.heap.size w' ∧ (∀ b o, bd.f.ao = some ⟨b, o, none⟩ → w.heap.size ≤ b) ∧ ∀ b o, bd.b.ao = some ⟨b, o, none⟩ → w.heap.size ≤ b)) ∧ Below w.heap.size w w'
theorem changed_no {T' : List (List Nm)} {err : Int} (h : err ≠ 0) {w w' : World} (hb : Below w.heap.size w w') : Changed T' err w (.returned (.tuple #[zBeds, .int .i64 err])) w' :=
  ⟨_, rfl, Lib.hid ⟨fun _ => rfl, fun h' => absurd h' h⟩, hb⟩
theorem setErr_1 {T : List (List Nm)} {b a : Int} {l : List Nm} (h : isN b a = false ∨ allNamed l = false) : setErr T b a l = 1 := if_pos h
theorem setErr_9 {T : List (List Nm)} {b a : Int} {l : List Nm} (h1 : isN b a = true) (h2 : allNamed l = true) (h : 4 < l.length) : setErr T b a l = 9 := by
  unfold setErr; rw [if_neg (by rw [h1, h2]; simp), if_pos h]
theorem setErr_8 {T : List (List Nm)} {b a : Int} {l : List Nm} (h1 : isN b a = true) (h2 : allNamed l = true) (h : l.length ≤ 4) (h3 : ¬ (setT T b a l).flatten.Nodup) : setErr T b a l = 8 := by
  unfold setErr; rw [if_neg (by rw [h1, h2]; simp), if_neg (by omega), if_neg h3]
theorem setErr_0 {T : List (List Nm)} {b a : Int} {l : List Nm} (h1 : isN b a = true) (h2 : allNamed l = true) (h : l.length ≤ 4) (h3 : (setT T b a l).flatten.Nodup) : setErr T b a l = 0 := by
  unfold setErr; rw [if_neg (by rw [h1, h2]; simp), if_neg (by omega), if_pos h3]
theorem allNamed_iff {l : List Nm} (h : allNamed l = true) : ∀ p ∈ l, Named p := fun p hp => of_decide_eq_true (List.all_eq_true.1 h p hp)
theorem mem_setT {T : List (List Nm)} {b a : Int} {l : List Nm} {x : List Nm} (h : x ∈ setT T b a l) : x ∈ T ∨ x = l := List.mem_or_eq_of_mem_set h

end Go.Proofs.YtjjnhmbgffdenaaDoor
namespace Go.Proofs.YtjjnhmbgffdenaaDoor
open Go.RowKit Go.Sort

def ixOf (b a : Int) : Nat := b.toNat * 40 + (a - 1).toNat
/-- The table in which the loops of one needle are joined to those of another. -/
def joinT (T : List (List Nm)) (b1 a1 b2 a2 : Int) : List (List Nm) :=
  (T.set (ixOf b1 a1) []).set (ixOf b2 a2) (if b1 = 1 then T.getD (ixOf b1 a1) [] ++ T.getD (ixOf b2 a2) [] else T.getD (ixOf b2 a2) [] ++ T.getD (ixOf b1 a1) [])
def joinErr (T : List (List Nm)) (b1 a1 b2 a2 : Int) : Int :=
  if isN b1 a1 = false ∨ isN b2 a2 = false ∨ b1 = b2 then 1 else if (T.getD (ixOf b1 a1) []).length = 0 then 13 else
    if 4 < (T.getD (ixOf b2 a2) []).length + (T.getD (ixOf b1 a1) []).length then 9 else 0
theorem joinErr_1 {T : List (List Nm)} {b1 a1 b2 a2 : Int} (h : isN b1 a1 = false ∨ isN b2 a2 = false ∨ b1 = b2) : joinErr T b1 a1 b2 a2 = 1 := if_pos h

end Go.Proofs.YtjjnhmbgffdenaaDoor
namespace Go.Proofs.YtjjnhmbgffdenaaDoor
open Go.RowKit Go.Sort

section
variable {o : Oper} {a : Act} {w : World} {K : Act → World → Prop} {Q : Exit → Act → World → Prop} {x y : Operand}
theorem st_bs2 {s t : Tmp} {p1 p2 : Option Addr} {n1 n2 r1 r2 : Nat} (hop : o.op = .buildSlice 24 2 #[(0, .tmp s), (1, .tmp t)]) (hs : a.eval (.tmp s) = .slice p1 n1 r1) (ht : a.eval (.tmp t) = .slice p2 n2 r2) (hK : K (a.put o.dst (.slice (some ⟨w.heap.size, 0, none⟩) 2 2)) (w.alloc (.cells #[.slice p1 n1 r1, .slice p2 n2 r2] 61))) : o.wp Tryd.prog a w K Q := by
  have e1 : a.tmps[s]?.getD undef = .slice p1 n1 r1 := by simpa [Act.eval] using hs
  have e2 : a.tmps[t]?.getD undef = .slice p2 n2 r2 := by simpa [Act.eval] using ht
  refine step_valw (v := .slice (some ⟨w.heap.size, 0, none⟩) 2 2) ?_ hK
  simp only [execOp, hop]
  go_simp
end
/-- Two stacks in a slice of their own. -/
theorem bed2_ok {w : World} {c d : Cel} (hc : c.ok w.heap.size w) (hd : d.ok w.heap.size w) : Bed.ok (w.alloc (.cells #[c.v, d.v] 61)).heap.size (w.alloc (.cells #[c.v, d.v] 61)) ⟨some ⟨w.heap.size, 0, none⟩, [c, d], 2⟩ := by
  have hb := below1 w (.cells #[c.v, d.v] 61)
  refine ⟨by simp, fun x hx => ?_, .inr ⟨w.heap.size, 0, rfl, by simp, fun i x hx => ?_⟩⟩
  · simp only [List.mem_cons, List.not_mem_nil, or_false] at hx
    rcases hx with rfl | rfl
    · exact (hc.below hb).mono hb.size
    · exact (hd.below hb).mono hb.size
  · have hn := Boxed2.new w 61 c.v d.v
    match i, hx with
    | 0, hx => cases hx; exact hn.cell0
    | 1, hx => cases hx; exact hn.cell1
    | i + 2, hx => simp at hx
def psiJ6 (fa : Option Addr) (fs : List Cel) (fc : Nat) (ba : Option Addr) (bs : List Cel) (bc : Nat) (k1 : Nat) (i1 : Nat) (k2 : Nat) (i2 : Nat) (p2 : Option Addr) (q2 : List Nm) (r2 : Nat) : Nat → Value → World → Prop
  | 0, v9, _ => v9 = .agg #[.slice fa fs.length fc, .slice ba bs.length bc]
  | 1, v9, _ => v9 = .agg #[.int .u8 k2, .int .i64 ((i2 : Int) + 1)]
  | 2, v9, _ => v9 = .slice p2 q2.length r2
  | 3, v9, _ => v9 = .agg #[.slice fa fs.length fc, .slice ba bs.length bc]
  | 4, v9, _ => v9 = .agg #[.int .u8 k1, .int .i64 ((i1 : Int) + 1)]
  | _, _, _ => True
theorem psiJ6_stab (fa : Option Addr) (fs : List Cel) (fc : Nat) (ba : Option Addr) (bs : List Cel) (bc : Nat) (k1 : Nat) (i1 : Nat) (k2 : Nat) (i2 : Nat) (p2 : Option Addr) (q2 : List Nm) (r2 : Nat) (i9 : Nat) (v9 : Value) (w9 w9' : World) (h : psiJ6 fa fs fc ba bs bc k1 i1 k2 i2 p2 q2 r2 i9 v9 w9) (_hb : Below w9.heap.size w9 w9') : psiJ6 fa fs fc ba bs bc k1 i1 k2 i2 p2 q2 r2 i9 v9 w9' := by
  match i9, h with
  | 0, h => exact h
  | 1, h => exact h
  | 2, h => exact h
  | 3, h => exact h
  | 4, h => exact h
  | i9 + 5, _ => exact trivial
def psiJ15 (k2 : Nat) (i2 : Nat) (px : Option Addr) (qx : List Nm) (rx : Nat) (py : Option Addr) (qy : List Nm) (ry : Nat) : Nat → Value → World → Prop
  | 0, v9, _ => v9 = .agg #[.int .u8 k2, .int .i64 ((i2 : Int) + 1)]
  | 1, v9, _ => v9 = .slice px qx.length rx
  | 2, v9, _ => v9 = .slice py qy.length ry
  | 3, v9, w9 => ∃ A, v9 = .slice (some ⟨A, 0, none⟩) 2 2 ∧ Bed.ok w9.heap.size w9 ⟨some ⟨A, 0, none⟩, [⟨px, qx, rx⟩, ⟨py, qy, ry⟩], 2⟩
  | 4, v9, w9 => ∃ c : Cel, v9 = c.v ∧ c.l = qx ++ qy ∧ c.ok w9.heap.size w9
  | _, _, _ => True
theorem psiJ15_stab (k2 : Nat) (i2 : Nat) (px : Option Addr) (qx : List Nm) (rx : Nat) (py : Option Addr) (qy : List Nm) (ry : Nat) (i9 : Nat) (v9 : Value) (w9 w9' : World) (h : psiJ15 k2 i2 px qx rx py qy ry i9 v9 w9) (_hb : Below w9.heap.size w9 w9') : psiJ15 k2 i2 px qx rx py qy ry i9 v9 w9' := by
  match i9, h with
  | 0, h => exact h
  | 1, h => exact h
  | 2, h => exact h
  | 3, h => exact (by obtain ⟨A, h1, h2⟩ := h; exact ⟨A, h1, (h2.below _hb).mono _hb.size⟩)
  | 4, h => exact (by obtain ⟨c, h1, h2, h3⟩ := h; exact ⟨c, h1, h2, (h3.below _hb).mono _hb.size⟩)
  | i9 + 5, _ => exact trivial
end Go.Proofs.YtjjnhmbgffdenaaDoor
namespace Go.Proofs.YtjjnhmbgffdenaaDoor
open Go.RowKit Go.Sort

/-- The table of a law while the law fills it: each row lies in a block of its own. -/
structure Ow (BT : Nat) (w : World) (cs : List Cel) : Prop where
  tab : Tab w BT 65 cs
  own : ∀ (i : Nat) (c : Cel), cs[i]? = some c → w.ownsRow (BT + 1) 35 2 c.v c.l.length (cellsOf c.l)
  dis : ∀ (i j : Nat) (c c' : Cel), i ≠ j → cs[i]? = some c → cs[j]? = some c' → c.v.ownBlock = none ∨ c.v.ownBlock ≠ c'.v.ownBlock

theorem Ow.alloc {BT : Nat} {w : World} {cs : List Cel} (h : Ow BT w cs) (o : Obj) : Ow BT (w.alloc o) cs :=
  ⟨h.tab.alloc o, fun i c hc => (h.own i c hc).alloc o, h.dis⟩
theorem Ow.put {BT : Nat} {w w' : World} {cs : List Cel} (h : Ow BT w cs) {k : Nat} {c c' : Cel} (hk : cs[k]? = some c) (hg : w.grownBy w' c.v.ownBlock) (ho : w'.ownsRow (BT + 1) 35 2 c'.v c'.l.length (cellsOf c'.l))
    (hat : c'.v.ownBlock = c.v.ownBlock ∨ c'.v.ownBlock = some w.heap.size) : Ow BT (w'.setCell ⟨BT, k, none⟩ c'.v) (cs.set k c') := by
  have hne : some BT ≠ c.v.ownBlock := fun e => by have := (h.own k c hk).lt BT e.symm; omega
  have hkl : k < cs.length := (List.getElem?_eq_some_iff.1 hk).1
  have get : ∀ (i : Nat) (x : Cel), (cs.set k c')[i]? = some x → (i = k ∧ x = c') ∨ (i ≠ k ∧ cs[i]? = some x) := fun i x hx => by
    rw [List.getElem?_set] at hx
    by_cases hi : k = i
    · rw [if_pos hi, if_pos (hi ▸ hkl)] at hx
      exact .inl ⟨hi.symm, (Option.some.inj hx).symm⟩
    · rw [if_neg hi] at hx
      exact .inr ⟨fun e => hi e.symm, hx⟩
  have hsc : w'.grownBy (w'.setCell ⟨BT, k, none⟩ c'.v) (some BT) := grownBy_setCellAt w' BT k _
  refine ⟨(h.tab.kept hg hne).set k c', fun i x hx => ?_, fun i j x y hij hx hy => ?_⟩
  · rcases get i x hx with ⟨rfl, rfl⟩ | ⟨hi, hx⟩
    · exact ho.kept hsc (.inr fun e => by have := ho.lt BT e; omega)
    · have h1 := (h.own i x hx).kept hg (h.dis i k x c hi hx hk)
      exact h1.kept hsc (.inr fun e => by have := h1.lt BT e; omega)
  · rcases get i x hx with ⟨rfl, rfl⟩ | ⟨hi, hx'⟩
    · rcases get j y hy with ⟨rfl, rfl⟩ | ⟨hj, hy'⟩
      · exact absurd rfl hij
      · rcases hat with e | e
        · rw [e]; exact h.dis i j c y hij hk hy'
        · rw [e]; exact .inr fun e2 => by have := (h.own j y hy').lt _ e2.symm; omega
    · rcases get j y hy with ⟨rfl, rfl⟩ | ⟨hj, hy'⟩
      · rcases hat with e | e
        · rw [e]; exact h.dis i j x c hij hx' hk
        · rw [e]; exact .inr fun e2 => by have := (h.own i x hx').lt _ e2; omega
      · exact h.dis i j x y hij hx' hy'
theorem Ow.ok {BT : Nat} {w : World} {cs : List Cel} (h : Ow BT w cs) (h4 : ∀ c ∈ cs, c.l.length ≤ 4) : ∀ c ∈ cs, c.ok w.heap.size w := fun c hc => by
  obtain ⟨i, hi, rfl⟩ := List.mem_iff_getElem.1 hc
  have h1 := h.own i cs[i] (List.getElem?_eq_getElem hi)
  obtain ⟨c2, e1, e2, _, e4⟩ := ok_of_owns h1 (by have := h4 _ hc; omega)
  obtain ⟨a, l, cap⟩ := c2
  generalize cs[i] = x at *
  obtain ⟨a', l', cap'⟩ := x
  simp only [Cel.v, Value.slice.injEq] at e1
  simp only at e2
  obtain ⟨rfl, -, rfl⟩ := e1
  subst e2
  exact e4

theorem run_append_at (w : World) (B ty : Nat) (c : Cel) (hown : w.ownsRow B 35 2 c.v c.l.length (cellsOf c.l)) (p : Nm) (b : Nat) (h0 : Two w b 0 p) (h1 : c.l.length ≤ 50) (hbase : B ≤ w.heap.size) :
    ∃ (c' : Cel) (w' : World), (Builtin.append_ #[61, 61] ty #[c.v, .slice (some ⟨b, 0, none⟩) 1 1]).run Tryd.prog w = .ok c'.v w' ∧ c'.l = c.l ++ [p] ∧ w'.ownsRow B 35 2 c'.v c'.l.length (cellsOf c'.l) ∧ w.grownBy w' c.v.ownBlock ∧
      (c'.v.ownBlock = c.v.ownBlock ∨ c'.v.ownBlock = some w.heap.size) := by
  obtain ⟨i0, hi, hz0, hz1, hz2⟩ := info_parts info28
  have hcell : ∀ (j : Nat) (u : Value), (cellsOf [p])[j]? = some u → w.cell? ((⟨b, 0, none⟩ : Addr).add j) = some u := by
    intro j u hu
    match j, hu with
    | 0, hu => simp [cellsOf] at hu; subst hu; exact h0.1
    | 1, hu => simp [cellsOf] at hu; subst hu; exact h0.2
    | j + 2, hu => simp [cellsOf] at hu
  obtain ⟨v', w', g1, g2, g3, _, g5⟩ := run_append_own_at (P := Tryd.prog) w B 61 ty 35 i0 zero28 2 16 Tryd.underlying61 hi hz0 hz1 hz2 rfl (by decide) c.v c.l.length (cellsOf c.l) hown ⟨b, 0, none⟩ 1 1 (cellsOf [p]) (by rw [cellsOf_length]; simp) hcell (cellsOf_one [p])
      (by unfold maxLen; omega) (by omega) hbase
  rw [← cellsOf_append] at g2
  obtain ⟨c2, e1, e2, _, _⟩ := ok_of_owns g2 (by simp; omega)
  subst e1
  refine ⟨c2, w', g1, e2, ?_, g3, g5⟩
  rw [e2]
  simpa using g2
theorem wpList_append_at {ops : Array Oper} {rest : List Oper} {o : Oper} {a : Act} {Q : Exit → Act → World → Prop} {w : World} {s t : Tmp} {B : Nat} (hg : o.guard = none) (hop : o.op = Op.call { callee := Callee.builtin Builtin.append, args := #[.tmp s, .tmp t], argTypes := #[61, 61] }) (c : Cel)
    (hs : a.eval (.tmp s) = c.v) (hown : w.ownsRow B 35 2 c.v c.l.length (cellsOf c.l)) (p : Nm) {b : Nat} (hx : a.eval (.tmp t) = .slice (some ⟨b, 0, none⟩) 1 1) (h0 : Two w b 0 p) (h1 : c.l.length ≤ 50) (hbase : B ≤ w.heap.size)
    (hK : ∀ (c' : Cel) (w' : World), c'.l = c.l ++ [p] → w'.ownsRow B 35 2 c'.v c'.l.length (cellsOf c'.l) → w.grownBy w' c.v.ownBlock → (c'.v.ownBlock = c.v.ownBlock ∨ c'.v.ownBlock = some w.heap.size) → wpList Tryd.prog ops Q rest (a.put o.dst c'.v) w') : wpList Tryd.prog ops Q (o :: rest) a w := by
  refine wpList_plain hg fun K hK' => ?_
  obtain ⟨c', w', hr, h2, h3, h4, h5⟩ := run_append_at w B o.type c hown p b h0 h1 hbase
  unfold Oper.wp execOp
  simp only [hop, resolve, invoke, builtin, Sem.run_bind, Sem.run_pure, Result.andThen_ok, List.map_toArray, List.map_cons, List.map_nil, hs, hx, hr]
  exact hK' _ _ (hK c' w' h2 h3 h4 h5)

/-- The names that a law gives, in their order. -/
def nmAt (n : Nat) : Nm := ⟨1 + ((n % 3 : Nat) : Int), ((n / 3 : Nat) : Int)⟩
def ofIn : Nat → Nat → List (List Nm) × Nat → List (List Nm) × Nat
  | 0, _, s => s
  | j + 1, k, s => if (s.1.getD k []).length < 4 then ofIn j k (s.1.set k (s.1.getD k [] ++ [nmAt s.2]), s.2 + 1) else s
def ofAll (xs : List (Nat × Nat)) (s : List (List Nm) × Nat) : List (List Nm) × Nat := xs.foldl (fun s x => ofIn (x.2 % 5) (x.1 % 80) s) s
/-- The table that a law makes of bytes. -/
def ofM (xs : List (Nat × Nat)) : List (List Nm) := (ofAll (xs.take 40) (List.replicate 80 [], 0)).1

theorem nmAt_named {n : Nat} (h : n ≤ 200) : Named (nmAt n) := by
  unfold Named nmAt
  simp only
  omega
theorem nmAt_inj {m n : Nat} (h : nmAt m = nmAt n) : m = n := by
  unfold nmAt at h
  simp only [Nm.mk.injEq] at h
  omega
/-- What the making keeps. -/
structure Ofs (m : Nat) (s : List (List Nm) × Nat) : Prop where
  len : s.1.length = 80
  cnt : s.2 ≤ m
  st : ∀ l ∈ s.1, l.length ≤ 4 ∧ ∀ p ∈ l, ∃ i, i < s.2 ∧ p = nmAt i
  once : s.1.flatten.Nodup
theorem flat_set_perm (T : List (List Nm)) (k : Nat) (p : Nm) (hk : k < T.length) : (T.set k (T.getD k [] ++ [p])).flatten.Perm (p :: T.flatten) := by
  induction T generalizing k with
  | nil => simp at hk
  | cons a T ih =>
    cases k with
    | zero =>
      simp only [List.set_cons_zero, List.getD_cons_zero, List.flatten_cons, List.append_assoc]
      exact List.perm_middle
    | succ k =>
      simp only [List.set_cons_succ, List.getD_cons_succ, List.flatten_cons]
      exact ((ih k (by simpa using hk)).append_left a).trans List.perm_middle
theorem Ofs.step {m : Nat} {s : List (List Nm) × Nat} (h : Ofs m s) {k : Nat} (hk : k < 80) (hl : (s.1.getD k []).length < 4) : Ofs (m + 1) (s.1.set k (s.1.getD k [] ++ [nmAt s.2]), s.2 + 1) := by
  refine ⟨by simp [h.len], by have := h.cnt; simp only; omega, fun l hm => ?_, ?_⟩
  · have hg : ∀ l ∈ s.1, l.length ≤ 4 ∧ ∀ p ∈ l, ∃ i, i < s.2 + 1 ∧ p = nmAt i := fun l hl => ⟨(h.st l hl).1, fun p hp => by
      obtain ⟨i, hi, e⟩ := (h.st l hl).2 p hp
      exact ⟨i, by omega, e⟩⟩
    rcases List.mem_or_eq_of_mem_set hm with h1 | rfl
    · exact hg l h1
    · refine ⟨by rw [List.length_append]; simp only [List.length_cons, List.length_nil]; omega, fun p hp => ?_⟩
      rcases List.mem_append.1 hp with hp | hp
      · rcases getD_mem_or (l := s.1) k with h1 | h1
        · exact (hg _ h1).2 p hp
        · rw [h1] at hp; cases hp
      · exact ⟨s.2, by simp, by simpa using hp⟩
  · refine (flat_set_perm s.1 k (nmAt s.2) (by rw [h.len]; exact hk)).nodup_iff.2 (List.nodup_cons.2 ⟨fun hp => ?_, h.once⟩)
    obtain ⟨l, hl, hp⟩ := List.mem_flatten.1 hp
    obtain ⟨i, hi, e⟩ := (h.st l hl).2 _ hp
    have := nmAt_inj e
    omega
theorem Ofs.ofIn {j k : Nat} (hk : k < 80) : ∀ {m : Nat} {s : List (List Nm) × Nat}, Ofs m s → Ofs (m + j) (YtjjnhmbgffdenaaDoor.ofIn j k s) := by
  induction j with
  | zero => exact fun h => h
  | succ j ih =>
    intro m s h
    unfold YtjjnhmbgffdenaaDoor.ofIn
    split
    · rename_i hl
      have := ih (h.step hk hl)
      rwa [show m + 1 + j = m + (j + 1) by omega] at this
    · exact ⟨h.len, by have := h.cnt; omega, h.st, h.once⟩
theorem Ofs.ofAll : ∀ (xs : List (Nat × Nat)) {m : Nat} {s : List (List Nm) × Nat}, Ofs m s → Ofs (m + 4 * xs.length) (YtjjnhmbgffdenaaDoor.ofAll xs s)
  | [], _, _, h => h
  | x :: xs, m, s, h => by
    have h1 := h.ofIn (j := x.2 % 5) (k := x.1 % 80) (by omega)
    have h2 := Ofs.ofAll xs h1
    exact ⟨h2.len, by have := h2.cnt; simp only [List.length_cons]; unfold YtjjnhmbgffdenaaDoor.ofAll at *; simp only [List.foldl_cons]; omega, h2.st, h2.once⟩
theorem ofs_zero : Ofs 0 (List.replicate 80 [], 0) := ⟨by simp, by simp, fun l hl => by rw [List.eq_of_mem_replicate hl]; simp, by simp⟩
theorem ofM_ok (xs : List (Nat × Nat)) : TOk (ofM xs) := by
  have h := Ofs.ofAll (xs.take 40) ofs_zero
  have hc := h.cnt
  have hl : (xs.take 40).length ≤ 40 := by simp; omega
  exact ⟨h.len, fun l hl' => ⟨(h.st l hl').1, fun p hp => by
    obtain ⟨i, hi, rfl⟩ := (h.st l hl').2 p hp
    exact nmAt_named (by omega)⟩, h.once⟩
end Go.Proofs.YtjjnhmbgffdenaaDoor
