import Derived.Test.YtjjnhmbgffdenaaSteps
import Derived.Test.YtjjnhmbgffdenaaRng
import Derived.Test.YtjjnhmbgffdenaaSmall4
namespace Go.Proofs.Ytjjnhmbgffdenaa
open Go.RowKit Go.Sort

/-- A table of 80 stacks in memory. -/
def Tab (w : World) (B t : Nat) (cs : List Cel) : Prop := w.heap[B]? = some (.cells (cs.map Cel.v).toArray t (0, 0)) ∧ cs.length = 80
theorem Tab.lt {w : World} {B t : Nat} {cs : List Cel} (h : Tab w B t cs) : B < w.heap.size := (Array.getElem?_eq_some_iff.1 h.1).1
theorem Tab.cell {w : World} {B t : Nat} {cs : List Cel} (h : Tab w B t cs) {k : Nat} (hk : k < 80) : w.cell? ⟨B, k, none⟩ = some (cs[k]'(by rw [h.2]; exact hk)).v := by
  simp [World.cell?, h.1, h.2, hk]
theorem Tab.cellE {w : World} {B t : Nat} {cs : List Cel} (h : Tab w B t cs) {k : Nat} (hk : k < 80) : ∃ a n c, w.cell? ⟨B, k, none⟩ = some (.slice a n c) := ⟨_, _, _, h.cell hk⟩
theorem Tab.frozen {w : World} {B t : Nat} {cs : List Cel} (h : Tab w B t cs) (k : Nat) : w.frozen? ⟨B, k, none⟩ = false := by simp [World.frozen?, h.1]
theorem Tab.below {w w' : World} {B N t : Nat} {cs : List Cel} (h : Tab w B t cs) (hb : Below N w w') (hB : B < N) : Tab w' B t cs := ⟨(hb.block B hB).trans h.1, h.2⟩
theorem Tab.set {w : World} {B t : Nat} {cs : List Cel} (h : Tab w B t cs) (k : Nat) (c : Cel) : Tab (w.setCell ⟨B, k, none⟩ c.v) B t (cs.set k c) :=
  ⟨(setCell_block w B k c.v h.1).trans (by simp [List.map_set]), by simp [h.2]⟩
theorem Tab.kept {w w' : World} {row : Option Nat} {B t : Nat} {cs : List Cel} (h : Tab w B t cs) (hg : w.grownBy w' row) (hne : some B ≠ row) : Tab w' B t cs := ⟨(hg.block B h.lt hne).trans h.1, h.2⟩
theorem Tab.alloc {w : World} {B t : Nat} {cs : List Cel} (h : Tab w B t cs) (o : Obj) : Tab (w.alloc o) B t cs := h.kept (World.grownBy_alloc w o none) (by simp)
theorem Tab.other {w : World} {B t C k : Nat} {x : Value} {cs : List Cel} (h : Tab w B t cs) (hne : B ≠ C) : Tab (w.setCell ⟨C, k, none⟩ x) B t cs := h.kept (grownBy_setCellAt w C k x) (by simp [hne])
/-- A stack's names do not lie in a table. -/
theorem Cel.ok.set_tab {n : Nat} {w : World} {c : Cel} (h : c.ok n w) {B t : Nat} {cs : List Cel} (ht : Tab w B t cs) (k : Nat) (x : Value) : c.ok n (w.setCell ⟨B, k, none⟩ x) := by
  refine ⟨h.1, h.2.imp id ?_⟩
  rintro ⟨b, o, e, hl, hc⟩
  refine ⟨b, o, e, hl, fun i p hp => ?_⟩
  have h2 := hc i p hp
  have hne : b ≠ B := by
    rintro rfl
    have h3 := h2.1
    simp only [World.cell?, ht.1, Option.bind_some] at h3
    have : (cs.map Cel.v)[o + i * 2]? = some (.int .u8 p.y) := by simpa using h3
    rw [List.getElem?_map] at this
    cases hcs : cs[o + i * 2]? with
    | none => rw [hcs] at this; cases this
    | some c' => rw [hcs] at this; simp [Cel.v] at this
  exact ⟨by rw [World.cell?_setCell_other _ _ _ _ (by simp [hne])]; exact h2.1, by rw [World.cell?_setCell_other _ _ _ _ (by simp [hne])]; exact h2.2⟩
theorem tab_own {β : Type} (B t : Nat) (f : β → List Cel) : Own (fun s W => Tab W B t (f s)) := by
  rintro s X Y row hs hg hrow
  refine hs.kept hg (fun e' => ?_)
  obtain ⟨o, ho, hc⟩ := hrow B e'.symm
  rw [hs.1] at ho; cases ho; cases hc

theorem info31 : (Try.prog.info? 31).map (·.size) = some 80 := by kernel_rfl
theorem info68 : (Try.prog.info? 68).map (·.size) = some 80 := by kernel_rfl
theorem tab_size {w : World} {B t : Nat} {cs : List Cel} (h : Tab w B t cs) : (cs.map Cel.v).toArray.size = 80 := by simp [h.2]
theorem tab_one (cs : List Cel) : (cs.map Cel.v).toArray.all (·.oneCell') = true := by
  rw [Array.all_eq_true_iff_forall_mem]
  intro v hv
  simp only [List.mem_toArray, List.mem_map] at hv
  obtain ⟨c, _, rfl⟩ := hv
  rfl
/-- The array as a value. -/
def tabV (cs : List Cel) : Value := .agg (cs.map Cel.v).toArray

section
variable {F : Fence} {nF : Nat} {w : World} {ops : Array Oper} {rest : List Oper} {o : Oper} {a : Act} {Q : Exit → Act → World → Prop} {K : Act → World → Prop}
theorem load_tab {ty : TypeId} (hty : ty = 31 ∨ ty = 68) {B t : Nat} {cs : List Cel} (hT : Tab w B t cs) : (loadVar ty ⟨B, 0, none⟩).run Try.prog w = .ok (tabV cs) w := by
  rcases hty with rfl | rfl
  · exact run_loadVar_row w B t 31 _ (0, 0) _ hT.1 Try.underlying31 rfl (by rw [info31, tab_size hT])
  · exact run_loadVar_row w B t 68 _ (0, 0) _ hT.1 Try.underlying68 rfl (by rw [info68, tab_size hT])
theorem exec_load_tab {ty : TypeId} (hty : ty = 31 ∨ ty = 68) (x : Operand) (hop : o.op = .load ty x) {B t : Nat} {cs : List Cel} (hx : a.eval x = .pointer (some ⟨B, 0, none⟩)) (hT : Tab w B t cs) : (execOp a.eval o).run Try.prog w = .ok (.value (tabV cs)) w := by
  unfold execOp
  simp only [hop, hx, Instr.loadAt, Instr.sureAddr, Sem.run_bind, Sem.run_pure, Result.andThen_ok, load_tab hty hT]
theorem wpListIn_load_tab (hg : o.guard = none) {ty : TypeId} (hty : ty = 31 ∨ ty = 68) (x : Operand) (hop : o.op = .load ty x) {B t : Nat} {cs : List Cel} (hx : a.eval x = .pointer (some ⟨B, 0, none⟩)) (hT : Tab w B t cs)
    (hK : wpListIn F nF Try.prog ops Q rest (a.put o.dst (tabV cs)) w) : wpListIn F nF Try.prog ops Q (o :: rest) a w := by
  refine wpListIn_plain hg fun K' hK' => ?_
  unfold Oper.wpIn
  refine ⟨by simp [Oper.about, hop], ?_⟩
  rw [Oper.semAt_plain F _ _ (by rw [hop]; intro c hc'; cases hc'), exec_load_tab hty x hop hx hT]
  exact hK' _ _ hK
theorem wpList_load_tab (hg : o.guard = none) {ty : TypeId} (hty : ty = 31 ∨ ty = 68) (x : Operand) (hop : o.op = .load ty x) {B t : Nat} {cs : List Cel} (hx : a.eval x = .pointer (some ⟨B, 0, none⟩)) (hT : Tab w B t cs)
    (hK : wpList Try.prog ops Q rest (a.put o.dst (tabV cs)) w) : wpList Try.prog ops Q (o :: rest) a w := by
  refine wpList_plain hg fun K' hK' => ?_
  exact step_val (exec_load_tab hty x hop hx hT) (hK' _ _ hK)
theorem ld_tab {ty : TypeId} (hty : ty = 31 ∨ ty = 68) {x : Operand} (hop : o.op = .load ty x) {B t : Nat} {cs : List Cel} (hx : a.eval x = .pointer (some ⟨B, 0, none⟩)) (hT : Tab w B t cs)
    (hK : K (a.put o.dst (tabV cs)) w) : o.wp Try.prog a w K Q := step_val (exec_load_tab hty x hop hx hT) hK

/-- What a store of a whole table leaves. -/
structure TabSet (w w' : World) (B t : Nat) (cs : List Cel) : Prop where
  tab : Tab w' B t cs
  grown : w.grownBy w' (some B)
  others : KeepsOthers w w'
theorem exec_store_tab {ty : TypeId} (hty : ty = 31 ∨ ty = 68) (x y : Operand) (hop : o.op = .store ty x y) {B t : Nat} {cs cs' : List Cel} (hx : a.eval x = .pointer (some ⟨B, 0, none⟩)) (hy : a.eval y = tabV cs') (hT : Tab w B t cs) (hl : cs'.length = 80) :
    ∃ w', (execOp a.eval o).run Try.prog w = .ok .skip w' ∧ TabSet w w' B t cs' := by
  have hs : (cs'.map Cel.v).toArray.size = 80 := by simp [hl]
  have hr : (storeVar ty ⟨B, 0, none⟩ (tabV cs')).run Try.prog w = .ok () (w.setRow B (cs'.map Cel.v).toArray) := by
    rcases hty with rfl | rfl
    · exact run_storeVar_row w B t 31 _ _ hT.1 (by rw [info31, hs]) (by rw [tab_size hT, hs]) (tab_one _)
    · exact run_storeVar_row w B t 68 _ _ hT.1 (by rw [info68, hs]) (by rw [tab_size hT, hs]) (tab_one _)
  refine ⟨w.setRow B (cs'.map Cel.v).toArray, ?_, ⟨setRow_heap w B _ _ t _ hT.1, hl⟩, ?_, ?_⟩
  · unfold execOp
    simp only [hop, hx, hy, Instr.storeAt, Instr.sureAddr, Sem.run_bind, Sem.run_pure, Result.andThen_ok, hr]
  · exact ⟨rfl, rfl, rfl, by simp, fun k _ hk => setRow_other w B k _ (fun e => hk (by rw [e]))⟩
  · exact KeepsOthers.of_grownBy ⟨rfl, rfl, rfl, by simp, fun k _ hk => setRow_other w B k _ (fun e => hk (by rw [e]))⟩ (fun j ob e h => by cases e; rw [hT.1] at h; cases h; rfl)
theorem wpListIn_store_tab (hg : o.guard = none) (hd : o.dst = none) {ty : TypeId} (hty : ty = 31 ∨ ty = 68) (x y : Operand) (hop : o.op = .store ty x y) {B t : Nat} {cs cs' : List Cel} (hx : a.eval x = .pointer (some ⟨B, 0, none⟩)) (hy : a.eval y = tabV cs') (hT : Tab w B t cs) (hl : cs'.length = 80)
    (hK : ∀ w', TabSet w w' B t cs' → wpListIn F nF Try.prog ops Q rest a w') : wpListIn F nF Try.prog ops Q (o :: rest) a w := by
  refine wpListIn_plain hg fun K' hK' => ?_
  obtain ⟨w', hr, hs⟩ := exec_store_tab (a := a) hty x y hop hx hy hT hl
  unfold Oper.wpIn
  refine ⟨by simp [Oper.about, hop], ?_⟩
  rw [Oper.semAt_plain F _ _ (by rw [hop]; intro c hc'; cases hc'), hr]
  show K' (a.put o.dst undef) w'
  rw [hd]
  exact hK' a w' (hK w' hs)
theorem wpList_store_tab (hg : o.guard = none) (hd : o.dst = none) {ty : TypeId} (hty : ty = 31 ∨ ty = 68) (x y : Operand) (hop : o.op = .store ty x y) {B t : Nat} {cs cs' : List Cel} (hx : a.eval x = .pointer (some ⟨B, 0, none⟩)) (hy : a.eval y = tabV cs') (hT : Tab w B t cs) (hl : cs'.length = 80)
    (hK : ∀ w', TabSet w w' B t cs' → wpList Try.prog ops Q rest a w') : wpList Try.prog ops Q (o :: rest) a w := by
  refine wpList_plain hg fun K' hK' => ?_
  obtain ⟨w', hr, hs⟩ := exec_store_tab (a := a) hty x y hop hx hy hT hl
  unfold Oper.wp
  rw [hr]
  show K' (a.put o.dst undef) w'
  rw [hd]
  exact hK' a w' (hK w' hs)
/-- A result that is a whole table. -/
theorem results_tab {fn : Func} {p : Tmp} {ty : TypeId} (hty : ty = 31 ∨ ty = 68) (h : fn.results = #[.cell p ty]) (tmps : Array Value) {B t : Nat} {cs : List Cel} (hp : tmps.getD p undef = .pointer (some ⟨B, 0, none⟩)) (hT : Tab w B t cs) :
    (results fn tmps).run Try.prog w = .ok (tabV cs) w := by
  have hp' : tmps[p]?.getD undef = .pointer (some ⟨B, 0, none⟩) := by simpa using hp
  simp [results, h, hp', asAddr, load_tab hty hT]
end
end Go.Proofs.Ytjjnhmbgffdenaa
