import Derived.Test.YtikdhdikaihenaaSteps
import Derived.Test.YtikdhdikaihenaaMake
namespace Go.Proofs.Ytikdhdikaihenaa
open Go.RowKit Go.Sort

def pL : Ps := ⟨1, 0, false, 0⟩
def pR : Ps := ⟨1, 0, false, 1⟩
theorem lie_of1 {W : World} {K : Nat} {p0 : Ps} (h0 : Four W K 0 p0) : Lie W (some ⟨K, 0, none⟩) [p0] := by
  refine .inr ⟨K, 0, rfl, World.block_lt_of_cell? _ _ h0.1, fun i p hp => ?_⟩
  match i, hp with
  | 0, hp => simp at hp; subst hp; simpa using h0
  | i + 1, hp => simp at hp
theorem lie_of2 {W : World} {K : Nat} {p0 p1 : Ps} (h0 : Four W K 0 p0) (h1 : Four W K 4 p1) : Lie W (some ⟨K, 0, none⟩) [p0, p1] := by
  refine .inr ⟨K, 0, rfl, World.block_lt_of_cell? _ _ h0.1, fun i p hp => ?_⟩
  match i, hp with
  | 0, hp => simp at hp; subst hp; simpa using h0
  | 1, hp => simp at hp; subst hp; simpa using h1
  | i + 2, hp => simp at hp
theorem lie_of3 {W : World} {K : Nat} {p0 p1 p2 : Ps} (h0 : Four W K 0 p0) (h1 : Four W K 4 p1) (h2 : Four W K 8 p2) : Lie W (some ⟨K, 0, none⟩) [p0, p1, p2] := by
  refine .inr ⟨K, 0, rfl, World.block_lt_of_cell? _ _ h0.1, fun i p hp => ?_⟩
  match i, hp with
  | 0, hp => simp at hp; subst hp; simpa using h0
  | 1, hp => simp at hp; subst hp; simpa using h1
  | 2, hp => simp at hp; subst hp; simpa using h2
  | i + 3, hp => simp at hp
theorem lie_of5 {W : World} {K : Nat} {p0 p1 p2 p3 p4 : Ps} (h0 : Four W K 0 p0) (h1 : Four W K 4 p1) (h2 : Four W K 8 p2) (h3 : Four W K 12 p3) (h4 : Four W K 16 p4) : Lie W (some ⟨K, 0, none⟩) [p0, p1, p2, p3, p4] := by
  refine .inr ⟨K, 0, rfl, World.block_lt_of_cell? _ _ h0.1, fun i p hp => ?_⟩
  match i, hp with
  | 0, hp => simp at hp; subst hp; simpa using h0
  | 1, hp => simp at hp; subst hp; simpa using h1
  | 2, hp => simp at hp; subst hp; simpa using h2
  | 3, hp => simp at hp; subst hp; simpa using h3
  | 4, hp => simp at hp; subst hp; simpa using h4
  | i + 5, hp => simp at hp

theorem below_alloc' {W0 W : World} {o : Obj} (h : Below W0.heap.size W0 W) : Below W0.heap.size W0 (W.alloc o) := h.alloc h.size o
theorem below_next {W0 W w' : World} (h : Below W0.heap.size W0 W) (hb : Below W.heap.size W w') : Below W0.heap.size W0 w' := h.trans (hb.mono h.size)
/-- The two passes of the examples in their blocks. -/
def Two (W : World) (k : Nat) : Prop := (W.cell? ⟨k, 0, none⟩ = some (.int .u8 1) ∧ W.cell? ⟨k, 1, none⟩ = some (.int .i64 0) ∧ W.cell? ⟨k, 2, none⟩ = some (.bool false) ∧ W.cell? ⟨k, 3, none⟩ = some (.int .u8 0)) ∧
  (W.cell? ⟨k + 1, 0, none⟩ = some (.int .u8 1) ∧ W.cell? ⟨k + 1, 1, none⟩ = some (.int .i64 0) ∧ W.cell? ⟨k + 1, 2, none⟩ = some (.bool false) ∧ W.cell? ⟨k + 1, 3, none⟩ = some (.int .u8 1))
theorem Two.below {W W' : World} {k : Nat} (h : Two W k) (hb : Below W.heap.size W W') : Two W' k := by
  obtain ⟨⟨a0, a1, a2, a3⟩, ⟨b0, b1, b2, b3⟩⟩ := h
  have ka := World.block_lt_of_cell? _ _ a0
  have kb := World.block_lt_of_cell? _ _ b0
  have ha : ∀ o, W'.cell? ⟨k, o, none⟩ = W.cell? ⟨k, o, none⟩ := fun o => hb.cell (p := ⟨k, o, none⟩) ka
  have hb' : ∀ o, W'.cell? ⟨k + 1, o, none⟩ = W.cell? ⟨k + 1, o, none⟩ := fun o => hb.cell (p := ⟨k + 1, o, none⟩) kb
  exact ⟨⟨(ha 0).trans a0, (ha 1).trans a1, (ha 2).trans a2, (ha 3).trans a3⟩, ⟨(hb' 0).trans b0, (hb' 1).trans b1, (hb' 2).trans b2, (hb' 3).trans b3⟩⟩
theorem reduce_lit (ps rs : List Ps) (hr : red ps = rs) (ao : Option Addr) (n cap : Nat) (w : World) (hn : n = ps.length) (hm : 24 * n ≤ 281474976710656) (h : Lie w ao ps) :
    Calls Try.prog 11 #[.slice ao n cap] w fun e w' => Made w.heap.size w w' e rs := by subst hr; exact reduce_any ao ps n cap w hn hm h
theorem inverse_lit (ps rs : List Ps) (hr : inv ps = rs) (ao : Option Addr) (n cap : Nat) (w : World) (hn : n = ps.length) (hm : 24 * n ≤ 281474976710656) (h : Lie w ao ps) :
    Calls Try.prog 16 #[.slice ao n cap] w fun e w' => Made w.heap.size w w' e rs := by subst hr; exact inverse_any ao ps n cap w hn hm h
theorem two_new (w : World) : Two ((w.alloc (.cells #[.int .u8 1, .int .i64 0, .bool false, .int .u8 0] 33)).alloc (.cells #[.int .u8 1, .int .i64 0, .bool false, .int .u8 1] 33)) w.heap.size := by
  refine ⟨⟨?_, ?_, ?_, ?_⟩, ⟨?_, ?_, ?_, ?_⟩⟩ <;> go_simp

theorem Two.left {W : World} {k : Nat} (h : Two W k) : Four W k 0 pL := ⟨h.1.1, h.1.2.1, h.1.2.2.1, h.1.2.2.2⟩
theorem Two.right {W : World} {k : Nat} (h : Two W k) : Four W (k + 1) 0 pR := ⟨h.2.1, h.2.2.1, h.2.2.2.1, h.2.2.2.2⟩
theorem lie_new (w : World) (ps : List Ps) : Lie (w.alloc (.cells (cellsOf ps).toArray 33)) (some ⟨w.heap.size, 0, none⟩) ps :=
  lie_of_row (heap_alloc_new w _) (by rw [List.take_of_length_le]; rw [cellsOf_length]; exact Nat.le_refl _)

/-- What an operation of the examples' region yields. -/
inductive Sp
  | pass (p : Ps)
  | lst (ps : List Ps)
  | num (n : Int)
  | no
def Sp.holds : Sp → Value → World → Prop
  | .pass p, v, _ => v = p.v
  | .lst ps, v, w => ∃ ao, v = .slice ao ps.length ps.length ∧ Lie w ao ps
  | .num n, v, _ => v = .int .i64 n
  | .no, v, _ => v = .bool false
def spec : Nat → Sp
  | 0 => .pass pL
  | 1 => .pass pR
  | 2 => .lst [pL, pR]
  | 3 => .lst []
  | 4 => .num 0
  | 5 => .no
  | 6 => .no
  | 7 => .pass pL
  | 8 => .pass pL
  | 9 => .pass pR
  | 10 => .lst [pL, pL, pR]
  | 11 => .lst [pL]
  | 12 => .pass pL
  | 13 => .lst [pL]
  | 14 => .num 1
  | 15 => .no
  | 16 => .no
  | 17 => .no
  | 18 => .pass pR
  | 19 => .pass pL
  | 20 => .pass pL
  | 21 => .pass pR
  | 22 => .pass pR
  | 23 => .lst [pR, pL, pL, pR, pR]
  | 24 => .lst [pR]
  | 25 => .pass pR
  | 26 => .lst [pR]
  | 27 => .num 1
  | 28 => .no
  | 29 => .no
  | 30 => .no
  | 31 => .pass pL
  | 32 => .pass pL
  | 33 => .lst [pL, pL]
  | 34 => .lst [pR, pR]
  | 35 => .pass pR
  | 36 => .pass pR
  | 37 => .lst [pR, pR]
  | 38 => .num 1
  | 39 => .no
  | 40 => .no
  | _ => .no
theorem spec_stable (i : Nat) (v : Value) (w w' : World) (h : (spec i).holds v w) (hb : Below w.heap.size w w') : (spec i).holds v w' := by
  cases hs : spec i with
  | pass p => rw [hs] at h; exact h
  | lst ps =>
    rw [hs] at h
    obtain ⟨ao, h1, h2⟩ := h
    exact ⟨ao, h1, h2.below hb⟩
  | num n => rw [hs] at h; exact h
  | no => rw [hs] at h; exact h

theorem wanted_of {ops : Array Oper} {o o' : Oper} {tmps : Array Value} {j : Nat} {b : Bool} {d : Tmp} (hg : o.guard = some (j, b)) (ho : ops[j]? = some o') (hd : o'.dst = some d) (hlt : d < tmps.size) (hv : tmps.getD d undef = .bool b) : Region.wanted o (yielded ops tmps) = true := by
  have h1 : tmps[d]? = some (.bool b) := by
    rw [Array.getElem?_eq_getElem hlt]
    simp only [Array.getD_eq_getD_getElem?, Array.getElem?_eq_getElem hlt, Option.getD_some] at hv
    rw [hv]
  have h2 : ((some o').bind (·.dst)).bind (tmps[·]?) = some (.bool b) := by
    show (o'.dst).bind (tmps[·]?) = some (.bool b)
    rw [hd]; exact h1
  simp only [Region.wanted, hg, yielded, ho]
  rw [h2]
  simp

/-- Each operation yields into a slot of its own, behind those that it needs. -/
def inRow (ops : Array Oper) (lo : Nat) : Bool := (List.range ops.size).all fun i => match ops[i]? with
  | some o => (o.dst == some (lo + i)) && o.after.all (fun e => decide (e.on < i))
  | none => false
theorem inRow_spec {ops : Array Oper} {lo : Nat} (h : inRow ops lo = true) {i : Nat} {o : Oper} (ho : ops[i]? = some o) : o.dst = some (lo + i) ∧ ∀ e ∈ o.after, e.on < i := by
  have hlt : i < ops.size := (Array.getElem?_eq_some_iff.1 ho).1
  have := List.all_eq_true.1 h i (List.mem_range.2 hlt)
  rw [ho] at this
  simp only [Bool.and_eq_true, beq_iff_eq] at this
  refine ⟨this.1, fun e he => ?_⟩
  have h2 := Array.all_eq_true_iff_forall_mem.1 this.2 e he
  exact of_decide_eq_true h2

def overlay (lo hi : Nat) (u : Nat → Value) : Nat → List Value → List Value
  | _, [] => []
  | k, x :: r => (if lo ≤ k ∧ k ≤ hi then u k else x) :: overlay lo hi u (k + 1) r
theorem overlay_length (lo hi : Nat) (u : Nat → Value) : ∀ (l : List Value) (k : Nat), (overlay lo hi u k l).length = l.length := by
  intro l
  induction l with
  | nil => intro k; rfl
  | cons x l ih => intro k; simp [overlay, ih]
theorem overlay_get (lo hi : Nat) (u : Nat → Value) : ∀ (l : List Value) (k i : Nat) (h : i < l.length), (overlay lo hi u k l)[i]? = some (if lo ≤ k + i ∧ k + i ≤ hi then u (k + i) else l[i]) := by
  intro l
  induction l with
  | nil => intro k i h; simp at h
  | cons x l ih =>
    intro k i h
    cases i with
    | zero => simp [overlay]
    | succ i =>
      have := ih (k + 1) i (by simpa using h)
      simp only [overlay, List.getElem?_cons_succ, List.getElem_cons_succ]
      rw [this, show k + 1 + i = k + (i + 1) by omega]
theorem frame_eq (lo hi : Nat) (A0 : List Value) (tmps : Array Value) (hs : tmps.size = A0.length) (h : ∀ s, s < lo ∨ hi < s → tmps.getD s undef = A0.toArray.getD s undef) :
    tmps = (overlay lo hi (fun s => tmps.getD s undef) 0 A0).toArray := by
  apply Array.ext_getElem?
  intro i
  by_cases hi' : i < tmps.size
  · have hl : i < A0.length := by omega
    have h2 : ((overlay lo hi (fun s => tmps.getD s undef) 0 A0).toArray)[i]? = some (if lo ≤ 0 + i ∧ 0 + i ≤ hi then tmps.getD (0 + i) undef else A0[i]) := by
      rw [List.getElem?_toArray]; exact overlay_get _ _ _ _ _ _ hl
    rw [h2, Array.getElem?_eq_getElem hi']
    by_cases hc : lo ≤ 0 + i ∧ 0 + i ≤ hi
    · rw [if_pos hc]; simp [hi']
    · rw [if_neg hc]
      have := h i (by omega)
      simp [hi', hl] at this
      rw [this]
  · rw [Array.getElem?_eq_none (by omega), Array.getElem?_eq_none (by simp [overlay_length]; omega)]

theorem lie_sets5' {W : World} {g : Nat} {ao : Option Addr} {ps : List Ps} (h : Lie W ao ps) (hg : ∀ b o, ao = some ⟨b, o, none⟩ → b ≠ g) (v0 v1 v2 v3 v4 : Value) :
    Lie (((((W.setCell ⟨g, 0, none⟩ v0).setCell ⟨g, 1, none⟩ v1).setCell ⟨g, 2, none⟩ v2).setCell ⟨g, 3, none⟩ v3).setCell ⟨g, 4, none⟩ v4) ao ps := by
  rcases h with h | ⟨b, o, h1, h2, h3⟩
  · exact .inl h
  · have hb := hg b o h1
    have e : ∀ x, (((((W.setCell ⟨g, 0, none⟩ v0).setCell ⟨g, 1, none⟩ v1).setCell ⟨g, 2, none⟩ v2).setCell ⟨g, 3, none⟩ v3).setCell ⟨g, 4, none⟩ v4).cell? ⟨b, x, none⟩ = W.cell? ⟨b, x, none⟩ := fun x => by
      have ne : ∀ y, (⟨g, y, none⟩ : Addr) ≠ ⟨b, x, none⟩ := fun y e => hb (by injection e with e _ _; exact e.symm)
      rw [World.cell?_setCell_other _ _ _ _ (ne 4), World.cell?_setCell_other _ _ _ _ (ne 3), World.cell?_setCell_other _ _ _ _ (ne 2), World.cell?_setCell_other _ _ _ _ (ne 1), World.cell?_setCell_other _ _ _ _ (ne 0)]
    refine .inr ⟨b, o, h1, by simpa using h2, fun i p hp => ?_⟩
    obtain ⟨c0, c1, c2, c3⟩ := h3 i p hp
    exact ⟨(e _).trans c0, (e _).trans c1, (e _).trans c2, (e _).trans c3⟩
theorem owns_block' {w : World} {B e n : Nat} {ao : Option Addr} {q cap : Nat} {xs : List Value} (h : w.ownsRow B e 4 (.slice ao q cap) n xs) {k : Nat} (hk : k < B) : ∀ b o, ao = some ⟨b, o, none⟩ → b ≠ k := by
  rintro b o rfl
  have := (h.lt b rfl).1
  omega
theorem Two.belowB {W W' : World} {k B : Nat} (h : Two W k) (hb : Below B W W') (hk : k + 1 < B) : Two W' k := by
  obtain ⟨⟨a0, a1, a2, a3⟩, ⟨b0, b1, b2, b3⟩⟩ := h
  have ha : ∀ o, W'.cell? ⟨k, o, none⟩ = W.cell? ⟨k, o, none⟩ := fun o => hb.cell (p := ⟨k, o, none⟩) (by show k < B; omega)
  have hb' : ∀ o, W'.cell? ⟨k + 1, o, none⟩ = W.cell? ⟨k + 1, o, none⟩ := fun o => hb.cell (p := ⟨k + 1, o, none⟩) hk
  exact ⟨⟨(ha 0).trans a0, (ha 1).trans a1, (ha 2).trans a2, (ha 3).trans a3⟩, ⟨(hb' 0).trans b0, (hb' 1).trans b1, (hb' 2).trans b2, (hb' 3).trans b3⟩⟩
theorem Two.lt {W : World} {k : Nat} (h : Two W k) : k + 1 < W.heap.size := World.block_lt_of_cell? _ _ h.2.1
theorem lie_new2 (w : World) (o : Obj) : Lie ((w.alloc o).alloc (.cells #[.int .u8 1, .int .i64 0, .bool false, .int .u8 0] 33)) (some ⟨w.heap.size + 1, 0, none⟩) [pL] := by
  have h := lie_new (w.alloc o) [pL]
  have e : (w.alloc o).heap.size = w.heap.size + 1 := by simp
  rw [e] at h
  exact h
theorem five1' (w : World) (i : Bool) (p c : Int) (nw : Bool) (v : Value) : Five (w.alloc (.cells #[.bool i, .int .i64 p, .int .i64 c, .bool nw, v] 38)) w.heap.size (.bool i) (.int .i64 p) (.int .i64 c) (.bool nw) v := by
  refine ⟨⟨?_, ?_, ?_, ?_, ?_⟩, ⟨?_, ?_, ?_, ?_, ?_⟩⟩ <;> go_simp

set_option maxRecDepth 100000 in
set_option maxHeartbeats 1000000 in
theorem lives_any' (w : World) : Calls Try.prog 9 #[] w fun e w' => e = .returned (.bool true) ∧ Below w.heap.size w w' := by
  go_enter Try.func9, Try.ntmps9
  go_wp2_with fail
  obtain ⟨W0, hW0⟩ : ∃ W0 : World, W0 = (w.alloc (.cells #[.int .u8 1, .int .i64 0, .bool false, .int .u8 0] 33)).alloc (.cells #[.int .u8 1, .int .i64 0, .bool false, .int .u8 1] 33) := ⟨_, rfl⟩
  rw [← hW0]
  have HT : Two W0 w.heap.size := by rw [hW0]; exact two_new w
  have B0 : Below w.heap.size w W0 := by rw [hW0]; exact below2 _ _ _
  clear hW0
  refine rg (fun i v w' => (spec i).holds v w') (fun w' => Two w' w.heap.size ∧ Below W0.heap.size W0 w') 20 60 (by kernel_rfl) (of_decide_eq_true (by kernel_rfl)) (fun i o ho => ?_) (fun i o ho => (inRow_spec (lo := 20) (by kernel_rfl) ho).2) spec_stable (fun a b h hb => ⟨h.1.below hb, h.2.trans (hb.mono h.2.size)⟩) ?_ ?_ ⟨HT, (Below.refl _ _).drew⟩
  · have h1 := (inRow_spec (lo := 20) (by kernel_rfl) ho).1
    have hlt := (Array.getElem?_eq_some_iff.1 ho).1
    refine ⟨_, h1, Nat.le_add_right _ _, ?_, fun j o' ho' hd' => ?_⟩
    · have : i < 41 := hlt
      show 20 + i ≤ 60
      omega
    · have h2 := (inRow_spec (lo := 20) (by kernel_rfl) ho').1
      rw [h2] at hd'
      have := Option.some.inj hd'
      omega
  · intro i o ho a w1 hs hout hII hdep
    have hI := hII.1
    have hlt := (Array.getElem?_eq_some_iff.1 ho).1
    match i, ho with
    | 0, ho =>
      obtain rfl := Option.some.inj ho
      refine ⟨rfl, fun K hK => ?_⟩
      exact step_load rfl ((hout 1 (.inl (by decide))).trans rfl) hI.left (hK _ _ (Below.refl _ _) rfl)
    | 1, ho =>
      obtain rfl := Option.some.inj ho
      refine ⟨rfl, fun K hK => ?_⟩
      exact step_load rfl ((hout 2 (.inl (by decide))).trans rfl) hI.right (hK _ _ (Below.refl _ _) rfl)
    | 2, ho =>
      obtain rfl := Option.some.inj ho
      have q0 : a.tmps.getD 20 undef = pL.v := hdep ⟨0, .data⟩ (by simp) rfl _ 20 rfl rfl
      have q1 : a.tmps.getD 21 undef = pR.v := hdep ⟨1, .data⟩ (by simp) rfl _ 21 rfl rfl
      refine ⟨rfl, fun K hK => ?_⟩
      exact step_build2 rfl q0 q1 (hK _ _ (below1 _ _) (Exists.intro _ (And.intro rfl (lie_new _ [pL, pR]))))
    | 3, ho =>
      obtain rfl := Option.some.inj ho
      have q0 : ∃ ao, a.tmps.getD 22 undef = .slice ao 2 2 ∧ Lie w1 ao [pL, pR] := hdep ⟨2, .data⟩ (by simp) rfl _ 22 rfl rfl
      refine ⟨rfl, fun K hK => ?_⟩
      obtain ⟨ao, hv, hl⟩ := q0
      exact step_call1 rfl enter11 hv ((reduce_lit [pL, pR] [] (by decide) _ _ _ _ rfl (by decide) hl).mono fun e w' hh => by
        obtain ⟨br, rfl, -, hl', hb⟩ := hh.out
        exact ⟨_, rfl, hK _ _ hb ⟨br, rfl, hl'⟩⟩)
    | 4, ho =>
      obtain rfl := Option.some.inj ho
      have q0 : ∃ ao, a.tmps.getD 23 undef = .slice ao 0 0 ∧ Lie w1 ao [] := hdep ⟨3, .data⟩ (by simp) rfl _ 23 rfl rfl
      refine ⟨rfl, fun K hK => ?_⟩
      obtain ⟨ao, hv, -⟩ := q0
      exact step_len rfl hv (hK _ _ (Below.refl _ _) rfl)
    | 5, ho =>
      obtain rfl := Option.some.inj ho
      have q0 : a.tmps.getD 24 undef = .int .i64 0 := hdep ⟨4, .data⟩ (by simp) rfl _ 24 rfl rfl
      refine ⟨rfl, fun K hK => ?_⟩
      exact step_int (r := false) rfl q0 (.inl ⟨rfl, by decide⟩) (hK _ _ (Below.refl _ _) rfl)
    | 6, ho =>
      obtain rfl := Option.some.inj ho
      have q0 : a.tmps.getD 25 undef = .bool false := hdep ⟨5, .data⟩ (by simp) rfl _ 25 rfl rfl
      refine ⟨rfl, fun K hK => ?_⟩
      exact step_move rfl q0 (hK _ _ (Below.refl _ _) rfl)
    | 7, ho =>
      obtain rfl := Option.some.inj ho
      have qg : a.tmps.getD 26 undef = .bool false := hdep ⟨6, .guard⟩ (by simp) rfl _ 26 rfl rfl
      refine ⟨wanted_of (j := 6) (d := 26) rfl rfl rfl (by rw [hs]; exact of_decide_eq_true (by kernel_rfl)) qg, fun K hK => ?_⟩
      exact step_load rfl ((hout 1 (.inl (by decide))).trans rfl) hI.left (hK _ _ (Below.refl _ _) rfl)
    | 8, ho =>
      obtain rfl := Option.some.inj ho
      have qg : a.tmps.getD 26 undef = .bool false := hdep ⟨6, .guard⟩ (by simp) rfl _ 26 rfl rfl
      refine ⟨wanted_of (j := 6) (d := 26) rfl rfl rfl (by rw [hs]; exact of_decide_eq_true (by kernel_rfl)) qg, fun K hK => ?_⟩
      exact step_load rfl ((hout 1 (.inl (by decide))).trans rfl) hI.left (hK _ _ (Below.refl _ _) rfl)
    | 9, ho =>
      obtain rfl := Option.some.inj ho
      have qg : a.tmps.getD 26 undef = .bool false := hdep ⟨6, .guard⟩ (by simp) rfl _ 26 rfl rfl
      refine ⟨wanted_of (j := 6) (d := 26) rfl rfl rfl (by rw [hs]; exact of_decide_eq_true (by kernel_rfl)) qg, fun K hK => ?_⟩
      exact step_load rfl ((hout 2 (.inl (by decide))).trans rfl) hI.right (hK _ _ (Below.refl _ _) rfl)
    | 10, ho =>
      obtain rfl := Option.some.inj ho
      have qg : a.tmps.getD 26 undef = .bool false := hdep ⟨6, .guard⟩ (by simp) rfl _ 26 rfl rfl
      have q0 : a.tmps.getD 27 undef = pL.v := hdep ⟨7, .data⟩ (by simp) rfl _ 27 rfl rfl
      have q1 : a.tmps.getD 28 undef = pL.v := hdep ⟨8, .data⟩ (by simp) rfl _ 28 rfl rfl
      have q2 : a.tmps.getD 29 undef = pR.v := hdep ⟨9, .data⟩ (by simp) rfl _ 29 rfl rfl
      refine ⟨wanted_of (j := 6) (d := 26) rfl rfl rfl (by rw [hs]; exact of_decide_eq_true (by kernel_rfl)) qg, fun K hK => ?_⟩
      exact step_build3 rfl q0 q1 q2 (hK _ _ (below1 _ _) (Exists.intro _ (And.intro rfl (lie_new _ [pL, pL, pR]))))
    | 11, ho =>
      obtain rfl := Option.some.inj ho
      have qg : a.tmps.getD 26 undef = .bool false := hdep ⟨6, .guard⟩ (by simp) rfl _ 26 rfl rfl
      have q0 : ∃ ao, a.tmps.getD 30 undef = .slice ao 3 3 ∧ Lie w1 ao [pL, pL, pR] := hdep ⟨10, .data⟩ (by simp) rfl _ 30 rfl rfl
      refine ⟨wanted_of (j := 6) (d := 26) rfl rfl rfl (by rw [hs]; exact of_decide_eq_true (by kernel_rfl)) qg, fun K hK => ?_⟩
      obtain ⟨ao, hv, hl⟩ := q0
      exact step_call1 rfl enter11 hv ((reduce_lit [pL, pL, pR] [pL] (by decide) _ _ _ _ rfl (by decide) hl).mono fun e w' hh => by
        obtain ⟨br, rfl, -, hl', hb⟩ := hh.out
        exact ⟨_, rfl, hK _ _ hb ⟨br, rfl, hl'⟩⟩)
    | 12, ho =>
      obtain rfl := Option.some.inj ho
      have qg : a.tmps.getD 26 undef = .bool false := hdep ⟨6, .guard⟩ (by simp) rfl _ 26 rfl rfl
      refine ⟨wanted_of (j := 6) (d := 26) rfl rfl rfl (by rw [hs]; exact of_decide_eq_true (by kernel_rfl)) qg, fun K hK => ?_⟩
      exact step_load rfl ((hout 1 (.inl (by decide))).trans rfl) hI.left (hK _ _ (Below.refl _ _) rfl)
    | 13, ho =>
      obtain rfl := Option.some.inj ho
      have qg : a.tmps.getD 26 undef = .bool false := hdep ⟨6, .guard⟩ (by simp) rfl _ 26 rfl rfl
      have q0 : a.tmps.getD 32 undef = pL.v := hdep ⟨12, .data⟩ (by simp) rfl _ 32 rfl rfl
      refine ⟨wanted_of (j := 6) (d := 26) rfl rfl rfl (by rw [hs]; exact of_decide_eq_true (by kernel_rfl)) qg, fun K hK => ?_⟩
      exact step_build1 rfl q0 (hK _ _ (below1 _ _) (Exists.intro _ (And.intro rfl (lie_new _ [pL]))))
    | 14, ho =>
      obtain rfl := Option.some.inj ho
      have qg : a.tmps.getD 26 undef = .bool false := hdep ⟨6, .guard⟩ (by simp) rfl _ 26 rfl rfl
      have q0 : ∃ ao, a.tmps.getD 31 undef = .slice ao 1 1 ∧ Lie w1 ao [pL] := hdep ⟨11, .data⟩ (by simp) rfl _ 31 rfl rfl
      have q1 : ∃ ao, a.tmps.getD 33 undef = .slice ao 1 1 ∧ Lie w1 ao [pL] := hdep ⟨13, .data⟩ (by simp) rfl _ 33 rfl rfl
      refine ⟨wanted_of (j := 6) (d := 26) rfl rfl rfl (by rw [hs]; exact of_decide_eq_true (by kernel_rfl)) qg, fun K hK => ?_⟩
      obtain ⟨ao, hv, hl⟩ := q0
      obtain ⟨ao', hv', hl'⟩ := q1
      exact step_call2 rfl enter13 hv hv' ((same_yes _ _ [pL] _ _ _ rfl (by decide) hl hl').mono fun e w' hh => by
        obtain ⟨rfl, hb⟩ := hh
        exact ⟨_, rfl, hK _ _ hb rfl⟩)
    | 15, ho =>
      obtain rfl := Option.some.inj ho
      have qg : a.tmps.getD 26 undef = .bool false := hdep ⟨6, .guard⟩ (by simp) rfl _ 26 rfl rfl
      have q0 : a.tmps.getD 34 undef = .int .i64 1 := hdep ⟨14, .data⟩ (by simp) rfl _ 34 rfl rfl
      refine ⟨wanted_of (j := 6) (d := 26) rfl rfl rfl (by rw [hs]; exact of_decide_eq_true (by kernel_rfl)) qg, fun K hK => ?_⟩
      exact step_int (r := false) rfl q0 (.inr ⟨rfl, by decide⟩) (hK _ _ (Below.refl _ _) rfl)
    | 16, ho =>
      obtain rfl := Option.some.inj ho
      have q0 : a.tmps.getD 26 undef = .bool false := hdep ⟨6, .data⟩ (by simp) rfl _ 26 rfl rfl
      have q1 : a.tmps.getD 35 undef = .bool false := hdep ⟨15, .data⟩ (by simp) rfl _ 35 rfl rfl
      refine ⟨rfl, fun K hK => ?_⟩
      exact step_pick rfl q0 q1 (hK _ _ (Below.refl _ _) rfl)
    | 17, ho =>
      obtain rfl := Option.some.inj ho
      have q0 : a.tmps.getD 36 undef = .bool false := hdep ⟨16, .data⟩ (by simp) rfl _ 36 rfl rfl
      refine ⟨rfl, fun K hK => ?_⟩
      exact step_move rfl q0 (hK _ _ (Below.refl _ _) rfl)
    | 18, ho =>
      obtain rfl := Option.some.inj ho
      have qg : a.tmps.getD 37 undef = .bool false := hdep ⟨17, .guard⟩ (by simp) rfl _ 37 rfl rfl
      refine ⟨wanted_of (j := 17) (d := 37) rfl rfl rfl (by rw [hs]; exact of_decide_eq_true (by kernel_rfl)) qg, fun K hK => ?_⟩
      exact step_load rfl ((hout 2 (.inl (by decide))).trans rfl) hI.right (hK _ _ (Below.refl _ _) rfl)
    | 19, ho =>
      obtain rfl := Option.some.inj ho
      have qg : a.tmps.getD 37 undef = .bool false := hdep ⟨17, .guard⟩ (by simp) rfl _ 37 rfl rfl
      refine ⟨wanted_of (j := 17) (d := 37) rfl rfl rfl (by rw [hs]; exact of_decide_eq_true (by kernel_rfl)) qg, fun K hK => ?_⟩
      exact step_load rfl ((hout 1 (.inl (by decide))).trans rfl) hI.left (hK _ _ (Below.refl _ _) rfl)
    | 20, ho =>
      obtain rfl := Option.some.inj ho
      have qg : a.tmps.getD 37 undef = .bool false := hdep ⟨17, .guard⟩ (by simp) rfl _ 37 rfl rfl
      refine ⟨wanted_of (j := 17) (d := 37) rfl rfl rfl (by rw [hs]; exact of_decide_eq_true (by kernel_rfl)) qg, fun K hK => ?_⟩
      exact step_load rfl ((hout 1 (.inl (by decide))).trans rfl) hI.left (hK _ _ (Below.refl _ _) rfl)
    | 21, ho =>
      obtain rfl := Option.some.inj ho
      have qg : a.tmps.getD 37 undef = .bool false := hdep ⟨17, .guard⟩ (by simp) rfl _ 37 rfl rfl
      refine ⟨wanted_of (j := 17) (d := 37) rfl rfl rfl (by rw [hs]; exact of_decide_eq_true (by kernel_rfl)) qg, fun K hK => ?_⟩
      exact step_load rfl ((hout 2 (.inl (by decide))).trans rfl) hI.right (hK _ _ (Below.refl _ _) rfl)
    | 22, ho =>
      obtain rfl := Option.some.inj ho
      have qg : a.tmps.getD 37 undef = .bool false := hdep ⟨17, .guard⟩ (by simp) rfl _ 37 rfl rfl
      refine ⟨wanted_of (j := 17) (d := 37) rfl rfl rfl (by rw [hs]; exact of_decide_eq_true (by kernel_rfl)) qg, fun K hK => ?_⟩
      exact step_load rfl ((hout 2 (.inl (by decide))).trans rfl) hI.right (hK _ _ (Below.refl _ _) rfl)
    | 23, ho =>
      obtain rfl := Option.some.inj ho
      have qg : a.tmps.getD 37 undef = .bool false := hdep ⟨17, .guard⟩ (by simp) rfl _ 37 rfl rfl
      have q0 : a.tmps.getD 38 undef = pR.v := hdep ⟨18, .data⟩ (by simp) rfl _ 38 rfl rfl
      have q1 : a.tmps.getD 39 undef = pL.v := hdep ⟨19, .data⟩ (by simp) rfl _ 39 rfl rfl
      have q2 : a.tmps.getD 40 undef = pL.v := hdep ⟨20, .data⟩ (by simp) rfl _ 40 rfl rfl
      have q3 : a.tmps.getD 41 undef = pR.v := hdep ⟨21, .data⟩ (by simp) rfl _ 41 rfl rfl
      have q4 : a.tmps.getD 42 undef = pR.v := hdep ⟨22, .data⟩ (by simp) rfl _ 42 rfl rfl
      refine ⟨wanted_of (j := 17) (d := 37) rfl rfl rfl (by rw [hs]; exact of_decide_eq_true (by kernel_rfl)) qg, fun K hK => ?_⟩
      exact step_build5 rfl q0 q1 q2 q3 q4 (hK _ _ (below1 _ _) (Exists.intro _ (And.intro rfl (lie_new _ [pR, pL, pL, pR, pR]))))
    | 24, ho =>
      obtain rfl := Option.some.inj ho
      have qg : a.tmps.getD 37 undef = .bool false := hdep ⟨17, .guard⟩ (by simp) rfl _ 37 rfl rfl
      have q0 : ∃ ao, a.tmps.getD 43 undef = .slice ao 5 5 ∧ Lie w1 ao [pR, pL, pL, pR, pR] := hdep ⟨23, .data⟩ (by simp) rfl _ 43 rfl rfl
      refine ⟨wanted_of (j := 17) (d := 37) rfl rfl rfl (by rw [hs]; exact of_decide_eq_true (by kernel_rfl)) qg, fun K hK => ?_⟩
      obtain ⟨ao, hv, hl⟩ := q0
      exact step_call1 rfl enter11 hv ((reduce_lit [pR, pL, pL, pR, pR] [pR] (by decide) _ _ _ _ rfl (by decide) hl).mono fun e w' hh => by
        obtain ⟨br, rfl, -, hl', hb⟩ := hh.out
        exact ⟨_, rfl, hK _ _ hb ⟨br, rfl, hl'⟩⟩)
    | 25, ho =>
      obtain rfl := Option.some.inj ho
      have qg : a.tmps.getD 37 undef = .bool false := hdep ⟨17, .guard⟩ (by simp) rfl _ 37 rfl rfl
      refine ⟨wanted_of (j := 17) (d := 37) rfl rfl rfl (by rw [hs]; exact of_decide_eq_true (by kernel_rfl)) qg, fun K hK => ?_⟩
      exact step_load rfl ((hout 2 (.inl (by decide))).trans rfl) hI.right (hK _ _ (Below.refl _ _) rfl)
    | 26, ho =>
      obtain rfl := Option.some.inj ho
      have qg : a.tmps.getD 37 undef = .bool false := hdep ⟨17, .guard⟩ (by simp) rfl _ 37 rfl rfl
      have q0 : a.tmps.getD 45 undef = pR.v := hdep ⟨25, .data⟩ (by simp) rfl _ 45 rfl rfl
      refine ⟨wanted_of (j := 17) (d := 37) rfl rfl rfl (by rw [hs]; exact of_decide_eq_true (by kernel_rfl)) qg, fun K hK => ?_⟩
      exact step_build1 rfl q0 (hK _ _ (below1 _ _) (Exists.intro _ (And.intro rfl (lie_new _ [pR]))))
    | 27, ho =>
      obtain rfl := Option.some.inj ho
      have qg : a.tmps.getD 37 undef = .bool false := hdep ⟨17, .guard⟩ (by simp) rfl _ 37 rfl rfl
      have q0 : ∃ ao, a.tmps.getD 44 undef = .slice ao 1 1 ∧ Lie w1 ao [pR] := hdep ⟨24, .data⟩ (by simp) rfl _ 44 rfl rfl
      have q1 : ∃ ao, a.tmps.getD 46 undef = .slice ao 1 1 ∧ Lie w1 ao [pR] := hdep ⟨26, .data⟩ (by simp) rfl _ 46 rfl rfl
      refine ⟨wanted_of (j := 17) (d := 37) rfl rfl rfl (by rw [hs]; exact of_decide_eq_true (by kernel_rfl)) qg, fun K hK => ?_⟩
      obtain ⟨ao, hv, hl⟩ := q0
      obtain ⟨ao', hv', hl'⟩ := q1
      exact step_call2 rfl enter13 hv hv' ((same_yes _ _ [pR] _ _ _ rfl (by decide) hl hl').mono fun e w' hh => by
        obtain ⟨rfl, hb⟩ := hh
        exact ⟨_, rfl, hK _ _ hb rfl⟩)
    | 28, ho =>
      obtain rfl := Option.some.inj ho
      have qg : a.tmps.getD 37 undef = .bool false := hdep ⟨17, .guard⟩ (by simp) rfl _ 37 rfl rfl
      have q0 : a.tmps.getD 47 undef = .int .i64 1 := hdep ⟨27, .data⟩ (by simp) rfl _ 47 rfl rfl
      refine ⟨wanted_of (j := 17) (d := 37) rfl rfl rfl (by rw [hs]; exact of_decide_eq_true (by kernel_rfl)) qg, fun K hK => ?_⟩
      exact step_int (r := false) rfl q0 (.inr ⟨rfl, by decide⟩) (hK _ _ (Below.refl _ _) rfl)
    | 29, ho =>
      obtain rfl := Option.some.inj ho
      have q0 : a.tmps.getD 37 undef = .bool false := hdep ⟨17, .data⟩ (by simp) rfl _ 37 rfl rfl
      have q1 : a.tmps.getD 48 undef = .bool false := hdep ⟨28, .data⟩ (by simp) rfl _ 48 rfl rfl
      refine ⟨rfl, fun K hK => ?_⟩
      exact step_pick rfl q0 q1 (hK _ _ (Below.refl _ _) rfl)
    | 30, ho =>
      obtain rfl := Option.some.inj ho
      have q0 : a.tmps.getD 49 undef = .bool false := hdep ⟨29, .data⟩ (by simp) rfl _ 49 rfl rfl
      refine ⟨rfl, fun K hK => ?_⟩
      exact step_move rfl q0 (hK _ _ (Below.refl _ _) rfl)
    | 31, ho =>
      obtain rfl := Option.some.inj ho
      have qg : a.tmps.getD 50 undef = .bool false := hdep ⟨30, .guard⟩ (by simp) rfl _ 50 rfl rfl
      refine ⟨wanted_of (j := 30) (d := 50) rfl rfl rfl (by rw [hs]; exact of_decide_eq_true (by kernel_rfl)) qg, fun K hK => ?_⟩
      exact step_load rfl ((hout 1 (.inl (by decide))).trans rfl) hI.left (hK _ _ (Below.refl _ _) rfl)
    | 32, ho =>
      obtain rfl := Option.some.inj ho
      have qg : a.tmps.getD 50 undef = .bool false := hdep ⟨30, .guard⟩ (by simp) rfl _ 50 rfl rfl
      refine ⟨wanted_of (j := 30) (d := 50) rfl rfl rfl (by rw [hs]; exact of_decide_eq_true (by kernel_rfl)) qg, fun K hK => ?_⟩
      exact step_load rfl ((hout 1 (.inl (by decide))).trans rfl) hI.left (hK _ _ (Below.refl _ _) rfl)
    | 33, ho =>
      obtain rfl := Option.some.inj ho
      have qg : a.tmps.getD 50 undef = .bool false := hdep ⟨30, .guard⟩ (by simp) rfl _ 50 rfl rfl
      have q0 : a.tmps.getD 51 undef = pL.v := hdep ⟨31, .data⟩ (by simp) rfl _ 51 rfl rfl
      have q1 : a.tmps.getD 52 undef = pL.v := hdep ⟨32, .data⟩ (by simp) rfl _ 52 rfl rfl
      refine ⟨wanted_of (j := 30) (d := 50) rfl rfl rfl (by rw [hs]; exact of_decide_eq_true (by kernel_rfl)) qg, fun K hK => ?_⟩
      exact step_build2 rfl q0 q1 (hK _ _ (below1 _ _) (Exists.intro _ (And.intro rfl (lie_new _ [pL, pL]))))
    | 34, ho =>
      obtain rfl := Option.some.inj ho
      have qg : a.tmps.getD 50 undef = .bool false := hdep ⟨30, .guard⟩ (by simp) rfl _ 50 rfl rfl
      have q0 : ∃ ao, a.tmps.getD 53 undef = .slice ao 2 2 ∧ Lie w1 ao [pL, pL] := hdep ⟨33, .data⟩ (by simp) rfl _ 53 rfl rfl
      refine ⟨wanted_of (j := 30) (d := 50) rfl rfl rfl (by rw [hs]; exact of_decide_eq_true (by kernel_rfl)) qg, fun K hK => ?_⟩
      obtain ⟨ao, hv, hl⟩ := q0
      exact step_call1 rfl enter16 hv ((inverse_lit [pL, pL] [pR, pR] (by decide) _ _ _ _ rfl (by decide) hl).mono fun e w' hh => by
        obtain ⟨br, rfl, -, hl', hb⟩ := hh.out
        exact ⟨_, rfl, hK _ _ hb ⟨br, rfl, hl'⟩⟩)
    | 35, ho =>
      obtain rfl := Option.some.inj ho
      have qg : a.tmps.getD 50 undef = .bool false := hdep ⟨30, .guard⟩ (by simp) rfl _ 50 rfl rfl
      refine ⟨wanted_of (j := 30) (d := 50) rfl rfl rfl (by rw [hs]; exact of_decide_eq_true (by kernel_rfl)) qg, fun K hK => ?_⟩
      exact step_load rfl ((hout 2 (.inl (by decide))).trans rfl) hI.right (hK _ _ (Below.refl _ _) rfl)
    | 36, ho =>
      obtain rfl := Option.some.inj ho
      have qg : a.tmps.getD 50 undef = .bool false := hdep ⟨30, .guard⟩ (by simp) rfl _ 50 rfl rfl
      refine ⟨wanted_of (j := 30) (d := 50) rfl rfl rfl (by rw [hs]; exact of_decide_eq_true (by kernel_rfl)) qg, fun K hK => ?_⟩
      exact step_load rfl ((hout 2 (.inl (by decide))).trans rfl) hI.right (hK _ _ (Below.refl _ _) rfl)
    | 37, ho =>
      obtain rfl := Option.some.inj ho
      have qg : a.tmps.getD 50 undef = .bool false := hdep ⟨30, .guard⟩ (by simp) rfl _ 50 rfl rfl
      have q0 : a.tmps.getD 55 undef = pR.v := hdep ⟨35, .data⟩ (by simp) rfl _ 55 rfl rfl
      have q1 : a.tmps.getD 56 undef = pR.v := hdep ⟨36, .data⟩ (by simp) rfl _ 56 rfl rfl
      refine ⟨wanted_of (j := 30) (d := 50) rfl rfl rfl (by rw [hs]; exact of_decide_eq_true (by kernel_rfl)) qg, fun K hK => ?_⟩
      exact step_build2 rfl q0 q1 (hK _ _ (below1 _ _) (Exists.intro _ (And.intro rfl (lie_new _ [pR, pR]))))
    | 38, ho =>
      obtain rfl := Option.some.inj ho
      have qg : a.tmps.getD 50 undef = .bool false := hdep ⟨30, .guard⟩ (by simp) rfl _ 50 rfl rfl
      have q0 : ∃ ao, a.tmps.getD 54 undef = .slice ao 2 2 ∧ Lie w1 ao [pR, pR] := hdep ⟨34, .data⟩ (by simp) rfl _ 54 rfl rfl
      have q1 : ∃ ao, a.tmps.getD 57 undef = .slice ao 2 2 ∧ Lie w1 ao [pR, pR] := hdep ⟨37, .data⟩ (by simp) rfl _ 57 rfl rfl
      refine ⟨wanted_of (j := 30) (d := 50) rfl rfl rfl (by rw [hs]; exact of_decide_eq_true (by kernel_rfl)) qg, fun K hK => ?_⟩
      obtain ⟨ao, hv, hl⟩ := q0
      obtain ⟨ao', hv', hl'⟩ := q1
      exact step_call2 rfl enter13 hv hv' ((same_yes _ _ [pR, pR] _ _ _ rfl (by decide) hl hl').mono fun e w' hh => by
        obtain ⟨rfl, hb⟩ := hh
        exact ⟨_, rfl, hK _ _ hb rfl⟩)
    | 39, ho =>
      obtain rfl := Option.some.inj ho
      have qg : a.tmps.getD 50 undef = .bool false := hdep ⟨30, .guard⟩ (by simp) rfl _ 50 rfl rfl
      have q0 : a.tmps.getD 58 undef = .int .i64 1 := hdep ⟨38, .data⟩ (by simp) rfl _ 58 rfl rfl
      refine ⟨wanted_of (j := 30) (d := 50) rfl rfl rfl (by rw [hs]; exact of_decide_eq_true (by kernel_rfl)) qg, fun K hK => ?_⟩
      exact step_int (r := false) rfl q0 (.inr ⟨rfl, by decide⟩) (hK _ _ (Below.refl _ _) rfl)
    | 40, ho =>
      obtain rfl := Option.some.inj ho
      have q0 : a.tmps.getD 50 undef = .bool false := hdep ⟨30, .data⟩ (by simp) rfl _ 50 rfl rfl
      have q1 : a.tmps.getD 59 undef = .bool false := hdep ⟨39, .data⟩ (by simp) rfl _ 59 rfl rfl
      refine ⟨rfl, fun K hK => ?_⟩
      exact step_pick rfl q0 q1 (hK _ _ (Below.refl _ _) rfl)
    | i + 41, ho => exact absurd (show i + 41 < 41 from hlt) (by omega)
  · intro a w1 hs hd hout hII hall
    obtain ⟨tmps, defers⟩ := a
    have e60 : tmps.getD 60 undef = .bool false := hall 40 _ 60 rfl rfl
    simp only at hs hd hout
    have ef := frame_eq 20 60 [.bool false, .pointer (some ⟨w.heap.size, 0, none⟩), .pointer (some ⟨w.heap.size + 1, 0, none⟩), undef, undef, undef, undef, undef, undef, undef, undef, undef, undef, undef, undef, undef, .agg #[.int .u8 1, .int .i64 0], .agg #[.int .u8 1, .int .i64 0, .bool false, .int .u8 0], .agg #[.int .u8 1, .int .i64 0], .agg #[.int .u8 1, .int .i64 0, .bool false, .int .u8 1], undef, undef, undef, undef, undef, undef, undef, undef, undef, undef, undef, undef, undef, undef, undef, undef, undef, undef, undef, undef, undef, undef, undef, undef, undef, undef, undef, undef, undef, undef, undef, undef, undef, undef, undef, undef, undef, undef, undef, undef, undef, undef, undef, undef, undef, undef, undef, undef, undef, undef, undef, undef, undef, undef, undef, undef, undef, undef, undef, undef, undef, undef, undef, undef, undef, undef, undef, undef, undef, undef, undef, undef, undef, undef, undef, undef, undef, undef, undef, undef, undef, undef, undef, undef, undef, undef, undef, undef, undef, undef, undef, undef, undef, undef, undef, undef, undef, undef, undef, undef, undef, undef, undef, undef, undef, undef, undef, undef, undef, undef, undef, undef, undef, undef, undef, undef, undef, undef, undef, undef, undef, undef, undef, undef, undef, undef, undef, undef, undef, undef, undef, undef, undef, undef, undef, undef, undef, undef, undef, undef, undef, undef, undef, undef, undef, undef, undef, undef, undef, undef, undef, undef] tmps hs hout
    obtain ⟨u, hu⟩ : ∃ u : Nat → Value, u = fun s => tmps.getD s undef := ⟨_, rfl⟩
    have e60u : u 60 = .bool false := by rw [hu]; exact e60
    rw [← hu] at ef
    have ef2 : tmps = #[.bool false, .pointer (some ⟨w.heap.size, 0, none⟩), .pointer (some ⟨w.heap.size + 1, 0, none⟩), undef, undef, undef, undef, undef, undef, undef, undef, undef, undef, undef, undef, undef, .agg #[.int .u8 1, .int .i64 0], .agg #[.int .u8 1, .int .i64 0, .bool false, .int .u8 0], .agg #[.int .u8 1, .int .i64 0], .agg #[.int .u8 1, .int .i64 0, .bool false, .int .u8 1], u 20, u 21, u 22, u 23, u 24, u 25, u 26, u 27, u 28, u 29, u 30, u 31, u 32, u 33, u 34, u 35, u 36, u 37, u 38, u 39, u 40, u 41, u 42, u 43, u 44, u 45, u 46, u 47, u 48, u 49, u 50, u 51, u 52, u 53, u 54, u 55, u 56, u 57, u 58, u 59, u 60, undef, undef, undef, undef, undef, undef, undef, undef, undef, undef, undef, undef, undef, undef, undef, undef, undef, undef, undef, undef, undef, undef, undef, undef, undef, undef, undef, undef, undef, undef, undef, undef, undef, undef, undef, undef, undef, undef, undef, undef, undef, undef, undef, undef, undef, undef, undef, undef, undef, undef, undef, undef, undef, undef, undef, undef, undef, undef, undef, undef, undef, undef, undef, undef, undef, undef, undef, undef, undef, undef, undef, undef, undef, undef, undef, undef, undef, undef, undef, undef, undef, undef, undef, undef, undef, undef, undef, undef, undef, undef, undef, undef, undef, undef, undef, undef, undef, undef, undef, undef, undef, undef, undef, undef, undef, undef, undef, undef, undef, undef, undef] := ef
    subst hd
    rw [e60u] at ef2
    rw [ef2]
    have HI := Lib.hid hII
    clear ef ef2 hu e60 hs hout hall hII
    have T1 := HI.out.1
    have hb1 : Below w.heap.size w w1 := B0.trans (HI.out.2.mono B0.size)
    clear HI HT
    have hz1 := hb1.size
    have VE : Hid (VY false 0 0 false []) := ⟨⟨by omega, by omega⟩, by simp⟩
    have V179 : Hid (VY true 179 0 true []) := ⟨⟨by omega, by omega⟩, by simp only [if_true]; exact ⟨⟨by omega, by omega, by decide⟩, by simp, fun _ h => absurd h (by simp), Red.nil⟩⟩
    have V7 : Hid (VY true 7 0 true [pL]) := ⟨⟨by omega, by omega⟩, by simp only [if_true]; exact ⟨⟨by omega, by omega, by decide⟩, by simp, fun p h => by simp at h; subst h; exact ⟨⟨by decide, by decide, by decide, by decide⟩, .inl rfl⟩, Red.one _⟩⟩
    have V71 : Hid (VY true 7 1 false []) := ⟨⟨by omega, by omega⟩, by simp only [if_true]; exact ⟨⟨by omega, by omega, by decide⟩, by simp, fun _ h => absurd h (by simp), Red.nil⟩⟩
    have HT1 := Lib.hid T1
    clear T1
    go_wp2_with (go_at_call 17; refine (enter_ok1 0 0 false none [] 0 0 _ rfl (by decide) (Lie.nil _ _) VE.out).mono ?_; rintro e w2 ⟨rfl, hb⟩; refine Hid.out ?_)
    have HT2 := Lib.hid (HT1.out.below hb)
    have hb2 : Below w.heap.size w w2 := hb1.trans (hb.mono hz1)
    clear hb hb1 HT1
    have hz2 := hb2.size
    refine Lib.hid ?_
    go_wp2_with (go_at_call 17; refine (enter_in 179 0 true none [] 0 0 _ rfl (by decide) (Lie.nil _ _) 1 V179.out (.inr rfl)).mono ?_; rintro e w3 ⟨rfl, hb⟩; refine Hid.out ?_)
    have HT3 := Lib.hid ((HT2.out.below (below1 w2 _)).below hb)
    have F3 := (five1' w2 true 179 0 true (.slice none 0 0)).below hb (by simp)
    have hb3 : Below w.heap.size w w3 := (hb2.alloc hz2 _).trans (hb.mono (by simp; omega))
    have hz23 : w2.heap.size + 1 ≤ w3.heap.size := by have := hb.size; simpa using this
    clear hb hb2
    obtain ⟨K3, hK3⟩ : ∃ K, K = w2.heap.size := ⟨_, rfl⟩
    rw [← hK3] at F3 hz23 ⊢
    have hK3w : w.heap.size + 2 ≤ K3 := by rw [hK3]; have := HT2.out.lt; omega
    clear hK3 hz2 HT2
    have hz3 := hb3.size
    have q3 := fun o => F3.alloc (by omega) o
    have q30 := fun o => (q3 o).1.1
    have q31 := fun o => (q3 o).1.2.1
    have q32 := fun o => (q3 o).1.2.2.1
    have q33 := fun o => (q3 o).1.2.2.2.1
    have q34 := fun o => (q3 o).1.2.2.2.2
    have r3 := fun o => (HT3.out.below (below1 w3 o)).1
    have r30 := fun o => (r3 o).1
    have r31 := fun o => (r3 o).2.1
    have r32 := fun o => (r3 o).2.2.1
    have r33 := fun o => (r3 o).2.2.2
    have HF3 := Lib.hid F3
    clear F3 q3 r3
    have PL7 : PlaceOk 7 := ⟨by decide, by decide, by decide⟩
    have GPL : ∀ p ∈ [pL], Good p := fun p h => by simp at h; subst h; exact ⟨⟨by decide, by decide, by decide, by decide⟩, .inl rfl⟩
    have HPL := Lib.hid PL7
    have HGP := Lib.hid GPL
    clear PL7 GPL
    refine Lib.hid ?_
    go_wp2_with (go_at_call 19; refine (go_ok 179 0 true none [] 0 0 _ rfl (by decide) (Lie.nil _ _) 7 _ [pL] 1 _ (by rfl) (by decide) (by exact lie_new2 _ _) V179.out HPL.out HGP.out (by decide) (by decide)).mono ?_; rintro e w4 ⟨bo, rfl, ho, hb⟩; refine Hid.out ?_)
    have er : red [pL] = [pL] := by decide
    simp only [List.nil_append] at ho
    rw [er] at ho ⊢
    rw [show [pL].length = 1 from rfl] at ho ⊢
    clear er
    have hb34 : Below w3.heap.size w3 w4 := (below2 w3 _ _).trans (hb.mono (by simp; omega))
    have HT4 := Lib.hid (HT3.out.below hb34)
    have F4 := HF3.out.below hb34 (by omega)
    have hb4 : Below w.heap.size w w4 := hb3.trans (hb34.mono hz3)
    have HO4 := Lib.hid ho
    have hzz : w3.heap.size + 2 ≤ w4.heap.size := by have := hb.size; simpa using this
    clear ho hb hb34 hb3 HT3 HF3 q30 q31 q32 q33 q34 r30 r31 r32 r33
    have hz4 := hb4.size
    obtain ⟨⟨c0, c1, c2, c3, c4⟩, ⟨f0, f1, f2, f3, f4⟩⟩ := F4
    obtain ⟨W5, hW5⟩ : ∃ W5 : World, W5 = (((((w4.setCell ⟨K3, 0, none⟩ (.bool true)).setCell ⟨K3, 1, none⟩ (.int .i64 7)).setCell ⟨K3, 2, none⟩ (.int .i64 0)).setCell ⟨K3, 3, none⟩ (.bool true)).setCell ⟨K3, 4, none⟩ (.slice bo 1 1)) := ⟨_, rfl⟩
    have hb45 : Below K3 w4 W5 := by rw [hW5]; exact below_sets5 (Below.refl _ _) (Nat.le_refl _) _ _ _ _ _
    have HT5 := Lib.hid (HT4.out.belowB hb45 (by omega))
    have HL5 : Hid (Lie W5 bo [pL]) := by
      obtain ⟨-, aoX, capX, hv, -, -, hlX⟩ := lie_of_owns HO4.out
      obtain ⟨rfl, -⟩ : bo = aoX ∧ 1 = capX := by simpa using hv
      rw [hW5]
      exact lie_sets5' hlX (owns_block' HO4.out (by simp; omega)) _ _ _ _ _
    have hb5 : Below w.heap.size w W5 := hb4.trans (hb45.mono (by omega))
    have hz5 := hb5.size
    have HW5 := Lib.hid hW5
    clear hW5 hb45 hb4
    refine Lib.hid ?_
    go_wp2_with (go_at_call 20; rw [← HW5.out]; refine (make_ok 7 0 true bo [pL] 1 1 _ (by rfl) (by decide) (by exact HL5.out) V7.out (by decide)).mono ?_; rintro e w6 ⟨br, rfl, ho, hb⟩; refine Hid.out ?_)
    rw [show [pL].length = 1 from rfl] at ho
    have HT6 := Lib.hid (HT5.out.below hb)
    have HL6 : Hid (Lie w6 br [pL]) := by
      obtain ⟨-, aoX, capX, hv, -, -, hlX⟩ := lie_of_owns ho
      obtain ⟨rfl, -⟩ : br = aoX ∧ 1 = capX := by simpa using hv
      exact hlX
    have hb6 : Below w.heap.size w w6 := hb5.trans (hb.mono hz5)
    clear ho hb hb5 HT5 HL5 HT4 HO4 c0 c1 c2 c3 c4 f0 f1 f2 f3 f4
    have hz6 := hb6.size
    refine Lib.hid ?_
    go_wp2_with (go_at_call 20; refine (make_ok 7 1 false none [] 0 0 _ (by rfl) (by decide) (Lie.nil _ _) V71.out (by decide)).mono ?_; rintro e w7 ⟨bs, rfl, -, hb⟩; refine Hid.out ?_)
    have hb67 : Below w6.heap.size w6 w7 := (below2 w6 _ _).trans (hb.mono (by simp; omega))
    have HT7 := Lib.hid (HT6.out.below hb67)
    have HL7 := Lib.hid (HL6.out.below hb67)
    have F7 := ((five1' w6 true 7 1 false (.slice none 0 0)).below (below1 _ _) (by simp)).below hb (by simp; omega)
    have M8 := (three_any (w6.alloc (.cells #[.bool true, .int .i64 7, .int .i64 1, .bool false, .slice none 0 0] 38)) 0 true (.slice br 1 1)).below hb (by simp)
    rw [show (w6.alloc (.cells #[.bool true, .int .i64 7, .int .i64 1, .bool false, .slice none 0 0] 38)).heap.size = w6.heap.size + 1 by simp] at M8
    have hb7 : Below w.heap.size w w7 := hb6.trans (hb67.mono hz6)
    have hzz7 : w6.heap.size + 2 ≤ w7.heap.size := by have := hb.size; simpa using this
    clear hb hb67 hb6 HT6 HL6
    obtain ⟨K7, hK7⟩ : ∃ K, K = w6.heap.size := ⟨_, rfl⟩
    rw [← hK7] at F7 M8 hzz7 ⊢
    clear hK7
    have hz7 := hb7.size
    have q7 := fun o o' => (F7.alloc (by omega) o).alloc (w := w7.alloc o) (by simp; omega) o'
    have q70 := fun o o' => (q7 o o').1.1
    have q71 := fun o o' => (q7 o o').1.2.1
    have q72 := fun o o' => (q7 o o').1.2.2.1
    have q73 := fun o o' => (q7 o o').1.2.2.2.1
    have q74 := fun o o' => (q7 o o').1.2.2.2.2
    have HM8 := Lib.hid M8
    clear q7 F7 M8
    have PL8 : Hid (¬ PlaceOk 8) := fun h => h.2.2 (by decide)
    refine Lib.hid ?_
    go_wp2_with (go_at_call 19; refine (go_bad2 true 7 1 false none [] 0 0 _ (by rfl) (by decide) (Lie.nil _ _) 8 none 0 0 V71.out PL8.out).mono ?_; rintro e w8 ⟨rfl, hb⟩; refine Hid.out ?_)
    have hb78 : Below w7.heap.size w7 w8 := (below2 w7 _ _).trans (hb.mono (by simp; omega))
    have HT8 := Lib.hid (HT7.out.below hb78)
    have HL8 := Lib.hid (HL7.out.below hb78)
    have HM8 := Lib.hid (HM8.out.below hb78 (by omega))
    have M10 := (three_any (w7.alloc (.cells #[.bool true, .int .i64 7, .int .i64 2, .bool false, .slice none 0 0] 38)) 1 false (.slice bs 0 0)).below hb (by simp)
    rw [show (w7.alloc (.cells #[.bool true, .int .i64 7, .int .i64 2, .bool false, .slice none 0 0] 38)).heap.size = w7.heap.size + 1 by simp] at M10
    have hb8 : Below w.heap.size w w8 := hb7.trans (hb78.mono hz7)
    have hzz8 : w7.heap.size + 2 ≤ w8.heap.size := by have := hb.size; simpa using this
    have HM10 := Lib.hid M10
    clear hb hb78 hb7 HT7 HL7 M10 q70 q71 q72 q73 q74
    have hz8 := hb8.size
    have PL7' := HPL.out
    have HP7 := Lib.hid PL7'
    clear PL7'
    refine Lib.hid ?_
    go_wp2_with (go_at_call 19; refine (go_out 0 0 false none [] 0 0 _ (by rfl) (by decide) (Lie.nil _ _) 7 none [] 0 0 (by rfl) (by decide) (Lie.nil _ _) VE.out HP7.out (by intro p h; simp at h)).mono ?_; rintro e w9 ⟨rfl, hb⟩; refine Hid.out ?_)
    have hb89 : Below w8.heap.size w8 w9 := (below1 w8 _).trans (hb.mono (by simp))
    have HT9 := HT8.out.below hb89
    have HL9 := Lib.hid (HL8.out.below hb89)
    have M8 := HM8.out.below hb89 (by omega)
    have M10 := HM10.out.below hb89 (by omega)
    have hb9 : Below w.heap.size w w9 := hb8.trans (hb89.mono hz8)
    have hzz9 : w8.heap.size ≤ w9.heap.size := hb89.size
    clear hb hb89 hb8 HT8 HL8 HM8 HM10
    have hz9 := hb9.size
    have q8 := fun o => M8.below (below1 w9 o) (by omega)
    have q80 := fun o => (q8 o).1.1
    have q81 := fun o => (q8 o).1.2.1
    have q82 := fun o => (q8 o).1.2.2
    have r9 := fun o => (HT9.below (below1 w9 o)).1
    have r90 := fun o => (r9 o).1
    have r91 := fun o => (r9 o).2.1
    have r92 := fun o => (r9 o).2.2.1
    have r93 := fun o => (r9 o).2.2.2
    have HM10 := Lib.hid M10
    clear q8 r9 M8 M10 HT9
    refine Lib.hid ?_
    go_wp2_with (go_at_call 13; refine (same_yes br _ [pL] 1 _ _ (by rfl) (by decide) (by exact HL9.out.below (below2 _ _ _)) (by exact lie_new2 _ _)).mono ?_; rintro e wA ⟨rfl, hb⟩; refine Hid.out ?_)
    have hb9A : Below w9.heap.size w9 wA := (below2 w9 _ _).trans (hb.mono (by simp; omega))
    have M10 := HM10.out.below hb9A (by omega)
    have hbA : Below w.heap.size w wA := hb9.trans (hb9A.mono hz9)
    obtain ⟨⟨n0, n1, n2⟩, -⟩ := M10
    clear hb hb9A hb9 q80 q81 q82 r90 r91 r92 r93
    refine Lib.hid ?_
    go_wp2_with fail
    go_ret
    exact ⟨rfl, hbA⟩

theorem lives_any : LivesSaid := lives_any'

end Go.Proofs.Ytikdhdikaihenaa
