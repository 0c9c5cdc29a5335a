import Derived.Test.YtikdhdikaihenaaRg
import Derived.Test.YtikdhdikaihenaaInv
namespace Go.Proofs.Ytikdhdikaihenaa
open Go.RowKit Go.Sort

theorem enter11 (args : Array Value) (w : World) : (callFunc 11 args).run Try.prog w = .ok (.enter 11 args) w := by kernel_rfl
theorem enter13 (args : Array Value) (w : World) : (callFunc 13 args).run Try.prog w = .ok (.enter 13 args) w := by kernel_rfl
theorem enter16 (args : Array Value) (w : World) : (callFunc 16 args).run Try.prog w = .ok (.enter 16 args) w := by kernel_rfl

section
variable {o : Oper} {a : Act} {w : World} {K : Act → World → Prop} {Q : Exit → Act → World → Prop}

theorem step_load {t : Tmp} {b : Nat} {p : Ps} (hop : o.op = .load 33 (.tmp t)) (hp : a.eval (.tmp t) = .pointer (some ⟨b, 0, none⟩)) (hf : Four w b 0 p) (hK : K (a.put o.dst p.v) w) : o.wp Try.prog a w K Q := by
  obtain ⟨c0, c1, c2, c3⟩ := hf
  simp only [Nat.zero_add] at c0 c1 c2 c3
  obtain ⟨y, m, f, d⟩ := p
  simp only at c0 c1 c2 c3
  unfold Oper.wp
  simp only [execOp, hop, hp]
  go_simp
  exact hK

theorem step_call1 {f : FuncId} {t : Tmp} {T : TypeId} {v : Value} (hop : o.op = .call { callee := .value (.func f), args := #[.tmp t], argTypes := #[T] }) (he : ∀ args w, (callFunc f args).run Try.prog w = .ok (.enter f args) w) (hv : a.eval (.tmp t) = v)
    (hc : Calls Try.prog f #[v] w fun e w' => ∃ u, e = .returned u ∧ K (a.put o.dst u) w') : o.wp Try.prog a w K Q := by
  obtain ⟨dst, op, type, pos, after, guard⟩ := o
  simp only at hop
  subst hop
  unfold Oper.wp
  rw [execOp_call_go]
  have e : (#[] ++ Array.map a.eval #[.tmp t] ++ #[] : Array Value) = #[v] := by simp [hv]
  rw [e, he]
  simp only [Oper.upon]
  refine hc.mono fun x w' hx => ?_
  obtain ⟨u, rfl, hK⟩ := hx
  exact hK
theorem step_call2 {f : FuncId} {t t' : Tmp} {T T' : TypeId} {v v' : Value} (hop : o.op = .call { callee := .value (.func f), args := #[.tmp t, .tmp t'], argTypes := #[T, T'] }) (he : ∀ args w, (callFunc f args).run Try.prog w = .ok (.enter f args) w) (hv : a.eval (.tmp t) = v) (hv' : a.eval (.tmp t') = v')
    (hc : Calls Try.prog f #[v, v'] w fun e w' => ∃ u, e = .returned u ∧ K (a.put o.dst u) w') : o.wp Try.prog a w K Q := by
  obtain ⟨dst, op, type, pos, after, guard⟩ := o
  simp only at hop
  subst hop
  unfold Oper.wp
  rw [execOp_call_go]
  have e : (#[] ++ Array.map a.eval #[.tmp t, .tmp t'] ++ #[] : Array Value) = #[v, v'] := by simp [hv, hv']
  rw [e, he]
  simp only [Oper.upon]
  refine hc.mono fun x w' hx => ?_
  obtain ⟨u, rfl, hK⟩ := hx
  exact hK

theorem step_build1 {t0 : Tmp} {p0 : Ps} (hop : o.op = .buildSlice 23 1 #[(0, .tmp t0)]) (h0 : a.eval (.tmp t0) = p0.v) (hK : K (a.put o.dst (.slice (some ⟨w.heap.size, 0, none⟩) 1 1)) (w.alloc (.cells (cellsOf [p0]).toArray 33))) : o.wp Try.prog a w K Q := by
  obtain ⟨y0, m0, f0, d0⟩ := p0
  have e0 : a.tmps[t0]?.getD undef = .agg #[.int .u8 y0, .int .i64 m0, .bool f0, .int .u8 d0] := by simpa [Act.eval, Ps.v] using h0
  clear h0
  unfold Oper.wp
  simp only [execOp, hop]
  go_simp
  simpa [cellsOf, Act.put] using hK

theorem step_build2 {t0 t1 : Tmp} {p0 p1 : Ps} (hop : o.op = .buildSlice 23 2 #[(0, .tmp t0), (1, .tmp t1)]) (h0 : a.eval (.tmp t0) = p0.v) (h1 : a.eval (.tmp t1) = p1.v) (hK : K (a.put o.dst (.slice (some ⟨w.heap.size, 0, none⟩) 2 2)) (w.alloc (.cells (cellsOf [p0, p1]).toArray 33))) : o.wp Try.prog a w K Q := by
  obtain ⟨y0, m0, f0, d0⟩ := p0
  have e0 : a.tmps[t0]?.getD undef = .agg #[.int .u8 y0, .int .i64 m0, .bool f0, .int .u8 d0] := by simpa [Act.eval, Ps.v] using h0
  obtain ⟨y1, m1, f1, d1⟩ := p1
  have e1 : a.tmps[t1]?.getD undef = .agg #[.int .u8 y1, .int .i64 m1, .bool f1, .int .u8 d1] := by simpa [Act.eval, Ps.v] using h1
  clear h0 h1
  unfold Oper.wp
  simp only [execOp, hop]
  go_simp
  simpa [cellsOf, Act.put] using hK

theorem step_build3 {t0 t1 t2 : Tmp} {p0 p1 p2 : Ps} (hop : o.op = .buildSlice 23 3 #[(0, .tmp t0), (1, .tmp t1), (2, .tmp t2)]) (h0 : a.eval (.tmp t0) = p0.v) (h1 : a.eval (.tmp t1) = p1.v) (h2 : a.eval (.tmp t2) = p2.v) (hK : K (a.put o.dst (.slice (some ⟨w.heap.size, 0, none⟩) 3 3)) (w.alloc (.cells (cellsOf [p0, p1, p2]).toArray 33))) : o.wp Try.prog a w K Q := by
  obtain ⟨y0, m0, f0, d0⟩ := p0
  have e0 : a.tmps[t0]?.getD undef = .agg #[.int .u8 y0, .int .i64 m0, .bool f0, .int .u8 d0] := by simpa [Act.eval, Ps.v] using h0
  obtain ⟨y1, m1, f1, d1⟩ := p1
  have e1 : a.tmps[t1]?.getD undef = .agg #[.int .u8 y1, .int .i64 m1, .bool f1, .int .u8 d1] := by simpa [Act.eval, Ps.v] using h1
  obtain ⟨y2, m2, f2, d2⟩ := p2
  have e2 : a.tmps[t2]?.getD undef = .agg #[.int .u8 y2, .int .i64 m2, .bool f2, .int .u8 d2] := by simpa [Act.eval, Ps.v] using h2
  clear h0 h1 h2
  unfold Oper.wp
  simp only [execOp, hop]
  go_simp
  simpa [cellsOf, Act.put] using hK

theorem step_build5 {t0 t1 t2 t3 t4 : Tmp} {p0 p1 p2 p3 p4 : Ps} (hop : o.op = .buildSlice 23 5 #[(0, .tmp t0), (1, .tmp t1), (2, .tmp t2), (3, .tmp t3), (4, .tmp t4)]) (h0 : a.eval (.tmp t0) = p0.v) (h1 : a.eval (.tmp t1) = p1.v) (h2 : a.eval (.tmp t2) = p2.v) (h3 : a.eval (.tmp t3) = p3.v) (h4 : a.eval (.tmp t4) = p4.v) (hK : K (a.put o.dst (.slice (some ⟨w.heap.size, 0, none⟩) 5 5)) (w.alloc (.cells (cellsOf [p0, p1, p2, p3, p4]).toArray 33))) : o.wp Try.prog a w K Q := by
  obtain ⟨y0, m0, f0, d0⟩ := p0
  have e0 : a.tmps[t0]?.getD undef = .agg #[.int .u8 y0, .int .i64 m0, .bool f0, .int .u8 d0] := by simpa [Act.eval, Ps.v] using h0
  obtain ⟨y1, m1, f1, d1⟩ := p1
  have e1 : a.tmps[t1]?.getD undef = .agg #[.int .u8 y1, .int .i64 m1, .bool f1, .int .u8 d1] := by simpa [Act.eval, Ps.v] using h1
  obtain ⟨y2, m2, f2, d2⟩ := p2
  have e2 : a.tmps[t2]?.getD undef = .agg #[.int .u8 y2, .int .i64 m2, .bool f2, .int .u8 d2] := by simpa [Act.eval, Ps.v] using h2
  obtain ⟨y3, m3, f3, d3⟩ := p3
  have e3 : a.tmps[t3]?.getD undef = .agg #[.int .u8 y3, .int .i64 m3, .bool f3, .int .u8 d3] := by simpa [Act.eval, Ps.v] using h3
  obtain ⟨y4, m4, f4, d4⟩ := p4
  have e4 : a.tmps[t4]?.getD undef = .agg #[.int .u8 y4, .int .i64 m4, .bool f4, .int .u8 d4] := by simpa [Act.eval, Ps.v] using h4
  clear h0 h1 h2 h3 h4
  unfold Oper.wp
  simp only [execOp, hop]
  go_simp
  simpa [cellsOf, Act.put] using hK

theorem step_len {t : Tmp} {ao : Option Addr} {n cap : Nat} (hop : o.op = .call { callee := .builtin .len, args := #[.tmp t], argTypes := #[23] }) (hv : a.eval (.tmp t) = .slice ao n cap) (hK : K (a.put o.dst (.int .i64 n)) w) : o.wp Try.prog a w K Q := by
  have e : a.tmps[t]?.getD undef = .slice ao n cap := by simpa [Act.eval] using hv
  clear hv
  unfold Oper.wp
  simp only [execOp, hop, resolve]
  go_simp
  exact hK
theorem step_int {op : BinOp} {t : Tmp} {x y : Int} {r : Bool} (hop : o.op = .binOp op 3 (.tmp t) (.const (.int .i64 y)) 3) (hv : a.eval (.tmp t) = .int .i64 x) (hr : (op = .neq ∧ r = !(x == y)) ∨ (op = .eql ∧ r = (x == y))) (hK : K (a.put o.dst (.bool r)) w) : o.wp Try.prog a w K Q := by
  have e : a.tmps[t]?.getD undef = .int .i64 x := by simpa [Act.eval] using hv
  clear hv
  unfold Oper.wp
  rcases hr with ⟨rfl, rfl⟩ | ⟨rfl, rfl⟩
  · simp only [execOp, hop]
    go_simp
    exact hK
  · simp only [execOp, hop]
    go_simp
    exact hK
theorem step_move {t : Tmp} {v : Value} (hop : o.op = .move (.tmp t)) (hv : a.eval (.tmp t) = v) (hK : K (a.put o.dst v) w) : o.wp Try.prog a w K Q := by
  unfold Oper.wp
  simp only [execOp, hop, hv]
  go_simp
  exact hK
theorem step_pick {t t' : Tmp} (hop : o.op = .pick (.tmp t) (.const (.bool true)) (.tmp t')) (hv : a.eval (.tmp t) = .bool false) (hv' : a.eval (.tmp t') = .bool false) (hK : K (a.put o.dst (.bool false)) w) : o.wp Try.prog a w K Q := by
  have e : a.tmps[t]?.getD undef = .bool false := by simpa [Act.eval] using hv
  have e' : a.tmps[t']?.getD undef = .bool false := by simpa [Act.eval] using hv'
  clear hv hv'
  unfold Oper.wp
  simp only [execOp, hop]
  go_simp
  exact hK
end
end Go.Proofs.Ytikdhdikaihenaa
