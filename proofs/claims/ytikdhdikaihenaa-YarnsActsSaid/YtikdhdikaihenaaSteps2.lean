import Derived.Test.YtikdhdikaihenaaRg2
import Derived.Test.YtikdhdikaihenaaSteps
import Derived.Test.YtikdhdikaihenaaActs
namespace Go.Proofs.Ytikdhdikaihenaa
open Go.RowKit Go.Sort

theorem enter10 (args : Array Value) (w : World) : (callFunc 10 args).run Try.prog w = .ok (.enter 10 args) w := by kernel_rfl
theorem enter17 (args : Array Value) (w : World) : (callFunc 17 args).run Try.prog w = .ok (.enter 17 args) w := by kernel_rfl
theorem enter19 (args : Array Value) (w : World) : (callFunc 19 args).run Try.prog w = .ok (.enter 19 args) w := by kernel_rfl

/-- The object of a new yarn. -/
def newYarn : Obj := .cells #[.bool false, .int .i64 0, .int .i64 0, .bool false, .slice none 0 0] 38
theorem five_of_new {w : World} {k : Nat} (h : w.heap[k]? = some newYarn) : Five w k (.bool false) (.int .i64 0) (.int .i64 0) (.bool false) (.slice none 0 0) := by
  unfold newYarn at h
  refine ⟨⟨?_, ?_, ?_, ?_, ?_⟩, ⟨?_, ?_, ?_, ?_, ?_⟩⟩ <;> simp [World.cell?, World.frozen?, h]
theorem lie_ne_new {w : World} {k : Nat} (h : w.heap[k]? = some newYarn) {ao : Option Addr} {ps : List Ps} (hl : Lie w ao ps) : ps = [] ∨ ∀ b o, ao = some ⟨b, o, none⟩ → b ≠ k := by
  rcases hl with rfl | ⟨b, o, h1, _, h3⟩
  · exact .inl rfl
  · cases ps with
    | nil => exact .inl rfl
    | cons p ps =>
      refine .inr fun b' o' h' e => ?_
      subst e
      rw [h1] at h'
      have e2 := Option.some.inj h'
      injection e2 with eb eo _
      subst eb
      have h4 := (h3 0 p rfl).1
      simp only [Nat.zero_mul, Nat.add_zero, World.cell?, h] at h4
      unfold newYarn at h4
      simp only [Option.isSome_none, Bool.false_eq_true, if_false] at h4
      match o, h4 with
      | 0, h4 => simp at h4
      | 1, h4 => simp at h4
      | 2, h4 => simp at h4
      | 3, h4 => simp at h4
      | 4, h4 => simp at h4
      | o + 5, h4 => simp at h4
theorem below_heap {w w' : World} (hb : Below w.heap.size w w') {k : Nat} {o : Obj} (h : w.heap[k]? = some o) : w'.heap[k]? = some o :=
  (hb.block k (Array.getElem?_eq_some_iff.1 h).1).trans h

section
variable {o : Oper} {a : Act} {w : World} {K : Act → World → Prop} {Q : Exit → Act → World → Prop}

theorem step_load38 {t : Tmp} {b : Nat} {v0 v1 v2 v3 v4 : Value} (hop : o.op = .load 38 (.tmp t)) (hp : a.eval (.tmp t) = .pointer (some ⟨b, 0, none⟩)) (hf : Five w b v0 v1 v2 v3 v4) (hK : K (a.put o.dst (.agg #[v0, v1, v2, v3, v4])) w) : o.wp Try.prog a w K Q := by
  obtain ⟨⟨c0, c1, c2, c3, c4⟩, -⟩ := hf
  have e : a.tmps[t]?.getD undef = .pointer (some ⟨b, 0, none⟩) := by simpa [Act.eval] using hp
  clear hp
  unfold Oper.wp
  simp only [execOp, hop]
  go_simp
  exact hK
theorem step_alloc38 (hop : o.op = .alloc 38) (hK : K (a.put o.dst (.pointer (some ⟨w.heap.size, 0, none⟩))) (w.alloc newYarn)) : o.wp Try.prog a w K Q := by
  unfold newYarn at hK
  unfold Oper.wp
  simp only [execOp, hop]
  go_simp
  exact hK
theorem step_store38 {t t' : Tmp} {b n cap : Nat} {u0 u1 u2 u3 u4 : Value} {i nw : Bool} {p c : Int} {ao : Option Addr} (hd : o.dst = none) (hop : o.op = .store 38 (.tmp t) (.tmp t')) (hp : a.eval (.tmp t) = .pointer (some ⟨b, 0, none⟩)) (hv : a.eval (.tmp t') = .agg #[.bool i, .int .i64 p, .int .i64 c, .bool nw, .slice ao n cap]) (hf : Five w b u0 u1 u2 u3 u4)
    (hK : K a (((((w.setCell ⟨b, 0, none⟩ (.bool i)).setCell ⟨b, 1, none⟩ (.int .i64 p)).setCell ⟨b, 2, none⟩ (.int .i64 c)).setCell ⟨b, 3, none⟩ (.bool nw)).setCell ⟨b, 4, none⟩ (.slice ao n cap))) : o.wp Try.prog a w K Q := by
  obtain ⟨⟨c0, c1, c2, c3, c4⟩, ⟨f0, f1, f2, f3, f4⟩⟩ := hf
  have e : a.tmps[t]?.getD undef = .pointer (some ⟨b, 0, none⟩) := by simpa [Act.eval] using hp
  have e' : a.tmps[t']?.getD undef = .agg #[.bool i, .int .i64 p, .int .i64 c, .bool nw, .slice ao n cap] := by simpa [Act.eval] using hv
  clear hp hv
  have hK' : K (a.put o.dst (.tuple #[])) (((((w.setCell ⟨b, 0, none⟩ (.bool i)).setCell ⟨b, 1, none⟩ (.int .i64 p)).setCell ⟨b, 2, none⟩ (.int .i64 c)).setCell ⟨b, 3, none⟩ (.bool nw)).setCell ⟨b, 4, none⟩ (.slice ao n cap)) := by rw [hd]; exact hK
  clear hK
  unfold Oper.wp
  simp only [execOp, hop]
  go_simp
  simpa [Act.put, hd] using hK'
theorem step_extract {t : Tmp} {i : Nat} {xs : Array Value} {v : Value} (hop : o.op = .extract (.tmp t) i) (hv : a.eval (.tmp t) = .tuple xs) (hx : xs[i]? = some v) (hK : K (a.put o.dst v) w) : o.wp Try.prog a w K Q := by
  have e : a.tmps[t]?.getD undef = .tuple xs := by simpa [Act.eval] using hv
  clear hv
  unfold Oper.wp
  simp only [execOp, hop]
  go_simp
  simpa [hx, Act.put] using hK
theorem step_assign {x : Operand} {v : Value} (hop : o.op = .assign x) (hv : a.eval x = v) (hK : K (a.put o.dst v) w) : o.wp Try.prog a w K Q := by
  unfold Oper.wp
  simp only [execOp, hop, hv]
  go_simp
  exact hK
theorem step_calls {f : FuncId} {xs : Array Operand} {Ts : Array TypeId} {vs : Array Value} (hop : o.op = .call { callee := .value (.func f), args := xs, argTypes := Ts }) (he : ∀ args w, (callFunc f args).run Try.prog w = .ok (.enter f args) w) (hv : xs.map a.eval = vs)
    (hc : Calls Try.prog f vs w fun e w' => ∃ u, e = .returned u ∧ K (a.put o.dst u) w') : o.wp Try.prog a w K Q := by
  obtain ⟨dst, op, type, pos, after, guard⟩ := o
  simp only at hop
  subst hop
  unfold Oper.wp
  rw [execOp_call_go]
  have e : (#[] ++ Array.map a.eval xs ++ #[] : Array Value) = vs := by simp [hv]
  rw [e, he]
  simp only [Oper.upon]
  refine hc.mono fun x w' hx => ?_
  obtain ⟨u, rfl, hK⟩ := hx
  exact hK
end
end Go.Proofs.Ytikdhdikaihenaa
