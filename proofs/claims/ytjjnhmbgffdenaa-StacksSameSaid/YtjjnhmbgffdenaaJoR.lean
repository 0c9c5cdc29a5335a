import Derived.Test.YtjjnhmbgffdenaaJoP
namespace Go.Proofs.Ytjjnhmbgffdenaa
open Go.RowKit Go.Sort

/-- 'append' of a stack to an empty row without room: a row of one's own, and nothing else is touched. -/
theorem run_append_zero_own (w : World) (ty g N : Nat) (hN : N ≤ g) (hg : w.heap[g]? = some (.cells #[] 28 (0, 0))) (c : Cel) (hl : c.ok w.heap.size w) :
    ∃ (v' : Value) (w' : World), (Builtin.append_ #[29, 29] ty #[.slice (some ⟨g, 0, none⟩) 0 0, c.v]).run Try.prog w = .ok v' w' ∧ w'.ownsRow N 28 2 v' c.l.length (cellsOf c.l) ∧ Below w.heap.size w w' := by
  obtain ⟨i0, hi, hz0, hz1, hz2⟩ := info_parts info28
  obtain ⟨ao, l, cap⟩ := c
  have hlen : l.length ≤ 100 := hl.1
  have hglt : g < w.heap.size := (Array.getElem?_eq_some_iff.1 hg).1
  have hown : w.ownsRow N 28 2 (.slice (some ⟨g, 0, none⟩) 0 0) 0 (cellsOf []) := ⟨by simp [cellsOf], .inr ⟨g, 0, #[], rfl, hN, hg, Nat.le_refl _, by unfold maxLen; omega, by simp, by simp [cellsOf]⟩⟩
  by_cases hz : l = []
  · subst hz
    refine ⟨.slice (some ⟨g, 0, none⟩) 0 0, w, ?_, by simpa using hown, Below.refl _ _⟩
    cases ao with
    | none => exact run_append_nothing w N 29 ty 28 i0 2 Try.underlying29 hi (.slice (some ⟨g, 0, none⟩) 0 0) 0 _ hown cap
    | some ad => simp [Builtin.append_, run_underlying Try.underlying29, sizeOf, typeInfo, hi, Builtin.lenOf, Builtin.firstCells, Cel.v, loadCells, loadCellsFrom, storeCells]
  · cases ao with
    | none =>
      rcases hl.2 with h | ⟨b, o, h, _⟩
      · exact absurd h hz
      · cases h
    | some ad =>
      have hpos : 0 < l.length := List.length_pos_iff.2 hz
      obtain ⟨v', w', g1, g2, -⟩ := run_append_own (P := Try.prog) w N 29 ty 28 i0 zero28 2 16 Try.underlying29 hi hz0 hz1 hz2 rfl (by decide) _ 0 (cellsOf []) hown ad l.length cap (cellsOf l) (by rw [cellsOf_length]) (hl.cells ad rfl) (cellsOf_one l)
        (by unfold maxLen; omega) (by omega) (by omega)
      have hr := run_append_grow (P := Try.prog) w 29 ty 28 i0 zero28 Try.underlying29 hi hz0 ⟨g, 0, none⟩ 0 0 [] (by simp) (by simp) ad l.length cap (cellsOf l) (by rw [cellsOf_length, hz1]) (hl.cells ad rfl) (by omega) (by omega) (growslice_fits (by omega) (by rw [hz2]; omega))
      have e := g1.symm.trans hr
      injection e with e1 e2
      rw [← cellsOf_append] at g2
      refine ⟨v', w', g1, by simpa using g2, ?_⟩
      rw [e2]
      exact ((Below.refl _ w).drew).alloc (Nat.le_refl _) _
section
variable {o : Oper} {a : Act} {w : World} {K : Act → World → Prop} {Q : Exit → Act → World → Prop}
theorem step_append0_own {s t : Tmp} {g N : Nat} (hop : o.op = Op.call { callee := Callee.builtin Builtin.append, args := #[.tmp s, .tmp t], argTypes := #[29, 29] }) (hs : a.eval (.tmp s) = .slice (some ⟨g, 0, none⟩) 0 0) (hN : N ≤ g)
    (hg : w.heap[g]? = some (.cells #[] 28 (0, 0))) (c : Cel) (hx : a.eval (.tmp t) = c.v) (hl : c.ok w.heap.size w) (hK : ∀ (v' : Value) (w' : World), w'.ownsRow N 28 2 v' c.l.length (cellsOf c.l) → Below w.heap.size w w' → K (a.put o.dst v') w') : o.wp Try.prog a w K Q := by
  obtain ⟨v', w', hr, h1, h2⟩ := run_append_zero_own w o.type g N hN hg c hl
  unfold Oper.wp execOp
  simp only [hop, resolve, invoke, builtin, Sem.run_bind, Sem.run_pure, Result.andThen_ok, List.map_toArray, List.map_cons, List.map_nil, hs, hx, hr]
  exact hK v' w' h1 h2
end
theorem below_owns {w w' : World} {N n : Nat} {v : Value} {xs : List Value} (h : w.ownsRow N 28 2 v n xs) (hb : Below w.heap.size w w') : w'.ownsRow N 28 2 v n xs := by
  refine ⟨h.1, h.2.imp id ?_⟩
  rintro ⟨g, cap, cur, e, hB, hg, r⟩
  exact ⟨g, cap, cur, e, hB, (hb.block g (Array.getElem?_eq_some_iff.1 hg).1).trans hg, r⟩
/-- What the appending operation of such a region may do: write into a block from N on. -/
def RAp (N n : Nat) (i : Nat) (w w' : World) : Prop := if i = n then ∃ r, w.grownBy w' r ∧ ∀ b, r = some b → N ≤ b else Below w.heap.size w w'
theorem RAp.keep {N n i : Nat} {w0 w w' : World} (h : RAp N n i w w') (hb : Below N w0 w) (hN : N ≤ w.heap.size) : Below N w0 w' := by
  unfold RAp at h
  split at h
  · obtain ⟨r, h1, h2⟩ := h
    exact hb.grown h1 hN h2
  · exact hb.trans (h.mono hN)
theorem RAp.size {N n i : Nat} {w w' : World} (h : RAp N n i w w') : w.heap.size ≤ w'.heap.size := by
  unfold RAp at h
  split at h
  · obtain ⟨r, h1, _⟩ := h; exact h1.size
  · exact Below.size h
end Go.Proofs.Ytjjnhmbgffdenaa
