import Derived.Test.YtikdhdikaihenaaRg4
import Derived.Test.YtikdhdikaihenaaSteps3
import Derived.Test.YtikdhdikaihenaaMake
import Derived.OwnWalk
namespace Go.Proofs.Ytikdhdikaihenaa
open Go.RowKit Go.Sort

/-- What is done with a carrier, as it lies in memory. -/
structure Ac where
  what : Int
  place : Int
  side : Int
  ao : Option Addr
  n : Nat
  cap : Nat
  xs : List Int
def ActAt (w : World) (b q : Nat) (a : Ac) : Prop :=
  w.cell? ⟨b, q, none⟩ = some (.int .u8 a.what) ∧ w.cell? ⟨b, q + 1, none⟩ = some (.int .i64 a.place) ∧ w.cell? ⟨b, q + 2, none⟩ = some (.int .u8 a.side) ∧ w.cell? ⟨b, q + 3, none⟩ = some (.slice a.ao a.n a.cap)
def AcOk (w : World) (a : Ac) : Prop := a.n = a.xs.length ∧ LieB w a.ao a.xs ∧ Bytes a.xs ∧ (0 ≤ a.what ∧ a.what ≤ 255) ∧ (0 ≤ a.side ∧ a.side ≤ 255)
def LieAct (w : World) (ao : Option Addr) (acts : List Ac) : Prop :=
  acts = [] ∨ ∃ b o, ao = some ⟨b, o, none⟩ ∧ b < w.heap.size ∧ ∀ i a, acts[i]? = some a → ActAt w b (o + i * 4) a ∧ AcOk w a
theorem ActAt.below {w w' : World} {b q : Nat} {a : Ac} (h : ActAt w b q a) {B : Nat} (hb : Below B w w') (hB : b < B) : ActAt w' b q a := by
  obtain ⟨h1, h2, h3, h4⟩ := h
  refine ⟨?_, ?_, ?_, ?_⟩
  · rw [hb.cell (p := ⟨b, q, none⟩) hB]; exact h1
  · rw [hb.cell (p := ⟨b, q + 1, none⟩) hB]; exact h2
  · rw [hb.cell (p := ⟨b, q + 2, none⟩) hB]; exact h3
  · rw [hb.cell (p := ⟨b, q + 3, none⟩) hB]; exact h4
theorem LieAct.below {w w' : World} {ao : Option Addr} {acts : List Ac} (h : LieAct w ao acts) (hb : Below w.heap.size w w') : LieAct w' ao acts := by
  rcases h with h | ⟨b, o, h1, h2, h3⟩
  · exact .inl h
  · refine .inr ⟨b, o, h1, Nat.lt_of_lt_of_le h2 hb.size, fun i a ha => ?_⟩
    obtain ⟨g1, g2, g3, g4⟩ := h3 i a ha
    exact ⟨g1.below hb h2, g2, g3.below hb, g4⟩
theorem LieAct.at {w : World} {ao : Option Addr} {acts : List Ac} (h : LieAct w ao acts) {i : Nat} (hi : i < acts.length) :
    ∃ b o a, ao = some ⟨b, o, none⟩ ∧ b < w.heap.size ∧ acts[i]? = some a ∧ ActAt w b (o + i * 4) a ∧ AcOk w a := by
  rcases h with rfl | ⟨b, o, h1, h2, h3⟩
  · simp at hi
  · obtain ⟨g1, g2⟩ := h3 i _ (List.getElem?_eq_getElem hi)
    exact ⟨b, o, _, h1, h2, List.getElem?_eq_getElem hi, g1, g2⟩

section
variable {o : Oper} {a : Act} {w : World} {K : Act → World → Prop} {Q : Exit → Act → World → Prop} {x y : Operand}
theorem fa40_0 {b q : Nat} (hop : o.op = .fieldAddr 40 x 0) (hx : a.eval x = .pointer (some ⟨b, q, none⟩)) (hK : K (a.put o.dst (.pointer (some ⟨b, q, none⟩))) w) : o.wp Try.prog a w K Q :=
  step_val (by simp only [execOp, hop, hx]; go_simp) hK
theorem fa40_1 {b q : Nat} (hop : o.op = .fieldAddr 40 x 1) (hx : a.eval x = .pointer (some ⟨b, q, none⟩)) (hK : K (a.put o.dst (.pointer (some ⟨b, q + 1, none⟩))) w) : o.wp Try.prog a w K Q :=
  step_val (by simp only [execOp, hop, hx]; go_simp) hK
theorem fa40_2 {b q : Nat} (hop : o.op = .fieldAddr 40 x 2) (hx : a.eval x = .pointer (some ⟨b, q, none⟩)) (hK : K (a.put o.dst (.pointer (some ⟨b, q + 2, none⟩))) w) : o.wp Try.prog a w K Q :=
  step_val (by simp only [execOp, hop, hx]; go_simp) hK
theorem fa40_3 {b q : Nat} (hop : o.op = .fieldAddr 40 x 3) (hx : a.eval x = .pointer (some ⟨b, q, none⟩)) (hK : K (a.put o.dst (.pointer (some ⟨b, q + 3, none⟩))) w) : o.wp Try.prog a w K Q :=
  step_val (by simp only [execOp, hop, hx]; go_simp) hK
theorem ld22 {b q : Nat} {v : Value} (hop : o.op = .load 22 x) (hx : a.eval x = .pointer (some ⟨b, q, none⟩)) (hc : w.cell? ⟨b, q, none⟩ = some v) (hK : K (a.put o.dst v) w) : o.wp Try.prog a w K Q :=
  step_val (by simp only [execOp, hop, hx]; go_simp) hK
theorem st_idx36 {b q n cap k : Nat} (hop : o.op = .indexAddr 36 x y) (hx : a.eval x = .slice (some ⟨b, q, none⟩) n cap) (hy : a.eval y = .int .i64 k) (hk : k < n) (hK : K (a.put o.dst (.pointer (some ⟨b, q + k * 4, none⟩))) w) : o.wp Try.prog a w K Q := by
  have h1 : (k : Int) < n := by omega
  have h2 : (0 : Int) ≤ k := by omega
  exact step_val (by simp only [execOp, hop, hx, hy]; go_simp) hK
theorem st_mk0 {n : Nat} (hop : o.op = .makeSlice 23 (.const (.int .i64 0)) y) (hy : a.eval y = .int .i64 n) (hn : n ≤ 1000000) (hK : K (a.put o.dst (.slice (some ⟨w.heap.size, 0, none⟩) 0 n)) (w.alloc (.cells (rowNew n) 33))) : o.wp Try.prog a w K Q := by
  have hr := run_mk0 (n : Int) n rfl (by omega) w
  have hc0 : a.eval (.const (.int .i64 0)) = .int .i64 0 := rfl
  unfold Oper.wp
  simp only [execOp, hop, hy, hc0, hr, Sem.run_bind, Sem.run_pure, Result.andThen_ok]
  exact hK

/-- A row of one's own that has room, and nothing in it. -/
def OwnZ (w : World) (B g n : Nat) : Prop := w.ownsRow B 33 4 (.slice (some ⟨g, 0, none⟩) 0 n) 0 []
theorem OwnZ.of {w : World} {B g n m : Nat} {xs : List Value} (h : w.ownsRow B 33 4 (.slice (some ⟨g, 0, none⟩) m n) m xs) : OwnZ w B g n := by
  refine ⟨by simp, .inr ?_⟩
  rcases h.2 with ⟨h', _⟩ | ⟨g', c, cur, h', h1, h2, h3, h4, h5, h6⟩
  · simp at h'
  · simp only [Value.slice.injEq, Option.some.injEq, Addr.mk.injEq] at h'
    obtain ⟨⟨rfl, -, -⟩, -, rfl⟩ := h'
    exact ⟨g, n, cur, rfl, h1, h2, Nat.zero_le _, h4, h5, by simp⟩
theorem OwnZ.below {w w' : World} {B g n : Nat} (h : OwnZ w B g n) (hb : Below w.heap.size w w') : OwnZ w' B g n := owns_below h hb
theorem OwnZ.grown {w w' : World} {B g n g' n' : Nat} {xs : List Value} (h : OwnZ w B g' n') (hz : w'.ownsRow B 33 4 (.slice (some ⟨g, 0, none⟩) n n) n xs) (hn : OwnZ w B g n) (hg : w.grownBy w' (some g)) : OwnZ w' B g' n' := by
  by_cases e : g' = g
  · subst e
    have : n' = n := by
      rcases h.2 with ⟨h', _⟩ | ⟨g1, c1, cur1, h1', _, e1, _, _, s1, _⟩
      · simp at h'
      · rcases hn.2 with ⟨h', _⟩ | ⟨g2, c2, cur2, h2', _, e2, _, _, s2, _⟩
        · simp at h'
        · simp only [Value.slice.injEq, Option.some.injEq, Addr.mk.injEq] at h1' h2'
          obtain ⟨⟨rfl, -, -⟩, -, rfl⟩ := h1'
          obtain ⟨⟨rfl, -, -⟩, -, rfl⟩ := h2'
          rw [e1] at e2
          have e3 := Option.some.inj e2
          have e4 : cur1 = cur2 := by injection e3
          subst e4
          omega
    subst this
    exact OwnZ.of hz
  · refine ⟨by simp, .inr ?_⟩
    rcases h.2 with ⟨h', _⟩ | ⟨g1, c1, cur1, h1', b1, e1, r1, r2, r3, r4⟩
    · simp at h'
    · have h2 := h1'
      simp only [Value.slice.injEq, Option.some.injEq, Addr.mk.injEq] at h2
      obtain ⟨⟨rfl, -, -⟩, -, rfl⟩ := h2
      refine ⟨g', n', cur1, h1', b1, ?_, r1, r2, r3, r4⟩
      rw [← e1]
      exact hg.block g' (Array.getElem?_eq_some_iff.1 e1).1 (by simpa using e)
theorem st_append {s t : Tmp} {B g n cap : Nat} {ao : Option Addr} {ps : List Ps} (hop : o.op = Op.call { callee := Callee.builtin Builtin.append, args := #[.tmp s, .tmp t], argTypes := #[23, 23] })
    (hs : a.eval (.tmp s) = .slice (some ⟨g, 0, none⟩) 0 n) (hown : OwnZ w B g n) (hx : a.eval (.tmp t) = .slice ao n cap) (hn : n = ps.length) (hl : Lie w ao ps) (hc : ao = none → cap = 0) (hB : B ≤ w.heap.size)
    (hK : ∀ w', Below B w w' → Lie w' (some ⟨g, 0, none⟩) ps → (∀ g' n', OwnZ w B g' n' → OwnZ w' B g' n') → K (a.put o.dst (.slice (some ⟨g, 0, none⟩) n n)) w') : o.wp Try.prog a w K Q := by
  obtain ⟨i0, hi, hz0, hz1, hz2⟩ := info_parts info33
  have hgB := (hown.lt g rfl).1
  have fin : ∀ w', w'.ownsRow B 33 4 (.slice (some ⟨g, 0, none⟩) (0 + n) n) (0 + n) ([] ++ cellsOf ps) → w.grownBy w' (some g) → K (a.put o.dst (.slice (some ⟨g, 0, none⟩) n n)) w' := by
    intro w' h1 h2
    rw [Nat.zero_add, List.nil_append] at h1
    refine hK w' ((Below.refl B w).grown h2 hB (by rintro j ⟨⟩; exact hgB)) ?_ (fun g' n' h => h.grown h1 hown h2)
    obtain ⟨-, ao2, cap2, hv, -, -, hl2⟩ := lie_of_owns h1
    obtain ⟨rfl, -⟩ : some ⟨g, 0, none⟩ = ao2 ∧ n = cap2 := by simpa using hv
    exact hl2
  cases ao with
  | none =>
    obtain rfl := hc rfl
    have hp : ps = [] := by
      rcases hl with h | ⟨b, o, h, _⟩
      · exact h
      · cases h
    subst hp
    obtain rfl : n = 0 := by simpa using hn
    have hrun := run_append_owned_none (P := Try.prog) w B 23 o.type 33 i0 4 Try.underlying23 hi _ 0 [] hown
    unfold Oper.wp execOp
    simp only [hop, resolve, invoke, builtin, Sem.run_bind, Sem.run_pure, Result.andThen_ok, List.map_toArray, List.map_cons, List.map_nil, hs, hx, hrun]
    exact fin w (by simpa [cellsOf, OwnZ] using hown) (World.grownBy.refl _ _)
  | some ad =>
    obtain ⟨w', hrun, r1, r2⟩ := run_append_fits (P := Try.prog) w B 23 o.type 33 i0 4 Try.underlying23 hi hz1 g 0 n [] hown ad n cap (cellsOf ps) (by rw [cellsOf_length, hn]) (hl.cells ad rfl) (cellsOf_one ps) (by omega)
    unfold Oper.wp execOp
    simp only [hop, resolve, invoke, builtin, Sem.run_bind, Sem.run_pure, Result.andThen_ok, List.map_toArray, List.map_cons, List.map_nil, hs, hx, hrun]
    have e0 : (0 + n : Nat) = n := Nat.zero_add n
    rw [e0]
    exact fin w' r1 r2
end
end Go.Proofs.Ytikdhdikaihenaa
