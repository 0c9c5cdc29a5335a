import Derived.Test.YtjjnhmbgffdenaaBedsB
namespace Go.Proofs.Ytjjnhmbgffdenaa
open Go.RowKit Go.Sort

/-- The beds that a law looks at. -/
def d0 (N : Nat) : Bds := ⟨⟨some ⟨N + 1 + 1 + 1 + 1, 0, none⟩, [Cel.nil, ⟨some ⟨N + 1 + 1 + 1, 0, none⟩, [⟨1, 0⟩, ⟨1, 1⟩], 2⟩], 2⟩, ⟨some ⟨N + 1 + 1 + 1 + 1 + 1 + 1, 0, none⟩, [Cel.nil, ⟨some ⟨N + 1 + 1 + 1 + 1 + 1, 0, none⟩, [⟨2, 0⟩], 1⟩], 2⟩⟩
def T0 : List (List Nm) := ((List.replicate 80 []).set 1 [⟨1, 0⟩, ⟨1, 1⟩]).set 41 [⟨2, 0⟩]
theorem T0_ok : TOk T0 := ⟨by decide, by decide, by decide⟩
theorem d0_reads (N : Nat) : Reads T0 (d0 N) := by
  have h := reads_fill (cs := T0.map fun l => ⟨none, l, 0⟩) (fa := (d0 N).f.ao) (ba := (d0 N).b.ao) (fs := (d0 N).f.cs) (bs := (d0 N).b.cs) (by decide) (by simp [d0]) (by simp [d0])
    (fun j hj => by match j, hj with | 0, _ => rfl | 1, _ => rfl | j + 2, h => simp [d0] at h; omega) (fun j hj => by match j, hj with | 0, _ => rfl | 1, _ => rfl | j + 2, h => simp [d0] at h; omega)
    (fun j h1 h2 => by
      have : ∀ j, j < 40 → 2 ≤ j → ((T0.map fun l => (⟨none, l, 0⟩ : Cel)).getD j Cel.nil).l = [] := by decide
      exact this j h2 (by simpa [d0] using h1))
    (fun j h1 h2 => by
      have : ∀ j, j < 40 → 2 ≤ j → ((T0.map fun l => (⟨none, l, 0⟩ : Cel)).getD (40 + j) Cel.nil).l = [] := by decide
      exact this j h2 (by simpa [d0] using h1))
    (fun _ => by simp [d0]; decide) (fun _ => by simp [d0]; decide)
  exact h.1
structure LB (N : Nat) (W : World) : Prop where
  q1 : Boxed2 W (N) 28 (.int .u8 1) (.int .i64 0)
  q2 : Boxed2 W (N + 1) 28 (.int .u8 1) (.int .i64 1)
  q3 : Boxed2 W (N + 1 + 1) 28 (.int .u8 2) (.int .i64 0)
  q5 : Boxed2 W (N + 1 + 1 + 1 + 1 + 1 + 1 + 1 + 1) 26 (.int .u8 0) (.int .i64 1)
  q6 : Boxed2 W (N + 1 + 1 + 1 + 1 + 1 + 1 + 1 + 1 + 1) 26 (.int .u8 0) (.int .i64 2)
  q7 : Boxed2 W (N + 1 + 1 + 1 + 1 + 1 + 1 + 1 + 1 + 1 + 1) 26 (.int .u8 1) (.int .i64 2)
  q4 : Boxed2 W (N + 1 + 1 + 1 + 1 + 1 + 1 + 1) 35 (.slice (some ⟨N + 1 + 1 + 1 + 1, 0, none⟩) 2 2) (.slice (some ⟨N + 1 + 1 + 1 + 1 + 1 + 1, 0, none⟩) 2 2)
  d : (d0 N).ok W.heap.size W
theorem LB.below {N : Nat} {W W' : World} (h : LB N W) (hb : Below W.heap.size W W') : LB N W' :=
  ⟨h.q1.below hb h.q1.lt, h.q2.below hb h.q2.lt, h.q3.below hb h.q3.lt, h.q5.below hb h.q5.lt, h.q6.below hb h.q6.lt, h.q7.below hb h.q7.lt, h.q4.below hb h.q4.lt, ⟨(h.d.1.below hb).mono hb.size, (h.d.2.below hb).mono hb.size⟩⟩
theorem alloc_keep {w : World} {k : Nat} {x : Obj} (h : w.heap[k]? = some x) (o : Obj) : (w.alloc o).heap[k]? = some x := by
  have hk : k < w.heap.size := (Array.getElem?_eq_some_iff.1 h).1
  exact ((World.grownBy_alloc w o none).block k hk (by simp)).trans h
theorem Bds.ok.onw {d : Bds} {w w' : World} (h : d.ok w.heap.size w) (hb : Below w.heap.size w w') : d.ok w'.heap.size w' := ⟨(h.1.below hb).mono hb.size, (h.2.below hb).mono hb.size⟩
/-- What a change that goes through returns. -/
def Done (T' : List (List Nm)) (w : World) (e : Ending) (w' : World) : Prop := ∃ bd : Bds, e = .returned (.tuple #[bd.v, .int .i64 0]) ∧ Hid (Reads T' bd ∧ Tight bd ∧ bd.ok w'.heap.size w' ∧ (∀ b o, bd.f.ao = some ⟨b, o, none⟩ → w.heap.size ≤ b) ∧ ∀ b o, bd.b.ao = some ⟨b, o, none⟩ → w.heap.size ≤ b) ∧ Below w.heap.size w w'
theorem Changed.done {T' : List (List Nm)} {err : Int} {w : World} {e : Ending} {w' : World} (h : Changed T' err w e w') (he : err = 0) : Done T' w e w' := by
  obtain ⟨V, rfl, hV, hb⟩ := h
  obtain ⟨bd, rfl, h⟩ := hV.out.2 he
  subst he
  exact ⟨bd, rfl, Lib.hid h, hb⟩
theorem Changed.not {T' : List (List Nm)} {err : Int} {w : World} {e : Ending} {w' : World} (h : Changed T' err w e w') (he : err ≠ 0) : e = .returned (.tuple #[zBeds, .int .i64 err]) ∧ Below w.heap.size w w' := by
  obtain ⟨V, rfl, hV, hb⟩ := h
  rw [hV.out.1 he]
  exact ⟨rfl, hb⟩
end Go.Proofs.Ytjjnhmbgffdenaa
