import Derived.Test.YtjjnhmbgffdenaaRg6
namespace Go.Proofs.Ytjjnhmbgffdenaa
open Go.RowKit Go.Sort

/-- Two operations (i and j) that make a block each: the slots s and t lead to blocks that are there, and that differ. For rgT4. -/
def XTwo (i j : Nat) (s t : Tmp) (L : Array Bool) (a : Act) (w : World) : Prop :=
  (s < a.tmps.size ∧ t < a.tmps.size) ∧ (L.getD i false = true → ∃ b, a.tmps.getD s undef = .pointer (some ⟨b, 0, none⟩) ∧ b < w.heap.size) ∧ (L.getD j false = true → ∃ b, a.tmps.getD t undef = .pointer (some ⟨b, 0, none⟩) ∧ b < w.heap.size) ∧
    (L.getD i false = true → L.getD j false = true → a.tmps.getD s undef ≠ a.tmps.getD t undef)
theorem putD_other {a : Act} {d : Option Tmp} {v : Value} {s : Tmp} (h : d ≠ some s) : (a.put d v).tmps.getD s undef = a.tmps.getD s undef := by
  cases d with
  | none => rfl
  | some d =>
    show (a.tmps.setIfInBounds d v).getD s undef = _
    have : d ≠ s := fun e => h (by rw [e])
    simp [Array.getD_eq_getD_getElem?, Array.getElem?_setIfInBounds, this]
theorem putD_self {a : Act} {v : Value} {s : Tmp} (h : s < a.tmps.size) : (a.put (some s) v).tmps.getD s undef = v := by
  show (a.tmps.setIfInBounds s v).getD s undef = _
  simp [Array.getD_eq_getD_getElem?, Array.getElem?_setIfInBounds, h]
theorem put_size {a : Act} {d : Option Tmp} {v : Value} : (a.put d v).tmps.size = a.tmps.size := by
  cases d with
  | none => rfl
  | some d => show (a.tmps.setIfInBounds d v).size = _; simp
theorem XTwo.keep {i j k : Nat} {s t : Tmp} {L : Array Bool} {a : Act} {w w' : World} {d : Option Tmp} {v : Value} (h : XTwo i j s t L a w) (hi : k ≠ i) (hj : k ≠ j) (hs : d ≠ some s) (ht : d ≠ some t) (hw : w.heap.size ≤ w'.heap.size) :
    XTwo i j s t (L.setIfInBounds k true) (a.put d v) w' := by
  unfold XTwo
  rw [getD_set_ne false hi, getD_set_ne false hj, putD_other hs, putD_other ht, put_size]
  exact ⟨h.1, fun hl => (h.2.1 hl).imp fun b hb => ⟨hb.1, Nat.lt_of_lt_of_le hb.2 hw⟩, fun hl => (h.2.2.1 hl).imp fun b hb => ⟨hb.1, Nat.lt_of_lt_of_le hb.2 hw⟩, h.2.2.2⟩
theorem XTwo.one {i j : Nat} {s t : Tmp} {L : Array Bool} {a : Act} {w w' : World} (h : XTwo i j s t L a w) (hij : i ≠ j) (hst : s ≠ t) (hw : w.heap.size < w'.heap.size) :
    XTwo i j s t (L.setIfInBounds i true) (a.put (some s) (.pointer (some ⟨w.heap.size, 0, none⟩))) w' := by
  unfold XTwo
  rw [getD_set_ne false hij, putD_self h.1.1, putD_other (s := t) (fun e => hst (Option.some.inj e)), put_size]
  refine ⟨h.1, fun _ => ⟨_, rfl, hw⟩, fun hl => (h.2.2.1 hl).imp fun b hb => ⟨hb.1, Nat.lt_trans hb.2 hw⟩, fun _ hl e => ?_⟩
  obtain ⟨b, hb, hlt⟩ := h.2.2.1 hl
  rw [← e] at hb
  simp only [Value.pointer.injEq, Option.some.injEq, Addr.mk.injEq] at hb
  omega
theorem XTwo.two {i j : Nat} {s t : Tmp} {L : Array Bool} {a : Act} {w w' : World} (h : XTwo i j s t L a w) (hij : i ≠ j) (hst : s ≠ t) (hw : w.heap.size < w'.heap.size) :
    XTwo i j s t (L.setIfInBounds j true) (a.put (some t) (.pointer (some ⟨w.heap.size, 0, none⟩))) w' := by
  unfold XTwo
  rw [getD_set_ne false (Ne.symm hij), putD_self h.1.2, putD_other (s := s) (fun e => hst (Option.some.inj e).symm), put_size]
  refine ⟨h.1, fun hl => (h.2.1 hl).imp fun b hb => ⟨hb.1, Nat.lt_trans hb.2 hw⟩, fun _ => ⟨_, rfl, hw⟩, fun hl _ e => ?_⟩
  obtain ⟨b, hb, hlt⟩ := h.2.1 hl
  rw [e] at hb
  simp only [Value.pointer.injEq, Option.some.injEq, Addr.mk.injEq] at hb
  omega
theorem XTwo.start {i j : Nat} {s t : Tmp} {L : Array Bool} {a : Act} {w : World} (hL : ∀ k, L.getD k false = false) (hs : s < a.tmps.size) (ht : t < a.tmps.size) : XTwo i j s t L a w :=
  ⟨⟨hs, ht⟩, (fun h => by rw [hL] at h; cases h), (fun h => by rw [hL] at h; cases h), (fun h => by rw [hL] at h; cases h)⟩
end Go.Proofs.Ytjjnhmbgffdenaa
