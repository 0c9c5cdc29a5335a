import Derived.Test.YtjjnhmbgffdenaaReads
namespace Go.Proofs.Ytjjnhmbgffdenaa
open Go.RowKit

theorem flatten_range (cs : List Cel) : ∀ m, cs.length ≤ m → ((List.range m).map fun i => (cs.getD i Cel.nil).l).flatten = cs.flatMap fun c => c.l := by
  intro m
  induction m with
  | zero => intro h; obtain rfl : cs = [] := List.eq_nil_of_length_eq_zero (by omega); rfl
  | succ m ih =>
    intro h
    rw [List.range_succ, List.map_append, List.flatten_append, List.map_singleton]
    by_cases h1 : cs.length ≤ m
    · rw [ih h1]
      simp [List.getD_eq_getElem?_getD, List.getElem?_eq_none h1, Cel.nil]
    · have hm : cs.length = m + 1 := by omega
      have e : cs = cs.take m ++ [cs.getD m Cel.nil] := by
        have h2 := List.take_succ_eq_append_getElem (l := cs) (i := m) (by omega)
        rw [List.take_of_length_le (by omega)] at h2
        rw [List.getD_eq_getElem?_getD, List.getElem?_eq_getElem (by omega)]
        exact h2
      have e2 : ((List.range m).map fun i => (cs.getD i Cel.nil).l) = ((List.range m).map fun i => ((cs.take m).getD i Cel.nil).l) := by
        refine List.map_congr_left fun i hi => ?_
        have := List.mem_range.1 hi
        simp only [List.getD_eq_getElem?_getD]
        rw [List.getElem?_take, if_pos this]
      have ih' : ∀ cs' : List Cel, cs'.length = m → ((List.range m).map fun i => (cs'.getD i Cel.nil).l).flatten = cs'.flatMap fun c => c.l := fun cs' hl => by
        have h3 : ((List.range m).map fun i => (cs'.getD i Cel.nil).l) = cs'.map fun c => c.l := by
          apply List.ext_getElem?
          intro i
          by_cases hi : i < m
          · rw [List.getElem?_map, List.getElem?_range hi, List.getElem?_map, List.getElem?_eq_getElem (by omega)]
            simp [List.getD_eq_getElem?_getD, List.getElem?_eq_getElem (show i < cs'.length by omega)]
          · rw [List.getElem?_eq_none (by simp; omega), List.getElem?_eq_none (by simp; omega)]
        rw [h3, List.flatMap_def]
      rw [e2, ih' (cs.take m) (by rw [List.length_take]; omega)]
      conv => rhs; rw [e]
      rw [List.flatMap_append]
      simp

section
variable {T : List (List Nm)} {d : Bds}
theorem bed_names (b : Bed) (k : Nat) : names (b.els k) = b.cs.flatMap fun c => c.l := by
  unfold names Bed.els
  rw [List.flatMap_def, List.flatMap_def]
  congr 1
  apply List.ext_getElem?
  intro i
  simp
  cases b.cs[i]? <;> rfl
theorem Reads.names (h : Reads T d) : names d.els = T.flatten := by
  have e : T = ((List.range 40).map fun i => (d.f.cs.getD i Cel.nil).l) ++ ((List.range 40).map fun i => (d.b.cs.getD i Cel.nil).l) := by
    apply List.ext_getElem?
    intro j
    by_cases hj : j < 80
    · have hT : T[j]? = some (T.getD j []) := by rw [List.getD_eq_getElem?_getD, List.getElem?_eq_getElem (by rw [h.len]; exact hj)]; rfl
      rw [hT]
      by_cases h1 : j < 40
      · rw [List.getElem?_append_left (by simpa using h1), List.getElem?_map, List.getElem?_range h1]
        have := h.cel 0 (by omega) j h1
        simp only [Bds.bed, if_true, Nat.zero_mul, Nat.zero_add] at this
        rw [← this]; rfl
      · rw [List.getElem?_append_right (by simp; omega), List.getElem?_map]
        simp only [List.length_map, List.length_range]
        rw [List.getElem?_range (by omega)]
        have := h.cel 1 (by omega) (j - 40) (by omega)
        simp only [Bds.bed, Nat.one_ne_zero, if_false, Nat.one_mul] at this
        rw [show 40 + (j - 40) = j by omega] at this
        rw [← this]; rfl
    · rw [List.getElem?_eq_none (by rw [h.len]; omega), List.getElem?_eq_none (by simp; omega)]
  unfold Bds.els
  rw [show Ytjjnhmbgffdenaa.names (d.f.els 0 ++ d.b.els 1) = Ytjjnhmbgffdenaa.names (d.f.els 0) ++ Ytjjnhmbgffdenaa.names (d.b.els 1) by simp [Ytjjnhmbgffdenaa.names], bed_names, bed_names]
  conv => rhs; rw [e]
  rw [List.flatten_append, flatten_range _ 40 h.f40, flatten_range _ 40 h.b40]
/-- A table that beds may hold. -/
structure TOk (T : List (List Nm)) : Prop where
  len : T.length = 80
  st : ∀ l ∈ T, l.length ≤ 4 ∧ ∀ p ∈ l, Named p
  once : T.flatten.Nodup
theorem getD_mem_or {l : List (List Nm)} (j : Nat) : l.getD j [] ∈ l ∨ l.getD j [] = [] := by
  rw [List.getD_eq_getElem?_getD]
  cases h : l[j]? with
  | none => exact .inr rfl
  | some x => exact .inl (List.mem_of_getElem? h)
theorem Reads.good (h : Reads T d) (hT : TOk T) : d.good := by
  refine ⟨h.f40, h.b40, fun x hx => ?_, by rw [h.names]; exact hT.once⟩
  rw [← h.at_el hx]
  rcases getD_mem_or (l := T) (x.k * 40 + x.i) with h1 | h1
  · exact hT.st _ h1
  · rw [h1]; exact ⟨by simp, fun p hp => by cases hp⟩
theorem Reads.isN (h : Reads T d) {x : El} (hx : x ∈ d.els) : isN x.k ((x.i : Int) + 1) = true := by
  have h1 := (mem_els hx).1
  have h2 := h.i40 hx
  exact isN_mk (by omega)
theorem cntM_eq {xs : List El} (h : ∀ x ∈ xs, isN x.k ((x.i : Int) + 1) = true) : cntM xs = (names xs).length := by
  induction xs with
  | nil => rfl
  | cons x xs ih =>
    have h1 := h x (List.mem_cons_self ..)
    have h2 := ih (fun y hy => h y (List.mem_cons_of_mem _ hy))
    simp only [cntM, names, List.map_cons, List.sum_cons, List.flatMap_cons, List.length_append, h1, if_true] at h2 ⊢
    rw [h2]
theorem Reads.cnt (h : Reads T d) : cntM d.els = T.flatten.length := by rw [cntM_eq fun x hx => h.isN hx, h.names]
/-- A needle as a value, by its index. -/
def ndlV (j : Nat) : Value := .agg #[.int .u8 ((j / 40 : Nat) : Int), .int .i64 (((j % 40 : Nat) : Int) + 1)]
theorem Reads.find_no (h : Reads T d) {p : Nm} (hp : p ∉ T.flatten) : findV d p = .tuple #[.agg #[.int .u8 0, .int .i64 0], .int .i64 7] := by
  unfold findV
  rw [find_none fun x hx => ?_]
  unfold holds
  have : p ∉ x.c.l := fun h9 => hp (by rw [← h.names]; exact List.mem_flatMap.2 ⟨x, hx, h9⟩)
  simp [this]
theorem Reads.find_yes (h : Reads T d) {p : Nm} {j : Nat} (hj : j < 80) (hp : p ∈ T.getD j []) (hu : ∀ j', j' < 80 → p ∈ T.getD j' [] → j' = j) : findV d p = .tuple #[ndlV j, .int .i64 0] := by
  obtain ⟨x, hx, hk, hi⟩ := h.el_of (k := j / 40) (i := j % 40) (by omega) (by omega) (by rw [show j / 40 * 40 + j % 40 = j by omega]; exact List.ne_nil_of_mem hp)
  unfold findV
  cases hf : d.els.find? (holds p) with
  | none =>
    exfalso
    have := List.find?_eq_none.1 hf x hx
    apply this
    have h2 := h.at_el hx
    rw [hk, hi, show j / 40 * 40 + j % 40 = j by omega] at h2
    unfold holds
    rw [h.isN hx, ← h2, Bool.true_and]
    exact decide_eq_true hp
  | some y =>
    have hy := List.mem_of_find?_eq_some hf
    have hh := List.find?_some hf
    have hpy : p ∈ y.c.l := by simp [holds] at hh; exact hh.2
    have hyk := (mem_els hy).1
    have hyi := h.i40 hy
    have := hu (y.k * 40 + y.i) (by omega) (by rw [h.at_el hy]; exact hpy)
    simp only
    congr 1
    have e1 : y.k = j / 40 := by omega
    have e2 : y.i = j % 40 := by omega
    simp [ndlV, El.nv, e1, e2]

/-- The same, of beds that may have empty stacks behind the fortieth needle. -/
structure Reads0 (T : List (List Nm)) (d : Bds) : Prop where
  len : T.length = 80
  cel : ∀ k, k < 2 → ∀ i, ((d.bed k).cel i).l = if i < 40 then T.getD (k * 40 + i) [] else []
theorem Reads.zero (h : Reads T d) : Reads0 T d := ⟨h.len, fun k hk i => by
  split
  · rename_i hi; exact h.cel k hk i hi
  · rename_i hi
    have : (d.bed k).cs.length ≤ 40 := by unfold Bds.bed; split; exact h.f40; exact h.b40
    unfold Bed.cel
    rw [List.getD_eq_getElem?_getD, List.getElem?_eq_none (by omega)]
    rfl⟩
theorem same_iff {T' : List (List Nm)} {d' : Bds} (h : Reads0 T d) (h' : Reads0 T' d') : (d.els.all (sameAt d') && d'.els.all (sameAt d)) = decide (T = T') := by
  have key : ∀ {A B : List (List Nm)} {a b : Bds}, Reads0 A a → Reads0 B b → A = B → a.els.all (sameAt b) = true := fun {A B a b} ha hb e => by
    refine List.all_eq_true.2 fun x hx => decide_eq_true ?_
    obtain ⟨hk, hi, hc⟩ := mem_els hx
    rw [← hc, ha.cel _ hk, hb.cel _ hk, e]
  by_cases e : T = T'
  · rw [decide_eq_true e, key h h' e, key h' h e.symm]; rfl
  · rw [decide_eq_false e, Bool.and_eq_false_iff]
    by_cases h1 : d.els.all (sameAt d') = true
    · by_cases h2 : d'.els.all (sameAt d) = true
      · exfalso
        apply e
        apply List.ext_getElem?
        intro j
        by_cases hj : j < 80
        · have g : ∀ (A : List (List Nm)), A.length = 80 → A[j]? = some (A.getD j []) := fun A hA => by rw [List.getD_eq_getElem?_getD, List.getElem?_eq_getElem (by rw [hA]; exact hj)]; rfl
          rw [g T h.len, g T' h'.len]
          congr 1
          have a1 := h.cel (j / 40) (by omega) (j % 40)
          have a2 := h'.cel (j / 40) (by omega) (j % 40)
          rw [if_pos (by omega), show j / 40 * 40 + j % 40 = j by omega] at a1 a2
          rw [← a1, ← a2]
          by_cases l1 : j % 40 < (d.bed (j / 40)).cs.length
          · have := List.all_eq_true.1 h1 _ (els_mem (d := d) (by omega) l1)
            exact of_decide_eq_true this
          · by_cases l2 : j % 40 < (d'.bed (j / 40)).cs.length
            · have := List.all_eq_true.1 h2 _ (els_mem (d := d') (by omega) l2)
              exact (of_decide_eq_true this).symm
            · unfold Bed.cel
              rw [List.getD_eq_getElem?_getD, List.getD_eq_getElem?_getD, List.getElem?_eq_none (by omega), List.getElem?_eq_none (by omega)]
        · rw [List.getElem?_eq_none (by rw [h.len]; omega), List.getElem?_eq_none (by rw [h'.len]; omega)]
      · right; simpa using h2
    · left; simpa using h1
end
end Go.Proofs.Ytjjnhmbgffdenaa
