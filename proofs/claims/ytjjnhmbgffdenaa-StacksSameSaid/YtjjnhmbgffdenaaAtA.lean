import Derived.Test.YtjjnhmbgffdenaaDif
import Derived.Test.YtjjnhmbgffdenaaLvB
import Derived.Deep.Cut
import Derived.Deep.CutRange
import Derived.Deep.CutBlock
namespace Go.Proofs.Ytjjnhmbgffdenaa
open Go.RowKit Go.Sort

section
variable {o : Oper} {a : Act} {w : World} {K : Act → World → Prop} {Q : Exit → Act → World → Prop} {x y : Operand}
theorem st_idx29 {b q n c k : Nat} (hop : o.op = .indexAddr 29 x y) (hx : a.eval x = .slice (some ⟨b, q, none⟩) n c) (hy : a.eval y = .int .i64 k) (hk : k < n) (hK : K (a.put o.dst (.pointer (some ⟨b, q + k * 2, none⟩))) w) : o.wp Try.prog a w K Q := by
  have h1 : (k : Int) < n := by omega
  have h2 : (0 : Int) ≤ k := by omega
  exact step_val (by simp only [execOp, hop, hx, hy]; go_simp) hK
end
theorem TOk.uniq {T : List (List Nm)} (h : TOk T) {p : Nm} {i j : Nat} (hi : p ∈ T.getD i []) (hj : p ∈ T.getD j []) : i = j := by
  have h1 := (List.pairwise_flatten.1 h.once).2
  have key : ∀ i j, i < j → p ∈ T.getD i [] → p ∈ T.getD j [] → False := by
    intro i j hij hi hj
    have hj' : j < T.length := by
      rcases Nat.lt_or_ge j T.length with h | h
      · exact h
      · rw [List.getD_eq_getElem?_getD, List.getElem?_eq_none h] at hj; cases hj
    rw [List.getD_eq_getElem?_getD, List.getElem?_eq_getElem (by omega)] at hi
    rw [List.getD_eq_getElem?_getD, List.getElem?_eq_getElem hj'] at hj
    exact (List.pairwise_iff_getElem.1 h1) i j (by omega) hj' hij p hi p hj rfl
  rcases Nat.lt_trichotomy i j with h | h | h
  · exact (key i j h hi hj).elim
  · exact h
  · exact (key j i h hj hi).elim
theorem TOk.nodup {T : List (List Nm)} (h : TOk T) (i : Nat) : (T.getD i []).Nodup := by
  rcases getD_mem_or (l := T) i with h1 | h1
  · exact (List.pairwise_flatten.1 h.once).1 _ h1
  · rw [h1]; exact List.nodup_nil
/-- What a law has found of a name when it has looked at the stacks before i, and k names of the stack i. -/
def WH (T : List (List Nm)) (p : Nm) (i k c : Nat) (u v : Int) : Prop :=
  (c = 0 ∧ u = 0 ∧ v = 0 ∧ (∀ j, j < i → p ∉ T.getD j []) ∧ p ∉ (T.getD i []).take k) ∨
  (c = 1 ∧ ∃ j, (j < i ∧ p ∈ T.getD j [] ∨ j = i ∧ p ∈ (T.getD i []).take k) ∧ u = ((j / 40 : Nat) : Int) ∧ v = ((j % 40 : Nat) : Int) + 1)
theorem WH.start (T : List (List Nm)) (p : Nm) : WH T p 0 0 0 0 0 := .inl ⟨rfl, rfl, rfl, fun j h => absurd h (by omega), by simp⟩
theorem WH.le {T : List (List Nm)} {p : Nm} {i k c : Nat} {u v : Int} (h : WH T p i k c u v) : c ≤ 1 := by
  rcases h with h | h
  · omega
  · omega
theorem take_succ_of {l : List Nm} {k : Nat} {q : Nm} (h : l[k]? = some q) : l.take (k + 1) = l.take k ++ [q] := by
  obtain ⟨hk, rfl⟩ := List.getElem?_eq_some_iff.1 h
  exact List.take_succ_eq_append_getElem hk
theorem WH.miss {T : List (List Nm)} {p q : Nm} {i k c : Nat} {u v : Int} (h : WH T p i k c u v) (hk : (T.getD i [])[k]? = some q) (hne : q ≠ p) : WH T p i (k + 1) c u v := by
  rcases h with ⟨h1, h2, h3, h4, h5⟩ | ⟨h1, j, h2, h3, h4⟩
  · exact .inl ⟨h1, h2, h3, h4, by rw [take_succ_of hk, List.mem_append, List.mem_singleton]; rintro (h | h); exact h5 h; exact hne h.symm⟩
  · exact .inr ⟨h1, j, h2.imp id (fun h => ⟨h.1, by rw [take_succ_of hk]; exact List.mem_append_left _ h.2⟩), h3, h4⟩
theorem WH.hit {T : List (List Nm)} {p : Nm} {i k c : Nat} {u v : Int} (h : WH T p i k c u v) (hT : TOk T) (hk : (T.getD i [])[k]? = some p) : c = 0 ∧ WH T p i (k + 1) 1 ((i / 40 : Nat) : Int) (((i % 40 : Nat) : Int) + 1) := by
  have hm : p ∈ (T.getD i []).take (k + 1) := by rw [take_succ_of hk]; exact List.mem_append_right _ (List.mem_singleton.2 rfl)
  have hp : p ∈ T.getD i [] := List.mem_of_getElem? hk
  refine ⟨?_, .inr ⟨rfl, i, .inr ⟨rfl, hm⟩, rfl, rfl⟩⟩
  rcases h with h | ⟨_, j, h2, _⟩
  · exact h.1
  · exfalso
    rcases h2 with ⟨h2, h3⟩ | ⟨h2, h3⟩
    · have := hT.uniq h3 hp; omega
    · have hn := hT.nodup i
      obtain ⟨a, ha, e⟩ := List.getElem_of_mem h3
      obtain ⟨hk', e2⟩ := List.getElem?_eq_some_iff.1 hk
      have ha' : a < k := by rw [List.length_take] at ha; omega
      rw [List.getElem_take] at e
      exact (List.pairwise_iff_getElem.1 hn) a k (by omega) hk' ha' (e.trans e2.symm)
theorem WH.next {T : List (List Nm)} {p : Nm} {i k c : Nat} {u v : Int} (h : WH T p i k c u v) (hk : k = (T.getD i []).length) : WH T p (i + 1) 0 c u v := by
  subst hk
  rcases h with ⟨h1, h2, h3, h4, h5⟩ | ⟨h1, j, h2, h3, h4⟩
  · rw [List.take_length] at h5
    refine .inl ⟨h1, h2, h3, fun j hj => ?_, by simp⟩
    by_cases e : j = i
    · rw [e]; exact h5
    · exact h4 j (by omega)
  · rw [List.take_length] at h2
    refine .inr ⟨h1, j, .inl ?_, h3, h4⟩
    rcases h2 with h2 | ⟨rfl, h2⟩
    · exact ⟨by omega, h2.2⟩
    · exact ⟨by omega, h2⟩
theorem WH.done {T : List (List Nm)} {d : Bds} {p : Nm} {c : Nat} {u v : Int} (h : WH T p 80 0 c u v) (hT : TOk T) (hr : Reads T d) : findV d p = .tuple #[.agg #[.int .u8 u, .int .i64 v], .int .i64 (if c = 0 then 7 else 0)] := by
  rcases h with ⟨rfl, rfl, rfl, h4, _⟩ | ⟨rfl, j, h2, rfl, rfl⟩
  · rw [hr.find_no]; rfl
    intro hp
    obtain ⟨l, hl, hpl⟩ := List.mem_flatten.1 hp
    obtain ⟨j, hj, rfl⟩ := List.getElem_of_mem hl
    refine h4 j (by rw [hT.len] at hj; exact hj) ?_
    rw [List.getD_eq_getElem?_getD, List.getElem?_eq_getElem hj]; exact hpl
  · rcases h2 with ⟨h1, h2⟩ | ⟨_, h2⟩
    · rw [hr.find_yes h1 h2 (fun j' _ h' => hT.uniq h' h2)]; rfl
    · simp at h2
/-- How many names the stacks before i hold. -/
def manyTo (T : List (List Nm)) (i : Nat) : Nat := ((T.take i).map List.length).sum
theorem manyTo_succ {T : List (List Nm)} {i : Nat} (hi : i < T.length) : manyTo T (i + 1) = manyTo T i + (T.getD i []).length := by
  unfold manyTo
  rw [List.take_succ_eq_append_getElem hi, List.map_append, List.sum_append, List.getD_eq_getElem?_getD, List.getElem?_eq_getElem hi]
  simp
theorem manyTo_done {T : List (List Nm)} (h : T.length = 80) : manyTo T 80 = T.flatten.length := by
  unfold manyTo
  rw [List.take_of_length_le (by omega), List.length_flatten]
theorem manyTo_le {T : List (List Nm)} (h : TOk T) : ∀ i, i ≤ 80 → manyTo T i ≤ 4 * i := by
  intro i
  induction i with
  | zero => intro _; simp [manyTo]
  | succ i ih =>
    intro hi
    rw [manyTo_succ (by rw [h.len]; omega)]
    have := ih (by omega)
    have : (T.getD i []).length ≤ 4 := by
      rcases getD_mem_or (l := T) i with h1 | h1
      · exact (h.st _ h1).1
      · rw [h1]; simp
    omega
end Go.Proofs.Ytjjnhmbgffdenaa
