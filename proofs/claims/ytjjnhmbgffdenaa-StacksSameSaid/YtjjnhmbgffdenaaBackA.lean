import Derived.Test.YtjjnhmbgffdenaaOfC
namespace Go.Proofs.Ytjjnhmbgffdenaa
open Go.RowKit Go.Sort

theorem getD_set_eq (T : List (List Nm)) {k : Nat} (hk : k < T.length) (l : List Nm) : (T.set k l).getD k [] = l := by
  rw [List.getD_eq_getElem?_getD, List.getElem?_set_self hk]; rfl
theorem getD_set_ne (T : List (List Nm)) {k j : Nat} (h : k ≠ j) (l : List Nm) : (T.set k l).getD j [] = T.getD j [] := by
  rw [List.getD_eq_getElem?_getD, List.getElem?_set_ne h, ← List.getD_eq_getElem?_getD]
theorem flat_set (T : List (List Nm)) (k : Nat) (l : List Nm) (hk : k < T.length) : ((T.set k l).flatten ++ T.getD k []).Perm (T.flatten ++ l) := by
  induction T generalizing k with
  | nil => simp at hk
  | cons a T ih =>
    cases k with
    | zero =>
      simp only [List.set_cons_zero, List.getD_cons_zero, List.flatten_cons]
      have h1 : (l ++ T.flatten ++ a).Perm (a ++ (l ++ T.flatten)) := List.perm_append_comm
      refine h1.trans ?_
      rw [List.append_assoc]
      exact (List.perm_append_comm).append_left a
    | succ k =>
      simp only [List.set_cons_succ, List.getD_cons_succ, List.flatten_cons, List.append_assoc]
      exact (ih k (by simpa using hk)).append_left a
theorem flat_move (T : List (List Nm)) {a b : Nat} (ha : a < T.length) (hb : b < T.length) (hne : a ≠ b) (l : List Nm) (hl : l.Perm (T.getD b [] ++ T.getD a [])) : ((T.set a []).set b l).flatten.Perm T.flatten := by
  have h1 := flat_set T a [] ha
  have h2 := flat_set (T.set a []) b l (by simpa using hb)
  rw [getD_set_ne T hne] at h2
  rw [List.append_nil] at h1
  have h3 : ((T.set a []).flatten ++ l).Perm (T.flatten ++ T.getD b []) := by
    refine (hl.append_left _).trans ?_
    refine (List.Perm.append_left _ List.perm_append_comm).trans ?_
    rw [← List.append_assoc]
    exact h1.append_right _
  exact (List.perm_append_right_iff _).1 (h2.trans h3)
/-- A join keeps a table valid. -/
theorem TOk.move {T : List (List Nm)} (h : TOk T) {a b : Nat} (ha : a < 80) (hb : b < 80) (hne : a ≠ b) (l : List Nm) (hl : l.Perm (T.getD b [] ++ T.getD a [])) (h4 : (T.getD b []).length + (T.getD a []).length ≤ 4) : TOk ((T.set a []).set b l) := by
  have ha' : a < T.length := by rw [h.len]; exact ha
  have hb' : b < T.length := by rw [h.len]; exact hb
  have hn : ∀ j, ∀ p ∈ T.getD j [], Named p := fun j p hp => by
    rcases getD_mem_or (l := T) j with h1 | h1
    · exact (h.st _ h1).2 p hp
    · rw [h1] at hp; cases hp
  refine ⟨by simp [h.len], fun x hx => ?_, (flat_move T ha' hb' hne l hl).nodup_iff.2 h.once⟩
  rcases List.mem_or_eq_of_mem_set hx with hx | rfl
  · rcases List.mem_or_eq_of_mem_set hx with hx | rfl
    · exact h.st x hx
    · exact ⟨by simp, fun p hp => by cases hp⟩
  · refine ⟨by rw [hl.length_eq, List.length_append]; exact h4, fun p hp => ?_⟩
    rcases List.mem_append.1 (hl.mem_iff.1 hp) with hp | hp
    · exact hn b p hp
    · exact hn a p hp
theorem TOk.join {T : List (List Nm)} (h : TOk T) {b1 a1 b2 a2 : Int} (g1 : 0 ≤ b1) (g2 : 0 ≤ b2) (he : joinErr T b1 a1 b2 a2 = 0) : TOk (joinT T b1 a1 b2 a2) := by
  unfold joinErr at he
  split at he
  · cases he
  · rename_i h1
    split at he
    · cases he
    · split at he
      · cases he
      · rename_i h2 h3
        have hn : isN b1 a1 = true := by cases hx : isN b1 a1 <;> simp_all
        have hm : isN b2 a2 = true := by cases hx : isN b2 a2 <;> simp_all
        have hb : b1 ≠ b2 := fun e => h1 (.inr (.inr e))
        have t1 := isN_true hn
        have t2 := isN_true hm
        have x1 : ixOf b1 a1 < 80 := by unfold ixOf; omega
        have x2 : ixOf b2 a2 < 80 := by unfold ixOf; omega
        have x3 : ixOf b1 a1 ≠ ixOf b2 a2 := by unfold ixOf; omega
        unfold joinT
        refine h.move x1 x2 x3 _ ?_ (by omega)
        split
        · exact List.perm_append_comm
        · exact List.Perm.refl _

/-- So many names from a number on. -/
def nms (n J : Nat) : List Nm := (List.range J).map fun i => nmAt (n + i)
theorem nms_length (n J : Nat) : (nms n J).length = J := by simp [nms]
theorem nms_succ (n J : Nat) : nms n (J + 1) = nmAt n :: nms (n + 1) J := by
  unfold nms
  rw [List.range_succ_eq_map, List.map_cons, List.map_map]
  congr 1
  apply List.map_congr_left
  intro i _
  show nmAt (n + (i + 1)) = nmAt (n + 1 + i)
  congr 1; omega
theorem ofIn_all (J k : Nat) : ∀ (T : List (List Nm)) (n : Nat), k < T.length → (T.getD k []).length + J ≤ 4 → ofIn J k (T, n) = (T.set k (T.getD k [] ++ nms n J), n + J) := by
  induction J with
  | zero =>
    intro T n hk _
    show (T, n) = _
    have : T.getD k [] ++ nms n 0 = T[k] := by
      simp [nms, List.getD_eq_getElem?_getD, List.getElem?_eq_getElem hk]
    rw [this, List.set_getElem_self]; rfl
  | succ J ih =>
    intro T n hk h4
    unfold ofIn
    rw [if_pos (by simp only; omega)]
    simp only
    rw [ih (T.set k (T.getD k [] ++ [nmAt n])) (n + 1) (by simpa using hk) (by rw [getD_set_eq T hk, List.length_append]; simp only [List.length_cons, List.length_nil]; omega), getD_set_eq T hk, List.set_set, nms_succ, List.append_assoc]
    rw [show n + 1 + J = n + (J + 1) by omega]
    rfl
/-- The table of the law on going there and back. -/
def backT (i1 i2 m1 m2 : Nat) : List (List Nm) := ((List.replicate 80 []).set i1 (nms 0 m1)).set (40 + i2) (nms m1 m2)
theorem rep_getD (k : Nat) : (List.replicate 80 ([] : List Nm)).getD k [] = [] := by
  rw [List.getD_eq_getElem?_getD, List.getElem?_replicate]; split <;> rfl
theorem ofM_two {i1 i2 m1 m2 : Nat} (h1 : i1 < 40) (h2 : i2 < 40) (h3 : m1 < 5) (h4 : m2 < 5) : ofM [(i1, m1), (40 + i2, m2)] = backT i1 i2 m1 m2 := by
  unfold ofM ofAll
  simp only [List.take, List.foldl_cons, List.foldl_nil]
  rw [Nat.mod_eq_of_lt (show i1 < 80 by omega), Nat.mod_eq_of_lt h3, Nat.mod_eq_of_lt (show 40 + i2 < 80 by omega), Nat.mod_eq_of_lt h4]
  rw [ofIn_all m1 i1 _ 0 (by simp; omega) (by rw [rep_getD]; simp; omega), rep_getD, List.nil_append, Nat.zero_add]
  rw [ofIn_all m2 (40 + i2) _ m1 (by simp; omega) (by rw [getD_set_ne _ (by omega), rep_getD]; simp; omega), getD_set_ne _ (by omega), rep_getD, List.nil_append]
  rfl
section
variable {i1 i2 m1 m2 : Nat} (h1 : i1 < 40) (h2 : i2 < 40)
theorem backT_1 (h1 : i1 < 40) (h2 : i2 < 40) : (backT i1 i2 m1 m2).getD i1 [] = nms 0 m1 := by
  unfold backT
  rw [getD_set_ne _ (by omega), getD_set_eq _ (by simp; omega)]
theorem backT_2 (h1 : i1 < 40) (h2 : i2 < 40) : (backT i1 i2 m1 m2).getD (40 + i2) [] = nms m1 m2 := by
  unfold backT
  rw [getD_set_eq _ (by simp; omega)]
end
/-- There and back. -/
def thereT (i1 i2 m1 m2 : Nat) : List (List Nm) := ((backT i1 i2 m1 m2).set i1 []).set (40 + i2) (nms m1 m2 ++ nms 0 m1)
def againT (i1 i2 m1 m2 : Nat) : List (List Nm) := ((thereT i1 i2 m1 m2).set (40 + i2) []).set i1 (nms m1 m2 ++ nms 0 m1)
theorem again_iff {i1 i2 m1 m2 : Nat} (h1 : i1 < 40) (h2 : i2 < 40) : againT i1 i2 m1 m2 = backT i1 i2 m1 m2 ↔ m2 = 0 := by
  have e1 : (againT i1 i2 m1 m2).getD i1 [] = nms m1 m2 ++ nms 0 m1 := by
    unfold againT
    rw [getD_set_eq _ (by simp [thereT, backT]; omega)]
  constructor
  · intro h
    rw [h, backT_1 h1 h2] at e1
    have := congrArg List.length e1
    rw [List.length_append, nms_length, nms_length] at this
    omega
  · rintro rfl
    apply List.ext_getElem?
    intro j
    unfold againT thereT backT
    simp only [List.getElem?_set, List.length_set, List.length_replicate, nms, List.range_zero, List.map_nil, List.nil_append]
    by_cases e1 : i1 = j
    · subst e1
      rw [if_pos rfl, if_pos (by omega), if_neg (by omega), if_pos rfl]
    · rw [if_neg e1, if_neg e1, if_neg e1]
      by_cases e2 : 40 + i2 = j
      · subst e2; simp
      · rw [if_neg e2, if_neg e2, if_neg e2]
end Go.Proofs.Ytjjnhmbgffdenaa
