import Derived.Test.YtjjnhmbgffdenaaAtA
import Derived.Test.YtjjnhmbgffdenaaBackA
namespace Go.Proofs.Ytjjnhmbgffdenaa
open Go.RowKit Go.Sort

def noBds : Bds := ⟨⟨none, [], 0⟩, ⟨none, [], 0⟩⟩
/-- What a change returns, as beds in either case. -/
theorem Changed.both {T' : List (List Nm)} {err : Int} {w : World} {e : Ending} {w' : World} (h : Changed T' err w e w') :
    ∃ bd : Bds, e = .returned (.tuple #[bd.v, .int .i64 err]) ∧ Hid ((err ≠ 0 → bd = noBds) ∧ (err = 0 → Reads T' bd ∧ Tight bd) ∧ bd.ok w'.heap.size w') ∧ Below w.heap.size w w' := by
  obtain ⟨V, rfl, hV, hb⟩ := h
  by_cases he : err = 0
  · obtain ⟨bd, rfl, h⟩ := hV.out.2 he
    exact ⟨bd, rfl, Lib.hid ⟨fun h' => absurd he h', fun _ => ⟨h.1, h.2.1⟩, h.2.2.1⟩, hb⟩
  · rw [hV.out.1 he]
    exact ⟨noBds, rfl, Lib.hid ⟨fun _ => rfl, fun h' => absurd h' he, ⟨⟨by simp [noBds], by simp [noBds], .inl rfl⟩, ⟨by simp [noBds], by simp [noBds], .inl rfl⟩⟩⟩, hb⟩

/-- The index of a needle, as far as the search has come. -/
def atv (b a : Int) (k : Nat) : Int := if isN b a = true ∧ ixOf b a < k then (ixOf b a : Int) else -1
theorem atv_zero (b a : Int) : atv b a 0 = -1 := if_neg (by omega)
theorem sameNm_ix {b a : Int} {k : Nat} (hb : 0 ≤ b) (hk : k < 80) : sameNm ((k / 40 : Nat) : Int) (((k % 40 : Nat) : Int) + 1) b a = true ↔ isN b a = true ∧ ixOf b a = k := by
  rw [sameNm_iff]
  constructor
  · intro h
    have h1 := congrArg Nm.y h
    have h2 := congrArg Nm.n h
    simp only at h1 h2
    refine ⟨isN_mk (by omega), ?_⟩
    unfold ixOf; omega
  · rintro ⟨h1, h2⟩
    have := isN_true h1
    unfold ixOf at h2
    have e1 : ((k / 40 : Nat) : Int) = b := by omega
    have e2 : ((k % 40 : Nat) : Int) + 1 = a := by omega
    rw [e1, e2]
theorem atv_yes {b a : Int} {k : Nat} (hb : 0 ≤ b) (hk : k < 80) (h : sameNm ((k / 40 : Nat) : Int) (((k % 40 : Nat) : Int) + 1) b a = true) : atv b a (k + 1) = (k : Int) := by
  have := (sameNm_ix hb hk).1 h
  unfold atv
  rw [if_pos ⟨this.1, by omega⟩, this.2]
theorem atv_no {b a : Int} {k : Nat} (hb : 0 ≤ b) (hk : k < 80) (h : sameNm ((k / 40 : Nat) : Int) (((k % 40 : Nat) : Int) + 1) b a = false) : atv b a (k + 1) = atv b a k := by
  have h1 : ¬ (isN b a = true ∧ ixOf b a = k) := fun h' => by rw [(sameNm_ix hb hk).2 h'] at h; cases h
  unfold atv
  by_cases h2 : isN b a = true ∧ ixOf b a < k
  · rw [if_pos h2, if_pos ⟨h2.1, by omega⟩]
  · rw [if_neg h2, if_neg]
    rintro ⟨h3, h4⟩
    by_cases h5 : ixOf b a = k
    · exact h1 ⟨h3, h5⟩
    · exact h2 ⟨h3, by omega⟩
theorem ix_lt {b a : Int} (hb : 0 ≤ b) (h : isN b a = true) : ixOf b a < 80 := by
  have := isN_true h
  unfold ixOf; omega
theorem atv_end {b a : Int} (hb : 0 ≤ b) (h : isN b a = true) : atv b a 80 = (ixOf b a : Int) := if_pos ⟨h, ix_lt hb h⟩
theorem atv_bad {b a : Int} (h : isN b a = false) (k : Nat) : atv b a k = -1 := if_neg (by rw [h]; simp)
theorem ix_ne {b1 a1 b2 a2 : Int} (h1 : isN b1 a1 = true) (h2 : isN b2 a2 = true) (g1 : 0 ≤ b1) (g2 : 0 ≤ b2) (hb : b1 ≠ b2) : ixOf b1 a1 ≠ ixOf b2 a2 := by
  have := isN_true h1
  have := isN_true h2
  unfold ixOf; omega

section
variable {T : List (List Nm)} {b1 a1 b2 a2 : Int}
/-- What a join that succeeds says. -/
structure JOk (T : List (List Nm)) (b1 a1 b2 a2 : Int) (i k : Nat) : Prop where
  n1 : isN b1 a1 = true
  n2 : isN b2 a2 = true
  hb : b1 ≠ b2
  hi : ixOf b1 a1 = i
  hk : ixOf b2 a2 = k
  li : i < 80
  lk : k < 80
  ne : i ≠ k
  pos : 0 < (T.getD i []).length
  le : (T.getD k []).length + (T.getD i []).length ≤ 4
theorem JOk.of (g1 : 0 ≤ b1) (g2 : 0 ≤ b2) (h : joinErr T b1 a1 b2 a2 = 0) : JOk T b1 a1 b2 a2 (ixOf b1 a1) (ixOf b2 a2) := by
  unfold joinErr at h
  split at h
  · cases h
  · rename_i h1
    split at h
    · cases h
    · split at h
      · cases h
      · rename_i h2 h3
        have hn : isN b1 a1 = true := by cases hx : isN b1 a1 <;> simp_all
        have hm : isN b2 a2 = true := by cases hx : isN b2 a2 <;> simp_all
        have hb : b1 ≠ b2 := fun e => h1 (.inr (.inr e))
        exact ⟨hn, hm, hb, rfl, rfl, ix_lt g1 hn, ix_lt g2 hm, ix_ne hn hm g1 g2 hb, by omega, by omega⟩
theorem JOk.err {i k : Nat} (h : JOk T b1 a1 b2 a2 i k) : joinErr T b1 a1 b2 a2 = 0 := by
  unfold joinErr
  have := h.pos
  have := h.le
  rw [if_neg, h.hi, h.hk, if_neg (by omega), if_neg (by omega)]
  rintro (e | e | e)
  · rw [h.n1] at e; cases e
  · rw [h.n2] at e; cases e
  · exact h.hb e
theorem JOk.back {i k : Nat} (h : JOk T b1 a1 b2 a2 i k) (hl : T.length = 80) : JOk (joinT T b1 a1 b2 a2) b2 a2 b1 a1 k i := by
  have li := h.li
  have lk := h.lk
  have e1 : (joinT T b1 a1 b2 a2).getD i [] = [] := by
    unfold joinT
    rw [h.hi, h.hk, getD_set_ne _ h.ne.symm, getD_set_eq _ (by omega)]
  have e2 : ((joinT T b1 a1 b2 a2).getD k []).length = (T.getD k []).length + (T.getD i []).length := by
    unfold joinT
    rw [h.hi, h.hk, getD_set_eq _ (by simp; omega)]
    split
    · rw [List.length_append]; omega
    · rw [List.length_append]
  have := h.pos
  have := h.le
  exact ⟨h.n2, h.n1, h.hb.symm, h.hk, h.hi, h.lk, h.li, h.ne.symm, by rw [e2]; omega, by rw [e1, e2]; simp only [List.length_nil]; omega⟩
theorem JOk.alone {i k : Nat} (h : JOk T b1 a1 b2 a2 i k) (hl : T.length = 80) (hz : T.getD k [] = []) : joinT (joinT T b1 a1 b2 a2) b2 a2 b1 a1 = T := by
  have li := h.li
  have lk := h.lk
  have e : joinT T b1 a1 b2 a2 = (T.set i []).set k (T.getD i []) := by
    unfold joinT
    rw [h.hi, h.hk, hz]
    simp
  have e1 : (joinT T b1 a1 b2 a2).getD i [] = [] := by rw [e, getD_set_ne _ h.ne.symm, getD_set_eq _ (by omega)]
  have e2 : (joinT T b1 a1 b2 a2).getD k [] = T.getD i [] := by rw [e, getD_set_eq _ (by simp; omega)]
  show ((joinT T b1 a1 b2 a2).set (ixOf b2 a2) []).set (ixOf b1 a1) (if b2 = 1 then (joinT T b1 a1 b2 a2).getD (ixOf b2 a2) [] ++ (joinT T b1 a1 b2 a2).getD (ixOf b1 a1) [] else (joinT T b1 a1 b2 a2).getD (ixOf b1 a1) [] ++ (joinT T b1 a1 b2 a2).getD (ixOf b2 a2) []) = T
  rw [h.hi, h.hk, e1, e2]
  simp only [List.append_nil, List.nil_append, ite_self]
  rw [e]
  have hne := h.ne
  apply List.ext_getElem?
  intro j
  by_cases h1 : i = j
  · subst h1
    rw [List.getElem?_set_self (by simp; omega), List.getD_eq_getElem?_getD, List.getElem?_eq_getElem (by omega)]; rfl
  · rw [List.getElem?_set_ne h1]
    by_cases h2 : k = j
    · subst h2
      rw [List.getElem?_set_self (by simp; omega), ← hz, List.getD_eq_getElem?_getD, List.getElem?_eq_getElem (by omega)]; rfl
    · rw [List.getElem?_set_ne h2, List.getElem?_set_ne h2, List.getElem?_set_ne h1]
theorem JOk.len {i k : Nat} (h : JOk T b1 a1 b2 a2 i k) (hl : T.length = 80) : (joinT T b1 a1 b2 a2).flatten.length = T.flatten.length := by
  have li := h.li
  have lk := h.lk
  unfold joinT
  rw [h.hi, h.hk]
  refine (flat_move T (by omega) (by omega) h.ne _ ?_).length_eq
  split
  · exact List.perm_append_comm
  · exact List.Perm.refl _
/-- The law's own table. -/
theorem JOk.table {cs : List Cel} {c : Cel} {i k : Nat} (h : JOk T b1 a1 b2 a2 i k) (hT : cs.map (fun c => c.l) = T) (hc : c.l = if b2 = 1 then T.getD k [] ++ T.getD i [] else T.getD i [] ++ T.getD k []) (g1 : 0 ≤ b1) (g2 : 0 ≤ b2) :
    ((cs.set k c).set i Cel.nil).map (fun c => c.l) = joinT T b1 a1 b2 a2 := by
  have h1 := isN_true h.n1
  have h2 := isN_true h.n2
  have hb := h.hb
  rw [List.map_set, List.map_set, hT, hc]
  unfold joinT
  rw [h.hi, h.hk, List.set_comm _ _ h.ne]
  congr 1
  by_cases e : b1 = 1
  · rw [if_pos e, if_neg (by omega)]
  · rw [if_neg e, if_pos (by omega)]
end
end Go.Proofs.Ytjjnhmbgffdenaa
namespace Go.Proofs.Ytjjnhmbgffdenaa
open Go.RowKit
section
variable {w : World} {ops : Array Oper} {rest : List Oper} {o o' : Oper} {a : Act} {Q : Exit → Act → World → Prop}
/-- A guarded load of a whole table, whose guard stands. -/
theorem wpList_load_tab_g {j : Nat} {b : Bool} {d : Tmp} (hg : o.guard = some (j, b)) (ho : ops[j]? = some o') (hd : o'.dst = some d) (hlt : d < a.tmps.size) (hv : a.tmps.getD d undef = .bool b) {ty : TypeId} (hty : ty = 31 ∨ ty = 68) (x : Operand) (hop : o.op = .load ty x) {B t : Nat} {cs : List Cel} (hx : a.eval x = .pointer (some ⟨B, 0, none⟩)) (hT : Tab w B t cs)
    (hK : wpList Try.prog ops Q rest (a.put o.dst (tabV cs)) w) : wpList Try.prog ops Q (o :: rest) a w := by
  have hw : Region.wanted o (yielded ops a.tmps) = true := wanted_of hg ho hd hlt hv
  show if Region.wanted o (yielded ops a.tmps) then _ else _
  rw [if_pos hw]
  exact .inl (step_val (exec_load_tab hty x hop hx hT) hK)
end
end Go.Proofs.Ytjjnhmbgffdenaa
