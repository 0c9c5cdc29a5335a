import Derived.Test.YtjjnhmbgffdenaaDoorGag
import Derived.Maps.AppendAt
import Derived.Laws.OwnMore
namespace Go.Proofs.YtjjnhmbgffdenaaDoor
open Go.RowKit

theorem flatten_range (cs : List Cel) : ∀ m, cs.length ≤ m → ((List.range m).map fun i => (cs.getD i Cel.nil).l).flatten = cs.flatMap fun c => c.l := by
  intro m
  induction m with
  | zero => intro h; obtain rfl : cs = [] := List.eq_nil_of_length_eq_zero (by omega); rfl
  | succ m ih =>
    intro h
    rw [List.range_succ, List.map_append, List.flatten_append, List.map_singleton]
    by_cases h1 : cs.length ≤ m
    · rw [ih h1]
      simp [List.getD_eq_getElem?_getD, List.getElem?_eq_none h1, Cel.nil]
    · have hm : cs.length = m + 1 := by omega
      have e : cs = cs.take m ++ [cs.getD m Cel.nil] := by
        have h2 := List.take_succ_eq_append_getElem (l := cs) (i := m) (by omega)
        rw [List.take_of_length_le (by omega)] at h2
        rw [List.getD_eq_getElem?_getD, List.getElem?_eq_getElem (by omega)]
        exact h2
      have e2 : ((List.range m).map fun i => (cs.getD i Cel.nil).l) = ((List.range m).map fun i => ((cs.take m).getD i Cel.nil).l) := by
        refine List.map_congr_left fun i hi => ?_
        have := List.mem_range.1 hi
        simp only [List.getD_eq_getElem?_getD]
        rw [List.getElem?_take, if_pos this]
      have ih' : ∀ cs' : List Cel, cs'.length = m → ((List.range m).map fun i => (cs'.getD i Cel.nil).l).flatten = cs'.flatMap fun c => c.l := fun cs' hl => by
        have h3 : ((List.range m).map fun i => (cs'.getD i Cel.nil).l) = cs'.map fun c => c.l := by
          apply List.ext_getElem?
          intro i
          by_cases hi : i < m
          · rw [List.getElem?_map, List.getElem?_range hi, List.getElem?_map, List.getElem?_eq_getElem (by omega)]
            simp [List.getD_eq_getElem?_getD, List.getElem?_eq_getElem (show i < cs'.length by omega)]
          · rw [List.getElem?_eq_none (by simp; omega), List.getElem?_eq_none (by simp; omega)]
        rw [h3, List.flatMap_def]
      rw [e2, ih' (cs.take m) (by rw [List.length_take]; omega)]
      conv => rhs; rw [e]
      rw [List.flatMap_append]
      simp

section
variable {T : List (List Nm)} {d : Bds}
theorem bed_names (b : Bed) (k : Nat) : names (b.els k) = b.cs.flatMap fun c => c.l := by
  unfold names Bed.els
  rw [List.flatMap_def, List.flatMap_def]
  congr 1
  apply List.ext_getElem?
  intro i
  simp
  cases b.cs[i]? <;> rfl
theorem Reads.names (h : Reads T d) : names d.els = T.flatten := by
  have e : T = ((List.range 40).map fun i => (d.f.cs.getD i Cel.nil).l) ++ ((List.range 40).map fun i => (d.b.cs.getD i Cel.nil).l) := by
    apply List.ext_getElem?
    intro j
    by_cases hj : j < 80
    · have hT : T[j]? = some (T.getD j []) := by rw [List.getD_eq_getElem?_getD, List.getElem?_eq_getElem (by rw [h.len]; exact hj)]; rfl
      rw [hT]
      by_cases h1 : j < 40
      · rw [List.getElem?_append_left (by simpa using h1), List.getElem?_map, List.getElem?_range h1]
        have := h.cel 0 (by omega) j h1
        simp only [Bds.bed, if_true, Nat.zero_mul, Nat.zero_add] at this
        rw [← this]; rfl
      · rw [List.getElem?_append_right (by simp; omega), List.getElem?_map]
        simp only [List.length_map, List.length_range]
        rw [List.getElem?_range (by omega)]
        have := h.cel 1 (by omega) (j - 40) (by omega)
        simp only [Bds.bed, Nat.one_ne_zero, if_false, Nat.one_mul] at this
        rw [show 40 + (j - 40) = j by omega] at this
        rw [← this]; rfl
    · rw [List.getElem?_eq_none (by rw [h.len]; omega), List.getElem?_eq_none (by simp; omega)]
  unfold Bds.els
  rw [show YtjjnhmbgffdenaaDoor.names (d.f.els 0 ++ d.b.els 1) = YtjjnhmbgffdenaaDoor.names (d.f.els 0) ++ YtjjnhmbgffdenaaDoor.names (d.b.els 1) by simp [YtjjnhmbgffdenaaDoor.names], bed_names, bed_names]
  conv => rhs; rw [e]
  rw [List.flatten_append, flatten_range _ 40 h.f40, flatten_range _ 40 h.b40]
/-- A table that beds may hold. -/
structure TOk (T : List (List Nm)) : Prop where
  len : T.length = 80
  st : ∀ l ∈ T, l.length ≤ 4 ∧ ∀ p ∈ l, Named p
  once : T.flatten.Nodup
theorem getD_mem_or {l : List (List Nm)} (j : Nat) : l.getD j [] ∈ l ∨ l.getD j [] = [] := by
  rw [List.getD_eq_getElem?_getD]
  cases h : l[j]? with
  | none => exact .inr rfl
  | some x => exact .inl (List.mem_of_getElem? h)
theorem Reads.good (h : Reads T d) (hT : TOk T) : d.good := by
  refine ⟨h.f40, h.b40, fun x hx => ?_, by rw [h.names]; exact hT.once⟩
  rw [← h.at_el hx]
  rcases getD_mem_or (l := T) (x.k * 40 + x.i) with h1 | h1
  · exact hT.st _ h1
  · rw [h1]; exact ⟨by simp, fun p hp => by cases hp⟩
theorem Reads.isN (h : Reads T d) {x : El} (hx : x ∈ d.els) : isN x.k ((x.i : Int) + 1) = true := by
  have h1 := (mem_els hx).1
  have h2 := h.i40 hx
  exact isN_mk (by omega)
theorem cntM_eq {xs : List El} (h : ∀ x ∈ xs, isN x.k ((x.i : Int) + 1) = true) : cntM xs = (names xs).length := by
  induction xs with
  | nil => rfl
  | cons x xs ih =>
    have h1 := h x (List.mem_cons_self ..)
    have h2 := ih (fun y hy => h y (List.mem_cons_of_mem _ hy))
    simp only [cntM, names, List.map_cons, List.sum_cons, List.flatMap_cons, List.length_append, h1, if_true] at h2 ⊢
    rw [h2]
theorem Reads.cnt (h : Reads T d) : cntM d.els = T.flatten.length := by rw [cntM_eq fun x hx => h.isN hx, h.names]
/-- A needle as a value, by its index. -/
def ndlV (j : Nat) : Value := .agg #[.int .u8 ((j / 40 : Nat) : Int), .int .i64 (((j % 40 : Nat) : Int) + 1)]
theorem Reads.find_no (h : Reads T d) {p : Nm} (hp : p ∉ T.flatten) : findV d p = .tuple #[.agg #[.int .u8 0, .int .i64 0], .int .i64 7] := by
  unfold findV
  rw [find_none fun x hx => ?_]
  unfold holds
  have : p ∉ x.c.l := fun h9 => hp (by rw [← h.names]; exact List.mem_flatMap.2 ⟨x, hx, h9⟩)
  simp [this]
theorem Reads.find_yes (h : Reads T d) {p : Nm} {j : Nat} (hj : j < 80) (hp : p ∈ T.getD j []) (hu : ∀ j', j' < 80 → p ∈ T.getD j' [] → j' = j) : findV d p = .tuple #[ndlV j, .int .i64 0] := by
  obtain ⟨x, hx, hk, hi⟩ := h.el_of (k := j / 40) (i := j % 40) (by omega) (by omega) (by rw [show j / 40 * 40 + j % 40 = j by omega]; exact List.ne_nil_of_mem hp)
  unfold findV
  cases hf : d.els.find? (holds p) with
  | none =>
    exfalso
    have := List.find?_eq_none.1 hf x hx
    apply this
    have h2 := h.at_el hx
    rw [hk, hi, show j / 40 * 40 + j % 40 = j by omega] at h2
    unfold holds
    rw [h.isN hx, ← h2, Bool.true_and]
    exact decide_eq_true hp
  | some y =>
    have hy := List.mem_of_find?_eq_some hf
    have hh := List.find?_some hf
    have hpy : p ∈ y.c.l := by simp [holds] at hh; exact hh.2
    have hyk := (mem_els hy).1
    have hyi := h.i40 hy
    have := hu (y.k * 40 + y.i) (by omega) (by rw [h.at_el hy]; exact hpy)
    simp only
    congr 1
    have e1 : y.k = j / 40 := by omega
    have e2 : y.i = j % 40 := by omega
    simp [ndlV, El.nv, e1, e2]

/-- The same, of beds that may have empty stacks behind the fortieth needle. -/
structure Reads0 (T : List (List Nm)) (d : Bds) : Prop where
  len : T.length = 80
  cel : ∀ k, k < 2 → ∀ i, ((d.bed k).cel i).l = if i < 40 then T.getD (k * 40 + i) [] else []
theorem Reads.zero (h : Reads T d) : Reads0 T d := ⟨h.len, fun k hk i => by
  split
  · rename_i hi; exact h.cel k hk i hi
  · rename_i hi
    have : (d.bed k).cs.length ≤ 40 := by unfold Bds.bed; split; exact h.f40; exact h.b40
    unfold Bed.cel
    rw [List.getD_eq_getElem?_getD, List.getElem?_eq_none (by omega)]
    rfl⟩
theorem same_iff {T' : List (List Nm)} {d' : Bds} (h : Reads0 T d) (h' : Reads0 T' d') : (d.els.all (sameAt d') && d'.els.all (sameAt d)) = decide (T = T') := by
  have key : ∀ {A B : List (List Nm)} {a b : Bds}, Reads0 A a → Reads0 B b → A = B → a.els.all (sameAt b) = true := fun {A B a b} ha hb e => by
    refine List.all_eq_true.2 fun x hx => decide_eq_true ?_
    obtain ⟨hk, hi, hc⟩ := mem_els hx
    rw [← hc, ha.cel _ hk, hb.cel _ hk, e]
  by_cases e : T = T'
  · rw [decide_eq_true e, key h h' e, key h' h e.symm]; rfl
  · rw [decide_eq_false e, Bool.and_eq_false_iff]
    by_cases h1 : d.els.all (sameAt d') = true
    · by_cases h2 : d'.els.all (sameAt d) = true
      · exfalso
        apply e
        apply List.ext_getElem?
        intro j
        by_cases hj : j < 80
        · have g : ∀ (A : List (List Nm)), A.length = 80 → A[j]? = some (A.getD j []) := fun A hA => by rw [List.getD_eq_getElem?_getD, List.getElem?_eq_getElem (by rw [hA]; exact hj)]; rfl
          rw [g T h.len, g T' h'.len]
          congr 1
          have a1 := h.cel (j / 40) (by omega) (j % 40)
          have a2 := h'.cel (j / 40) (by omega) (j % 40)
          rw [if_pos (by omega), show j / 40 * 40 + j % 40 = j by omega] at a1 a2
          rw [← a1, ← a2]
          by_cases l1 : j % 40 < (d.bed (j / 40)).cs.length
          · have := List.all_eq_true.1 h1 _ (els_mem (d := d) (by omega) l1)
            exact of_decide_eq_true this
          · by_cases l2 : j % 40 < (d'.bed (j / 40)).cs.length
            · have := List.all_eq_true.1 h2 _ (els_mem (d := d') (by omega) l2)
              exact (of_decide_eq_true this).symm
            · unfold Bed.cel
              rw [List.getD_eq_getElem?_getD, List.getD_eq_getElem?_getD, List.getElem?_eq_none (by omega), List.getElem?_eq_none (by omega)]
        · rw [List.getElem?_eq_none (by rw [h.len]; omega), List.getElem?_eq_none (by rw [h'.len]; omega)]
      · right; simpa using h2
    · left; simpa using h1
end
end Go.Proofs.YtjjnhmbgffdenaaDoor
namespace Go.Proofs.YtjjnhmbgffdenaaDoor
open Go.RowKit Go.Sort

end Go.Proofs.YtjjnhmbgffdenaaDoor
namespace Go.Proofs.YtjjnhmbgffdenaaDoor
open Go.RowKit Go.Sort

/-- The table in which a needle holds other loops. -/
def setT (T : List (List Nm)) (b a : Int) (l : List Nm) : List (List Nm) := T.set (b.toNat * 40 + (a - 1).toNat) l
def setErr (T : List (List Nm)) (b a : Int) (l : List Nm) : Int :=
  if isN b a = false ∨ allNamed l = false then 1 else if 4 < l.length then 9 else if (setT T b a l).flatten.Nodup then 0 else 8
def zBeds : Value := .agg #[.slice none 0 0, .slice none 0 0]
/-- What a change of valid beds returns: an error and no beds, or the beds of the new table. -/
def Changed (T' : List (List Nm)) (err : Int) (w : World) (e : Ending) (w' : World) : Prop :=
  ∃ V, e = .returned (.tuple #[V, .int .i64 err]) ∧ Hid ((err ≠ 0 → V = zBeds) ∧ (err = 0 → ∃ bd : Bds, V = bd.v ∧ Reads T' bd ∧ Tight bd ∧ bd.ok w'.heap.size w' ∧ (∀ b o, bd.f.ao = some ⟨b, o, none⟩ → w.heap.size ≤ b) ∧ ∀ b o, bd.b.ao = some ⟨b, o, none⟩ → w.heap.size ≤ b)) ∧ Below w.heap.size w w'
theorem changed_no {T' : List (List Nm)} {err : Int} (h : err ≠ 0) {w w' : World} (hb : Below w.heap.size w w') : Changed T' err w (.returned (.tuple #[zBeds, .int .i64 err])) w' :=
  ⟨_, rfl, Lib.hid ⟨fun _ => rfl, fun h' => absurd h' h⟩, hb⟩
theorem setErr_1 {T : List (List Nm)} {b a : Int} {l : List Nm} (h : isN b a = false ∨ allNamed l = false) : setErr T b a l = 1 := if_pos h
theorem setErr_9 {T : List (List Nm)} {b a : Int} {l : List Nm} (h1 : isN b a = true) (h2 : allNamed l = true) (h : 4 < l.length) : setErr T b a l = 9 := by
  unfold setErr; rw [if_neg (by rw [h1, h2]; simp), if_pos h]
theorem setErr_8 {T : List (List Nm)} {b a : Int} {l : List Nm} (h1 : isN b a = true) (h2 : allNamed l = true) (h : l.length ≤ 4) (h3 : ¬ (setT T b a l).flatten.Nodup) : setErr T b a l = 8 := by
  unfold setErr; rw [if_neg (by rw [h1, h2]; simp), if_neg (by omega), if_neg h3]
theorem setErr_0 {T : List (List Nm)} {b a : Int} {l : List Nm} (h1 : isN b a = true) (h2 : allNamed l = true) (h : l.length ≤ 4) (h3 : (setT T b a l).flatten.Nodup) : setErr T b a l = 0 := by
  unfold setErr; rw [if_neg (by rw [h1, h2]; simp), if_neg (by omega), if_pos h3]
theorem allNamed_iff {l : List Nm} (h : allNamed l = true) : ∀ p ∈ l, Named p := fun p hp => of_decide_eq_true (List.all_eq_true.1 h p hp)
theorem mem_setT {T : List (List Nm)} {b a : Int} {l : List Nm} {x : List Nm} (h : x ∈ setT T b a l) : x ∈ T ∨ x = l := List.mem_or_eq_of_mem_set h

end Go.Proofs.YtjjnhmbgffdenaaDoor
namespace Go.Proofs.YtjjnhmbgffdenaaDoor
open Go.RowKit Go.Sort

def ixOf (b a : Int) : Nat := b.toNat * 40 + (a - 1).toNat
/-- The table in which the loops of one needle are joined to those of another. -/
def joinT (T : List (List Nm)) (b1 a1 b2 a2 : Int) : List (List Nm) :=
  (T.set (ixOf b1 a1) []).set (ixOf b2 a2) (if b1 = 1 then T.getD (ixOf b1 a1) [] ++ T.getD (ixOf b2 a2) [] else T.getD (ixOf b2 a2) [] ++ T.getD (ixOf b1 a1) [])
def joinErr (T : List (List Nm)) (b1 a1 b2 a2 : Int) : Int :=
  if isN b1 a1 = false ∨ isN b2 a2 = false ∨ b1 = b2 then 1 else if (T.getD (ixOf b1 a1) []).length = 0 then 13 else
    if 4 < (T.getD (ixOf b2 a2) []).length + (T.getD (ixOf b1 a1) []).length then 9 else 0
theorem joinErr_1 {T : List (List Nm)} {b1 a1 b2 a2 : Int} (h : isN b1 a1 = false ∨ isN b2 a2 = false ∨ b1 = b2) : joinErr T b1 a1 b2 a2 = 1 := if_pos h

end Go.Proofs.YtjjnhmbgffdenaaDoor
namespace Go.Proofs.YtjjnhmbgffdenaaDoor
open Go.RowKit Go.Sort

section
variable {o : Oper} {a : Act} {w : World} {K : Act → World → Prop} {Q : Exit → Act → World → Prop} {x y : Operand}
theorem st_bs2 {s t : Tmp} {p1 p2 : Option Addr} {n1 n2 r1 r2 : Nat} (hop : o.op = .buildSlice 24 2 #[(0, .tmp s), (1, .tmp t)]) (hs : a.eval (.tmp s) = .slice p1 n1 r1) (ht : a.eval (.tmp t) = .slice p2 n2 r2) (hK : K (a.put o.dst (.slice (some ⟨w.heap.size, 0, none⟩) 2 2)) (w.alloc (.cells #[.slice p1 n1 r1, .slice p2 n2 r2] 61))) : o.wp Tryd.prog a w K Q := by
  have e1 : a.tmps[s]?.getD undef = .slice p1 n1 r1 := by simpa [Act.eval] using hs
  have e2 : a.tmps[t]?.getD undef = .slice p2 n2 r2 := by simpa [Act.eval] using ht
  refine step_valw (v := .slice (some ⟨w.heap.size, 0, none⟩) 2 2) ?_ hK
  simp only [execOp, hop]
  go_simp
end
/-- Two stacks in a slice of their own. -/
theorem bed2_ok {w : World} {c d : Cel} (hc : c.ok w.heap.size w) (hd : d.ok w.heap.size w) : Bed.ok (w.alloc (.cells #[c.v, d.v] 61)).heap.size (w.alloc (.cells #[c.v, d.v] 61)) ⟨some ⟨w.heap.size, 0, none⟩, [c, d], 2⟩ := by
  have hb := below1 w (.cells #[c.v, d.v] 61)
  refine ⟨by simp, fun x hx => ?_, .inr ⟨w.heap.size, 0, rfl, by simp, fun i x hx => ?_⟩⟩
  · simp only [List.mem_cons, List.not_mem_nil, or_false] at hx
    rcases hx with rfl | rfl
    · exact (hc.below hb).mono hb.size
    · exact (hd.below hb).mono hb.size
  · have hn := Boxed2.new w 61 c.v d.v
    match i, hx with
    | 0, hx => cases hx; exact hn.cell0
    | 1, hx => cases hx; exact hn.cell1
    | i + 2, hx => simp at hx
def psiJ6 (fa : Option Addr) (fs : List Cel) (fc : Nat) (ba : Option Addr) (bs : List Cel) (bc : Nat) (k1 : Nat) (i1 : Nat) (k2 : Nat) (i2 : Nat) (p2 : Option Addr) (q2 : List Nm) (r2 : Nat) : Nat → Value → World → Prop
  | 0, v9, _ => v9 = .agg #[.slice fa fs.length fc, .slice ba bs.length bc]
  | 1, v9, _ => v9 = .agg #[.int .u8 k2, .int .i64 ((i2 : Int) + 1)]
  | 2, v9, _ => v9 = .slice p2 q2.length r2
  | 3, v9, _ => v9 = .agg #[.slice fa fs.length fc, .slice ba bs.length bc]
  | 4, v9, _ => v9 = .agg #[.int .u8 k1, .int .i64 ((i1 : Int) + 1)]
  | _, _, _ => True
theorem psiJ6_stab (fa : Option Addr) (fs : List Cel) (fc : Nat) (ba : Option Addr) (bs : List Cel) (bc : Nat) (k1 : Nat) (i1 : Nat) (k2 : Nat) (i2 : Nat) (p2 : Option Addr) (q2 : List Nm) (r2 : Nat) (i9 : Nat) (v9 : Value) (w9 w9' : World) (h : psiJ6 fa fs fc ba bs bc k1 i1 k2 i2 p2 q2 r2 i9 v9 w9) (_hb : Below w9.heap.size w9 w9') : psiJ6 fa fs fc ba bs bc k1 i1 k2 i2 p2 q2 r2 i9 v9 w9' := by
  match i9, h with
  | 0, h => exact h
  | 1, h => exact h
  | 2, h => exact h
  | 3, h => exact h
  | 4, h => exact h
  | i9 + 5, _ => exact trivial
def psiJ15 (k2 : Nat) (i2 : Nat) (px : Option Addr) (qx : List Nm) (rx : Nat) (py : Option Addr) (qy : List Nm) (ry : Nat) : Nat → Value → World → Prop
  | 0, v9, _ => v9 = .agg #[.int .u8 k2, .int .i64 ((i2 : Int) + 1)]
  | 1, v9, _ => v9 = .slice px qx.length rx
  | 2, v9, _ => v9 = .slice py qy.length ry
  | 3, v9, w9 => ∃ A, v9 = .slice (some ⟨A, 0, none⟩) 2 2 ∧ Bed.ok w9.heap.size w9 ⟨some ⟨A, 0, none⟩, [⟨px, qx, rx⟩, ⟨py, qy, ry⟩], 2⟩
  | 4, v9, w9 => ∃ c : Cel, v9 = c.v ∧ c.l = qx ++ qy ∧ c.ok w9.heap.size w9
  | _, _, _ => True
theorem psiJ15_stab (k2 : Nat) (i2 : Nat) (px : Option Addr) (qx : List Nm) (rx : Nat) (py : Option Addr) (qy : List Nm) (ry : Nat) (i9 : Nat) (v9 : Value) (w9 w9' : World) (h : psiJ15 k2 i2 px qx rx py qy ry i9 v9 w9) (_hb : Below w9.heap.size w9 w9') : psiJ15 k2 i2 px qx rx py qy ry i9 v9 w9' := by
  match i9, h with
  | 0, h => exact h
  | 1, h => exact h
  | 2, h => exact h
  | 3, h => exact (by obtain ⟨A, h1, h2⟩ := h; exact ⟨A, h1, (h2.below _hb).mono _hb.size⟩)
  | 4, h => exact (by obtain ⟨c, h1, h2, h3⟩ := h; exact ⟨c, h1, h2, (h3.below _hb).mono _hb.size⟩)
  | i9 + 5, _ => exact trivial
end Go.Proofs.YtjjnhmbgffdenaaDoor
namespace Go.Proofs.YtjjnhmbgffdenaaDoor
open Go.RowKit Go.Sort

/-- The table of a law while the law fills it: each row lies in a block of its own. -/
structure Ow (BT : Nat) (w : World) (cs : List Cel) : Prop where
  tab : Tab w BT 65 cs
  own : ∀ (i : Nat) (c : Cel), cs[i]? = some c → w.ownsRow (BT + 1) 35 2 c.v c.l.length (cellsOf c.l)
  dis : ∀ (i j : Nat) (c c' : Cel), i ≠ j → cs[i]? = some c → cs[j]? = some c' → c.v.ownBlock = none ∨ c.v.ownBlock ≠ c'.v.ownBlock

theorem Ow.alloc {BT : Nat} {w : World} {cs : List Cel} (h : Ow BT w cs) (o : Obj) : Ow BT (w.alloc o) cs :=
  ⟨h.tab.alloc o, fun i c hc => (h.own i c hc).alloc o, h.dis⟩
theorem Ow.put {BT : Nat} {w w' : World} {cs : List Cel} (h : Ow BT w cs) {k : Nat} {c c' : Cel} (hk : cs[k]? = some c) (hg : w.grownBy w' c.v.ownBlock) (ho : w'.ownsRow (BT + 1) 35 2 c'.v c'.l.length (cellsOf c'.l))
    (hat : c'.v.ownBlock = c.v.ownBlock ∨ c'.v.ownBlock = some w.heap.size) : Ow BT (w'.setCell ⟨BT, k, none⟩ c'.v) (cs.set k c') := by
  have hne : some BT ≠ c.v.ownBlock := fun e => by have := (h.own k c hk).lt BT e.symm; omega
  have hkl : k < cs.length := (List.getElem?_eq_some_iff.1 hk).1
  have get : ∀ (i : Nat) (x : Cel), (cs.set k c')[i]? = some x → (i = k ∧ x = c') ∨ (i ≠ k ∧ cs[i]? = some x) := fun i x hx => by
    rw [List.getElem?_set] at hx
    by_cases hi : k = i
    · rw [if_pos hi, if_pos (hi ▸ hkl)] at hx
      exact .inl ⟨hi.symm, (Option.some.inj hx).symm⟩
    · rw [if_neg hi] at hx
      exact .inr ⟨fun e => hi e.symm, hx⟩
  have hsc : w'.grownBy (w'.setCell ⟨BT, k, none⟩ c'.v) (some BT) := grownBy_setCellAt w' BT k _
  refine ⟨(h.tab.kept hg hne).set k c', fun i x hx => ?_, fun i j x y hij hx hy => ?_⟩
  · rcases get i x hx with ⟨rfl, rfl⟩ | ⟨hi, hx⟩
    · exact ho.kept hsc (.inr fun e => by have := ho.lt BT e; omega)
    · have h1 := (h.own i x hx).kept hg (h.dis i k x c hi hx hk)
      exact h1.kept hsc (.inr fun e => by have := h1.lt BT e; omega)
  · rcases get i x hx with ⟨rfl, rfl⟩ | ⟨hi, hx'⟩
    · rcases get j y hy with ⟨rfl, rfl⟩ | ⟨hj, hy'⟩
      · exact absurd rfl hij
      · rcases hat with e | e
        · rw [e]; exact h.dis i j c y hij hk hy'
        · rw [e]; exact .inr fun e2 => by have := (h.own j y hy').lt _ e2.symm; omega
    · rcases get j y hy with ⟨rfl, rfl⟩ | ⟨hj, hy'⟩
      · rcases hat with e | e
        · rw [e]; exact h.dis i j x c hij hx' hk
        · rw [e]; exact .inr fun e2 => by have := (h.own i x hx').lt _ e2; omega
      · exact h.dis i j x y hij hx' hy'
theorem Ow.ok {BT : Nat} {w : World} {cs : List Cel} (h : Ow BT w cs) (h4 : ∀ c ∈ cs, c.l.length ≤ 4) : ∀ c ∈ cs, c.ok w.heap.size w := fun c hc => by
  obtain ⟨i, hi, rfl⟩ := List.mem_iff_getElem.1 hc
  have h1 := h.own i cs[i] (List.getElem?_eq_getElem hi)
  obtain ⟨c2, e1, e2, _, e4⟩ := ok_of_owns h1 (by have := h4 _ hc; omega)
  obtain ⟨a, l, cap⟩ := c2
  generalize cs[i] = x at *
  obtain ⟨a', l', cap'⟩ := x
  simp only [Cel.v, Value.slice.injEq] at e1
  simp only at e2
  obtain ⟨rfl, -, rfl⟩ := e1
  subst e2
  exact e4

theorem run_append_at (w : World) (B ty : Nat) (c : Cel) (hown : w.ownsRow B 35 2 c.v c.l.length (cellsOf c.l)) (p : Nm) (b : Nat) (h0 : Two w b 0 p) (h1 : c.l.length ≤ 50) (hbase : B ≤ w.heap.size) :
    ∃ (c' : Cel) (w' : World), (Builtin.append_ #[61, 61] ty #[c.v, .slice (some ⟨b, 0, none⟩) 1 1]).run Tryd.prog w = .ok c'.v w' ∧ c'.l = c.l ++ [p] ∧ w'.ownsRow B 35 2 c'.v c'.l.length (cellsOf c'.l) ∧ w.grownBy w' c.v.ownBlock ∧
      (c'.v.ownBlock = c.v.ownBlock ∨ c'.v.ownBlock = some w.heap.size) := by
  obtain ⟨i0, hi, hz0, hz1, hz2⟩ := info_parts info28
  have hcell : ∀ (j : Nat) (u : Value), (cellsOf [p])[j]? = some u → w.cell? ((⟨b, 0, none⟩ : Addr).add j) = some u := by
    intro j u hu
    match j, hu with
    | 0, hu => simp [cellsOf] at hu; subst hu; exact h0.1
    | 1, hu => simp [cellsOf] at hu; subst hu; exact h0.2
    | j + 2, hu => simp [cellsOf] at hu
  obtain ⟨v', w', g1, g2, g3, _, g5⟩ := run_append_own_at (P := Tryd.prog) w B 61 ty 35 i0 zero28 2 16 Tryd.underlying61 hi hz0 hz1 hz2 rfl (by decide) c.v c.l.length (cellsOf c.l) hown ⟨b, 0, none⟩ 1 1 (cellsOf [p]) (by rw [cellsOf_length]; simp) hcell (cellsOf_one [p])
      (by unfold maxLen; omega) (by omega) hbase
  rw [← cellsOf_append] at g2
  obtain ⟨c2, e1, e2, _, _⟩ := ok_of_owns g2 (by simp; omega)
  subst e1
  refine ⟨c2, w', g1, e2, ?_, g3, g5⟩
  rw [e2]
  simpa using g2
theorem wpList_append_at {ops : Array Oper} {rest : List Oper} {o : Oper} {a : Act} {Q : Exit → Act → World → Prop} {w : World} {s t : Tmp} {B : Nat} (hg : o.guard = none) (hop : o.op = Op.call { callee := Callee.builtin Builtin.append, args := #[.tmp s, .tmp t], argTypes := #[61, 61] }) (c : Cel)
    (hs : a.eval (.tmp s) = c.v) (hown : w.ownsRow B 35 2 c.v c.l.length (cellsOf c.l)) (p : Nm) {b : Nat} (hx : a.eval (.tmp t) = .slice (some ⟨b, 0, none⟩) 1 1) (h0 : Two w b 0 p) (h1 : c.l.length ≤ 50) (hbase : B ≤ w.heap.size)
    (hK : ∀ (c' : Cel) (w' : World), c'.l = c.l ++ [p] → w'.ownsRow B 35 2 c'.v c'.l.length (cellsOf c'.l) → w.grownBy w' c.v.ownBlock → (c'.v.ownBlock = c.v.ownBlock ∨ c'.v.ownBlock = some w.heap.size) → wpList Tryd.prog ops Q rest (a.put o.dst c'.v) w') : wpList Tryd.prog ops Q (o :: rest) a w := by
  refine wpList_plain hg fun K hK' => ?_
  obtain ⟨c', w', hr, h2, h3, h4, h5⟩ := run_append_at w B o.type c hown p b h0 h1 hbase
  unfold Oper.wp execOp
  simp only [hop, resolve, invoke, builtin, Sem.run_bind, Sem.run_pure, Result.andThen_ok, List.map_toArray, List.map_cons, List.map_nil, hs, hx, hr]
  exact hK' _ _ (hK c' w' h2 h3 h4 h5)

/-- The names that a law gives, in their order. -/
def nmAt (n : Nat) : Nm := ⟨1 + ((n % 3 : Nat) : Int), ((n / 3 : Nat) : Int)⟩
def ofIn : Nat → Nat → List (List Nm) × Nat → List (List Nm) × Nat
  | 0, _, s => s
  | j + 1, k, s => if (s.1.getD k []).length < 4 then ofIn j k (s.1.set k (s.1.getD k [] ++ [nmAt s.2]), s.2 + 1) else s
def ofAll (xs : List (Nat × Nat)) (s : List (List Nm) × Nat) : List (List Nm) × Nat := xs.foldl (fun s x => ofIn (x.2 % 5) (x.1 % 80) s) s
/-- The table that a law makes of bytes. -/
def ofM (xs : List (Nat × Nat)) : List (List Nm) := (ofAll (xs.take 40) (List.replicate 80 [], 0)).1

theorem nmAt_named {n : Nat} (h : n ≤ 200) : Named (nmAt n) := by
  unfold Named nmAt
  simp only
  omega
theorem nmAt_inj {m n : Nat} (h : nmAt m = nmAt n) : m = n := by
  unfold nmAt at h
  simp only [Nm.mk.injEq] at h
  omega
/-- What the making keeps. -/
structure Ofs (m : Nat) (s : List (List Nm) × Nat) : Prop where
  len : s.1.length = 80
  cnt : s.2 ≤ m
  st : ∀ l ∈ s.1, l.length ≤ 4 ∧ ∀ p ∈ l, ∃ i, i < s.2 ∧ p = nmAt i
  once : s.1.flatten.Nodup
theorem flat_set_perm (T : List (List Nm)) (k : Nat) (p : Nm) (hk : k < T.length) : (T.set k (T.getD k [] ++ [p])).flatten.Perm (p :: T.flatten) := by
  induction T generalizing k with
  | nil => simp at hk
  | cons a T ih =>
    cases k with
    | zero =>
      simp only [List.set_cons_zero, List.getD_cons_zero, List.flatten_cons, List.append_assoc]
      exact List.perm_middle
    | succ k =>
      simp only [List.set_cons_succ, List.getD_cons_succ, List.flatten_cons]
      exact ((ih k (by simpa using hk)).append_left a).trans List.perm_middle
theorem Ofs.step {m : Nat} {s : List (List Nm) × Nat} (h : Ofs m s) {k : Nat} (hk : k < 80) (hl : (s.1.getD k []).length < 4) : Ofs (m + 1) (s.1.set k (s.1.getD k [] ++ [nmAt s.2]), s.2 + 1) := by
  refine ⟨by simp [h.len], by have := h.cnt; simp only; omega, fun l hm => ?_, ?_⟩
  · have hg : ∀ l ∈ s.1, l.length ≤ 4 ∧ ∀ p ∈ l, ∃ i, i < s.2 + 1 ∧ p = nmAt i := fun l hl => ⟨(h.st l hl).1, fun p hp => by
      obtain ⟨i, hi, e⟩ := (h.st l hl).2 p hp
      exact ⟨i, by omega, e⟩⟩
    rcases List.mem_or_eq_of_mem_set hm with h1 | rfl
    · exact hg l h1
    · refine ⟨by rw [List.length_append]; simp only [List.length_cons, List.length_nil]; omega, fun p hp => ?_⟩
      rcases List.mem_append.1 hp with hp | hp
      · rcases getD_mem_or (l := s.1) k with h1 | h1
        · exact (hg _ h1).2 p hp
        · rw [h1] at hp; cases hp
      · exact ⟨s.2, by simp, by simpa using hp⟩
  · refine (flat_set_perm s.1 k (nmAt s.2) (by rw [h.len]; exact hk)).nodup_iff.2 (List.nodup_cons.2 ⟨fun hp => ?_, h.once⟩)
    obtain ⟨l, hl, hp⟩ := List.mem_flatten.1 hp
    obtain ⟨i, hi, e⟩ := (h.st l hl).2 _ hp
    have := nmAt_inj e
    omega
theorem Ofs.ofIn {j k : Nat} (hk : k < 80) : ∀ {m : Nat} {s : List (List Nm) × Nat}, Ofs m s → Ofs (m + j) (YtjjnhmbgffdenaaDoor.ofIn j k s) := by
  induction j with
  | zero => exact fun h => h
  | succ j ih =>
    intro m s h
    unfold YtjjnhmbgffdenaaDoor.ofIn
    split
    · rename_i hl
      have := ih (h.step hk hl)
      rwa [show m + 1 + j = m + (j + 1) by omega] at this
    · exact ⟨h.len, by have := h.cnt; omega, h.st, h.once⟩
theorem Ofs.ofAll : ∀ (xs : List (Nat × Nat)) {m : Nat} {s : List (List Nm) × Nat}, Ofs m s → Ofs (m + 4 * xs.length) (YtjjnhmbgffdenaaDoor.ofAll xs s)
  | [], _, _, h => h
  | x :: xs, m, s, h => by
    have h1 := h.ofIn (j := x.2 % 5) (k := x.1 % 80) (by omega)
    have h2 := Ofs.ofAll xs h1
    exact ⟨h2.len, by have := h2.cnt; simp only [List.length_cons]; unfold YtjjnhmbgffdenaaDoor.ofAll at *; simp only [List.foldl_cons]; omega, h2.st, h2.once⟩
theorem ofs_zero : Ofs 0 (List.replicate 80 [], 0) := ⟨by simp, by simp, fun l hl => by rw [List.eq_of_mem_replicate hl]; simp, by simp⟩
theorem ofM_ok (xs : List (Nat × Nat)) : TOk (ofM xs) := by
  have h := Ofs.ofAll (xs.take 40) ofs_zero
  have hc := h.cnt
  have hl : (xs.take 40).length ≤ 40 := by simp; omega
  exact ⟨h.len, fun l hl' => ⟨(h.st l hl').1, fun p hp => by
    obtain ⟨i, hi, rfl⟩ := (h.st l hl').2 p hp
    exact nmAt_named (by omega)⟩, h.once⟩
end Go.Proofs.YtjjnhmbgffdenaaDoor
namespace Go.Proofs.YtjjnhmbgffdenaaDoor
open Go.RowKit Go.Sort

/-- Pairs of bytes lie in memory. -/
def LieP (w : World) (ao : Option Addr) (xs : List (Nat × Nat)) : Prop :=
  xs = [] ∨ ∃ b o, ao = some ⟨b, o, none⟩ ∧ b < w.heap.size ∧ ∀ (i : Nat) (x : Nat × Nat), xs[i]? = some x → w.cell? ⟨b, o + i * 2, none⟩ = some (.int .u8 x.1) ∧ w.cell? ⟨b, o + i * 2 + 1, none⟩ = some (.int .u8 x.2)
theorem LieP.below {w w' : World} {ao : Option Addr} {xs : List (Nat × Nat)} (h : LieP w ao xs) (hb : Below w.heap.size w w') : LieP w' ao xs := by
  rcases h with h | ⟨b, o, h1, h2, h3⟩
  · exact .inl h
  · exact .inr ⟨b, o, h1, Nat.lt_of_lt_of_le h2 hb.size, fun i p hp => by rw [hb.cell (p := ⟨b, o + i * 2, none⟩) h2, hb.cell (p := ⟨b, o + i * 2 + 1, none⟩) h2]; exact h3 i p hp⟩
theorem LieP.at {w : World} {ao : Option Addr} {xs : List (Nat × Nat)} (h : LieP w ao xs) {i : Nat} (hi : i < xs.length) :
    ∃ b o, ao = some ⟨b, o, none⟩ ∧ b < w.heap.size ∧ w.cell? ⟨b, o + i * 2, none⟩ = some (.int .u8 xs[i].1) ∧ w.cell? ⟨b, o + i * 2 + 1, none⟩ = some (.int .u8 xs[i].2) := by
  rcases h with rfl | ⟨b, o, h1, h2, h3⟩
  · simp at hi
  · exact ⟨b, o, h1, h2, h3 i _ (List.getElem?_eq_getElem hi)⟩
/-- What a law's filling returns: a table. -/
def NewFul (m : List (List Nm)) (w : World) (e : Ending) (w' : World) : Prop := ∃ cs : List Cel, e = .returned (tabV cs) ∧ Hid (cs.length = 80 ∧ cs.map (fun c => c.l) = m ∧ ∀ c ∈ cs, c.ok w'.heap.size w') ∧ Below w.heap.size w w'

set_option maxRecDepth 100000 in
set_option maxHeartbeats 1000000 in
theorem of_any (ao : Option Addr) (xs : List (Nat × Nat)) (cap : Nat) (w : World) (h : LieP w ao xs) :
    Calls Tryd.prog 20 #[.slice ao xs.length cap] w (NewFul (ofM xs) w) := by
  have HL := Lib.hid h
  clear h
  obtain ⟨R, hR⟩ : ∃ R, R = ofAll (xs.take 40) (List.replicate 80 [], 0) := ⟨_, rfl⟩
  have HR : Hid (R.1 = ofM xs) := Lib.hid (by rw [hR]; rfl)
  have HR0 : Hid (ofAll ((xs.take 40).drop 0) (List.replicate 80 [], 0) = R) := Lib.hid (by rw [hR]; rfl)
  clear hR
  have hz := zero31
  obtain ⟨N, hN⟩ : ∃ N, N = xs.length := ⟨_, rfl⟩
  rw [← hN]
  have HN := Lib.hid hN
  clear hN
  go_enter Tryd.func20, Tryd.ntmps20
  go_wp2_with fail
  obtain ⟨W0, hW0⟩ : ∃ W0, (w.alloc (.cells zA 65)).alloc (.cells zA 65) = W0 := ⟨_, rfl⟩
  have hB0 : Below w.heap.size w W0 := by rw [← hW0]; exact below2 _ _ _
  have hO0 : Ow (w.heap.size + 1) W0 z80 := by
    have t := tab_new (w.alloc (.cells zA 65)) 65
    rw [hW0] at t
    simp only [World.size_alloc] at t
    refine ⟨t, fun i c hc => ?_, fun i j c c' hij hc hc' => .inl ?_⟩
    · obtain rfl : c = Cel.nil := List.eq_of_mem_replicate (List.mem_of_getElem? hc)
      exact ⟨by simp [cellsOf, Cel.nil], .inl ⟨rfl, rfl⟩⟩
    · obtain rfl : c = Cel.nil := List.eq_of_mem_replicate (List.mem_of_getElem? hc)
      rfl
  have tR : Tab W0 w.heap.size 65 z80 := by
    rw [← hW0]; exact (tab_new w 65).alloc _
  have HO0 := Lib.hid hO0
  rw [hW0]
  clear hW0 hz hO0
  go_loopg [4, 5] (N + 1) (fun g n i wr => ∃ (k m : Nat) (cs : List Cel), g = N + 1 - k ∧ k ≤ N ∧ k ≤ 40 ∧ m ≤ 4 * k ∧ i = .int .i64 k ∧ n = .int .i64 m ∧ Hid (Ow (w.heap.size + 1) wr cs ∧ ofAll ((xs.take 40).drop k) (cs.map (fun c => c.l), m) = R ∧ Ofs (4 * k) (cs.map (fun c => c.l), m)) ∧ Tab wr w.heap.size 65 z80 ∧ Below w.heap.size w wr)
  case atStart => exact ⟨0, 0, z80, by omega, by omega, by omega, by omega, rfl, rfl, Lib.hid ⟨HO0.out, by have := HR0.out; simpa [z80, Cel.nil] using this, by have := ofs_zero; simpa [z80, Cel.nil] using this⟩, tR, hB0⟩
  case round =>
    obtain ⟨k, m, cs, hg, hkN, hk40, hm, rfl, rfl, hcs, tR1, hB1⟩ := hrel
    have HM := Lib.hid hg
    clear hg
    have hBs := hB1.size
    have lT := hcs.out.1.tab.lt
    by_cases hgo : k < N ∧ k < 40
    · obtain ⟨hk1, hk2⟩ := hgo
      have hk1' : k < xs.length := by rw [← HN.out]; exact hk1
      obtain ⟨b, o, he, hbb, c0, c1⟩ := (HL.out.below hB1).at hk1'
      obtain rfl : ao = some ⟨b, o, none⟩ := he
      obtain ⟨x1, hx1⟩ : ∃ x1 : Nat, x1 = xs[k].1 := ⟨_, rfl⟩
      obtain ⟨x2, hx2⟩ : ∃ x2 : Nat, x2 = xs[k].2 := ⟨_, rfl⟩
      rw [← hx1] at c0
      rw [← hx2] at c1
      obtain ⟨q, hq⟩ : ∃ q : Nat, q = x1 % 80 := ⟨_, rfl⟩
      obtain ⟨J, hJ⟩ : ∃ J : Nat, J = x2 % 5 := ⟨_, rfl⟩
      have hr1 : Int.tmod (x1 : Int) 80 = (q : Int) := by rw [hq]; rfl
      have hr2 : Int.tmod (x2 : Int) 5 = (J : Int) := by rw [hJ]; rfl
      have hJ4 : J ≤ 4 := by omega
      have hq80 : q < 80 := by omega
      have HST : Hid (∀ s, ofAll ((xs.take 40).drop k) s = ofAll ((xs.take 40).drop (k + 1)) (ofIn J q s)) := Lib.hid fun s => by
        have h1 : (xs.take 40).drop k = xs[k] :: (xs.take 40).drop (k + 1) := by
          rw [List.drop_eq_getElem_cons (by rw [List.length_take]; omega), List.getElem_take]
        rw [h1, hJ, hq, hx1, hx2]; rfl
      have g2 : (k : Int) < 40 := by omega
      have HX2 := Lib.hid hx2
      clear hx1 hx2 hq hJ
      go_wp2_with fail
      clear c0 c1 hr1
      obtain ⟨G, hG⟩ : ∃ G, G = gk := ⟨_, rfl⟩
      have HGK := Lib.hid hG
      clear hG
      go_loopg [4, 7] (J + 1) (fun g n i w2 => ∃ (j m2 : Nat) (cs2 : List Cel), g = J + 1 - j ∧ j ≤ J ∧ m2 ≤ 4 * k + j ∧ i = .int .i64 j ∧ n = .int .i64 m2 ∧ Hid (Ow (w.heap.size + 1) w2 cs2 ∧ ofAll ((xs.take 40).drop (k + 1)) (ofIn (J - j) q (cs2.map (fun c => c.l), m2)) = R ∧ Ofs (4 * k + j) (cs2.map (fun c => c.l), m2)) ∧ Tab w2 w.heap.size 65 z80 ∧ Below w.heap.size w w2)
      case atStart => exact ⟨0, m, cs, by omega, by omega, by omega, rfl, rfl, Lib.hid ⟨hcs.out.1, by rw [Nat.sub_zero, ← HST.out]; exact hcs.out.2.1, hcs.out.2.2⟩, tR1, hB1⟩
      case round =>
        clear hcs tR1 hB1 hBs lT
        obtain ⟨j, m2, cs2, hg2, hj, hm2, rfl, rfl, hcs, tR1, hB1⟩ := hrel
        have HM2 := Lib.hid hg2
        clear hg2
        have hBs := hB1.size
        have HT := hcs.out.1.tab
        have lT := HT.lt
        obtain ⟨b, o, he, hbb, c0, c1⟩ := (HL.out.below hB1).at hk1'
        cases he
        obtain ⟨c, hc⟩ : ∃ c : Cel, cs2[q]? = some c := ⟨_, List.getElem?_eq_getElem (by rw [HT.2]; exact hq80)⟩
        have cT : wr.cell? ⟨w.heap.size + 1, q, none⟩ = some (.slice c.ao c.l.length c.cap) := by
          have := HT.cell hq80
          rw [(List.getElem?_eq_some_iff.1 hc).2] at this
          exact this
        have hD : (cs2.map (fun c => c.l)).getD q [] = c.l := by
          simp [List.getD, List.getElem?_map, hc]
        have hOw := hcs.out.1.own q c hc
        have h4c := (hcs.out.2.2.st c.l (List.mem_map.2 ⟨c, List.mem_of_getElem? hc, rfl⟩)).1
        rw [← HX2.out] at c1
        have hwJ : IntKind.i64.wrap (J : Int) = (J : Int) := IntWalk.i64_in _ (by omega)
        have fT := HT.frozen
        by_cases hgo2 : j < J ∧ c.l.length < 4
        · obtain ⟨hj1, hj2⟩ := hgo2
          have gj1 : (j : Int) < (J : Int) := by omega
          have gj2 : (c.l.length : Int) < 4 := by omega
          obtain ⟨r3, hr3⟩ : ∃ r : Nat, r = m2 % 3 := ⟨_, rfl⟩
          obtain ⟨d3, hd3⟩ : ∃ d : Nat, d = m2 / 3 := ⟨_, rfl⟩
          have e1 : Int.tmod (m2 : Int) 3 = (r3 : Int) := by rw [hr3]; rfl
          have e2 : Int.tdiv (m2 : Int) 3 = (d3 : Int) := by rw [hd3]; rfl
          have e3 : IntKind.u8.wrap (r3 : Int) = (r3 : Int) := IntWalk.u8_in _ (by omega)
          have e4 : IntKind.u8.wrap (1 + (r3 : Int)) = 1 + (r3 : Int) := IntWalk.u8_in _ (by omega)
          have e5 : IntKind.i64.wrap (d3 : Int) = (d3 : Int) := IntWalk.i64_in _ (by omega)
          have HNM : Hid (nmAt m2 = ⟨1 + (r3 : Int), (d3 : Int)⟩) := Lib.hid (by rw [hr3, hd3]; rfl)
          clear hr3 hd3
          go_wp2_with (refine wpList_append_at rfl rfl c rfl (hOw.alloc _) ⟨1 + (r3 : Int), (d3 : Int)⟩ rfl ⟨(Boxed2.new wr 35 _ _).cell0, (Boxed2.new wr 35 _ _).cell1⟩ (by omega) (by simp; omega) ?_; intro c' w' hl' hown' hgr' hat')
          obtain ⟨ca', cl', cc'⟩ := c'
          have hHT : Tab w' (w.heap.size + 1) 65 cs2 := (HT.alloc _).kept hgr' (fun e => by have := (hOw.lt _ e.symm); omega)
          have cT' : w'.cell? ⟨w.heap.size + 1, q, none⟩ = some (.slice c.ao c.l.length c.cap) := by
            have := hHT.cell hq80
            rw [(List.getElem?_eq_some_iff.1 hc).2] at this
            exact this
          have fT' := hHT.frozen
          have HPUT := Lib.hid ((hcs.out.1.alloc _).put hc hgr' hown' hat')
          have HBW : Hid (Below w.heap.size w w') := Lib.hid ((hB1.alloc hBs _).grown hgr' (by simp; omega) (fun r e => by have := hOw.lt r e; omega))
          have HTR : Hid (Tab w' w.heap.size 65 z80) := Lib.hid ((tR1.alloc _).kept hgr' (fun e => by have := (hOw.lt _ e.symm); omega))
          have HCL := Lib.hid hl'
          clear hgr' hown' hat' hl' cT
          simp only [Cel.v] at HPUT ⊢
          go_wp2_with fail
          go_roundg (gk - 1)
          case measure => have := HM2.out; omega
          case rel =>
            refine ⟨j + 1, m2 + 1, cs2.set q ⟨ca', cl', cc'⟩, by have := HM2.out; omega, by omega, by omega, by go_num, by go_num, Lib.hid ⟨HPUT.out, ?_, ?_⟩, HTR.out.other (by omega), HBW.out.setCell (p := ⟨w.heap.size + 1, q, none⟩) (by simp) _⟩
            · have h1 := hcs.out.2.1
              have h2 : J - j = (J - (j + 1)) + 1 := by omega
              rw [h2] at h1
              unfold ofIn at h1
              simp only [hD] at h1
              rw [if_pos hj2, HNM.out, ← HCL.out] at h1
              rw [List.map_set]
              exact h1
            · have h1 := hcs.out.2.2.step hq80 (by simp only [hD]; exact hj2)
              simp only [hD] at h1
              rw [HNM.out, ← HCL.out] at h1
              rw [List.map_set]
              exact h1
        · have hR2 : Hid (ofAll ((xs.take 40).drop (k + 1)) (cs2.map (fun c => c.l), m2) = R) := Lib.hid (by
            have h1 := hcs.out.2.1
            by_cases hj1 : j < J
            · have h2 : J - j = (J - (j + 1)) + 1 := by omega
              rw [h2] at h1
              unfold ofIn at h1
              simp only [hD] at h1
              rwa [if_neg (by omega)] at h1
            · have h2 : J - j = 0 := by omega
              rw [h2] at h1
              exact h1)
          have hofs : Ofs (4 * (k + 1)) (cs2.map (fun c => c.l), m2) := ⟨hcs.out.2.2.len, by have := hcs.out.2.2.cnt; simp only at this ⊢; omega, hcs.out.2.2.st, hcs.out.2.2.once⟩
          have HOFS := Lib.hid hofs
          clear hofs
          by_cases hj1 : j < J
          · have gj1 : (j : Int) < (J : Int) := by omega
            have gj2 : ¬ ((c.l.length : Int) < 4) := by omega
            go_wp2_with fail
            go_roundg (G - 1)
            case measure => have := HGK.out; have := HM.out; omega
            case rel => exact ⟨k + 1, m2, cs2, by have := HGK.out; have := HM.out; omega, by omega, by omega, by omega, by go_num, rfl, Lib.hid ⟨hcs.out.1, hR2.out, HOFS.out⟩, tR1, hB1⟩
          · have gj1 : ¬ ((j : Int) < (J : Int)) := by omega
            go_wp2_with fail
            go_roundg (G - 1)
            case measure => have := HGK.out; have := HM.out; omega
            case rel => exact ⟨k + 1, m2, cs2, by have := HGK.out; have := HM.out; omega, by omega, by omega, by omega, by go_num, rfl, Lib.hid ⟨hcs.out.1, hR2.out, HOFS.out⟩, tR1, hB1⟩
    · have hK : Hid ((xs.take 40).drop k = []) := Lib.hid (List.drop_eq_nil_of_le (by rw [List.length_take, ← HN.out]; omega))
      have HT := hcs.out.1.tab
      have HE : Hid (cs.map (fun c => c.l) = ofM xs) := Lib.hid (by
        have h1 := hcs.out.2.1
        rw [hK.out] at h1
        rw [← HR.out, ← h1]; rfl)
      have HC : Hid (∀ c ∈ cs, c.ok wr.heap.size wr) := Lib.hid (hcs.out.1.ok fun c hc => (hcs.out.2.2.st c.l (List.mem_map.2 ⟨c, hc, rfl⟩)).1)
      clear hK
      by_cases hk1 : k < N
      · have g1 : (k : Int) < (N : Int) := by omega
        have g2 : ¬ ((k : Int) < 40) := by omega
        clear hgo hk1 hkN hk40
        go_wp2_with (first
          | (refine wpList_load_tab rfl (.inl rfl) _ rfl rfl HT ?_)
          | (refine wpList_store_tab rfl rfl (.inl rfl) _ _ rfl rfl rfl tR1 HT.2 ?_; intro w1 hs))
        exact bodyPost_ret (v := tabV cs) (results_tab (.inl rfl) rfl _ rfl hs.tab) rfl ⟨cs, rfl, Lib.hid ⟨HT.2, HE.out, fun c hc => (HC.out c hc).grown_tab tR1 hs.grown⟩, hB1.grown hs.grown hBs (fun r e => by cases e; exact Nat.le_refl _)⟩
      · have g1 : ¬ ((k : Int) < (N : Int)) := by omega
        clear hgo hk1 hkN hk40
        go_wp2_with (first
          | (refine wpList_load_tab rfl (.inl rfl) _ rfl rfl HT ?_)
          | (refine wpList_store_tab rfl rfl (.inl rfl) _ _ rfl rfl rfl tR1 HT.2 ?_; intro w1 hs))
        exact bodyPost_ret (v := tabV cs) (results_tab (.inl rfl) rfl _ rfl hs.tab) rfl ⟨cs, rfl, Lib.hid ⟨HT.2, HE.out, fun c hc => (HC.out c hc).grown_tab tR1 hs.grown⟩, hB1.grown hs.grown hBs (fun r e => by cases e; exact Nat.le_refl _)⟩
end Go.Proofs.YtjjnhmbgffdenaaDoor
namespace Go.Proofs.YtjjnhmbgffdenaaDoor
open Go.RowKit Go.Sort

/-- A block that holds slices: no name lies in it. -/
def SlBlk (w : World) (X : Nat) : Prop := ∃ arr t, w.heap[X]? = some (.cells arr t (0, 0)) ∧ ∀ (i : Nat) (k : IntKind) (z : Int), arr[i]? ≠ some (.int k z)
theorem Cel.ok.set_sl {n : Nat} {w : World} {c : Cel} (h : c.ok n w) {X : Nat} (hX : SlBlk w X) (k : Nat) (x : Value) : c.ok n (w.setCell ⟨X, k, none⟩ x) := by
  obtain ⟨arr, t, hX, hno⟩ := hX
  refine ⟨h.1, h.2.imp id ?_⟩
  rintro ⟨b, o, e, hl, hc⟩
  refine ⟨b, o, e, hl, fun i p hp => ?_⟩
  have h2 := hc i p hp
  have hne : b ≠ X := by
    rintro rfl
    have h3 := h2.1
    simp only [World.cell?, hX, Option.bind_some] at h3
    exact hno _ _ _ h3
  exact ⟨by rw [World.cell?_setCell_other _ _ _ _ (by simp [hne])]; exact h2.1, by rw [World.cell?_setCell_other _ _ _ _ (by simp [hne])]; exact h2.2⟩

/-- A row of stacks that the call has made. -/
def Row (w : World) (g : Nat) (ds : List Cel) : Prop := w.heap[g]? = some (.cells (ds.map Cel.v).toArray 61 (0, 0))
theorem sl_map (ds : List Cel) (i : Nat) (k : IntKind) (z : Int) : (ds.map Cel.v).toArray[i]? ≠ some (.int k z) := by
  simp only [List.getElem?_toArray, List.getElem?_map]
  cases ds[i]? with
  | none => simp
  | some c => simp [Cel.v]
theorem Row.sl {w : World} {g : Nat} {ds : List Cel} (h : Row w g ds) : SlBlk w g := ⟨_, _, h, sl_map ds⟩
theorem Tab.sl {w : World} {B t : Nat} {cs : List Cel} (h : Tab w B t cs) : SlBlk w B := ⟨_, _, h.1, sl_map cs⟩
theorem box_sl {w : World} {B : Nat} {a a' : Option Addr} {n n' c c' : Nat} (h : Boxed2 w B 26 (.slice a n c) (.slice a' n' c')) : SlBlk w B := by
  refine ⟨_, _, h, fun i k z => ?_⟩
  match i with
  | 0 => simp
  | 1 => simp
  | i + 2 => simp
theorem Row.lt {w : World} {g : Nat} {ds : List Cel} (h : Row w g ds) : g < w.heap.size := (Array.getElem?_eq_some_iff.1 (show w.heap[g]? = _ from h)).1
theorem Row.cell {w : World} {g : Nat} {ds : List Cel} (h : Row w g ds) {k : Nat} (hk : k < ds.length) : w.cell? ⟨g, k, none⟩ = some ds[k].v := by
  simp [World.cell?, show w.heap[g]? = _ from h, hk]
theorem Row.frozen {w : World} {g : Nat} {ds : List Cel} (h : Row w g ds) (k : Nat) : w.frozen? ⟨g, k, none⟩ = false := by simp [World.frozen?, show w.heap[g]? = _ from h]
theorem Row.below {w w' : World} {g N : Nat} {ds : List Cel} (h : Row w g ds) (hb : Below N w w') (hg : g < N) : Row w' g ds := (hb.block g hg).trans h
theorem Row.set {w : World} {g : Nat} {ds : List Cel} (h : Row w g ds) (k : Nat) (c : Cel) : Row (w.setCell ⟨g, k, none⟩ c.v) g (ds.set k c) :=
  (setCell_block w g k c.v h).trans (by simp [List.map_set])
theorem heap_set_other (w : World) {g X k : Nat} {x : Value} (hne : g ≠ X) (hg : g < w.heap.size) : (w.setCell ⟨X, k, none⟩ x).heap[g]? = w.heap[g]? :=
  (grownBy_setCellAt w X k x).block g hg (by simp [hne])
theorem Row.other {w : World} {g X k : Nat} {x : Value} {ds : List Cel} (h : Row w g ds) (hne : g ≠ X) : Row (w.setCell ⟨X, k, none⟩ x) g ds := (heap_set_other w hne h.lt).trans h
theorem row_new (w : World) (n : Nat) : Row (w.alloc (.cells (madeCells #[.slice none 0 0] n) 61)) w.heap.size (List.replicate n Cel.nil) := by
  refine (heap_alloc_new w _).trans ?_
  have : madeCells #[.slice none 0 0] n = ((List.replicate n Cel.nil).map Cel.v).toArray := by
    apply Array.toList_inj.1
    rw [toList_madeCells_one, List.map_replicate]; rfl
  rw [this]

/-- A bed that the call fills: no row, or a row of its own. -/
def BedAt (N : Nat) (w : World) (a : Option Addr) (ds : List Cel) : Prop := (a = none ∧ ds = []) ∨ ∃ g, a = some ⟨g, 0, none⟩ ∧ N ≤ g ∧ Row w g ds
structure Mk (N : Nat) (w : World) (cs : List Cel) (fa ba : Option Addr) (fs bs : List Cel) : Prop where
  tab : Tab w N 65 cs
  res : Boxed2 w (N + 1) 26 (.slice none 0 0) (.slice none 0 0)
  box : Boxed2 w (N + 1 + 1) 26 (.slice fa fs.length fs.length) (.slice ba bs.length bs.length)
  f : BedAt (N + 3) w fa fs
  b : BedAt (N + 3) w ba bs
  ne : ∀ g g', fa = some ⟨g, 0, none⟩ → ba = some ⟨g', 0, none⟩ → g ≠ g'
  ok : ∀ c ∈ cs, c.ok w.heap.size w
  okf : ∀ c ∈ fs, c.ok w.heap.size w
  okb : ∀ c ∈ bs, c.ok w.heap.size w
  bel : N + 3 ≤ w.heap.size
theorem BedAt.below {N M : Nat} {w w' : World} {a : Option Addr} {ds : List Cel} (h : BedAt N w a ds) (hb : Below M w w') (hm : ∀ g, a = some ⟨g, 0, none⟩ → g < M) : BedAt N w' a ds := by
  rcases h with h | ⟨g, h1, h2, h3⟩
  · exact .inl h
  · exact .inr ⟨g, h1, h2, h3.below hb (hm g h1)⟩
theorem BedAt.lt {N : Nat} {w : World} {a : Option Addr} {ds : List Cel} (h : BedAt N w a ds) : ∀ g, a = some ⟨g, 0, none⟩ → N ≤ g ∧ g < w.heap.size := by
  rintro g rfl
  rcases h with ⟨h, _⟩ | ⟨g', h1, h2, h3⟩
  · cases h
  · cases h1; exact ⟨h2, h3.lt⟩
theorem BedAt.other {N : Nat} {w : World} {a : Option Addr} {ds : List Cel} (h : BedAt N w a ds) {X k : Nat} {x : Value} (hX : ∀ g, a = some ⟨g, 0, none⟩ → g ≠ X) : BedAt N (w.setCell ⟨X, k, none⟩ x) a ds := by
  rcases h with h | ⟨g, h1, h2, h3⟩
  · exact .inl h
  · exact .inr ⟨g, h1, h2, h3.other (hX g h1)⟩
theorem Mk.below {N : Nat} {w w' : World} {cs : List Cel} {fa ba : Option Addr} {fs bs : List Cel} (h : Mk N w cs fa ba fs bs) (hb : Below w.heap.size w w') : Mk N w' cs fa ba fs bs :=
  ⟨h.tab.below hb h.tab.lt, h.res.below hb h.res.lt, h.box.below hb h.box.lt, h.f.below hb fun g e => (h.f.lt g e).2, h.b.below hb fun g e => (h.b.lt g e).2, h.ne, fun c hc => ((h.ok c hc).below hb).mono hb.size, fun c hc => ((h.okf c hc).below hb).mono hb.size, fun c hc => ((h.okb c hc).below hb).mono hb.size, Nat.le_trans h.bel hb.size⟩
theorem Mk.set0 {N : Nat} {w : World} {cs : List Cel} {fa ba : Option Addr} {fs bs : List Cel} (h : Mk N w cs fa ba fs bs) {a' : Option Addr} {ds : List Cel} (hbed : BedAt (N + 3) w a' ds) (hne : ∀ g g', a' = some ⟨g, 0, none⟩ → ba = some ⟨g', 0, none⟩ → g ≠ g') (hok : ∀ c ∈ ds, c.ok w.heap.size w) :
    Mk N (w.setCell ⟨N + 1 + 1, 0, none⟩ (.slice a' ds.length ds.length)) cs a' ba ds bs := by
  have hs : SlBlk w (N + 1 + 1) := box_sl h.box
  have z : (w.setCell ⟨N + 1 + 1, 0, none⟩ (.slice a' ds.length ds.length)).heap.size = w.heap.size := by simp
  refine ⟨h.tab.other (by omega), (heap_set_other w (by omega) h.res.lt).trans h.res, h.box.set0 _, (hbed).other (fun g e => by have := (hbed).lt g e; omega), (h.b).other (fun g e => by have := (h.b).lt g e; omega), hne, fun c hc => ?_, fun c hc => ?_, fun c hc => ?_, by rw [z]; exact h.bel⟩
  · rw [z]; exact (h.ok c hc).set_sl hs _ _
  · rw [z]; exact (hok c hc).set_sl hs _ _
  · rw [z]; exact (h.okb c hc).set_sl hs _ _
theorem Mk.new0 {N : Nat} {w : World} {cs : List Cel} {fa ba : Option Addr} {bs : List Cel} (h : Mk N w cs fa ba [] bs) (n : Nat) :
    Mk N ((w.alloc (.cells (madeCells #[.slice none 0 0] n) 61)).setCell ⟨N + 1 + 1, 0, none⟩ (.slice (some ⟨w.heap.size, 0, none⟩) n n)) cs (some ⟨w.heap.size, 0, none⟩) ba (List.replicate n Cel.nil) bs := by
  have h1 := h.below (below1 w (.cells (madeCells #[.slice none 0 0] n) 61))
  have h2 := h1.set0 (a' := some ⟨w.heap.size, 0, none⟩) (ds := List.replicate n Cel.nil) (.inr ⟨_, rfl, h.bel, row_new w n⟩) (fun g g' e1 e2 => by cases e1; have := (h.b).lt g' e2; omega) (fun c hc => by rw [List.eq_of_mem_replicate hc]; exact Cel.nil_ok _ _)
  rw [List.length_replicate] at h2
  exact h2
theorem Mk.row0 {N : Nat} {w : World} {cs : List Cel} {ba : Option Addr} {fs bs : List Cel} {g : Nat} (h : Mk N w cs (some ⟨g, 0, none⟩) ba fs bs) (i : Nat) {c' : Cel} (hc' : c'.ok w.heap.size w) :
    Mk N (w.setCell ⟨g, i, none⟩ c'.v) cs (some ⟨g, 0, none⟩) ba (fs.set i c') bs := by
  have hr : N + 3 ≤ g ∧ Row w g fs := by
    rcases h.f with ⟨h1, _⟩ | ⟨g', h1, h2, h3⟩
    · cases h1
    · cases h1; exact ⟨h2, h3⟩
  have hs := hr.2.sl
  have z : (w.setCell ⟨g, i, none⟩ c'.v).heap.size = w.heap.size := by simp
  have hb : Boxed2 (w.setCell ⟨g, i, none⟩ c'.v) (N + 1 + 1) 26 (.slice (some ⟨g, 0, none⟩) fs.length fs.length) (.slice ba bs.length bs.length) := (heap_set_other w (by omega) h.box.lt).trans h.box
  refine ⟨h.tab.other (by omega), (heap_set_other w (by omega) h.res.lt).trans h.res, by rw [List.length_set]; exact hb, .inr ⟨g, rfl, hr.1, hr.2.set i c'⟩, h.b.other (fun g2 e => (h.ne g g2 rfl e).symm), h.ne, fun c hc => ?_, fun c hc => ?_, fun c hc => ?_, by rw [z]; exact h.bel⟩
  · rw [z]; exact (h.ok c hc).set_sl hs _ _
  · rw [z]; rcases List.mem_or_eq_of_mem_set hc with hc | rfl
    · exact (h.okf c hc).set_sl hs _ _
    · exact hc'.set_sl hs _ _
  · rw [z]; exact (h.okb c hc).set_sl hs _ _
theorem Mk.set1 {N : Nat} {w : World} {cs : List Cel} {fa ba : Option Addr} {fs bs : List Cel} (h : Mk N w cs fa ba fs bs) {a' : Option Addr} {ds : List Cel} (hbed : BedAt (N + 3) w a' ds) (hne : ∀ g g', a' = some ⟨g, 0, none⟩ → fa = some ⟨g', 0, none⟩ → g ≠ g') (hok : ∀ c ∈ ds, c.ok w.heap.size w) :
    Mk N (w.setCell ⟨N + 1 + 1, 1, none⟩ (.slice a' ds.length ds.length)) cs fa a' fs ds := by
  have hs : SlBlk w (N + 1 + 1) := box_sl h.box
  have z : (w.setCell ⟨N + 1 + 1, 1, none⟩ (.slice a' ds.length ds.length)).heap.size = w.heap.size := by simp
  refine ⟨h.tab.other (by omega), (heap_set_other w (by omega) h.res.lt).trans h.res, h.box.set1 _, (h.f).other (fun g e => by have := (h.f).lt g e; omega), (hbed).other (fun g e => by have := (hbed).lt g e; omega), fun g g' e1 e2 => (hne g' g e2 e1).symm, fun c hc => ?_, fun c hc => ?_, fun c hc => ?_, by rw [z]; exact h.bel⟩
  · rw [z]; exact (h.ok c hc).set_sl hs _ _
  · rw [z]; exact (h.okf c hc).set_sl hs _ _
  · rw [z]; exact (hok c hc).set_sl hs _ _
theorem Mk.new1 {N : Nat} {w : World} {cs : List Cel} {fa ba : Option Addr} {fs : List Cel} (h : Mk N w cs fa ba fs []) (n : Nat) :
    Mk N ((w.alloc (.cells (madeCells #[.slice none 0 0] n) 61)).setCell ⟨N + 1 + 1, 1, none⟩ (.slice (some ⟨w.heap.size, 0, none⟩) n n)) cs fa (some ⟨w.heap.size, 0, none⟩) fs (List.replicate n Cel.nil) := by
  have h1 := h.below (below1 w (.cells (madeCells #[.slice none 0 0] n) 61))
  have h2 := h1.set1 (a' := some ⟨w.heap.size, 0, none⟩) (ds := List.replicate n Cel.nil) (.inr ⟨_, rfl, h.bel, row_new w n⟩) (fun g g' e1 e2 => by cases e1; have := (h.f).lt g' e2; omega) (fun c hc => by rw [List.eq_of_mem_replicate hc]; exact Cel.nil_ok _ _)
  rw [List.length_replicate] at h2
  exact h2
theorem Mk.row1 {N : Nat} {w : World} {cs : List Cel} {fa : Option Addr} {fs bs : List Cel} {g : Nat} (h : Mk N w cs fa (some ⟨g, 0, none⟩) fs bs) (i : Nat) {c' : Cel} (hc' : c'.ok w.heap.size w) :
    Mk N (w.setCell ⟨g, i, none⟩ c'.v) cs fa (some ⟨g, 0, none⟩) fs (bs.set i c') := by
  have hr : N + 3 ≤ g ∧ Row w g bs := by
    rcases h.b with ⟨h1, _⟩ | ⟨g', h1, h2, h3⟩
    · cases h1
    · cases h1; exact ⟨h2, h3⟩
  have hs := hr.2.sl
  have z : (w.setCell ⟨g, i, none⟩ c'.v).heap.size = w.heap.size := by simp
  have hb : Boxed2 (w.setCell ⟨g, i, none⟩ c'.v) (N + 1 + 1) 26 (.slice fa fs.length fs.length) (.slice (some ⟨g, 0, none⟩) bs.length bs.length) := (heap_set_other w (by omega) h.box.lt).trans h.box
  refine ⟨h.tab.other (by omega), (heap_set_other w (by omega) h.res.lt).trans h.res, by rw [List.length_set]; exact hb, h.f.other (fun g2 e => h.ne g2 g e rfl), .inr ⟨g, rfl, hr.1, hr.2.set i c'⟩, h.ne, fun c hc => ?_, fun c hc => ?_, fun c hc => ?_, by rw [z]; exact h.bel⟩
  · rw [z]; exact (h.ok c hc).set_sl hs _ _
  · rw [z]; exact (h.okf c hc).set_sl hs _ _
  · rw [z]; rcases List.mem_or_eq_of_mem_set hc with hc | rfl
    · exact (h.okb c hc).set_sl hs _ _
    · exact hc'.set_sl hs _ _

/-- 'append' of a stack to an empty row without room. -/
theorem run_append_zero (w : World) (ty g : Nat) (hg : w.heap[g]? = some (.cells #[] 35 (0, 0))) (c : Cel) (hl : c.ok w.heap.size w) :
    ∃ (c' : Cel) (w' : World), (Builtin.append_ #[61, 61] ty #[.slice (some ⟨g, 0, none⟩) 0 0, c.v]).run Tryd.prog w = .ok c'.v w' ∧ c'.l = c.l ∧ c'.ok w'.heap.size w' ∧ Below w.heap.size w w' := by
  obtain ⟨i0, hi, hz0, hz1, hz2⟩ := info_parts info28
  obtain ⟨ao, l, cap⟩ := c
  have hlen : l.length ≤ 100 := hl.1
  have hown : w.ownsRow 0 35 2 (.slice (some ⟨g, 0, none⟩) 0 0) 0 (cellsOf []) := ⟨by simp [cellsOf], .inr ⟨g, 0, #[], rfl, Nat.zero_le _, hg, Nat.le_refl _, by unfold maxLen; omega, by simp, by simp [cellsOf]⟩⟩
  by_cases hz : l = []
  · subst hz
    refine ⟨⟨some ⟨g, 0, none⟩, [], 0⟩, w, ?_, rfl, ⟨by simp, .inl rfl⟩, Below.refl _ _⟩
    cases ao with
    | none => exact run_append_nothing w 0 61 ty 35 i0 2 Tryd.underlying61 hi (.slice (some ⟨g, 0, none⟩) 0 0) 0 _ hown cap
    | some ad => simp [Builtin.append_, run_underlying Tryd.underlying61, sizeOf, typeInfo, hi, Builtin.lenOf, Builtin.firstCells, Cel.v, loadCells, loadCellsFrom, storeCells]
  · cases ao with
    | none =>
      rcases hl.2 with h | ⟨b, o, h, _⟩
      · exact absurd h hz
      · cases h
    | some ad =>
      have hpos : 0 < l.length := List.length_pos_iff.2 hz
      obtain ⟨v', w', g1, g2, -⟩ := run_append_own (P := Tryd.prog) w 0 61 ty 35 i0 zero28 2 16 Tryd.underlying61 hi hz0 hz1 hz2 rfl (by decide) _ 0 (cellsOf []) hown ad l.length cap (cellsOf l) (by rw [cellsOf_length]) (hl.cells ad rfl) (cellsOf_one l)
        (by unfold maxLen; omega) (by omega) (Nat.zero_le _)
      have hr := run_append_grow (P := Tryd.prog) w 61 ty 35 i0 zero28 Tryd.underlying61 hi hz0 ⟨g, 0, none⟩ 0 0 [] (by simp) (by simp) ad l.length cap (cellsOf l) (by rw [cellsOf_length, hz1]) (hl.cells ad rfl) (by omega) (by omega) (growslice_fits (by omega) (by rw [hz2]; omega))
      have e := g1.symm.trans hr
      injection e with e1 e2
      rw [← cellsOf_append] at g2
      obtain ⟨c2, hv, h2, _, h4⟩ := ok_of_owns g2 (by simpa using hlen)
      refine ⟨c2, w', by rw [← hv]; exact g1, by rw [h2]; simp, h4, ?_⟩
      rw [e2]
      exact ((Below.refl _ w).drew).alloc (Nat.le_refl _) _

theorem reads_fill {cs : List Cel} {fa ba : Option Addr} {fs bs : List Cel} (hl : cs.length = 80) (hf : fs.length ≤ 40) (hb : bs.length ≤ 40)
    (ef : ∀ j, j < fs.length → (fs.getD j Cel.nil).l = (cs.getD j Cel.nil).l) (eb : ∀ j, j < bs.length → (bs.getD j Cel.nil).l = (cs.getD (40 + j) Cel.nil).l)
    (zf : ∀ j, fs.length ≤ j → j < 40 → (cs.getD j Cel.nil).l = []) (zb : ∀ j, bs.length ≤ j → j < 40 → (cs.getD (40 + j) Cel.nil).l = [])
    (lf : 0 < fs.length → (cs.getD (fs.length - 1) Cel.nil).l ≠ []) (lb : 0 < bs.length → (cs.getD (40 + (bs.length - 1)) Cel.nil).l ≠ []) :
    Reads (cs.map fun c => c.l) ⟨⟨fa, fs, fs.length⟩, ⟨ba, bs, bs.length⟩⟩ ∧ Tight ⟨⟨fa, fs, fs.length⟩, ⟨ba, bs, bs.length⟩⟩ := by
  have key : ∀ j, ((cs.map fun c => c.l).getD j []) = (cs.getD j Cel.nil).l := fun j => by
    simp only [List.getD_eq_getElem?_getD, List.getElem?_map]
    cases cs[j]? <;> rfl
  refine ⟨⟨by simpa using hl, fun k hk i hi => ?_, hf, hb⟩, ⟨rfl, rfl, fun c h0 hc => ?_, fun c h0 hc => ?_⟩⟩
  · rw [key]
    obtain rfl | rfl : k = 0 ∨ k = 1 := by omega
    · show (fs.getD i Cel.nil).l = _
      rw [show 0 * 40 + i = i by omega]
      by_cases h : i < fs.length
      · exact ef i h
      · rw [zf i (by omega) hi, List.getD_eq_getElem?_getD, List.getElem?_eq_none (by omega)]; rfl
    · show (bs.getD i Cel.nil).l = _
      rw [show 1 * 40 + i = 40 + i by omega]
      by_cases h : i < bs.length
      · exact eb i h
      · rw [zb i (by omega) hi, List.getD_eq_getElem?_getD, List.getElem?_eq_none (by omega)]; rfl
  · have h1 := ef (fs.length - 1) (by simp only at h0; omega)
    simp only at hc
    rw [List.getD_eq_getElem?_getD, hc] at h1
    rw [show c.l = _ from h1]; exact lf h0
  · have h1 := eb (bs.length - 1) (by simp only at h0; omega)
    simp only at hc
    rw [List.getD_eq_getElem?_getD, hc] at h1
    rw [show c.l = _ from h1]; exact lb h0
end Go.Proofs.YtjjnhmbgffdenaaDoor
