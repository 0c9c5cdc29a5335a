import Derived.WalkKit
import Derived.WalkSpells
import Derived.WalkLawsBesides
import Derived.Lib.Hide
import Derived.Lib.QuietBelow
import Derived.BigQuiet
import Derived.Deep.LoopGhost
import Derived.Outline
import Derived.Test.YtgaofkbmnapogaaProg
import Derived.Deep.RegionHeld3
namespace Go.Proofs.Ytgaofkbmnapogaa
open Go.RowKit

theorem bcell {W w1 : World} (hb : Below W.heap.size W w1) : (∀ b o, b < W.heap.size → w1.cell? ⟨b, o, none⟩ = W.cell? ⟨b, o, none⟩) ∧ (∀ b o, b < W.heap.size → w1.frozen? ⟨b, o, none⟩ = W.frozen? ⟨b, o, none⟩) :=
  ⟨fun b o h => hb.cell (p := ⟨b, o, none⟩) h, fun b o h => hb.frozen (p := ⟨b, o, none⟩) h⟩
theorem below_drewN {B : Nat} {a w : World} (h : Below B a w) (n : Nat) : Below B a (w.drewN n) := ⟨h.os, h.tape, h.output, h.size, h.block⟩
theorem below1 (w : World) (o : Obj) : Below w.heap.size w (w.alloc o) := (Below.refl _ _).alloc (Nat.le_refl _) _
theorem below2 (w : World) (o p : Obj) : Below w.heap.size w ((w.alloc o).alloc p) := (below1 w o).alloc (by simp) _
theorem below3 (w : World) (o p q : Obj) : Below w.heap.size w (((w.alloc o).alloc p).alloc q) := (below2 w o p).alloc (by simp; omega) _
theorem ret_bool {a b : Bool} (h : a = b) : Ending.returned (.bool a) = .returned (.bool b) := by rw [h]
theorem ret_int {k : IntKind} {a b : Int} (h : a = b) : Ending.returned (.int k a) = .returned (.int k b) := by rw [h]

/-- A loop's name. -/
structure Nm where
  y : Int
  n : Int
deriving DecidableEq
def Nm.v (p : Nm) : Value := .agg #[.int .u8 p.y, .int .i64 p.n]
/-- A name that is valid. -/
def Named (p : Nm) : Prop := 1 ≤ p.y ∧ p.y ≤ 6 ∧ 0 ≤ p.n ∧ p.n ≤ 2047
instance (p : Nm) : Decidable (Named p) := by unfold Named; infer_instance
/-- A name that a variable can hold. -/
def Nm.wf (p : Nm) : Prop := (0 ≤ p.y ∧ p.y ≤ 255) ∧ (-9223372036854775808 ≤ p.n ∧ p.n ≤ 9223372036854775807)

def Two (w : World) (b o : Nat) (p : Nm) : Prop := w.cell? ⟨b, o, none⟩ = some (.int .u8 p.y) ∧ w.cell? ⟨b, o + 1, none⟩ = some (.int .i64 p.n)
theorem Two.below {w w' : World} {b o : Nat} {p : Nm} (h : Two w b o p) {B : Nat} (hb : Below B w w') (hB : b < B) : Two w' b o p :=
  ⟨(hb.cell (p := ⟨b, o, none⟩) hB).trans h.1, (hb.cell (p := ⟨b, o + 1, none⟩) hB).trans h.2⟩

end Go.Proofs.Ytgaofkbmnapogaa
namespace Go.Proofs.Ytgaofkbmnapogaa
open Go.RowKit

section
variable {P : Program} {ops : Array Oper} {Q : Exit → Act → World → Prop}

theorem countP_lt {f f' : Nat → Bool} (hff : ∀ j, f' j = true → f j = true) {i : Nat} (hi : f i = true) (hi' : f' i = false) : ∀ l : List Nat, i ∈ l → l.countP f' < l.countP f := by
  intro l
  induction l with
  | nil => intro h; cases h
  | cons x l ih =>
    intro h
    have hle : l.countP f' ≤ l.countP f := List.countP_mono_left fun j _ => hff j
    by_cases e : x = i
    · subst e
      rw [List.countP_cons_of_pos hi, List.countP_cons_of_neg (by simp [hi'])]
      omega
    · have hm : i ∈ l := by
        rcases List.mem_cons.1 h with h | h
        · exact absurd h.symm e
        · exact h
      have := ih hm
      cases hx : f' x
      · rw [List.countP_cons_of_neg (by simp [hx])]
        have : l.countP f ≤ (x :: l).countP f := by rw [List.countP_cons]; exact Nat.le_add_right _ _
        omega
      · rw [List.countP_cons_of_pos hx, List.countP_cons_of_pos (hff x hx)]
        omega

/-- What is known between the operations of a region that draws its order. -/
structure Between (ops : Array Oper) (Psi : Nat → Value → World → Prop) (I : World → Prop) (a0 : Act) (lo hi : Nat) (listed : Array Bool) (a : Act) (w : World) : Prop where
  lsize : listed.size = ops.size
  asize : a.tmps.size = a0.tmps.size
  defers : a.defers = a0.defers
  outside : ∀ s, s < lo ∨ hi < s → a.tmps.getD s undef = a0.tmps.getD s undef
  inv : I w
  done : ∀ (i : Nat) (o : Oper) (d : Tmp), listed.getD i false = true → ops[i]? = some o → o.dst = some d → Psi i (a.tmps.getD d undef) w

theorem rg {id : Nat} {a0 : Act} {w0 : World} (Psi : Nat → Value → World → Prop) (I : World → Prop) (lo hi : Nat) (hm : P.follows .mixedOrders = true)
    (hhi : hi < a0.tmps.size)
    (hdst : ∀ (i : Nat) (o : Oper), ops[i]? = some o → ∃ d, o.dst = some d ∧ lo ≤ d ∧ d ≤ hi ∧ ∀ (j : Nat) (o' : Oper), ops[j]? = some o' → o'.dst = some d → j = i)
    (hafter : ∀ (i : Nat) (o : Oper), ops[i]? = some o → ∀ e ∈ o.after, e.on < i)
    (stab : ∀ i v w w', Psi i v w → Below w.heap.size w w' → Psi i v w')
    (istab : ∀ w w', I w → Below w.heap.size w w' → I w')
    (step : ∀ (i : Nat) (o : Oper), ops[i]? = some o → ∀ (a : Act) (w : World), a.tmps.size = a0.tmps.size → (∀ s, s < lo ∨ hi < s → a.tmps.getD s undef = a0.tmps.getD s undef) → I w →
      (∀ e ∈ o.after, Region.binds .any e = true → ∀ (o' : Oper) (d : Tmp), ops[e.on]? = some o' → o'.dst = some d → Psi e.on (a.tmps.getD d undef) w) →
      Region.wanted o (yielded ops a.tmps) = true ∧ ∀ K : Act → World → Prop, (∀ v w', Below w.heap.size w w' → Psi i v w' → K (a.put o.dst v) w') → o.wp P a w K Q)
    (fin : ∀ (a : Act) (w : World), a.tmps.size = a0.tmps.size → a.defers = a0.defers → (∀ s, s < lo ∨ hi < s → a.tmps.getD s undef = a0.tmps.getD s undef) → I w →
      (∀ (i : Nat) (o : Oper) (d : Tmp), ops[i]? = some o → o.dst = some d → Psi i (a.tmps.getD d undef) w) → Q .normal a w)
    (h0 : I { w0 with drawn := w0.drawn + 1 }) : (Code.region id ops true).wp P Q a0 w0 := by
  have all_listed : ∀ listed : Array Bool, listed.size = ops.size → Region.ready .any ops listed = [] → ∀ i, i < ops.size → listed.getD i false = true := by
    intro listed hls hr i
    induction i using Nat.strongRecOn with
    | _ i ih =>
      intro hi
      cases hb : listed.getD i true with
      | true =>
        have hlt : i < listed.size := by omega
        simp only [Array.getD_eq_getD_getElem?, Array.getElem?_eq_getElem hlt, Option.getD_some] at hb ⊢
        exact hb
      | false =>
        exfalso
        have : i ∈ Region.ready .any ops listed := mem_ready.2 ⟨hb, ops[i], Array.getElem?_eq_getElem hi, fun e he _ => by
          have hlt := hafter i _ (Array.getElem?_eq_getElem hi) e he
          exact ih e.on hlt (by omega)⟩
        rw [hr] at this
        cases this
  have main : ∀ (fuel : Nat) (listed : Array Bool) (a : Act) (w : World), (List.range ops.size).countP (fun i => !listed.getD i true) ≤ fuel → Between ops Psi I a0 lo hi listed a w → wpAny P .any ops Q fuel listed a w := by
    intro fuel
    induction fuel with
    | zero =>
      intro listed a w hc hJ
      have hr : Region.ready .any ops listed = [] := by
        rw [List.eq_nil_iff_forall_not_mem]
        intro i hi
        obtain ⟨h1, o, ho, _⟩ := mem_ready.1 hi
        have hlt : i < ops.size := (Array.getElem?_eq_some_iff.1 ho).1
        have := (List.countP_eq_zero.1 (Nat.le_zero.1 hc)) i (List.mem_range.2 hlt)
        simp [h1] at this
      refine ⟨hr, fin a w hJ.asize hJ.defers hJ.outside hJ.inv fun i o d ho hd => hJ.done i o d (all_listed listed hJ.lsize hr i (Array.getElem?_eq_some_iff.1 ho).1) ho hd⟩
    | succ fuel ih =>
      intro listed a w hc hJ
      refine ⟨fun hr => fin a w hJ.asize hJ.defers hJ.outside hJ.inv fun i o d ho hd => hJ.done i o d (all_listed listed hJ.lsize hr i (Array.getElem?_eq_some_iff.1 ho).1) ho hd, fun i hi => ?_⟩
      obtain ⟨h1, o, ho, hdep⟩ := mem_ready.1 hi
      have hlt : i < ops.size := (Array.getElem?_eq_some_iff.1 ho).1
      obtain ⟨hw, hs⟩ := step i o ho a w hJ.asize hJ.outside hJ.inv (fun e he hb o' d ho' hd => hJ.done e.on o' d (hdep e he hb) ho' hd)
      unfold wpOp
      rw [ho]
      simp only [hw, if_true]
      refine .inl (hs _ fun v w' hb hpsi => ih _ _ _ ?_ ?_)
      · have := countP_lt (f := fun i => !listed.getD i true) (f' := fun j => !(listed.setIfInBounds i true).getD j true) (fun j hj => by
          by_cases e : i = j
          · subst e; simpa using h1
          · simpa [getD_set_ne true e] using hj) (i := i) (by simpa using h1) (by
            have : i < listed.size := by have := hJ.lsize; omega
            simp [this]) (List.range ops.size) (List.mem_range.2 hlt)
        omega
      · obtain ⟨d, hd, hlo, hhi', huniq⟩ := hdst i o ho
        rw [hd]
        have hda : d < a.tmps.size := by rw [hJ.asize]; exact Nat.lt_of_le_of_lt hhi' hhi
        have hget : ∀ s, (a.put (some d) v).tmps.getD s undef = if s = d then v else a.tmps.getD s undef := by
          intro s
          simp only [Act.put]
          by_cases e : s = d
          · subst e; simp [hda]
          · rw [if_neg e]
            simp only [Array.getD_eq_getD_getElem?, Array.getElem?_setIfInBounds_ne (Ne.symm e)]
        refine ⟨by simpa using hJ.lsize, by simpa [Act.put] using hJ.asize, by simpa [Act.put] using hJ.defers, fun s hs => ?_, istab _ _ hJ.inv hb, fun j o' d' hj ho' hd' => ?_⟩
        · have hne : s ≠ d := by
            rintro rfl
            rcases hs with h | h
            · exact absurd hlo (Nat.not_le_of_lt h)
            · exact absurd hhi' (Nat.not_le_of_lt h)
          rw [hget, if_neg hne]; exact hJ.outside s hs
        · rw [hget]
          by_cases e : d' = d
          · subst e
            obtain rfl := huniq j o' ho' hd'
            rw [if_pos rfl]; exact hpsi
          · rw [if_neg e]
            have hne : i ≠ j := fun e2 => by
              subst e2
              rw [ho] at ho'
              obtain rfl := Option.some.inj ho'
              rw [hd] at hd'
              exact e (Option.some.inj hd').symm
            rw [getD_set_ne false hne] at hj
            exact stab _ _ _ _ (hJ.done j o' d' hj ho' hd') hb
  refine wp_region_any hm (main _ _ _ _ ?_ ⟨by simp, rfl, rfl, fun _ _ => rfl, h0, fun i o d hl _ _ => ?_⟩)
  · exact Nat.le_trans List.countP_le_length (by simp)
  · by_cases e : i < ops.size
    · simp [e] at hl
    · simp [e] at hl
end
end Go.Proofs.Ytgaofkbmnapogaa
namespace Go.Proofs.Ytgaofkbmnapogaa
open Go.RowKit

section
variable {P : Program} {ops : Array Oper} {Q : Exit → Act → World → Prop}

/-- Each operation besides the store and the late ones is needed, at once or not, by the store. -/
def needed (ops : Array Oper) (S : Nat) (late : List Nat) : Bool :=
  (List.range ops.size).all fun i => i == S || late.contains i || (List.range ops.size).any fun j => decide (i < j) && (j == S || !late.contains j) && match ops[j]? with
    | some o => o.after.any fun e => e.on == i && Region.binds .any e
    | none => false
/-- Each operation yields into a slot of its own, behind those that it needs. -/
def tidy (ops : Array Oper) (dsts : List (Option Tmp)) : Bool := ops.size == dsts.length && (List.range ops.size).all fun i => match ops[i]? with
  | some o => (o.dst == (dsts[i]?).getD none) && o.after.all (fun e => !Region.binds .any e || decide (e.on < i)) && (match o.dst with
    | some d => (List.range ops.size).all fun j => j == i || (dsts[j]?).getD none != some d
    | none => true)
  | none => false
theorem tidy_spec {dsts : List (Option Tmp)} (h : tidy ops dsts = true) {i : Nat} {o : Oper} (ho : ops[i]? = some o) :
    o.dst = (dsts[i]?).getD none ∧ (∀ e ∈ o.after, Region.binds .any e = true → e.on < i) ∧ ∀ d, o.dst = some d → ∀ (j : Nat) (o' : Oper), ops[j]? = some o' → o'.dst = some d → j = i := by
  have hlt : i < ops.size := (Array.getElem?_eq_some_iff.1 ho).1
  simp only [tidy, Bool.and_eq_true] at h
  have hall := fun i hi => List.all_eq_true.1 h.2 i (List.mem_range.2 hi)
  have h1 := hall i hlt
  rw [ho] at h1
  simp only [Bool.and_eq_true, beq_iff_eq] at h1
  obtain ⟨⟨h2, h3⟩, h4⟩ := h1
  refine ⟨h2, fun e he hb => ?_, fun d hd j o' ho' hd' => ?_⟩
  · have h5 := Array.all_eq_true_iff_forall_mem.1 h3 e he
    rw [hb] at h5
    simpa using h5
  · rw [hd] at h4
    have hj : j < ops.size := (Array.getElem?_eq_some_iff.1 ho').1
    have h5 := List.all_eq_true.1 h4 j (List.mem_range.2 hj)
    have h6 := hall j hj
    rw [ho'] at h6
    simp only [Bool.and_eq_true, beq_iff_eq] at h6
    simp only [Bool.or_eq_true, beq_iff_eq] at h5
    rcases h5 with h5 | h5
    · exact h5
    · rw [← h6.1.1, hd'] at h5
      simp at h5

structure BetweenS (ops : Array Oper) (S : Nat) (dom : Nat → Bool) (Psi : Nat → Value → World → Prop) (PsiB : Nat → Value → Prop) (I : World → Prop) (F : (Nat → Value) → World → Prop) (a0 : Act) (listed : Array Bool) (a : Act) (w : World) : Prop where
  lsize : listed.size = ops.size
  asize : a.tmps.size = a0.tmps.size
  defers : a.defers = a0.defers
  outside : ∀ s, dom s = false → a.tmps.getD s undef = a0.tmps.getD s undef
  closed : ∀ (i : Nat) (o : Oper), listed.getD i false = true → ops[i]? = some o → ∀ e ∈ o.after, Region.binds .any e = true → listed.getD e.on false = true
  before : listed.getD S false = false → I w ∧ ∀ (i : Nat) (o : Oper) (d : Tmp), listed.getD i false = true → ops[i]? = some o → o.dst = some d → Psi i (a.tmps.getD d undef) w
  behind : listed.getD S false = true → F (fun s => a.tmps.getD s undef) w ∧ ∀ (i : Nat) (o : Oper) (d : Tmp), listed.getD i false = true → ops[i]? = some o → o.dst = some d → PsiB i (a.tmps.getD d undef)

theorem getD_false_of {listed : Array Bool} {i : Nat} (h : listed.getD i true = false) : listed.getD i false = false := by
  by_cases e : i < listed.size
  · simpa [e] using h
  · simp [e]
theorem getD_true_of {listed : Array Bool} {i : Nat} (h : listed.getD i false = true) : listed.getD i true = true := by
  by_cases e : i < listed.size
  · simpa [e] using h
  · simp [e]

theorem needed_all {S : Nat} {late : List Nat} (hn : needed ops S late = true) {listed : Array Bool}
    (hc : ∀ (i : Nat) (o : Oper), (i = S ∨ listed.getD i false = true) → ops[i]? = some o → ∀ e ∈ o.after, Region.binds .any e = true → listed.getD e.on false = true) :
    ∀ k i, ops.size - i = k → i < ops.size → i ≠ S → late.contains i = false → listed.getD i false = true := by
  intro k
  induction k using Nat.strongRecOn with
  | _ k ih =>
    intro i hk hi hiS hl
    have h1 := List.all_eq_true.1 hn i (List.mem_range.2 hi)
    simp only [Bool.or_eq_true, beq_iff_eq] at h1
    rcases h1 with (h1 | h1) | h1
    · exact absurd h1 hiS
    · rw [hl] at h1; cases h1
    · obtain ⟨j, hj, h2⟩ := List.any_eq_true.1 h1
      have hjlt := List.mem_range.1 hj
      simp only [Bool.and_eq_true, decide_eq_true_eq, Bool.or_eq_true, beq_iff_eq, Bool.not_eq_true'] at h2
      obtain ⟨⟨hij, h3⟩, h4⟩ := h2
      have hoj : ops[j]? = some ops[j] := Array.getElem?_eq_getElem hjlt
      rw [hoj] at h4
      simp only at h4
      obtain ⟨x, hx, h5⟩ := Array.any_eq_true.1 h4
      have he : ops[j].after[x] ∈ ops[j].after := Array.getElem_mem hx
      obtain ⟨e, hee⟩ : ∃ e, e = ops[j].after[x] := ⟨_, rfl⟩
      rw [← hee] at he h5
      simp only [Bool.and_eq_true, beq_iff_eq] at h5
      rw [← h5.1]
      refine hc j _ ?_ hoj e he h5.2
      by_cases hjS : j = S
      · exact .inl hjS
      · exact .inr (ih (ops.size - j) (by omega) j rfl hjlt hjS (h3.resolve_left hjS))

theorem rgS {id : Nat} {a0 : Act} {w0 : World} (S : Nat) (late : List Nat) (dsts : List (Option Tmp)) (dom : Nat → Bool) (Psi : Nat → Value → World → Prop) (PsiB : Nat → Value → Prop) (I : World → Prop) (F : (Nat → Value) → World → Prop) (hm : P.follows .mixedOrders = true)
    (htidy : tidy ops dsts = true)
    (hdom : ∀ (i : Nat) (o : Oper) (d : Tmp), ops[i]? = some o → o.dst = some d → dom d = true ∧ d < a0.tmps.size)
    (hneed : ops.size ≤ S ∨ needed ops S late = true)
    (stab : ∀ i v w w', Psi i v w → Below w.heap.size w w' → Psi i v w')
    (istab : ∀ w w', I w → Below w.heap.size w w' → I w')
    (toB : ∀ i v w, Psi i v w → PsiB i v)
    (fstab : ∀ (i : Nat) (o : Oper) (d : Tmp) f f' w, late.contains i = true → ops[i]? = some o → o.dst = some d → F f w → (∀ s, s ≠ d → f' s = f s) → F f' w)
    (step : ∀ (i : Nat) (o : Oper), ops[i]? = some o → i ≠ S → ∀ (a : Act) (w : World), a.tmps.size = a0.tmps.size → (∀ s, dom s = false → a.tmps.getD s undef = a0.tmps.getD s undef) → I w →
      (∀ e ∈ o.after, Region.binds .any e = true → ∀ (o' : Oper) (d : Tmp), ops[e.on]? = some o' → o'.dst = some d → Psi e.on (a.tmps.getD d undef) w) →
      (Region.wanted o (yielded ops a.tmps) = true ∧ ∀ K : Act → World → Prop, (∀ v w', Below w.heap.size w w' → Psi i v w' → K (a.put o.dst v) w') → o.wp P a w K Q) ∨
      (Region.wanted o (yielded ops a.tmps) = false ∧ Psi i undef w))
    (stepS : ∀ (o : Oper), ops[S]? = some o → ∀ (a : Act) (w : World), a.tmps.size = a0.tmps.size → (∀ s, dom s = false → a.tmps.getD s undef = a0.tmps.getD s undef) → I w →
      (∀ (i : Nat) (o' : Oper) (d : Tmp), late.contains i = false → i ≠ S → ops[i]? = some o' → o'.dst = some d → Psi i (a.tmps.getD d undef) w) →
      o.dst = none ∧ Region.wanted o (yielded ops a.tmps) = true ∧ ∀ K : Act → World → Prop, (∀ w', F (fun s => a.tmps.getD s undef) w' → K a w') → o.wp P a w K Q)
    (stepB : ∀ (i : Nat) (o : Oper), ops[i]? = some o → late.contains i = true → ∀ (a : Act) (w : World), a.tmps.size = a0.tmps.size → (∀ s, dom s = false → a.tmps.getD s undef = a0.tmps.getD s undef) →
      (∀ e ∈ o.after, Region.binds .any e = true → ∀ (o' : Oper) (d : Tmp), ops[e.on]? = some o' → o'.dst = some d → PsiB e.on (a.tmps.getD d undef)) →
      Region.wanted o (yielded ops a.tmps) = true ∧ ∀ K : Act → World → Prop, (∀ v, PsiB i v → K (a.put o.dst v) w) → o.wp P a w K Q)
    (fin : ∀ (a : Act) (w : World), a.tmps.size = a0.tmps.size → a.defers = a0.defers → (∀ s, dom s = false → a.tmps.getD s undef = a0.tmps.getD s undef) →
      (S < ops.size → F (fun s => a.tmps.getD s undef) w ∧ ∀ (i : Nat) (o : Oper) (d : Tmp), ops[i]? = some o → o.dst = some d → PsiB i (a.tmps.getD d undef)) →
      (ops.size ≤ S → I w ∧ ∀ (i : Nat) (o : Oper) (d : Tmp), ops[i]? = some o → o.dst = some d → Psi i (a.tmps.getD d undef) w) → Q .normal a w)
    (h0 : I { w0 with drawn := w0.drawn + 1 }) : (Code.region id ops true).wp P Q a0 w0 := by
  have all_listed : ∀ listed : Array Bool, listed.size = ops.size → Region.ready .any ops listed = [] → ∀ i, i < ops.size → listed.getD i false = true := by
    intro listed hls hr i
    induction i using Nat.strongRecOn with
    | _ i ih =>
      intro hi
      cases hb : listed.getD i true with
      | true =>
        have hlt : i < listed.size := by omega
        simp only [Array.getD_eq_getD_getElem?, Array.getElem?_eq_getElem hlt, Option.getD_some] at hb ⊢
        exact hb
      | false =>
        exfalso
        have : i ∈ Region.ready .any ops listed := mem_ready.2 ⟨hb, ops[i], Array.getElem?_eq_getElem hi, fun e he hb2 => by
          have hlt := (tidy_spec htidy (Array.getElem?_eq_getElem hi)).2.1 e he hb2
          exact ih e.on hlt (by omega)⟩
        rw [hr] at this
        cases this
  have final : ∀ (listed : Array Bool) (a : Act) (w : World), Region.ready .any ops listed = [] → BetweenS ops S dom Psi PsiB I F a0 listed a w → Q .normal a w := by
    intro listed a w hr hJ
    have hal := all_listed listed hJ.lsize hr
    refine fin a w hJ.asize hJ.defers hJ.outside (fun hS => ?_) (fun hS => ?_)
    · obtain ⟨h1, h2⟩ := hJ.behind (hal S hS)
      exact ⟨h1, fun i o d ho hd => h2 i o d (hal i (Array.getElem?_eq_some_iff.1 ho).1) ho hd⟩
    · have hSf : listed.getD S false = false := by
        have : ¬ S < listed.size := by have := hJ.lsize; omega
        simp [this]
      obtain ⟨h1, h2⟩ := hJ.before hSf
      exact ⟨h1, fun i o d ho hd => h2 i o d (hal i (Array.getElem?_eq_some_iff.1 ho).1) ho hd⟩
  have hget : ∀ (a : Act) (d : Tmp) (v : Value), d < a.tmps.size → ∀ s, (a.put (some d) v).tmps.getD s undef = if s = d then v else a.tmps.getD s undef := by
    intro a d v hda s
    simp only [Act.put]
    by_cases e : s = d
    · subst e; simp [hda]
    · rw [if_neg e]
      simp only [Array.getD_eq_getD_getElem?, Array.getElem?_setIfInBounds_ne (Ne.symm e)]
  have main : ∀ (fuel : Nat) (listed : Array Bool) (a : Act) (w : World), (List.range ops.size).countP (fun i => !listed.getD i true) ≤ fuel → BetweenS ops S dom Psi PsiB I F a0 listed a w → wpAny P .any ops Q fuel listed a w := by
    intro fuel
    induction fuel with
    | zero =>
      intro listed a w hc hJ
      have hr : Region.ready .any ops listed = [] := by
        rw [List.eq_nil_iff_forall_not_mem]
        intro i hi
        obtain ⟨h1, o, ho, _⟩ := mem_ready.1 hi
        have hlt : i < ops.size := (Array.getElem?_eq_some_iff.1 ho).1
        have := (List.countP_eq_zero.1 (Nat.le_zero.1 hc)) i (List.mem_range.2 hlt)
        simp [h1] at this
      exact ⟨hr, final listed a w hr hJ⟩
    | succ fuel ih =>
      intro listed a w hc hJ
      refine ⟨fun hr => final listed a w hr hJ, fun i hi => ?_⟩
      obtain ⟨h1, o, ho, hdep⟩ := mem_ready.1 hi
      have hlt : i < ops.size := (Array.getElem?_eq_some_iff.1 ho).1
      have hcount : (List.range ops.size).countP (fun j => !(listed.setIfInBounds i true).getD j true) ≤ fuel := by
        have := countP_lt (f := fun i => !listed.getD i true) (f' := fun j => !(listed.setIfInBounds i true).getD j true) (fun j hj => by
          by_cases e : i = j
          · subst e; simpa using h1
          · simpa [getD_set_ne true e] using hj) (i := i) (by simpa using h1) (by
            have : i < listed.size := by have := hJ.lsize; omega
            simp [this]) (List.range ops.size) (List.mem_range.2 hlt)
        omega
      have hil : (listed.setIfInBounds i true).getD i false = true := by
        have : i < listed.size := by have := hJ.lsize; omega
        simp [this]
      have hclosed : ∀ (j : Nat) (o' : Oper), (listed.setIfInBounds i true).getD j false = true → ops[j]? = some o' → ∀ e ∈ o'.after, Region.binds .any e = true → (listed.setIfInBounds i true).getD e.on false = true := by
        intro j o' hj ho' e he hb
        have : listed.getD e.on false = true := by
          by_cases e1 : i = j
          · subst e1
            rw [ho] at ho'
            obtain rfl := Option.some.inj ho'
            exact hdep e he hb
          · rw [getD_set_ne false e1] at hj
            exact hJ.closed j o' hj ho' e he hb
        by_cases e2 : i = e.on
        · rw [← e2]; exact hil
        · rw [getD_set_ne false e2]; exact this
      have hsize : (listed.setIfInBounds i true).size = ops.size := by simpa using hJ.lsize
      unfold wpOp
      rw [ho]
      by_cases hiS : i = S
      · subst hiS
        have hSf := getD_false_of h1
        obtain ⟨hI, hP⟩ := hJ.before hSf
        have hneed' : needed ops i late = true := by
          rcases hneed with h | h
          · exact absurd h (by omega)
          · exact h
        obtain ⟨hd, hw, hs⟩ := stepS o ho a w hJ.asize hJ.outside hI (fun j o' d hj hji ho' hd' => by
          have hjlt := (Array.getElem?_eq_some_iff.1 ho').1
          have := needed_all (listed := listed.setIfInBounds i true) hneed' (fun j o' hj ho' e he hb => by
            rcases hj with rfl | hj
            · exact hclosed j o' hil ho' e he hb
            · exact hclosed j o' hj ho' e he hb) _ j rfl hjlt hji hj
          rw [getD_set_ne false (Ne.symm hji)] at this
          exact hP j o' d this ho' hd')
        simp only [hw, if_true]
        refine .inl (hs _ fun w' hF => ih _ _ _ hcount ?_)
        refine ⟨hsize, hJ.asize, hJ.defers, hJ.outside, hclosed, fun hf => (by rw [hil] at hf; cases hf), fun _ => ⟨hF, fun j o' d hj ho' hd' => ?_⟩⟩
        have hji : i ≠ j := fun e => by
          subst e
          rw [ho] at ho'
          obtain rfl := Option.some.inj ho'
          rw [hd] at hd'
          cases hd'
        rw [getD_set_ne false hji] at hj
        exact toB _ _ _ (hP j o' d hj ho' hd')
      · have hSsame : (listed.setIfInBounds i true).getD S false = listed.getD S false := getD_set_ne false hiS
        cases hSl : listed.getD S false with
        | true =>
          obtain ⟨hF, hP⟩ := hJ.behind hSl
          have hSlt : S < ops.size := by
            by_cases e : S < listed.size
            · have := hJ.lsize; omega
            · simp [e] at hSl
          have hneed' : needed ops S late = true := by
            rcases hneed with h | h
            · exact absurd h (by omega)
            · exact h
          have hlate : late.contains i = true := by
            cases hc' : late.contains i with
            | true => rfl
            | false =>
              have := needed_all (listed := listed) hneed' (fun j o' hj ho' e he hb => by
                rcases hj with rfl | hj
                · exact hJ.closed j o' hSl ho' e he hb
                · exact hJ.closed j o' hj ho' e he hb) _ i rfl hlt hiS hc'
              rw [getD_false_of h1] at this
              cases this
          obtain ⟨hw, hs⟩ := stepB i o ho hlate a w hJ.asize hJ.outside (fun e he hb o' d ho' hd' => hP e.on o' d (hdep e he hb) ho' hd')
          simp only [hw, if_true]
          refine .inl (hs _ fun v hv => ih _ _ _ hcount ?_)
          cases hd : o.dst with
          | none =>
            refine ⟨hsize, hJ.asize, hJ.defers, hJ.outside, hclosed, fun hf => (by rw [hSsame, hSl] at hf; cases hf), fun _ => ⟨hF, fun j o' d hj ho' hd' => ?_⟩⟩
            have hji : i ≠ j := fun e => by
              subst e
              rw [ho] at ho'
              obtain rfl := Option.some.inj ho'
              rw [hd] at hd'
              cases hd'
            rw [getD_set_ne false hji] at hj
            exact hP j o' d hj ho' hd'
          | some d =>
            obtain ⟨hdm, hdl⟩ := hdom i o d ho hd
            have hda : d < a.tmps.size := by rw [hJ.asize]; exact hdl
            refine ⟨hsize, by simpa [Act.put] using hJ.asize, by simpa [Act.put] using hJ.defers, fun s hs => ?_, hclosed, fun hf => (by rw [hSsame, hSl] at hf; cases hf), fun _ => ⟨fstab i o d _ _ w hlate ho hd hF (fun s hs => by show (a.put (some d) v).tmps.getD s undef = _; rw [hget a d v hda, if_neg hs]), fun j o' d' hj ho' hd' => ?_⟩⟩
            · rw [hget a d v hda, if_neg (fun e => by subst e; rw [hdm] at hs; cases hs)]; exact hJ.outside s hs
            · rw [hget a d v hda]
              by_cases e : d' = d
              · subst e
                obtain rfl := (tidy_spec htidy ho).2.2 d' hd j o' ho' hd'
                rw [if_pos rfl]; exact hv
              · rw [if_neg e]
                have hne : i ≠ j := fun e2 => by
                  subst e2
                  rw [ho] at ho'
                  obtain rfl := Option.some.inj ho'
                  rw [hd] at hd'
                  exact e (Option.some.inj hd').symm
                rw [getD_set_ne false hne] at hj
                exact hP j o' d' hj ho' hd'
        | false =>
          obtain ⟨hI, hP⟩ := hJ.before hSl
          have next : ∀ v w', Below w.heap.size w w' → Psi i v w' → BetweenS ops S dom Psi PsiB I F a0 (listed.setIfInBounds i true) (a.put o.dst v) w' := by
            intro v w' hb hv
            cases hd : o.dst with
            | none =>
              refine ⟨hsize, hJ.asize, hJ.defers, hJ.outside, hclosed, fun _ => ⟨istab _ _ hI hb, fun j o' d hj ho' hd' => ?_⟩, fun hf => by rw [hSsame, hSl] at hf; cases hf⟩
              have hji : i ≠ j := fun e => by
                subst e
                rw [ho] at ho'
                obtain rfl := Option.some.inj ho'
                rw [hd] at hd'
                cases hd'
              rw [getD_set_ne false hji] at hj
              exact stab _ _ _ _ (hP j o' d hj ho' hd') hb
            | some d =>
              obtain ⟨hdm, hdl⟩ := hdom i o d ho hd
              have hda : d < a.tmps.size := by rw [hJ.asize]; exact hdl
              refine ⟨hsize, by simpa [Act.put] using hJ.asize, by simpa [Act.put] using hJ.defers, fun s hs => ?_, hclosed, fun _ => ⟨istab _ _ hI hb, fun j o' d' hj ho' hd' => ?_⟩, fun hf => by rw [hSsame, hSl] at hf; cases hf⟩
              · rw [hget a d v hda, if_neg (fun e => by subst e; rw [hdm] at hs; cases hs)]; exact hJ.outside s hs
              · rw [hget a d v hda]
                by_cases e : d' = d
                · subst e
                  obtain rfl := (tidy_spec htidy ho).2.2 d' hd j o' ho' hd'
                  rw [if_pos rfl]; exact hv
                · rw [if_neg e]
                  have hne : i ≠ j := fun e2 => by
                    subst e2
                    rw [ho] at ho'
                    obtain rfl := Option.some.inj ho'
                    rw [hd] at hd'
                    exact e (Option.some.inj hd').symm
                  rw [getD_set_ne false hne] at hj
                  exact stab _ _ _ _ (hP j o' d' hj ho' hd') hb
          rcases step i o ho hiS a w hJ.asize hJ.outside hI (fun e he hb o' d ho' hd' => hP e.on o' d (hdep e he hb) ho' hd') with ⟨hw, hs⟩ | ⟨hw, hv⟩
          · simp only [hw, if_true]
            exact .inl (hs _ fun v w' hb hpsi => ih _ _ _ hcount (next v w' hb hpsi))
          · simp only [hw]
            exact ih _ _ _ hcount (next undef w (Below.refl _ _) hv)
  refine wp_region_any hm (main _ _ _ _ ?_ ⟨by simp, rfl, rfl, fun _ _ => rfl, fun i o hl _ => ?_, fun _ => ⟨h0, fun i o d hl _ _ => ?_⟩, fun hl => ?_⟩)
  · exact Nat.le_trans List.countP_le_length (by simp)
  · by_cases e : i < ops.size <;> simp [e] at hl
  · by_cases e : i < ops.size <;> simp [e] at hl
  · by_cases e : S < ops.size <;> simp [e] at hl
/-- 'rgS', the slots by a list. -/
theorem rgT {id : Nat} {a0 : Act} {w0 : World} (S : Nat) (late : List Nat) (dsts : List (Option Tmp)) (r : Tmp) (Psi : Nat → Value → World → Prop) (PsiB : Nat → Value → Prop) (I : World → Prop) (F : Value → World → Prop) (hm : P.follows .mixedOrders = true)
    (htidy : tidy ops dsts = true)
    (hbound : (dsts.all fun x => match x with | some d => decide (d < a0.tmps.size) | none => true) = true)
    (hr : (late.all fun i => (dsts[i]?).getD none != some r) = true)
    (hneed : ops.size ≤ S ∨ needed ops S late = true)
    (stab : ∀ i v w w', Psi i v w → Below w.heap.size w w' → Psi i v w')
    (istab : ∀ w w', I w → Below w.heap.size w w' → I w')
    (toB : ∀ i v w, Psi i v w → PsiB i v)
    (step : ∀ (i : Nat) (o : Oper), ops[i]? = some o → i ≠ S → ∀ (a : Act) (w : World), a.tmps.size = a0.tmps.size → (∀ s, dsts.contains (some s) = false → a.tmps.getD s undef = a0.tmps.getD s undef) → I w →
      (∀ e ∈ o.after, Region.binds .any e = true → ∀ (o' : Oper) (d : Tmp), ops[e.on]? = some o' → o'.dst = some d → Psi e.on (a.tmps.getD d undef) w) →
      (Region.wanted o (yielded ops a.tmps) = true ∧ ∀ K : Act → World → Prop, (∀ v w', Below w.heap.size w w' → Psi i v w' → K (a.put o.dst v) w') → o.wp P a w K Q) ∨
      (Region.wanted o (yielded ops a.tmps) = false ∧ Psi i undef w))
    (stepS : ∀ (o : Oper), ops[S]? = some o → ∀ (a : Act) (w : World), a.tmps.size = a0.tmps.size → (∀ s, dsts.contains (some s) = false → a.tmps.getD s undef = a0.tmps.getD s undef) → I w →
      (∀ (i : Nat) (o' : Oper) (d : Tmp), late.contains i = false → i ≠ S → ops[i]? = some o' → o'.dst = some d → Psi i (a.tmps.getD d undef) w) →
      o.dst = none ∧ Region.wanted o (yielded ops a.tmps) = true ∧ ∀ K : Act → World → Prop, (∀ w', F (a.tmps.getD r undef) w' → K a w') → o.wp P a w K Q)
    (stepB : ∀ (i : Nat) (o : Oper), ops[i]? = some o → late.contains i = true → ∀ (a : Act) (w : World), a.tmps.size = a0.tmps.size → (∀ s, dsts.contains (some s) = false → a.tmps.getD s undef = a0.tmps.getD s undef) →
      (∀ e ∈ o.after, Region.binds .any e = true → ∀ (o' : Oper) (d : Tmp), ops[e.on]? = some o' → o'.dst = some d → PsiB e.on (a.tmps.getD d undef)) →
      Region.wanted o (yielded ops a.tmps) = true ∧ ∀ K : Act → World → Prop, (∀ v, PsiB i v → K (a.put o.dst v) w) → o.wp P a w K Q)
    (fin : ∀ (a : Act) (w : World), a.tmps.size = a0.tmps.size → a.defers = a0.defers → (∀ s, dsts.contains (some s) = false → a.tmps.getD s undef = a0.tmps.getD s undef) →
      (S < ops.size → F (a.tmps.getD r undef) w ∧ ∀ (i : Nat) (o : Oper) (d : Tmp), ops[i]? = some o → o.dst = some d → PsiB i (a.tmps.getD d undef)) →
      (ops.size ≤ S → I w ∧ ∀ (i : Nat) (o : Oper) (d : Tmp), ops[i]? = some o → o.dst = some d → Psi i (a.tmps.getD d undef) w) → Q .normal a w)
    (h0 : I { w0 with drawn := w0.drawn + 1 }) : (Code.region id ops true).wp P Q a0 w0 := by
  refine rgS S late dsts (fun s => dsts.contains (some s)) Psi PsiB I (fun f w => F (f r) w) hm htidy (fun i o d ho hd => ?_) hneed stab istab toB (fun i o d f f' w hl ho hd hF hf => ?_) step stepS stepB fin h0
  · have h := (tidy_spec htidy ho).1
    rw [hd] at h
    have hmem : some d ∈ dsts := by
      cases hi : dsts[i]? with
      | none => rw [hi] at h; cases h
      | some x =>
        rw [hi] at h
        simp only [Option.getD_some] at h
        rw [h]
        exact List.mem_of_getElem? hi
    refine ⟨by simpa using hmem, ?_⟩
    exact of_decide_eq_true (List.all_eq_true.1 hbound _ hmem)
  · have h := (tidy_spec htidy ho).1
    rw [hd] at h
    have h2 := List.all_eq_true.1 hr i (by simpa using hl)
    rw [← h] at h2
    show F (f' r) w
    rw [hf r (fun e => by subst e; simp at h2)]
    exact hF
end
end Go.Proofs.Ytgaofkbmnapogaa
