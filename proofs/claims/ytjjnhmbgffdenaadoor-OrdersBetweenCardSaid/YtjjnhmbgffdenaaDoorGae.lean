import Derived.Test.YtjjnhmbgffdenaaDoorGad
import Derived.Laws.StructEq
import Derived.Maps.OwnIn
import Derived.Maps.Views
import Derived.DeepKeys4
import Derived.RangeFuncNested
import Derived.RangeFuncBound
import Derived.RangeFuncCalls
import Derived.RangeFuncLeaves
import Derived.RangeFuncBox
import Derived.Shelf.Abstract
import Derived.Shelf.RegionOpen
import Derived.OwnWalkIn
import Derived.TacticsInMore
import Derived.LoopNIn
import Derived.LoopIn
namespace Go.Proofs.YtjjnhmbgffdenaaDoor
open Go.RowKit

/-- What an operation has left: its slot's value. -/
def valOf (o : Oper) (v : Value) : Value := match o.dst with
  | some _ => v
  | none => undef
def slotOf (o : Oper) (a : Act) : Value := match o.dst with
  | some d => a.tmps.getD d undef
  | none => undef

section
variable {P : Program} {ops : Array Oper} {Q : Exit → Act → World → Prop}

structure Mid (ops : Array Oper) (dom : Nat → Bool) (Psi : Nat → Value → World → Prop) (I : World → Prop) (a0 : Act) (listed : Array Bool) (a : Act) (w : World) : Prop where
  lsize : listed.size = ops.size
  asize : a.tmps.size = a0.tmps.size
  defers : a.defers = a0.defers
  outside : ∀ s, dom s = false → a.tmps.getD s undef = a0.tmps.getD s undef
  inv : I w
  psi : ∀ (i : Nat) (o : Oper), listed.getD i false = true → ops[i]? = some o → Psi i (slotOf o a) w
  fresh : ∀ (j : Nat) (o : Oper) (d : Tmp), listed.getD j false = false → ops[j]? = some o → o.dst = some d → a.tmps.getD d undef = a0.tmps.getD d undef
  closed : ∀ (i : Nat) (o : Oper), listed.getD i false = true → ops[i]? = some o → ∀ e ∈ o.after, Region.binds .any e = true → listed.getD e.on false = true

theorem put_getD {a : Act} {d : Tmp} {v : Value} (hda : d < a.tmps.size) (s : Nat) : (a.put (some d) v).tmps.getD s undef = if s = d then v else a.tmps.getD s undef := by
  simp only [Act.put]
  by_cases e : s = d
  · subst e; simp [hda]
  · rw [if_neg e]
    simp only [Array.getD_eq_getD_getElem?, Array.getElem?_setIfInBounds_ne (Ne.symm e)]

theorem Mid.next {dom : Nat → Bool} {Psi : Nat → Value → World → Prop} {I : World → Prop} {R : Nat → World → World → Prop} {a0 : Act} {dsts : List (Option Tmp)} {listed : Array Bool} {a : Act} {w w' : World} {i : Nat} {o : Oper} {v : Value}
    (htidy : tidy ops dsts = true)
    (hdom : ∀ (i : Nat) (o : Oper) (d : Tmp), ops[i]? = some o → o.dst = some d → dom d = true ∧ d < a0.tmps.size)
    (stab : ∀ i j v w w', j ≠ i → I w → Psi j v w → R i w w' → Psi j v w') (istab : ∀ i w w', I w → R i w w' → I w')
    (hJ : Mid ops dom Psi I a0 listed a w) (ho : ops[i]? = some o)
    (hdep : ∀ e ∈ o.after, Region.binds .any e = true → listed.getD e.on false = true) (hR : w' = w ∨ R i w w') (hv : Psi i (valOf o v) w') : Mid ops dom Psi I a0 (listed.setIfInBounds i true) (a.put o.dst v) w' := by
  have hlt : i < ops.size := (Array.getElem?_eq_some_iff.1 ho).1
  have hil : (listed.setIfInBounds i true).getD i false = true := by
    have : i < listed.size := by have := hJ.lsize; omega
    simp [this]
  have hI : I w' := by
    rcases hR with rfl | hR
    · exact hJ.inv
    · exact istab _ _ _ hJ.inv hR
  have hst : ∀ j x, j ≠ i → Psi j x w → Psi j x w' := by
    intro j x hji hx
    rcases hR with rfl | hR
    · exact hx
    · exact stab _ _ _ _ _ hji hJ.inv hx hR
  have hclosed : ∀ (j : Nat) (o' : Oper), (listed.setIfInBounds i true).getD j false = true → ops[j]? = some o' → ∀ e ∈ o'.after, Region.binds .any e = true → (listed.setIfInBounds i true).getD e.on false = true := by
    intro j o' hj ho' e he hb
    have : listed.getD e.on false = true := by
      by_cases e1 : i = j
      · subst e1
        rw [ho] at ho'
        obtain rfl := Option.some.inj ho'
        exact hdep e he hb
      · rw [getD_set_ne false e1] at hj
        exact hJ.closed j o' hj ho' e he hb
    by_cases e2 : i = e.on
    · rw [← e2]; exact hil
    · rw [getD_set_ne false e2]; exact this
  have hsize : (listed.setIfInBounds i true).size = ops.size := by simpa using hJ.lsize
  cases hd : o.dst with
  | none =>
    refine ⟨hsize, hJ.asize, hJ.defers, hJ.outside, hI, fun j o' hj ho' => ?_, fun j o' d hj ho' hd' => ?_, hclosed⟩
    · by_cases e1 : i = j
      · subst e1
        rw [ho] at ho'
        obtain rfl := Option.some.inj ho'
        have : valOf o v = slotOf o (a.put none v) := by simp only [valOf, slotOf, hd]
        rw [← this]; exact hv
      · rw [getD_set_ne false e1] at hj
        exact hst _ _ (Ne.symm e1) (hJ.psi j o' hj ho')
    · have hij : i ≠ j := fun e => by subst e; rw [hil] at hj; cases hj
      rw [getD_set_ne false hij] at hj
      exact hJ.fresh j o' d hj ho' hd'
  | some d =>
    obtain ⟨hdm, hdl⟩ := hdom i o d ho hd
    have hda : d < a.tmps.size := by rw [hJ.asize]; exact hdl
    refine ⟨hsize, by simpa [Act.put] using hJ.asize, by simpa [Act.put] using hJ.defers, fun s hs => ?_, hI, fun j o' hj ho' => ?_, fun j o' d' hj ho' hd' => ?_, hclosed⟩
    · rw [put_getD hda, if_neg (fun e => by subst e; rw [hdm] at hs; cases hs)]; exact hJ.outside s hs
    · by_cases e1 : i = j
      · subst e1
        rw [ho] at ho'
        obtain rfl := Option.some.inj ho'
        have : valOf o v = slotOf o (a.put (some d) v) := by simp only [valOf, slotOf, hd]; rw [put_getD hda, if_pos rfl]
        rw [← this]; exact hv
      · rw [getD_set_ne false e1] at hj
        have := hJ.psi j o' hj ho'
        have e3 : slotOf o' (a.put (some d) v) = slotOf o' a := by
          unfold slotOf
          cases hd' : o'.dst with
          | none => rfl
          | some d' =>
            show (a.put (some d) v).tmps.getD d' undef = a.tmps.getD d' undef
            rw [put_getD hda, if_neg (fun e => e1 (by subst e; exact ((tidy_spec htidy ho).2.2 d' hd j o' ho' hd').symm))]
        rw [e3]
        exact hst _ _ (Ne.symm e1) this
    · have hij : i ≠ j := fun e => by subst e; rw [hil] at hj; cases hj
      rw [getD_set_ne false hij] at hj
      rw [put_getD hda, if_neg (fun e => hij (by subst e; exact ((tidy_spec htidy ho).2.2 d' hd j o' ho' hd').symm))]
      exact hJ.fresh j o' d' hj ho' hd'

/-- A region that draws its order; each operation keeps to a rely of its own. -/
theorem rgR {id : Nat} {a0 : Act} {w0 : World} (dsts : List (Option Tmp)) (Psi : Nat → Value → World → Prop) (I : World → Prop) (R : Nat → World → World → Prop) (hm : P.follows .mixedOrders = true)
    (htidy : tidy ops dsts = true)
    (hbound : (dsts.all fun x => match x with | some d => decide (d < a0.tmps.size) | none => true) = true)
    (stab : ∀ i j v w w', j ≠ i → I w → Psi j v w → R i w w' → Psi j v w') (istab : ∀ i w w', I w → R i w w' → I w')
    (step : ∀ (i : Nat) (o : Oper), ops[i]? = some o → ∀ (a : Act) (w : World), a.tmps.size = a0.tmps.size → (∀ s, dsts.contains (some s) = false → a.tmps.getD s undef = a0.tmps.getD s undef) → I w →
      (∀ e ∈ o.after, Region.binds .any e = true → ∀ (o' : Oper), ops[e.on]? = some o' → Psi e.on (slotOf o' a) w) →
      (∀ (j : Nat) (o' : Oper) (d : Tmp), ops[j]? = some o' → o'.dst = some d → (o'.after.any fun e => e.on == i && Region.binds .any e) = true → a.tmps.getD d undef = a0.tmps.getD d undef) →
      (Region.wanted o (yielded ops a.tmps) = true ∧ ∀ K : Act → World → Prop, (∀ v w', R i w w' → Psi i (valOf o v) w' → K (a.put o.dst v) w') → o.wp P a w K Q) ∨
      (Region.wanted o (yielded ops a.tmps) = false ∧ Psi i undef w))
    (fin : ∀ (a : Act) (w : World), a.tmps.size = a0.tmps.size → a.defers = a0.defers → (∀ s, dsts.contains (some s) = false → a.tmps.getD s undef = a0.tmps.getD s undef) →
      I w → (∀ (i : Nat) (o : Oper), ops[i]? = some o → Psi i (slotOf o a) w) → Q .normal a w)
    (h0 : I { w0 with drawn := w0.drawn + 1 }) : (Code.region id ops true).wp P Q a0 w0 := by
  have hdom := dom_of htidy hbound
  have all_listed : ∀ listed : Array Bool, listed.size = ops.size → Region.ready .any ops listed = [] → ∀ i, i < ops.size → listed.getD i false = true := by
    intro listed hls hr i
    induction i using Nat.strongRecOn with
    | _ i ih =>
      intro hi
      cases hb : listed.getD i true with
      | true =>
        have hlt : i < listed.size := by omega
        simp only [Array.getD_eq_getD_getElem?, Array.getElem?_eq_getElem hlt, Option.getD_some] at hb ⊢
        exact hb
      | false =>
        exfalso
        have : i ∈ Region.ready .any ops listed := mem_ready.2 ⟨hb, ops[i], Array.getElem?_eq_getElem hi, fun e he hb2 => by
          have hlt := (tidy_spec htidy (Array.getElem?_eq_getElem hi)).2.1 e he hb2
          exact ih e.on hlt (by omega)⟩
        rw [hr] at this
        cases this
  have final : ∀ (listed : Array Bool) (a : Act) (w : World), Region.ready .any ops listed = [] → Mid ops (fun s => dsts.contains (some s)) Psi I a0 listed a w → Q .normal a w := by
    intro listed a w hr hJ
    have hal := all_listed listed hJ.lsize hr
    exact fin a w hJ.asize hJ.defers hJ.outside hJ.inv fun i o ho => hJ.psi i o (hal i (Array.getElem?_eq_some_iff.1 ho).1) ho
  have main : ∀ (fuel : Nat) (listed : Array Bool) (a : Act) (w : World), (List.range ops.size).countP (fun i => !listed.getD i true) ≤ fuel → Mid ops (fun s => dsts.contains (some s)) Psi I a0 listed a w → wpAny P .any ops Q fuel listed a w := by
    intro fuel
    induction fuel with
    | zero =>
      intro listed a w hc hJ
      have hr : Region.ready .any ops listed = [] := by
        rw [List.eq_nil_iff_forall_not_mem]
        intro i hi
        obtain ⟨h1, o, ho, _⟩ := mem_ready.1 hi
        have hlt : i < ops.size := (Array.getElem?_eq_some_iff.1 ho).1
        have := (List.countP_eq_zero.1 (Nat.le_zero.1 hc)) i (List.mem_range.2 hlt)
        simp [h1] at this
      exact ⟨hr, final listed a w hr hJ⟩
    | succ fuel ih =>
      intro listed a w hc hJ
      refine ⟨fun hr => final listed a w hr hJ, fun i hi => ?_⟩
      obtain ⟨h1, o, ho, hdep⟩ := mem_ready.1 hi
      have hlt : i < ops.size := (Array.getElem?_eq_some_iff.1 ho).1
      have hcount : (List.range ops.size).countP (fun j => !(listed.setIfInBounds i true).getD j true) ≤ fuel := by
        have := countP_lt (f := fun i => !listed.getD i true) (f' := fun j => !(listed.setIfInBounds i true).getD j true) (fun j hj => by
          by_cases e : i = j
          · subst e; simpa using h1
          · simpa [getD_set_ne true e] using hj) (i := i) (by simpa using h1) (by
            have : i < listed.size := by have := hJ.lsize; omega
            simp [this]) (List.range ops.size) (List.mem_range.2 hlt)
        omega
      have h1f := getD_false_of h1
      have hs := step i o ho a w hJ.asize hJ.outside hJ.inv (fun e he hb o' ho' => hJ.psi e.on o' (hdep e he hb) ho') (fun j o' d ho' hd' hn => hJ.fresh j o' d (by
        cases hlj : listed.getD j false with
        | false => rfl
        | true =>
          obtain ⟨x, hx, h5⟩ := Array.any_eq_true.1 hn
          simp only [Bool.and_eq_true, beq_iff_eq] at h5
          have h6 := hJ.closed j o' hlj ho' _ (Array.getElem_mem hx) h5.2
          rw [h5.1] at h6
          rw [h6] at h1f
          cases h1f) ho' hd')
      unfold wpOp
      rw [ho]
      rcases hs with ⟨hw, hs⟩ | ⟨hw, hv⟩
      · simp only [hw, if_true]
        exact .inl (hs _ fun v w' hR hpsi => ih _ _ _ hcount (hJ.next htidy hdom stab istab ho hdep (.inr hR) hpsi))
      · simp only [hw]
        refine ih _ _ _ hcount (hJ.next htidy hdom stab istab ho hdep (.inl rfl) ?_)
        have : valOf o undef = undef := by unfold valOf; cases o.dst <;> rfl
        rw [this]; exact hv
  refine wp_region_any hm (main _ _ _ _ ?_ ⟨by simp, rfl, rfl, fun _ _ => rfl, h0, fun i o hl _ => ?_, fun _ _ _ _ _ _ => rfl, fun i o hl _ => ?_⟩)
  · exact Nat.le_trans List.countP_le_length (by simp)
  · by_cases e : i < ops.size <;> simp [e] at hl
  · by_cases e : i < ops.size <;> simp [e] at hl
end
end Go.Proofs.YtjjnhmbgffdenaaDoor
namespace Go.Proofs.YtjjnhmbgffdenaaDoor
open Go.RowKit

/-- Does operation i wait for operation j? -/
def waits (ops : Array Oper) (i j : Nat) : Bool := match ops[i]? with
  | some o => o.after.any fun e => e.on == j && Region.binds .any e
  | none => false
/-- The operations from m on come behind all others, one by one. -/
def tailed (ops : Array Oper) (m : Nat) : Bool :=
  decide (m < ops.size) && ((List.range m).all fun j => (List.range (m + 1)).any fun k => decide (j < k) && waits ops k j) &&
  ((List.range ops.size).all fun i => decide (i ≤ m) || waits ops i (i - 1))

section
variable {P : Program} {ops : Array Oper} {Q : Exit → Act → World → Prop}

theorem waits_spec {i j : Nat} (h : waits ops i j = true) : ∃ o, ops[i]? = some o ∧ ∃ e ∈ o.after, e.on = j ∧ Region.binds .any e = true := by
  unfold waits at h
  cases ho : ops[i]? with
  | none => rw [ho] at h; cases h
  | some o =>
    rw [ho] at h
    simp only at h
    obtain ⟨k, hk, h2⟩ := Array.any_eq_true.1 h
    simp only [Bool.and_eq_true, beq_iff_eq] at h2
    exact ⟨o, rfl, _, Array.getElem_mem hk, h2.1, h2.2⟩

/-- The tail's operations, one behind another. -/
theorem tail_main {m : Nat} {dsts : List (Option Tmp)} (htidy : tidy ops dsts = true) (ht : tailed ops m = true) : ∀ (k t fuel : Nat) (listed : Array Bool) (a : Act) (w : World), m ≤ t → t + k = ops.size → listed.size = ops.size → (∀ j, listed.getD j false = decide (j < t)) → k ≤ fuel →
    wpOps P ops Q (List.range' t k) a w → wpAny P .any ops Q fuel listed a w := by
  simp only [tailed, Bool.and_eq_true, decide_eq_true_eq] at ht
  obtain ⟨⟨hm, hh⟩, htt⟩ := ht
  intro k
  induction k with
  | zero =>
    intro t fuel listed a w hmt htk hls hl hf h
    have hr : Region.ready .any ops listed = [] := by
      rw [List.eq_nil_iff_forall_not_mem]
      intro i hi
      obtain ⟨h1, o, ho, _⟩ := mem_ready.1 hi
      have hlt : i < ops.size := (Array.getElem?_eq_some_iff.1 ho).1
      have h2 := getD_false_of h1
      rw [hl] at h2
      exact absurd (of_decide_eq_false h2) (by omega)
    have hq : Q .normal a w := h
    cases fuel with
    | zero => exact ⟨hr, hq⟩
    | succ fuel => exact ⟨fun _ => hq, fun i hi => by rw [hr] at hi; cases hi⟩
  | succ k ih =>
    intro t fuel listed a w hmt htk hls hl hf h
    cases fuel with
    | zero => omega
    | succ fuel =>
      have htlt : t < ops.size := by omega
      have hto : ops[t]? = some ops[t] := Array.getElem?_eq_getElem htlt
      have htl : listed.getD t true = false := by
        have h1 : listed.getD t false = false := by rw [hl]; exact decide_eq_false (by omega)
        have h2 : t < listed.size := by omega
        simpa [h2] using h1
      have hready : t ∈ Region.ready .any ops listed := mem_ready.2 ⟨htl, _, hto, fun e he hb => by
        rw [hl]; exact decide_eq_true ((tidy_spec htidy hto).2.1 e he hb)⟩
      refine ⟨fun hr => (by rw [hr] at hready; cases hready), fun i hi => ?_⟩
      obtain ⟨h1, o, ho, hdep⟩ := mem_ready.1 hi
      have hlt : i < ops.size := (Array.getElem?_eq_some_iff.1 ho).1
      have h2 := getD_false_of h1
      rw [hl] at h2
      have hge : t ≤ i := Nat.le_of_not_lt (of_decide_eq_false h2)
      have hit : i = t := by
        by_cases e : i = t
        · exact e
        · exfalso
          have h3 := List.all_eq_true.1 htt i (List.mem_range.2 hlt)
          simp only [Bool.or_eq_true, decide_eq_true_eq] at h3
          rcases h3 with h3 | h3
          · omega
          · obtain ⟨o', ho', e', he', hon, hb⟩ := waits_spec h3
            rw [ho] at ho'
            obtain rfl := Option.some.inj ho'
            have h5 := hdep e' he' hb
            rw [hon, hl] at h5
            exact absurd (of_decide_eq_true h5) (by omega)
      subst hit
      rw [List.range'_succ, wpOps_cons] at h
      unfold wpOp at h ⊢
      rw [ho] at h ⊢
      have hnext : ∀ a' w', wpOps P ops Q (List.range' (i + 1) k) a' w' → wpAny P .any ops Q fuel (listed.setIfInBounds i true) a' w' := fun a' w' h' =>
        ih (i + 1) fuel _ a' w' (by omega) (by omega) (by simpa using hls) (fun j => by
          by_cases e : i = j
          · subst e
            have : i < listed.size := by omega
            simp [this]
          · rw [getD_set_ne false e, hl j]
            by_cases h : j < i
            · rw [decide_eq_true h, decide_eq_true (by omega)]
            · rw [decide_eq_false h, decide_eq_false (by omega)]) (by omega) h'
      simp only at h ⊢
      split
      · rename_i hw
        rw [if_pos hw] at h
        rcases h with h | h
        · exact .inl (Oper.wp_mono hnext h)
        · exact .inr h
      · rename_i hw
        rw [if_neg hw] at h
        exact hnext _ _ h


structure MidL (ops : Array Oper) (dom : Nat → Bool) (Psi : Nat → Array Bool → Value → World → Prop) (I : World → Prop) (a0 : Act) (listed : Array Bool) (a : Act) (w : World) : Prop where
  lsize : listed.size = ops.size
  asize : a.tmps.size = a0.tmps.size
  defers : a.defers = a0.defers
  outside : ∀ s, dom s = false → a.tmps.getD s undef = a0.tmps.getD s undef
  inv : I w
  psi : ∀ (i : Nat) (o : Oper), listed.getD i false = true → ops[i]? = some o → Psi i listed (slotOf o a) w
  closed : ∀ (i : Nat) (o : Oper), listed.getD i false = true → ops[i]? = some o → ∀ e ∈ o.after, Region.binds .any e = true → listed.getD e.on false = true

theorem MidL.next {dom : Nat → Bool} {Psi : Nat → Array Bool → Value → World → Prop} {I : World → Prop} {a0 : Act} {dsts : List (Option Tmp)} {listed : Array Bool} {a : Act} {w w' : World} {i : Nat} {o : Oper} {v : Value}
    (htidy : tidy ops dsts = true)
    (hdom : ∀ (i : Nat) (o : Oper) (d : Tmp), ops[i]? = some o → o.dst = some d → dom d = true ∧ d < a0.tmps.size)
    (hst : ∀ j x, j ≠ i → Psi j listed x w → Psi j (listed.setIfInBounds i true) x w') (hI : I w')
    (hJ : MidL ops dom Psi I a0 listed a w) (ho : ops[i]? = some o)
    (hdep : ∀ e ∈ o.after, Region.binds .any e = true → listed.getD e.on false = true) (hv : Psi i (listed.setIfInBounds i true) (valOf o v) w') : MidL ops dom Psi I a0 (listed.setIfInBounds i true) (a.put o.dst v) w' := by
  have hlt : i < ops.size := (Array.getElem?_eq_some_iff.1 ho).1
  have hil : (listed.setIfInBounds i true).getD i false = true := by
    have : i < listed.size := by have := hJ.lsize; omega
    simp [this]
  have hclosed : ∀ (j : Nat) (o' : Oper), (listed.setIfInBounds i true).getD j false = true → ops[j]? = some o' → ∀ e ∈ o'.after, Region.binds .any e = true → (listed.setIfInBounds i true).getD e.on false = true := by
    intro j o' hj ho' e he hb
    have : listed.getD e.on false = true := by
      by_cases e1 : i = j
      · subst e1
        rw [ho] at ho'
        obtain rfl := Option.some.inj ho'
        exact hdep e he hb
      · rw [getD_set_ne false e1] at hj
        exact hJ.closed j o' hj ho' e he hb
    by_cases e2 : i = e.on
    · rw [← e2]; exact hil
    · rw [getD_set_ne false e2]; exact this
  have hpsi : ∀ (j : Nat) (o' : Oper), (listed.setIfInBounds i true).getD j false = true → ops[j]? = some o' → Psi j (listed.setIfInBounds i true) (slotOf o' (a.put o.dst v)) w' := by
    intro j o' hj ho'
    by_cases e : j = i
    · subst e
      rw [ho] at ho'
      obtain rfl := Option.some.inj ho'
      have : slotOf o (a.put o.dst v) = valOf o v := by
        unfold slotOf valOf
        cases hd : o.dst with
        | none => rfl
        | some d =>
          obtain ⟨_, hdl⟩ := hdom j o d ho hd
          have hda : d < a.tmps.size := by rw [hJ.asize]; exact hdl
          show (a.put (some d) v).tmps.getD d undef = v
          rw [put_getD hda, if_pos rfl]
      rw [this]; exact hv
    · have hne : i ≠ j := fun h => e h.symm
      rw [getD_set_ne false hne] at hj
      have : slotOf o' (a.put o.dst v) = slotOf o' a := by
        unfold slotOf
        cases hd' : o'.dst with
        | none => rfl
        | some d' =>
          cases hd : o.dst with
          | none => rfl
          | some d =>
            obtain ⟨_, hdl⟩ := hdom i o d ho hd
            have hda : d < a.tmps.size := by rw [hJ.asize]; exact hdl
            show (a.put (some d) v).tmps.getD d' undef = a.tmps.getD d' undef
            rw [put_getD hda, if_neg fun h => by
              subst h
              exact e ((tidy_spec htidy ho).2.2 _ hd j o' ho' hd')]
      rw [this]
      exact hst j _ e (hJ.psi j o' hj ho')
  cases hd : o.dst with
  | none => exact ⟨by simpa using hJ.lsize, hJ.asize, hJ.defers, hJ.outside, hI, by rw [hd] at hpsi; exact hpsi, hclosed⟩
  | some d =>
    obtain ⟨hdm, hdl⟩ := hdom i o d ho hd
    have hda : d < a.tmps.size := by rw [hJ.asize]; exact hdl
    refine ⟨by simpa using hJ.lsize, by simpa [Act.put] using hJ.asize, by simpa [Act.put] using hJ.defers, fun s hs => ?_, hI, by rw [hd] at hpsi; exact hpsi, hclosed⟩
    show (a.put (some d) v).tmps.getD s undef = _
    rw [put_getD hda, if_neg (fun e => by subst e; rw [hdm] at hs; cases hs)]
    exact hJ.outside s hs

/-- A region that draws its order: each operation of the head leaves what was there; the tail comes behind all of it, in the written order. -/
theorem rgT3 {id : Nat} {a0 : Act} {w0 : World} (m : Nat) (dsts : List (Option Tmp)) (Psi : Nat → Array Bool → Value → World → Prop) (I : World → Prop) (R : Nat → World → World → Prop) (hm : P.follows .mixedOrders = true)
    (htidy : tidy ops dsts = true)
    (hbound : (dsts.all fun x => match x with | some d => decide (d < a0.tmps.size) | none => true) = true)
    (ht : tailed ops m = true)
    (stab : ∀ (i : Nat) (o : Oper), i < m → ops[i]? = some o → ∀ (L : Array Bool), i < L.size → (∀ e ∈ o.after, Region.binds .any e = true → L.getD e.on false = true) → ∀ j v w w', j ≠ i → I w → Psi j L v w → (w' = w ∨ R i w w') → Psi j (L.setIfInBounds i true) v w')
    (istab : ∀ i w w', I w → R i w w' → I w')
    (step : ∀ (i : Nat) (o : Oper), i < m → ops[i]? = some o → ∀ (L : Array Bool), i < L.size → L.getD i false = false → (∀ (j : Nat) (o' : Oper), L.getD j false = true → ops[j]? = some o' → ∀ e ∈ o'.after, Region.binds .any e = true → L.getD e.on false = true) → ∀ (a : Act) (w : World), a.tmps.size = a0.tmps.size → (∀ s, dsts.contains (some s) = false → a.tmps.getD s undef = a0.tmps.getD s undef) → I w →
      (∀ e ∈ o.after, Region.binds .any e = true → ∀ (o' : Oper), ops[e.on]? = some o' → Psi e.on L (slotOf o' a) w) →
      (Region.wanted o (yielded ops a.tmps) = true ∧ ∀ K : Act → World → Prop, (∀ v w', R i w w' → Psi i (L.setIfInBounds i true) (valOf o v) w' → K (a.put o.dst v) w') → o.wp P a w K Q) ∨
      (Region.wanted o (yielded ops a.tmps) = false ∧ Psi i (L.setIfInBounds i true) undef w))
    (fin : ∀ (a : Act) (w : World), a.tmps.size = a0.tmps.size → a.defers = a0.defers → (∀ s, dsts.contains (some s) = false → a.tmps.getD s undef = a0.tmps.getD s undef) →
      I w → (∀ (i : Nat) (o : Oper), i < m → ops[i]? = some o → ∃ L : Array Bool, (∀ j, L.getD j false = decide (j < m)) ∧ Psi i L (slotOf o a) w) → wpList P ops Q (ops.toList.drop m) a w)
    (h0 : I { w0 with drawn := w0.drawn + 1 }) : (Code.region id ops true).wp P Q a0 w0 := by
  have hdom := dom_of htidy hbound
  have ht' := ht
  simp only [tailed, Bool.and_eq_true, decide_eq_true_eq] at ht'
  obtain ⟨⟨hmlt, hh⟩, htt⟩ := ht'
  have main : ∀ (fuel : Nat) (listed : Array Bool) (a : Act) (w : World), (List.range ops.size).countP (fun i => !listed.getD i true) ≤ fuel → (∀ j, m ≤ j → listed.getD j false = false) →
      MidL ops (fun s => dsts.contains (some s)) Psi I a0 listed a w → wpAny P .any ops Q fuel listed a w := by
    intro fuel
    induction fuel with
    | zero =>
      intro listed a w hc hmj hJ
      exfalso
      have h1 := (List.countP_eq_zero.1 (Nat.le_zero.1 hc)) m (List.mem_range.2 hmlt)
      have h2 := hmj m (Nat.le_refl _)
      have h3 : m < listed.size := by have := hJ.lsize; omega
      simp [h3] at h1 h2
      rw [h2] at h1; cases h1
    | succ fuel ih =>
      intro listed a w hc hmj hJ
      -- are all of the head listed?
      by_cases hall : ∀ j, j < m → listed.getD j false = true
      · have hl : ∀ j, listed.getD j false = decide (j < m) := fun j => by
          by_cases h : j < m
          · rw [hall j h, decide_eq_true h]
          · rw [hmj j (by omega), decide_eq_false h]
        have hfin := fin a w hJ.asize hJ.defers hJ.outside hJ.inv fun i o hi ho => ⟨listed, hl, hJ.psi i o (hall i hi) ho⟩
        have hcount : ops.size - m ≤ fuel + 1 := by
          refine Nat.le_trans ?_ hc
          have e : (List.range ops.size).countP (fun i => !listed.getD i true) = (List.range ops.size).countP (fun i => decide (m ≤ i)) := by
            refine List.countP_congr fun i hi => ?_
            have hi' : i < listed.size := by have := hJ.lsize; have := List.mem_range.1 hi; omega
            have := hl i
            simp [hi'] at this ⊢
            rw [this]
            simp
          rw [e]
          have hsplit : List.range ops.size = List.range m ++ List.range' m (ops.size - m) := by
            rw [List.range_eq_range', List.range_eq_range', show ops.size = m + (ops.size - m) by omega, ← List.range'_append]
            simp
          rw [hsplit, List.countP_append]
          have h2 : (List.range' m (ops.size - m)).countP (fun i => decide (m ≤ i)) = ops.size - m := by
            rw [List.countP_eq_length.2 (fun x hx => by
              simp only [List.mem_range'_1] at hx
              exact decide_eq_true hx.1)]
            simp
          omega
        refine tail_main htidy ht (ops.size - m) m (fuel + 1) listed a w (Nat.le_refl _) (by omega) hJ.lsize hl hcount ?_
        have e := wpOps_eq_wpList (P := P) (ops := ops) (Q := Q) (ops.toList.drop m) m (fun j => by rw [List.getElem?_drop]; simp)
        have hlen : (ops.toList.drop m).length = ops.size - m := by simp
        rw [hlen] at e
        rw [e]
        exact hfin
      · have hnr : ∀ i ∈ Region.ready .any ops listed, i < m := by
          intro i hi
          obtain ⟨h1, o, ho, hdep⟩ := mem_ready.1 hi
          have hlt : i < ops.size := (Array.getElem?_eq_some_iff.1 ho).1
          by_cases him : i < m
          · exact him
          · exfalso
            by_cases e : i = m
            · subst e
              refine hall ?_
              -- from the last of the head down
              have down : ∀ d j, j + d + 1 = i → listed.getD j false = true := by
                intro d
                induction d using Nat.strongRecOn with
                | _ d ihd =>
                  intro j hj
                  have h3 := List.all_eq_true.1 hh j (List.mem_range.2 (by omega))
                  obtain ⟨k, hk, h4⟩ := List.any_eq_true.1 h3
                  have hk' := List.mem_range.1 hk
                  simp only [Bool.and_eq_true, decide_eq_true_eq] at h4
                  obtain ⟨o', ho', e', he', hon, hb⟩ := waits_spec h4.2
                  by_cases hki : k = i
                  · subst hki
                    rw [ho] at ho'
                    obtain rfl := Option.some.inj ho'
                    rw [← hon]; exact hdep e' he' hb
                  · have hkl := ihd (i - k - 1) (by omega) k (by omega)
                    rw [← hon]; exact hJ.closed k o' hkl ho' e' he' hb
              exact fun j hj => down (i - j - 1) j (by omega)
            · have h3 := List.all_eq_true.1 htt i (List.mem_range.2 hlt)
              simp only [Bool.or_eq_true, decide_eq_true_eq] at h3
              rcases h3 with h3 | h3
              · omega
              · obtain ⟨o', ho', e', he', hon, hb⟩ := waits_spec h3
                rw [ho] at ho'
                obtain rfl := Option.some.inj ho'
                have h5 := hdep e' he' hb
                rw [hon, hmj (i - 1) (by omega)] at h5
                cases h5
        have all_listed : Region.ready .any ops listed = [] → ∀ i, i < ops.size → listed.getD i false = true := by
          intro hr i
          induction i using Nat.strongRecOn with
          | _ i ihi =>
            intro hi
            cases hb : listed.getD i true with
            | true =>
              have hlt : i < listed.size := by have := hJ.lsize; omega
              simp only [Array.getD_eq_getD_getElem?, Array.getElem?_eq_getElem hlt, Option.getD_some] at hb ⊢
              exact hb
            | false =>
              exfalso
              have : i ∈ Region.ready .any ops listed := mem_ready.2 ⟨hb, ops[i], Array.getElem?_eq_getElem hi, fun e he hb2 => by
                have hlt := (tidy_spec htidy (Array.getElem?_eq_getElem hi)).2.1 e he hb2
                exact ihi e.on hlt (by omega)⟩
              rw [hr] at this
              cases this
        refine ⟨fun hr => absurd (fun j hj => all_listed hr j (by omega)) hall, fun i hi => ?_⟩
        have him := hnr i hi
        obtain ⟨h1, o, ho, hdep⟩ := mem_ready.1 hi
        have hlt : i < ops.size := (Array.getElem?_eq_some_iff.1 ho).1
        have hcount : (List.range ops.size).countP (fun j => !(listed.setIfInBounds i true).getD j true) ≤ fuel := by
          have := countP_lt (f := fun i => !listed.getD i true) (f' := fun j => !(listed.setIfInBounds i true).getD j true) (fun j hj => by
            by_cases e : i = j
            · subst e; simpa using h1
            · simpa [getD_set_ne true e] using hj) (i := i) (by simpa using h1) (by
              have : i < listed.size := by have := hJ.lsize; omega
              simp [this]) (List.range ops.size) (List.mem_range.2 hlt)
          omega
        have hmj' : ∀ j, m ≤ j → (listed.setIfInBounds i true).getD j false = false := fun j hj => by
          rw [getD_set_ne false (by omega)]; exact hmj j hj
        have hil : i < listed.size := by have := hJ.lsize; omega
        have hs := step i o him ho listed hil (getD_false_of h1) hJ.closed a w hJ.asize hJ.outside hJ.inv (fun e he hb o' ho' => hJ.psi e.on o' (hdep e he hb) ho')
        unfold wpOp
        rw [ho]
        rcases hs with ⟨hw, hs⟩ | ⟨hw, hv⟩
        · simp only [hw, if_true]
          exact .inl (hs _ fun v w' hR hpsi => ih _ _ _ hcount hmj' (hJ.next htidy hdom (fun j x hji h => stab i o him ho listed hil hdep j x w w' hji hJ.inv h (.inr hR)) (istab i _ _ hJ.inv hR) ho hdep hpsi))
        · simp only [hw]
          refine ih _ _ _ hcount hmj' (hJ.next htidy hdom (fun j x hji h => stab i o him ho listed hil hdep j x w w hji hJ.inv h (.inl rfl)) hJ.inv ho hdep ?_)
          have : valOf o undef = undef := by unfold valOf; cases o.dst <;> rfl
          rw [this]; exact hv
  refine wp_region_any hm (main _ _ _ _ ?_ (fun j hj => ?_) ⟨by simp, rfl, rfl, fun _ _ => rfl, h0, fun i o hl _ => ?_, fun i o hl _ => ?_⟩)
  · exact Nat.le_trans List.countP_le_length (by simp)
  · by_cases e : j < ops.size <;> simp [e]
  · by_cases e : i < ops.size <;> simp [e] at hl
  · by_cases e : i < ops.size <;> simp [e] at hl

/-- The same, where each operation of the head leaves what was there, and what is said of it does not hang on the others. -/
theorem rgT2 {id : Nat} {a0 : Act} {w0 : World} (m : Nat) (dsts : List (Option Tmp)) (Psi : Nat → Value → World → Prop) (I : World → Prop) (hm : P.follows .mixedOrders = true)
    (htidy : tidy ops dsts = true)
    (hbound : (dsts.all fun x => match x with | some d => decide (d < a0.tmps.size) | none => true) = true)
    (ht : tailed ops m = true)
    (stab : ∀ i v w w', Psi i v w → Below w.heap.size w w' → Psi i v w')
    (istab : ∀ w w', I w → Below w.heap.size w w' → I w')
    (step : ∀ (i : Nat) (o : Oper), i < m → ops[i]? = some o → ∀ (a : Act) (w : World), a.tmps.size = a0.tmps.size → (∀ s, dsts.contains (some s) = false → a.tmps.getD s undef = a0.tmps.getD s undef) → I w →
      (∀ e ∈ o.after, Region.binds .any e = true → ∀ (o' : Oper), ops[e.on]? = some o' → Psi e.on (slotOf o' a) w) →
      (Region.wanted o (yielded ops a.tmps) = true ∧ ∀ K : Act → World → Prop, (∀ v w', Below w.heap.size w w' → Psi i (valOf o v) w' → K (a.put o.dst v) w') → o.wp P a w K Q) ∨
      (Region.wanted o (yielded ops a.tmps) = false ∧ Psi i undef w))
    (fin : ∀ (a : Act) (w : World), a.tmps.size = a0.tmps.size → a.defers = a0.defers → (∀ s, dsts.contains (some s) = false → a.tmps.getD s undef = a0.tmps.getD s undef) →
      I w → (∀ (i : Nat) (o : Oper), i < m → ops[i]? = some o → Psi i (slotOf o a) w) → wpList P ops Q (ops.toList.drop m) a w)
    (h0 : I { w0 with drawn := w0.drawn + 1 }) : (Code.region id ops true).wp P Q a0 w0 :=
  rgT3 m dsts (fun i _ => Psi i) I (fun _ w w' => Below w.heap.size w w') hm htidy hbound ht
    (fun _ _ _ _ _ _ _ j v w w' _ _ h hb => by
      rcases hb with rfl | hb
      · exact h
      · exact stab j v w w' h hb)
    (fun _ w w' h hb => istab w w' h hb) (fun i o hi ho _ _ _ _ a w hs hout hI hdep => step i o hi ho a w hs hout hI hdep)
    (fun a w hs hd hout hI h => fin a w hs hd hout hI fun i o hi ho => (h i o hi ho).elim fun _ h => h.2) h0
end
end Go.Proofs.YtjjnhmbgffdenaaDoor
namespace Go.Proofs.YtjjnhmbgffdenaaDoor
open Go.RowKit

theorem und28 : Tryd.prog.underlying 35 = some (.struct (Tryd.prog.fieldsOf 35)) := by kernel_rfl
theorem und26 : Tryd.prog.underlying 38 = some (.struct (Tryd.prog.fieldsOf 38)) := by kernel_rfl
theorem sih28 : Tryd.prog.stoodInHeld 35 = false := by kernel_rfl
theorem sih26 : Tryd.prog.stoodInHeld 38 = false := by kernel_rfl
theorem eqg28 : Tryd.prog.eqGuardType Tryd.prog.depth 35 = false := by kernel_rfl
theorem eqg26 : Tryd.prog.eqGuardType Tryd.prog.depth 38 = false := by kernel_rfl
theorem fields28 : ((Tryd.prog.fieldsOf 35).toList.map fun f => (f.name != "_", f.type, f.offset)) = [(true, 5, 0), (true, 3, 1)] := by kernel_rfl
theorem fields26 : ((Tryd.prog.fieldsOf 38).toList.map fun f => (f.name != "_", f.type, f.offset)) = [(true, 36, 0), (true, 3, 1)] := by kernel_rfl

theorem eqFields_two (d t1 t2 : Nat) (xs ys : Array Value) (fs : List Field) (w : World) (k1 k2 : IntKind) (a b a' b' : Int) (hf : (fs.map fun f => (f.name != "_", f.type, f.offset)) = [(true, t1, 0), (true, t2, 1)])
    (hu1 : Tryd.prog.underlying t1 = some (.int k1)) (hu2 : Tryd.prog.underlying t2 = some (.int k2)) (h1 : ∀ w, (part t1 xs 0).run Tryd.prog w = .ok (.int k1 a) w) (h2 : ∀ w, (part t2 xs 1).run Tryd.prog w = .ok (.int k2 b) w)
    (h1' : ∀ w, (part t1 ys 0).run Tryd.prog w = .ok (.int k1 a') w) (h2' : ∀ w, (part t2 ys 1).run Tryd.prog w = .ok (.int k2 b') w) :
    (Op.eqFields (d + 1) xs ys fs).run Tryd.prog w = .ok ((a == a') && (b == b')) w := by
  obtain ⟨f, g, rfl⟩ : ∃ f g, fs = [f, g] := by
    have hl : fs.length = 2 := by simpa using congrArg List.length hf
    cases fs with
    | nil => simp at hl
    | cons f fs => cases fs with
      | nil => simp at hl
      | cons g fs => cases fs with
        | nil => exact ⟨f, g, rfl⟩
        | cons x fs => simp at hl
  · skip
    simp only [List.map_cons, List.map_nil, List.cons.injEq, Prod.mk.injEq, and_true] at hf
    obtain ⟨⟨n1, e1, o1⟩, n2, e2, o2⟩ := hf
    have n1' : f.name ≠ "_" := by simpa using n1
    have n2' : g.name ≠ "_" := by simpa using n2
    simp only [Op.eqFields, n1', n2', ne_eq, not_false_eq_true, if_true, e1, e2, o1, o2, Sem.run_bind, h1, h2, h1', h2', Result.andThen_ok, run_equalIn_int _ _ _ _ _ _ _ hu1, run_equalIn_int _ _ _ _ _ _ _ hu2]
    cases a == a'
    · simp
    · simp only [Bool.not_true, Bool.false_eq_true, if_false, Sem.run_bind, h2, h2', Result.andThen_ok, run_equalIn_int _ _ _ _ _ _ _ hu2, Bool.true_and]
      cases b == b' <;> simp
theorem run_eql28 (y n y' n' : Int) (w : World) : (binOp .eql 35 (.agg #[.int .u8 y, .int .i64 n]) (.agg #[.int .u8 y', .int .i64 n'])).run Tryd.prog w = .ok (.bool ((y == y') && (n == n'))) w := by
  rw [run_eql_struct, run_equalIn_agg _ _ _ _ _ und28 sih28, eqFields_two 9998 5 3 _ _ _ w .u8 .i64 y n y' n' fields28 Tryd.underlying5 Tryd.underlying3 (fun _ => by kernel_rfl) (fun _ => by kernel_rfl) (fun _ => by kernel_rfl) (fun _ => by kernel_rfl)]
  rfl
theorem run_neq28 (y n y' n' : Int) (w : World) : (binOp .neq 35 (.agg #[.int .u8 y, .int .i64 n]) (.agg #[.int .u8 y', .int .i64 n'])).run Tryd.prog w = .ok (.bool (!((y == y') && (n == n')))) w := by
  rw [run_neq_struct, run_equalIn_agg _ _ _ _ _ und28 sih28, eqFields_two 9998 5 3 _ _ _ w .u8 .i64 y n y' n' fields28 Tryd.underlying5 Tryd.underlying3 (fun _ => by kernel_rfl) (fun _ => by kernel_rfl) (fun _ => by kernel_rfl) (fun _ => by kernel_rfl)]
  rfl
theorem run_eql26 (y n y' n' : Int) (w : World) : (binOp .eql 38 (.agg #[.int .u8 y, .int .i64 n]) (.agg #[.int .u8 y', .int .i64 n'])).run Tryd.prog w = .ok (.bool ((y == y') && (n == n'))) w := by
  rw [run_eql_struct, run_equalIn_agg _ _ _ _ _ und26 sih26, eqFields_two 9998 36 3 _ _ _ w .u8 .i64 y n y' n' fields26 Tryd.underlying36 Tryd.underlying3 (fun _ => by kernel_rfl) (fun _ => by kernel_rfl) (fun _ => by kernel_rfl) (fun _ => by kernel_rfl)]
  rfl
theorem run_neq26 (y n y' n' : Int) (w : World) : (binOp .neq 38 (.agg #[.int .u8 y, .int .i64 n]) (.agg #[.int .u8 y', .int .i64 n'])).run Tryd.prog w = .ok (.bool (!((y == y') && (n == n')))) w := by
  rw [run_neq_struct, run_equalIn_agg _ _ _ _ _ und26 sih26, eqFields_two 9998 36 3 _ _ _ w .u8 .i64 y n y' n' fields26 Tryd.underlying36 Tryd.underlying3 (fun _ => by kernel_rfl) (fun _ => by kernel_rfl) (fun _ => by kernel_rfl) (fun _ => by kernel_rfl)]
  rfl
/-- Whether two names are one. -/
def sameNm (y n y' n' : Int) : Bool := (y == y') && (n == n')
theorem sameNm_iff {y n y' n' : Int} : sameNm y n y' n' = true ↔ (⟨y, n⟩ : Nm) = ⟨y', n'⟩ := by simp [sameNm]
theorem eql28 {y n y' n' : Int} {r : Bool} (h : sameNm y n y' n' = r) (w : World) : (binOp .eql 35 (.agg #[.int .u8 y, .int .i64 n]) (.agg #[.int .u8 y', .int .i64 n'])).run Tryd.prog w = .ok (.bool r) w := by
  rw [run_eql28, ← h]; rfl
theorem neq28 {y n y' n' : Int} {r : Bool} (h : sameNm y n y' n' = r) (w : World) : (binOp .neq 35 (.agg #[.int .u8 y, .int .i64 n]) (.agg #[.int .u8 y', .int .i64 n'])).run Tryd.prog w = .ok (.bool (!r)) w := by
  rw [run_neq28, ← h]; rfl
theorem eql26 {y n y' n' : Int} {r : Bool} (h : sameNm y n y' n' = r) (w : World) : (binOp .eql 38 (.agg #[.int .u8 y, .int .i64 n]) (.agg #[.int .u8 y', .int .i64 n'])).run Tryd.prog w = .ok (.bool r) w := by
  rw [run_eql26, ← h]; rfl
theorem neq26 {y n y' n' : Int} {r : Bool} (h : sameNm y n y' n' = r) (w : World) : (binOp .neq 38 (.agg #[.int .u8 y, .int .i64 n]) (.agg #[.int .u8 y', .int .i64 n'])).run Tryd.prog w = .ok (.bool (!r)) w := by
  rw [run_neq26, ← h]; rfl
theorem sameNm_no {y n y' n' : Int} (h : sameNm y n y' n' = false) : (⟨y, n⟩ : Nm) ≠ ⟨y', n'⟩ := fun e => by rw [sameNm_iff.2 e] at h; cases h
end Go.Proofs.YtjjnhmbgffdenaaDoor
namespace Go.Proofs.YtjjnhmbgffdenaaDoor
open Go.RowKit Go.WideMaps

theorem laidOut : laidOutB Tryd.prog = true := by kernel_rfl
theorem row28 : 35 < Tryd.prog.types.size := of_decide_eq_true (by kernel_rfl)
theorem law28 : Maps.Keyed Tryd.prog 35 := Maps.Keyed.of_law (deep_law_laid laidOut (m := 3) (by omega) row28 (by kernel_rfl) (by rw [show Tryd.prog.underlying 35 = _ from Tryd.underlying35]))

def key28 (y n : Int) : Option Lit :=
  ((do let a ← (if IntKind.u8 = IntKind.u8 ∧ (Lit.int .u8 y).wf = true then some [Lit.int .u8 y] else none)
       let b ← (if IntKind.i64 = IntKind.i64 ∧ (Lit.int .i64 n).wf = true then some [Lit.int .i64 n] else none)
       pure [a, b] : Option (List (List Lit))).map List.flatten).map fun ls => .string (keyBytes ls)
theorem keyOf28 (y n : Int) : keyOf Tryd.prog 35 (.agg #[.int .u8 y, .int .i64 n]) = key28 y n := by
  kernel_rfl
/-- What a name reads as. -/
def kl (p : Nm) : Lit := (key28 p.y p.n).getD (.bool false)
theorem kl_of {p : Nm} (h : Named p) : keyOf Tryd.prog 35 (.agg #[.int .u8 p.y, .int .i64 p.n]) = some (kl p) := by
  obtain ⟨h1, h2, h3, h4⟩ := h
  have w1 : (Lit.int .u8 p.y).wf = true := by have a1 : IntKind.u8.min = 0 := rfl; have a2 : IntKind.u8.max = 255 := rfl; have a3 : IntKind.i64.min = -9223372036854775808 := rfl; have a4 : IntKind.i64.max = 9223372036854775807 := rfl; simp [Lit.wf]; omega
  have w2 : (Lit.int .i64 p.n).wf = true := by have a1 : IntKind.u8.min = 0 := rfl; have a2 : IntKind.u8.max = 255 := rfl; have a3 : IntKind.i64.min = -9223372036854775808 := rfl; have a4 : IntKind.i64.max = 9223372036854775807 := rfl; simp [Lit.wf]; omega
  rw [keyOf28]
  simp [kl, key28, w1, w2]
theorem kl_inj {p q : Nm} (h : Named p) (h' : Named q) (e : kl p = kl q) : p = q := by
  have a := kl_of h
  rw [e] at a
  have := law28.inj a (kl_of h')
  obtain ⟨y, n⟩ := p
  obtain ⟨y', n'⟩ := q
  simp at this
  simp [this.1, this.2]
theorem kl_key {p : Nm} (h : Named p) : WideAt.IsKeyLit (kl p) := law28.key (kl_of h)

/-- The names that have been seen, as a map reads. -/
def seenD {H : Type} (ns : List Nm) : DataW H := ns.foldl (fun D p => D.put (kl p) (.lit (.bool true))) (.map [])
theorem seenD_snoc {H : Type} (ns : List Nm) (p : Nm) : seenD (H := H) (ns ++ [p]) = (seenD ns).put (kl p) (.lit (.bool true)) := by simp [seenD]
theorem seenD_from {H : Type} (p : Nm) (hp : Named p) (ns : List Nm) : ∀ (D : DataW H) (b : Bool), (∀ q ∈ ns, Named q) → Maps.IsMap D → D.atKey (kl p) (.lit (.bool false)) = .lit (.bool b) →
    (ns.foldl (fun D p => D.put (kl p) (.lit (.bool true))) D).atKey (kl p) (.lit (.bool false)) = .lit (.bool (b || decide (p ∈ ns))) := by
  induction ns with
  | nil => intro D b _ _ h; simpa using h
  | cons q ns ih =>
    intro D b h hD hb
    rw [List.foldl_cons]
    by_cases e : q = p
    · subst e
      rw [ih _ true (fun x hx => h x (List.mem_cons_of_mem _ hx)) (hD.put _ _) (Maps.atKey_put_same hD (kl_key hp) _ _)]
      simp
    · have hne : kl p ≠ kl q := fun h' => e (kl_inj (h q (List.mem_cons_self ..)) hp h'.symm)
      rw [ih _ b (fun x hx => h x (List.mem_cons_of_mem _ hx)) (hD.put _ _) ((Maps.atKey_put_other hne _ _).trans hb)]
      have e' : ¬ p = q := fun h => e h.symm
      simp [e']
theorem seenD_at {H : Type} {p : Nm} (hp : Named p) {ns : List Nm} (h : ∀ q ∈ ns, Named q) : (seenD (H := H) ns).atKey (kl p) (.lit (.bool false)) = .lit (.bool (decide (p ∈ ns))) := by
  have := seenD_from (H := H) p hp ns (.map []) false h Maps.isMap_empty rfl
  simpa [seenD] using this

theorem plainElem_bool_inv {H : Type} {P : Program} {e : TypeId} (he : P.underlying e = some .bool) {v : Value} {z : DataW H × List MemPlace} (h : plainElem P e v = some z) : ∃ b, v = .bool b ∧ z.1 = .lit (.bool b) := by
  unfold plainElem at h
  rw [he] at h
  cases v <;> simp at h
  obtain ⟨rfl⟩ := h
  exact ⟨_, rfl, rfl⟩

section
variable {F : Fence} {nF : Nat} {P : Program}
theorem wpListIn_lookup_own_bool {H : Type} (w : World) {ops : Array Oper} {rest : List Oper} {o : Oper} {a : Act} {Q : Exit → Act → World → Prop}
    (hg : o.guard = none) (m x : Operand) (t : TypeId) (hop : o.op = Op.lookup t m x false)
    (k e : TypeId) (K : Maps.Keyed P k) (ht : P.underlying t = some (.map k e)) (he : P.underlying e = some .bool) (hz : (zeroValue e).run P w = .ok (.bool false) w) (b n : Nat) (D : DataW H)
    (hm : a.eval m = .map (some b)) (hown : w.ownsMap P k (plainElem P e) b n D) (key : Value) (kl : Lit) (hx : a.eval x = key) (hkey : keyOf P k key = some kl)
    (hK : ∀ c : Bool, Hid (D.atKey kl (.lit (.bool false)) = .lit (.bool c)) → wpListIn F nF P ops Q rest (a.put o.dst (.bool c)) w) :
    wpListIn F nF P ops Q (o :: rest) a w := by
  refine wpListIn_plain hg fun K' hK' => ?_
  obtain ⟨v, ps, hrun, hv⟩ := hown.lookup K ht hz (plainElem_bool he false) hkey
  obtain ⟨c, rfl, hc⟩ := plainElem_bool_inv he hv
  unfold Oper.wpIn
  refine ⟨by simp [Oper.about, hop], ?_⟩
  rw [Oper.semAt_plain F _ _ (by rw [hop]; intro c hc'; cases hc')]
  simp [execOp, hop, hm, hx, hrun, Result.andThen]
  exact hK' _ _ (hK c (Lib.hid hc))
end
end Go.Proofs.YtjjnhmbgffdenaaDoor
namespace Go.Proofs.YtjjnhmbgffdenaaDoor
open Go.RowKit Go.Shelf
attribute [local go_sem] Oper.semAt_some

set_option maxRecDepth 100000 in
set_option maxHeartbeats 2000000 in
theorem each1_in (F : Fence) (n : Nat) (h34 : F.fn 65) (hro : F.round = none) (hn : 1 ≤ n) (l Bn n₀ : Nat) (d : Bds) {α : Type} (ev : α → El) (mk : El → α) (hmk : ∀ x ∈ d.els, ev (mk x) = x) (J Jx : List α → World → Prop)
    (hY : ∀ pre x W, J pre W → pre.length < d.els.length → YieldAt F (n - 1) Tryd.prog l (ev x).vs W fun e W' =>
      (e = .returned (.bool true) ∧ J (pre ++ [x]) W' ∧ Below n₀ W W') ∨ (e = .returned (.bool false) ∧ Jx (pre ++ [x]) W'))
    (W : World) (hc0 : W.cell? ⟨Bn, 0, none⟩ = some d.f.v) (hc1 : W.cell? ⟨Bn, 1, none⟩ = some d.b.v) (hd : d.ok n₀ W) (h0 : J [] W) :
    CallsIn F n Tryd.prog 65 #[.func (.yield l) #[] #[], .pointer (some ⟨Bn, 0, none⟩)] W fun e W' => (∃ v, e = .returned v) ∧
      ((∃ ys, ys = d.els.map mk ∧ J ys W') ∨ (∃ pre, pre <+: d.els.map mk ∧ Jx pre W')) := by
  refine callsIn_of_wp Tryd.func65 rfl h34 ?_ hro
  simp only [Tryd.ntmps65, List.size_toArray, List.length_cons, List.length_nil, Nat.reduceAdd, Nat.reduceSub, Array.replicate_succ, Array.replicate_zero, List.push_toArray, List.append_toArray, List.nil_append, List.cons_append]
  obtain ⟨fa, fs, fc, hf⟩ : ∃ fa fs fc, d.f = ⟨fa, fs, fc⟩ := ⟨_, _, _, rfl⟩
  obtain ⟨ba, bs, bc, hb⟩ : ∃ ba bs bc, d.b = ⟨ba, bs, bc⟩ := ⟨_, _, _, rfl⟩
  rw [hf] at hc0
  rw [hb] at hc1
  have c0 : W.cell? ⟨Bn, 0, none⟩ = some (.slice fa fs.length fc) := hc0
  have c1 : W.cell? ⟨Bn, 1, none⟩ = some (.slice ba bs.length bc) := hc1
  have HF := Lib.hid hf
  have HB := Lib.hid hb
  have HD := Lib.hid hd
  clear hc0 hc1 hf hb hd
  gi_wp2
  gi_loopw [12] (fun i wr => ∃ k : Nat, k ≤ 2 ∧ i = .int .i64 k ∧ J ((d.upto k).map mk) wr ∧ Below n₀ W wr) (fun i _ => 2 - (intOf i).toNat)
  case atStart => exact ⟨0, by omega, rfl, h0, Below.refl _ _⟩
  case round =>
    obtain ⟨k, hk, rfl, hJs, hnx⟩ := hrel
    by_cases hlt : k < 2
    · have HUS := Lib.hid (d.upto_succ hlt)
      obtain ⟨da, ds, dc, hbk⟩ : ∃ da ds dc, d.bed k = ⟨da, ds, dc⟩ := ⟨_, _, _, rfl⟩
      have hix : ∀ w, (Instr.index 111 (.agg #[.slice fa fs.length fc, .slice ba bs.length bc]) (.int .i64 k)).run Tryd.prog w = .ok (.slice da ds.length dc) w := by
        obtain rfl | rfl : k = 0 ∨ k = 1 := by omega
        · have := HF.out.symm.trans hbk; cases this; exact fun w => by kernel_rfl
        · have := HB.out.symm.trans hbk; cases this; exact fun w => by kernel_rfl
      have hcv : ∀ w, (convert 3 36 (.int .i64 k)).run Tryd.prog w = .ok (.int .u8 k) w := by
        obtain rfl | rfl : k = 0 ∨ k = 1 := by omega
        · exact fun w => by kernel_rfl
        · exact fun w => by kernel_rfl
      have HOK : Hid (Bed.ok n₀ wr ⟨da, ds, dc⟩) := Lib.hid (by rw [← hbk]; exact (HD.out.below hnx).bed k)
      have hds : ds.length ≤ 100 := HOK.out.1
      have HLEN : Hid (d.els.length ≥ (d.upto k).length + ds.length) := Lib.hid (by
        have := congrArg List.length HUS.out
        rw [List.length_append, Bed.els_length, hbk] at this
        have h2 : (d.upto (k + 1)).length ≤ d.els.length := by
          obtain rfl | rfl : k = 0 ∨ k = 1 := by omega
          · simp [Bds.upto, Bds.els]
          · simp [Bds.upto]
        simp only at this
        omega)
      have HBK := Lib.hid hbk
      clear hbk
      have hlt2 : decide ((k : Int) < 2) = true := by simp; omega
      gi_wp2
      obtain ⟨wo, rfl⟩ : ∃ wo : World, wo = wr := ⟨_, rfl⟩
      gi_loopw [18] (fun j wr => ∃ i : Nat, i ≤ ds.length ∧ j = .int .i64 i ∧ J ((d.upto k ++ (Bed.els ⟨da, ds, dc⟩ k).take i).map mk) wr ∧ Below n₀ wo wr) (fun j _ => ds.length - (intOf j).toNat)
      case atStart => exact ⟨0, by omega, rfl, by simpa using hJs, Below.refl _ _⟩
      case round =>
        obtain ⟨i, hi, rfl, hJi, hni⟩ := hrel
        by_cases hil : i < ds.length
        · obtain ⟨b, o, rfl, hb, hcc⟩ := (HOK.out.below hni).at (i := i) hil
          obtain ⟨ca, cl, cc, hce⟩ : ∃ ca cl cc, ds[i] = ⟨ca, cl, cc⟩ := ⟨_, _, _, rfl⟩
          have hcell : wr.cell? ⟨b, o + i, none⟩ = some (.slice ca cl.length cc) := by
            have := hcc; simp only at this; rw [hce] at this; exact this
          have hmem : (⟨k, i, ⟨ca, cl, cc⟩⟩ : El) ∈ d.els := by
            have h1 : (⟨k, i, ⟨ca, cl, cc⟩⟩ : El) ∈ (d.bed k).els k := by
              rw [HBK.out]
              simp only [Bed.els, List.mem_mapIdx]
              exact ⟨i, hil, by simp [hce]⟩
            unfold Bds.els
            rw [List.mem_append]
            obtain rfl | rfl : k = 0 ∨ k = 1 := by omega
            · exact .inl h1
            · exact .inr h1
          obtain ⟨fn, tmps, assign, body, hy, hR⟩ := hY _ (mk ⟨k, i, ⟨ca, cl, cc⟩⟩) wr hJi (by
            have := HLEN.out
            simp only [List.length_map, List.length_append, List.length_take, Bed.els_length]
            omega)
          rw [hmk _ hmem] at hy
          have HY : (Instr.yield l #[.agg #[.int .u8 k, .int .i64 ((i : Int) + 1)], .slice ca cl.length cc]).run Tryd.prog wr = .ok (.round l fn tmps assign body) wr := hy
          have HTS := Lib.hid (Bed.els_take_succ ⟨some ⟨b, o, none⟩, ds, dc⟩ k hil)
          clear hy hcc
          gi_wp2
          refine hR.mono ?_
          rintro e W3 (⟨rfl, hJ3, hk3⟩ | ⟨rfl, hJx3⟩)
          · gi_wp2
            go_roundw
            case rel =>
              refine ⟨i + 1, by omega, by simp, ?_, hni.trans hk3⟩
              rw [HTS.out, ← List.append_assoc, List.map_append]
              simp only [hce]
              exact hJ3
            case measure => simp [intOf]; omega
          · gi_wp2
            refine bodyPost_ret (results_none rfl _ _ _) rfl ?_
            refine ⟨⟨_, rfl⟩, .inr ⟨_, ?_, hJx3⟩⟩
            rw [← List.map_singleton, ← List.map_append]
            refine List.IsPrefix.map mk ?_
            have h2 : (d.upto k ++ (Bed.els ⟨some ⟨b, o, none⟩, ds, dc⟩ k).take i) ++ [⟨k, i, ⟨ca, cl, cc⟩⟩] <+: d.upto (k + 1) := by
              have e := HUS.out
              rw [HBK.out] at e
              have h3 := HTS.out
              rw [hce] at h3
              rw [← e, List.append_assoc, ← h3]
              exact (List.prefix_append_right_inj _).2 (List.take_prefix _ _)
            refine h2.trans ?_
            obtain rfl | rfl : k = 0 ∨ k = 1 := by omega
            · simp [Bds.upto, Bds.els]
            · simp [Bds.upto]
        · obtain rfl : i = ds.length := by omega
          gi_wp2
          go_roundw
          case rel => 
            refine ⟨k + 1, by omega, by simp, ?_, hnx.trans hni⟩
            have e := HUS.out
            rw [HBK.out] at e
            rw [← e]
            rw [List.take_of_length_le (by rw [Bed.els_length]; exact Nat.le_refl _)] at hJi
            exact hJi
          case measure => simp [intOf]; omega
    · obtain rfl : k = 2 := by omega
      gi_wp2
      go_end0
      exact ⟨⟨_, rfl⟩, .inl ⟨_, rfl, hJs⟩⟩

set_option maxHeartbeats 1000000 in
theorem each_in (F : Fence) (n : Nat) (h22 : F.fn 47) (hro : F.round = none) (fa ba : Option Addr) (fn_ fc bn bc : Nat) (w : World) :
    CallsIn F n Tryd.prog 47 #[.agg #[.slice fa fn_ fc, .slice ba bn bc]] w fun e w' => e = .returned (.func (.func 65) #[] #[.pointer (some ⟨w.heap.size, 0, none⟩)]) ∧ w' = w.alloc (.cells #[.slice fa fn_ fc, .slice ba bn bc] 26) := by
  refine callsIn_of_wp Tryd.func47 rfl h22 ?_ hro
  simp only [Tryd.ntmps47, List.size_toArray, List.length_cons, List.length_nil, Nat.reduceAdd, Nat.reduceSub, Array.replicate_succ, Array.replicate_zero, List.push_toArray, List.append_toArray, List.nil_append, List.cons_append]
  gi_wp2
  go_ret
  exact ⟨rfl, rfl⟩

/-- What 'each' hands back gives the stacks with their needles, or the first ones of them. -/
theorem each_stops (F : Fence) (n : Nat) (h34 : F.fn 65) (hro : F.round = none) (hn : 1 ≤ n) (Bn n₀ : Nat) (d : Bds) (w : World) (hBn : Bn < w.heap.size) (hn₀ : n₀ ≤ w.heap.size) {α : Type} (ev : α → El) (mk : El → α) (hmk : ∀ x ∈ d.els, ev (mk x) = x)
    (hc0 : w.cell? ⟨Bn, 0, none⟩ = some d.f.v) (hc1 : w.cell? ⟨Bn, 1, none⟩ = some d.b.v) (hd : d.ok n₀ w) :
    SeqStopsK F n Tryd.prog 65 #[.pointer (some ⟨Bn, 0, none⟩)] (fun x : α => (ev x).vs) (Below n₀) (fun ys => ys = d.els.map mk) (fun pre => pre <+: d.els.map mk) d.els.length w := fun l J Jx W hW _ _ hY h0 =>
  each1_in F n h34 hro hn l Bn n₀ d ev mk hmk J Jx hY W ((hW.cell (p := ⟨Bn, 0, none⟩) hBn).trans hc0) ((hW.cell (p := ⟨Bn, 1, none⟩) hBn).trans hc1) (hd.below (hW.mono hn₀)) h0
end Go.Proofs.YtjjnhmbgffdenaaDoor
namespace Go.Proofs.YtjjnhmbgffdenaaDoor
open Go.RowKit

/-- Whether a needle is valid. -/
def isN (b at_ : Int) : Bool := decide (b ≤ 1 ∧ 1 ≤ at_ ∧ at_ ≤ 40)
theorem isN_true {b a : Int} (h : isN b a = true) : b ≤ 1 ∧ 1 ≤ a ∧ a ≤ 40 := of_decide_eq_true h
theorem isN_false {b a : Int} (h : isN b a = false) : ¬ (b ≤ 1 ∧ 1 ≤ a ∧ a ≤ 40) := of_decide_eq_false h
theorem isN_mk {b a : Int} (h : b ≤ 1 ∧ 1 ≤ a ∧ a ≤ 40) : isN b a = true := decide_eq_true h
theorem isN_no {b a : Int} (h : ¬ (b ≤ 1 ∧ 1 ≤ a ∧ a ≤ 40)) : isN b a = false := decide_eq_false h

theorem ncheck_ok (b a : Int) (w : World) (h : isN b a = true) :
    Calls Tryd.prog 55 #[.agg #[.int .u8 b, .int .i64 a]] w fun e w' => e = .returned (.int .i64 0) ∧ Below w.heap.size w w' := by
  obtain ⟨h1, h2, h3⟩ := isN_true h
  clear h
  have g1 : ¬ 1 < b := by omega
  have g2 : ¬ a < 1 := by omega
  have g3 : ¬ 40 < a := by omega
  go_enter Tryd.func55, Tryd.ntmps55
  go_wp2
  go_ret
  exact ⟨rfl, below1 _ _⟩
theorem ncheck_bad (b a : Int) (w : World) (h : isN b a = false) :
    Calls Tryd.prog 55 #[.agg #[.int .u8 b, .int .i64 a]] w fun e w' => e = .returned (.int .i64 1) ∧ Below w.heap.size w w' := by
  have h0 := isN_false h
  clear h
  by_cases g1 : 1 < b
  · clear h0
    go_enter Tryd.func55, Tryd.ntmps55
    go_wp2
    go_ret
    exact ⟨rfl, below1 _ _⟩
  · by_cases g2 : a < 1
    · clear h0
      go_enter Tryd.func55, Tryd.ntmps55
      go_wp2
      go_ret
      exact ⟨rfl, below1 _ _⟩
    · have g3 : 40 < a := by omega
      clear h0
      go_enter Tryd.func55, Tryd.ntmps55
      go_wp2
      go_ret
      exact ⟨rfl, below1 _ _⟩

theorem isNeedle_any (b a : Int) (r : Bool) (w : World) (h : isN b a = r) :
    Calls Tryd.prog 48 #[.agg #[.int .u8 b, .int .i64 a]] w fun e w' => e = .returned (.bool r) ∧ Below w.heap.size w w' := by
  cases r
  · go_enter Tryd.func48, Tryd.ntmps48
    go_wp2_with (go_at_call 55; refine (ncheck_bad _ _ _ h).mono ?_; rintro e w1 ⟨rfl, hb1⟩)
    go_ret
    exact ⟨rfl, (below1 _ _).trans (hb1.mono (by simp))⟩
  · go_enter Tryd.func48, Tryd.ntmps48
    go_wp2_with (go_at_call 55; refine (ncheck_ok _ _ _ h).mono ?_; rintro e w1 ⟨rfl, hb1⟩)
    go_ret
    exact ⟨rfl, (below1 _ _).trans (hb1.mono (by simp))⟩

theorem named_ok (y n : Int) (w : World) (h1 : 1 ≤ y) (h2 : y ≤ 6) (h3 : 0 ≤ n) (h4 : n ≤ 2047) :
    Calls Tryd.prog 66 #[.agg #[.int .u8 y, .int .i64 n]] w fun e w' => e = .returned (.bool true) ∧ Below w.heap.size w w' := by
  go_enter Tryd.func66, Tryd.ntmps66
  go_wp2
  go_ret
  exact ⟨ret_bool (by simp; omega), below1 _ _⟩

theorem named_bad (y n : Int) (w : World) (h : ¬ (1 ≤ y ∧ y ≤ 6 ∧ 0 ≤ n ∧ n ≤ 2047)) :
    Calls Tryd.prog 66 #[.agg #[.int .u8 y, .int .i64 n]] w fun e w' => e = .returned (.bool false) ∧ Below w.heap.size w w' := by
  by_cases h1 : 1 ≤ y
  · by_cases h2 : y ≤ 6
    · by_cases h3 : 0 ≤ n
      · have h4 : 2048 ≤ n := by omega
        clear h
        go_enter Tryd.func66, Tryd.ntmps66
        go_wp2
        go_ret
        exact ⟨ret_bool (by simp; omega), below1 _ _⟩
      · have h3' : n < 0 := by omega
        clear h
        go_enter Tryd.func66, Tryd.ntmps66
        go_wp2
        go_ret
        exact ⟨rfl, below1 _ _⟩
    · have h2' : 6 < y := by omega
      clear h
      go_enter Tryd.func66, Tryd.ntmps66
      go_wp2
      go_ret
      exact ⟨rfl, below1 _ _⟩
  · have h1' : y < 1 := by omega
    clear h
    go_enter Tryd.func66, Tryd.ntmps66
    go_wp2
    go_ret
    exact ⟨rfl, below1 _ _⟩

/-- Whether a name is valid. -/
def namedB (p : Nm) : Bool := decide (Named p)
theorem named_any (p : Nm) (r : Bool) (w : World) (h : namedB p = r) :
    Calls Tryd.prog 66 #[.agg #[.int .u8 p.y, .int .i64 p.n]] w fun e w' => e = .returned (.bool r) ∧ Below w.heap.size w w' := by
  cases r
  · exact named_bad _ _ _ (of_decide_eq_false h)
  · have h := of_decide_eq_true h
    exact named_ok _ _ _ h.1 h.2.1 h.2.2.1 h.2.2.2

/-- The needle with an index (of the statements). -/
theorem needle_any (i : Nat) (w : World) (h : i < 80) :
    Calls Tryd.prog 28 #[.int .u8 i] w fun e w' => e = .returned (.agg #[.int .u8 ((i / 40 : Nat) : Int), .int .i64 ((i % 40 : Nat) + 1 : Int)]) ∧ Below w.heap.size w w' := by
  have e1 : (Int.tmod (i : Int) 80) = i := Int.tmod_eq_of_lt (by omega) (by omega)
  have e2 : (Int.tdiv (i : Int) 40) = ((i / 40 : Nat) : Int) := by rw [Int.tdiv_eq_ediv_of_nonneg (by omega)]; rfl
  have e3 : (Int.tmod (i : Int) 40) = ((i % 40 : Nat) : Int) := by rw [Int.tmod_eq_emod_of_nonneg (by omega)]; rfl
  go_enter Tryd.func28, Tryd.ntmps28
  go_wp2
  refine bodyPost_ret (v := .agg #[.int .u8 ((i : Int) / 40), .int .i64 (1 + (i : Int) % 40)]) (by simp [results, Tryd.results28, go_sem]) rfl ⟨?_, below1 _ _⟩
  rw [Int.add_comm]; rfl
end Go.Proofs.YtjjnhmbgffdenaaDoor
