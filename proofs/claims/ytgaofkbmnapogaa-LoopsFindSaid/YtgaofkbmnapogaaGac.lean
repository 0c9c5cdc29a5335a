import Derived.Test.YtgaofkbmnapogaaGab
import Derived.Laws.StructEq
import Derived.Maps.AppendAt
import Derived.Laws.CopyOwn
import Derived.Laws.OwnMore
import Derived.Deep.OwnRows
import Derived.Deep.RegionLaw
import Derived.Deep.QuietTactic
import Derived.BigQuiet
import Derived.Deep.Cut
import Derived.Maps.Own
import Derived.Maps.Views
import Derived.Maps.OwnOps
import Derived.Maps.OwnSet
import Derived.DeepKeys4
import Derived.WideKeyEntry
namespace Go.Proofs.Ytgaofkbmnapogaa
open Go.RowKit

/-- Does operation i wait for operation j? -/
def waits (ops : Array Oper) (i j : Nat) : Bool := match ops[i]? with
  | some o => o.after.any fun e => e.on == j && Region.binds .any e
  | none => false
/-- The operations from m on come behind all others, one by one. -/
def tailed (ops : Array Oper) (m : Nat) : Bool :=
  decide (m < ops.size) && ((List.range m).all fun j => (List.range (m + 1)).any fun k => decide (j < k) && waits ops k j) &&
  ((List.range ops.size).all fun i => decide (i ≤ m) || waits ops i (i - 1))

section
variable {P : Program} {ops : Array Oper} {Q : Exit → Act → World → Prop}

theorem waits_spec {i j : Nat} (h : waits ops i j = true) : ∃ o, ops[i]? = some o ∧ ∃ e ∈ o.after, e.on = j ∧ Region.binds .any e = true := by
  unfold waits at h
  cases ho : ops[i]? with
  | none => rw [ho] at h; cases h
  | some o =>
    rw [ho] at h
    simp only at h
    obtain ⟨k, hk, h2⟩ := Array.any_eq_true.1 h
    simp only [Bool.and_eq_true, beq_iff_eq] at h2
    exact ⟨o, rfl, _, Array.getElem_mem hk, h2.1, h2.2⟩

/-- The tail's operations, one behind another. -/
theorem tail_main {m : Nat} {dsts : List (Option Tmp)} (htidy : tidy ops dsts = true) (ht : tailed ops m = true) : ∀ (k t fuel : Nat) (listed : Array Bool) (a : Act) (w : World), m ≤ t → t + k = ops.size → listed.size = ops.size → (∀ j, listed.getD j false = decide (j < t)) → k ≤ fuel →
    wpOps P ops Q (List.range' t k) a w → wpAny P .any ops Q fuel listed a w := by
  simp only [tailed, Bool.and_eq_true, decide_eq_true_eq] at ht
  obtain ⟨⟨hm, hh⟩, htt⟩ := ht
  intro k
  induction k with
  | zero =>
    intro t fuel listed a w hmt htk hls hl hf h
    have hr : Region.ready .any ops listed = [] := by
      rw [List.eq_nil_iff_forall_not_mem]
      intro i hi
      obtain ⟨h1, o, ho, _⟩ := mem_ready.1 hi
      have hlt : i < ops.size := (Array.getElem?_eq_some_iff.1 ho).1
      have h2 := getD_false_of h1
      rw [hl] at h2
      exact absurd (of_decide_eq_false h2) (by omega)
    have hq : Q .normal a w := h
    cases fuel with
    | zero => exact ⟨hr, hq⟩
    | succ fuel => exact ⟨fun _ => hq, fun i hi => by rw [hr] at hi; cases hi⟩
  | succ k ih =>
    intro t fuel listed a w hmt htk hls hl hf h
    cases fuel with
    | zero => omega
    | succ fuel =>
      have htlt : t < ops.size := by omega
      have hto : ops[t]? = some ops[t] := Array.getElem?_eq_getElem htlt
      have htl : listed.getD t true = false := by
        have h1 : listed.getD t false = false := by rw [hl]; exact decide_eq_false (by omega)
        have h2 : t < listed.size := by omega
        simpa [h2] using h1
      have hready : t ∈ Region.ready .any ops listed := mem_ready.2 ⟨htl, _, hto, fun e he hb => by
        rw [hl]; exact decide_eq_true ((tidy_spec htidy hto).2.1 e he hb)⟩
      refine ⟨fun hr => (by rw [hr] at hready; cases hready), fun i hi => ?_⟩
      obtain ⟨h1, o, ho, hdep⟩ := mem_ready.1 hi
      have hlt : i < ops.size := (Array.getElem?_eq_some_iff.1 ho).1
      have h2 := getD_false_of h1
      rw [hl] at h2
      have hge : t ≤ i := Nat.le_of_not_lt (of_decide_eq_false h2)
      have hit : i = t := by
        by_cases e : i = t
        · exact e
        · exfalso
          have h3 := List.all_eq_true.1 htt i (List.mem_range.2 hlt)
          simp only [Bool.or_eq_true, decide_eq_true_eq] at h3
          rcases h3 with h3 | h3
          · omega
          · obtain ⟨o', ho', e', he', hon, hb⟩ := waits_spec h3
            rw [ho] at ho'
            obtain rfl := Option.some.inj ho'
            have h5 := hdep e' he' hb
            rw [hon, hl] at h5
            exact absurd (of_decide_eq_true h5) (by omega)
      subst hit
      rw [List.range'_succ, wpOps_cons] at h
      unfold wpOp at h ⊢
      rw [ho] at h ⊢
      have hnext : ∀ a' w', wpOps P ops Q (List.range' (i + 1) k) a' w' → wpAny P .any ops Q fuel (listed.setIfInBounds i true) a' w' := fun a' w' h' =>
        ih (i + 1) fuel _ a' w' (by omega) (by omega) (by simpa using hls) (fun j => by
          by_cases e : i = j
          · subst e
            have : i < listed.size := by omega
            simp [this]
          · rw [getD_set_ne false e, hl j]
            by_cases h : j < i
            · rw [decide_eq_true h, decide_eq_true (by omega)]
            · rw [decide_eq_false h, decide_eq_false (by omega)]) (by omega) h'
      simp only at h ⊢
      split
      · rename_i hw
        rw [if_pos hw] at h
        rcases h with h | h
        · exact .inl (Oper.wp_mono hnext h)
        · exact .inr h
      · rename_i hw
        rw [if_neg hw] at h
        exact hnext _ _ h


structure MidL (ops : Array Oper) (dom : Nat → Bool) (Psi : Nat → Array Bool → Value → World → Prop) (I : World → Prop) (a0 : Act) (listed : Array Bool) (a : Act) (w : World) : Prop where
  lsize : listed.size = ops.size
  asize : a.tmps.size = a0.tmps.size
  defers : a.defers = a0.defers
  outside : ∀ s, dom s = false → a.tmps.getD s undef = a0.tmps.getD s undef
  inv : I w
  psi : ∀ (i : Nat) (o : Oper), listed.getD i false = true → ops[i]? = some o → Psi i listed (slotOf o a) w
  closed : ∀ (i : Nat) (o : Oper), listed.getD i false = true → ops[i]? = some o → ∀ e ∈ o.after, Region.binds .any e = true → listed.getD e.on false = true

theorem MidL.next {dom : Nat → Bool} {Psi : Nat → Array Bool → Value → World → Prop} {I : World → Prop} {a0 : Act} {dsts : List (Option Tmp)} {listed : Array Bool} {a : Act} {w w' : World} {i : Nat} {o : Oper} {v : Value}
    (htidy : tidy ops dsts = true)
    (hdom : ∀ (i : Nat) (o : Oper) (d : Tmp), ops[i]? = some o → o.dst = some d → dom d = true ∧ d < a0.tmps.size)
    (hst : ∀ j x, j ≠ i → Psi j listed x w → Psi j (listed.setIfInBounds i true) x w') (hI : I w')
    (hJ : MidL ops dom Psi I a0 listed a w) (ho : ops[i]? = some o)
    (hdep : ∀ e ∈ o.after, Region.binds .any e = true → listed.getD e.on false = true) (hv : Psi i (listed.setIfInBounds i true) (valOf o v) w') : MidL ops dom Psi I a0 (listed.setIfInBounds i true) (a.put o.dst v) w' := by
  have hlt : i < ops.size := (Array.getElem?_eq_some_iff.1 ho).1
  have hil : (listed.setIfInBounds i true).getD i false = true := by
    have : i < listed.size := by have := hJ.lsize; omega
    simp [this]
  have hclosed : ∀ (j : Nat) (o' : Oper), (listed.setIfInBounds i true).getD j false = true → ops[j]? = some o' → ∀ e ∈ o'.after, Region.binds .any e = true → (listed.setIfInBounds i true).getD e.on false = true := by
    intro j o' hj ho' e he hb
    have : listed.getD e.on false = true := by
      by_cases e1 : i = j
      · subst e1
        rw [ho] at ho'
        obtain rfl := Option.some.inj ho'
        exact hdep e he hb
      · rw [getD_set_ne false e1] at hj
        exact hJ.closed j o' hj ho' e he hb
    by_cases e2 : i = e.on
    · rw [← e2]; exact hil
    · rw [getD_set_ne false e2]; exact this
  have hpsi : ∀ (j : Nat) (o' : Oper), (listed.setIfInBounds i true).getD j false = true → ops[j]? = some o' → Psi j (listed.setIfInBounds i true) (slotOf o' (a.put o.dst v)) w' := by
    intro j o' hj ho'
    by_cases e : j = i
    · subst e
      rw [ho] at ho'
      obtain rfl := Option.some.inj ho'
      have : slotOf o (a.put o.dst v) = valOf o v := by
        unfold slotOf valOf
        cases hd : o.dst with
        | none => rfl
        | some d =>
          obtain ⟨_, hdl⟩ := hdom j o d ho hd
          have hda : d < a.tmps.size := by rw [hJ.asize]; exact hdl
          show (a.put (some d) v).tmps.getD d undef = v
          rw [put_getD hda, if_pos rfl]
      rw [this]; exact hv
    · have hne : i ≠ j := fun h => e h.symm
      rw [getD_set_ne false hne] at hj
      have : slotOf o' (a.put o.dst v) = slotOf o' a := by
        unfold slotOf
        cases hd' : o'.dst with
        | none => rfl
        | some d' =>
          cases hd : o.dst with
          | none => rfl
          | some d =>
            obtain ⟨_, hdl⟩ := hdom i o d ho hd
            have hda : d < a.tmps.size := by rw [hJ.asize]; exact hdl
            show (a.put (some d) v).tmps.getD d' undef = a.tmps.getD d' undef
            rw [put_getD hda, if_neg fun h => by
              subst h
              exact e ((tidy_spec htidy ho).2.2 _ hd j o' ho' hd')]
      rw [this]
      exact hst j _ e (hJ.psi j o' hj ho')
  cases hd : o.dst with
  | none => exact ⟨by simpa using hJ.lsize, hJ.asize, hJ.defers, hJ.outside, hI, by rw [hd] at hpsi; exact hpsi, hclosed⟩
  | some d =>
    obtain ⟨hdm, hdl⟩ := hdom i o d ho hd
    have hda : d < a.tmps.size := by rw [hJ.asize]; exact hdl
    refine ⟨by simpa using hJ.lsize, by simpa [Act.put] using hJ.asize, by simpa [Act.put] using hJ.defers, fun s hs => ?_, hI, by rw [hd] at hpsi; exact hpsi, hclosed⟩
    show (a.put (some d) v).tmps.getD s undef = _
    rw [put_getD hda, if_neg (fun e => by subst e; rw [hdm] at hs; cases hs)]
    exact hJ.outside s hs

/-- A region that draws its order: each operation of the head leaves what was there; the tail comes behind all of it, in the written order. -/
theorem rgT3 {id : Nat} {a0 : Act} {w0 : World} (m : Nat) (dsts : List (Option Tmp)) (Psi : Nat → Array Bool → Value → World → Prop) (I : World → Prop) (R : Nat → World → World → Prop) (hm : P.follows .mixedOrders = true)
    (htidy : tidy ops dsts = true)
    (hbound : (dsts.all fun x => match x with | some d => decide (d < a0.tmps.size) | none => true) = true)
    (ht : tailed ops m = true)
    (stab : ∀ (i : Nat) (o : Oper), i < m → ops[i]? = some o → ∀ (L : Array Bool), i < L.size → (∀ e ∈ o.after, Region.binds .any e = true → L.getD e.on false = true) → ∀ j v w w', j ≠ i → I w → Psi j L v w → (w' = w ∨ R i w w') → Psi j (L.setIfInBounds i true) v w')
    (istab : ∀ i w w', I w → R i w w' → I w')
    (step : ∀ (i : Nat) (o : Oper), i < m → ops[i]? = some o → ∀ (L : Array Bool), i < L.size → L.getD i false = false → (∀ (j : Nat) (o' : Oper), L.getD j false = true → ops[j]? = some o' → ∀ e ∈ o'.after, Region.binds .any e = true → L.getD e.on false = true) → ∀ (a : Act) (w : World), a.tmps.size = a0.tmps.size → (∀ s, dsts.contains (some s) = false → a.tmps.getD s undef = a0.tmps.getD s undef) → I w →
      (∀ e ∈ o.after, Region.binds .any e = true → ∀ (o' : Oper), ops[e.on]? = some o' → Psi e.on L (slotOf o' a) w) →
      (Region.wanted o (yielded ops a.tmps) = true ∧ ∀ K : Act → World → Prop, (∀ v w', R i w w' → Psi i (L.setIfInBounds i true) (valOf o v) w' → K (a.put o.dst v) w') → o.wp P a w K Q) ∨
      (Region.wanted o (yielded ops a.tmps) = false ∧ Psi i (L.setIfInBounds i true) undef w))
    (fin : ∀ (a : Act) (w : World), a.tmps.size = a0.tmps.size → a.defers = a0.defers → (∀ s, dsts.contains (some s) = false → a.tmps.getD s undef = a0.tmps.getD s undef) →
      I w → (∀ (i : Nat) (o : Oper), i < m → ops[i]? = some o → ∃ L : Array Bool, (∀ j, L.getD j false = decide (j < m)) ∧ Psi i L (slotOf o a) w) → wpList P ops Q (ops.toList.drop m) a w)
    (h0 : I { w0 with drawn := w0.drawn + 1 }) : (Code.region id ops true).wp P Q a0 w0 := by
  have hdom := dom_of htidy hbound
  have ht' := ht
  simp only [tailed, Bool.and_eq_true, decide_eq_true_eq] at ht'
  obtain ⟨⟨hmlt, hh⟩, htt⟩ := ht'
  have main : ∀ (fuel : Nat) (listed : Array Bool) (a : Act) (w : World), (List.range ops.size).countP (fun i => !listed.getD i true) ≤ fuel → (∀ j, m ≤ j → listed.getD j false = false) →
      MidL ops (fun s => dsts.contains (some s)) Psi I a0 listed a w → wpAny P .any ops Q fuel listed a w := by
    intro fuel
    induction fuel with
    | zero =>
      intro listed a w hc hmj hJ
      exfalso
      have h1 := (List.countP_eq_zero.1 (Nat.le_zero.1 hc)) m (List.mem_range.2 hmlt)
      have h2 := hmj m (Nat.le_refl _)
      have h3 : m < listed.size := by have := hJ.lsize; omega
      simp [h3] at h1 h2
      rw [h2] at h1; cases h1
    | succ fuel ih =>
      intro listed a w hc hmj hJ
      -- are all of the head listed?
      by_cases hall : ∀ j, j < m → listed.getD j false = true
      · have hl : ∀ j, listed.getD j false = decide (j < m) := fun j => by
          by_cases h : j < m
          · rw [hall j h, decide_eq_true h]
          · rw [hmj j (by omega), decide_eq_false h]
        have hfin := fin a w hJ.asize hJ.defers hJ.outside hJ.inv fun i o hi ho => ⟨listed, hl, hJ.psi i o (hall i hi) ho⟩
        have hcount : ops.size - m ≤ fuel + 1 := by
          refine Nat.le_trans ?_ hc
          have e : (List.range ops.size).countP (fun i => !listed.getD i true) = (List.range ops.size).countP (fun i => decide (m ≤ i)) := by
            refine List.countP_congr fun i hi => ?_
            have hi' : i < listed.size := by have := hJ.lsize; have := List.mem_range.1 hi; omega
            have := hl i
            simp [hi'] at this ⊢
            rw [this]
            simp
          rw [e]
          have hsplit : List.range ops.size = List.range m ++ List.range' m (ops.size - m) := by
            rw [List.range_eq_range', List.range_eq_range', show ops.size = m + (ops.size - m) by omega, ← List.range'_append]
            simp
          rw [hsplit, List.countP_append]
          have h2 : (List.range' m (ops.size - m)).countP (fun i => decide (m ≤ i)) = ops.size - m := by
            rw [List.countP_eq_length.2 (fun x hx => by
              simp only [List.mem_range'_1] at hx
              exact decide_eq_true hx.1)]
            simp
          omega
        refine tail_main htidy ht (ops.size - m) m (fuel + 1) listed a w (Nat.le_refl _) (by omega) hJ.lsize hl hcount ?_
        have e := wpOps_eq_wpList (P := P) (ops := ops) (Q := Q) (ops.toList.drop m) m (fun j => by rw [List.getElem?_drop]; simp)
        have hlen : (ops.toList.drop m).length = ops.size - m := by simp
        rw [hlen] at e
        rw [e]
        exact hfin
      · have hnr : ∀ i ∈ Region.ready .any ops listed, i < m := by
          intro i hi
          obtain ⟨h1, o, ho, hdep⟩ := mem_ready.1 hi
          have hlt : i < ops.size := (Array.getElem?_eq_some_iff.1 ho).1
          by_cases him : i < m
          · exact him
          · exfalso
            by_cases e : i = m
            · subst e
              refine hall ?_
              -- from the last of the head down
              have down : ∀ d j, j + d + 1 = i → listed.getD j false = true := by
                intro d
                induction d using Nat.strongRecOn with
                | _ d ihd =>
                  intro j hj
                  have h3 := List.all_eq_true.1 hh j (List.mem_range.2 (by omega))
                  obtain ⟨k, hk, h4⟩ := List.any_eq_true.1 h3
                  have hk' := List.mem_range.1 hk
                  simp only [Bool.and_eq_true, decide_eq_true_eq] at h4
                  obtain ⟨o', ho', e', he', hon, hb⟩ := waits_spec h4.2
                  by_cases hki : k = i
                  · subst hki
                    rw [ho] at ho'
                    obtain rfl := Option.some.inj ho'
                    rw [← hon]; exact hdep e' he' hb
                  · have hkl := ihd (i - k - 1) (by omega) k (by omega)
                    rw [← hon]; exact hJ.closed k o' hkl ho' e' he' hb
              exact fun j hj => down (i - j - 1) j (by omega)
            · have h3 := List.all_eq_true.1 htt i (List.mem_range.2 hlt)
              simp only [Bool.or_eq_true, decide_eq_true_eq] at h3
              rcases h3 with h3 | h3
              · omega
              · obtain ⟨o', ho', e', he', hon, hb⟩ := waits_spec h3
                rw [ho] at ho'
                obtain rfl := Option.some.inj ho'
                have h5 := hdep e' he' hb
                rw [hon, hmj (i - 1) (by omega)] at h5
                cases h5
        have all_listed : Region.ready .any ops listed = [] → ∀ i, i < ops.size → listed.getD i false = true := by
          intro hr i
          induction i using Nat.strongRecOn with
          | _ i ihi =>
            intro hi
            cases hb : listed.getD i true with
            | true =>
              have hlt : i < listed.size := by have := hJ.lsize; omega
              simp only [Array.getD_eq_getD_getElem?, Array.getElem?_eq_getElem hlt, Option.getD_some] at hb ⊢
              exact hb
            | false =>
              exfalso
              have : i ∈ Region.ready .any ops listed := mem_ready.2 ⟨hb, ops[i], Array.getElem?_eq_getElem hi, fun e he hb2 => by
                have hlt := (tidy_spec htidy (Array.getElem?_eq_getElem hi)).2.1 e he hb2
                exact ihi e.on hlt (by omega)⟩
              rw [hr] at this
              cases this
        refine ⟨fun hr => absurd (fun j hj => all_listed hr j (by omega)) hall, fun i hi => ?_⟩
        have him := hnr i hi
        obtain ⟨h1, o, ho, hdep⟩ := mem_ready.1 hi
        have hlt : i < ops.size := (Array.getElem?_eq_some_iff.1 ho).1
        have hcount : (List.range ops.size).countP (fun j => !(listed.setIfInBounds i true).getD j true) ≤ fuel := by
          have := countP_lt (f := fun i => !listed.getD i true) (f' := fun j => !(listed.setIfInBounds i true).getD j true) (fun j hj => by
            by_cases e : i = j
            · subst e; simpa using h1
            · simpa [getD_set_ne true e] using hj) (i := i) (by simpa using h1) (by
              have : i < listed.size := by have := hJ.lsize; omega
              simp [this]) (List.range ops.size) (List.mem_range.2 hlt)
          omega
        have hmj' : ∀ j, m ≤ j → (listed.setIfInBounds i true).getD j false = false := fun j hj => by
          rw [getD_set_ne false (by omega)]; exact hmj j hj
        have hil : i < listed.size := by have := hJ.lsize; omega
        have hs := step i o him ho listed hil (getD_false_of h1) hJ.closed a w hJ.asize hJ.outside hJ.inv (fun e he hb o' ho' => hJ.psi e.on o' (hdep e he hb) ho')
        unfold wpOp
        rw [ho]
        rcases hs with ⟨hw, hs⟩ | ⟨hw, hv⟩
        · simp only [hw, if_true]
          exact .inl (hs _ fun v w' hR hpsi => ih _ _ _ hcount hmj' (hJ.next htidy hdom (fun j x hji h => stab i o him ho listed hil hdep j x w w' hji hJ.inv h (.inr hR)) (istab i _ _ hJ.inv hR) ho hdep hpsi))
        · simp only [hw]
          refine ih _ _ _ hcount hmj' (hJ.next htidy hdom (fun j x hji h => stab i o him ho listed hil hdep j x w w hji hJ.inv h (.inl rfl)) hJ.inv ho hdep ?_)
          have : valOf o undef = undef := by unfold valOf; cases o.dst <;> rfl
          rw [this]; exact hv
  refine wp_region_any hm (main _ _ _ _ ?_ (fun j hj => ?_) ⟨by simp, rfl, rfl, fun _ _ => rfl, h0, fun i o hl _ => ?_, fun i o hl _ => ?_⟩)
  · exact Nat.le_trans List.countP_le_length (by simp)
  · by_cases e : j < ops.size <;> simp [e]
  · by_cases e : i < ops.size <;> simp [e] at hl
  · by_cases e : i < ops.size <;> simp [e] at hl

/-- The same, where each operation of the head leaves what was there, and what is said of it does not hang on the others. -/
theorem rgT2 {id : Nat} {a0 : Act} {w0 : World} (m : Nat) (dsts : List (Option Tmp)) (Psi : Nat → Value → World → Prop) (I : World → Prop) (hm : P.follows .mixedOrders = true)
    (htidy : tidy ops dsts = true)
    (hbound : (dsts.all fun x => match x with | some d => decide (d < a0.tmps.size) | none => true) = true)
    (ht : tailed ops m = true)
    (stab : ∀ i v w w', Psi i v w → Below w.heap.size w w' → Psi i v w')
    (istab : ∀ w w', I w → Below w.heap.size w w' → I w')
    (step : ∀ (i : Nat) (o : Oper), i < m → ops[i]? = some o → ∀ (a : Act) (w : World), a.tmps.size = a0.tmps.size → (∀ s, dsts.contains (some s) = false → a.tmps.getD s undef = a0.tmps.getD s undef) → I w →
      (∀ e ∈ o.after, Region.binds .any e = true → ∀ (o' : Oper), ops[e.on]? = some o' → Psi e.on (slotOf o' a) w) →
      (Region.wanted o (yielded ops a.tmps) = true ∧ ∀ K : Act → World → Prop, (∀ v w', Below w.heap.size w w' → Psi i (valOf o v) w' → K (a.put o.dst v) w') → o.wp P a w K Q) ∨
      (Region.wanted o (yielded ops a.tmps) = false ∧ Psi i undef w))
    (fin : ∀ (a : Act) (w : World), a.tmps.size = a0.tmps.size → a.defers = a0.defers → (∀ s, dsts.contains (some s) = false → a.tmps.getD s undef = a0.tmps.getD s undef) →
      I w → (∀ (i : Nat) (o : Oper), i < m → ops[i]? = some o → Psi i (slotOf o a) w) → wpList P ops Q (ops.toList.drop m) a w)
    (h0 : I { w0 with drawn := w0.drawn + 1 }) : (Code.region id ops true).wp P Q a0 w0 :=
  rgT3 m dsts (fun i _ => Psi i) I (fun _ w w' => Below w.heap.size w w') hm htidy hbound ht
    (fun _ _ _ _ _ _ _ j v w w' _ _ h hb => by
      rcases hb with rfl | hb
      · exact h
      · exact stab j v w w' h hb)
    (fun _ w w' h hb => istab w w' h hb) (fun i o hi ho _ _ _ _ a w hs hout hI hdep => step i o hi ho a w hs hout hI hdep)
    (fun a w hs hd hout hI h => fin a w hs hd hout hI fun i o hi ho => (h i o hi ho).elim fun _ h => h.2) h0
end
end Go.Proofs.Ytgaofkbmnapogaa
namespace Go.Proofs.Ytgaofkbmnapogaa
open Go.RowKit Go.Sort
section
variable {P : Program} {ops : Array Oper} {Q : Exit → Act → World → Prop}
/-- As rgT3, with a fact over the whole frame that each operation keeps. -/
theorem rgT4 {id : Nat} {a0 : Act} {w0 : World} (m : Nat) (dsts : List (Option Tmp)) (Psi : Nat → Array Bool → Value → World → Prop) (I : World → Prop) (R : Nat → World → World → Prop) (X : Array Bool → Act → World → Prop) (hm : P.follows .mixedOrders = true)
    (htidy : tidy ops dsts = true)
    (hbound : (dsts.all fun x => match x with | some d => decide (d < a0.tmps.size) | none => true) = true)
    (ht : tailed ops m = true)
    (stab : ∀ (i : Nat) (o : Oper), i < m → ops[i]? = some o → ∀ (L : Array Bool), i < L.size → (∀ e ∈ o.after, Region.binds .any e = true → L.getD e.on false = true) → ∀ j v w w', j ≠ i → I w → Psi j L v w → (w' = w ∨ R i w w') → Psi j (L.setIfInBounds i true) v w')
    (istab : ∀ i w w', I w → R i w w' → I w')
    (step : ∀ (i : Nat) (o : Oper), i < m → ops[i]? = some o → ∀ (L : Array Bool), i < L.size → L.getD i false = false → (∀ (j : Nat) (o' : Oper), L.getD j false = true → ops[j]? = some o' → ∀ e ∈ o'.after, Region.binds .any e = true → L.getD e.on false = true) → ∀ (a : Act) (w : World), a.tmps.size = a0.tmps.size → (∀ s, dsts.contains (some s) = false → a.tmps.getD s undef = a0.tmps.getD s undef) → I w → X L a w →
      (∀ e ∈ o.after, Region.binds .any e = true → ∀ (o' : Oper), ops[e.on]? = some o' → Psi e.on L (slotOf o' a) w) →
      (Region.wanted o (yielded ops a.tmps) = true ∧ ∀ K : Act → World → Prop, (∀ v w', R i w w' → Psi i (L.setIfInBounds i true) (valOf o v) w' → X (L.setIfInBounds i true) (a.put o.dst v) w' → K (a.put o.dst v) w') → o.wp P a w K Q) ∨
      (Region.wanted o (yielded ops a.tmps) = false ∧ Psi i (L.setIfInBounds i true) undef w ∧ ∀ v, X (L.setIfInBounds i true) (a.put o.dst v) w))
    (fin : ∀ (a : Act) (w : World), a.tmps.size = a0.tmps.size → a.defers = a0.defers → (∀ s, dsts.contains (some s) = false → a.tmps.getD s undef = a0.tmps.getD s undef) →
      I w → (∃ L : Array Bool, (∀ j, L.getD j false = decide (j < m)) ∧ X L a w) → (∀ (i : Nat) (o : Oper), i < m → ops[i]? = some o → ∃ L : Array Bool, (∀ j, L.getD j false = decide (j < m)) ∧ Psi i L (slotOf o a) w) → wpList P ops Q (ops.toList.drop m) a w)
    (h0 : I { w0 with drawn := w0.drawn + 1 }) (hx0 : ∀ L : Array Bool, (∀ j, L.getD j false = false) → X L a0 { w0 with drawn := w0.drawn + 1 }) : (Code.region id ops true).wp P Q a0 w0 := by
  have hdom := dom_of htidy hbound
  have ht' := ht
  simp only [tailed, Bool.and_eq_true, decide_eq_true_eq] at ht'
  obtain ⟨⟨hmlt, hh⟩, htt⟩ := ht'
  have main : ∀ (fuel : Nat) (listed : Array Bool) (a : Act) (w : World), (List.range ops.size).countP (fun i => !listed.getD i true) ≤ fuel → (∀ j, m ≤ j → listed.getD j false = false) →
      MidL ops (fun s => dsts.contains (some s)) Psi I a0 listed a w → X listed a w → wpAny P .any ops Q fuel listed a w := by
    intro fuel
    induction fuel with
    | zero =>
      intro listed a w hc hmj hJ hX
      exfalso
      have h1 := (List.countP_eq_zero.1 (Nat.le_zero.1 hc)) m (List.mem_range.2 hmlt)
      have h2 := hmj m (Nat.le_refl _)
      have h3 : m < listed.size := by have := hJ.lsize; omega
      simp [h3] at h1 h2
      rw [h2] at h1; cases h1
    | succ fuel ih =>
      intro listed a w hc hmj hJ hX
      -- are all of the head listed?
      by_cases hall : ∀ j, j < m → listed.getD j false = true
      · have hl : ∀ j, listed.getD j false = decide (j < m) := fun j => by
          by_cases h : j < m
          · rw [hall j h, decide_eq_true h]
          · rw [hmj j (by omega), decide_eq_false h]
        have hfin := fin a w hJ.asize hJ.defers hJ.outside hJ.inv ⟨listed, hl, hX⟩ fun i o hi ho => ⟨listed, hl, hJ.psi i o (hall i hi) ho⟩
        have hcount : ops.size - m ≤ fuel + 1 := by
          refine Nat.le_trans ?_ hc
          have e : (List.range ops.size).countP (fun i => !listed.getD i true) = (List.range ops.size).countP (fun i => decide (m ≤ i)) := by
            refine List.countP_congr fun i hi => ?_
            have hi' : i < listed.size := by have := hJ.lsize; have := List.mem_range.1 hi; omega
            have := hl i
            simp [hi'] at this ⊢
            rw [this]
            simp
          rw [e]
          have hsplit : List.range ops.size = List.range m ++ List.range' m (ops.size - m) := by
            rw [List.range_eq_range', List.range_eq_range', show ops.size = m + (ops.size - m) by omega, ← List.range'_append]
            simp
          rw [hsplit, List.countP_append]
          have h2 : (List.range' m (ops.size - m)).countP (fun i => decide (m ≤ i)) = ops.size - m := by
            rw [List.countP_eq_length.2 (fun x hx => by
              simp only [List.mem_range'_1] at hx
              exact decide_eq_true hx.1)]
            simp
          omega
        refine tail_main htidy ht (ops.size - m) m (fuel + 1) listed a w (Nat.le_refl _) (by omega) hJ.lsize hl hcount ?_
        have e := wpOps_eq_wpList (P := P) (ops := ops) (Q := Q) (ops.toList.drop m) m (fun j => by rw [List.getElem?_drop]; simp)
        have hlen : (ops.toList.drop m).length = ops.size - m := by simp
        rw [hlen] at e
        rw [e]
        exact hfin
      · have hnr : ∀ i ∈ Region.ready .any ops listed, i < m := by
          intro i hi
          obtain ⟨h1, o, ho, hdep⟩ := mem_ready.1 hi
          have hlt : i < ops.size := (Array.getElem?_eq_some_iff.1 ho).1
          by_cases him : i < m
          · exact him
          · exfalso
            by_cases e : i = m
            · subst e
              refine hall ?_
              -- from the last of the head down
              have down : ∀ d j, j + d + 1 = i → listed.getD j false = true := by
                intro d
                induction d using Nat.strongRecOn with
                | _ d ihd =>
                  intro j hj
                  have h3 := List.all_eq_true.1 hh j (List.mem_range.2 (by omega))
                  obtain ⟨k, hk, h4⟩ := List.any_eq_true.1 h3
                  have hk' := List.mem_range.1 hk
                  simp only [Bool.and_eq_true, decide_eq_true_eq] at h4
                  obtain ⟨o', ho', e', he', hon, hb⟩ := waits_spec h4.2
                  by_cases hki : k = i
                  · subst hki
                    rw [ho] at ho'
                    obtain rfl := Option.some.inj ho'
                    rw [← hon]; exact hdep e' he' hb
                  · have hkl := ihd (i - k - 1) (by omega) k (by omega)
                    rw [← hon]; exact hJ.closed k o' hkl ho' e' he' hb
              exact fun j hj => down (i - j - 1) j (by omega)
            · have h3 := List.all_eq_true.1 htt i (List.mem_range.2 hlt)
              simp only [Bool.or_eq_true, decide_eq_true_eq] at h3
              rcases h3 with h3 | h3
              · omega
              · obtain ⟨o', ho', e', he', hon, hb⟩ := waits_spec h3
                rw [ho] at ho'
                obtain rfl := Option.some.inj ho'
                have h5 := hdep e' he' hb
                rw [hon, hmj (i - 1) (by omega)] at h5
                cases h5
        have all_listed : Region.ready .any ops listed = [] → ∀ i, i < ops.size → listed.getD i false = true := by
          intro hr i
          induction i using Nat.strongRecOn with
          | _ i ihi =>
            intro hi
            cases hb : listed.getD i true with
            | true =>
              have hlt : i < listed.size := by have := hJ.lsize; omega
              simp only [Array.getD_eq_getD_getElem?, Array.getElem?_eq_getElem hlt, Option.getD_some] at hb ⊢
              exact hb
            | false =>
              exfalso
              have : i ∈ Region.ready .any ops listed := mem_ready.2 ⟨hb, ops[i], Array.getElem?_eq_getElem hi, fun e he hb2 => by
                have hlt := (tidy_spec htidy (Array.getElem?_eq_getElem hi)).2.1 e he hb2
                exact ihi e.on hlt (by omega)⟩
              rw [hr] at this
              cases this
        refine ⟨fun hr => absurd (fun j hj => all_listed hr j (by omega)) hall, fun i hi => ?_⟩
        have him := hnr i hi
        obtain ⟨h1, o, ho, hdep⟩ := mem_ready.1 hi
        have hlt : i < ops.size := (Array.getElem?_eq_some_iff.1 ho).1
        have hcount : (List.range ops.size).countP (fun j => !(listed.setIfInBounds i true).getD j true) ≤ fuel := by
          have := countP_lt (f := fun i => !listed.getD i true) (f' := fun j => !(listed.setIfInBounds i true).getD j true) (fun j hj => by
            by_cases e : i = j
            · subst e; simpa using h1
            · simpa [getD_set_ne true e] using hj) (i := i) (by simpa using h1) (by
              have : i < listed.size := by have := hJ.lsize; omega
              simp [this]) (List.range ops.size) (List.mem_range.2 hlt)
          omega
        have hmj' : ∀ j, m ≤ j → (listed.setIfInBounds i true).getD j false = false := fun j hj => by
          rw [getD_set_ne false (by omega)]; exact hmj j hj
        have hil : i < listed.size := by have := hJ.lsize; omega
        have hs := step i o him ho listed hil (getD_false_of h1) hJ.closed a w hJ.asize hJ.outside hJ.inv hX (fun e he hb o' ho' => hJ.psi e.on o' (hdep e he hb) ho')
        unfold wpOp
        rw [ho]
        rcases hs with ⟨hw, hs⟩ | ⟨hw, hv, hXn⟩
        · simp only [hw, if_true]
          exact .inl (hs _ fun v w' hR hpsi hX' => ih _ _ _ hcount hmj' (hJ.next htidy hdom (fun j x hji h => stab i o him ho listed hil hdep j x w w' hji hJ.inv h (.inr hR)) (istab i _ _ hJ.inv hR) ho hdep hpsi) hX')
        · simp only [hw]
          refine ih _ _ _ hcount hmj' (hJ.next htidy hdom (fun j x hji h => stab i o him ho listed hil hdep j x w w hji hJ.inv h (.inl rfl)) hJ.inv ho hdep ?_) (hXn _)
          have : valOf o undef = undef := by unfold valOf; cases o.dst <;> rfl
          rw [this]; exact hv
  refine wp_region_any hm (main _ _ _ _ ?_ (fun j hj => ?_) ⟨by simp, rfl, rfl, fun _ _ => rfl, h0, fun i o hl _ => ?_, fun i o hl _ => ?_⟩ (hx0 _ fun j => ?_))
  · exact Nat.le_trans List.countP_le_length (by simp)
  · by_cases e : j < ops.size <;> simp [e]
  · by_cases e : i < ops.size <;> simp [e] at hl
  · by_cases e : i < ops.size <;> simp [e] at hl
  · by_cases e : j < ops.size <;> simp [e]
end
end Go.Proofs.Ytgaofkbmnapogaa
namespace Go.Proofs.Ytgaofkbmnapogaa
open Go.RowKit Go.Sort

/-- Two operations (i and j) that make a block each: the slots s and t lead to blocks that are there, and that differ. For rgT4. -/
def XTwo (i j : Nat) (s t : Tmp) (L : Array Bool) (a : Act) (w : World) : Prop :=
  (s < a.tmps.size ∧ t < a.tmps.size) ∧ (L.getD i false = true → ∃ b, a.tmps.getD s undef = .pointer (some ⟨b, 0, none⟩) ∧ b < w.heap.size) ∧ (L.getD j false = true → ∃ b, a.tmps.getD t undef = .pointer (some ⟨b, 0, none⟩) ∧ b < w.heap.size) ∧
    (L.getD i false = true → L.getD j false = true → a.tmps.getD s undef ≠ a.tmps.getD t undef)
theorem putD_other {a : Act} {d : Option Tmp} {v : Value} {s : Tmp} (h : d ≠ some s) : (a.put d v).tmps.getD s undef = a.tmps.getD s undef := by
  cases d with
  | none => rfl
  | some d =>
    show (a.tmps.setIfInBounds d v).getD s undef = _
    have : d ≠ s := fun e => h (by rw [e])
    simp [Array.getD_eq_getD_getElem?, Array.getElem?_setIfInBounds, this]
theorem putD_self {a : Act} {v : Value} {s : Tmp} (h : s < a.tmps.size) : (a.put (some s) v).tmps.getD s undef = v := by
  show (a.tmps.setIfInBounds s v).getD s undef = _
  simp [Array.getD_eq_getD_getElem?, Array.getElem?_setIfInBounds, h]
theorem put_size {a : Act} {d : Option Tmp} {v : Value} : (a.put d v).tmps.size = a.tmps.size := by
  cases d with
  | none => rfl
  | some d => show (a.tmps.setIfInBounds d v).size = _; simp
theorem XTwo.keep {i j k : Nat} {s t : Tmp} {L : Array Bool} {a : Act} {w w' : World} {d : Option Tmp} {v : Value} (h : XTwo i j s t L a w) (hi : k ≠ i) (hj : k ≠ j) (hs : d ≠ some s) (ht : d ≠ some t) (hw : w.heap.size ≤ w'.heap.size) :
    XTwo i j s t (L.setIfInBounds k true) (a.put d v) w' := by
  unfold XTwo
  rw [getD_set_ne false hi, getD_set_ne false hj, putD_other hs, putD_other ht, put_size]
  exact ⟨h.1, fun hl => (h.2.1 hl).imp fun b hb => ⟨hb.1, Nat.lt_of_lt_of_le hb.2 hw⟩, fun hl => (h.2.2.1 hl).imp fun b hb => ⟨hb.1, Nat.lt_of_lt_of_le hb.2 hw⟩, h.2.2.2⟩
theorem XTwo.one {i j : Nat} {s t : Tmp} {L : Array Bool} {a : Act} {w w' : World} (h : XTwo i j s t L a w) (hij : i ≠ j) (hst : s ≠ t) (hw : w.heap.size < w'.heap.size) :
    XTwo i j s t (L.setIfInBounds i true) (a.put (some s) (.pointer (some ⟨w.heap.size, 0, none⟩))) w' := by
  unfold XTwo
  rw [getD_set_ne false hij, putD_self h.1.1, putD_other (s := t) (fun e => hst (Option.some.inj e)), put_size]
  refine ⟨h.1, fun _ => ⟨_, rfl, hw⟩, fun hl => (h.2.2.1 hl).imp fun b hb => ⟨hb.1, Nat.lt_trans hb.2 hw⟩, fun _ hl e => ?_⟩
  obtain ⟨b, hb, hlt⟩ := h.2.2.1 hl
  rw [← e] at hb
  simp only [Value.pointer.injEq, Option.some.injEq, Addr.mk.injEq] at hb
  omega
theorem XTwo.two {i j : Nat} {s t : Tmp} {L : Array Bool} {a : Act} {w w' : World} (h : XTwo i j s t L a w) (hij : i ≠ j) (hst : s ≠ t) (hw : w.heap.size < w'.heap.size) :
    XTwo i j s t (L.setIfInBounds j true) (a.put (some t) (.pointer (some ⟨w.heap.size, 0, none⟩))) w' := by
  unfold XTwo
  rw [getD_set_ne false (Ne.symm hij), putD_self h.1.2, putD_other (s := s) (fun e => hst (Option.some.inj e).symm), put_size]
  refine ⟨h.1, fun hl => (h.2.1 hl).imp fun b hb => ⟨hb.1, Nat.lt_trans hb.2 hw⟩, fun _ => ⟨_, rfl, hw⟩, fun hl _ e => ?_⟩
  obtain ⟨b, hb, hlt⟩ := h.2.1 hl
  rw [e] at hb
  simp only [Value.pointer.injEq, Option.some.injEq, Addr.mk.injEq] at hb
  omega
theorem XTwo.start {i j : Nat} {s t : Tmp} {L : Array Bool} {a : Act} {w : World} (hL : ∀ k, L.getD k false = false) (hs : s < a.tmps.size) (ht : t < a.tmps.size) : XTwo i j s t L a w :=
  ⟨⟨hs, ht⟩, (fun h => by rw [hL] at h; cases h), (fun h => by rw [hL] at h; cases h), (fun h => by rw [hL] at h; cases h)⟩
end Go.Proofs.Ytgaofkbmnapogaa
namespace Go.Proofs.Ytgaofkbmnapogaa
open Go.RowKit Go.Sort
section
variable {P : Program} {ops : Array Oper} {Q : Exit → Act → World → Prop}
/-- As rgT2, with a slot (s) that only the tail writes: through the head it holds what it held. -/
theorem rgT2s {id : Nat} {a0 : Act} {w0 : World} (s : Tmp) (m : Nat) (dsts : List (Option Tmp)) (Psi : Nat → Value → World → Prop) (I : World → Prop) (hm : P.follows .mixedOrders = true)
    (htidy : tidy ops dsts = true)
    (hbound : (dsts.all fun x => match x with | some d => decide (d < a0.tmps.size) | none => true) = true)
    (ht : tailed ops m = true) (hsb : ((ops.toList.take m).all fun o => decide (o.dst ≠ some s)) = true)
    (stab : ∀ i v w w', Psi i v w → Below w.heap.size w w' → Psi i v w')
    (istab : ∀ w w', I w → Below w.heap.size w w' → I w')
    (step : ∀ (i : Nat) (o : Oper), i < m → ops[i]? = some o → ∀ (a : Act) (w : World), a.tmps.size = a0.tmps.size → (∀ s, dsts.contains (some s) = false → a.tmps.getD s undef = a0.tmps.getD s undef) → a.tmps.getD s undef = a0.tmps.getD s undef → I w →
      (∀ e ∈ o.after, Region.binds .any e = true → ∀ (o' : Oper), ops[e.on]? = some o' → Psi e.on (slotOf o' a) w) →
      (Region.wanted o (yielded ops a.tmps) = true ∧ ∀ K : Act → World → Prop, (∀ v w', Below w.heap.size w w' → Psi i (valOf o v) w' → K (a.put o.dst v) w') → o.wp P a w K Q) ∨
      (Region.wanted o (yielded ops a.tmps) = false ∧ Psi i undef w))
    (fin : ∀ (a : Act) (w : World), a.tmps.size = a0.tmps.size → a.defers = a0.defers → (∀ s, dsts.contains (some s) = false → a.tmps.getD s undef = a0.tmps.getD s undef) → a.tmps.getD s undef = a0.tmps.getD s undef →
      I w → (∀ (i : Nat) (o : Oper), i < m → ops[i]? = some o → Psi i (slotOf o a) w) → wpList P ops Q (ops.toList.drop m) a w)
    (h0 : I { w0 with drawn := w0.drawn + 1 }) : (Code.region id ops true).wp P Q a0 w0 := by
  have hs : ∀ (i : Nat) (o : Oper), i < m → ops[i]? = some o → o.dst ≠ some s := fun i o hi ho => by
    rw [List.all_eq_true] at hsb
    refine of_decide_eq_true (hsb o (List.mem_iff_getElem?.2 ⟨i, ?_⟩))
    rw [List.getElem?_take, if_pos hi]
    simpa using ho
  refine rgT4 m dsts (fun i _ v w => Psi i v w) I (fun _ w w' => Below w.heap.size w w') (fun _ a _ => a.tmps.getD s undef = a0.tmps.getD s undef) hm htidy hbound ht ?_ (fun _ _ _ h hb => istab _ _ h hb) ?_ ?_ h0 (fun _ _ => rfl)
  · intro i o hi ho L hL hd j v w w' hne hI h hb
    rcases hb with rfl | hb
    · exact h
    · exact stab _ _ _ _ h hb
  · intro i o hi ho L hL hLi hcl a w h1 h2 h3 hX hdep
    rcases step i o hi ho a w h1 h2 hX h3 hdep with ⟨hw, h⟩ | ⟨hw, h⟩
    · exact .inl ⟨hw, fun K hK => h K fun v w' hb hp => hK v w' hb hp (by rw [putD_other (hs i o hi ho)]; exact hX)⟩
    · exact .inr ⟨hw, h, fun v => by rw [putD_other (hs i o hi ho)]; exact hX⟩
  · intro a w h1 h2 h3 hI hX hall
    obtain ⟨L, _, hX⟩ := hX
    exact fin a w h1 h2 h3 hX hI fun i o hi ho => (hall i o hi ho).elim fun _ h => h.2
end
end Go.Proofs.Ytgaofkbmnapogaa
namespace Go.Proofs.Ytgaofkbmnapogaa
open Go.RowKit

theorem und28 : Try.prog.underlying 36 = some (.struct (Try.prog.fieldsOf 36)) := by kernel_rfl
theorem sih28 : Try.prog.stoodInHeld 36 = false := by kernel_rfl
theorem eqg28 : Try.prog.eqGuardType Try.prog.depth 36 = false := by kernel_rfl
theorem fields28 : ((Try.prog.fieldsOf 36).toList.map fun f => (f.name != "_", f.type, f.offset)) = [(true, 5, 0), (true, 3, 1)] := by kernel_rfl

theorem eqFields_two (d t1 t2 : Nat) (xs ys : Array Value) (fs : List Field) (w : World) (k1 k2 : IntKind) (a b a' b' : Int) (hf : (fs.map fun f => (f.name != "_", f.type, f.offset)) = [(true, t1, 0), (true, t2, 1)])
    (hu1 : Try.prog.underlying t1 = some (.int k1)) (hu2 : Try.prog.underlying t2 = some (.int k2)) (h1 : ∀ w, (part t1 xs 0).run Try.prog w = .ok (.int k1 a) w) (h2 : ∀ w, (part t2 xs 1).run Try.prog w = .ok (.int k2 b) w)
    (h1' : ∀ w, (part t1 ys 0).run Try.prog w = .ok (.int k1 a') w) (h2' : ∀ w, (part t2 ys 1).run Try.prog w = .ok (.int k2 b') w) :
    (Op.eqFields (d + 1) xs ys fs).run Try.prog w = .ok ((a == a') && (b == b')) w := by
  obtain ⟨f, g, rfl⟩ : ∃ f g, fs = [f, g] := by
    have hl : fs.length = 2 := by simpa using congrArg List.length hf
    cases fs with
    | nil => simp at hl
    | cons f fs => cases fs with
      | nil => simp at hl
      | cons g fs => cases fs with
        | nil => exact ⟨f, g, rfl⟩
        | cons x fs => simp at hl
  · skip
    simp only [List.map_cons, List.map_nil, List.cons.injEq, Prod.mk.injEq, and_true] at hf
    obtain ⟨⟨n1, e1, o1⟩, n2, e2, o2⟩ := hf
    have n1' : f.name ≠ "_" := by simpa using n1
    have n2' : g.name ≠ "_" := by simpa using n2
    simp only [Op.eqFields, n1', n2', ne_eq, not_false_eq_true, if_true, e1, e2, o1, o2, Sem.run_bind, h1, h2, h1', h2', Result.andThen_ok, run_equalIn_int _ _ _ _ _ _ _ hu1, run_equalIn_int _ _ _ _ _ _ _ hu2]
    cases a == a'
    · simp
    · simp only [Bool.not_true, Bool.false_eq_true, if_false, Sem.run_bind, h2, h2', Result.andThen_ok, run_equalIn_int _ _ _ _ _ _ _ hu2, Bool.true_and]
      cases b == b' <;> simp
theorem run_eql28 (y n y' n' : Int) (w : World) : (binOp .eql 36 (.agg #[.int .u8 y, .int .i64 n]) (.agg #[.int .u8 y', .int .i64 n'])).run Try.prog w = .ok (.bool ((y == y') && (n == n'))) w := by
  rw [run_eql_struct, run_equalIn_agg _ _ _ _ _ und28 sih28, eqFields_two 9998 5 3 _ _ _ w .u8 .i64 y n y' n' fields28 Try.underlying5 Try.underlying3 (fun _ => by kernel_rfl) (fun _ => by kernel_rfl) (fun _ => by kernel_rfl) (fun _ => by kernel_rfl)]
  rfl
theorem run_neq28 (y n y' n' : Int) (w : World) : (binOp .neq 36 (.agg #[.int .u8 y, .int .i64 n]) (.agg #[.int .u8 y', .int .i64 n'])).run Try.prog w = .ok (.bool (!((y == y') && (n == n')))) w := by
  rw [run_neq_struct, run_equalIn_agg _ _ _ _ _ und28 sih28, eqFields_two 9998 5 3 _ _ _ w .u8 .i64 y n y' n' fields28 Try.underlying5 Try.underlying3 (fun _ => by kernel_rfl) (fun _ => by kernel_rfl) (fun _ => by kernel_rfl) (fun _ => by kernel_rfl)]
  rfl
/-- Whether two names are one. -/
def sameNm (y n y' n' : Int) : Bool := (y == y') && (n == n')
theorem sameNm_iff {y n y' n' : Int} : sameNm y n y' n' = true ↔ (⟨y, n⟩ : Nm) = ⟨y', n'⟩ := by simp [sameNm]
theorem eql28 {y n y' n' : Int} {r : Bool} (h : sameNm y n y' n' = r) (w : World) : (binOp .eql 36 (.agg #[.int .u8 y, .int .i64 n]) (.agg #[.int .u8 y', .int .i64 n'])).run Try.prog w = .ok (.bool r) w := by
  rw [run_eql28, ← h]; rfl
theorem neq28 {y n y' n' : Int} {r : Bool} (h : sameNm y n y' n' = r) (w : World) : (binOp .neq 36 (.agg #[.int .u8 y, .int .i64 n]) (.agg #[.int .u8 y', .int .i64 n'])).run Try.prog w = .ok (.bool (!r)) w := by
  rw [run_neq28, ← h]; rfl
theorem sameNm_no {y n y' n' : Int} (h : sameNm y n y' n' = false) : (⟨y, n⟩ : Nm) ≠ ⟨y', n'⟩ := fun e => by rw [sameNm_iff.2 e] at h; cases h
end Go.Proofs.Ytgaofkbmnapogaa
namespace Go.Proofs.Ytgaofkbmnapogaa
open Go.RowKit Go.Sort
/-- The cells of a list of records of k cells. -/
def rcells {α : Type} (enc : α → List Value) (l : List α) : List Value := l.flatMap enc
theorem rcells_cons {α : Type} (enc : α → List Value) (x : α) (l : List α) : rcells enc (x :: l) = enc x ++ rcells enc l := rfl
theorem rcells_append {α : Type} (enc : α → List Value) (a b : List α) : rcells enc (a ++ b) = rcells enc a ++ rcells enc b := by simp [rcells]
theorem rcells_length {α : Type} (enc : α → List Value) (k : Nat) (hk : ∀ x, (enc x).length = k) (l : List α) : (rcells enc l).length = l.length * k := by
  induction l with
  | nil => simp [rcells]
  | cons x l ih =>
    have : rcells enc (x :: l) = enc x ++ rcells enc l := rfl
    rw [this, List.length_append, hk, ih, List.length_cons, Nat.add_mul]; omega
theorem rcells_one {α : Type} (enc : α → List Value) (h1 : ∀ x, ∀ v ∈ enc x, v.oneCell' = true) (l : List α) : ∀ v ∈ rcells enc l, v.oneCell' = true := by
  intro v hv
  simp only [rcells, List.mem_flatMap] at hv
  obtain ⟨x, _, hx⟩ := hv
  exact h1 x v hx
theorem rcells_at {α : Type} (enc : α → List Value) (k : Nat) (hk : ∀ x, (enc x).length = k) : ∀ (l : List α) (i : Nat) (x : α) (c : Nat), l[i]? = some x → c < k → (rcells enc l)[i * k + c]? = (enc x)[c]?
  | [], i, x, c, h, _ => by simp at h
  | y :: l, 0, x, c, h, hc => by
    obtain rfl : y = x := by simpa using h
    have : rcells enc (y :: l) = enc y ++ rcells enc l := rfl
    rw [this, Nat.zero_mul, Nat.zero_add, List.getElem?_append_left (by rw [hk]; exact hc)]
  | y :: l, i + 1, x, c, h, hc => by
    have : rcells enc (y :: l) = enc y ++ rcells enc l := rfl
    rw [this, List.getElem?_append_right (by rw [hk, Nat.add_mul]; omega), hk, show (i + 1) * k + c - k = i * k + c by rw [Nat.add_mul]; omega]
    exact rcells_at enc k hk l i x c (by simpa using h) hc
/-- A pass. -/
structure Pa where
  id : Nm
  f : Bool
  d : Int
deriving DecidableEq
instance : Inhabited Nm := ⟨⟨0, 0⟩⟩
instance : Inhabited Pa := ⟨⟨⟨0, 0⟩, false, 0⟩⟩
def Nm.enc (p : Nm) : List Value := [.int .u8 p.y, .int .i64 p.n]
def Pa.enc (p : Pa) : List Value := [.int .u8 p.id.y, .int .i64 p.id.n, .bool p.f, .int .u8 p.d]
def Pa.v (p : Pa) : Value := .agg #[.int .u8 p.id.y, .int .i64 p.id.n, .bool p.f, .int .u8 p.d]
theorem Nm.enc_len (h : Nm) : h.enc.length = 2 := rfl
theorem Pa.enc_len (h : Pa) : h.enc.length = 4 := rfl
theorem Nm.enc_one (h : Nm) : ∀ v ∈ h.enc, v.oneCell' = true := by
  intro v hv
  simp only [Nm.enc, List.mem_cons, List.not_mem_nil, or_false] at hv
  rcases hv with rfl | rfl <;> rfl
theorem Pa.enc_one (h : Pa) : ∀ v ∈ h.enc, v.oneCell' = true := by
  intro v hv
  simp only [Pa.enc, List.mem_cons, List.not_mem_nil, or_false] at hv
  rcases hv with rfl | rfl | rfl | rfl <;> rfl
/-- A slice of records as it lies in memory. -/
structure Sl (α : Type) where
  ao : Option Addr
  l : List α
  cap : Nat
def Sl.v {α : Type} (s : Sl α) : Value := .slice s.ao s.l.length s.cap
def Sl.nil {α : Type} : Sl α := ⟨none, [], 0⟩
def Sl.lie {α : Type} (enc : α → List Value) (N : Nat) (w : World) (s : Sl α) : Prop :=
  s.l = [] ∨ ∃ b o, s.ao = some ⟨b, o, none⟩ ∧ b < N ∧ ∀ j u, (rcells enc s.l)[j]? = some u → w.cell? ⟨b, o + j, none⟩ = some u
theorem Sl.nil_lie {α : Type} (enc : α → List Value) (N : Nat) (w : World) : (Sl.nil : Sl α).lie enc N w := .inl rfl
theorem Sl.lie.below {α : Type} {enc : α → List Value} {N : Nat} {w w' : World} {s : Sl α} (h : s.lie enc N w) (hb : Below N w w') : s.lie enc N w' :=
  h.imp id fun ⟨b, o, e, hl, hc⟩ => ⟨b, o, e, hl, fun j u hj => (hb.cell (p := ⟨b, o + j, none⟩) hl).trans (hc j u hj)⟩
theorem Sl.lie.mono {α : Type} {enc : α → List Value} {N M : Nat} {w : World} {s : Sl α} (h : s.lie enc N w) (hM : N ≤ M) : s.lie enc M w :=
  h.imp id fun ⟨b, o, e, hl, hc⟩ => ⟨b, o, e, Nat.lt_of_lt_of_le hl hM, hc⟩
theorem Sl.lie.at {α : Type} {enc : α → List Value} {k : Nat} (hk : ∀ x, (enc x).length = k) {N : Nat} {w : World} {s : Sl α} (h : s.lie enc N w) {i : Nat} {x : α} (hx : s.l[i]? = some x) :
    ∃ b o, s.ao = some ⟨b, o, none⟩ ∧ b < N ∧ ∀ c u, c < k → (enc x)[c]? = some u → w.cell? ⟨b, o + i * k + c, none⟩ = some u := by
  rcases h with h | ⟨b, o, e, hl, hc⟩
  · rw [h] at hx; simp at hx
  · refine ⟨b, o, e, hl, fun c u hck hu => ?_⟩
    rw [Nat.add_assoc]
    exact hc _ u (by rw [rcells_at enc k hk s.l i x c hx hck]; exact hu)
theorem Sl.lie.nm {N : Nat} {w : World} {s : Sl Nm} (h : s.lie Nm.enc N w) {i : Nat} {x : Nm} (hx : s.l[i]? = some x) :
    ∃ b o, s.ao = some ⟨b, o, none⟩ ∧ b < N ∧ w.cell? ⟨b, o + i * 2, none⟩ = some (.int .u8 x.y) ∧ w.cell? ⟨b, o + i * 2 + 1, none⟩ = some (.int .i64 x.n) := by
  obtain ⟨b, o, h1, h2, h3⟩ := h.at Nm.enc_len hx
  exact ⟨b, o, h1, h2, h3 0 _ (by decide) rfl, h3 1 _ (by decide) rfl⟩
theorem Sl.lie.pa {N : Nat} {w : World} {s : Sl Pa} (h : s.lie Pa.enc N w) {i : Nat} {x : Pa} (hx : s.l[i]? = some x) :
    ∃ b o, s.ao = some ⟨b, o, none⟩ ∧ b < N ∧ w.cell? ⟨b, o + i * 4, none⟩ = some (.int .u8 x.id.y) ∧ w.cell? ⟨b, o + i * 4 + 1, none⟩ = some (.int .i64 x.id.n) ∧ w.cell? ⟨b, o + i * 4 + 2, none⟩ = some (.bool x.f) ∧ w.cell? ⟨b, o + i * 4 + 3, none⟩ = some (.int .u8 x.d) := by
  obtain ⟨b, o, h1, h2, h3⟩ := h.at Pa.enc_len hx
  exact ⟨b, o, h1, h2, h3 0 _ (by decide) rfl, h3 1 _ (by decide) rfl, h3 2 _ (by decide) rfl, h3 3 _ (by decide) rfl⟩
/-- A loop as it lies in memory. -/
structure Lp where
  bed : Int
  nw : Bool
  th : Sl Nm
  pa : Sl Pa
def Lp.enc (x : Lp) : List Value := [.int .u8 x.bed, .bool x.nw, x.th.v, x.pa.v]
def Lp.v (x : Lp) : Value := .agg #[.int .u8 x.bed, .bool x.nw, x.th.v, x.pa.v]
theorem Lp.enc_len (h : Lp) : h.enc.length = 4 := rfl
theorem Lp.enc_one (h : Lp) : ∀ v ∈ h.enc, v.oneCell' = true := by
  intro v hv
  simp only [Lp.enc, List.mem_cons, List.not_mem_nil, or_false] at hv
  rcases hv with rfl | rfl | rfl | rfl <;> rfl
/-- A name's yarn is a byte. -/
def Nm.byte (p : Nm) : Prop := 0 ≤ p.y ∧ p.y ≤ 255
structure Lp.ok (N : Nat) (w : World) (x : Lp) : Prop where
  th : x.th.lie Nm.enc N w
  pa : x.pa.lie Pa.enc N w
  lt : x.th.l.length ≤ 100
  lp : x.pa.l.length ≤ 100
  bt : ∀ p ∈ x.th.l, p.byte
  bp : ∀ p ∈ x.pa.l, p.id.byte ∧ 0 ≤ p.d ∧ p.d ≤ 255
  bb : 0 ≤ x.bed ∧ x.bed ≤ 255
theorem Lp.ok.below {N : Nat} {w w' : World} {x : Lp} (h : x.ok N w) (hb : Below N w w') : x.ok N w' := ⟨h.th.below hb, h.pa.below hb, h.lt, h.lp, h.bt, h.bp, h.bb⟩
theorem Lp.ok.mono {N M : Nat} {w : World} {x : Lp} (h : x.ok N w) (hM : N ≤ M) : x.ok M w := ⟨h.th.mono hM, h.pa.mono hM, h.lt, h.lp, h.bt, h.bp, h.bb⟩
def rowEnc (r : Sl Lp) : List Value := [r.v]
theorem rowEnc_len (h : Sl Lp) : (rowEnc h).length = 1 := rfl
theorem rowEnc_one (h : Sl Lp) : ∀ v ∈ rowEnc h, v.oneCell' = true := by
  intro v hv
  simp only [rowEnc, List.mem_cons, List.not_mem_nil, or_false] at hv
  rcases hv with rfl; rfl
structure RowOk (N : Nat) (w : World) (r : Sl Lp) : Prop where
  lie : r.lie Lp.enc N w
  el : ∀ x ∈ r.l, x.ok N w
  len : r.l.length ≤ 100
theorem RowOk.below {N : Nat} {w w' : World} {r : Sl Lp} (h : RowOk N w r) (hb : Below N w w') : RowOk N w' r := ⟨h.lie.below hb, fun x hx => (h.el x hx).below hb, h.len⟩
theorem RowOk.mono {N M : Nat} {w : World} {r : Sl Lp} (h : RowOk N w r) (hM : N ≤ M) : RowOk M w r := ⟨h.lie.mono hM, fun x hx => (h.el x hx).mono hM, h.len⟩
/-- A table as it lies in memory. -/
abbrev Tb := Sl (Sl Lp)
structure Tb.ok (N : Nat) (w : World) (t : Tb) : Prop where
  lie : t.lie rowEnc N w
  el : ∀ r ∈ t.l, RowOk N w r
  len : t.l.length ≤ 100
theorem Tb.ok.below {N : Nat} {w w' : World} {t : Tb} (h : Tb.ok N w t) (hb : Below N w w') : Tb.ok N w' t := ⟨h.lie.below hb, fun x hx => (h.el x hx).below hb, h.len⟩
theorem Tb.ok.mono {N M : Nat} {w : World} {t : Tb} (h : Tb.ok N w t) (hM : N ≤ M) : Tb.ok M w t := ⟨h.lie.mono hM, fun x hx => (h.el x hx).mono hM, h.len⟩
theorem Tb.ok.row {N : Nat} {w : World} {t : Tb} (h : Tb.ok N w t) {i : Nat} {r : Sl Lp} (hr : t.l[i]? = some r) :
    ∃ b o, t.ao = some ⟨b, o, none⟩ ∧ b < N ∧ w.cell? ⟨b, o + i, none⟩ = some r.v ∧ RowOk N w r := by
  obtain ⟨b, o, h1, h2, h3⟩ := h.lie.at rowEnc_len hr
  have := h3 0 _ (by decide) rfl
  simp only [Nat.mul_one, Nat.add_zero] at this
  exact ⟨b, o, h1, h2, this, h.el r (List.mem_of_getElem? hr)⟩
theorem RowOk.loop {N : Nat} {w : World} {r : Sl Lp} (h : RowOk N w r) {i : Nat} {x : Lp} (hx : r.l[i]? = some x) :
    ∃ b o, r.ao = some ⟨b, o, none⟩ ∧ b < N ∧ w.cell? ⟨b, o + i * 4, none⟩ = some (.int .u8 x.bed) ∧ w.cell? ⟨b, o + i * 4 + 1, none⟩ = some (.bool x.nw) ∧ w.cell? ⟨b, o + i * 4 + 2, none⟩ = some x.th.v ∧ w.cell? ⟨b, o + i * 4 + 3, none⟩ = some x.pa.v ∧ x.ok N w := by
  obtain ⟨b, o, h1, h2, h3⟩ := h.lie.at Lp.enc_len hx
  exact ⟨b, o, h1, h2, h3 0 _ (by decide) rfl, h3 1 _ (by decide) rfl, h3 2 _ (by decide) rfl, h3 3 _ (by decide) rfl, h.el x (List.mem_of_getElem? hx)⟩
/-- A loop, as the document has it. -/
structure Lq where
  bed : Int
  nw : Bool
  th : List Nm
  pa : List Pa
deriving DecidableEq
def Lp.q (x : Lp) : Lq := ⟨x.bed, x.nw, x.th.l, x.pa.l⟩
def Tb.sem (t : Tb) : List (List Lq) := t.l.map fun r => r.l.map Lp.q
theorem Tb.sem_len (t : Tb) : t.sem.length = t.l.length := List.length_map ..
theorem Tb.sem_at {t : Tb} {i : Nat} {r : Sl Lp} (h : t.l[i]? = some r) : t.sem.getD i [] = r.l.map Lp.q := by
  unfold Tb.sem
  rw [List.getD_eq_getElem?_getD, List.getElem?_map, h]
  rfl
/-- Whether a table has a loop of a name. -/
def there (T : List (List Lq)) (p : Nm) : Bool := decide (1 ≤ p.y ∧ p.y ≤ T.length ∧ 0 ≤ p.n ∧ p.n < (T.getD (p.y - 1).toNat []).length)
end Go.Proofs.Ytgaofkbmnapogaa
namespace Go.Proofs.Ytgaofkbmnapogaa
open Go.RowKit Go.WideMaps

section
open Go.ChangeMaps Go.MapKept Go.ChangeShapes Go.WideShapes
open Go.WideElems (Fit)
variable {H : Type} {P : Program} {w : World} {t k e : TypeId} {b n : Nat} {D : DataW H} {q : IntKind}
/-- `m[key]++` in whatever order: looked up before or behind the entry's making, the number is the same. -/
theorem entry_own (h : w.ownsMap P k (plainElem P e) b n D) (K : Maps.Keyed P k) (KL : KeyLaw P k) (ht : P.underlying t = some (.map k e)) (he : P.underlying e = some (.int q))
    (hz : ∀ u : World, (zeroValue e).run P u = .ok (.int q 0) u) (hn : n < maxLen) {key : Value} {kl : Lit} (hkey : keyOf P k key = some kl) :
    ∃ (c : Int) (st : Nat) (w1 : World), (Instr.lookup t (.map (some b)) key false).run P w = .ok (.int q c) w ∧ D.atKey kl (.lit (.int q 0)) = .lit (.int q c) ∧
      (Instr.mapEntry t (.map (some b)) key).run P w = .ok (.tuple #[.int q c, goInt st]) w1 ∧ (Instr.lookup t (.map (some b)) key false).run P w1 = .ok (.int q c) w1 ∧ w.grownBy w1 (some b) ∧
      ∀ a : Int, (Lit.int q a).wf = true → ∃ w2, (Instr.entryStore t (.map (some b)) (goInt st) (.int q a)).run P w1 = .ok () w2 ∧ w2.ownsMap P k (plainElem P e) b (n + 1) (D.put kl (.lit (.int q a))) ∧ w.grownBy w2 (some b) := by
  obtain ⟨c, hL, hat, hwc⟩ := h.lookup_int K ht he (hz w) hkey
  obtain ⟨w9, hU, hown9, hg9⟩ := h.update K ht hn hkey (plainElem_int (H := H) he hwc)
  have h' := h
  obtain ⟨es, clock, hb, F, hs, hD⟩ := h'
  obtain ⟨v0, st, es1, clock1, hE, _, hS⟩ := WideElems.entry_then_store KL ht hz hb F hkey
  have hv : v0 = .int q c ∧ setBlock w b (.map es1 clock1) = w9 := by
    rcases KL.find w hkey es.toList F.keys with ⟨h1, h2⟩ | ⟨j, e0, h1, h2, h3⟩
    · have hc : c = 0 := by
        have := hL
        simp [Instr.lookup, run_underlying ht, MapKept.run_getObj_map hb, KL.check w es.isEmpty hkey, h1, hz, Result.andThen] at this
        exact this.symm
      subst hc
      have a := hE
      simp [Instr.mapEntry, run_underlying ht, MapKept.run_getObj_map hb, KL.check w false hkey, h1, hz, MapKept.run_setObj_map _ hb, Result.andThen] at a
      have u := hU
      simp [Instr.mapUpdate, run_underlying ht, MapKept.run_getObj_map hb, KL.check w false hkey, h1, MapKept.run_setObj_map _ hb, Result.andThen] at u
      refine ⟨a.1.1.symm, ?_⟩
      rw [← a.2]
      exact u
    · have hj : es[j]? = some e0 := by simpa using h2
      have hc : e0.val = .int q c := by
        have := hL
        simp [Instr.lookup, run_underlying ht, MapKept.run_getObj_map hb, KL.check w es.isEmpty hkey, h1, hz, Result.andThen] at this
        exact this
      have a := hE
      simp [Instr.mapEntry, run_underlying ht, MapKept.run_getObj_map hb, KL.check w false hkey, h1, hj, h3, KL.stays w hkey, MapKept.run_setObj_map _ hb, Result.andThen] at a
      have u := hU
      simp [Instr.mapUpdate, run_underlying ht, MapKept.run_getObj_map hb, KL.check w false hkey, h1, hj, h3, KL.stays w hkey, MapKept.run_setObj_map _ hb, Result.andThen] at u
      refine ⟨a.1.1.symm.trans hc, ?_⟩
      rw [← a.2, ← u]
      have hm : ∀ f g : MapEntry → MapEntry, f e0 = g e0 → es.modify j f = es.modify j g := fun f g hfg => by
        apply Array.ext'
        rw [Array.toList_modify, Array.toList_modify, modify_eq_set _ _ _ _ h2, modify_eq_set _ _ _ _ h2, hfg]
      first
        | rw [hm _ (fun e' => { e' with key := key, val := .int q c }) (by rw [← hc])]
        | (congr 1; congr 1; exact hm _ _ (by rw [← hc]))
        | (congr 2; exact hm _ _ (by rw [← hc]))
        | (congr 3; exact hm _ _ (by rw [← hc]))
  obtain ⟨rfl, hw9⟩ := hv
  obtain ⟨c', hL', hat', _⟩ := hown9.lookup_int K ht he (hz w9) hkey
  have hcc : c' = c := by
    rw [Maps.atKey_put_same (h.isMap) (K.key hkey)] at hat'
    simpa using hat'.symm
  subst hcc
  refine ⟨c', st, w9, hL, hat, by rw [hE, hw9], hL', hg9, fun a ha => ?_⟩
  obtain ⟨es', clock', r1, r2⟩ := hS w9 (.int q a) (by rw [← hw9]; exact heap_setBlock_same hb _)
  obtain ⟨w8, hU8, hown8, hg8⟩ := h.update K ht hn hkey (plainElem_int (H := H) he ha)
  refine ⟨w8, ?_, hown8, hg8⟩
  rw [r1]
  have : setBlock w9 b (.map es' clock') = setBlock w b (.map es' clock') := by
    rw [← hw9]; simp [setBlock]
  rw [this]
  have e := r2.symm.trans hU8
  simp at e
  rw [e]
end
end Go.Proofs.Ytgaofkbmnapogaa
