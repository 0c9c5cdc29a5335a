import Derived.Test.YtjjnhmbgffdenaaRg4
namespace Go.Proofs.Ytjjnhmbgffdenaa
open Go.RowKit

/-- Does operation i wait for operation j? -/
def waits (ops : Array Oper) (i j : Nat) : Bool := match ops[i]? with
  | some o => o.after.any fun e => e.on == j && Region.binds .any e
  | none => false
/-- The operations from m on come behind all others, one by one. -/
def tailed (ops : Array Oper) (m : Nat) : Bool :=
  decide (m < ops.size) && ((List.range m).all fun j => (List.range (m + 1)).any fun k => decide (j < k) && waits ops k j) &&
  ((List.range ops.size).all fun i => decide (i ≤ m) || waits ops i (i - 1))

section
variable {P : Program} {ops : Array Oper} {Q : Exit → Act → World → Prop}

theorem waits_spec {i j : Nat} (h : waits ops i j = true) : ∃ o, ops[i]? = some o ∧ ∃ e ∈ o.after, e.on = j ∧ Region.binds .any e = true := by
  unfold waits at h
  cases ho : ops[i]? with
  | none => rw [ho] at h; cases h
  | some o =>
    rw [ho] at h
    simp only at h
    obtain ⟨k, hk, h2⟩ := Array.any_eq_true.1 h
    simp only [Bool.and_eq_true, beq_iff_eq] at h2
    exact ⟨o, rfl, _, Array.getElem_mem hk, h2.1, h2.2⟩

/-- The tail's operations, one behind another. -/
theorem tail_main {m : Nat} {dsts : List (Option Tmp)} (htidy : tidy ops dsts = true) (ht : tailed ops m = true) : ∀ (k t fuel : Nat) (listed : Array Bool) (a : Act) (w : World), m ≤ t → t + k = ops.size → listed.size = ops.size → (∀ j, listed.getD j false = decide (j < t)) → k ≤ fuel →
    wpOps P ops Q (List.range' t k) a w → wpAny P .any ops Q fuel listed a w := by
  simp only [tailed, Bool.and_eq_true, decide_eq_true_eq] at ht
  obtain ⟨⟨hm, hh⟩, htt⟩ := ht
  intro k
  induction k with
  | zero =>
    intro t fuel listed a w hmt htk hls hl hf h
    have hr : Region.ready .any ops listed = [] := by
      rw [List.eq_nil_iff_forall_not_mem]
      intro i hi
      obtain ⟨h1, o, ho, _⟩ := mem_ready.1 hi
      have hlt : i < ops.size := (Array.getElem?_eq_some_iff.1 ho).1
      have h2 := getD_false_of h1
      rw [hl] at h2
      exact absurd (of_decide_eq_false h2) (by omega)
    have hq : Q .normal a w := h
    cases fuel with
    | zero => exact ⟨hr, hq⟩
    | succ fuel => exact ⟨fun _ => hq, fun i hi => by rw [hr] at hi; cases hi⟩
  | succ k ih =>
    intro t fuel listed a w hmt htk hls hl hf h
    cases fuel with
    | zero => omega
    | succ fuel =>
      have htlt : t < ops.size := by omega
      have hto : ops[t]? = some ops[t] := Array.getElem?_eq_getElem htlt
      have htl : listed.getD t true = false := by
        have h1 : listed.getD t false = false := by rw [hl]; exact decide_eq_false (by omega)
        have h2 : t < listed.size := by omega
        simpa [h2] using h1
      have hready : t ∈ Region.ready .any ops listed := mem_ready.2 ⟨htl, _, hto, fun e he hb => by
        rw [hl]; exact decide_eq_true ((tidy_spec htidy hto).2.1 e he hb)⟩
      refine ⟨fun hr => (by rw [hr] at hready; cases hready), fun i hi => ?_⟩
      obtain ⟨h1, o, ho, hdep⟩ := mem_ready.1 hi
      have hlt : i < ops.size := (Array.getElem?_eq_some_iff.1 ho).1
      have h2 := getD_false_of h1
      rw [hl] at h2
      have hge : t ≤ i := Nat.le_of_not_lt (of_decide_eq_false h2)
      have hit : i = t := by
        by_cases e : i = t
        · exact e
        · exfalso
          have h3 := List.all_eq_true.1 htt i (List.mem_range.2 hlt)
          simp only [Bool.or_eq_true, decide_eq_true_eq] at h3
          rcases h3 with h3 | h3
          · omega
          · obtain ⟨o', ho', e', he', hon, hb⟩ := waits_spec h3
            rw [ho] at ho'
            obtain rfl := Option.some.inj ho'
            have h5 := hdep e' he' hb
            rw [hon, hl] at h5
            exact absurd (of_decide_eq_true h5) (by omega)
      subst hit
      rw [List.range'_succ, wpOps_cons] at h
      unfold wpOp at h ⊢
      rw [ho] at h ⊢
      have hnext : ∀ a' w', wpOps P ops Q (List.range' (i + 1) k) a' w' → wpAny P .any ops Q fuel (listed.setIfInBounds i true) a' w' := fun a' w' h' =>
        ih (i + 1) fuel _ a' w' (by omega) (by omega) (by simpa using hls) (fun j => by
          by_cases e : i = j
          · subst e
            have : i < listed.size := by omega
            simp [this]
          · rw [getD_set_ne false e, hl j]
            by_cases h : j < i
            · rw [decide_eq_true h, decide_eq_true (by omega)]
            · rw [decide_eq_false h, decide_eq_false (by omega)]) (by omega) h'
      simp only at h ⊢
      split
      · rename_i hw
        rw [if_pos hw] at h
        rcases h with h | h
        · exact .inl (Oper.wp_mono hnext h)
        · exact .inr h
      · rename_i hw
        rw [if_neg hw] at h
        exact hnext _ _ h


structure MidL (ops : Array Oper) (dom : Nat → Bool) (Psi : Nat → Array Bool → Value → World → Prop) (I : World → Prop) (a0 : Act) (listed : Array Bool) (a : Act) (w : World) : Prop where
  lsize : listed.size = ops.size
  asize : a.tmps.size = a0.tmps.size
  defers : a.defers = a0.defers
  outside : ∀ s, dom s = false → a.tmps.getD s undef = a0.tmps.getD s undef
  inv : I w
  psi : ∀ (i : Nat) (o : Oper), listed.getD i false = true → ops[i]? = some o → Psi i listed (slotOf o a) w
  closed : ∀ (i : Nat) (o : Oper), listed.getD i false = true → ops[i]? = some o → ∀ e ∈ o.after, Region.binds .any e = true → listed.getD e.on false = true

theorem MidL.next {dom : Nat → Bool} {Psi : Nat → Array Bool → Value → World → Prop} {I : World → Prop} {a0 : Act} {dsts : List (Option Tmp)} {listed : Array Bool} {a : Act} {w w' : World} {i : Nat} {o : Oper} {v : Value}
    (htidy : tidy ops dsts = true)
    (hdom : ∀ (i : Nat) (o : Oper) (d : Tmp), ops[i]? = some o → o.dst = some d → dom d = true ∧ d < a0.tmps.size)
    (hst : ∀ j x, j ≠ i → Psi j listed x w → Psi j (listed.setIfInBounds i true) x w') (hI : I w')
    (hJ : MidL ops dom Psi I a0 listed a w) (ho : ops[i]? = some o)
    (hdep : ∀ e ∈ o.after, Region.binds .any e = true → listed.getD e.on false = true) (hv : Psi i (listed.setIfInBounds i true) (valOf o v) w') : MidL ops dom Psi I a0 (listed.setIfInBounds i true) (a.put o.dst v) w' := by
  have hlt : i < ops.size := (Array.getElem?_eq_some_iff.1 ho).1
  have hil : (listed.setIfInBounds i true).getD i false = true := by
    have : i < listed.size := by have := hJ.lsize; omega
    simp [this]
  have hclosed : ∀ (j : Nat) (o' : Oper), (listed.setIfInBounds i true).getD j false = true → ops[j]? = some o' → ∀ e ∈ o'.after, Region.binds .any e = true → (listed.setIfInBounds i true).getD e.on false = true := by
    intro j o' hj ho' e he hb
    have : listed.getD e.on false = true := by
      by_cases e1 : i = j
      · subst e1
        rw [ho] at ho'
        obtain rfl := Option.some.inj ho'
        exact hdep e he hb
      · rw [getD_set_ne false e1] at hj
        exact hJ.closed j o' hj ho' e he hb
    by_cases e2 : i = e.on
    · rw [← e2]; exact hil
    · rw [getD_set_ne false e2]; exact this
  have hpsi : ∀ (j : Nat) (o' : Oper), (listed.setIfInBounds i true).getD j false = true → ops[j]? = some o' → Psi j (listed.setIfInBounds i true) (slotOf o' (a.put o.dst v)) w' := by
    intro j o' hj ho'
    by_cases e : j = i
    · subst e
      rw [ho] at ho'
      obtain rfl := Option.some.inj ho'
      have : slotOf o (a.put o.dst v) = valOf o v := by
        unfold slotOf valOf
        cases hd : o.dst with
        | none => rfl
        | some d =>
          obtain ⟨_, hdl⟩ := hdom j o d ho hd
          have hda : d < a.tmps.size := by rw [hJ.asize]; exact hdl
          show (a.put (some d) v).tmps.getD d undef = v
          rw [put_getD hda, if_pos rfl]
      rw [this]; exact hv
    · have hne : i ≠ j := fun h => e h.symm
      rw [getD_set_ne false hne] at hj
      have : slotOf o' (a.put o.dst v) = slotOf o' a := by
        unfold slotOf
        cases hd' : o'.dst with
        | none => rfl
        | some d' =>
          cases hd : o.dst with
          | none => rfl
          | some d =>
            obtain ⟨_, hdl⟩ := hdom i o d ho hd
            have hda : d < a.tmps.size := by rw [hJ.asize]; exact hdl
            show (a.put (some d) v).tmps.getD d' undef = a.tmps.getD d' undef
            rw [put_getD hda, if_neg fun h => by
              subst h
              exact e ((tidy_spec htidy ho).2.2 _ hd j o' ho' hd')]
      rw [this]
      exact hst j _ e (hJ.psi j o' hj ho')
  cases hd : o.dst with
  | none => exact ⟨by simpa using hJ.lsize, hJ.asize, hJ.defers, hJ.outside, hI, by rw [hd] at hpsi; exact hpsi, hclosed⟩
  | some d =>
    obtain ⟨hdm, hdl⟩ := hdom i o d ho hd
    have hda : d < a.tmps.size := by rw [hJ.asize]; exact hdl
    refine ⟨by simpa using hJ.lsize, by simpa [Act.put] using hJ.asize, by simpa [Act.put] using hJ.defers, fun s hs => ?_, hI, by rw [hd] at hpsi; exact hpsi, hclosed⟩
    show (a.put (some d) v).tmps.getD s undef = _
    rw [put_getD hda, if_neg (fun e => by subst e; rw [hdm] at hs; cases hs)]
    exact hJ.outside s hs

/-- A region that draws its order: each operation of the head leaves what was there; the tail comes behind all of it, in the written order. -/
theorem rgT3 {id : Nat} {a0 : Act} {w0 : World} (m : Nat) (dsts : List (Option Tmp)) (Psi : Nat → Array Bool → Value → World → Prop) (I : World → Prop) (R : Nat → World → World → Prop) (hm : P.follows .mixedOrders = true)
    (htidy : tidy ops dsts = true)
    (hbound : (dsts.all fun x => match x with | some d => decide (d < a0.tmps.size) | none => true) = true)
    (ht : tailed ops m = true)
    (stab : ∀ (i : Nat) (o : Oper), i < m → ops[i]? = some o → ∀ (L : Array Bool), i < L.size → (∀ e ∈ o.after, Region.binds .any e = true → L.getD e.on false = true) → ∀ j v w w', j ≠ i → I w → Psi j L v w → (w' = w ∨ R i w w') → Psi j (L.setIfInBounds i true) v w')
    (istab : ∀ i w w', I w → R i w w' → I w')
    (step : ∀ (i : Nat) (o : Oper), i < m → ops[i]? = some o → ∀ (L : Array Bool), i < L.size → L.getD i false = false → (∀ (j : Nat) (o' : Oper), L.getD j false = true → ops[j]? = some o' → ∀ e ∈ o'.after, Region.binds .any e = true → L.getD e.on false = true) → ∀ (a : Act) (w : World), a.tmps.size = a0.tmps.size → (∀ s, dsts.contains (some s) = false → a.tmps.getD s undef = a0.tmps.getD s undef) → I w →
      (∀ e ∈ o.after, Region.binds .any e = true → ∀ (o' : Oper), ops[e.on]? = some o' → Psi e.on L (slotOf o' a) w) →
      (Region.wanted o (yielded ops a.tmps) = true ∧ ∀ K : Act → World → Prop, (∀ v w', R i w w' → Psi i (L.setIfInBounds i true) (valOf o v) w' → K (a.put o.dst v) w') → o.wp P a w K Q) ∨
      (Region.wanted o (yielded ops a.tmps) = false ∧ Psi i (L.setIfInBounds i true) undef w))
    (fin : ∀ (a : Act) (w : World), a.tmps.size = a0.tmps.size → a.defers = a0.defers → (∀ s, dsts.contains (some s) = false → a.tmps.getD s undef = a0.tmps.getD s undef) →
      I w → (∀ (i : Nat) (o : Oper), i < m → ops[i]? = some o → ∃ L : Array Bool, (∀ j, L.getD j false = decide (j < m)) ∧ Psi i L (slotOf o a) w) → wpList P ops Q (ops.toList.drop m) a w)
    (h0 : I { w0 with drawn := w0.drawn + 1 }) : (Code.region id ops true).wp P Q a0 w0 := by
  have hdom := dom_of htidy hbound
  have ht' := ht
  simp only [tailed, Bool.and_eq_true, decide_eq_true_eq] at ht'
  obtain ⟨⟨hmlt, hh⟩, htt⟩ := ht'
  have main : ∀ (fuel : Nat) (listed : Array Bool) (a : Act) (w : World), (List.range ops.size).countP (fun i => !listed.getD i true) ≤ fuel → (∀ j, m ≤ j → listed.getD j false = false) →
      MidL ops (fun s => dsts.contains (some s)) Psi I a0 listed a w → wpAny P .any ops Q fuel listed a w := by
    intro fuel
    induction fuel with
    | zero =>
      intro listed a w hc hmj hJ
      exfalso
      have h1 := (List.countP_eq_zero.1 (Nat.le_zero.1 hc)) m (List.mem_range.2 hmlt)
      have h2 := hmj m (Nat.le_refl _)
      have h3 : m < listed.size := by have := hJ.lsize; omega
      simp [h3] at h1 h2
      rw [h2] at h1; cases h1
    | succ fuel ih =>
      intro listed a w hc hmj hJ
      -- are all of the head listed?
      by_cases hall : ∀ j, j < m → listed.getD j false = true
      · have hl : ∀ j, listed.getD j false = decide (j < m) := fun j => by
          by_cases h : j < m
          · rw [hall j h, decide_eq_true h]
          · rw [hmj j (by omega), decide_eq_false h]
        have hfin := fin a w hJ.asize hJ.defers hJ.outside hJ.inv fun i o hi ho => ⟨listed, hl, hJ.psi i o (hall i hi) ho⟩
        have hcount : ops.size - m ≤ fuel + 1 := by
          refine Nat.le_trans ?_ hc
          have e : (List.range ops.size).countP (fun i => !listed.getD i true) = (List.range ops.size).countP (fun i => decide (m ≤ i)) := by
            refine List.countP_congr fun i hi => ?_
            have hi' : i < listed.size := by have := hJ.lsize; have := List.mem_range.1 hi; omega
            have := hl i
            simp [hi'] at this ⊢
            rw [this]
            simp
          rw [e]
          have hsplit : List.range ops.size = List.range m ++ List.range' m (ops.size - m) := by
            rw [List.range_eq_range', List.range_eq_range', show ops.size = m + (ops.size - m) by omega, ← List.range'_append]
            simp
          rw [hsplit, List.countP_append]
          have h2 : (List.range' m (ops.size - m)).countP (fun i => decide (m ≤ i)) = ops.size - m := by
            rw [List.countP_eq_length.2 (fun x hx => by
              simp only [List.mem_range'_1] at hx
              exact decide_eq_true hx.1)]
            simp
          omega
        refine tail_main htidy ht (ops.size - m) m (fuel + 1) listed a w (Nat.le_refl _) (by omega) hJ.lsize hl hcount ?_
        have e := wpOps_eq_wpList (P := P) (ops := ops) (Q := Q) (ops.toList.drop m) m (fun j => by rw [List.getElem?_drop]; simp)
        have hlen : (ops.toList.drop m).length = ops.size - m := by simp
        rw [hlen] at e
        rw [e]
        exact hfin
      · have hnr : ∀ i ∈ Region.ready .any ops listed, i < m := by
          intro i hi
          obtain ⟨h1, o, ho, hdep⟩ := mem_ready.1 hi
          have hlt : i < ops.size := (Array.getElem?_eq_some_iff.1 ho).1
          by_cases him : i < m
          · exact him
          · exfalso
            by_cases e : i = m
            · subst e
              refine hall ?_
              -- from the last of the head down
              have down : ∀ d j, j + d + 1 = i → listed.getD j false = true := by
                intro d
                induction d using Nat.strongRecOn with
                | _ d ihd =>
                  intro j hj
                  have h3 := List.all_eq_true.1 hh j (List.mem_range.2 (by omega))
                  obtain ⟨k, hk, h4⟩ := List.any_eq_true.1 h3
                  have hk' := List.mem_range.1 hk
                  simp only [Bool.and_eq_true, decide_eq_true_eq] at h4
                  obtain ⟨o', ho', e', he', hon, hb⟩ := waits_spec h4.2
                  by_cases hki : k = i
                  · subst hki
                    rw [ho] at ho'
                    obtain rfl := Option.some.inj ho'
                    rw [← hon]; exact hdep e' he' hb
                  · have hkl := ihd (i - k - 1) (by omega) k (by omega)
                    rw [← hon]; exact hJ.closed k o' hkl ho' e' he' hb
              exact fun j hj => down (i - j - 1) j (by omega)
            · have h3 := List.all_eq_true.1 htt i (List.mem_range.2 hlt)
              simp only [Bool.or_eq_true, decide_eq_true_eq] at h3
              rcases h3 with h3 | h3
              · omega
              · obtain ⟨o', ho', e', he', hon, hb⟩ := waits_spec h3
                rw [ho] at ho'
                obtain rfl := Option.some.inj ho'
                have h5 := hdep e' he' hb
                rw [hon, hmj (i - 1) (by omega)] at h5
                cases h5
        have all_listed : Region.ready .any ops listed = [] → ∀ i, i < ops.size → listed.getD i false = true := by
          intro hr i
          induction i using Nat.strongRecOn with
          | _ i ihi =>
            intro hi
            cases hb : listed.getD i true with
            | true =>
              have hlt : i < listed.size := by have := hJ.lsize; omega
              simp only [Array.getD_eq_getD_getElem?, Array.getElem?_eq_getElem hlt, Option.getD_some] at hb ⊢
              exact hb
            | false =>
              exfalso
              have : i ∈ Region.ready .any ops listed := mem_ready.2 ⟨hb, ops[i], Array.getElem?_eq_getElem hi, fun e he hb2 => by
                have hlt := (tidy_spec htidy (Array.getElem?_eq_getElem hi)).2.1 e he hb2
                exact ihi e.on hlt (by omega)⟩
              rw [hr] at this
              cases this
        refine ⟨fun hr => absurd (fun j hj => all_listed hr j (by omega)) hall, fun i hi => ?_⟩
        have him := hnr i hi
        obtain ⟨h1, o, ho, hdep⟩ := mem_ready.1 hi
        have hlt : i < ops.size := (Array.getElem?_eq_some_iff.1 ho).1
        have hcount : (List.range ops.size).countP (fun j => !(listed.setIfInBounds i true).getD j true) ≤ fuel := by
          have := countP_lt (f := fun i => !listed.getD i true) (f' := fun j => !(listed.setIfInBounds i true).getD j true) (fun j hj => by
            by_cases e : i = j
            · subst e; simpa using h1
            · simpa [getD_set_ne true e] using hj) (i := i) (by simpa using h1) (by
              have : i < listed.size := by have := hJ.lsize; omega
              simp [this]) (List.range ops.size) (List.mem_range.2 hlt)
          omega
        have hmj' : ∀ j, m ≤ j → (listed.setIfInBounds i true).getD j false = false := fun j hj => by
          rw [getD_set_ne false (by omega)]; exact hmj j hj
        have hil : i < listed.size := by have := hJ.lsize; omega
        have hs := step i o him ho listed hil (getD_false_of h1) hJ.closed a w hJ.asize hJ.outside hJ.inv (fun e he hb o' ho' => hJ.psi e.on o' (hdep e he hb) ho')
        unfold wpOp
        rw [ho]
        rcases hs with ⟨hw, hs⟩ | ⟨hw, hv⟩
        · simp only [hw, if_true]
          exact .inl (hs _ fun v w' hR hpsi => ih _ _ _ hcount hmj' (hJ.next htidy hdom (fun j x hji h => stab i o him ho listed hil hdep j x w w' hji hJ.inv h (.inr hR)) (istab i _ _ hJ.inv hR) ho hdep hpsi))
        · simp only [hw]
          refine ih _ _ _ hcount hmj' (hJ.next htidy hdom (fun j x hji h => stab i o him ho listed hil hdep j x w w hji hJ.inv h (.inl rfl)) hJ.inv ho hdep ?_)
          have : valOf o undef = undef := by unfold valOf; cases o.dst <;> rfl
          rw [this]; exact hv
  refine wp_region_any hm (main _ _ _ _ ?_ (fun j hj => ?_) ⟨by simp, rfl, rfl, fun _ _ => rfl, h0, fun i o hl _ => ?_, fun i o hl _ => ?_⟩)
  · exact Nat.le_trans List.countP_le_length (by simp)
  · by_cases e : j < ops.size <;> simp [e]
  · by_cases e : i < ops.size <;> simp [e] at hl
  · by_cases e : i < ops.size <;> simp [e] at hl

/-- The same, where each operation of the head leaves what was there, and what is said of it does not hang on the others. -/
theorem rgT2 {id : Nat} {a0 : Act} {w0 : World} (m : Nat) (dsts : List (Option Tmp)) (Psi : Nat → Value → World → Prop) (I : World → Prop) (hm : P.follows .mixedOrders = true)
    (htidy : tidy ops dsts = true)
    (hbound : (dsts.all fun x => match x with | some d => decide (d < a0.tmps.size) | none => true) = true)
    (ht : tailed ops m = true)
    (stab : ∀ i v w w', Psi i v w → Below w.heap.size w w' → Psi i v w')
    (istab : ∀ w w', I w → Below w.heap.size w w' → I w')
    (step : ∀ (i : Nat) (o : Oper), i < m → ops[i]? = some o → ∀ (a : Act) (w : World), a.tmps.size = a0.tmps.size → (∀ s, dsts.contains (some s) = false → a.tmps.getD s undef = a0.tmps.getD s undef) → I w →
      (∀ e ∈ o.after, Region.binds .any e = true → ∀ (o' : Oper), ops[e.on]? = some o' → Psi e.on (slotOf o' a) w) →
      (Region.wanted o (yielded ops a.tmps) = true ∧ ∀ K : Act → World → Prop, (∀ v w', Below w.heap.size w w' → Psi i (valOf o v) w' → K (a.put o.dst v) w') → o.wp P a w K Q) ∨
      (Region.wanted o (yielded ops a.tmps) = false ∧ Psi i undef w))
    (fin : ∀ (a : Act) (w : World), a.tmps.size = a0.tmps.size → a.defers = a0.defers → (∀ s, dsts.contains (some s) = false → a.tmps.getD s undef = a0.tmps.getD s undef) →
      I w → (∀ (i : Nat) (o : Oper), i < m → ops[i]? = some o → Psi i (slotOf o a) w) → wpList P ops Q (ops.toList.drop m) a w)
    (h0 : I { w0 with drawn := w0.drawn + 1 }) : (Code.region id ops true).wp P Q a0 w0 :=
  rgT3 m dsts (fun i _ => Psi i) I (fun _ w w' => Below w.heap.size w w') hm htidy hbound ht
    (fun _ _ _ _ _ _ _ j v w w' _ _ h hb => by
      rcases hb with rfl | hb
      · exact h
      · exact stab j v w w' h hb)
    (fun _ w w' h hb => istab w w' h hb) (fun i o hi ho _ _ _ _ a w hs hout hI hdep => step i o hi ho a w hs hout hI hdep)
    (fun a w hs hd hout hI h => fin a w hs hd hout hI fun i o hi ho => (h i o hi ho).elim fun _ h => h.2) h0
end
end Go.Proofs.Ytjjnhmbgffdenaa
