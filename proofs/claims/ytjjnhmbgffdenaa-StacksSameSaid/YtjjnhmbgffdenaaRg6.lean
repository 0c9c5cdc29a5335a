import Derived.Test.YtjjnhmbgffdenaaRg5
namespace Go.Proofs.Ytjjnhmbgffdenaa
open Go.RowKit Go.Sort
section
variable {P : Program} {ops : Array Oper} {Q : Exit → Act → World → Prop}
/-- As rgT3, with a fact over the whole frame that each operation keeps. -/
theorem rgT4 {id : Nat} {a0 : Act} {w0 : World} (m : Nat) (dsts : List (Option Tmp)) (Psi : Nat → Array Bool → Value → World → Prop) (I : World → Prop) (R : Nat → World → World → Prop) (X : Array Bool → Act → World → Prop) (hm : P.follows .mixedOrders = true)
    (htidy : tidy ops dsts = true)
    (hbound : (dsts.all fun x => match x with | some d => decide (d < a0.tmps.size) | none => true) = true)
    (ht : tailed ops m = true)
    (stab : ∀ (i : Nat) (o : Oper), i < m → ops[i]? = some o → ∀ (L : Array Bool), i < L.size → (∀ e ∈ o.after, Region.binds .any e = true → L.getD e.on false = true) → ∀ j v w w', j ≠ i → I w → Psi j L v w → (w' = w ∨ R i w w') → Psi j (L.setIfInBounds i true) v w')
    (istab : ∀ i w w', I w → R i w w' → I w')
    (step : ∀ (i : Nat) (o : Oper), i < m → ops[i]? = some o → ∀ (L : Array Bool), i < L.size → L.getD i false = false → (∀ (j : Nat) (o' : Oper), L.getD j false = true → ops[j]? = some o' → ∀ e ∈ o'.after, Region.binds .any e = true → L.getD e.on false = true) → ∀ (a : Act) (w : World), a.tmps.size = a0.tmps.size → (∀ s, dsts.contains (some s) = false → a.tmps.getD s undef = a0.tmps.getD s undef) → I w → X L a w →
      (∀ e ∈ o.after, Region.binds .any e = true → ∀ (o' : Oper), ops[e.on]? = some o' → Psi e.on L (slotOf o' a) w) →
      (Region.wanted o (yielded ops a.tmps) = true ∧ ∀ K : Act → World → Prop, (∀ v w', R i w w' → Psi i (L.setIfInBounds i true) (valOf o v) w' → X (L.setIfInBounds i true) (a.put o.dst v) w' → K (a.put o.dst v) w') → o.wp P a w K Q) ∨
      (Region.wanted o (yielded ops a.tmps) = false ∧ Psi i (L.setIfInBounds i true) undef w ∧ ∀ v, X (L.setIfInBounds i true) (a.put o.dst v) w))
    (fin : ∀ (a : Act) (w : World), a.tmps.size = a0.tmps.size → a.defers = a0.defers → (∀ s, dsts.contains (some s) = false → a.tmps.getD s undef = a0.tmps.getD s undef) →
      I w → (∃ L : Array Bool, (∀ j, L.getD j false = decide (j < m)) ∧ X L a w) → (∀ (i : Nat) (o : Oper), i < m → ops[i]? = some o → ∃ L : Array Bool, (∀ j, L.getD j false = decide (j < m)) ∧ Psi i L (slotOf o a) w) → wpList P ops Q (ops.toList.drop m) a w)
    (h0 : I { w0 with drawn := w0.drawn + 1 }) (hx0 : ∀ L : Array Bool, (∀ j, L.getD j false = false) → X L a0 { w0 with drawn := w0.drawn + 1 }) : (Code.region id ops true).wp P Q a0 w0 := by
  have hdom := dom_of htidy hbound
  have ht' := ht
  simp only [tailed, Bool.and_eq_true, decide_eq_true_eq] at ht'
  obtain ⟨⟨hmlt, hh⟩, htt⟩ := ht'
  have main : ∀ (fuel : Nat) (listed : Array Bool) (a : Act) (w : World), (List.range ops.size).countP (fun i => !listed.getD i true) ≤ fuel → (∀ j, m ≤ j → listed.getD j false = false) →
      MidL ops (fun s => dsts.contains (some s)) Psi I a0 listed a w → X listed a w → wpAny P .any ops Q fuel listed a w := by
    intro fuel
    induction fuel with
    | zero =>
      intro listed a w hc hmj hJ hX
      exfalso
      have h1 := (List.countP_eq_zero.1 (Nat.le_zero.1 hc)) m (List.mem_range.2 hmlt)
      have h2 := hmj m (Nat.le_refl _)
      have h3 : m < listed.size := by have := hJ.lsize; omega
      simp [h3] at h1 h2
      rw [h2] at h1; cases h1
    | succ fuel ih =>
      intro listed a w hc hmj hJ hX
      -- are all of the head listed?
      by_cases hall : ∀ j, j < m → listed.getD j false = true
      · have hl : ∀ j, listed.getD j false = decide (j < m) := fun j => by
          by_cases h : j < m
          · rw [hall j h, decide_eq_true h]
          · rw [hmj j (by omega), decide_eq_false h]
        have hfin := fin a w hJ.asize hJ.defers hJ.outside hJ.inv ⟨listed, hl, hX⟩ fun i o hi ho => ⟨listed, hl, hJ.psi i o (hall i hi) ho⟩
        have hcount : ops.size - m ≤ fuel + 1 := by
          refine Nat.le_trans ?_ hc
          have e : (List.range ops.size).countP (fun i => !listed.getD i true) = (List.range ops.size).countP (fun i => decide (m ≤ i)) := by
            refine List.countP_congr fun i hi => ?_
            have hi' : i < listed.size := by have := hJ.lsize; have := List.mem_range.1 hi; omega
            have := hl i
            simp [hi'] at this ⊢
            rw [this]
            simp
          rw [e]
          have hsplit : List.range ops.size = List.range m ++ List.range' m (ops.size - m) := by
            rw [List.range_eq_range', List.range_eq_range', show ops.size = m + (ops.size - m) by omega, ← List.range'_append]
            simp
          rw [hsplit, List.countP_append]
          have h2 : (List.range' m (ops.size - m)).countP (fun i => decide (m ≤ i)) = ops.size - m := by
            rw [List.countP_eq_length.2 (fun x hx => by
              simp only [List.mem_range'_1] at hx
              exact decide_eq_true hx.1)]
            simp
          omega
        refine tail_main htidy ht (ops.size - m) m (fuel + 1) listed a w (Nat.le_refl _) (by omega) hJ.lsize hl hcount ?_
        have e := wpOps_eq_wpList (P := P) (ops := ops) (Q := Q) (ops.toList.drop m) m (fun j => by rw [List.getElem?_drop]; simp)
        have hlen : (ops.toList.drop m).length = ops.size - m := by simp
        rw [hlen] at e
        rw [e]
        exact hfin
      · have hnr : ∀ i ∈ Region.ready .any ops listed, i < m := by
          intro i hi
          obtain ⟨h1, o, ho, hdep⟩ := mem_ready.1 hi
          have hlt : i < ops.size := (Array.getElem?_eq_some_iff.1 ho).1
          by_cases him : i < m
          · exact him
          · exfalso
            by_cases e : i = m
            · subst e
              refine hall ?_
              -- from the last of the head down
              have down : ∀ d j, j + d + 1 = i → listed.getD j false = true := by
                intro d
                induction d using Nat.strongRecOn with
                | _ d ihd =>
                  intro j hj
                  have h3 := List.all_eq_true.1 hh j (List.mem_range.2 (by omega))
                  obtain ⟨k, hk, h4⟩ := List.any_eq_true.1 h3
                  have hk' := List.mem_range.1 hk
                  simp only [Bool.and_eq_true, decide_eq_true_eq] at h4
                  obtain ⟨o', ho', e', he', hon, hb⟩ := waits_spec h4.2
                  by_cases hki : k = i
                  · subst hki
                    rw [ho] at ho'
                    obtain rfl := Option.some.inj ho'
                    rw [← hon]; exact hdep e' he' hb
                  · have hkl := ihd (i - k - 1) (by omega) k (by omega)
                    rw [← hon]; exact hJ.closed k o' hkl ho' e' he' hb
              exact fun j hj => down (i - j - 1) j (by omega)
            · have h3 := List.all_eq_true.1 htt i (List.mem_range.2 hlt)
              simp only [Bool.or_eq_true, decide_eq_true_eq] at h3
              rcases h3 with h3 | h3
              · omega
              · obtain ⟨o', ho', e', he', hon, hb⟩ := waits_spec h3
                rw [ho] at ho'
                obtain rfl := Option.some.inj ho'
                have h5 := hdep e' he' hb
                rw [hon, hmj (i - 1) (by omega)] at h5
                cases h5
        have all_listed : Region.ready .any ops listed = [] → ∀ i, i < ops.size → listed.getD i false = true := by
          intro hr i
          induction i using Nat.strongRecOn with
          | _ i ihi =>
            intro hi
            cases hb : listed.getD i true with
            | true =>
              have hlt : i < listed.size := by have := hJ.lsize; omega
              simp only [Array.getD_eq_getD_getElem?, Array.getElem?_eq_getElem hlt, Option.getD_some] at hb ⊢
              exact hb
            | false =>
              exfalso
              have : i ∈ Region.ready .any ops listed := mem_ready.2 ⟨hb, ops[i], Array.getElem?_eq_getElem hi, fun e he hb2 => by
                have hlt := (tidy_spec htidy (Array.getElem?_eq_getElem hi)).2.1 e he hb2
                exact ihi e.on hlt (by omega)⟩
              rw [hr] at this
              cases this
        refine ⟨fun hr => absurd (fun j hj => all_listed hr j (by omega)) hall, fun i hi => ?_⟩
        have him := hnr i hi
        obtain ⟨h1, o, ho, hdep⟩ := mem_ready.1 hi
        have hlt : i < ops.size := (Array.getElem?_eq_some_iff.1 ho).1
        have hcount : (List.range ops.size).countP (fun j => !(listed.setIfInBounds i true).getD j true) ≤ fuel := by
          have := countP_lt (f := fun i => !listed.getD i true) (f' := fun j => !(listed.setIfInBounds i true).getD j true) (fun j hj => by
            by_cases e : i = j
            · subst e; simpa using h1
            · simpa [getD_set_ne true e] using hj) (i := i) (by simpa using h1) (by
              have : i < listed.size := by have := hJ.lsize; omega
              simp [this]) (List.range ops.size) (List.mem_range.2 hlt)
          omega
        have hmj' : ∀ j, m ≤ j → (listed.setIfInBounds i true).getD j false = false := fun j hj => by
          rw [getD_set_ne false (by omega)]; exact hmj j hj
        have hil : i < listed.size := by have := hJ.lsize; omega
        have hs := step i o him ho listed hil (getD_false_of h1) hJ.closed a w hJ.asize hJ.outside hJ.inv hX (fun e he hb o' ho' => hJ.psi e.on o' (hdep e he hb) ho')
        unfold wpOp
        rw [ho]
        rcases hs with ⟨hw, hs⟩ | ⟨hw, hv, hXn⟩
        · simp only [hw, if_true]
          exact .inl (hs _ fun v w' hR hpsi hX' => ih _ _ _ hcount hmj' (hJ.next htidy hdom (fun j x hji h => stab i o him ho listed hil hdep j x w w' hji hJ.inv h (.inr hR)) (istab i _ _ hJ.inv hR) ho hdep hpsi) hX')
        · simp only [hw]
          refine ih _ _ _ hcount hmj' (hJ.next htidy hdom (fun j x hji h => stab i o him ho listed hil hdep j x w w hji hJ.inv h (.inl rfl)) hJ.inv ho hdep ?_) (hXn _)
          have : valOf o undef = undef := by unfold valOf; cases o.dst <;> rfl
          rw [this]; exact hv
  refine wp_region_any hm (main _ _ _ _ ?_ (fun j hj => ?_) ⟨by simp, rfl, rfl, fun _ _ => rfl, h0, fun i o hl _ => ?_, fun i o hl _ => ?_⟩ (hx0 _ fun j => ?_))
  · exact Nat.le_trans List.countP_le_length (by simp)
  · by_cases e : j < ops.size <;> simp [e]
  · by_cases e : i < ops.size <;> simp [e] at hl
  · by_cases e : i < ops.size <;> simp [e] at hl
  · by_cases e : j < ops.size <;> simp [e]
end
end Go.Proofs.Ytjjnhmbgffdenaa
