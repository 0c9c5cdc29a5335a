import Derived.Test.YtgaofkbmnapogaaGaa
namespace Go.Proofs.Ytgaofkbmnapogaa
open Go.RowKit

section
variable {P : Program} {ops : Array Oper} {Q : Exit → Act → World → Prop}

/-- One operation's turn. -/
theorem turn {a0 : Act} (S : Nat) (late : List Nat) (dsts : List (Option Tmp)) (dom : Nat → Bool) (Psi : Nat → Value → World → Prop) (PsiB : Nat → Value → Prop) (I : World → Prop) (F : (Nat → Value) → World → Prop)
    (htidy : tidy ops dsts = true)
    (hdom : ∀ (i : Nat) (o : Oper) (d : Tmp), ops[i]? = some o → o.dst = some d → dom d = true ∧ d < a0.tmps.size)
    (hneed : ops.size ≤ S ∨ needed ops S late = true)
    (stab : ∀ i v w w', Psi i v w → Below w.heap.size w w' → Psi i v w')
    (istab : ∀ w w', I w → Below w.heap.size w w' → I w')
    (toB : ∀ i v w, Psi i v w → PsiB i v)
    (fstab : ∀ (i : Nat) (o : Oper) (d : Tmp) f f' w, late.contains i = true → ops[i]? = some o → o.dst = some d → F f w → (∀ s, s ≠ d → f' s = f s) → F f' w)
    {listed : Array Bool} {a : Act} {w : World} {i : Nat} {o : Oper} (step : i ≠ S → I w → (∀ e ∈ o.after, Region.binds .any e = true → ∀ (o' : Oper) (d : Tmp), ops[e.on]? = some o' → o'.dst = some d → Psi e.on (a.tmps.getD d undef) w) →
      (Region.wanted o (yielded ops a.tmps) = true ∧ ∀ K : Act → World → Prop, (∀ v w', Below w.heap.size w w' → Psi i v w' → K (a.put o.dst v) w') → o.wp P a w K Q) ∨
      (Region.wanted o (yielded ops a.tmps) = false ∧ Psi i undef w))
    (stepS : ∀ (o : Oper), ops[S]? = some o → ∀ (a : Act) (w : World), a.tmps.size = a0.tmps.size → (∀ s, dom s = false → a.tmps.getD s undef = a0.tmps.getD s undef) → I w →
      (∀ (i : Nat) (o' : Oper) (d : Tmp), late.contains i = false → i ≠ S → ops[i]? = some o' → o'.dst = some d → Psi i (a.tmps.getD d undef) w) →
      o.dst = none ∧ Region.wanted o (yielded ops a.tmps) = true ∧ ∀ K : Act → World → Prop, (∀ w', F (fun s => a.tmps.getD s undef) w' → K a w') → o.wp P a w K Q)
    (stepB : ∀ (i : Nat) (o : Oper), ops[i]? = some o → late.contains i = true → ∀ (a : Act) (w : World), a.tmps.size = a0.tmps.size → (∀ s, dom s = false → a.tmps.getD s undef = a0.tmps.getD s undef) →
      (∀ e ∈ o.after, Region.binds .any e = true → ∀ (o' : Oper) (d : Tmp), ops[e.on]? = some o' → o'.dst = some d → PsiB e.on (a.tmps.getD d undef)) →
      Region.wanted o (yielded ops a.tmps) = true ∧ ∀ K : Act → World → Prop, (∀ v, PsiB i v → K (a.put o.dst v) w) → o.wp P a w K Q)
    (hJ : BetweenS ops S dom Psi PsiB I F a0 listed a w) (h1 : listed.getD i true = false) (ho : ops[i]? = some o)
    (hdep : ∀ e ∈ o.after, Region.binds .any e = true → listed.getD e.on false = true) {K : Act → World → Prop}
    (hnext : ∀ a' w', (∀ s, o.dst ≠ some s → a'.tmps.getD s undef = a.tmps.getD s undef) → BetweenS ops S dom Psi PsiB I F a0 (listed.setIfInBounds i true) a' w' → K a' w') : wpOp P ops Q i K a w := by
  have hlt : i < ops.size := (Array.getElem?_eq_some_iff.1 ho).1
  have hget : ∀ (a : Act) (d : Tmp) (v : Value), d < a.tmps.size → ∀ s, (a.put (some d) v).tmps.getD s undef = if s = d then v else a.tmps.getD s undef := by
    intro a d v hda s
    simp only [Act.put]
    by_cases e : s = d
    · subst e; simp [hda]
    · rw [if_neg e]
      simp only [Array.getD_eq_getD_getElem?, Array.getElem?_setIfInBounds_ne (Ne.symm e)]
  have hkeep : ∀ v s, o.dst ≠ some s → (a.put o.dst v).tmps.getD s undef = a.tmps.getD s undef := by
    intro v s hs
    cases hd : o.dst with
    | none => rfl
    | some d =>
      have : d ≠ s := fun e => hs (by rw [hd, e])
      simp only [Act.put, Array.getD_eq_getD_getElem?, Array.getElem?_setIfInBounds_ne this]
  have hil : (listed.setIfInBounds i true).getD i false = true := by
    have : i < listed.size := by have := hJ.lsize; omega
    simp [this]
  have hclosed : ∀ (j : Nat) (o' : Oper), (listed.setIfInBounds i true).getD j false = true → ops[j]? = some o' → ∀ e ∈ o'.after, Region.binds .any e = true → (listed.setIfInBounds i true).getD e.on false = true := by
    intro j o' hj ho' e he hb
    have : listed.getD e.on false = true := by
      by_cases e1 : i = j
      · subst e1
        rw [ho] at ho'
        obtain rfl := Option.some.inj ho'
        exact hdep e he hb
      · rw [getD_set_ne false e1] at hj
        exact hJ.closed j o' hj ho' e he hb
    by_cases e2 : i = e.on
    · rw [← e2]; exact hil
    · rw [getD_set_ne false e2]; exact this
  have hsize : (listed.setIfInBounds i true).size = ops.size := by simpa using hJ.lsize
  unfold wpOp
  rw [ho]
  by_cases hiS : i = S
  · subst hiS
    have hSf := getD_false_of h1
    obtain ⟨hI, hP⟩ := hJ.before hSf
    have hneed' : needed ops i late = true := by
      rcases hneed with h | h
      · exact absurd h (by omega)
      · exact h
    obtain ⟨hd, hw, hs⟩ := stepS o ho a w hJ.asize hJ.outside hI (fun j o' d hj hji ho' hd' => by
      have hjlt := (Array.getElem?_eq_some_iff.1 ho').1
      have := needed_all (listed := listed.setIfInBounds i true) hneed' (fun j o' hj ho' e he hb => by
        rcases hj with rfl | hj
        · exact hclosed j o' hil ho' e he hb
        · exact hclosed j o' hj ho' e he hb) _ j rfl hjlt hji hj
      rw [getD_set_ne false (Ne.symm hji)] at this
      exact hP j o' d this ho' hd')
    simp only [hw, if_true]
    refine .inl (hs _ fun w' hF => hnext _ _ (fun _ _ => rfl) ?_)
    refine ⟨hsize, hJ.asize, hJ.defers, hJ.outside, hclosed, fun hf => (by rw [hil] at hf; cases hf), fun _ => ⟨hF, fun j o' d hj ho' hd' => ?_⟩⟩
    have hji : i ≠ j := fun e => by
      subst e
      rw [ho] at ho'
      obtain rfl := Option.some.inj ho'
      rw [hd] at hd'
      cases hd'
    rw [getD_set_ne false hji] at hj
    exact toB _ _ _ (hP j o' d hj ho' hd')
  · have hSsame : (listed.setIfInBounds i true).getD S false = listed.getD S false := getD_set_ne false hiS
    cases hSl : listed.getD S false with
    | true =>
      obtain ⟨hF, hP⟩ := hJ.behind hSl
      have hSlt : S < ops.size := by
        by_cases e : S < listed.size
        · have := hJ.lsize; omega
        · simp [e] at hSl
      have hneed' : needed ops S late = true := by
        rcases hneed with h | h
        · exact absurd h (by omega)
        · exact h
      have hlate : late.contains i = true := by
        cases hc' : late.contains i with
        | true => rfl
        | false =>
          have := needed_all (listed := listed) hneed' (fun j o' hj ho' e he hb => by
            rcases hj with rfl | hj
            · exact hJ.closed j o' hSl ho' e he hb
            · exact hJ.closed j o' hj ho' e he hb) _ i rfl hlt hiS hc'
          rw [getD_false_of h1] at this
          cases this
      obtain ⟨hw, hs⟩ := stepB i o ho hlate a w hJ.asize hJ.outside (fun e he hb o' d ho' hd' => hP e.on o' d (hdep e he hb) ho' hd')
      simp only [hw, if_true]
      refine .inl (hs _ fun v hv => hnext _ _ (hkeep v) ?_)
      cases hd : o.dst with
      | none =>
        refine ⟨hsize, hJ.asize, hJ.defers, hJ.outside, hclosed, fun hf => (by rw [hSsame, hSl] at hf; cases hf), fun _ => ⟨hF, fun j o' d hj ho' hd' => ?_⟩⟩
        have hji : i ≠ j := fun e => by
          subst e
          rw [ho] at ho'
          obtain rfl := Option.some.inj ho'
          rw [hd] at hd'
          cases hd'
        rw [getD_set_ne false hji] at hj
        exact hP j o' d hj ho' hd'
      | some d =>
        obtain ⟨hdm, hdl⟩ := hdom i o d ho hd
        have hda : d < a.tmps.size := by rw [hJ.asize]; exact hdl
        refine ⟨hsize, by simpa [Act.put] using hJ.asize, by simpa [Act.put] using hJ.defers, fun s hs => ?_, hclosed, fun hf => (by rw [hSsame, hSl] at hf; cases hf), fun _ => ⟨fstab i o d _ _ w hlate ho hd hF (fun s hs => by show (a.put (some d) v).tmps.getD s undef = _; rw [hget a d v hda, if_neg hs]), fun j o' d' hj ho' hd' => ?_⟩⟩
        · rw [hget a d v hda, if_neg (fun e => by subst e; rw [hdm] at hs; cases hs)]; exact hJ.outside s hs
        · rw [hget a d v hda]
          by_cases e : d' = d
          · subst e
            obtain rfl := (tidy_spec htidy ho).2.2 d' hd j o' ho' hd'
            rw [if_pos rfl]; exact hv
          · rw [if_neg e]
            have hne : i ≠ j := fun e2 => by
              subst e2
              rw [ho] at ho'
              obtain rfl := Option.some.inj ho'
              rw [hd] at hd'
              exact e (Option.some.inj hd').symm
            rw [getD_set_ne false hne] at hj
            exact hP j o' d' hj ho' hd'
    | false =>
      obtain ⟨hI, hP⟩ := hJ.before hSl
      have next : ∀ v w', Below w.heap.size w w' → Psi i v w' → BetweenS ops S dom Psi PsiB I F a0 (listed.setIfInBounds i true) (a.put o.dst v) w' := by
        intro v w' hb hv
        cases hd : o.dst with
        | none =>
          refine ⟨hsize, hJ.asize, hJ.defers, hJ.outside, hclosed, fun _ => ⟨istab _ _ hI hb, fun j o' d hj ho' hd' => ?_⟩, fun hf => by rw [hSsame, hSl] at hf; cases hf⟩
          have hji : i ≠ j := fun e => by
            subst e
            rw [ho] at ho'
            obtain rfl := Option.some.inj ho'
            rw [hd] at hd'
            cases hd'
          rw [getD_set_ne false hji] at hj
          exact stab _ _ _ _ (hP j o' d hj ho' hd') hb
        | some d =>
          obtain ⟨hdm, hdl⟩ := hdom i o d ho hd
          have hda : d < a.tmps.size := by rw [hJ.asize]; exact hdl
          refine ⟨hsize, by simpa [Act.put] using hJ.asize, by simpa [Act.put] using hJ.defers, fun s hs => ?_, hclosed, fun _ => ⟨istab _ _ hI hb, fun j o' d' hj ho' hd' => ?_⟩, fun hf => by rw [hSsame, hSl] at hf; cases hf⟩
          · rw [hget a d v hda, if_neg (fun e => by subst e; rw [hdm] at hs; cases hs)]; exact hJ.outside s hs
          · rw [hget a d v hda]
            by_cases e : d' = d
            · subst e
              obtain rfl := (tidy_spec htidy ho).2.2 d' hd j o' ho' hd'
              rw [if_pos rfl]; exact hv
            · rw [if_neg e]
              have hne : i ≠ j := fun e2 => by
                subst e2
                rw [ho] at ho'
                obtain rfl := Option.some.inj ho'
                rw [hd] at hd'
                exact e (Option.some.inj hd').symm
              rw [getD_set_ne false hne] at hj
              exact stab _ _ _ _ (hP j o' d' hj ho' hd') hb
      rcases step hiS hI (fun e he hb o' d ho' hd' => hP e.on o' d (hdep e he hb) ho' hd') with ⟨hw, hs⟩ | ⟨hw, hv⟩
      · simp only [hw, if_true]
        exact .inl (hs _ fun v w' hb hpsi => hnext _ _ (hkeep v) (next v w' hb hpsi))
      · simp only [hw]
        exact hnext _ _ (hkeep undef) (next undef w (Below.refl _ _) hv)

/-- A region in its written order. -/
theorem sqS {id : Nat} {a0 : Act} {w0 : World} (S : Nat) (late : List Nat) (dsts : List (Option Tmp)) (dom : Nat → Bool) (Psi : Nat → Value → World → Prop) (PsiB : Nat → Value → Prop) (I : World → Prop) (F : (Nat → Value) → World → Prop)
    (htidy : tidy ops dsts = true)
    (hdom : ∀ (i : Nat) (o : Oper) (d : Tmp), ops[i]? = some o → o.dst = some d → dom d = true ∧ d < a0.tmps.size)
    (hneed : ops.size ≤ S ∨ needed ops S late = true)
    (stab : ∀ i v w w', Psi i v w → Below w.heap.size w w' → Psi i v w')
    (istab : ∀ w w', I w → Below w.heap.size w w' → I w')
    (toB : ∀ i v w, Psi i v w → PsiB i v)
    (fstab : ∀ (i : Nat) (o : Oper) (d : Tmp) f f' w, late.contains i = true → ops[i]? = some o → o.dst = some d → F f w → (∀ s, s ≠ d → f' s = f s) → F f' w)
    (step : ∀ (i : Nat) (o : Oper), ops[i]? = some o → i ≠ S → ∀ (a : Act) (w : World), a.tmps.size = a0.tmps.size → (∀ s, dom s = false → a.tmps.getD s undef = a0.tmps.getD s undef) → I w →
      (∀ e ∈ o.after, Region.binds .any e = true → ∀ (o' : Oper) (d : Tmp), ops[e.on]? = some o' → o'.dst = some d → Psi e.on (a.tmps.getD d undef) w) →
      (∀ (j : Nat) (o' : Oper) (d : Tmp), ops[j]? = some o' → o'.dst = some d → (o'.after.any fun e => e.on == i && Region.binds .any e) = true → a.tmps.getD d undef = a0.tmps.getD d undef) →
      (Region.wanted o (yielded ops a.tmps) = true ∧ ∀ K : Act → World → Prop, (∀ v w', Below w.heap.size w w' → Psi i v w' → K (a.put o.dst v) w') → o.wp P a w K Q) ∨
      (Region.wanted o (yielded ops a.tmps) = false ∧ Psi i undef w))
    (stepS : ∀ (o : Oper), ops[S]? = some o → ∀ (a : Act) (w : World), a.tmps.size = a0.tmps.size → (∀ s, dom s = false → a.tmps.getD s undef = a0.tmps.getD s undef) → I w →
      (∀ (i : Nat) (o' : Oper) (d : Tmp), late.contains i = false → i ≠ S → ops[i]? = some o' → o'.dst = some d → Psi i (a.tmps.getD d undef) w) →
      o.dst = none ∧ Region.wanted o (yielded ops a.tmps) = true ∧ ∀ K : Act → World → Prop, (∀ w', F (fun s => a.tmps.getD s undef) w' → K a w') → o.wp P a w K Q)
    (stepB : ∀ (i : Nat) (o : Oper), ops[i]? = some o → late.contains i = true → ∀ (a : Act) (w : World), a.tmps.size = a0.tmps.size → (∀ s, dom s = false → a.tmps.getD s undef = a0.tmps.getD s undef) →
      (∀ e ∈ o.after, Region.binds .any e = true → ∀ (o' : Oper) (d : Tmp), ops[e.on]? = some o' → o'.dst = some d → PsiB e.on (a.tmps.getD d undef)) →
      Region.wanted o (yielded ops a.tmps) = true ∧ ∀ K : Act → World → Prop, (∀ v, PsiB i v → K (a.put o.dst v) w) → o.wp P a w K Q)
    (fin : ∀ (a : Act) (w : World), a.tmps.size = a0.tmps.size → a.defers = a0.defers → (∀ s, dom s = false → a.tmps.getD s undef = a0.tmps.getD s undef) →
      (S < ops.size → F (fun s => a.tmps.getD s undef) w ∧ ∀ (i : Nat) (o : Oper) (d : Tmp), ops[i]? = some o → o.dst = some d → PsiB i (a.tmps.getD d undef)) →
      (ops.size ≤ S → I w ∧ ∀ (i : Nat) (o : Oper) (d : Tmp), ops[i]? = some o → o.dst = some d → Psi i (a.tmps.getD d undef) w) → Q .normal a w)
    (h0 : I w0) : (Code.region id ops false).wp P Q a0 w0 := by
  have main : ∀ (m k : Nat) (listed : Array Bool) (a : Act) (w : World), k + m = ops.size → (∀ j, listed.getD j false = decide (j < k)) → BetweenS ops S dom Psi PsiB I F a0 listed a w → (∀ (j : Nat) (o : Oper) (d : Tmp), listed.getD j false = false → ops[j]? = some o → o.dst = some d → a.tmps.getD d undef = a0.tmps.getD d undef) → wpOps P ops Q (List.range' k m) a w := by
    intro m
    induction m with
    | zero =>
      intro k listed a w hk hl hJ hFr
      have hal : ∀ i, i < ops.size → listed.getD i false = true := fun i hi => by rw [hl]; exact decide_eq_true (by omega)
      show Q .normal a w
      refine fin a w hJ.asize hJ.defers hJ.outside (fun hS => ?_) (fun hS => ?_)
      · obtain ⟨h1, h2⟩ := hJ.behind (hal S hS)
        exact ⟨h1, fun i o d ho hd => h2 i o d (hal i (Array.getElem?_eq_some_iff.1 ho).1) ho hd⟩
      · have hSf : listed.getD S false = false := by
          have : ¬ S < listed.size := by have := hJ.lsize; omega
          simp [this]
        obtain ⟨h1, h2⟩ := hJ.before hSf
        exact ⟨h1, fun i o d ho hd => h2 i o d (hal i (Array.getElem?_eq_some_iff.1 ho).1) ho hd⟩
    | succ m ih =>
      intro k listed a w hk hl hJ hFr
      have hlt : k < ops.size := by omega
      have hls : k < listed.size := by have := hJ.lsize; omega
      have ho : ops[k]? = some ops[k] := Array.getElem?_eq_getElem hlt
      rw [List.range'_succ, wpOps_cons]
      have h1f : listed.getD k false = false := by rw [hl]; exact decide_eq_false (by omega)
      refine turn S late dsts dom Psi PsiB I F htidy hdom hneed stab istab toB fstab (fun hiS hI hd => step k _ ho hiS a w hJ.asize hJ.outside hI hd fun j o' d ho' hd' hn => hFr j o' d (by
        cases hlj : listed.getD j false with
        | false => rfl
        | true =>
          obtain ⟨x, hx, h5⟩ := Array.any_eq_true.1 hn
          simp only [Bool.and_eq_true, beq_iff_eq] at h5
          have h6 := hJ.closed j o' hlj ho' _ (Array.getElem_mem hx) h5.2
          rw [h5.1] at h6
          rw [h6] at h1f
          cases h1f) ho' hd') stepS stepB hJ ?_ ho (fun e he hb => ?_) (fun a' w' hkp hJ' => ih (k + 1) _ a' w' (by omega) (fun j => ?_) hJ' ?_)
      · have := hl k
        simp [hls] at this ⊢
        exact this
      · rw [hl]
        exact decide_eq_true ((tidy_spec htidy ho).2.1 e he hb)
      · by_cases e : k = j
        · subst e; simp [hls]
        · rw [getD_set_ne false e, hl j]
          by_cases h : j < k
          · rw [decide_eq_true h, decide_eq_true (by omega)]
          · rw [decide_eq_false h, decide_eq_false (by omega)]
      · intro j o' d hj ho' hd'
        have hkj : k ≠ j := fun e => by subst e; simp [hls] at hj
        rw [getD_set_ne false hkj] at hj
        rw [hkp d (fun e => hkj ((tidy_spec htidy ho).2.2 d e j o' ho' hd').symm)]
        exact hFr j o' d hj ho' hd'
  refine wp_region ?_
  rw [List.range_eq_range']
  refine main _ 0 (Array.replicate ops.size false) a0 w0 (by omega) (fun j => ?_) ⟨by simp, rfl, rfl, fun _ _ => rfl, fun i o hl _ => ?_, fun _ => ⟨h0, fun i o d hl _ _ => ?_⟩, fun hl => ?_⟩ (fun _ _ _ _ _ _ => rfl)
  · by_cases e : j < ops.size <;> simp [e]
  · by_cases e : i < ops.size <;> simp [e] at hl
  · by_cases e : i < ops.size <;> simp [e] at hl
  · by_cases e : S < ops.size <;> simp [e] at hl

theorem rgF {id : Nat} {a0 : Act} {w0 : World} (S : Nat) (late : List Nat) (dsts : List (Option Tmp)) (dom : Nat → Bool) (Psi : Nat → Value → World → Prop) (PsiB : Nat → Value → Prop) (I : World → Prop) (F : (Nat → Value) → World → Prop) (hm : P.follows .mixedOrders = true)
    (htidy : tidy ops dsts = true)
    (hdom : ∀ (i : Nat) (o : Oper) (d : Tmp), ops[i]? = some o → o.dst = some d → dom d = true ∧ d < a0.tmps.size)
    (hneed : ops.size ≤ S ∨ needed ops S late = true)
    (stab : ∀ i v w w', Psi i v w → Below w.heap.size w w' → Psi i v w')
    (istab : ∀ w w', I w → Below w.heap.size w w' → I w')
    (toB : ∀ i v w, Psi i v w → PsiB i v)
    (fstab : ∀ (i : Nat) (o : Oper) (d : Tmp) f f' w, late.contains i = true → ops[i]? = some o → o.dst = some d → F f w → (∀ s, s ≠ d → f' s = f s) → F f' w)
    (step : ∀ (i : Nat) (o : Oper), ops[i]? = some o → i ≠ S → ∀ (a : Act) (w : World), a.tmps.size = a0.tmps.size → (∀ s, dom s = false → a.tmps.getD s undef = a0.tmps.getD s undef) → I w →
      (∀ e ∈ o.after, Region.binds .any e = true → ∀ (o' : Oper) (d : Tmp), ops[e.on]? = some o' → o'.dst = some d → Psi e.on (a.tmps.getD d undef) w) →
      (∀ (j : Nat) (o' : Oper) (d : Tmp), ops[j]? = some o' → o'.dst = some d → (o'.after.any fun e => e.on == i && Region.binds .any e) = true → a.tmps.getD d undef = a0.tmps.getD d undef) →
      (Region.wanted o (yielded ops a.tmps) = true ∧ ∀ K : Act → World → Prop, (∀ v w', Below w.heap.size w w' → Psi i v w' → K (a.put o.dst v) w') → o.wp P a w K Q) ∨
      (Region.wanted o (yielded ops a.tmps) = false ∧ Psi i undef w))
    (stepS : ∀ (o : Oper), ops[S]? = some o → ∀ (a : Act) (w : World), a.tmps.size = a0.tmps.size → (∀ s, dom s = false → a.tmps.getD s undef = a0.tmps.getD s undef) → I w →
      (∀ (i : Nat) (o' : Oper) (d : Tmp), late.contains i = false → i ≠ S → ops[i]? = some o' → o'.dst = some d → Psi i (a.tmps.getD d undef) w) →
      o.dst = none ∧ Region.wanted o (yielded ops a.tmps) = true ∧ ∀ K : Act → World → Prop, (∀ w', F (fun s => a.tmps.getD s undef) w' → K a w') → o.wp P a w K Q)
    (stepB : ∀ (i : Nat) (o : Oper), ops[i]? = some o → late.contains i = true → ∀ (a : Act) (w : World), a.tmps.size = a0.tmps.size → (∀ s, dom s = false → a.tmps.getD s undef = a0.tmps.getD s undef) →
      (∀ e ∈ o.after, Region.binds .any e = true → ∀ (o' : Oper) (d : Tmp), ops[e.on]? = some o' → o'.dst = some d → PsiB e.on (a.tmps.getD d undef)) →
      Region.wanted o (yielded ops a.tmps) = true ∧ ∀ K : Act → World → Prop, (∀ v, PsiB i v → K (a.put o.dst v) w) → o.wp P a w K Q)
    (fin : ∀ (a : Act) (w : World), a.tmps.size = a0.tmps.size → a.defers = a0.defers → (∀ s, dom s = false → a.tmps.getD s undef = a0.tmps.getD s undef) →
      (S < ops.size → F (fun s => a.tmps.getD s undef) w ∧ ∀ (i : Nat) (o : Oper) (d : Tmp), ops[i]? = some o → o.dst = some d → PsiB i (a.tmps.getD d undef)) →
      (ops.size ≤ S → I w ∧ ∀ (i : Nat) (o : Oper) (d : Tmp), ops[i]? = some o → o.dst = some d → Psi i (a.tmps.getD d undef) w) → Q .normal a w)
    (h0 : I { w0 with drawn := w0.drawn + 1 }) : (Code.region id ops true).wp P Q a0 w0 := by
  have all_listed : ∀ listed : Array Bool, listed.size = ops.size → Region.ready .any ops listed = [] → ∀ i, i < ops.size → listed.getD i false = true := by
    intro listed hls hr i
    induction i using Nat.strongRecOn with
    | _ i ih =>
      intro hi
      cases hb : listed.getD i true with
      | true =>
        have hlt : i < listed.size := by omega
        simp only [Array.getD_eq_getD_getElem?, Array.getElem?_eq_getElem hlt, Option.getD_some] at hb ⊢
        exact hb
      | false =>
        exfalso
        have : i ∈ Region.ready .any ops listed := mem_ready.2 ⟨hb, ops[i], Array.getElem?_eq_getElem hi, fun e he hb2 => by
          have hlt := (tidy_spec htidy (Array.getElem?_eq_getElem hi)).2.1 e he hb2
          exact ih e.on hlt (by omega)⟩
        rw [hr] at this
        cases this
  have final : ∀ (listed : Array Bool) (a : Act) (w : World), Region.ready .any ops listed = [] → BetweenS ops S dom Psi PsiB I F a0 listed a w → Q .normal a w := by
    intro listed a w hr hJ
    have hal := all_listed listed hJ.lsize hr
    refine fin a w hJ.asize hJ.defers hJ.outside (fun hS => ?_) (fun hS => ?_)
    · obtain ⟨h1, h2⟩ := hJ.behind (hal S hS)
      exact ⟨h1, fun i o d ho hd => h2 i o d (hal i (Array.getElem?_eq_some_iff.1 ho).1) ho hd⟩
    · have hSf : listed.getD S false = false := by
        have : ¬ S < listed.size := by have := hJ.lsize; omega
        simp [this]
      obtain ⟨h1, h2⟩ := hJ.before hSf
      exact ⟨h1, fun i o d ho hd => h2 i o d (hal i (Array.getElem?_eq_some_iff.1 ho).1) ho hd⟩
  have main : ∀ (fuel : Nat) (listed : Array Bool) (a : Act) (w : World), (List.range ops.size).countP (fun i => !listed.getD i true) ≤ fuel → BetweenS ops S dom Psi PsiB I F a0 listed a w → (∀ (j : Nat) (o : Oper) (d : Tmp), listed.getD j false = false → ops[j]? = some o → o.dst = some d → a.tmps.getD d undef = a0.tmps.getD d undef) → wpAny P .any ops Q fuel listed a w := by
    intro fuel
    induction fuel with
    | zero =>
      intro listed a w hc hJ _
      have hr : Region.ready .any ops listed = [] := by
        rw [List.eq_nil_iff_forall_not_mem]
        intro i hi
        obtain ⟨h1, o, ho, _⟩ := mem_ready.1 hi
        have hlt : i < ops.size := (Array.getElem?_eq_some_iff.1 ho).1
        have := (List.countP_eq_zero.1 (Nat.le_zero.1 hc)) i (List.mem_range.2 hlt)
        simp [h1] at this
      exact ⟨hr, final listed a w hr hJ⟩
    | succ fuel ih =>
      intro listed a w hc hJ hFr
      refine ⟨fun hr => final listed a w hr hJ, fun i hi => ?_⟩
      obtain ⟨h1, o, ho, hdep⟩ := mem_ready.1 hi
      have hlt : i < ops.size := (Array.getElem?_eq_some_iff.1 ho).1
      have hcount : (List.range ops.size).countP (fun j => !(listed.setIfInBounds i true).getD j true) ≤ fuel := by
        have := countP_lt (f := fun i => !listed.getD i true) (f' := fun j => !(listed.setIfInBounds i true).getD j true) (fun j hj => by
          by_cases e : i = j
          · subst e; simpa using h1
          · simpa [getD_set_ne true e] using hj) (i := i) (by simpa using h1) (by
            have : i < listed.size := by have := hJ.lsize; omega
            simp [this]) (List.range ops.size) (List.mem_range.2 hlt)
        omega
      have h1f := getD_false_of h1
      refine turn S late dsts dom Psi PsiB I F htidy hdom hneed stab istab toB fstab (fun hiS hI hd => step i o ho hiS a w hJ.asize hJ.outside hI hd fun j o' d ho' hd' hn => hFr j o' d (by
        cases hlj : listed.getD j false with
        | false => rfl
        | true =>
          obtain ⟨x, hx, h5⟩ := Array.any_eq_true.1 hn
          simp only [Bool.and_eq_true, beq_iff_eq] at h5
          have h6 := hJ.closed j o' hlj ho' _ (Array.getElem_mem hx) h5.2
          rw [h5.1] at h6
          rw [h6] at h1f
          cases h1f) ho' hd') stepS stepB hJ h1 ho hdep (fun a' w' hkp hJ' => ih _ a' w' hcount hJ' ?_)
      intro j o' d hj ho' hd'
      have hkj : i ≠ j := fun e => by
        subst e
        have : i < listed.size := by have := hJ.lsize; omega
        simp [this] at hj
      rw [getD_set_ne false hkj] at hj
      rw [hkp d (fun e => hkj ((tidy_spec htidy ho).2.2 d e j o' ho' hd').symm)]
      exact hFr j o' d hj ho' hd'
  refine wp_region_any hm (main _ _ _ _ ?_ ⟨by simp, rfl, rfl, fun _ _ => rfl, fun i o hl _ => ?_, fun _ => ⟨h0, fun i o d hl _ _ => ?_⟩, fun hl => ?_⟩ (fun _ _ _ _ _ _ => rfl))
  · exact Nat.le_trans List.countP_le_length (by simp)
  · by_cases e : i < ops.size <;> simp [e] at hl
  · by_cases e : i < ops.size <;> simp [e] at hl
  · by_cases e : S < ops.size <;> simp [e] at hl

theorem dom_of {dsts : List (Option Tmp)} {N : Nat} (htidy : tidy ops dsts = true) (hbound : (dsts.all fun x => match x with | some d => decide (d < N) | none => true) = true) :
    ∀ (i : Nat) (o : Oper) (d : Tmp), ops[i]? = some o → o.dst = some d → dsts.contains (some d) = true ∧ d < N := by
  intro i o d ho hd
  have h := (tidy_spec htidy ho).1
  rw [hd] at h
  have hmem : some d ∈ dsts := by
    cases hi : dsts[i]? with
    | none => rw [hi] at h; cases h
    | some x =>
      rw [hi] at h
      simp only [Option.getD_some] at h
      rw [h]
      exact List.mem_of_getElem? hi
  exact ⟨by simpa using hmem, of_decide_eq_true (List.all_eq_true.1 hbound _ hmem)⟩

/-- A region that draws its order and stores nothing. -/
theorem rgP {id : Nat} {a0 : Act} {w0 : World} (dsts : List (Option Tmp)) (Psi : Nat → Value → World → Prop) (I : World → Prop) (hm : P.follows .mixedOrders = true)
    (htidy : tidy ops dsts = true)
    (hbound : (dsts.all fun x => match x with | some d => decide (d < a0.tmps.size) | none => true) = true)
    (stab : ∀ i v w w', Psi i v w → Below w.heap.size w w' → Psi i v w')
    (istab : ∀ w w', I w → Below w.heap.size w w' → I w')
    (step : ∀ (i : Nat) (o : Oper), ops[i]? = some o → ∀ (a : Act) (w : World), a.tmps.size = a0.tmps.size → (∀ s, dsts.contains (some s) = false → a.tmps.getD s undef = a0.tmps.getD s undef) → I w →
      (∀ e ∈ o.after, Region.binds .any e = true → ∀ (o' : Oper) (d : Tmp), ops[e.on]? = some o' → o'.dst = some d → Psi e.on (a.tmps.getD d undef) w) →
      (∀ (j : Nat) (o' : Oper) (d : Tmp), ops[j]? = some o' → o'.dst = some d → (o'.after.any fun e => e.on == i && Region.binds .any e) = true → a.tmps.getD d undef = a0.tmps.getD d undef) →
      (Region.wanted o (yielded ops a.tmps) = true ∧ ∀ K : Act → World → Prop, (∀ v w', Below w.heap.size w w' → Psi i v w' → K (a.put o.dst v) w') → o.wp P a w K Q) ∨
      (Region.wanted o (yielded ops a.tmps) = false ∧ Psi i undef w))
    (fin : ∀ (a : Act) (w : World), a.tmps.size = a0.tmps.size → a.defers = a0.defers → (∀ s, dsts.contains (some s) = false → a.tmps.getD s undef = a0.tmps.getD s undef) →
      I w → (∀ (i : Nat) (o : Oper) (d : Tmp), ops[i]? = some o → o.dst = some d → Psi i (a.tmps.getD d undef) w) → Q .normal a w)
    (h0 : I { w0 with drawn := w0.drawn + 1 }) : (Code.region id ops true).wp P Q a0 w0 :=
  rgF ops.size [] dsts (fun s => dsts.contains (some s)) Psi (fun _ _ => True) I (fun _ _ => True) hm htidy (dom_of htidy hbound) (.inl (Nat.le_refl _)) stab istab (fun _ _ _ _ => trivial) (fun _ _ _ _ _ _ hl => by cases hl)
    (fun i o ho _ a w hs hout hI hdep hold => step i o ho a w hs hout hI hdep hold) (fun o ho => absurd (Array.getElem?_eq_some_iff.1 ho).1 (Nat.lt_irrefl _)) (fun _ _ _ hl => by cases hl)
    (fun a w hs hd hout _ h => fin a w hs hd hout (h (Nat.le_refl _)).1 (h (Nat.le_refl _)).2) h0

/-- A region in its written order that stores nothing. -/
theorem sqP {id : Nat} {a0 : Act} {w0 : World} (dsts : List (Option Tmp)) (Psi : Nat → Value → World → Prop) (I : World → Prop)
    (htidy : tidy ops dsts = true)
    (hbound : (dsts.all fun x => match x with | some d => decide (d < a0.tmps.size) | none => true) = true)
    (stab : ∀ i v w w', Psi i v w → Below w.heap.size w w' → Psi i v w')
    (istab : ∀ w w', I w → Below w.heap.size w w' → I w')
    (step : ∀ (i : Nat) (o : Oper), ops[i]? = some o → ∀ (a : Act) (w : World), a.tmps.size = a0.tmps.size → (∀ s, dsts.contains (some s) = false → a.tmps.getD s undef = a0.tmps.getD s undef) → I w →
      (∀ e ∈ o.after, Region.binds .any e = true → ∀ (o' : Oper) (d : Tmp), ops[e.on]? = some o' → o'.dst = some d → Psi e.on (a.tmps.getD d undef) w) →
      (∀ (j : Nat) (o' : Oper) (d : Tmp), ops[j]? = some o' → o'.dst = some d → (o'.after.any fun e => e.on == i && Region.binds .any e) = true → a.tmps.getD d undef = a0.tmps.getD d undef) →
      (Region.wanted o (yielded ops a.tmps) = true ∧ ∀ K : Act → World → Prop, (∀ v w', Below w.heap.size w w' → Psi i v w' → K (a.put o.dst v) w') → o.wp P a w K Q) ∨
      (Region.wanted o (yielded ops a.tmps) = false ∧ Psi i undef w))
    (fin : ∀ (a : Act) (w : World), a.tmps.size = a0.tmps.size → a.defers = a0.defers → (∀ s, dsts.contains (some s) = false → a.tmps.getD s undef = a0.tmps.getD s undef) →
      I w → (∀ (i : Nat) (o : Oper) (d : Tmp), ops[i]? = some o → o.dst = some d → Psi i (a.tmps.getD d undef) w) → Q .normal a w)
    (h0 : I w0) : (Code.region id ops false).wp P Q a0 w0 :=
  sqS ops.size [] dsts (fun s => dsts.contains (some s)) Psi (fun _ _ => True) I (fun _ _ => True) htidy (dom_of htidy hbound) (.inl (Nat.le_refl _)) stab istab (fun _ _ _ _ => trivial) (fun _ _ _ _ _ _ hl => by cases hl)
    (fun i o ho _ a w hs hout hI hdep hold => step i o ho a w hs hout hI hdep hold) (fun o ho => absurd (Array.getElem?_eq_some_iff.1 ho).1 (Nat.lt_irrefl _)) (fun _ _ _ hl => by cases hl)
    (fun a w hs hd hout _ h => fin a w hs hd hout (h (Nat.le_refl _)).1 (h (Nat.le_refl _)).2) h0
end
end Go.Proofs.Ytgaofkbmnapogaa
namespace Go.Proofs.Ytgaofkbmnapogaa
open Go.RowKit

/-- What an operation has left: its slot's value. -/
def valOf (o : Oper) (v : Value) : Value := match o.dst with
  | some _ => v
  | none => undef
def slotOf (o : Oper) (a : Act) : Value := match o.dst with
  | some d => a.tmps.getD d undef
  | none => undef

section
variable {P : Program} {ops : Array Oper} {Q : Exit → Act → World → Prop}

structure Mid (ops : Array Oper) (dom : Nat → Bool) (Psi : Nat → Value → World → Prop) (I : World → Prop) (a0 : Act) (listed : Array Bool) (a : Act) (w : World) : Prop where
  lsize : listed.size = ops.size
  asize : a.tmps.size = a0.tmps.size
  defers : a.defers = a0.defers
  outside : ∀ s, dom s = false → a.tmps.getD s undef = a0.tmps.getD s undef
  inv : I w
  psi : ∀ (i : Nat) (o : Oper), listed.getD i false = true → ops[i]? = some o → Psi i (slotOf o a) w
  fresh : ∀ (j : Nat) (o : Oper) (d : Tmp), listed.getD j false = false → ops[j]? = some o → o.dst = some d → a.tmps.getD d undef = a0.tmps.getD d undef
  closed : ∀ (i : Nat) (o : Oper), listed.getD i false = true → ops[i]? = some o → ∀ e ∈ o.after, Region.binds .any e = true → listed.getD e.on false = true

theorem put_getD {a : Act} {d : Tmp} {v : Value} (hda : d < a.tmps.size) (s : Nat) : (a.put (some d) v).tmps.getD s undef = if s = d then v else a.tmps.getD s undef := by
  simp only [Act.put]
  by_cases e : s = d
  · subst e; simp [hda]
  · rw [if_neg e]
    simp only [Array.getD_eq_getD_getElem?, Array.getElem?_setIfInBounds_ne (Ne.symm e)]

theorem Mid.next {dom : Nat → Bool} {Psi : Nat → Value → World → Prop} {I : World → Prop} {R : Nat → World → World → Prop} {a0 : Act} {dsts : List (Option Tmp)} {listed : Array Bool} {a : Act} {w w' : World} {i : Nat} {o : Oper} {v : Value}
    (htidy : tidy ops dsts = true)
    (hdom : ∀ (i : Nat) (o : Oper) (d : Tmp), ops[i]? = some o → o.dst = some d → dom d = true ∧ d < a0.tmps.size)
    (stab : ∀ i j v w w', j ≠ i → I w → Psi j v w → R i w w' → Psi j v w') (istab : ∀ i w w', I w → R i w w' → I w')
    (hJ : Mid ops dom Psi I a0 listed a w) (ho : ops[i]? = some o)
    (hdep : ∀ e ∈ o.after, Region.binds .any e = true → listed.getD e.on false = true) (hR : w' = w ∨ R i w w') (hv : Psi i (valOf o v) w') : Mid ops dom Psi I a0 (listed.setIfInBounds i true) (a.put o.dst v) w' := by
  have hlt : i < ops.size := (Array.getElem?_eq_some_iff.1 ho).1
  have hil : (listed.setIfInBounds i true).getD i false = true := by
    have : i < listed.size := by have := hJ.lsize; omega
    simp [this]
  have hI : I w' := by
    rcases hR with rfl | hR
    · exact hJ.inv
    · exact istab _ _ _ hJ.inv hR
  have hst : ∀ j x, j ≠ i → Psi j x w → Psi j x w' := by
    intro j x hji hx
    rcases hR with rfl | hR
    · exact hx
    · exact stab _ _ _ _ _ hji hJ.inv hx hR
  have hclosed : ∀ (j : Nat) (o' : Oper), (listed.setIfInBounds i true).getD j false = true → ops[j]? = some o' → ∀ e ∈ o'.after, Region.binds .any e = true → (listed.setIfInBounds i true).getD e.on false = true := by
    intro j o' hj ho' e he hb
    have : listed.getD e.on false = true := by
      by_cases e1 : i = j
      · subst e1
        rw [ho] at ho'
        obtain rfl := Option.some.inj ho'
        exact hdep e he hb
      · rw [getD_set_ne false e1] at hj
        exact hJ.closed j o' hj ho' e he hb
    by_cases e2 : i = e.on
    · rw [← e2]; exact hil
    · rw [getD_set_ne false e2]; exact this
  have hsize : (listed.setIfInBounds i true).size = ops.size := by simpa using hJ.lsize
  cases hd : o.dst with
  | none =>
    refine ⟨hsize, hJ.asize, hJ.defers, hJ.outside, hI, fun j o' hj ho' => ?_, fun j o' d hj ho' hd' => ?_, hclosed⟩
    · by_cases e1 : i = j
      · subst e1
        rw [ho] at ho'
        obtain rfl := Option.some.inj ho'
        have : valOf o v = slotOf o (a.put none v) := by simp only [valOf, slotOf, hd]
        rw [← this]; exact hv
      · rw [getD_set_ne false e1] at hj
        exact hst _ _ (Ne.symm e1) (hJ.psi j o' hj ho')
    · have hij : i ≠ j := fun e => by subst e; rw [hil] at hj; cases hj
      rw [getD_set_ne false hij] at hj
      exact hJ.fresh j o' d hj ho' hd'
  | some d =>
    obtain ⟨hdm, hdl⟩ := hdom i o d ho hd
    have hda : d < a.tmps.size := by rw [hJ.asize]; exact hdl
    refine ⟨hsize, by simpa [Act.put] using hJ.asize, by simpa [Act.put] using hJ.defers, fun s hs => ?_, hI, fun j o' hj ho' => ?_, fun j o' d' hj ho' hd' => ?_, hclosed⟩
    · rw [put_getD hda, if_neg (fun e => by subst e; rw [hdm] at hs; cases hs)]; exact hJ.outside s hs
    · by_cases e1 : i = j
      · subst e1
        rw [ho] at ho'
        obtain rfl := Option.some.inj ho'
        have : valOf o v = slotOf o (a.put (some d) v) := by simp only [valOf, slotOf, hd]; rw [put_getD hda, if_pos rfl]
        rw [← this]; exact hv
      · rw [getD_set_ne false e1] at hj
        have := hJ.psi j o' hj ho'
        have e3 : slotOf o' (a.put (some d) v) = slotOf o' a := by
          unfold slotOf
          cases hd' : o'.dst with
          | none => rfl
          | some d' =>
            show (a.put (some d) v).tmps.getD d' undef = a.tmps.getD d' undef
            rw [put_getD hda, if_neg (fun e => e1 (by subst e; exact ((tidy_spec htidy ho).2.2 d' hd j o' ho' hd').symm))]
        rw [e3]
        exact hst _ _ (Ne.symm e1) this
    · have hij : i ≠ j := fun e => by subst e; rw [hil] at hj; cases hj
      rw [getD_set_ne false hij] at hj
      rw [put_getD hda, if_neg (fun e => hij (by subst e; exact ((tidy_spec htidy ho).2.2 d' hd j o' ho' hd').symm))]
      exact hJ.fresh j o' d' hj ho' hd'

/-- A region that draws its order; each operation keeps to a rely of its own. -/
theorem rgR {id : Nat} {a0 : Act} {w0 : World} (dsts : List (Option Tmp)) (Psi : Nat → Value → World → Prop) (I : World → Prop) (R : Nat → World → World → Prop) (hm : P.follows .mixedOrders = true)
    (htidy : tidy ops dsts = true)
    (hbound : (dsts.all fun x => match x with | some d => decide (d < a0.tmps.size) | none => true) = true)
    (stab : ∀ i j v w w', j ≠ i → I w → Psi j v w → R i w w' → Psi j v w') (istab : ∀ i w w', I w → R i w w' → I w')
    (step : ∀ (i : Nat) (o : Oper), ops[i]? = some o → ∀ (a : Act) (w : World), a.tmps.size = a0.tmps.size → (∀ s, dsts.contains (some s) = false → a.tmps.getD s undef = a0.tmps.getD s undef) → I w →
      (∀ e ∈ o.after, Region.binds .any e = true → ∀ (o' : Oper), ops[e.on]? = some o' → Psi e.on (slotOf o' a) w) →
      (∀ (j : Nat) (o' : Oper) (d : Tmp), ops[j]? = some o' → o'.dst = some d → (o'.after.any fun e => e.on == i && Region.binds .any e) = true → a.tmps.getD d undef = a0.tmps.getD d undef) →
      (Region.wanted o (yielded ops a.tmps) = true ∧ ∀ K : Act → World → Prop, (∀ v w', R i w w' → Psi i (valOf o v) w' → K (a.put o.dst v) w') → o.wp P a w K Q) ∨
      (Region.wanted o (yielded ops a.tmps) = false ∧ Psi i undef w))
    (fin : ∀ (a : Act) (w : World), a.tmps.size = a0.tmps.size → a.defers = a0.defers → (∀ s, dsts.contains (some s) = false → a.tmps.getD s undef = a0.tmps.getD s undef) →
      I w → (∀ (i : Nat) (o : Oper), ops[i]? = some o → Psi i (slotOf o a) w) → Q .normal a w)
    (h0 : I { w0 with drawn := w0.drawn + 1 }) : (Code.region id ops true).wp P Q a0 w0 := by
  have hdom := dom_of htidy hbound
  have all_listed : ∀ listed : Array Bool, listed.size = ops.size → Region.ready .any ops listed = [] → ∀ i, i < ops.size → listed.getD i false = true := by
    intro listed hls hr i
    induction i using Nat.strongRecOn with
    | _ i ih =>
      intro hi
      cases hb : listed.getD i true with
      | true =>
        have hlt : i < listed.size := by omega
        simp only [Array.getD_eq_getD_getElem?, Array.getElem?_eq_getElem hlt, Option.getD_some] at hb ⊢
        exact hb
      | false =>
        exfalso
        have : i ∈ Region.ready .any ops listed := mem_ready.2 ⟨hb, ops[i], Array.getElem?_eq_getElem hi, fun e he hb2 => by
          have hlt := (tidy_spec htidy (Array.getElem?_eq_getElem hi)).2.1 e he hb2
          exact ih e.on hlt (by omega)⟩
        rw [hr] at this
        cases this
  have final : ∀ (listed : Array Bool) (a : Act) (w : World), Region.ready .any ops listed = [] → Mid ops (fun s => dsts.contains (some s)) Psi I a0 listed a w → Q .normal a w := by
    intro listed a w hr hJ
    have hal := all_listed listed hJ.lsize hr
    exact fin a w hJ.asize hJ.defers hJ.outside hJ.inv fun i o ho => hJ.psi i o (hal i (Array.getElem?_eq_some_iff.1 ho).1) ho
  have main : ∀ (fuel : Nat) (listed : Array Bool) (a : Act) (w : World), (List.range ops.size).countP (fun i => !listed.getD i true) ≤ fuel → Mid ops (fun s => dsts.contains (some s)) Psi I a0 listed a w → wpAny P .any ops Q fuel listed a w := by
    intro fuel
    induction fuel with
    | zero =>
      intro listed a w hc hJ
      have hr : Region.ready .any ops listed = [] := by
        rw [List.eq_nil_iff_forall_not_mem]
        intro i hi
        obtain ⟨h1, o, ho, _⟩ := mem_ready.1 hi
        have hlt : i < ops.size := (Array.getElem?_eq_some_iff.1 ho).1
        have := (List.countP_eq_zero.1 (Nat.le_zero.1 hc)) i (List.mem_range.2 hlt)
        simp [h1] at this
      exact ⟨hr, final listed a w hr hJ⟩
    | succ fuel ih =>
      intro listed a w hc hJ
      refine ⟨fun hr => final listed a w hr hJ, fun i hi => ?_⟩
      obtain ⟨h1, o, ho, hdep⟩ := mem_ready.1 hi
      have hlt : i < ops.size := (Array.getElem?_eq_some_iff.1 ho).1
      have hcount : (List.range ops.size).countP (fun j => !(listed.setIfInBounds i true).getD j true) ≤ fuel := by
        have := countP_lt (f := fun i => !listed.getD i true) (f' := fun j => !(listed.setIfInBounds i true).getD j true) (fun j hj => by
          by_cases e : i = j
          · subst e; simpa using h1
          · simpa [getD_set_ne true e] using hj) (i := i) (by simpa using h1) (by
            have : i < listed.size := by have := hJ.lsize; omega
            simp [this]) (List.range ops.size) (List.mem_range.2 hlt)
        omega
      have h1f := getD_false_of h1
      have hs := step i o ho a w hJ.asize hJ.outside hJ.inv (fun e he hb o' ho' => hJ.psi e.on o' (hdep e he hb) ho') (fun j o' d ho' hd' hn => hJ.fresh j o' d (by
        cases hlj : listed.getD j false with
        | false => rfl
        | true =>
          obtain ⟨x, hx, h5⟩ := Array.any_eq_true.1 hn
          simp only [Bool.and_eq_true, beq_iff_eq] at h5
          have h6 := hJ.closed j o' hlj ho' _ (Array.getElem_mem hx) h5.2
          rw [h5.1] at h6
          rw [h6] at h1f
          cases h1f) ho' hd')
      unfold wpOp
      rw [ho]
      rcases hs with ⟨hw, hs⟩ | ⟨hw, hv⟩
      · simp only [hw, if_true]
        exact .inl (hs _ fun v w' hR hpsi => ih _ _ _ hcount (hJ.next htidy hdom stab istab ho hdep (.inr hR) hpsi))
      · simp only [hw]
        refine ih _ _ _ hcount (hJ.next htidy hdom stab istab ho hdep (.inl rfl) ?_)
        have : valOf o undef = undef := by unfold valOf; cases o.dst <;> rfl
        rw [this]; exact hv
  refine wp_region_any hm (main _ _ _ _ ?_ ⟨by simp, rfl, rfl, fun _ _ => rfl, h0, fun i o hl _ => ?_, fun _ _ _ _ _ _ => rfl, fun i o hl _ => ?_⟩)
  · exact Nat.le_trans List.countP_le_length (by simp)
  · by_cases e : i < ops.size <;> simp [e] at hl
  · by_cases e : i < ops.size <;> simp [e] at hl
end
end Go.Proofs.Ytgaofkbmnapogaa
