import Derived.Test.YtjjnhmbgffdenaaBase
import Derived.Deep.RegionHeld3
namespace Go.Proofs.Ytjjnhmbgffdenaa
open Go.RowKit

section
variable {P : Program} {ops : Array Oper} {Q : Exit → Act → World → Prop}

theorem countP_lt {f f' : Nat → Bool} (hff : ∀ j, f' j = true → f j = true) {i : Nat} (hi : f i = true) (hi' : f' i = false) : ∀ l : List Nat, i ∈ l → l.countP f' < l.countP f := by
  intro l
  induction l with
  | nil => intro h; cases h
  | cons x l ih =>
    intro h
    have hle : l.countP f' ≤ l.countP f := List.countP_mono_left fun j _ => hff j
    by_cases e : x = i
    · subst e
      rw [List.countP_cons_of_pos hi, List.countP_cons_of_neg (by simp [hi'])]
      omega
    · have hm : i ∈ l := by
        rcases List.mem_cons.1 h with h | h
        · exact absurd h.symm e
        · exact h
      have := ih hm
      cases hx : f' x
      · rw [List.countP_cons_of_neg (by simp [hx])]
        have : l.countP f ≤ (x :: l).countP f := by rw [List.countP_cons]; exact Nat.le_add_right _ _
        omega
      · rw [List.countP_cons_of_pos hx, List.countP_cons_of_pos (hff x hx)]
        omega

/-- What is known between the operations of a region that draws its order. -/
structure Between (ops : Array Oper) (Psi : Nat → Value → World → Prop) (I : World → Prop) (a0 : Act) (lo hi : Nat) (listed : Array Bool) (a : Act) (w : World) : Prop where
  lsize : listed.size = ops.size
  asize : a.tmps.size = a0.tmps.size
  defers : a.defers = a0.defers
  outside : ∀ s, s < lo ∨ hi < s → a.tmps.getD s undef = a0.tmps.getD s undef
  inv : I w
  done : ∀ (i : Nat) (o : Oper) (d : Tmp), listed.getD i false = true → ops[i]? = some o → o.dst = some d → Psi i (a.tmps.getD d undef) w

theorem rg {id : Nat} {a0 : Act} {w0 : World} (Psi : Nat → Value → World → Prop) (I : World → Prop) (lo hi : Nat) (hm : P.follows .mixedOrders = true)
    (hhi : hi < a0.tmps.size)
    (hdst : ∀ (i : Nat) (o : Oper), ops[i]? = some o → ∃ d, o.dst = some d ∧ lo ≤ d ∧ d ≤ hi ∧ ∀ (j : Nat) (o' : Oper), ops[j]? = some o' → o'.dst = some d → j = i)
    (hafter : ∀ (i : Nat) (o : Oper), ops[i]? = some o → ∀ e ∈ o.after, e.on < i)
    (stab : ∀ i v w w', Psi i v w → Below w.heap.size w w' → Psi i v w')
    (istab : ∀ w w', I w → Below w.heap.size w w' → I w')
    (step : ∀ (i : Nat) (o : Oper), ops[i]? = some o → ∀ (a : Act) (w : World), a.tmps.size = a0.tmps.size → (∀ s, s < lo ∨ hi < s → a.tmps.getD s undef = a0.tmps.getD s undef) → I w →
      (∀ e ∈ o.after, Region.binds .any e = true → ∀ (o' : Oper) (d : Tmp), ops[e.on]? = some o' → o'.dst = some d → Psi e.on (a.tmps.getD d undef) w) →
      Region.wanted o (yielded ops a.tmps) = true ∧ ∀ K : Act → World → Prop, (∀ v w', Below w.heap.size w w' → Psi i v w' → K (a.put o.dst v) w') → o.wp P a w K Q)
    (fin : ∀ (a : Act) (w : World), a.tmps.size = a0.tmps.size → a.defers = a0.defers → (∀ s, s < lo ∨ hi < s → a.tmps.getD s undef = a0.tmps.getD s undef) → I w →
      (∀ (i : Nat) (o : Oper) (d : Tmp), ops[i]? = some o → o.dst = some d → Psi i (a.tmps.getD d undef) w) → Q .normal a w)
    (h0 : I { w0 with drawn := w0.drawn + 1 }) : (Code.region id ops true).wp P Q a0 w0 := by
  have all_listed : ∀ listed : Array Bool, listed.size = ops.size → Region.ready .any ops listed = [] → ∀ i, i < ops.size → listed.getD i false = true := by
    intro listed hls hr i
    induction i using Nat.strongRecOn with
    | _ i ih =>
      intro hi
      cases hb : listed.getD i true with
      | true =>
        have hlt : i < listed.size := by omega
        simp only [Array.getD_eq_getD_getElem?, Array.getElem?_eq_getElem hlt, Option.getD_some] at hb ⊢
        exact hb
      | false =>
        exfalso
        have : i ∈ Region.ready .any ops listed := mem_ready.2 ⟨hb, ops[i], Array.getElem?_eq_getElem hi, fun e he _ => by
          have hlt := hafter i _ (Array.getElem?_eq_getElem hi) e he
          exact ih e.on hlt (by omega)⟩
        rw [hr] at this
        cases this
  have main : ∀ (fuel : Nat) (listed : Array Bool) (a : Act) (w : World), (List.range ops.size).countP (fun i => !listed.getD i true) ≤ fuel → Between ops Psi I a0 lo hi listed a w → wpAny P .any ops Q fuel listed a w := by
    intro fuel
    induction fuel with
    | zero =>
      intro listed a w hc hJ
      have hr : Region.ready .any ops listed = [] := by
        rw [List.eq_nil_iff_forall_not_mem]
        intro i hi
        obtain ⟨h1, o, ho, _⟩ := mem_ready.1 hi
        have hlt : i < ops.size := (Array.getElem?_eq_some_iff.1 ho).1
        have := (List.countP_eq_zero.1 (Nat.le_zero.1 hc)) i (List.mem_range.2 hlt)
        simp [h1] at this
      refine ⟨hr, fin a w hJ.asize hJ.defers hJ.outside hJ.inv fun i o d ho hd => hJ.done i o d (all_listed listed hJ.lsize hr i (Array.getElem?_eq_some_iff.1 ho).1) ho hd⟩
    | succ fuel ih =>
      intro listed a w hc hJ
      refine ⟨fun hr => fin a w hJ.asize hJ.defers hJ.outside hJ.inv fun i o d ho hd => hJ.done i o d (all_listed listed hJ.lsize hr i (Array.getElem?_eq_some_iff.1 ho).1) ho hd, fun i hi => ?_⟩
      obtain ⟨h1, o, ho, hdep⟩ := mem_ready.1 hi
      have hlt : i < ops.size := (Array.getElem?_eq_some_iff.1 ho).1
      obtain ⟨hw, hs⟩ := step i o ho a w hJ.asize hJ.outside hJ.inv (fun e he hb o' d ho' hd => hJ.done e.on o' d (hdep e he hb) ho' hd)
      unfold wpOp
      rw [ho]
      simp only [hw, if_true]
      refine .inl (hs _ fun v w' hb hpsi => ih _ _ _ ?_ ?_)
      · have := countP_lt (f := fun i => !listed.getD i true) (f' := fun j => !(listed.setIfInBounds i true).getD j true) (fun j hj => by
          by_cases e : i = j
          · subst e; simpa using h1
          · simpa [getD_set_ne true e] using hj) (i := i) (by simpa using h1) (by
            have : i < listed.size := by have := hJ.lsize; omega
            simp [this]) (List.range ops.size) (List.mem_range.2 hlt)
        omega
      · obtain ⟨d, hd, hlo, hhi', huniq⟩ := hdst i o ho
        rw [hd]
        have hda : d < a.tmps.size := by rw [hJ.asize]; exact Nat.lt_of_le_of_lt hhi' hhi
        have hget : ∀ s, (a.put (some d) v).tmps.getD s undef = if s = d then v else a.tmps.getD s undef := by
          intro s
          simp only [Act.put]
          by_cases e : s = d
          · subst e; simp [hda]
          · rw [if_neg e]
            simp only [Array.getD_eq_getD_getElem?, Array.getElem?_setIfInBounds_ne (Ne.symm e)]
        refine ⟨by simpa using hJ.lsize, by simpa [Act.put] using hJ.asize, by simpa [Act.put] using hJ.defers, fun s hs => ?_, istab _ _ hJ.inv hb, fun j o' d' hj ho' hd' => ?_⟩
        · have hne : s ≠ d := by
            rintro rfl
            rcases hs with h | h
            · exact absurd hlo (Nat.not_le_of_lt h)
            · exact absurd hhi' (Nat.not_le_of_lt h)
          rw [hget, if_neg hne]; exact hJ.outside s hs
        · rw [hget]
          by_cases e : d' = d
          · subst e
            obtain rfl := huniq j o' ho' hd'
            rw [if_pos rfl]; exact hpsi
          · rw [if_neg e]
            have hne : i ≠ j := fun e2 => by
              subst e2
              rw [ho] at ho'
              obtain rfl := Option.some.inj ho'
              rw [hd] at hd'
              exact e (Option.some.inj hd').symm
            rw [getD_set_ne false hne] at hj
            exact stab _ _ _ _ (hJ.done j o' d' hj ho' hd') hb
  refine wp_region_any hm (main _ _ _ _ ?_ ⟨by simp, rfl, rfl, fun _ _ => rfl, h0, fun i o d hl _ _ => ?_⟩)
  · exact Nat.le_trans List.countP_le_length (by simp)
  · by_cases e : i < ops.size
    · simp [e] at hl
    · simp [e] at hl
end
end Go.Proofs.Ytjjnhmbgffdenaa
