import Derived.Test.YtjjnhmbgffdenaaDoorGai
import Derived.Test.YtjjnhmbgffdenaaDoorGac
import Derived.Deep.Cut
import Derived.Maps.AppendAt
namespace Go.Proofs.YtjjnhmbgffdenaaDoor
open Go.RowKit Go.Sort

/-- Two operations (i and j) that make a block each: the slots s and t lead to blocks that are there, and that differ. For rgT4. -/
def XTwo (i j : Nat) (s t : Tmp) (L : Array Bool) (a : Act) (w : World) : Prop :=
  (s < a.tmps.size ∧ t < a.tmps.size) ∧ (L.getD i false = true → ∃ b, a.tmps.getD s undef = .pointer (some ⟨b, 0, none⟩) ∧ b < w.heap.size) ∧ (L.getD j false = true → ∃ b, a.tmps.getD t undef = .pointer (some ⟨b, 0, none⟩) ∧ b < w.heap.size) ∧
    (L.getD i false = true → L.getD j false = true → a.tmps.getD s undef ≠ a.tmps.getD t undef)
theorem putD_other {a : Act} {d : Option Tmp} {v : Value} {s : Tmp} (h : d ≠ some s) : (a.put d v).tmps.getD s undef = a.tmps.getD s undef := by
  cases d with
  | none => rfl
  | some d =>
    show (a.tmps.setIfInBounds d v).getD s undef = _
    have : d ≠ s := fun e => h (by rw [e])
    simp [Array.getD_eq_getD_getElem?, Array.getElem?_setIfInBounds, this]
theorem putD_self {a : Act} {v : Value} {s : Tmp} (h : s < a.tmps.size) : (a.put (some s) v).tmps.getD s undef = v := by
  show (a.tmps.setIfInBounds s v).getD s undef = _
  simp [Array.getD_eq_getD_getElem?, Array.getElem?_setIfInBounds, h]
theorem put_size {a : Act} {d : Option Tmp} {v : Value} : (a.put d v).tmps.size = a.tmps.size := by
  cases d with
  | none => rfl
  | some d => show (a.tmps.setIfInBounds d v).size = _; simp
theorem XTwo.keep {i j k : Nat} {s t : Tmp} {L : Array Bool} {a : Act} {w w' : World} {d : Option Tmp} {v : Value} (h : XTwo i j s t L a w) (hi : k ≠ i) (hj : k ≠ j) (hs : d ≠ some s) (ht : d ≠ some t) (hw : w.heap.size ≤ w'.heap.size) :
    XTwo i j s t (L.setIfInBounds k true) (a.put d v) w' := by
  unfold XTwo
  rw [getD_set_ne false hi, getD_set_ne false hj, putD_other hs, putD_other ht, put_size]
  exact ⟨h.1, fun hl => (h.2.1 hl).imp fun b hb => ⟨hb.1, Nat.lt_of_lt_of_le hb.2 hw⟩, fun hl => (h.2.2.1 hl).imp fun b hb => ⟨hb.1, Nat.lt_of_lt_of_le hb.2 hw⟩, h.2.2.2⟩
theorem XTwo.one {i j : Nat} {s t : Tmp} {L : Array Bool} {a : Act} {w w' : World} (h : XTwo i j s t L a w) (hij : i ≠ j) (hst : s ≠ t) (hw : w.heap.size < w'.heap.size) :
    XTwo i j s t (L.setIfInBounds i true) (a.put (some s) (.pointer (some ⟨w.heap.size, 0, none⟩))) w' := by
  unfold XTwo
  rw [getD_set_ne false hij, putD_self h.1.1, putD_other (s := t) (fun e => hst (Option.some.inj e)), put_size]
  refine ⟨h.1, fun _ => ⟨_, rfl, hw⟩, fun hl => (h.2.2.1 hl).imp fun b hb => ⟨hb.1, Nat.lt_trans hb.2 hw⟩, fun _ hl e => ?_⟩
  obtain ⟨b, hb, hlt⟩ := h.2.2.1 hl
  rw [← e] at hb
  simp only [Value.pointer.injEq, Option.some.injEq, Addr.mk.injEq] at hb
  omega
theorem XTwo.two {i j : Nat} {s t : Tmp} {L : Array Bool} {a : Act} {w w' : World} (h : XTwo i j s t L a w) (hij : i ≠ j) (hst : s ≠ t) (hw : w.heap.size < w'.heap.size) :
    XTwo i j s t (L.setIfInBounds j true) (a.put (some t) (.pointer (some ⟨w.heap.size, 0, none⟩))) w' := by
  unfold XTwo
  rw [getD_set_ne false (Ne.symm hij), putD_self h.1.2, putD_other (s := s) (fun e => hst (Option.some.inj e).symm), put_size]
  refine ⟨h.1, fun hl => (h.2.1 hl).imp fun b hb => ⟨hb.1, Nat.lt_trans hb.2 hw⟩, fun _ => ⟨_, rfl, hw⟩, fun hl _ e => ?_⟩
  obtain ⟨b, hb, hlt⟩ := h.2.1 hl
  rw [e] at hb
  simp only [Value.pointer.injEq, Option.some.injEq, Addr.mk.injEq] at hb
  omega
theorem XTwo.start {i j : Nat} {s t : Tmp} {L : Array Bool} {a : Act} {w : World} (hL : ∀ k, L.getD k false = false) (hs : s < a.tmps.size) (ht : t < a.tmps.size) : XTwo i j s t L a w :=
  ⟨⟨hs, ht⟩, (fun h => by rw [hL] at h; cases h), (fun h => by rw [hL] at h; cases h), (fun h => by rw [hL] at h; cases h)⟩
end Go.Proofs.YtjjnhmbgffdenaaDoor
namespace Go.Proofs.YtjjnhmbgffdenaaDoor
open Go.Shelf Go.RowKit Go.Lib Go.Sort Go.Proofs

/-- A loop that is held: its name, the needle, the spot. -/
structure Hd where
  id : Nm
  b : Int
  a : Int
  s : Int
deriving DecidableEq
instance : Inhabited Hd := ⟨⟨⟨0, 0⟩, 0, 0, 0⟩⟩
def Hd.enc (h : Hd) : List Value := [.int .u8 h.id.y, .int .i64 h.id.n, .int .u8 h.b, .int .i64 h.a, .int .i64 h.s]
def Hd.v (h : Hd) : Value := .agg #[.int .u8 h.id.y, .int .i64 h.id.n, .int .u8 h.b, .int .i64 h.a, .int .i64 h.s]
theorem Hd.enc_len (h : Hd) : h.enc.length = 5 := rfl
theorem Hd.enc_one (h : Hd) : ∀ v ∈ h.enc, v.oneCell' = true := by
  intro v hv
  simp only [Hd.enc, List.mem_cons, List.not_mem_nil, or_false] at hv
  rcases hv with rfl | rfl | rfl | rfl | rfl <;> rfl
/-- The cells of a list of records of k cells. -/
def rcells {α : Type} (enc : α → List Value) (l : List α) : List Value := l.flatMap enc
theorem rcells_append {α : Type} (enc : α → List Value) (a b : List α) : rcells enc (a ++ b) = rcells enc a ++ rcells enc b := by simp [rcells]
theorem rcells_length {α : Type} (enc : α → List Value) (k : Nat) (hk : ∀ x, (enc x).length = k) (l : List α) : (rcells enc l).length = l.length * k := by
  induction l with
  | nil => simp [rcells]
  | cons x l ih =>
    have : rcells enc (x :: l) = enc x ++ rcells enc l := rfl
    rw [this, List.length_append, hk, ih, List.length_cons, Nat.add_mul]; omega
theorem rcells_one {α : Type} (enc : α → List Value) (h1 : ∀ x, ∀ v ∈ enc x, v.oneCell' = true) (l : List α) : ∀ v ∈ rcells enc l, v.oneCell' = true := by
  intro v hv
  simp only [rcells, List.mem_flatMap] at hv
  obtain ⟨x, _, hx⟩ := hv
  exact h1 x v hx
theorem rcells_at {α : Type} (enc : α → List Value) (k : Nat) (hk : ∀ x, (enc x).length = k) : ∀ (l : List α) (i : Nat) (x : α) (c : Nat), l[i]? = some x → c < k → (rcells enc l)[i * k + c]? = (enc x)[c]?
  | [], i, x, c, h, _ => by simp at h
  | y :: l, 0, x, c, h, hc => by
    obtain rfl : y = x := by simpa using h
    have : rcells enc (y :: l) = enc y ++ rcells enc l := rfl
    rw [this, Nat.zero_mul, Nat.zero_add, List.getElem?_append_left (by rw [hk]; exact hc)]
  | y :: l, i + 1, x, c, h, hc => by
    have : rcells enc (y :: l) = enc y ++ rcells enc l := rfl
    rw [this, List.getElem?_append_right (by rw [hk, Nat.add_mul]; omega), hk, show (i + 1) * k + c - k = i * k + c by rw [Nat.add_mul]; omega]
    exact rcells_at enc k hk l i x c (by simpa using h) hc
theorem flat_rcells {α : Type} [Inhabited α] (enc : α → List Value) (k : Nat) (hk : ∀ x, (enc x).length = k) (d : Array α) : (flatK enc k d).toList = rcells enc d.toList := by
  apply List.ext_getElem?
  intro t
  by_cases ht : t < d.size * k
  · have hk0 : 0 < k := by
      rcases Nat.eq_zero_or_pos k with h | h
      · rw [h] at ht; simp at ht
      · exact h
    have hi : t / k < d.size := (Nat.div_lt_iff_lt_mul hk0).2 ht
    have hc : t % k < k := Nat.mod_lt _ hk0
    have e : t / k * k + t % k = t := Nat.div_add_mod' t k
    have hx : d.toList[t / k]? = some d[t / k]! := by
      rw [getElem!_pos d (t / k) hi, List.getElem?_eq_getElem (by simpa using hi)]; simp
    have h2 := rcells_at enc k hk d.toList (t / k) _ (t % k) hx hc
    rw [e] at h2
    rw [h2, List.getElem?_eq_getElem (by simpa using ht), List.getElem?_eq_getElem (by rw [hk]; exact hc)]
    have h3 := get_flatK enc k d t ht
    rw [getElem!_pos _ t (by simpa using ht), getElem!_pos (enc d[t / k]!) (t % k) (by rw [hk]; exact hc)] at h3
    simpa using h3
  · rw [List.getElem?_eq_none (by simp; omega), List.getElem?_eq_none (by rw [rcells_length enc k hk]; simp; omega)]
/-- A row of one's own holds what it holds. -/
theorem holdsK_of_own {α : Type} [Inhabited α] (enc : α → List Value) (k : Nat) (hk : ∀ x, (enc x).length = k) {w : World} {N e g cap : Nat} {cur : Array Value} {l : List α} (hg : w.heap[g]? = some (.cells cur e (0, 0))) (ht : cur.toList.take (l.length * k) = rcells enc l) : HoldsK enc k w g 0 l.toArray := by
  intro j hj
  have hj' : j < l.length * k := by simpa using hj
  have h1 : (rcells enc l)[j]? = some (flatK enc k l.toArray)[j]! := by
    have e0 : rcells enc l = (flatK enc k l.toArray).toList := (flat_rcells enc k hk l.toArray).symm
    rw [e0, getElem!_pos _ j hj, Array.getElem?_toList]
    exact Array.getElem?_eq_getElem hj
  rw [← ht, List.getElem?_take, if_pos hj'] at h1
  rw [Nat.zero_add]
  exact ⟨by rw [cell_of_row w g j cur e (0, 0) hg]; simpa using h1, by simp [World.frozen?, hg]⟩
/-- What a world of the sort's is. -/
theorem SWK.below {α : Type} [Inhabited α] {enc : α → List Value} {k : Nat} {w0 W : World} {g : Nat} {d : Array α} {N : Nat} (h : SWK enc k w0 g 0 d W) (hN : N ≤ g) (hg : g < w0.heap.size) : RowKit.Below N w0 W := by
  obtain ⟨n, os, rfl⟩ := h
  unfold sortWorldK putRowK putRow mapBlock Sort.ahead grow
  refine ⟨rfl, rfl, rfl, ?_, fun b hb => ?_⟩
  · simp
  · simp only
    rw [Array.getElem?_append_left (by simp; omega), Array.getElem?_modify, if_neg (by omega)]
theorem SWK.own {α : Type} [Inhabited α] {enc : α → List Value} {k : Nat} (hk : ∀ x, (enc x).length = k) {w0 W : World} {g e cap N : Nat} {d : Array α} {cur : Array Value} {l : List α} (h : SWK enc k w0 g 0 d W) (hb : N ≤ g) (hg : w0.heap[g]? = some (.cells cur e (0, 0))) (ht : cur.toList.take (l.length * k) = rcells enc l) (hs : d.size = l.length)
    (hn : l.length ≤ cap) (hm : cap ≤ maxLen) (hc : cur.size = cap * k) : W.ownsRow N e k (.slice (some ⟨g, 0, none⟩) l.length cap) l.length (rcells enc d.toList) := by
  have hH : HoldsK enc k w0 g 0 l.toArray := holdsK_of_own (N := 0) (cap := 0) enc k hk hg ht
  have hlt : g < w0.heap.size := (Array.getElem?_eq_some_iff.1 hg).1
  have hW := h.holds hlt hH (by simpa using hs)
  refine ⟨by rw [rcells_length enc k hk, Array.length_toList, hs], .inr ?_⟩
  obtain ⟨n, os, hw⟩ := h
  obtain ⟨cur', h1, h2⟩ : ∃ cur', W.heap[g]? = some (.cells cur' e (0, 0)) ∧ cur'.size = cur.size := by
    rw [hw]
    unfold sortWorldK putRowK putRow mapBlock Sort.ahead grow
    rw [Array.getElem?_append_left (by simp; exact hlt), Array.getElem?_modify, if_pos rfl, hg]
    exact ⟨putCells id 0 (flatK enc k d) cur, rfl, by simp [putCells]⟩
  refine ⟨g, cap, cur', rfl, hb, h1, hn, hm, by rw [h2, hc], ?_⟩
  rw [← flat_rcells enc k hk]
  have hle : l.length * k ≤ cur'.size := by rw [h2, hc]; exact Nat.mul_le_mul_right k hn
  apply List.ext_getElem?
  intro t
  rw [List.getElem?_take]
  by_cases htk : t < l.length * k
  · rw [if_pos htk]
    have h3 := (hW t (by rw [size_flatK, hs]; exact htk)).1
    rw [Nat.zero_add, cell_of_row W g t cur' e (0, 0) h1] at h3
    have h4 : t < (flatK enc k d).size := by rw [size_flatK, hs]; exact htk
    rw [getElem!_pos _ t h4] at h3
    rw [Array.getElem?_toList, Array.getElem?_toList, h3, Array.getElem?_eq_getElem h4]; rfl
  · rw [if_neg htk, List.getElem?_eq_none (by simp [hs]; omega)]
end Go.Proofs.YtjjnhmbgffdenaaDoor
namespace Go.Proofs.YtjjnhmbgffdenaaDoor
open Go.Shelf Go.RowKit Go.Lib Go.Sort Go.Proofs

theorem isNaN_any (a : Int) (w : World) : Calls Tryd.prog 68 #[.int .i64 a] w fun e w' => e = .returned (.bool false) ∧ w' = w := by
  go_enter Tryd.func68, Tryd.ntmps68
  go_wp2
  all_goals (go_ret; exact ⟨rfl, rfl⟩)
def cmpI (a b : Int) : Int := if a < b then -1 else if a > b then 1 else 0
theorem compare_any (a b : Int) (w : World) : Calls Tryd.prog 54 #[.int .i64 a, .int .i64 b] w fun e w' => e = .returned (.int .i64 (cmpI a b)) ∧ w' = w := by
  go_enter Tryd.func54, Tryd.ntmps54
  go_wp2_with (go_at_call 68; refine (isNaN_any _ _).mono ?_; rintro e w' ⟨rfl, rfl⟩)
  all_goals (
    go_ret
    refine ⟨congrArg (fun r => Ending.returned (.int .i64 r)) ?_, rfl⟩
    unfold cmpI
    split <;> (try split) <;> omega)
/-- The closure that compares spots. -/
theorem closure_any (x y : Hd) (w : World) : Calls Tryd.prog 53 #[.agg x.enc.toArray, .agg y.enc.toArray] w fun e w' => e = .returned (.int .i64 (cmpI x.s y.s)) ∧ ∃ q os', w' = grow (w.drewN q) os' := by
  have hc := fun W => compare_any x.s y.s W
  obtain ⟨r, hr⟩ : ∃ r, cmpI x.s y.s = r := ⟨_, rfl⟩
  rw [hr] at hc ⊢
  unfold Hd.enc
  go_enter Tryd.func53, Tryd.ntmps53
  go_wp2_with (go_at_call 54; refine (hc _).mono ?_; rintro e w' ⟨rfl, rfl⟩)
  go_ret
  exact ⟨rfl, 0, _, by rw [alloc_eq_grow, alloc_eq_grow, grow_grow]; rfl⟩
theorem cmpI_lt (x y : Hd) : cmpI x.s y.s < 0 ↔ x.s < y.s := by
  unfold cmpI
  split
  · simp_all
  · split <;> simp_all
theorem enter53 (args : Array Value) (w : World) : (callFunc 53 args).run Tryd.prog w = .ok (.enter 53 args) w := by kernel_rfl

/-- stableCmpFunc on a row of one's own. -/
theorem stable_own (N : Nat) (v : Value) (l : List Hd) (w : World) (hown : w.ownsRow N 40 5 v l.length (rcells Hd.enc l)) (hl : l.length < 100000) :
    Calls Tryd.prog 67 #[v, .int .i64 l.length, .func (.func 53) #[] #[]] w fun e w' => e = .returned (.tuple #[]) ∧ ∃ l', Mrg Hd.s l l' ∧ l'.length = l.length ∧ w'.ownsRow N 40 5 v l'.length (rcells Hd.enc l') ∧ Below N w w' := by
  rcases hown.2 with ⟨rfl, h0⟩ | ⟨g, cap, cur, rfl, hb, hg, hn, hm, hs, ht⟩
  · obtain rfl : l = [] := List.eq_nil_of_length_eq_zero h0
    have hI : ∀ w, Calls Tryd.prog 70 #[.slice none 0 0, .int .i64 0, .int .i64 0, .func (.func 53) #[] #[]] w fun e w' => e = .returned (.tuple #[]) ∧ w' = w := fun w => by
      go_enter Tryd.func70, Tryd.ntmps70
      go_wp2
      refine wp_loop_rounds 1 ?_
      rw [rounds_succ]
      go_wp2
      go_end0
      exact ⟨rfl, rfl⟩
    have hK : Calls Tryd.prog 67 #[.slice none 0 0, .int .i64 0, .func (.func 53) #[] #[]] w fun e w' => e = .returned (.tuple #[]) ∧ w' = w := by
      clear hown h0 hl
      go_enter Tryd.func67, Tryd.ntmps67
      go_wp2
      refine wp_loop_rounds 1 ?_
      rw [rounds_succ]
      go_wp2_with (go_at_call 70; refine (hI _).mono ?_; rintro e w' ⟨rfl, rfl⟩)
      refine wp_loop_rounds 1 ?_
      rw [rounds_succ]
      go_wp2
      go_end0
      exact ⟨rfl, rfl⟩
    refine hK.mono ?_
    rintro e w' ⟨rfl, rfl⟩
    exact ⟨rfl, [], ⟨List.Pairwise.nil, Sam.refl _⟩, rfl, hown, Below.refl _ _⟩
  · have hH := holdsK_of_own (N := N) (cap := cap) Hd.enc 5 Hd.enc_len hg ht
    have hlt : g < w.heap.size := (Array.getElem?_eq_some_iff.1 hg).1
    have R : RowK Hd.enc 5 w g 0 l.toArray := ⟨Hd.enc_len, Hd.enc_one, hH, hlt⟩
    have hk := stable_k 5 zE40 Hd.enc Hd.s (fun x y => cmpI x.s y.s) cmpI_lt 53 #[] enter53 g 0 cap l.length l.toArray w (fun _ _ _ _ x y => closure_any x y _) R (by simp) hl
    refine hk.mono ?_
    rintro e w' ⟨rfl, d', h1, h2, h3⟩
    have h4 := SWK.own (cap := cap) Hd.enc_len h3 hb hg ht h2 hn hm hs
    have h5 : d'.toList.length = l.length := by rw [Array.length_toList, h2]
    exact ⟨rfl, d'.toList, h1, h5, by rw [h5]; exact h4, SWK.below h3 hb hlt⟩
/-- slices.SortStableFunc on a row of one's own. -/
theorem sortStable_own (N : Nat) (v : Value) (l : List Hd) (w : World) (hown : w.ownsRow N 40 5 v l.length (rcells Hd.enc l)) (hl : l.length < 100000) :
    Calls Tryd.prog 52 #[v, .func (.func 53) #[] #[]] w fun e w' => e = .returned (.tuple #[]) ∧ ∃ l', Mrg Hd.s l l' ∧ l'.length = l.length ∧ w'.ownsRow N 40 5 v l'.length (rcells Hd.enc l') ∧ Below N w w' := by
  have hk := stable_own N v l w hown hl
  obtain ⟨a, c, rfl⟩ : ∃ a c, v = .slice a l.length c := by
    rcases hown.2 with ⟨rfl, h0⟩ | ⟨g, cap, cur, rfl, _⟩
    · exact ⟨none, 0, by rw [h0]⟩
    · exact ⟨_, _, rfl⟩
  have HK := Lib.hid hk
  clear hk hown
  go_enter Tryd.func52, Tryd.ntmps52
  go_wp2_with (go_at_call 67; refine HK.out.mono ?_; rintro e w' ⟨rfl, hh⟩)
  go_end0
  exact ⟨rfl, hh⟩
end Go.Proofs.YtjjnhmbgffdenaaDoor
namespace Go.Proofs.YtjjnhmbgffdenaaDoor
open Go.RowKit Go.Sort

def okR (r : Int) : Bool := decide (-4 ≤ r ∧ r ≤ 4)
/-- The spot of a needle. -/
def spotM (b a r : Int) : Int := if isN b a = true ∧ okR r = true then (if b = 1 then 4 * (a + r) else 4 * a + 2) else 0
theorem canRackN_any (r : Int) (w : World) : Calls Tryd.prog 56 #[.int .i64 r] w fun e w' => e = .returned (.bool (okR r)) ∧ w' = w := by
  go_enter Tryd.func56, Tryd.ntmps56
  go_wp2
  all_goals (
    go_ret
    refine ⟨ret_bool ?_, rfl⟩
    unfold okR
    rw [Bool.eq_iff_iff]
    (try simp only [decide_eq_true_eq, Bool.false_eq_true, false_iff, true_iff])
    omega)
theorem canRack_any (r : Int) (w : World) : Calls Tryd.prog 51 #[.int .i64 r] w fun e w' => e = .returned (.bool (okR r)) ∧ w' = w := by
  go_enter Tryd.func51, Tryd.ntmps51
  go_wp2
  all_goals (
    go_ret
    refine ⟨ret_bool ?_, rfl⟩
    unfold okR
    rw [Bool.eq_iff_iff]
    (try simp only [decide_eq_true_eq, Bool.false_eq_true, false_iff, true_iff])
    omega)
theorem spot_any (b a r : Int) (w : World) (hb : 0 ≤ b) : Calls Tryd.prog 29 #[.agg #[.int .u8 b, .int .i64 a], .int .i64 r] w fun e w' => e = .returned (.int .i64 (spotM b a r)) ∧ Below w.heap.size w w' := by
  cases hn : isN b a with
  | false =>
    have hs : spotM b a r = 0 := by unfold spotM; rw [if_neg (by simp [hn])]
    rw [hs]
    have HN := Lib.hid hn
    clear hn hs
    go_enter Tryd.func29, Tryd.ntmps29
    go_wp2_with (go_at_call 55; refine (ncheck_bad _ _ _ HN.out).mono ?_; rintro e w1 ⟨rfl, hb1⟩)
    go_ret
    exact ⟨rfl, (below1 _ _).trans (hb1.mono (by simp))⟩
  | true =>
    cases hr : okR r with
    | false =>
      have hs : spotM b a r = 0 := by unfold spotM; rw [if_neg (by simp [hr])]
      rw [hs]
      have HN := Lib.hid hn
      have hc := fun w => canRackN_any r w
      rw [hr] at hc
      clear hn hs hr
      go_enter Tryd.func29, Tryd.ntmps29
      go_wp2_with (first
        | (go_at_call 55; refine (ncheck_ok _ _ _ HN.out).mono ?_; rintro e w1 ⟨rfl, hb1⟩)
        | (go_at_call 56; refine (hc _).mono ?_; rintro e w2 ⟨rfl, rfl⟩))
      go_ret
      exact ⟨rfl, (below1 _ _).trans (hb1.mono (by simp))⟩
    | true =>
      obtain ⟨h1, h2, h3⟩ := isN_true hn
      have h4 : -4 ≤ r ∧ r ≤ 4 := of_decide_eq_true hr
      have HN := Lib.hid hn
      have hc := fun w => canRackN_any r w
      rw [hr] at hc
      by_cases hb1' : b = 1
      · subst hb1'
        have hs : spotM 1 a r = 4 * (a + r) := by unfold spotM; rw [if_pos ⟨hn, hr⟩, if_pos rfl]
        rw [hs]
        clear hn hs hr
        have r1 : IntKind.i64.wrap (a + r) = a + r := by rw [IntKind.wrap_i64]; omega
        have r2 : IntKind.i64.wrap (4 * (a + r)) = 4 * (a + r) := by rw [IntKind.wrap_i64]; omega
        go_enter Tryd.func29, Tryd.ntmps29
        go_wp2_with (first
          | (go_at_call 55; refine (ncheck_ok _ _ _ HN.out).mono ?_; rintro e w1 ⟨rfl, hb1⟩; obtain ⟨hcl, hfz⟩ := bcell hb1; have k0 := hcl w.heap.size 0 (by simp); have k1 := hcl w.heap.size 1 (by simp); simp at k0 k1)
          | (go_at_call 56; refine (hc _).mono ?_; rintro e w2 ⟨rfl, rfl⟩))
        go_ret
        exact ⟨rfl, (below1 _ _).trans (hb1.mono (by simp))⟩
      · obtain rfl : b = 0 := by omega
        have hs : spotM 0 a r = 4 * a + 2 := by unfold spotM; rw [if_pos ⟨hn, hr⟩, if_neg (by decide)]
        rw [hs]
        clear hn hs hr
        have r1 : IntKind.i64.wrap (4 * a) = 4 * a := by rw [IntKind.wrap_i64]; omega
        have r2 : IntKind.i64.wrap (4 * a + 2) = 4 * a + 2 := by rw [IntKind.wrap_i64]; omega
        go_enter Tryd.func29, Tryd.ntmps29
        go_wp2_with (first
          | (go_at_call 55; refine (ncheck_ok _ _ _ HN.out).mono ?_; rintro e w1 ⟨rfl, hb1⟩; obtain ⟨hcl, hfz⟩ := bcell hb1; have k0 := hcl w.heap.size 0 (by simp); have k1 := hcl w.heap.size 1 (by simp); simp at k0 k1)
          | (go_at_call 56; refine (hc _).mono ?_; rintro e w2 ⟨rfl, rfl⟩))
        go_ret
        exact ⟨rfl, (below1 _ _).trans (hb1.mono (by simp))⟩
def oppM (d : Int) : Int := if d = 1 then 0 else 1
theorem opp_any (d : Int) (w : World) : Calls Tryd.prog 39 #[.int .u8 d] w fun e w' => e = .returned (.int .u8 (oppM d)) ∧ w' = w := by
  go_enter Tryd.func39, Tryd.ntmps39
  by_cases h : d = 1
  · subst h
    go_wp2
    go_ret
    exact ⟨rfl, rfl⟩
  · have h1 : (d == 1) = false := by simp [h]
    go_wp2
    go_ret
    exact ⟨ret_int (by unfold oppM; rw [if_neg h]), rfl⟩
def betw (n x y : Int) : Bool := decide (n > min x y ∧ n < max x y)
theorem betw_any (n x y : Int) (w : World) : Calls Tryd.prog 34 #[.int .i64 n, .int .i64 x, .int .i64 y] w fun e w' => e = .returned (.bool (betw n x y)) ∧ w' = w := by
  go_enter Tryd.func34, Tryd.ntmps34
  go_wp2
  all_goals (
    go_ret
    refine ⟨ret_bool ?_, rfl⟩
    unfold betw
    rw [Bool.eq_iff_iff]
    (try simp only [decide_eq_true_eq, Bool.false_eq_true, false_iff, true_iff])
    omega)
theorem check_any (d : Bds) (r : Int) (B : Nat) (w : World) (hB : B ≤ w.heap.size) (hd : d.ok B w) (hg : d.good) :
    Calls Tryd.prog 22 #[d.v, .int .i64 r] w fun e w' => e = .returned (.int .i64 (if okR r = true then 0 else 11)) ∧ Below w.heap.size w w' := by
  obtain ⟨V, hV⟩ : ∃ V, d.v = V := ⟨_, rfl⟩
  have hc := fun W (hW : Below w.heap.size w W) => check_ok d B W (Nat.le_trans hB hW.size) (hd.below (hW.mono hB)) hg
  obtain ⟨⟨fa, fs, fc⟩, ⟨ba, bs, bc⟩⟩ := d
  simp only [Bds.v, Bed.v] at hc ⊢
  have HC := Lib.hid hc
  clear hc hd hg
  cases hr : okR r with
  | true =>
    have hcr := fun w => canRack_any r w
    rw [hr] at hcr
    clear hr
    go_enter Tryd.func22, Tryd.ntmps22
    go_wp2_with (first
      | (go_at_call 19; refine (HC.out _ (below1 _ _)).mono ?_; rintro e w1 ⟨rfl, hb1⟩)
      | (go_at_call 51; refine (hcr _).mono ?_; rintro e w2 ⟨rfl, rfl⟩))
    go_ret
    exact ⟨rfl, (below1 _ _).trans (hb1.mono (by simp))⟩
  | false =>
    have hcr := fun w => canRack_any r w
    rw [hr] at hcr
    clear hr
    go_enter Tryd.func22, Tryd.ntmps22
    go_wp2_with (first
      | (go_at_call 19; refine (HC.out _ (below1 _ _)).mono ?_; rintro e w1 ⟨rfl, hb1⟩)
      | (go_at_call 51; refine (hcr _).mono ?_; rintro e w2 ⟨rfl, rfl⟩))
    go_ret
    exact ⟨rfl, (below1 _ _).trans (hb1.mono (by simp))⟩
end Go.Proofs.YtjjnhmbgffdenaaDoor
namespace Go.Proofs.YtjjnhmbgffdenaaDoor
open Go.RowKit Go.Sort
variable {α : Type}
/-- What 'append' wants of a kind of records. -/
structure Kd (enc : α → List Value) (T e k bytes : Nat) (zero : Value) : Prop where
  hk : ∀ x, (enc x).length = k
  h1 : ∀ x, ∀ v ∈ enc x, v.oneCell' = true
  hT : Tryd.prog.underlying T = some (.slice e)
  hi : (Tryd.prog.info? e).map (fun i => (i.zero, i.size, i.bytes)) = some (some zero, k, bytes)
  hz : zero.cells.size = k
  k0 : 0 < k
  hb : bytes ≤ 100
/-- A record lies in the first cells of a block. -/
def Rec (enc : α → List Value) (w : World) (b : Nat) (x : α) : Prop := ∀ j u, (enc x)[j]? = some u → w.cell? ⟨b, j, none⟩ = some u
theorem rec_new (enc : α → List Value) (w : World) (t : Nat) (x : α) : Rec enc (w.alloc (.cells (enc x).toArray t)) w.heap.size x := fun j u h => by
  rw [cell_of_row _ _ j _ t (0, 0) (heap_alloc_new w _)]
  simpa using h
theorem run_app_rec {enc : α → List Value} {T e k bytes : Nat} {zero : Value} (K : Kd enc T e k bytes zero) (w : World) (N ty : Nat) (v : Value) (l : List α) (hown : w.ownsRow N e k v l.length (rcells enc l)) (x : α) (b : Nat) (hx : Rec enc w b x) (hl : l.length ≤ 100000) (hN : N ≤ w.heap.size) :
    ∃ v' w', (Builtin.append_ #[T, T] ty #[v, .slice (some ⟨b, 0, none⟩) 1 1]).run Tryd.prog w = .ok v' w' ∧ w'.ownsRow N e k v' (l ++ [x]).length (rcells enc (l ++ [x])) ∧ w.grownBy w' v.ownBlock ∧ (v'.ownBlock = v.ownBlock ∨ v'.ownBlock = some w.heap.size) := by
  obtain ⟨i0, hi, hz0, hz1, hz2⟩ := info_parts K.hi
  have hr : rcells enc [x] = enc x := by simp [rcells]
  obtain ⟨v', w', g1, g2, g3, _, g5⟩ := run_append_own_at (P := Tryd.prog) w N T ty e i0 zero k bytes K.hT hi hz0 hz1 hz2 K.hz K.k0 v l.length (rcells enc l) hown ⟨b, 0, none⟩ 1 1 (rcells enc [x]) (by rw [hr, K.hk]; omega)
    (fun j u h => by rw [hr] at h; rw [show (⟨b, 0, none⟩ : Addr).add j = ⟨b, j, none⟩ by rw [Addr.add_lit]; simp]; exact hx j u h) (rcells_one enc K.h1 _) (by unfold maxLen; omega) (by have := K.hb; have := Nat.mul_le_mul (show l.length + 1 ≤ 100001 by omega) K.hb; omega) hN
  exact ⟨v', w', g1, by rw [rcells_append, List.length_append]; exact g2, g3, g5⟩
theorem wpList_app_rec {enc : α → List Value} {T e k bytes : Nat} {zero : Value} (K : Kd enc T e k bytes zero) {w : World} {ops : Array Oper} {rest : List Oper} {o : Oper} {a : Act} {Q : Exit → Act → World → Prop} {s t : Tmp} {N b : Nat} {v : Value} {l : List α} {x : α} (hg0 : o.guard = none)
    (hop : o.op = Op.call { callee := Callee.builtin Builtin.append, args := #[.tmp s, .tmp t], argTypes := #[T, T] }) (hs : a.eval (.tmp s) = v) (ht : a.eval (.tmp t) = .slice (some ⟨b, 0, none⟩) 1 1) (hown : w.ownsRow N e k v l.length (rcells enc l)) (hx : Rec enc w b x) (hl : l.length ≤ 100000) (hN : N ≤ w.heap.size)
    (hK : ∀ v' w', w'.ownsRow N e k v' (l ++ [x]).length (rcells enc (l ++ [x])) → w.grownBy w' v.ownBlock → (v'.ownBlock = v.ownBlock ∨ v'.ownBlock = some w.heap.size) → wpList Tryd.prog ops Q rest (a.put o.dst v') w') : wpList Tryd.prog ops Q (o :: rest) a w := by
  refine wpList_plain hg0 fun K' hK' => ?_
  obtain ⟨v', w', hr, h1, h2, h3⟩ := run_app_rec K w N o.type v l hown x b hx hl hN
  unfold Oper.wp execOp
  simp only [hop, resolve, invoke, builtin, Sem.run_bind, Sem.run_pure, Result.andThen_ok, List.map_toArray, List.map_cons, List.map_nil, hs, ht, hr]
  exact hK' _ _ (hK v' w' h1 h2 h3)
theorem kdHd : Kd Hd.enc 28 40 5 40 (.agg #[.int .u8 0, .int .i64 0, .int .u8 0, .int .i64 0, .int .i64 0]) :=
  ⟨Hd.enc_len, Hd.enc_one, Tryd.underlying28, by kernel_rfl, rfl, by decide, by decide⟩
/-- A pass. -/
structure Pa where
  id : Nm
  f : Bool
  d : Int
deriving DecidableEq
def Pa.enc (p : Pa) : List Value := [.int .u8 p.id.y, .int .i64 p.id.n, .bool p.f, .int .u8 p.d]
def Pa.v (p : Pa) : Value := .agg #[.int .u8 p.id.y, .int .i64 p.id.n, .bool p.f, .int .u8 p.d]
instance : Inhabited Pa := ⟨⟨⟨0, 0⟩, false, 0⟩⟩
theorem Pa.enc_len (h : Pa) : h.enc.length = 4 := rfl
theorem Pa.enc_one (h : Pa) : ∀ v ∈ h.enc, v.oneCell' = true := by
  intro v hv
  simp only [Pa.enc, List.mem_cons, List.not_mem_nil, or_false] at hv
  rcases hv with rfl | rfl | rfl | rfl <;> rfl
theorem kdPa : Kd Pa.enc 43 47 4 24 (.agg #[.int .u8 0, .int .i64 0, .bool false, .int .u8 0]) :=
  ⟨Pa.enc_len, Pa.enc_one, Tryd.underlying43, by kernel_rfl, rfl, by decide, by decide⟩
/-- A crossing. -/
structure Cx where
  p : Nm
  q : Nm
  s : Int
deriving DecidableEq
def Cx.enc (c : Cx) : List Value := [.int .u8 c.p.y, .int .i64 c.p.n, .int .u8 c.q.y, .int .i64 c.q.n, .int .i64 c.s]
def Cx.v (c : Cx) : Value := .agg #[.int .u8 c.p.y, .int .i64 c.p.n, .int .u8 c.q.y, .int .i64 c.q.n, .int .i64 c.s]
instance : Inhabited Cx := ⟨⟨⟨0, 0⟩, ⟨0, 0⟩, 0⟩⟩
theorem Cx.enc_len (h : Cx) : h.enc.length = 5 := rfl
theorem Cx.enc_one (h : Cx) : ∀ v ∈ h.enc, v.oneCell' = true := by
  intro v hv
  simp only [Cx.enc, List.mem_cons, List.not_mem_nil, or_false] at hv
  rcases hv with rfl | rfl | rfl | rfl | rfl <;> rfl
theorem kdCx : Kd Cx.enc 51 55 5 40 (.agg #[.int .u8 0, .int .i64 0, .int .u8 0, .int .i64 0, .int .i64 0]) :=
  ⟨Cx.enc_len, Cx.enc_one, Tryd.underlying51, by kernel_rfl, rfl, by decide, by decide⟩
end Go.Proofs.YtjjnhmbgffdenaaDoor
namespace Go.Proofs.YtjjnhmbgffdenaaDoor
open Go.RowKit Go.Sort

/-- A stack in new memory that has no room for more. -/
def NewAt (l : List Nm) (w : World) (e : Ending) (w' : World) : Prop := ∃ c : Cel, e = .returned c.v ∧ Hid (c.l = l ∧ c.cap = l.length ∧ c.ok w'.heap.size w' ∧ w'.ownsRow w.heap.size 35 2 c.v c.l.length (cellsOf c.l)) ∧ Below w.heap.size w w'

theorem ownsRow_mono {w : World} {N M e k n : Nat} {v : Value} {xs : List Value} (h : w.ownsRow N e k v n xs) (hM : M ≤ N) : w.ownsRow M e k v n xs :=
  ⟨h.1, h.2.imp id fun ⟨g, cap, cur, h1, h2, h3⟩ => ⟨g, cap, cur, h1, Nat.le_trans hM h2, h3⟩⟩
theorem copied_own (c : Cel) (B : Nat) (w : World) (hB : B ≤ w.heap.size) (h : c.ok B w) :
    Calls Tryd.prog 57 #[c.v] w (NewAt c.l w) := by
  obtain ⟨ao, ps, cap⟩ := c
  have hm : ps.length ≤ 100 := h.1
  have HL := Lib.hid (h.mono hB)
  clear h
  simp only [Cel.v]
  obtain ⟨n, hn⟩ : ∃ n, n = ps.length := ⟨_, rfl⟩
  rw [← hn] at hm ⊢
  have HN := Lib.hid hn
  clear hn
  by_cases h0 : n = 0
  · subst h0
    obtain rfl : ps = [] := List.eq_nil_of_length_eq_zero HN.out.symm
    go_enter Tryd.func57, Tryd.ntmps57
    go_wp2
    go_ret
    exact ⟨Cel.nil, rfl, Lib.hid ⟨rfl, rfl, Cel.nil_ok _ _, World.ownsRow_nil _ _ _ _⟩, Below.refl _ _⟩
  · obtain ⟨b, o, he, hb, -⟩ := HL.out.at (i := 0) (by simp only; rw [← HN.out]; omega)
    obtain rfl : ao = some ⟨b, o, none⟩ := he
    have hmk := fun w => run_mk (n : Int) n rfl (by omega) w
    obtain ⟨i0, hi, hz0, hz1, hz2⟩ := info_parts info28
    have hlen : (cellsOf ps).length = n * 2 := by rw [cellsOf_length, HN.out]
    have hcp : (Builtin.copy_ #[61, 61] 3 #[.slice (some ⟨w.heap.size, 0, none⟩) n n, .slice (some ⟨b, o, none⟩) n cap]).run Tryd.prog (w.alloc (.cells (rowNew n) 35)) = .ok (goInt n) (w.alloc (.cells (cellsOf ps).toArray 35)) := by
      have := run_copy_all (P := Tryd.prog) (w.alloc (.cells (rowNew n) 35)) 61 61 3 35 w.heap.size n n ⟨b, o, none⟩ cap 2 (rowNew n) 35 (cellsOf ps) Tryd.underlying61 i0 hi hz1 (heap_alloc_new w _) hlen
        ((HL.out.below (below1 w _)).cells _ rfl) (by rw [rowNew_size, hlen]; exact Nat.le_refl _) (cellsOf_one ps)
      rw [this, setRow_alloc, List.drop_of_length_le (by rw [Array.length_toList, rowNew_size, hlen]; exact Nat.le_refl _), List.append_nil]
    have HLEN := Lib.hid hlen
    have h00 : ((n : Int) == 0) = false := by simp; omega
    clear hi hz0 hz1 hz2 hlen
    go_enter Tryd.func57, Tryd.ntmps57
    go_wp2_with fail
    go_ret
    refine ⟨⟨some ⟨w.heap.size, 0, none⟩, ps, n⟩, by simp [Cel.v, HN.out], Lib.hid ⟨rfl, HN.out, ?_, ?_⟩, below1 _ _⟩
    · exact ok_of_row (heap_alloc_new w _) (by rw [List.take_of_length_le]; simp [cellsOf_length]) (by simp) (by rw [← HN.out]; exact hm)
    · exact ⟨cellsOf_length _, .inr ⟨w.heap.size, n, (cellsOf ps).toArray, by simp [Cel.v], Nat.le_refl _, heap_alloc_new w _, by simp only; rw [← HN.out]; exact Nat.le_refl _, by unfold maxLen; omega, by simp [cellsOf_length, HN.out], by rw [List.take_of_length_le]; simp [cellsOf_length]⟩⟩

theorem at_own (d : Bds) (b a : Int) (hb0 : 0 ≤ b) (B : Nat) (w : World) (hB : B ≤ w.heap.size) (h : d.ok B w) :
    Calls Tryd.prog 30 #[d.v, .agg #[.int .u8 b, .int .i64 a]] w (NewAt (d.atM b a) w) := by
  have HO := Lib.hid (h.mono hB)
  obtain ⟨V, hV⟩ : ∃ V, V = d.v := ⟨_, rfl⟩
  obtain ⟨v0, v1, hv⟩ : ∃ v0 v1, d.v = .agg #[v0, v1] := ⟨_, _, rfl⟩
  have hq : isN b a = true ∨ isN b a = false := by cases isN b a <;> simp
  rcases hq with hq | hq
  · have hr := isN_true hq
    obtain ⟨k, rfl⟩ : ∃ k : Nat, b = k := ⟨b.toNat, by omega⟩
    obtain ⟨i, rfl⟩ : ∃ i : Nat, a = (i : Int) + 1 := ⟨(a - 1).toNat, by omega⟩
    have e : d.atM k ((i : Int) + 1) = ((d.bed k).cel i).l := by
      unfold Bds.atM; rw [if_pos hq]; congr 2; simp
    rw [e]
    have hk : k ≤ 1 := by omega
    have hi : i ≤ 100 := by omega
    have HQ := Lib.hid hq
    have HE := Lib.hid hv
    clear e hq hr hV h hb0
    obtain ⟨⟨fa, fs, fc⟩, ⟨ba, bs, bc⟩⟩ := d
    simp only [Bds.v, Bed.v] at HE ⊢
    go_enter Tryd.func30, Tryd.ntmps30
    go_wp2_with (first
      | (go_at_call 48; refine (isNeedle_any _ _ _ _ HQ.out).mono ?_; rintro e w1 ⟨rfl, hb1⟩; obtain ⟨hc1, hf1⟩ := bcell hb1; have hz1 := hb1.size)
      | (go_at_call 58; refine (on_any ⟨⟨fa, fs, fc⟩, ⟨ba, bs, bc⟩⟩ k i w.heap.size _ (by simp at hz1; omega) hk (by omega) (HO.out.below ((below2 _ _ _).trans (hb1.mono (by simp; omega))))).mono ?_; rintro e w2 ⟨rfl, hb2⟩; obtain ⟨hc2, hf2⟩ := bcell hb2; have hz2 := hb2.size)
      | (go_at_call 57; refine (copied_own _ w.heap.size _ (by simp at hz1; omega) ((((HO.out.below ((below2 _ _ _).trans (hb1.mono (by simp; omega)))).bed k).cel i).below (hb2.mono (by simp at hz1; omega)))).mono ?_; rintro e w3 ⟨c3, rfl, hc3, hb3⟩))
    go_ret
    have h2 : Below w.heap.size w w1 := (below2 _ _ _).trans (hb1.mono (by simp; omega))
    exact ⟨c3, rfl, Lib.hid ⟨hc3.out.1, hc3.out.2.1, hc3.out.2.2.1, ownsRow_mono hc3.out.2.2.2 (Nat.le_trans h2.size hb2.size)⟩, (h2.trans (hb2.mono h2.size)).trans (hb3.mono (Nat.le_trans h2.size hb2.size))⟩
  · have e : d.atM b a = [] := by
      unfold Bds.atM; rw [hq]; rfl
    rw [e]
    have HQ := Lib.hid hq
    clear e hq hV h hb0
    obtain ⟨⟨fa, fs, fc⟩, ⟨ba, bs, bc⟩⟩ := d
    simp only [Bds.v, Bed.v] at hv ⊢
    go_enter Tryd.func30, Tryd.ntmps30
    go_wp2_with (first
      | (go_at_call 48; refine (isNeedle_any _ _ _ _ HQ.out).mono ?_; rintro e w1 ⟨rfl, hb1⟩))
    go_ret
    exact ⟨Cel.nil, rfl, Lib.hid ⟨rfl, rfl, Cel.nil_ok _ _, World.ownsRow_nil _ _ _ _⟩, (below2 _ _ _).trans (hb1.mono (by simp; omega))⟩
end Go.Proofs.YtjjnhmbgffdenaaDoor
namespace Go.Proofs.YtjjnhmbgffdenaaDoor
open Go.RowKit Go.Sort
section
variable {P : Program} {ops : Array Oper} {Q : Exit → Act → World → Prop}
/-- As rgT2, with a slot (s) that only the tail writes: through the head it holds what it held. -/
theorem rgT2s {id : Nat} {a0 : Act} {w0 : World} (s : Tmp) (m : Nat) (dsts : List (Option Tmp)) (Psi : Nat → Value → World → Prop) (I : World → Prop) (hm : P.follows .mixedOrders = true)
    (htidy : tidy ops dsts = true)
    (hbound : (dsts.all fun x => match x with | some d => decide (d < a0.tmps.size) | none => true) = true)
    (ht : tailed ops m = true) (hsb : ((ops.toList.take m).all fun o => decide (o.dst ≠ some s)) = true)
    (stab : ∀ i v w w', Psi i v w → Below w.heap.size w w' → Psi i v w')
    (istab : ∀ w w', I w → Below w.heap.size w w' → I w')
    (step : ∀ (i : Nat) (o : Oper), i < m → ops[i]? = some o → ∀ (a : Act) (w : World), a.tmps.size = a0.tmps.size → (∀ s, dsts.contains (some s) = false → a.tmps.getD s undef = a0.tmps.getD s undef) → a.tmps.getD s undef = a0.tmps.getD s undef → I w →
      (∀ e ∈ o.after, Region.binds .any e = true → ∀ (o' : Oper), ops[e.on]? = some o' → Psi e.on (slotOf o' a) w) →
      (Region.wanted o (yielded ops a.tmps) = true ∧ ∀ K : Act → World → Prop, (∀ v w', Below w.heap.size w w' → Psi i (valOf o v) w' → K (a.put o.dst v) w') → o.wp P a w K Q) ∨
      (Region.wanted o (yielded ops a.tmps) = false ∧ Psi i undef w))
    (fin : ∀ (a : Act) (w : World), a.tmps.size = a0.tmps.size → a.defers = a0.defers → (∀ s, dsts.contains (some s) = false → a.tmps.getD s undef = a0.tmps.getD s undef) → a.tmps.getD s undef = a0.tmps.getD s undef →
      I w → (∀ (i : Nat) (o : Oper), i < m → ops[i]? = some o → Psi i (slotOf o a) w) → wpList P ops Q (ops.toList.drop m) a w)
    (h0 : I { w0 with drawn := w0.drawn + 1 }) : (Code.region id ops true).wp P Q a0 w0 := by
  have hs : ∀ (i : Nat) (o : Oper), i < m → ops[i]? = some o → o.dst ≠ some s := fun i o hi ho => by
    rw [List.all_eq_true] at hsb
    refine of_decide_eq_true (hsb o (List.mem_iff_getElem?.2 ⟨i, ?_⟩))
    rw [List.getElem?_take, if_pos hi]
    simpa using ho
  refine rgT4 m dsts (fun i _ v w => Psi i v w) I (fun _ w w' => Below w.heap.size w w') (fun _ a _ => a.tmps.getD s undef = a0.tmps.getD s undef) hm htidy hbound ht ?_ (fun _ _ _ h hb => istab _ _ h hb) ?_ ?_ h0 (fun _ _ => rfl)
  · intro i o hi ho L hL hd j v w w' hne hI h hb
    rcases hb with rfl | hb
    · exact h
    · exact stab _ _ _ _ h hb
  · intro i o hi ho L hL hLi hcl a w h1 h2 h3 hX hdep
    rcases step i o hi ho a w h1 h2 hX h3 hdep with ⟨hw, h⟩ | ⟨hw, h⟩
    · exact .inl ⟨hw, fun K hK => h K fun v w' hb hp => hK v w' hb hp (by rw [putD_other (hs i o hi ho)]; exact hX)⟩
    · exact .inr ⟨hw, h, fun v => by rw [putD_other (hs i o hi ho)]; exact hX⟩
  · intro a w h1 h2 h3 hI hX hall
    obtain ⟨L, _, hX⟩ := hX
    exact fin a w h1 h2 h3 hX hI fun i o hi ho => (hall i o hi ho).elim fun _ h => h.2
end
end Go.Proofs.YtjjnhmbgffdenaaDoor
