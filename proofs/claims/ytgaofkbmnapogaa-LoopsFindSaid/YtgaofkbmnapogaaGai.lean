import Derived.Test.YtgaofkbmnapogaaGah
import Derived.Test.YtgaofkbmnapogaaGag
import Derived.Lib.SliceRun
namespace Go.Proofs.Ytgaofkbmnapogaa
open Go.RowKit Go.Sort Go.Shelf
theorem flat_rcells {α : Type} [Inhabited α] (enc : α → List Value) (k : Nat) (hk : ∀ x, (enc x).length = k) (d : Array α) : (flatK enc k d).toList = rcells enc d.toList := by
  apply List.ext_getElem?
  intro t
  by_cases ht : t < d.size * k
  · have hk0 : 0 < k := by
      rcases Nat.eq_zero_or_pos k with h | h
      · rw [h] at ht; simp at ht
      · exact h
    have hi : t / k < d.size := (Nat.div_lt_iff_lt_mul hk0).2 ht
    have hc : t % k < k := Nat.mod_lt _ hk0
    have e : t / k * k + t % k = t := Nat.div_add_mod' t k
    have hx : d.toList[t / k]? = some d[t / k]! := by
      rw [getElem!_pos d (t / k) hi, List.getElem?_eq_getElem (by simpa using hi)]; simp
    have h2 := rcells_at enc k hk d.toList (t / k) _ (t % k) hx hc
    rw [e] at h2
    rw [h2, List.getElem?_eq_getElem (by simpa using ht), List.getElem?_eq_getElem (by rw [hk]; exact hc)]
    have h3 := get_flatK enc k d t ht
    rw [getElem!_pos _ t (by simpa using ht), getElem!_pos (enc d[t / k]!) (t % k) (by rw [hk]; exact hc)] at h3
    simpa using h3
  · rw [List.getElem?_eq_none (by simp; omega), List.getElem?_eq_none (by rw [rcells_length enc k hk]; simp; omega)]
/-- A row of one's own holds what it holds. -/
theorem holdsK_of_own {α : Type} [Inhabited α] (enc : α → List Value) (k : Nat) (hk : ∀ x, (enc x).length = k) {w : World} {N e g cap : Nat} {cur : Array Value} {l : List α} (hg : w.heap[g]? = some (.cells cur e (0, 0))) (ht : cur.toList.take (l.length * k) = rcells enc l) : HoldsK enc k w g 0 l.toArray := by
  intro j hj
  have hj' : j < l.length * k := by simpa using hj
  have h1 : (rcells enc l)[j]? = some (flatK enc k l.toArray)[j]! := by
    have e0 : rcells enc l = (flatK enc k l.toArray).toList := (flat_rcells enc k hk l.toArray).symm
    rw [e0, getElem!_pos _ j hj, Array.getElem?_toList]
    exact Array.getElem?_eq_getElem hj
  rw [← ht, List.getElem?_take, if_pos hj'] at h1
  rw [Nat.zero_add]
  exact ⟨by rw [cell_of_row w g j cur e (0, 0) hg]; simpa using h1, by simp [World.frozen?, hg]⟩
/-- What a world of the sort's is. -/
theorem SWK.below {α : Type} [Inhabited α] {enc : α → List Value} {k : Nat} {w0 W : World} {g : Nat} {d : Array α} {N : Nat} (h : SWK enc k w0 g 0 d W) (hN : N ≤ g) (hg : g < w0.heap.size) : RowKit.Below N w0 W := by
  obtain ⟨n, os, rfl⟩ := h
  unfold sortWorldK putRowK putRow mapBlock Sort.ahead grow
  refine ⟨rfl, rfl, rfl, ?_, fun b hb => ?_⟩
  · simp
  · simp only
    rw [Array.getElem?_append_left (by simp; omega), Array.getElem?_modify, if_neg (by omega)]
theorem SWK.own {α : Type} [Inhabited α] {enc : α → List Value} {k : Nat} (hk : ∀ x, (enc x).length = k) {w0 W : World} {g e cap N : Nat} {d : Array α} {cur : Array Value} {l : List α} (h : SWK enc k w0 g 0 d W) (hb : N ≤ g) (hg : w0.heap[g]? = some (.cells cur e (0, 0))) (ht : cur.toList.take (l.length * k) = rcells enc l) (hs : d.size = l.length)
    (hn : l.length ≤ cap) (hm : cap ≤ maxLen) (hc : cur.size = cap * k) : W.ownsRow N e k (.slice (some ⟨g, 0, none⟩) l.length cap) l.length (rcells enc d.toList) := by
  have hH : HoldsK enc k w0 g 0 l.toArray := holdsK_of_own (N := 0) (cap := 0) enc k hk hg ht
  have hlt : g < w0.heap.size := (Array.getElem?_eq_some_iff.1 hg).1
  have hW := h.holds hlt hH (by simpa using hs)
  refine ⟨by rw [rcells_length enc k hk, Array.length_toList, hs], .inr ?_⟩
  obtain ⟨n, os, hw⟩ := h
  obtain ⟨cur', h1, h2⟩ : ∃ cur', W.heap[g]? = some (.cells cur' e (0, 0)) ∧ cur'.size = cur.size := by
    rw [hw]
    unfold sortWorldK putRowK putRow mapBlock Sort.ahead grow
    rw [Array.getElem?_append_left (by simp; exact hlt), Array.getElem?_modify, if_pos rfl, hg]
    exact ⟨putCells id 0 (flatK enc k d) cur, rfl, by simp [putCells]⟩
  refine ⟨g, cap, cur', rfl, hb, h1, hn, hm, by rw [h2, hc], ?_⟩
  rw [← flat_rcells enc k hk]
  have hle : l.length * k ≤ cur'.size := by rw [h2, hc]; exact Nat.mul_le_mul_right k hn
  apply List.ext_getElem?
  intro t
  rw [List.getElem?_take]
  by_cases htk : t < l.length * k
  · rw [if_pos htk]
    have h3 := (hW t (by rw [size_flatK, hs]; exact htk)).1
    rw [Nat.zero_add, cell_of_row W g t cur' e (0, 0) h1] at h3
    have h4 : t < (flatK enc k d).size := by rw [size_flatK, hs]; exact htk
    rw [getElem!_pos _ t h4] at h3
    rw [Array.getElem?_toList, Array.getElem?_toList, h3, Array.getElem?_eq_getElem h4]; rfl
  · rw [if_neg htk, List.getElem?_eq_none (by simp [hs]; omega)]
/-- A name with its bounds. -/
abbrev Nw := { p : Nm // p.wf }
instance : Inhabited Nm := ⟨⟨0, 0⟩⟩
instance : Inhabited Nw := ⟨⟨⟨0, 0⟩, ⟨⟨by decide, by decide⟩, by decide, by decide⟩⟩⟩
def Nw.enc (p : Nw) : List Value := p.1.enc
def nkey (p : Nm) : Int := p.y * 18446744073709551616 + p.n
theorem cmp2_lt {p q : Nm} (hp : p.wf) (hq : q.wf) : cmp2 p q < 0 ↔ nkey p < nkey q := by
  obtain ⟨⟨a1, a2⟩, a3, a4⟩ := hp
  obtain ⟨⟨b1, b2⟩, b3, b4⟩ := hq
  unfold cmp2 orI cmpI nkey
  by_cases h1 : p.y < q.y
  · rw [if_pos h1]; simp; omega
  · rw [if_neg h1]
    by_cases h2 : q.y < p.y
    · rw [if_pos h2]; simp; omega
    · rw [if_neg h2]
      obtain h3 : p.y = q.y := by omega
      by_cases h4 : p.n < q.n
      · rw [if_pos h4]; simp; omega
      · rw [if_neg h4]
        by_cases h5 : q.n < p.n
        · rw [if_pos h5]; simp; omega
        · rw [if_neg h5]; simp; omega
theorem nkey_inj {p q : Nm} (hp : p.wf) (hq : q.wf) (h : nkey p = nkey q) : p = q := by
  obtain ⟨⟨a1, a2⟩, a3, a4⟩ := hp
  obtain ⟨⟨b1, b2⟩, b3, b4⟩ := hq
  obtain ⟨y, n⟩ := p
  obtain ⟨y', n'⟩ := q
  unfold nkey at h
  simp only at a1 a2 a3 a4 b1 b2 b3 b4 h
  obtain rfl : y = y' := by omega
  obtain rfl : n = n' := by omega
  rfl
theorem rcells_nw (l : List Nw) : rcells Nw.enc l = rcells Nm.enc (l.map (·.1)) := by
  unfold rcells
  rw [List.flatMap_map]
  rfl
theorem eg32 : ∀ args w, (callFunc 32 args).run Try.prog w = .ok (.enter 32 args) w := fun _ _ => by kernel_rfl
theorem lays32 (blk off n : Nat) (w : World) : CmpLays Try.prog 32 #[] Nw.enc 2 (fun x y => cmp2 x.1 y.1) blk off n w := fun m os dk _ x y => by
  have h := compare32 x.1 y.1 (sortWorldK Nw.enc 2 w blk off m dk os)
  exact h
theorem ins_nil (g : Nat) (cb : Array Value) (w : World) : Calls Try.prog 47 #[.slice none 0 0, .int .i64 0, .int .i64 0, .func (.func g) #[] cb] w fun e w' => e = .returned (.tuple #[]) ∧ w' = w := by
  go_enter Try.func47, Try.ntmps47
  go_wp2_with fail
  refine wp_loop_rounds 1 ?_
  rw [rounds_succ]
  go_wp2_with fail
  go_end0
  exact ⟨rfl, rfl⟩
theorem pdq_nil (g : Nat) (cb : Array Value) (lim : Int) (w : World) : Calls Try.prog 39 #[.slice none 0 0, .int .i64 0, .int .i64 0, .int .i64 lim, .func (.func g) #[] cb] w fun e w' => e = .returned (.tuple #[]) ∧ w' = w := by
  have K := Lib.hid (ins_nil g cb w)
  go_enter Try.func39, Try.ntmps39
  go_wp2_with fail
  refine wp_loop_rounds 1 ?_
  rw [rounds_succ]
  go_wp2_with (go_at_call 47; refine K.out.mono ?_; rintro e w' ⟨rfl, rfl⟩)
  refine bodyPost_ret (results_none rfl _ _ _) rfl ?_
  exact ⟨rfl, rfl⟩
theorem sort_nil (g : Nat) (cb : Array Value) (w : World) : Calls Try.prog 31 #[.slice none 0 0, .func (.func g) #[] cb] w fun e w' => e = .returned (.tuple #[]) ∧ w' = w := by
  have K := Lib.hid (fun lim => pdq_nil g cb lim w)
  have K40 := Lib.hid (len40 0 (by decide) w)
  simp only [Int.ofNat_zero, Int.natCast_zero, Int.cast_ofNat_Int] at K40
  go_enter Try.func31, Try.ntmps31
  go_wp2_with (first
    | (go_at_call 40; refine K40.out.mono ?_; rintro e w1 ⟨⟨r, rfl⟩, rfl⟩)
    | (go_at_call 39; refine (K.out _).mono ?_; rintro e w' ⟨rfl, rfl⟩))
  go_end0
  exact ⟨rfl, rfl⟩
theorem nw_list {l : List Nm} (h : ∀ p ∈ l, p.wf) : ∃ L : List Nw, L.map (·.1) = l := by
  induction l with
  | nil => exact ⟨[], rfl⟩
  | cons p l ih =>
    obtain ⟨L, hL⟩ := ih fun q hq => h q (List.mem_cons_of_mem _ hq)
    exact ⟨⟨p, h p (List.mem_cons_self ..)⟩ :: L, by simp [hL]⟩
theorem Mrg.nw {l l' : List Nw} (h : Mrg (fun x : Nw => nkey x.1) l l') : Mrg nkey (l.map (·.1)) (l'.map (·.1)) := by
  refine ⟨List.pairwise_map.2 h.srt, fun k => ?_⟩
  have e := h.sam k
  unfold Fl at e ⊢
  rw [List.filter_map, List.filter_map]
  exact congrArg (List.map (·.1)) e
/-- slices.SortFunc on a short row of names of one's own. -/
theorem sort_own (N : Nat) (v : Value) (l : List Nm) (w : World) (hown : w.ownsRow N 36 2 v l.length (rcells Nm.enc l)) (hl : l.length ≤ 12) (hw : ∀ p ∈ l, p.wf) :
    Calls Try.prog 31 #[v, .func (.func 32) #[] #[]] w fun e w' => e = .returned (.tuple #[]) ∧ ∃ l', Mrg nkey l l' ∧ l'.length = l.length ∧ w'.ownsRow N 36 2 v l'.length (rcells Nm.enc l') ∧ Below N w w' := by
  rcases hown.2 with ⟨rfl, h0⟩ | ⟨g, cap, cur, rfl, hb, hg, hn, hm, hs, ht⟩
  · obtain rfl : l = [] := List.eq_nil_of_length_eq_zero h0
    refine (sort_nil 32 #[] w).mono ?_
    rintro e w' ⟨rfl, rfl⟩
    exact ⟨rfl, [], ⟨List.Pairwise.nil, Sam.refl _⟩, rfl, hown, Below.refl _ _⟩
  · obtain ⟨L, rfl⟩ := nw_list hw
    rw [← rcells_nw] at ht
    have ht' : cur.toList.take (L.length * 2) = rcells Nw.enc L := by
      rw [List.length_map] at ht; exact ht
    have hk : ∀ x : Nw, (Nw.enc x).length = 2 := fun x => rfl
    have hH := holdsK_of_own (N := N) (cap := cap) Nw.enc 2 hk hg ht'
    have hlt : g < w.heap.size := (Array.getElem?_eq_some_iff.1 hg).1
    have R : RowK Nw.enc 2 w g 0 L.toArray := ⟨hk, fun x => Nm.enc_one x.1, hH, hlt⟩
    rw [List.length_map] at hl hn ⊢
    refine (sort_any 2 zE36 Nw.enc (fun x => nkey x.1) (fun x y => cmp2 x.1 y.1) (fun x y => cmp2_lt x.2 y.2) 32 #[] eg32 g 0 cap L.length L.toArray w (lays32 g 0 L.length w) R (by simp) (SWK.start hH) hl).mono ?_
    rintro e w' ⟨rfl, d', h1, h2, h3⟩
    have h4 := SWK.own (cap := cap) hk h3 hb hg ht' h2 hn hm hs
    rw [rcells_nw] at h4
    refine ⟨rfl, d'.toList.map (·.1), Mrg.nw h1, by rw [List.length_map, Array.length_toList, h2], ?_, SWK.below h3 hb hlt⟩
    rw [List.length_map]
    have : d'.toList.length = L.length := by rw [Array.length_toList, h2]
    first | exact h4 | (rw [this]; exact h4)
end Go.Proofs.Ytgaofkbmnapogaa
namespace Go.Proofs.Ytgaofkbmnapogaa
open Go.RowKit Go.Sort
/-- A list without what is equal to the one before. -/
def ddS (l : List Nm) : List Nm := l.foldl (fun D p => if D.getLast? = some p then D else D ++ [p]) []
theorem ddS_snoc (l : List Nm) (p : Nm) : ddS (l ++ [p]) = if (ddS l).getLast? = some p then ddS l else ddS l ++ [p] := by
  unfold ddS; rw [List.foldl_append]; rfl
theorem snoc_ind {P : List Nm → Prop} (h0 : P []) (h1 : ∀ l p, P l → P (l ++ [p])) (l : List Nm) : P l := by
  rw [← List.reverse_reverse l]
  induction l.reverse with
  | nil => exact h0
  | cons a r ih => rw [List.reverse_cons]; exact h1 _ _ ih
theorem ddS_last (l : List Nm) (p : Nm) : (ddS (l ++ [p])).getLast? = some p := by
  rw [ddS_snoc]
  split
  · assumption
  · simp
theorem ddS_at {l : List Nm} {i : Nat} {p q : Nm} (hq : l[i]? = some q) (hp : l[i + 1]? = some p) : ddS (l.take (i + 1 + 1)) = if p = q then ddS (l.take (i + 1)) else ddS (l.take (i + 1)) ++ [p] := by
  have e1 : l.take (i + 1 + 1) = l.take (i + 1) ++ [p] := by rw [List.take_add_one, hp]; rfl
  have e2 : l.take (i + 1) = l.take i ++ [q] := by rw [List.take_add_one, hq]; rfl
  rw [e1, ddS_snoc]
  have h : (ddS (l.take (i + 1))).getLast? = some q := by rw [e2]; exact ddS_last _ _
  rw [h]
  by_cases e : p = q
  · subst e; simp
  · have e' : ¬ q = p := fun h => e h.symm
    simp [e, e']
theorem ddS_mem (l : List Nm) (x : Nm) : x ∈ ddS l ↔ x ∈ l := by
  refine snoc_ind (P := fun l => x ∈ ddS l ↔ x ∈ l) (by simp [ddS]) (fun l p ih => ?_) l
  · rw [ddS_snoc]
    split
    · rename_i h
      have hp : p ∈ ddS l := List.mem_of_getLast? h
      rw [ih]
      constructor
      · exact fun h => List.mem_append_left _ h
      · intro h
        rcases List.mem_append.1 h with h | h
        · exact h
        · rw [List.mem_singleton] at h
          rw [h] at ih ⊢; exact ih.1 hp
    · simp [ih]
theorem ddS_len (l : List Nm) : (ddS l).length ≤ l.length := by
  refine snoc_ind (P := fun l => (ddS l).length ≤ l.length) (by simp [ddS]) (fun l p ih => ?_) l
  rw [ddS_snoc]
  split <;> simp <;> omega
/-- A row of names in a block. -/
def Row (W : World) (g : Nat) (C : List Nm) : Prop := ∃ cs : Array Value, W.heap[g]? = some (.cells cs 36 (0, 0)) ∧ C.length * 2 ≤ cs.size ∧ ∀ (i : Nat) (p : Nm), C[i]? = some p → cs[i * 2]? = some (.int .u8 p.y) ∧ cs[i * 2 + 1]? = some (.int .i64 p.n)
theorem Row.c0 {W : World} {g : Nat} {C : List Nm} (h : Row W g C) {i : Nat} {p : Nm} (hp : C[i]? = some p) : W.cell? ⟨g, i * 2, none⟩ = some (.int .u8 p.y) := by
  obtain ⟨cs, h1, h2, h3⟩ := h
  have := (h3 i p hp).1
  simp [World.cell?, h1, this]
theorem Row.c1 {W : World} {g : Nat} {C : List Nm} (h : Row W g C) {i : Nat} {p : Nm} (hp : C[i]? = some p) : W.cell? ⟨g, i * 2 + 1, none⟩ = some (.int .i64 p.n) := by
  obtain ⟨cs, h1, h2, h3⟩ := h
  have := (h3 i p hp).2
  simp [World.cell?, h1, this]
theorem Row.fr {W : World} {g : Nat} {C : List Nm} (h : Row W g C) (o : Nat) : W.frozen? ⟨g, o, none⟩ = false := by
  obtain ⟨cs, h1, h2, h3⟩ := h
  simp [World.frozen?, h1]
theorem Row.drewN {W : World} {g : Nat} {C : List Nm} (h : Row W g C) (n : Nat) : Row (W.drewN n) g C := h
theorem Row.set {W : World} {g : Nat} {C : List Nm} (h : Row W g C) {k : Nat} (hk : k < C.length) (p : Nm) : Row ((W.setCell ⟨g, k * 2, none⟩ (.int .u8 p.y)).setCell ⟨g, k * 2 + 1, none⟩ (.int .i64 p.n)) g (C.set k p) := by
  obtain ⟨cs, h1, h2, h3⟩ := h
  refine ⟨_, setCell_block _ _ _ _ (setCell_block _ _ _ _ h1), by simpa using h2, fun i q hq => ?_⟩
  rw [List.getElem?_set] at hq
  simp only [Array.getElem?_setIfInBounds, Array.size_setIfInBounds]
  by_cases e : k = i
  · subst e
    rw [if_pos rfl, if_pos hk] at hq
    obtain rfl := Option.some.inj hq
    have a1 : ¬ (k * 2 + 1 = k * 2) := by omega
    have a2 : k * 2 < cs.size := by omega
    have a3 : k * 2 + 1 < cs.size := by omega
    simp [a2, a3]
  · rw [if_neg e] at hq
    have a1 : ¬ (k * 2 + 1 = i * 2) := by omega
    have a2 : ¬ (k * 2 = i * 2) := by omega
    have a3 : ¬ (k * 2 + 1 = i * 2 + 1) := by omega
    have a4 : ¬ (k * 2 = i * 2 + 1) := by omega
    rw [if_neg a1, if_neg a2, if_neg a3, if_neg a4]
    exact h3 i q hq
theorem setCells_block (B : Nat) {t : TypeId} : ∀ (vs : List Value) (o : Nat) (W : World) (cs : Array Value), W.heap[B]? = some (.cells cs t (0, 0)) → ∃ cs', (W.setCells B o vs).heap[B]? = some (.cells cs' t (0, 0)) ∧ cs'.size = cs.size ∧ ∀ j, j < o → cs'[j]? = cs[j]?
  | [], _, _, cs, h => ⟨cs, h, rfl, fun _ _ => rfl⟩
  | v :: vs, o, W, cs, h => by
    obtain ⟨cs', h1, h2, h3⟩ := setCells_block B vs (o + 1) _ _ (setCell_block W B o v h)
    refine ⟨cs', h1, by rw [h2]; simp, fun j hj => ?_⟩
    rw [h3 j (by omega), Array.getElem?_setIfInBounds_ne (by omega)]
theorem Row.cut {W : World} {g : Nat} {C : List Nm} (h : Row W g C) (m : Nat) (vs : List Value) : Row (W.setCells g (m * 2) vs) g (C.take m) := by
  obtain ⟨cs, h1, h2, h3⟩ := h
  obtain ⟨cs', k1, k2, k3⟩ := setCells_block g vs (m * 2) W cs h1
  refine ⟨cs', k1, by rw [k2, List.length_take]; omega, fun i p hp => ?_⟩
  rw [List.getElem?_take] at hp
  split at hp
  · rename_i him
    rw [k3 (i * 2) (by omega), k3 (i * 2 + 1) (by omega)]
    exact h3 i p hp
  · cases hp
theorem below_setCells {B N : Nat} {a : World} (hB : N ≤ B) : ∀ (vs : List Value) (o : Nat) (W : World), Below N a W → Below N a (W.setCells B o vs)
  | [], _, _, h => h
  | v :: vs, o, W, h => below_setCells hB vs (o + 1) _ (h.setCell (p := ⟨B, o, none⟩) hB v)
theorem zero36 (w : World) : (zeroValue 36).run Try.prog w = .ok (.agg #[.int .u8 0, .int .i64 0]) w := by kernel_rfl
theorem Row.clear {W : World} {g : Nat} {C : List Nm} (h : Row W g C) (m c : Nat) (hm : m < C.length) : ∃ W', (∀ ty : TypeId, (Builtin.clear_ #[26] ty #[.slice (some ⟨g, m * 2, none⟩) (C.length - m) c]).run Try.prog W = .ok (.tuple #[]) W') ∧ Row W' g (C.take m) ∧ ∀ N, N ≤ g → Below N W W' := by
  obtain ⟨n, hn⟩ : ∃ n, C.length - m = n + 1 := ⟨C.length - m - 1, by omega⟩
  rw [hn]
  obtain ⟨Z, hZ⟩ : ∃ Z, (Builtin.zeroCells #[Value.int .u8 0, Value.int .i64 0] (n + 1)).toList = Z := ⟨_, rfl⟩
  have hl : Z.length = (n + 1) * 2 := by rw [← hZ]; simp [Builtin.zeroCells]
  have h1 : ∀ v ∈ Z, v.oneCell' = true := fun v hv => by
    rw [← hZ] at hv
    simp only [Builtin.zeroCells, Array.toList_map, List.mem_map] at hv
    obtain ⟨j, _, rfl⟩ := hv
    have hj : j % 2 = 0 ∨ j % 2 = 1 := by omega
    rcases hj with e | e <;> simp [e] <;> rfl
  have hcs := h
  obtain ⟨cs, k1, k2, k3⟩ := hcs
  have hst := run_storeCells_cells (P := Try.prog) g (m * 2) Z 0 W (fun j hj => by
    rw [hl] at hj
    have : m * 2 + j < cs.size := by omega
    simp [World.cell?, k1, this]) (fun j _ => h.fr _) h1
  simp only [Nat.add_zero] at hst
  refine ⟨W.setCells g (m * 2) Z, fun ty => ?_, h.cut m Z, fun N hN => ?_⟩
  · have hc2 : (Value.agg #[Value.int .u8 0, Value.int .i64 0]).cells = #[Value.int .u8 0, Value.int .i64 0] := rfl
    simp [Builtin.clear_, run_underlying Try.underlying26, zero36, hc2, hZ, hst]
  · exact below_setCells hN _ _ _ (Below.refl _ _)
end Go.Proofs.Ytgaofkbmnapogaa
namespace Go.Proofs.Ytgaofkbmnapogaa
open Go.RowKit Go.Sort
theorem take_set_at {C : List Nm} {k : Nat} (hk : k < C.length) (p : Nm) : (C.set k p).take (k + 1) = C.take k ++ [p] := by
  apply List.ext_getElem?
  intro i
  rw [List.getElem?_take, List.getElem?_set]
  by_cases h : i < k
  · rw [if_pos (by omega), if_neg (by omega), List.getElem?_append_left (by rw [List.length_take]; omega), List.getElem?_take, if_pos h]
  · by_cases h2 : i = k
    · subst h2
      rw [if_pos (by omega), if_pos rfl, if_pos hk, List.getElem?_append_right (by rw [List.length_take]; omega), List.length_take, show i - min i C.length = 0 by omega]
      rfl
    · rw [if_neg (by omega), List.getElem?_append_right (by rw [List.length_take]; omega)]
      rw [List.length_take, List.getElem?_eq_none (by simp; omega)]
set_option maxRecDepth 100000
set_option maxHeartbeats 8000000
/-- slices.Compact on a row of one's own. -/
theorem compact_any (g cap : Nat) (l : List Nm) (w : World) (hw : Row w g l) (hc : l.length ≤ cap) (hl : l.length ≤ 1000) (N : Nat) (hN : N ≤ g) :
    Calls Try.prog 34 #[.slice (some ⟨g, 0, none⟩) l.length cap] w fun e w' => e = .returned (.slice (some ⟨g, 0, none⟩) (ddS l).length cap) ∧ Row w' g (ddS l) ∧ Below N w w' := by
  have HR := Lib.hid hw
  obtain ⟨n, hn⟩ : ∃ n, l.length = n := ⟨_, rfl⟩
  rw [hn] at hc hl ⊢
  have HN := Lib.hid hn
  have HNG := Lib.hid hN
  have hcz : (n : Int) ≤ (cap : Int) := by omega
  clear hw hn hN
  by_cases h2 : n < 2
  · have hdd : ddS l = l := by
      match l, HN.out with
      | [], _ => rfl
      | [x], _ => simp [ddS]
      | x :: y :: l, e => simp at e; omega
    have hdl : (ddS l).length = n := by rw [hdd]; exact HN.out
    rw [hdl, hdd]
    have h2z : (n : Int) < 2 := by omega
    clear hdd hdl
    go_enter Try.func34, Try.ntmps34
    go_wp2_with fail
    go_ret
    exact ⟨rfl, HR.out, Below.refl _ _⟩
  · have h2z : ¬ (n : Int) < 2 := by omega
    go_enter Try.func34, Try.ntmps34
    go_wp2_with fail
    go_loopg [3] (n + 1) (fun g0 s3 wr => ∃ k : Nat, s3 = .int .i64 (k + 1 : Nat) ∧ k + 1 ≤ n ∧ g0 = n + 1 - k ∧ Hid (ddS (l.take (k + 1)) = l.take (k + 1)) ∧ Hid (Row wr g l) ∧ Below N w wr)
    case atStart => exact ⟨0, rfl, by omega, by omega, Lib.hid (by
        match l, HN.out with
        | [], _ => rfl
        | x :: l, _ => simp [ddS]), HR, Below.refl _ _⟩
    case round =>
      obtain ⟨k, rfl, hk, hg, HD, HW, hbr⟩ := hrel
      have HG := Lib.hid hg
      clear hg
      by_cases hlt : k + 1 < n
      · have hkz : (k : Int) + 1 < (n : Int) := by omega
        obtain ⟨p, hp⟩ : ∃ p, l[k + 1]? = some p := ⟨l[k + 1]'(by rw [HN.out]; exact hlt), List.getElem?_eq_getElem _⟩
        obtain ⟨q, hq⟩ : ∃ q, l[k]? = some q := ⟨l[k]'(by rw [HN.out]; omega), List.getElem?_eq_getElem _⟩
        have c0 := HW.out.c0 hp
        have c1 := HW.out.c1 hp
        have d0 := HW.out.c0 hq
        have d1 := HW.out.c1 hq
        have HS := Lib.hid (ddS_at hq hp)
        obtain ⟨r, hr⟩ : ∃ r, sameNm p.y p.n q.y q.n = r := ⟨_, rfl⟩
        have heq := fun W => eql28 hr W
        have HP := Lib.hid hp
        have HQ := Lib.hid hq
        have HRR := Lib.hid hr
        clear hp hq hr
        cases r with
        | false =>
          have hne : p ≠ q := sameNm_no HRR.out
          have HNE := Lib.hid hne
          clear hne
          go_upto_region 6 with fail
          go_quiet (fail)
          rename_i nq
          go_wp2_with fail
          go_roundg (n + 1 - (k + 1))
          case measure => have := HG.out; omega
          case rel => exact ⟨k + 1, by go_num, by omega, by omega, Lib.hid (by
              rw [HS.out, if_neg HNE.out, HD.out, ← show l.take (k + 1 + 1) = l.take (k + 1) ++ [p] by rw [List.take_add_one (i := k + 1), HP.out]; rfl]), Lib.hid (HW.out.drewN nq), below_drewN hbr _⟩
        | true =>
          have hpq : p = q := sameNm_iff.1 HRR.out
          have HDK : Hid (ddS (l.take (k + 1 + 1)) = l.take (k + 1)) := Lib.hid (by rw [HS.out, if_pos hpq, HD.out])
          go_upto_region 6 with fail
          go_quiet (fail)
          rename_i nq
          go_wp2_with fail
          obtain ⟨m, hm⟩ : ∃ m, n - (k + 1) = m := ⟨_, rfl⟩
          obtain ⟨cm, hcm⟩ : ∃ cm, cap - (k + 1) = cm := ⟨_, rfl⟩
          have hmn : k + 1 + m = n := by omega
          have hmc : m ≤ cm := by omega
          simp only [hm, hcm]
          have HMN := Lib.hid hmn
          have hbr0 : Below N w (wr.drewN nq) := below_drewN hbr _
          have HW0 : Hid (Row (wr.drewN nq) g l) := Lib.hid (HW.out.drewN nq)
          obtain ⟨wo, hwo⟩ : ∃ wo, wr.drewN nq = wo := ⟨_, rfl⟩
          rw [hwo] at hbr0 HW0
          clear hm hcm hbr heq c0 c1 d0 d1 hpq
          simp only [hwo]
          go_loopg [3, 5] (m + 1) (fun g0 s3 s5 wx => ∃ (i kk : Nat) (C : List Nm), s3 = .int .i64 kk ∧ s5 = .int .i64 (i + 1 : Nat) ∧ i + 1 ≤ m ∧ g0 = m + 1 - i ∧ Hid (C.length = n ∧ C.take kk = ddS (l.take (k + 1 + i + 1)) ∧ kk ≤ k + 1 + i ∧ ∀ j, k + 1 + i ≤ j → C[j]? = l[j]?) ∧ Hid (Row wx g C) ∧ Below N w wx)
          case atStart => exact ⟨0, k + 1, l, rfl, rfl, by omega, by omega, Lib.hid ⟨HN.out, HDK.out.symm, by omega, fun _ _ => rfl⟩, HW0, hbr0⟩
          case round =>
            clear hbr0 HW0
            obtain ⟨i, kk, C, rfl, rfl, hi, hg, HI, HRW, hbr⟩ := hrel
            have HG2 := Lib.hid hg
            clear hg
            have hkk : kk < n := by have := HI.out.2.2.1; have := HMN.out; omega
            have hkkz : (kk : Int) < (n : Int) := by omega
            by_cases hlt2 : i + 1 < m
            · have hiz : (i : Int) + 1 < (m : Int) := by omega
              have hb1 : k + 1 + i + 1 < l.length := by rw [HN.out]; omega
              obtain ⟨p', hp'⟩ : ∃ p', l[k + 1 + i + 1]? = some p' := ⟨l[k + 1 + i + 1], List.getElem?_eq_getElem hb1⟩
              obtain ⟨q', hq'⟩ : ∃ q', l[k + 1 + i]? = some q' := ⟨l[k + 1 + i]'(by omega), List.getElem?_eq_getElem _⟩
              obtain ⟨u', hu'⟩ : ∃ u', C[kk]? = some u' := ⟨C[kk]'(by rw [HI.out.1]; exact hkk), List.getElem?_eq_getElem _⟩
              have c0 : wr.cell? ⟨g, (k + 1) * 2 + (i + 1) * 2, none⟩ = some (.int .u8 p'.y) := by
                rw [show (k + 1) * 2 + (i + 1) * 2 = (k + 1 + i + 1) * 2 by omega]
                exact HRW.out.c0 ((HI.out.2.2.2 _ (by omega)).trans hp')
              have c1 : wr.cell? ⟨g, (k + 1) * 2 + (i + 1) * 2 + 1, none⟩ = some (.int .i64 p'.n) := by
                rw [show (k + 1) * 2 + (i + 1) * 2 = (k + 1 + i + 1) * 2 by omega]
                exact HRW.out.c1 ((HI.out.2.2.2 _ (by omega)).trans hp')
              have d0 : wr.cell? ⟨g, (k + 1) * 2 + i * 2, none⟩ = some (.int .u8 q'.y) := by
                rw [show (k + 1) * 2 + i * 2 = (k + 1 + i) * 2 by omega]
                exact HRW.out.c0 ((HI.out.2.2.2 _ (by omega)).trans hq')
              have d1 : wr.cell? ⟨g, (k + 1) * 2 + i * 2 + 1, none⟩ = some (.int .i64 q'.n) := by
                rw [show (k + 1) * 2 + i * 2 = (k + 1 + i) * 2 by omega]
                exact HRW.out.c1 ((HI.out.2.2.2 _ (by omega)).trans hq')
              have e0 := HRW.out.c0 hu'
              have e1 := HRW.out.c1 hu'
              have f0 := HRW.out.fr (kk * 2)
              have f1 := HRW.out.fr (kk * 2 + 1)
              have HS2 := Lib.hid (ddS_at hq' hp')
              obtain ⟨r, hr⟩ : ∃ r, sameNm p'.y p'.n q'.y q'.n = r := ⟨_, rfl⟩
              have hneq := fun W => neq28 hr W
              have HP2 := Lib.hid hp'
              have HR2 := Lib.hid hr
              clear hp' hq' hr hu' hb1
              cases r with
              | true =>
                have hpq : p' = q' := sameNm_iff.1 HR2.out
                have HPQ := Lib.hid hpq
                clear hpq
                go_upto_region 11 with fail
                go_quiet (fail)
                go_wp2_with fail
                go_roundg (m + 1 - (i + 1))
                case measure => have := HG2.out; omega
                case rel => exact ⟨i + 1, kk, C, rfl, by go_num, by omega, by omega, Lib.hid ⟨HI.out.1, by rw [HI.out.2.1, show k + 1 + (i + 1) + 1 = k + 1 + i + 1 + 1 by omega, HS2.out, if_pos HPQ.out], by have := HI.out.2.2.1; omega, fun j hj => HI.out.2.2.2 j (by omega)⟩, Lib.hid (HRW.out.drewN nq), below_drewN hbr _⟩
              | false =>
                have HNE := Lib.hid (sameNm_no HR2.out)
                go_upto_region 11 with fail
                go_quiet (fail)
                go_wp2_with fail
                go_roundg (m + 1 - (i + 1))
                case measure => have := HG2.out; omega
                case rel => exact ⟨i + 1, kk + 1, C.set kk p', by go_num, by go_num, by omega, by omega, Lib.hid ⟨by rw [List.length_set]; exact HI.out.1, by rw [take_set_at (by rw [HI.out.1]; exact hkk), HI.out.2.1, show k + 1 + (i + 1) + 1 = k + 1 + i + 1 + 1 by omega, HS2.out, if_neg HNE.out], by have := HI.out.2.2.1; omega, fun j hj => by rw [List.getElem?_set_ne (by have := HI.out.2.2.1; omega)]; exact HI.out.2.2.2 j (by omega)⟩, Lib.hid ((HRW.out.drewN nq).set (by rw [HI.out.1]; exact hkk) p'), ((below_drewN hbr nq).setCell (p := ⟨g, kk * 2, none⟩) HNG.out _).setCell (p := ⟨g, kk * 2 + 1, none⟩) HNG.out _⟩
            · obtain rfl : i + 1 = m := by omega
              have hiz : ¬ ((i : Int) + 1 < (i : Int) + 1) := by omega
              obtain ⟨W9, hcl, hrow9, hbel9⟩ := HRW.out.clear kk (cap - kk) (by rw [HI.out.1]; exact hkk)
              rw [HI.out.1] at hcl
              have hD : C.take kk = ddS l := by
                rw [HI.out.2.1, List.take_of_length_le (by rw [HN.out]; have := HMN.out; omega)]
              have hDl : (ddS l).length = kk := by rw [← hD, List.length_take, HI.out.1]; omega
              rw [hD] at hrow9
              have HDL2 := Lib.hid hDl
              have HR9 := Lib.hid hrow9
              have HB9 := Lib.hid (hbr.trans (hbel9 N HNG.out))
              clear hD hDl hrow9 hbel9
              go_wp2_with fail
              go_ret
              exact ⟨by rw [HDL2.out]; rfl, HR9.out, HB9.out⟩
      · obtain rfl : k + 1 = n := by omega
        have hkz : ¬ ((k : Int) + 1 < (k : Int) + 1) := by omega
        have hdl : ddS l = l := by
          have h := HD.out
          rw [← HN.out, List.take_length] at h
          exact h
        have hdl2 : (ddS l).length = k + 1 := by rw [hdl]; exact HN.out
        have HDL := Lib.hid hdl
        have HDL2 := Lib.hid hdl2
        clear hdl hdl2
        go_wp2_with fail
        go_ret
        exact ⟨by rw [HDL2.out]; rfl, by rw [HDL.out]; exact HW.out, hbr⟩
end Go.Proofs.Ytgaofkbmnapogaa
namespace Go.Proofs.Ytgaofkbmnapogaa
open Go.RowKit Go.Sort
set_option maxRecDepth 100000
set_option maxHeartbeats 8000000
theorem compact_nil (w : World) : Calls Try.prog 34 #[.slice none 0 0] w fun e w' => e = .returned (.slice none 0 0) ∧ w' = w := by
  go_enter Try.func34, Try.ntmps34
  go_wp2_with fail
  go_ret
  exact ⟨rfl, rfl⟩
theorem row_of_own {w : World} {g cap : Nat} {cur : Array Value} {l : List Nm} (hg : w.heap[g]? = some (.cells cur 36 (0, 0))) (hs : cur.size = cap * 2) (hc : l.length ≤ cap) (ht : cur.toList.take (l.length * 2) = rcells Nm.enc l) : Row w g l := by
  refine ⟨cur, hg, by omega, fun i p hp => ?_⟩
  have hi : i < l.length := (List.getElem?_eq_some_iff.1 hp).1
  have h0 := rcells_at Nm.enc 2 Nm.enc_len l i p 0 hp (by decide)
  have h1 := rcells_at Nm.enc 2 Nm.enc_len l i p 1 hp (by decide)
  rw [← ht, List.getElem?_take, if_pos (by omega), Array.getElem?_toList] at h0 h1
  exact ⟨h0, h1⟩
theorem Row.lie {w : World} {g cap : Nat} {l : List Nm} (h : Row w g l) : (⟨some ⟨g, 0, none⟩, l, cap⟩ : Sl Nm).lie Nm.enc w.heap.size w := by
  have hlt : g < w.heap.size := by obtain ⟨cs, h1, _⟩ := h; exact (Array.getElem?_eq_some_iff.1 h1).1
  refine .inr ⟨g, 0, rfl, hlt, fun j u hj => ?_⟩
  simp only at hj
  have hjl : j < l.length * 2 := by
    have := (List.getElem?_eq_some_iff.1 hj).1
    rw [rcells_length Nm.enc 2 Nm.enc_len] at this; exact this
  have hi : j / 2 < l.length := by omega
  have hp : l[j / 2]? = some l[j / 2] := List.getElem?_eq_getElem hi
  have hh := rcells_at Nm.enc 2 Nm.enc_len l (j / 2) _ (j % 2) hp (by omega)
  rw [show j / 2 * 2 + j % 2 = j by omega, hj] at hh
  have hm : j % 2 = 0 ∨ j % 2 = 1 := by omega
  rcases hm with e | e
  · rw [e] at hh
    have := h.c0 hp
    rw [show j / 2 * 2 = j by omega] at this
    rw [Nat.zero_add, this, hh]; rfl
  · rw [e] at hh
    have := h.c1 hp
    rw [show j / 2 * 2 + 1 = j by omega] at this
    rw [Nat.zero_add, this, hh]; rfl
/-- slices.Compact and slices.Clip behind it, on a row of one's own: a list to read. -/
theorem compact_own (N : Nat) (v : Value) (l : List Nm) (w : World) (hown : w.ownsRow N 36 2 v l.length (rcells Nm.enc l)) (hl : l.length ≤ 1000) :
    Calls Try.prog 34 #[v] w fun e w' => (∃ (ao : Option Addr) (c : Nat), e = .returned (.slice ao (ddS l).length c) ∧ Hid ((ddS l).length ≤ c ∧ (ao = none → c = 0) ∧ (∀ a, ao = some a → ∃ b, a = ⟨b, 0, none⟩) ∧ (⟨ao, ddS l, (ddS l).length⟩ : Sl Nm).lie Nm.enc w'.heap.size w')) ∧ Below N w w' := by
  rcases hown.2 with ⟨rfl, h0⟩ | ⟨g, cap, cur, rfl, hb, hg, hn, hm, hs, ht⟩
  · obtain rfl : l = [] := List.eq_nil_of_length_eq_zero h0
    refine (compact_nil w).mono ?_
    rintro e w' ⟨rfl, rfl⟩
    exact ⟨⟨none, 0, rfl, Lib.hid ⟨Nat.le_refl _, fun _ => rfl, fun a h => (by cases h), .inl rfl⟩⟩, Below.refl _ _⟩
  · refine (compact_any g cap l w (row_of_own hg hs hn ht) hn hl N hb).mono ?_
    rintro e w' ⟨rfl, hr, hbl⟩
    exact ⟨⟨some ⟨g, 0, none⟩, cap, rfl, Lib.hid ⟨Nat.le_trans (ddS_len l) hn, fun h => (by cases h), fun a h => ⟨g, (Option.some.inj h).symm⟩, hr.lie⟩⟩, hbl⟩
end Go.Proofs.Ytgaofkbmnapogaa
namespace Go.Proofs.Ytgaofkbmnapogaa
open Go.RowKit Go.Sort
/-- What a loop needs, in no order. -/
def needL (x : Lq) (p : Nm) : List Nm := (x.th ++ x.pa.map Pa.id) ++ (if 0 < p.n then [⟨p.y, p.n - 1⟩] else [])
set_option maxRecDepth 100000
set_option maxHeartbeats 8000000
theorem needs_any (t : Tb) (p : Nm) (N : Nat) (w : World) (hN : N ≤ w.heap.size) (ht : Tb.ok N w t) (k i : Nat) (r : Sl Lp) (x : Lp) (hp : p = ⟨(k : Int) + 1, i⟩) (hr : t.l[k]? = some r) (hx : r.l[i]? = some x) (hth : there t.sem p = true)
    (h12 : (needL x.q p).length ≤ 12) (hwf : ∀ q ∈ needL x.q p, q.wf) :
    Calls Try.prog 18 #[t.v, p.v] w fun e w' => ∃ s : Sl Nm, e = .returned s.v ∧ Hid ((∃ l, Mrg nkey (needL x.q p) l ∧ s.l = ddS l) ∧ s.cap = s.l.length ∧ s.lie Nm.enc w'.heap.size w') ∧ Below w.heap.size w w' := by
  subst hp
  have hxo : x.ok N w := (ht.el r (List.mem_of_getElem? hr)).el x (List.mem_of_getElem? hx)
  have K26 := Lib.hid (fun (W : World) (hb : Below w.heap.size w W) => isThere_any t ⟨(k : Int) + 1, i⟩ w.heap.size W hb.size ((ht.mono hN).below hb) (by
    have h1 := there_bounds ht hth
    have h2 := ht.len
    unfold Nm.byte; simp only at h1 ⊢; omega))
  rw [hth] at K26
  have K28 := Lib.hid (fun (W : World) (hb : Below w.heap.size w W) => at_any t k i r x w.heap.size W hb.size ((ht.mono hN).below hb) hr hx)
  have K30 := Lib.hid (fun (W : World) (hb : Below w.heap.size w W) => copied30 x.th w.heap.size W hb.size ((hxo.th.mono hN).below hb) (by have := hxo.lt; omega))
  have hi9 : i < 100 := by have h1 := there_bounds ht hth; simp only at h1; omega
  have HX := Lib.hid (hxo.mono hN)
  have H12 := Lib.hid h12
  have HWF := Lib.hid hwf
  have hb0 := below1 w (.cells #[.int .u8 ((k : Int) + 1), .int .i64 i] 36)
  have ho0 := heap_alloc_new w (.cells #[.int .u8 ((k : Int) + 1), .int .i64 i] 36)
  obtain ⟨w0, hw0⟩ : ∃ w0, w.alloc (.cells #[.int .u8 ((k : Int) + 1), .int .i64 i] 36) = w0 := ⟨_, rfl⟩
  rw [hw0] at hb0 ho0
  have hz0 : w.heap.size + 1 ≤ w0.heap.size := (Array.getElem?_eq_some_iff.1 ho0).1
  have HB0 := Lib.hid hb0
  have HZ := Lib.hid hz0
  have HP := Lib.hid (fun (W : World) (hb : Below w0.heap.size w0 W) => (hb.block w.heap.size (by omega)).trans ho0)
  have n0 : w0.cell? ⟨w.heap.size, 0, none⟩ = some (.int .u8 ((k : Int) + 1)) := by simp [World.cell?, ho0]
  have n1 : w0.cell? ⟨w.heap.size, 1, none⟩ = some (.int .i64 i) := by simp [World.cell?, ho0]
  obtain ⟨ao, ls, cap⟩ := t
  obtain ⟨bed, nw, ⟨ta, tl, tc⟩, ⟨pa, pl, pc⟩⟩ := x
  have hpl : pl.length ≤ 100 := HX.out.lp
  have htl : tl.length ≤ 100 := HX.out.lt
  simp only [Sl.v, Nm.v, Lp.v, Lp.q] at K26 K28 K30 H12 HWF ⊢
  have K26' := Lib.hid (K26.out w0 hb0)
  clear K26 ht hr hx hth h12 hwf hxo hb0 ho0 hz0
  go_enter Try.func18, Try.ntmps18
  go_wp2_with (first
    | (go_at_call 26; refine K26'.out.mono ?_; rintro e w1 ⟨rfl, hb1⟩; have HB1 := Lib.hid hb1; have ho1 := HP.out _ (hb1); have m0 : w1.cell? ⟨w.heap.size, 0, none⟩ = some (.int .u8 ((k : Int) + 1)) := (by simp [World.cell?, ho1]); have m1 : w1.cell? ⟨w.heap.size, 1, none⟩ = some (.int .i64 i) := (by simp [World.cell?, ho1]); clear ho1 hb1)
    | (go_at_call 28; refine (K28.out _ (HB0.out.trans (HB1.out.mono HB0.out.size))).mono ?_; rintro e w2 ⟨rfl, hb2⟩; have HB2 := Lib.hid (HB1.out.trans (hb2.mono HB1.out.size)); clear hb2)
    | (go_at_call 30; refine (K30.out _ ((HB0.out.trans (HB2.out.mono HB0.out.size)).alloc (Nat.le_trans HB0.out.size HB2.out.size) _)).mono ?_; rintro e w4 ⟨s, rfl, HS4, hb4⟩; have ho4 := HS4.out.2.2.2; rw [HS4.out.1] at ho4; generalize s.v = v4 at ho4 ⊢; clear HS4; simp only [World.size_alloc] at hb4 ho4; have hx4 : w4.cell? ⟨w2.heap.size, 3, none⟩ = some (.slice pa pl.length pc) := ((hb4.cell (p := ⟨w2.heap.size, 3, none⟩) (by simp)).trans (by simp)); have HO4 := Lib.hid ho4; have HB4 := Lib.hid hb4; clear ho4 hb4))
  have HBW : Hid (Below w0.heap.size w0 w4) := Lib.hid ((HB2.out.alloc HB2.out.size _).trans (HB4.out.mono (Nat.le_trans HB2.out.size (Nat.le_succ _))))
  have HZ2 : Hid (w0.heap.size ≤ w2.heap.size) := Lib.hid HB2.out.size
  have HZ4 : Hid (w2.heap.size + 1 ≤ w4.heap.size) := Lib.hid (by
    have := HB4.out.size; simpa using this)
  clear HB4 m0 m1 n0 n1 hx4
  go_loopg [6, 22] (pl.length + 1) (fun g v s22 wr => ∃ j : Nat, s22 = .int .i64 j ∧ j ≤ pl.length ∧ g = pl.length + 1 - j ∧ Hid (wr.ownsRow (w2.heap.size + 1) 36 2 v (tl ++ (pl.take j).map Pa.id).length (rcells Nm.enc (tl ++ (pl.take j).map Pa.id))) ∧ Below (w2.heap.size + 1) w4 wr)
  case atStart => exact ⟨0, rfl, by omega, by omega, by simpa using HO4, Below.refl _ _⟩
  case round =>
    obtain ⟨j, rfl, hj, hg, HOW, hbr⟩ := hrel
    have HG := Lib.hid hg
    clear hg
    have hbx : Below w0.heap.size w0 _ := HBW.out.trans (hbr.mono (Nat.le_trans HZ2.out (Nat.le_succ _)))
    have hsz : w2.heap.size + 1 ≤ _ := Nat.le_trans HZ4.out hbr.size
    by_cases hlt : j < pl.length
    · have hjz : (j : Int) < (pl.length : Int) := by omega
      obtain ⟨q, hq⟩ : ∃ q, pl[j]? = some q := ⟨pl[j], List.getElem?_eq_getElem hlt⟩
      obtain ⟨b, o, hao, hbl, c0, c1, c2, c3⟩ := Sl.lie.pa (HX.out.pa.below (HB0.out.trans (hbx.mono HB0.out.size))) hq
      obtain rfl : pa = some ⟨b, o, none⟩ := hao
      have HNX : Hid ((tl ++ (pl.take (j + 1)).map Pa.id) = (tl ++ (pl.take j).map Pa.id) ++ [q.id]) := Lib.hid (by rw [List.take_add_one, hq]; simp)
      clear hq hbx
      have hlen : (tl ++ (pl.take j).map Pa.id).length ≤ 100000 := by
        rw [List.length_append, List.length_map, List.length_take]; omega
      obtain ⟨L, hL⟩ : ∃ L, tl ++ (pl.take j).map Pa.id = L := ⟨_, rfl⟩
      rw [hL] at HOW HNX hlen
      have HLL := Lib.hid hlen
      obtain ⟨⟨qy, qn⟩, qf, qd⟩ := q
      simp only at c0 c1 c2 c3 HNX
      clear hL hlen
      go_upto_region 8 with fail
      iterate 13 go_step
      have hal := below2 wr (.cells #[.int .u8 qy, .int .i64 qn, .bool qf, .int .u8 qd] 56) (.cells #[.int .u8 qy, .int .i64 qn] 36)
      have hrec := rec_new Nm.enc (wr.alloc (.cells #[.int .u8 qy, .int .i64 qn, .bool qf, .int .u8 qd] 56)) 36 ⟨qy, qn⟩
      rw [World.size_alloc] at hrec
      refine wpList_app_rec kdNm (v := u6) (l := L) (x := ⟨qy, qn⟩) rfl rfl rfl rfl ((HOW.out.alloc _).alloc _) hrec HLL.out (by have := hal.size; omega) ?_
      intro v5 w5 ho5 hg5 _
      have hb5 : Below (w2.heap.size + 1) w4 w5 := (hbr.trans (hal.mono hsz)).grown hg5 (by have := hal.size; omega) (fun g e => (HOW.out.lt g e).1)
      have HO5 := Lib.hid ho5
      have HB5 := Lib.hid hb5
      clear ho5 hb5 hg5 hal hrec
      go_wp2_with fail
      go_roundg (pl.length + 1 - (j + 1))
      case measure => have := HG.out; omega
      case rel => exact ⟨j + 1, by go_num, by omega, by omega, by rw [HNX.out]; exact HO5, HB5.out⟩
    · obtain rfl : j = pl.length := by omega
      have hjz : ¬ ((pl.length : Int) < (pl.length : Int)) := by omega
      rw [List.take_length] at HOW
      have ho1 := HP.out _ hbx
      have m0 := show wr.cell? ⟨w.heap.size, 0, none⟩ = some (.int .u8 ((k : Int) + 1)) by simp [World.cell?, ho1]
      have m1 := show wr.cell? ⟨w.heap.size, 1, none⟩ = some (.int .i64 i) by simp [World.cell?, ho1]
      clear ho1 hbx
      have hlen : (tl ++ pl.map Pa.id).length ≤ 100000 := by
        rw [List.length_append, List.length_map]; omega
      unfold needL at H12 HWF
      simp only at H12 HWF
      by_cases hi0 : 0 < i
      · have hiz : (0 : Int) < (i : Int) := by omega
        rw [if_pos hiz] at H12 HWF
        obtain ⟨L, hL⟩ : ∃ L, tl ++ pl.map Pa.id = L := ⟨_, rfl⟩
        have hneed : needL ⟨bed, nw, tl, pl⟩ ⟨(k : Int) + 1, i⟩ = L ++ [⟨(k : Int) + 1, (i : Int) - 1⟩] := by
          unfold needL; simp only; rw [if_pos hiz, hL]
        rw [hL] at HOW H12 HWF hlen
        have HND := Lib.hid hneed
        have hwr : wrap64 ((i : Int) - 1) = (i : Int) - 1 := by unfold wrap64; omega
        have HLL := Lib.hid hlen
        clear hL hneed hlen
        go_upto_region 11 with fail
        iterate 25 go_step
        have hal := below1 wr (.cells #[.int .u8 ((k : Int) + 1), .int .i64 ((i : Int) - 1)] 36)
        have hrec := rec_new Nm.enc wr 36 ⟨(k : Int) + 1, (i : Int) - 1⟩
        refine wpList_app_rec kdNm (v := u6) (l := L) (x := ⟨(k : Int) + 1, (i : Int) - 1⟩) rfl rfl rfl rfl (HOW.out.alloc _) hrec HLL.out (by have := hal.size; omega) ?_
        intro v5 w5 ho5 hg5 _
        have hb5 : Below (w2.heap.size + 1) w4 w5 := (hbr.trans (hal.mono hsz)).grown hg5 (by have := hal.size; omega) (fun g e => (HOW.out.lt g e).1)
        have HO5 := Lib.hid ho5
        have HB5 := Lib.hid hb5
        clear ho5 hb5 hg5 hal hrec m0 m1
        have HSO := Lib.hid (sort_own (w2.heap.size + 1) _ _ _ HO5.out H12.out HWF.out)
        go_wp2_with (first
          | (go_at_call 31; refine HSO.out.mono ?_; rintro e w6 ⟨rfl, l6, hm6, hl6, ho6, hb6⟩; have HM6 := Lib.hid hm6; have HL6 := Lib.hid hl6; have HO6 := Lib.hid ho6; have HB6 := Lib.hid (HB5.out.trans hb6); clear hm6 hl6 ho6 hb6)
          | (go_at_call 34; refine (compact_own (w2.heap.size + 1) _ l6 _ HO6.out (by have := H12.out; have := HL6.out; omega)).mono ?_; rintro e w7 ⟨⟨a7, c7, rfl, HC7⟩, hb7⟩; have HB7 := Lib.hid (HB6.out.trans hb7); clear hb7)
          | (go_at_call 33; refine (clip_any33 a7 (ddS l6).length c7 HC7.out.1 HC7.out.2.1 HC7.out.2.2.1 _).mono ?_; rintro e w8 ⟨rfl, rfl⟩))
        go_ret
        exact ⟨⟨a7, ddS l6, (ddS l6).length⟩, rfl, Lib.hid ⟨⟨l6, by rw [HND.out]; exact HM6.out, rfl⟩, rfl, HC7.out.2.2.2⟩, HB0.out.trans ((HBW.out.trans (HB7.out.mono (Nat.le_trans HZ2.out (Nat.le_succ _)))).mono HB0.out.size)⟩
      · obtain rfl : i = 0 := by omega
        have hiz : ¬ (0 : Int) < ((0 : Nat) : Int) := by decide
        rw [if_neg hiz, List.append_nil] at H12 HWF
        have HND : Hid (needL ⟨bed, nw, tl, pl⟩ ⟨(k : Int) + 1, ((0 : Nat) : Int)⟩ = tl ++ pl.map Pa.id) := Lib.hid (by
          unfold needL; simp only; rw [if_neg hiz, List.append_nil])
        clear hlen
        have HSO := Lib.hid (sort_own (w2.heap.size + 1) _ _ _ HOW.out H12.out HWF.out)
        go_wp2_with (first
          | (go_at_call 31; refine HSO.out.mono ?_; rintro e w6 ⟨rfl, l6, hm6, hl6, ho6, hb6⟩; have HM6 := Lib.hid hm6; have HL6 := Lib.hid hl6; have HO6 := Lib.hid ho6; have HB6 := Lib.hid (hbr.trans hb6); clear hm6 hl6 ho6 hb6)
          | (go_at_call 34; refine (compact_own (w2.heap.size + 1) _ l6 _ HO6.out (by have := H12.out; have := HL6.out; omega)).mono ?_; rintro e w7 ⟨⟨a7, c7, rfl, HC7⟩, hb7⟩; have HB7 := Lib.hid (HB6.out.trans hb7); clear hb7)
          | (go_at_call 33; refine (clip_any33 a7 (ddS l6).length c7 HC7.out.1 HC7.out.2.1 HC7.out.2.2.1 _).mono ?_; rintro e w8 ⟨rfl, rfl⟩))
        go_ret
        exact ⟨⟨a7, ddS l6, (ddS l6).length⟩, rfl, Lib.hid ⟨⟨l6, by rw [HND.out]; exact HM6.out, rfl⟩, rfl, HC7.out.2.2.2⟩, HB0.out.trans ((HBW.out.trans (HB7.out.mono (Nat.le_trans HZ2.out (Nat.le_succ _)))).mono HB0.out.size)⟩
end Go.Proofs.Ytgaofkbmnapogaa
namespace Go.Proofs.Ytgaofkbmnapogaa
open Go.RowKit Go.Sort
variable {α : Type}
theorem grownBy_setCellAt (w : World) (b i : Nat) (v : Value) : w.grownBy (w.setCell ⟨b, i, none⟩ v) (some b) :=
  ⟨rfl, rfl, rfl, by simp, fun k _ hne => Below.heap_setCell w ⟨b, i, none⟩ v k fun e => hne (by rw [e])⟩
/-- A list lies in blocks of F. -/
def Sl.inF (enc : α → List Value) (F : Nat → Prop) (w : World) (s : Sl α) : Prop :=
  s.l = [] ∨ ∃ b o, s.ao = some ⟨b, o, none⟩ ∧ F b ∧ b < w.heap.size ∧ ∀ j u, (rcells enc s.l)[j]? = some u → w.cell? ⟨b, o + j, none⟩ = some u
/-- The blocks of F stay. -/
structure KeptF (F : Nat → Prop) (w w' : World) : Prop where
  size : w.heap.size ≤ w'.heap.size
  block : ∀ b, F b → b < w.heap.size → w'.heap[b]? = w.heap[b]?
theorem KeptF.refl (F : Nat → Prop) (w : World) : KeptF F w w := ⟨Nat.le_refl _, fun _ _ _ => rfl⟩
theorem KeptF.trans {F : Nat → Prop} {a b c : World} (h : KeptF F a b) (k : KeptF F b c) : KeptF F a c :=
  ⟨Nat.le_trans h.size k.size, fun i hi hl => (k.block i hi (Nat.lt_of_lt_of_le hl h.size)).trans (h.block i hi hl)⟩
theorem KeptF.of_grown {F : Nat → Prop} {w w' : World} {row : Option Nat} (hg : w.grownBy w' row) (hr : ∀ g, row = some g → ¬ F g) : KeptF F w w' :=
  ⟨hg.size, fun b hb hl => hg.block b hl fun e => hr b e.symm hb⟩
theorem KeptF.of_below {F : Nat → Prop} {w w' : World} (hb : Below w.heap.size w w') : KeptF F w w' := ⟨hb.size, fun b _ hl => hb.block b hl⟩
theorem KeptF.alloc (F : Nat → Prop) (w : World) (o : Obj) : KeptF F w (w.alloc o) := .of_below (below1 w o)
theorem KeptF.set {F : Nat → Prop} {w : World} {a : Addr} (h : ¬ F a.block) (v : Value) : KeptF F w (w.setCell a v) :=
  ⟨by simp, fun b hb _ => Below.heap_setCell w a v b fun e => h (e ▸ hb)⟩
theorem Sl.inF.kept {enc : α → List Value} {F : Nat → Prop} {w w' : World} {s : Sl α} (h : s.inF enc F w) (hk : KeptF F w w') : s.inF enc F w' :=
  h.imp id fun ⟨b, o, e, hf, hl, hc⟩ => ⟨b, o, e, hf, Nat.lt_of_lt_of_le hl hk.size, fun j u hj => (World.cell?_of_block (a := ⟨b, o + j, none⟩) (hk.block b hf hl)).trans (hc j u hj)⟩
theorem Sl.inF.mono {enc : α → List Value} {F G : Nat → Prop} {w : World} {s : Sl α} (h : s.inF enc F w) (hFG : ∀ b, F b → G b) : s.inF enc G w :=
  h.imp id fun ⟨b, o, e, hf, hl, hc⟩ => ⟨b, o, e, hFG b hf, hl, hc⟩
theorem Sl.inF.lie {enc : α → List Value} {F : Nat → Prop} {w : World} {s : Sl α} (h : s.inF enc F w) : s.lie enc w.heap.size w :=
  h.imp id fun ⟨b, o, e, _, hl, hc⟩ => ⟨b, o, e, hl, hc⟩
theorem inF_of_own {enc : α → List Value} {e k : Nat} (hk : ∀ x, (enc x).length = k) {N : Nat} {w : World} {s : Sl α} (h : w.ownsRow N e k s.v s.l.length (rcells enc s.l)) : s.inF enc (fun g => s.v.ownBlock = some g) w := by
  obtain ⟨s', hv, hl, hlie, _, _, hbl⟩ := own_lie hk h rfl
  obtain ⟨a, l, c⟩ := s
  obtain ⟨a', l', c'⟩ := s'
  simp only [Sl.v, Value.slice.injEq] at hv hl
  obtain ⟨rfl, _, rfl⟩ := hv
  subst hl
  rcases hlie with h0 | ⟨b, o, rfl, hb, hc⟩
  · exact .inl h0
  · exact .inr ⟨b, o, rfl, rfl, hb, hc⟩
structure Lp.inF (F : Nat → Prop) (w : World) (x : Lp) : Prop where
  th : x.th.inF Nm.enc F w
  pa : x.pa.inF Pa.enc F w
  lt : x.th.l.length ≤ 100
  lp : x.pa.l.length ≤ 100
  bt : ∀ p ∈ x.th.l, p.byte
  bp : ∀ p ∈ x.pa.l, p.id.byte ∧ 0 ≤ p.d ∧ p.d ≤ 255
  bb : 0 ≤ x.bed ∧ x.bed ≤ 255
theorem Lp.inF.kept {F : Nat → Prop} {w w' : World} {x : Lp} (h : x.inF F w) (hk : KeptF F w w') : x.inF F w' := ⟨h.th.kept hk, h.pa.kept hk, h.lt, h.lp, h.bt, h.bp, h.bb⟩
theorem Lp.inF.mono {F G : Nat → Prop} {w : World} {x : Lp} (h : x.inF F w) (hFG : ∀ b, F b → G b) : x.inF G w := ⟨h.th.mono hFG, h.pa.mono hFG, h.lt, h.lp, h.bt, h.bp, h.bb⟩
theorem Lp.inF.ok {F : Nat → Prop} {w : World} {x : Lp} (h : x.inF F w) : x.ok w.heap.size w := ⟨h.th.lie, h.pa.lie, h.lt, h.lp, h.bt, h.bp, h.bb⟩
theorem rcells_row (rs : List (Sl Lp)) : rcells rowEnc rs = rs.map Sl.v := by
  induction rs with
  | nil => rfl
  | cons r rs ih => rw [rcells_cons, ih]; rfl
/-- A table while it is filled: each row lies in a block of its own; what the loops hold lies in F. -/
structure Fill (N bt : Nat) (F : Nat → Prop) (w : World) (rs : List (Sl Lp)) : Prop where
  tab : w.heap[bt]? = some (.cells (rs.map Sl.v).toArray 37 (0, 0))
  own : ∀ (i : Nat) (r : Sl Lp), rs[i]? = some r → w.ownsRow N 45 4 r.v r.l.length (rcells Lp.enc r.l)
  dis : ∀ (i j : Nat) (r s : Sl Lp), i ≠ j → rs[i]? = some r → rs[j]? = some s → r.v.ownBlock = none ∨ r.v.ownBlock ≠ s.v.ownBlock
  el : ∀ r ∈ rs, ∀ x ∈ r.l, x.inF F w
  sep : ∀ r ∈ rs, ∀ g, r.v.ownBlock = some g → ¬ F g ∧ g ≠ bt
  nbt : ¬ F bt
  ltF : ∀ g, F g → N ≤ g ∧ g < w.heap.size
theorem Fill.lt {N bt : Nat} {F : Nat → Prop} {w : World} {rs : List (Sl Lp)} (h : Fill N bt F w rs) : bt < w.heap.size := (Array.getElem?_eq_some_iff.1 h.tab).1
theorem Fill.cell {N bt : Nat} {F : Nat → Prop} {w : World} {rs : List (Sl Lp)} (h : Fill N bt F w rs) {k : Nat} {r : Sl Lp} (hr : rs[k]? = some r) : w.cell? ⟨bt, k, none⟩ = some r.v := by
  simp [World.cell?, h.tab, hr]
theorem Fill.frozen {N bt : Nat} {F : Nat → Prop} {w : World} {rs : List (Sl Lp)} (h : Fill N bt F w rs) (k : Nat) : w.frozen? ⟨bt, k, none⟩ = false := by
  simp [World.frozen?, h.tab]
/-- A block that the filling does not touch. -/
def Fill.off (bt : Nat) (F : Nat → Prop) (rs : List (Sl Lp)) (g : Nat) : Prop := g ≠ bt ∧ ¬ F g ∧ ∀ r ∈ rs, r.v.ownBlock ≠ some g
theorem Fill.kept {N bt : Nat} {F : Nat → Prop} {w w' : World} {rs : List (Sl Lp)} (h : Fill N bt F w rs) {row : Option Nat} (hg : w.grownBy w' row) (hr : ∀ g, row = some g → Fill.off bt F rs g) : Fill N bt F w' rs := by
  refine ⟨(hg.block bt h.lt fun e => (hr bt e.symm).1 rfl).trans h.tab, fun i r hi => (h.own i r hi).kept hg ?_, h.dis, fun r hm x hx => (h.el r hm x hx).kept (.of_grown hg fun g e => (hr g e).2.1), h.sep, h.nbt, fun g hF => ⟨(h.ltF g hF).1, Nat.lt_of_lt_of_le (h.ltF g hF).2 hg.size⟩⟩
  cases hb : r.v.ownBlock with
  | none => exact .inl rfl
  | some g => exact .inr fun e => (hr g e.symm).2.2 r (List.mem_of_getElem? hi) hb
theorem grown_of_below {w w' : World} (hb : Below w.heap.size w w') : w.grownBy w' none := ⟨hb.os, hb.tape, hb.output, hb.size, fun k hk _ => hb.block k hk⟩
theorem Fill.below {N bt : Nat} {F : Nat → Prop} {w w' : World} {rs : List (Sl Lp)} (h : Fill N bt F w rs) (hb : Below w.heap.size w w') : Fill N bt F w' rs := h.kept (grown_of_below hb) fun g e => by cases e
theorem Fill.moreF {N bt : Nat} {F G : Nat → Prop} {w : World} {rs : List (Sl Lp)} (h : Fill N bt F w rs) (hG : ∀ g, G g → N ≤ g ∧ g < w.heap.size ∧ g ≠ bt ∧ ∀ r ∈ rs, r.v.ownBlock ≠ some g) : Fill N bt (fun g => F g ∨ G g) w rs :=
  ⟨h.tab, h.own, h.dis, fun r hm x hx => (h.el r hm x hx).mono fun b hb => .inl hb, fun r hm g hg => ⟨fun e => e.elim (h.sep r hm g hg).1 fun e => (hG g e).2.2.2 r hm hg, (h.sep r hm g hg).2⟩, fun e => e.elim h.nbt fun e => (hG _ e).2.2.1 rfl, fun g e => e.elim (h.ltF g) fun e => ⟨(hG g e).1, (hG g e).2.1⟩⟩
theorem Fill.app {N bt : Nat} {F : Nat → Prop} {w w' : World} {rs : List (Sl Lp)} (h : Fill N bt F w rs) {k : Nat} {r : Sl Lp} {x : Lp} {v' : Value} (hk : rs[k]? = some r) (hg : w.grownBy w' r.v.ownBlock) (ho : w'.ownsRow N 45 4 v' (r.l ++ [x]).length (rcells Lp.enc (r.l ++ [x])))
    (hat : v'.ownBlock = r.v.ownBlock ∨ v'.ownBlock = some w.heap.size) (hx : x.inF F w) : ∃ r' : Sl Lp, v' = r'.v ∧ r'.l = r.l ++ [x] ∧ Fill N bt F (w'.setCell ⟨bt, k, none⟩ v') (rs.set k r') := by
  obtain ⟨r', hv, hl, -⟩ := own_lie Lp.enc_len ho rfl
  subst hv
  refine ⟨r', rfl, hl, ?_⟩
  rw [← hl] at ho
  have hmem := List.mem_of_getElem? hk
  have hkl : k < rs.length := (List.getElem?_eq_some_iff.1 hk).1
  have hbt : w'.heap[bt]? = some (.cells (rs.map Sl.v).toArray 37 (0, 0)) := (hg.block bt h.lt fun e => (h.sep r hmem bt e.symm).2 rfl).trans h.tab
  have get : ∀ (i : Nat) (x : Sl Lp), (rs.set k r')[i]? = some x → (i = k ∧ x = r') ∨ (i ≠ k ∧ rs[i]? = some x) := fun i x hx => by
    rw [List.getElem?_set] at hx
    by_cases hi : k = i
    · rw [if_pos hi, if_pos (hi ▸ hkl)] at hx
      exact .inl ⟨hi.symm, (Option.some.inj hx).symm⟩
    · rw [if_neg hi] at hx
      exact .inr ⟨fun e => hi e.symm, hx⟩
  have hne : ∀ (e kk n : Nat) (u : Value) (xs : List Value), w'.ownsRow N e kk u n xs → u.ownBlock ≠ some bt → (w'.setCell ⟨bt, k, none⟩ r'.v).ownsRow N e kk u n xs := fun e kk n u xs ho hne => ho.kept (grownBy_setCellAt w' bt k _) (.inr hne)
  have hnb : r'.v.ownBlock ≠ some bt := by
    rcases hat with e | e
    · rw [e]; exact fun e2 => (h.sep r hmem bt e2).2 rfl
    · rw [e]; exact fun e2 => by have := h.lt; have := Option.some.inj e2; omega
  have hkF : KeptF F w (w'.setCell ⟨bt, k, none⟩ r'.v) := (KeptF.of_grown hg fun g e => (h.sep r hmem g e).1).trans (.set h.nbt _)
  refine ⟨?_, fun i s hi => ?_, fun i j s t hij hs ht => ?_, fun s hs y hy => ?_, fun s hs g hsg => ?_, h.nbt, fun g hF => ⟨(h.ltF g hF).1, Nat.lt_of_lt_of_le (h.ltF g hF).2 hkF.size⟩⟩
  · rw [heap_setCell_same w' bt k _ 37 _ hbt]
    simp [List.map_set]
  · rcases get i s hi with ⟨rfl, rfl⟩ | ⟨hi, hs⟩
    · exact hne _ _ _ _ _ ho hnb
    · refine hne _ _ _ _ _ ((h.own i s hs).kept hg (h.dis i k s r hi hs hk)) fun e => (h.sep s (List.mem_of_getElem? hs) bt e).2 rfl
  · rcases get i s hs with ⟨e1, e2⟩ | ⟨hi, hs'⟩
    · rcases get j t ht with ⟨e3, e4⟩ | ⟨hj, ht'⟩
      · exact absurd (e1.trans e3.symm) hij
      · subst e1 e2
        rcases hat with e | e
        · rw [e]; exact h.dis _ j r t hij hk ht'
        · rw [e]; exact .inr fun e2 => by have := ((h.own j t ht').lt _ e2.symm).2; omega
    · rcases get j t ht with ⟨e3, e4⟩ | ⟨hj, ht'⟩
      · subst e3 e4
        rcases hat with e | e
        · rw [e]; exact h.dis i _ s r hij hs' hk
        · rw [e]; exact .inr fun e2 => by have := ((h.own i s hs').lt _ e2).2; omega
      · exact h.dis i j s t hij hs' ht'
  · rcases List.mem_or_eq_of_mem_set hs with hs | rfl
    · exact (h.el s hs y hy).kept hkF
    · rw [hl] at hy
      rcases List.mem_append.1 hy with hy | hy
      · exact (h.el r hmem y hy).kept hkF
      · obtain rfl : y = x := by simpa using hy
        exact hx.kept hkF
  · rcases List.mem_or_eq_of_mem_set hs with hs | rfl
    · exact h.sep s hs g hsg
    · rcases hat with e | e
      · exact h.sep r hmem g (e ▸ hsg)
      · rw [e] at hsg
        obtain rfl := Option.some.inj hsg
        exact ⟨fun hF => by have := (h.ltF _ hF).2; omega, fun e2 => by have := h.lt; omega⟩
/-- A table that lies in memory, what it holds in blocks of F. -/
structure Tbl (bt : Nat) (F : Nat → Prop) (w : World) (rs : List (Sl Lp)) : Prop where
  tab : w.heap[bt]? = some (.cells (rs.map Sl.v).toArray 37 (0, 0))
  row : ∀ r ∈ rs, r.inF Lp.enc F w
  el : ∀ r ∈ rs, ∀ x ∈ r.l, x.inF F w
  wf : ∀ r ∈ rs, r.l.length ≤ r.cap ∧ (r.ao = none → r.cap = 0) ∧ ∀ a, r.ao = some a → ∃ b, a = ⟨b, 0, none⟩
  nbt : ¬ F bt
theorem Tbl.lt {bt : Nat} {F : Nat → Prop} {w : World} {rs : List (Sl Lp)} (h : Tbl bt F w rs) : bt < w.heap.size := (Array.getElem?_eq_some_iff.1 h.tab).1
theorem Tbl.cell {bt : Nat} {F : Nat → Prop} {w : World} {rs : List (Sl Lp)} (h : Tbl bt F w rs) {k : Nat} {r : Sl Lp} (hr : rs[k]? = some r) : w.cell? ⟨bt, k, none⟩ = some r.v := by
  simp [World.cell?, h.tab, hr]
theorem Tbl.frozen {bt : Nat} {F : Nat → Prop} {w : World} {rs : List (Sl Lp)} (h : Tbl bt F w rs) (k : Nat) : w.frozen? ⟨bt, k, none⟩ = false := by
  simp [World.frozen?, h.tab]
theorem Tbl.kept {bt : Nat} {F : Nat → Prop} {w w' : World} {rs : List (Sl Lp)} (h : Tbl bt F w rs) (hk : KeptF F w w') (hb : w'.heap[bt]? = w.heap[bt]?) : Tbl bt F w' rs :=
  ⟨hb.trans h.tab, fun r hr => (h.row r hr).kept hk, fun r hr x hx => (h.el r hr x hx).kept hk, h.wf, h.nbt⟩
theorem Tbl.below {bt : Nat} {F : Nat → Prop} {w w' : World} {rs : List (Sl Lp)} (h : Tbl bt F w rs) (hb : Below w.heap.size w w') : Tbl bt F w' rs := h.kept (.of_below hb) (hb.block bt h.lt)
theorem Tbl.set {bt : Nat} {F : Nat → Prop} {w : World} {rs : List (Sl Lp)} (h : Tbl bt F w rs) {k : Nat} {r r' : Sl Lp} (hr : rs[k]? = some r) (h1 : r'.inF Lp.enc F w) (h2 : ∀ x ∈ r'.l, x.inF F w) (h3 : r'.l.length ≤ r'.cap ∧ (r'.ao = none → r'.cap = 0) ∧ ∀ a, r'.ao = some a → ∃ b, a = ⟨b, 0, none⟩) :
    Tbl bt F (w.setCell ⟨bt, k, none⟩ r'.v) (rs.set k r') := by
  have hk : KeptF F w (w.setCell ⟨bt, k, none⟩ r'.v) := .set h.nbt _
  refine ⟨?_, fun s hs => ?_, fun s hs x hx => ?_, fun s hs => ?_, h.nbt⟩
  · rw [heap_setCell_same w bt k _ 37 _ h.tab]
    simp [List.map_set]
  · rcases List.mem_or_eq_of_mem_set hs with hs | rfl
    · exact (h.row s hs).kept hk
    · exact h1.kept hk
  · rcases List.mem_or_eq_of_mem_set hs with hs | rfl
    · exact (h.el s hs x hx).kept hk
    · exact (h2 x hx).kept hk
  · rcases List.mem_or_eq_of_mem_set hs with hs | rfl
    · exact h.wf s hs
    · exact h3
def Tbl.t (bt : Nat) (rs : List (Sl Lp)) : Tb := ⟨some ⟨bt, 0, none⟩, rs, rs.length⟩
theorem Tbl.ok {bt : Nat} {F : Nat → Prop} {w : World} {rs : List (Sl Lp)} (h : Tbl bt F w rs) (c : Nat) (h6 : rs.length ≤ 100) (hl : ∀ r ∈ rs, r.l.length ≤ 100) : Tb.ok w.heap.size w ⟨some ⟨bt, 0, none⟩, rs, c⟩ := by
  refine ⟨.inr ⟨bt, 0, rfl, h.lt, fun j u hj => ?_⟩, fun r hr => ⟨(h.row r hr).lie, fun x hx => (h.el r hr x hx).ok, hl r hr⟩, h6⟩
  rw [rcells_row] at hj
  simp only at hj
  simpa [World.cell?, h.tab] using hj
theorem Fill.tbl {N bt : Nat} {F : Nat → Prop} {w : World} {rs : List (Sl Lp)} (h : Fill N bt F w rs) : Tbl bt (fun g => F g ∨ ∃ r ∈ rs, r.v.ownBlock = some g) w rs := by
  refine ⟨h.tab, fun r hr => ?_, fun r hr x hx => (h.el r hr x hx).mono fun b hb => .inl hb, fun r hr => ?_, fun e => e.elim h.nbt fun ⟨r, hr, e⟩ => (h.sep r hr bt e).2 rfl⟩
  · obtain ⟨i, hi⟩ := List.mem_iff_getElem?.1 hr
    exact (inF_of_own Lp.enc_len (h.own i r hi)).mono fun b hb => .inr ⟨r, hr, hb⟩
  · obtain ⟨i, hi⟩ := List.mem_iff_getElem?.1 hr
    obtain ⟨s', hv, hl, _, hc, hn, hbl⟩ := own_lie Lp.enc_len (h.own i r hi) rfl
    obtain ⟨a, l, c⟩ := r
    obtain ⟨a', l', c'⟩ := s'
    simp only [Sl.v, Value.slice.injEq] at hv hl hc hn hbl ⊢
    obtain ⟨rfl, _, rfl⟩ := hv
    exact ⟨hc, hn, fun a ha => (hbl a ha).imp fun b hb => hb.1⟩
end Go.Proofs.Ytgaofkbmnapogaa
