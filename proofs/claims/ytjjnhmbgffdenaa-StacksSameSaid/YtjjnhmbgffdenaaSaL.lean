import Derived.Test.YtjjnhmbgffdenaaBedsC
import Derived.Deep.DeepAppendRoom
namespace Go.Proofs.Ytjjnhmbgffdenaa
open Go.RowKit Go.Sort

/-- 'append' of a stack to a row that came from elsewhere and is full: a row of one's own. -/
theorem run_app_first (w : World) (ty M : Nat) (d : Bed) (hd : d.ok w.heap.size w) (hcap : d.cap = d.cs.length) (hM : M ≤ w.heap.size) (x : Cel) (bx : Nat) (hx : w.cell? ⟨bx, 0, none⟩ = some x.v) :
    ∃ v' w', (Builtin.append_ #[33, 33] ty #[d.v, .slice (some ⟨bx, 0, none⟩) 1 1]).run Try.prog w = .ok v' w' ∧ w'.ownsRow M 29 1 v' (d.cs.length + 1) ((d.cs ++ [x]).map Cel.v) ∧ Below w.heap.size w w' := by
  obtain ⟨i0, hi, hz0, hz1, hz2⟩ := info_parts info29
  obtain ⟨ao, cs, cap⟩ := d
  simp only at hcap
  subst hcap
  have hlen : cs.length ≤ 100 := hd.1
  have hnew : ∀ (j : Nat) (u : Value), ([x.v])[j]? = some u → w.cell? ((⟨bx, 0, none⟩ : Addr).add j) = some u := by
    intro j u hj
    match j, hj with
    | 0, hj => simp at hj; subst hj; exact hx
    | j + 1, hj => simp at hj
  cases ao with
  | none =>
    obtain rfl : cs = [] := by
      rcases hd.2.2 with h | ⟨b, o, h, _⟩
      · exact h
      · cases h
    obtain ⟨v', w', g1, g2, g3, _⟩ := run_append_own (P := Try.prog) w M 33 ty 29 i0 (.slice none 0 0) 1 24 Try.underlying33 hi hz0 hz1 hz2 rfl (by decide) (.slice none 0 0) 0 [] (World.ownsRow_nil _ _ _ _) ⟨bx, 0, none⟩ 1 1 [x.v] (by simp) hnew (by simp [Cel.v, Value.oneCell'])
      (by unfold maxLen; omega) (by omega) hM
    exact ⟨v', w', g1, by simpa using g2, (Below.refl _ _).grown g3 (Nat.le_refl _) (fun r e => by cases e)⟩
  | some ad =>
    have hr := run_append_grow (P := Try.prog) w 33 ty 29 i0 (.slice none 0 0) Try.underlying33 hi hz0 ad cs.length cs.length (cs.map Cel.v) (by simp [hz1]) (hd.cells ad rfl) ⟨bx, 0, none⟩ 1 1 [x.v] (by simp [hz1]) hnew (by omega) (by omega) (growslice_fits (by omega) (by rw [hz2]; omega))
    have hge := grownCap_ge w (cs.length + 1) cs.length 29
    have hle := grownCap_le_maxLen w (cs.length + 1) cs.length 29 (by unfold maxLen; omega)
    refine ⟨_, _, hr, ⟨by simp, .inr ⟨w.heap.size, _, _, rfl, hM, heap_alloc_new _ _, hge, hle, ?_, ?_⟩⟩, ((Below.refl _ w).drew).alloc (Nat.le_refl _) _⟩
    · simp only [Array.size_append, size_zeroCells, List.size_toArray, List.length_map, List.length_cons, List.length_nil]
      have : (Value.slice none 0 0).cells.size = 1 := rfl
      rw [this]; omega
    · simp [List.take_append]
      exact List.take_of_length_le (by simp)
theorem run_app_own (w : World) (ty M : Nat) (v : Value) (cs : List Cel) (hown : w.ownsRow M 29 1 v cs.length (cs.map Cel.v)) (h100 : cs.length ≤ 100) (hM : M ≤ w.heap.size) (x : Cel) (bx : Nat) (hx : w.cell? ⟨bx, 0, none⟩ = some x.v) :
    ∃ v' w', (Builtin.append_ #[33, 33] ty #[v, .slice (some ⟨bx, 0, none⟩) 1 1]).run Try.prog w = .ok v' w' ∧ w'.ownsRow M 29 1 v' (cs.length + 1) ((cs ++ [x]).map Cel.v) ∧ w.grownBy w' v.ownBlock := by
  obtain ⟨i0, hi, hz0, hz1, hz2⟩ := info_parts info29
  have hnew : ∀ (j : Nat) (u : Value), ([x.v])[j]? = some u → w.cell? ((⟨bx, 0, none⟩ : Addr).add j) = some u := by
    intro j u hj
    match j, hj with
    | 0, hj => simp at hj; subst hj; exact hx
    | j + 1, hj => simp at hj
  obtain ⟨v', w', g1, g2, g3, _⟩ := run_append_own (P := Try.prog) w M 33 ty 29 i0 (.slice none 0 0) 1 24 Try.underlying33 hi hz0 hz1 hz2 rfl (by decide) v cs.length (cs.map Cel.v) hown ⟨bx, 0, none⟩ 1 1 [x.v] (by simp) hnew (by simp [Cel.v, Value.oneCell'])
    (by unfold maxLen; omega) (by omega) hM
  exact ⟨v', w', g1, by simpa using g2, g3⟩
/-- A row of stacks of one's own is a bed. -/
theorem bed_of_owns {w : World} {M : Nat} {v : Value} {cs : List Cel} (h : w.ownsRow M 29 1 v cs.length (cs.map Cel.v)) (hok : ∀ c ∈ cs, c.ok w.heap.size w) (h100 : cs.length ≤ 100) : ∃ ao cap, v = .slice ao cs.length cap ∧ Bed.ok w.heap.size w ⟨ao, cs, cap⟩ := by
  rcases h.2 with ⟨rfl, h0⟩ | ⟨g, cap, cur, rfl, hM, hg, hn, hm, hs, ht⟩
  · obtain rfl : cs = [] := List.eq_nil_of_length_eq_zero h0
    exact ⟨none, 0, rfl, ⟨by simp, by simp, .inl rfl⟩⟩
  · refine ⟨some ⟨g, 0, none⟩, cap, rfl, ⟨h100, hok, .inr ⟨g, 0, rfl, (Array.getElem?_eq_some_iff.1 hg).1, fun i c hc => ?_⟩⟩⟩
    have hi := (List.getElem?_eq_some_iff.1 hc).1
    simp only at hc hi
    rw [Nat.zero_add, cell_of_row w g i cur 29 (0, 0) hg]
    have h1 : (cs.map Cel.v)[i]? = some c.v := by rw [List.getElem?_map, hc]; rfl
    rw [← ht, List.getElem?_take, if_pos (by omega)] at h1
    simpa using h1
section
variable {w : World} {ops : Array Oper} {rest : List Oper} {o : Oper} {a : Act} {Q : Exit → Act → World → Prop}
theorem wpList_app_first {s t : Tmp} {M bx : Nat} {d : Bed} {x : Cel} (hg0 : o.guard = none) (hop : o.op = Op.call { callee := Callee.builtin Builtin.append, args := #[.tmp s, .tmp t], argTypes := #[33, 33] }) (hs : a.eval (.tmp s) = d.v) (ht : a.eval (.tmp t) = .slice (some ⟨bx, 0, none⟩) 1 1)
    (hd : d.ok w.heap.size w) (hcap : d.cap = d.cs.length) (hM : M ≤ w.heap.size) (hx : w.cell? ⟨bx, 0, none⟩ = some x.v) (hK : ∀ v' w', w'.ownsRow M 29 1 v' (d.cs.length + 1) ((d.cs ++ [x]).map Cel.v) → Below w.heap.size w w' → wpList Try.prog ops Q rest (a.put o.dst v') w') : wpList Try.prog ops Q (o :: rest) a w := by
  refine wpList_plain hg0 fun K' hK' => ?_
  obtain ⟨v', w', hr, h1, h2⟩ := run_app_first w o.type M d hd hcap hM x bx hx
  unfold Oper.wp execOp
  simp only [hop, resolve, invoke, builtin, Sem.run_bind, Sem.run_pure, Result.andThen_ok, List.map_toArray, List.map_cons, List.map_nil, hs, ht, hr]
  exact hK' _ _ (hK v' w' h1 h2)
theorem wpList_app_own {s t : Tmp} {M bx : Nat} {v : Value} {cs : List Cel} {x : Cel} (hg0 : o.guard = none) (hop : o.op = Op.call { callee := Callee.builtin Builtin.append, args := #[.tmp s, .tmp t], argTypes := #[33, 33] }) (hs : a.eval (.tmp s) = v) (ht : a.eval (.tmp t) = .slice (some ⟨bx, 0, none⟩) 1 1)
    (hown : w.ownsRow M 29 1 v cs.length (cs.map Cel.v)) (h100 : cs.length ≤ 100) (hM : M ≤ w.heap.size) (hx : w.cell? ⟨bx, 0, none⟩ = some x.v) (hK : ∀ v' w', w'.ownsRow M 29 1 v' (cs.length + 1) ((cs ++ [x]).map Cel.v) → w.grownBy w' v.ownBlock → wpList Try.prog ops Q rest (a.put o.dst v') w') : wpList Try.prog ops Q (o :: rest) a w := by
  refine wpList_plain hg0 fun K' hK' => ?_
  obtain ⟨v', w', hr, h1, h2⟩ := run_app_own w o.type M v cs hown h100 hM x bx hx
  unfold Oper.wp execOp
  simp only [hop, resolve, invoke, builtin, Sem.run_bind, Sem.run_pure, Result.andThen_ok, List.map_toArray, List.map_cons, List.map_nil, hs, ht, hr]
  exact hK' _ _ (hK v' w' h1 h2)
end

/-- 'append' of a stack, all of it, to a row made with room: in place. -/
theorem run_append_room (w : World) (ty N g n : Nat) (hown : w.ownsRow N 28 2 (.slice (some ⟨g, 0, none⟩) 0 n) 0 (cellsOf [])) (c : Cel) (hl : c.ok w.heap.size w) (hn : c.l.length ≤ n) :
    ∃ w', (Builtin.append_ #[29, 29] ty #[.slice (some ⟨g, 0, none⟩) 0 n, c.v]).run Try.prog w = .ok (.slice (some ⟨g, 0, none⟩) c.l.length n) w' ∧ w'.ownsRow N 28 2 (.slice (some ⟨g, 0, none⟩) c.l.length n) c.l.length (cellsOf c.l) ∧ w.grownBy w' (some g) := by
  obtain ⟨i0, hi, hz0, hz1, hz2⟩ := info_parts info28
  obtain ⟨ao, l, cap⟩ := c
  cases ao with
  | none =>
    obtain rfl : l = [] := by
      rcases hl.2 with h | ⟨b, o, h, _⟩
      · exact h
      · cases h
    exact ⟨w, run_append_nothing w N 29 ty 28 i0 2 Try.underlying29 hi _ 0 _ hown cap, hown, World.grownBy.refl _ _⟩
  | some ad =>
    obtain ⟨w', g1, g2, g3⟩ := run_append_own_spare (P := Try.prog) w N 29 ty 28 i0 2 Try.underlying29 hi hz1 g 0 n (cellsOf []) hown ad l.length cap (cellsOf l) (by rw [cellsOf_length]) (hl.cells ad rfl) (cellsOf_one l) (by simp only at hn; omega)
    rw [← cellsOf_append] at g2
    refine ⟨w', by simpa [Cel.v] using g1, by simpa using g2, g3⟩
theorem step_append_room {o : Oper} {a : Act} {w : World} {K : Act → World → Prop} {Q : Exit → Act → World → Prop} {s t : Tmp} {N g n : Nat} (hop : o.op = Op.call { callee := Callee.builtin Builtin.append, args := #[.tmp s, .tmp t], argTypes := #[29, 29] }) (hs : a.eval (.tmp s) = .slice (some ⟨g, 0, none⟩) 0 n)
    (hown : w.ownsRow N 28 2 (.slice (some ⟨g, 0, none⟩) 0 n) 0 (cellsOf [])) (c : Cel) (hx : a.eval (.tmp t) = c.v) (hl : c.ok w.heap.size w) (hn : c.l.length = n)
    (hK : ∀ (c' : Cel) (w' : World), c'.l = c.l → c'.cap = c'.l.length → c'.ok w'.heap.size w' → w.grownBy w' (some g) → K (a.put o.dst c'.v) w') : o.wp Try.prog a w K Q := by
  obtain ⟨w', hr, h1, h2⟩ := run_append_room w o.type N g n hown c hl (by omega)
  obtain ⟨c', h3, h4, h5, h6⟩ := ok_of_owns h1 (by have := hl.1; omega)
  have hcap : c'.cap = c'.l.length := by
    obtain ⟨a', l', cap'⟩ := c'
    simp only [Cel.v, Value.slice.injEq] at h3
    simp only at h4 ⊢
    rw [h4, hn]; exact h3.2.2.symm
  unfold Oper.wp execOp
  simp only [hop, resolve, invoke, builtin, Sem.run_bind, Sem.run_pure, Result.andThen_ok, List.map_toArray, List.map_cons, List.map_nil, hs, hx, hr]
  rw [h3]
  exact hK c' w' h4 hcap h6 h2
end Go.Proofs.Ytjjnhmbgffdenaa
namespace Go.Proofs.Ytjjnhmbgffdenaa
open Go.RowKit Go.Sort

/-- Four beds that are there before the rounds, and two boxes that hold beds. -/
structure SaO (M bA bB : Nat) (f g p q : Bed) (w : World) : Prop where
  hA : bA < M
  hB : bB < M
  ne : bA ≠ bB
  hM : M ≤ w.heap.size
  kf : f.ok M w
  kg : g.ok M w
  kp : p.ok M w
  kq : q.ok M w
  tf : TyB w f
  tg : TyB w g
  tp : TyB w p
  tq : TyB w q
theorem TyB.grown {w w' : World} {d : Bed} {r : Option Nat} {M : Nat} (h : TyB w d) (hd : d.ok M w) (hg : w.grownBy w' r) (hr : ∀ b, r = some b → M ≤ b) : TyB w' d := by
  refine h.kept hg fun x o e hz hx => ?_
  rcases hd.2.2 with h0 | ⟨b, o', e', hl, _⟩
  · exact hz h0
  · rw [e] at e'
    simp only [Option.some.injEq, Addr.mk.injEq, and_true] at e'
    have := hr x hx.symm
    omega
variable {M bA bB : Nat} {f g p q : Bed} {w w' : World}
theorem SaO.grown (h : SaO M bA bB f g p q w) {r : Option Nat} (hg : w.grownBy w' r) (hr : ∀ b, r = some b → M ≤ b) : SaO M bA bB f g p q w' := by
  have hb : Below M w w' := (Below.refl _ _).grown hg h.hM hr
  exact ⟨h.hA, h.hB, h.ne, Nat.le_trans h.hM hb.size, h.kf.below hb, h.kg.below hb, h.kp.below hb, h.kq.below hb, h.tf.grown h.kf hg hr, h.tg.grown h.kg hg hr, h.tp.grown h.kp hg hr, h.tq.grown h.kq hg hr⟩
theorem SaO.below (h : SaO M bA bB f g p q w) (hb0 : Below w.heap.size w w') : SaO M bA bB f g p q w' := by
  have hb : Below M w w' := hb0.mono h.hM
  exact ⟨h.hA, h.hB, h.ne, Nat.le_trans h.hM hb.size, h.kf.below hb, h.kg.below hb, h.kp.below hb, h.kq.below hb, h.tf.below hb0, h.tg.below hb0, h.tp.below hb0, h.tq.below hb0⟩
theorem SaO.set (h : SaO M bA bB f g p q w) {B : Nat} {u v : Value} (hx : Boxed2 w B 35 u v) (hu : IsSl u) (hv : IsSl v) (k : Nat) (x : Value) : SaO M bA bB f g p q (w.setCell ⟨B, k, none⟩ x) := by
  have hne : ∀ {d : Bed}, TyB w d → ∀ x o, d.ao = some ⟨x, o, none⟩ → d.cs ≠ [] → x ≠ B := fun ht => ht.ne hx
  have hk : ∀ {d : Bed}, TyB w d → TyB (w.setCell ⟨B, k, none⟩ x) d := fun ht => ht.kept (grownBy_setCellAt w B k x) fun y o e hz hy => hne ht y o e hz (by simpa using hy)
  exact ⟨h.hA, h.hB, h.ne, by rw [World.size_setCell]; exact h.hM, h.kf.set_box' hx hu hv (hne h.tf) k x, h.kg.set_box' hx hu hv (hne h.tg) k x, h.kp.set_box' hx hu hv (hne h.tp) k x, h.kq.set_box' hx hu hv (hne h.tq) k x, hk h.tf, hk h.tg, hk h.tp, hk h.tq⟩
/-- A row after k rounds: the bed's own, full; or a row that was made, with es behind the bed's. -/
def RowAt2 (M : Nat) (d : Bed) (es : List Cel) (v : Value) (w : World) : Prop := (es = [] ∧ v = d.v) ∨ (es ≠ [] ∧ w.ownsRow M 29 1 v (d.cs ++ es).length ((d.cs ++ es).map Cel.v))
theorem own_ne {v : Value} {n e z B : Nat} {xs : List Value} (h : w.ownsRow M e z v n xs) (hB : B < M) : v.ownBlock = none ∨ v.ownBlock ≠ some B := by
  refine .inr fun hb => ?_
  have := (h.lt B hb).1
  omega
theorem own_set {v : Value} {n e z B k : Nat} {xs : List Value} {x : Value} (h : w.ownsRow M e z v n xs) (hB : B < M) : (w.setCell ⟨B, k, none⟩ x).ownsRow M e z v n xs :=
  h.kept (grownBy_setCellAt w B k x) (own_ne h hB)
theorem RowAt2.kept {d : Bed} {es : List Cel} {v : Value} {r : Option Nat} (h : RowAt2 M d es v w) (hg : w.grownBy w' r) (hne : v.ownBlock = none ∨ v.ownBlock ≠ r) : RowAt2 M d es v w' := by
  rcases h with h | h
  · exact .inl h
  · exact .inr ⟨h.1, h.2.kept hg hne⟩

/-- 'append' of a stack to a row after k rounds: in the row that was made, or in a new one. -/
theorem run_app_any (w : World) (ty M : Nat) (d : Bed) (es : List Cel) (v : Value) (h : RowAt2 M d es v w) (hd : d.ok M w) (hcap : d.cap = d.cs.length) (h100 : (d.cs ++ es).length ≤ 100) (hM : M ≤ w.heap.size) (x : Cel) (bx : Nat) (hx : w.cell? ⟨bx, 0, none⟩ = some x.v) :
    ∃ v' w' r, (Builtin.append_ #[33, 33] ty #[v, .slice (some ⟨bx, 0, none⟩) 1 1]).run Try.prog w = .ok v' w' ∧ w'.ownsRow M 29 1 v' (d.cs ++ (es ++ [x])).length ((d.cs ++ (es ++ [x])).map Cel.v) ∧ w.grownBy w' r ∧ (∀ b, r = some b → M ≤ b) ∧
      ((∃ b, v'.ownBlock = some b ∧ w.heap.size ≤ b) ∨ (v'.ownBlock = v.ownBlock ∧ es ≠ [] ∧ w.ownsRow M 29 1 v (d.cs ++ es).length ((d.cs ++ es).map Cel.v))) ∧ (r = none ∨ (r = v.ownBlock ∧ es ≠ [] ∧ w.ownsRow M 29 1 v (d.cs ++ es).length ((d.cs ++ es).map Cel.v))) := by
  rcases h with ⟨rfl, rfl⟩ | ⟨hes, h⟩
  · obtain ⟨v', w', h1, h2, h3⟩ := run_app_first w ty w.heap.size d (hd.mono hM) hcap (Nat.le_refl _) x bx hx
    have hb : v'.ownBlock = none ∨ ∃ b, v'.ownBlock = some b := by cases v'.ownBlock <;> simp
    have h2' : w'.ownsRow M 29 1 v' (d.cs ++ ([] ++ [x])).length ((d.cs ++ ([] ++ [x])).map Cel.v) := by
      have e : (d.cs ++ ([] ++ [x])).length = d.cs.length + 1 := by simp
      rw [e, List.nil_append]
      refine ⟨h2.1, ?_⟩
      rcases h2.2 with h | ⟨g, cap, cur, k1, k2, k3⟩
      · exact .inl h
      · exact .inr ⟨g, cap, cur, k1, Nat.le_trans hM k2, k3⟩
    have hg : w.grownBy w' none := ⟨h3.os, h3.tape, h3.output, h3.size, fun k hk _ => h3.block k hk⟩
    refine ⟨v', w', none, h1, h2', hg, (fun b e => by cases e), .inl ?_, .inl rfl⟩
    rcases h2.2 with h | ⟨g, cap, cur, k1, k2, k3⟩
    · exact absurd h.2 (by omega)
    · exact ⟨g, by rw [k1]; rfl, k2⟩
  · obtain ⟨i0, hi, hz0, hz1, hz2⟩ := info_parts info29
    have hnew : ∀ (j : Nat) (u : Value), ([x.v])[j]? = some u → w.cell? ((⟨bx, 0, none⟩ : Addr).add j) = some u := by
      intro j u hj
      match j, hj with
      | 0, hj => simp at hj; subst hj; exact hx
      | j + 1, hj => simp at hj
    obtain ⟨v', w', g1, g2, g3, _, g5⟩ := run_append_own_at (P := Try.prog) w M 33 ty 29 i0 (.slice none 0 0) 1 24 Try.underlying33 hi hz0 hz1 hz2 rfl (by decide) v (d.cs ++ es).length ((d.cs ++ es).map Cel.v) h ⟨bx, 0, none⟩ 1 1 [x.v] (by simp) hnew (by simp [Cel.v, Value.oneCell'])
      (by unfold maxLen; omega) (by omega) hM
    refine ⟨v', w', v.ownBlock, g1, ?_, g3, fun b e => (h.lt b e).1, (g5.elim (fun e => .inr ⟨e, hes, h⟩) fun e => .inl ⟨_, e, Nat.le_refl _⟩), .inr ⟨rfl, hes, h⟩⟩
    have e1 : d.cs ++ (es ++ [x]) = (d.cs ++ es) ++ [x] := by simp
    rw [e1, List.length_append, List.map_append]
    exact g2

theorem wpList_app_any {ops : Array Oper} {rest : List Oper} {o : Oper} {a : Act} {Q : Exit → Act → World → Prop} {s t : Tmp} {M bx : Nat} {d : Bed} {es : List Cel} {v : Value} {x : Cel} (hg0 : o.guard = none) (hop : o.op = Op.call { callee := Callee.builtin Builtin.append, args := #[.tmp s, .tmp t], argTypes := #[33, 33] }) (hs : a.eval (.tmp s) = v) (ht : a.eval (.tmp t) = .slice (some ⟨bx, 0, none⟩) 1 1)
    (h : RowAt2 M d es v w) (hd : d.ok M w) (hcap : d.cap = d.cs.length) (h100 : (d.cs ++ es).length ≤ 100) (hM : M ≤ w.heap.size) (hx : w.cell? ⟨bx, 0, none⟩ = some x.v)
    (hK : ∀ v' w' r, w'.ownsRow M 29 1 v' (d.cs ++ (es ++ [x])).length ((d.cs ++ (es ++ [x])).map Cel.v) → w.grownBy w' r → (∀ b, r = some b → M ≤ b) →
      ((∃ b, v'.ownBlock = some b ∧ w.heap.size ≤ b) ∨ (v'.ownBlock = v.ownBlock ∧ es ≠ [] ∧ w.ownsRow M 29 1 v (d.cs ++ es).length ((d.cs ++ es).map Cel.v))) → (r = none ∨ (r = v.ownBlock ∧ es ≠ [] ∧ w.ownsRow M 29 1 v (d.cs ++ es).length ((d.cs ++ es).map Cel.v))) → wpList Try.prog ops Q rest (a.put o.dst v') w') : wpList Try.prog ops Q (o :: rest) a w := by
  refine wpList_plain hg0 fun K' hK' => ?_
  obtain ⟨v', w', r, hr, h1, h2, h3, h4, h5⟩ := run_app_any w o.type M d es v h hd hcap h100 hM x bx hx
  unfold Oper.wp execOp
  simp only [hop, resolve, invoke, builtin, Sem.run_bind, Sem.run_pure, Result.andThen_ok, List.map_toArray, List.map_cons, List.map_nil, hs, ht, hr]
  exact hK' _ _ (hK v' w' r h1 h2 h3 h4 h5)
theorem RowAt2.sl {d : Bed} {es : List Cel} {v : Value} (h : RowAt2 M d es v w) : IsSl v := by
  rcases h with ⟨_, rfl⟩ | ⟨_, h⟩
  · exact isSl_mk _ _ _
  · rcases h.2 with ⟨rfl, _⟩ | ⟨g, cap, cur, rfl, _⟩
    · exact isSl_mk _ _ _
    · exact isSl_mk _ _ _
/-- Two boxes with beds; the first's front row has fs behind it, the second's back row es. -/
structure SaR (M bA bB : Nat) (f g p q : Bed) (fs es : List Cel) (vF vB : Value) (w : World) : Prop where
  o : SaO M bA bB f g p q w
  a : Boxed2 w bA 35 vF g.v
  b : Boxed2 w bB 35 p.v vB
  rF : RowAt2 M f fs vF w
  rB : RowAt2 M q es vB w
  sep : fs = [] ∨ es = [] ∨ vF.ownBlock = none ∨ vF.ownBlock ≠ vB.ownBlock
theorem SaR.grown {fs es : List Cel} {vF vB : Value} {r : Option Nat} (h : SaR M bA bB f g p q fs es vF vB w) (hg : w.grownBy w' r) (hr : ∀ b, r = some b → M ≤ b) (hF : vF.ownBlock = none ∨ vF.ownBlock ≠ r) (hB : vB.ownBlock = none ∨ vB.ownBlock ≠ r) : SaR M bA bB f g p q fs es vF vB w' :=
  ⟨h.o.grown hg hr, h.a.kept hg (fun e => by have := hr bA e.symm; have := h.o.hA; omega), h.b.kept hg (fun e => by have := hr bB e.symm; have := h.o.hB; omega), h.rF.kept hg hF, h.rB.kept hg hB, h.sep⟩
theorem none_or (x : Option Nat) : x = none ∨ x ≠ none := by cases x <;> simp
theorem SaR.alloc {fs es : List Cel} {vF vB : Value} (h : SaR M bA bB f g p q fs es vF vB w) (o : Obj) : SaR M bA bB f g p q fs es vF vB (w.alloc o) :=
  h.grown (World.grownBy_alloc w o none) (fun _ e => by cases e) (none_or _) (none_or _)
theorem RowAt2.set {d : Bed} {es : List Cel} {v : Value} {B k : Nat} {x : Value} (h : RowAt2 M d es v w) (hB : B < M) : RowAt2 M d es v (w.setCell ⟨B, k, none⟩ x) := by
  rcases h with h | h
  · exact .inl h
  · exact .inr ⟨h.1, own_set h.2 hB⟩
theorem SaR.stepF {fs es : List Cel} {x : Cel} {vF vB v' : Value} {r : Option Nat} (h : SaR M bA bB f g p q fs es vF vB w) (h1 : w'.ownsRow M 29 1 v' (f.cs ++ (fs ++ [x])).length ((f.cs ++ (fs ++ [x])).map Cel.v)) (hg : w.grownBy w' r) (hr : ∀ b, r = some b → M ≤ b)
    (h4 : (∃ b, v'.ownBlock = some b ∧ w.heap.size ≤ b) ∨ (v'.ownBlock = vF.ownBlock ∧ fs ≠ [] ∧ w.ownsRow M 29 1 vF (f.cs ++ fs).length ((f.cs ++ fs).map Cel.v))) (h5 : r = none ∨ (r = vF.ownBlock ∧ fs ≠ [] ∧ w.ownsRow M 29 1 vF (f.cs ++ fs).length ((f.cs ++ fs).map Cel.v))) :
    SaR M bA bB f g p q (fs ++ [x]) es v' vB (w'.setCell ⟨bA, 0, none⟩ v') := by
  have ha := h.a.kept hg (fun e => by have := hr bA e.symm; have := h.o.hA; omega)
  have hb := h.b.kept hg (fun e => by have := hr bB e.symm; have := h.o.hB; omega)
  have hB : RowAt2 M q es vB w' := by
    rcases h.rB with h0 | ⟨he, ho⟩
    · exact .inl h0
    · refine .inr ⟨he, ho.kept hg ?_⟩
      rcases h5 with rfl | ⟨rfl, hf, _⟩
      · exact none_or _
      · rcases h.sep with e | e | e | e
        · exact absurd e hf
        · exact absurd e he
        · rw [e]; exact none_or _
        · exact .inr (Ne.symm e)
  refine ⟨(h.o.grown hg hr).set ha h.rF.sl (isSl_mk _ _ _) 0 v', ha.set0 v', hb.other h.o.ne.symm, .inr ⟨by simp, own_set h1 h.o.hA⟩, hB.set h.o.hA, ?_⟩
  rcases h.rB with ⟨e, _⟩ | ⟨he, ho⟩
  · exact .inr (.inl e)
  · rcases h4 with ⟨b, e, hb⟩ | ⟨e, hf, _⟩
    · refine .inr (.inr (.inr fun e2 => ?_))
      have := (ho.lt b (by rw [← e2, e])).2
      omega
    · rcases h.sep with e' | e' | e' | e'
      · exact absurd e' hf
      · exact absurd e' he
      · exact .inr (.inr (.inl (by rw [e, e'])))
      · exact .inr (.inr (.inr (by rw [e]; exact e')))
theorem SaR.stepB {fs es : List Cel} {x : Cel} {vF vB v' : Value} {r : Option Nat} (h : SaR M bA bB f g p q fs es vF vB w) (h1 : w'.ownsRow M 29 1 v' (q.cs ++ (es ++ [x])).length ((q.cs ++ (es ++ [x])).map Cel.v)) (hg : w.grownBy w' r) (hr : ∀ b, r = some b → M ≤ b)
    (h4 : (∃ b, v'.ownBlock = some b ∧ w.heap.size ≤ b) ∨ (v'.ownBlock = vB.ownBlock ∧ es ≠ [] ∧ w.ownsRow M 29 1 vB (q.cs ++ es).length ((q.cs ++ es).map Cel.v))) (h5 : r = none ∨ (r = vB.ownBlock ∧ es ≠ [] ∧ w.ownsRow M 29 1 vB (q.cs ++ es).length ((q.cs ++ es).map Cel.v))) :
    SaR M bA bB f g p q fs (es ++ [x]) vF v' (w'.setCell ⟨bB, 1, none⟩ v') := by
  have ha := h.a.kept hg (fun e => by have := hr bA e.symm; have := h.o.hA; omega)
  have hb := h.b.kept hg (fun e => by have := hr bB e.symm; have := h.o.hB; omega)
  have hF : RowAt2 M f fs vF w' := by
    rcases h.rF with h0 | ⟨he, ho⟩
    · exact .inl h0
    · refine .inr ⟨he, ho.kept hg ?_⟩
      rcases h5 with rfl | ⟨rfl, hf, _⟩
      · exact none_or _
      · rcases h.sep with e | e | e | e
        · exact absurd e he
        · exact absurd e hf
        · exact .inl e
        · exact .inr e
  refine ⟨(h.o.grown hg hr).set hb (isSl_mk _ _ _) h.rB.sl 1 v', ha.other h.o.ne, hb.set1 v', hF.set h.o.hB, .inr ⟨by simp, own_set h1 h.o.hB⟩, ?_⟩
  rcases h.rF with ⟨e, _⟩ | ⟨he, ho⟩
  · exact .inl e
  · rcases h4 with ⟨b, e, hb⟩ | ⟨e, hf, _⟩
    · refine .inr (.inr (.inr fun e2 => ?_))
      have := (ho.lt b (by rw [e2, e])).2
      omega
    · rcases h.sep with e' | e' | e' | e'
      · exact absurd e' he
      · exact absurd e' hf
      · exact .inr (.inr (.inl e'))
      · exact .inr (.inr (.inr (by rw [e]; exact e')))
/-- The beds at the end. -/
theorem RowAt2.bed {d : Bed} {es : List Cel} {v : Value} (h : RowAt2 M d es v w) (hd : d.ok M w) (hM : M ≤ w.heap.size) (he : ∀ c ∈ es, c.l = []) (h100 : (d.cs ++ es).length ≤ 100) : ∃ ao cap, v = .slice ao (d.cs ++ es).length cap ∧ Bed.ok w.heap.size w ⟨ao, d.cs ++ es, cap⟩ := by
  rcases h with ⟨rfl, rfl⟩ | ⟨_, h⟩
  · exact ⟨d.ao, d.cap, by simp [Bed.v], by simpa using hd.mono hM⟩
  · refine bed_of_owns h (fun c hc => ?_) h100
    rcases List.mem_append.1 hc with hc | hc
    · exact (hd.2.1 c hc).mono hM
    · exact ⟨by rw [he c hc]; decide, .inl (he c hc)⟩
/-- Empty stacks behind a row read as none. -/
theorem Reads.more {T : List (List Nm)} {d : Bds} (h : Reads0 T d) (fs es : List Cel) (hf : ∀ c ∈ fs, c.l = []) (he : ∀ c ∈ es, c.l = []) (a b : Option Addr) (m n : Nat) : Reads0 T ⟨⟨a, d.f.cs ++ fs, m⟩, ⟨b, d.b.cs ++ es, n⟩⟩ := by
  have key : ∀ (cs xs : List Cel) (i : Nat), (∀ c ∈ xs, c.l = []) → ((cs ++ xs).getD i Cel.nil).l = (cs.getD i Cel.nil).l := by
    intro cs xs i hx
    simp only [List.getD_eq_getElem?_getD, List.getElem?_append]
    split
    · rfl
    · rename_i h
      rw [List.getElem?_eq_none (l := cs) (by omega)]
      cases h9 : xs[i - cs.length]? with
      | none => rfl
      | some c => exact hx c (List.mem_of_getElem? h9)
  refine ⟨h.len, fun k hk i => ?_⟩
  rw [← h.cel k hk i]
  unfold Bds.bed
  split
  · exact key _ _ _ hf
  · exact key _ _ _ he
end Go.Proofs.Ytjjnhmbgffdenaa
