import Derived.Test.YtikdhdikaihenaaBehind
import Derived.Deep.RegionLaw
namespace Go.Proofs.Ytikdhdikaihenaa
open Go.RowKit Go.Sort

theorem run_append_nothing {P : Program} (w : World) (base : Nat) (t ty e : TypeId) (i : TypeInfo) (size : Nat) (ht : P.underlying t = some (.slice e)) (hi : P.info? e = some i)
    (v : Value) (n : Nat) (xs : List Value) (hown : w.ownsRow base e size v n xs) (c : Nat) :
    (Builtin.append_ #[t, t] ty #[v, .slice none 0 c]).run P w = .ok v w := by
  rcases hown.2 with ⟨rfl, rfl⟩ | ⟨g, cap, cur, rfl, _, _, hnc, _⟩
  · simp [Builtin.append_, run_underlying ht, sizeOf, typeInfo, hi, Builtin.lenOf, Builtin.firstCells]
  · simp [Builtin.append_, run_underlying ht, sizeOf, typeInfo, hi, Builtin.lenOf, Builtin.firstCells, hnc, storeCells]

/-- 'append' of a list of passes that lies anywhere, to one of the call's own. -/
theorem run_append_lie (w : World) (B ty : Nat) (v : Value) (n : Nat) (xs : List Ps) (hown : w.ownsRow B 33 4 v n (cellsOf xs)) (ao : Option Addr) (m c : Nat) (ps : List Ps) (hm : m = ps.length) (hl : Lie w ao ps)
    (h1 : n + m ≤ 1000000) (hbase : B ≤ w.heap.size) :
    ∃ v' w', (Builtin.append_ #[23, 23] ty #[v, .slice ao m c]).run Try.prog w = .ok v' w' ∧ w'.ownsRow B 33 4 v' (n + m) (cellsOf (xs ++ ps)) ∧ w.grownBy w' v.ownBlock := by
  obtain ⟨i0, hi, hz0, hz1, hz2⟩ := info_parts info33
  rw [cellsOf_append]
  cases ao with
  | none =>
    have hp : ps = [] := by
      rcases hl with h | ⟨b, o, h, _⟩
      · exact h
      · cases h
    subst hp
    simp at hm; subst hm
    exact ⟨v, w, run_append_nothing w B 23 ty 33 i0 4 Try.underlying23 hi v n _ hown c, by simpa [cellsOf] using hown, World.grownBy.refl _ _⟩
  | some ad =>
    obtain ⟨v', w', g1, g2, g3, _⟩ := run_append_own (P := Try.prog) w B 23 ty 33 i0 zero33 4 24 Try.underlying23 hi hz0 hz1 hz2 rfl (by decide) v n (cellsOf xs) hown ad m c (cellsOf ps) (by rw [cellsOf_length, hm]) (hl.cells ad rfl) (cellsOf_one ps)
      (by unfold maxLen; omega) (by omega) hbase
    exact ⟨v', w', g1, g2, g3⟩

theorem step_append_lie {ops : Array Oper} {o : Oper} {a : Act} {w : World} {K : Act → World → Prop} {Q : Exit → Act → World → Prop} {E : Prop}
    (hg : o.guard = none) (s x : Operand) (hop : o.op = Op.call { callee := Callee.builtin Builtin.append, args := #[s, x], argTypes := #[23, 23] })
    (B : Nat) (v : Value) (n : Nat) (xs : List Ps) (hs : a.eval s = v) (hown : w.ownsRow B 33 4 v n (cellsOf xs)) (ao : Option Addr) (m c : Nat) (hx : a.eval x = .slice ao m c) (ps : List Ps) (hm : m = ps.length) (hl : Lie w ao ps)
    (h1 : n + m ≤ 1000000) (hbase : B ≤ w.heap.size)
    (hK : ∀ v' w', w'.ownsRow B 33 4 v' (n + m) (cellsOf (xs ++ ps)) → w.grownBy w' v.ownBlock → K (a.put o.dst v') w') :
    if Region.wanted o (yielded ops a.tmps) = true then Oper.wp Try.prog o a w K Q else E := by
  have hw : Region.wanted o (yielded ops a.tmps) = true := by simp [Region.wanted, hg]
  rw [if_pos hw]
  obtain ⟨v', w', hr, h2, h3⟩ := run_append_lie w B o.type v n xs hown ao m c ps hm hl h1 hbase
  unfold Oper.wp execOp
  simp only [hop, resolve, invoke, builtin, Sem.run_bind, Sem.run_pure, Result.andThen_ok, List.map_toArray, List.map_cons, List.map_nil, hs, hx, hr]
  exact hK v' w' h2 h3

theorem wpList_append_lie {ops : Array Oper} {rest : List Oper} {o : Oper} {a : Act} {w : World} {Q : Exit → Act → World → Prop}
    (hg : o.guard = none) (s x : Operand) (hop : o.op = Op.call { callee := Callee.builtin Builtin.append, args := #[s, x], argTypes := #[23, 23] })
    (B : Nat) (v : Value) (n : Nat) (xs : List Ps) (hs : a.eval s = v) (hown : w.ownsRow B 33 4 v n (cellsOf xs)) (ao : Option Addr) (m c : Nat) (hx : a.eval x = .slice ao m c) (ps : List Ps) (hm : m = ps.length) (hl : Lie w ao ps)
    (h1 : n + m ≤ 1000000) (hbase : B ≤ w.heap.size)
    (hK : ∀ v' w', w'.ownsRow B 33 4 v' (n + m) (cellsOf (xs ++ ps)) → w.grownBy w' v.ownBlock → wpList Try.prog ops Q rest (a.put o.dst v') w') :
    wpList Try.prog ops Q (o :: rest) a w := by
  refine wpList_plain hg fun K hK' => ?_
  obtain ⟨v', w', hr, h2, h3⟩ := run_append_lie w B o.type v n xs hown ao m c ps hm hl h1 hbase
  unfold Oper.wp execOp
  simp only [hop, resolve, invoke, builtin, Sem.run_bind, Sem.run_pure, Result.andThen_ok, List.map_toArray, List.map_cons, List.map_nil, hs, hx, hr]
  exact hK' _ _ (hK v' w' h2 h3)

theorem lie_drop {w : World} {b o k cap : Nat} {s : List Ps} (h : Lie w (some ⟨b, o, none⟩) s) (hc : s.length ≤ cap) {ao : Option Addr} (hao : ¬ cap = k → ao = some ⟨b, o + k * 4, none⟩) : Lie w ao (s.drop k) := by
  by_cases hk : k < s.length
  · rw [hao (by omega)]
    rcases h with rfl | ⟨b', o', h1, h2, h3⟩
    · simp at hk
    · obtain ⟨rfl, rfl⟩ : b = b' ∧ o = o' := by simpa using h1
      refine .inr ⟨b, o + k * 4, rfl, h2, fun i p hp => ?_⟩
      rw [List.getElem?_drop] at hp
      have := h3 _ p hp
      rw [show o + k * 4 + i * 4 = o + (k + i) * 4 by omega]
      exact this
  · rw [List.drop_of_length_le (by omega)]; exact Lie.nil _ _
theorem lie_take {w : World} {ao : Option Addr} {s : List Ps} (h : Lie w ao s) (k : Nat) : Lie w ao (s.take k) := by
  rcases h with rfl | ⟨b, o, h1, h2, h3⟩
  · simp; exact Lie.nil _ _
  · refine .inr ⟨b, o, h1, h2, fun i p hp => h3 i p ?_⟩
    rw [List.getElem?_take] at hp
    split at hp
    · exact hp
    · cases hp
/-- What lies in old memory lies there still, behind an append to a row of one's own. -/
theorem Lie.grown {w w' : World} {ao : Option Addr} {ps : List Ps} {r : Option Nat} (h : Lie w ao ps) (hg : w.grownBy w' r) (hr : ∀ b o, ao = some ⟨b, o, none⟩ → some b ≠ r) : Lie w' ao ps := by
  rcases h with h | ⟨b, o, h1, h2, h3⟩
  · exact .inl h
  · refine .inr ⟨b, o, h1, Nat.lt_of_lt_of_le h2 hg.size, fun i p hp => ?_⟩
    obtain ⟨c0, c1, c2, c3⟩ := h3 i p hp
    have hb := hr b o h1
    exact ⟨hg.cell c0 hb, hg.cell c1 hb, hg.cell c2 hb, hg.cell c3 hb⟩

end Go.Proofs.Ytikdhdikaihenaa
