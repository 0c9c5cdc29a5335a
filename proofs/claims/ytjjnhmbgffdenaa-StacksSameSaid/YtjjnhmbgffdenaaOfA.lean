import Derived.Test.YtjjnhmbgffdenaaJoinB
import Derived.Maps.AppendAt
namespace Go.Proofs.Ytjjnhmbgffdenaa
open Go.RowKit Go.Sort

/-- The table of a law while the law fills it: each row lies in a block of its own. -/
structure Ow (BT : Nat) (w : World) (cs : List Cel) : Prop where
  tab : Tab w BT 31 cs
  own : ∀ (i : Nat) (c : Cel), cs[i]? = some c → w.ownsRow (BT + 1) 28 2 c.v c.l.length (cellsOf c.l)
  dis : ∀ (i j : Nat) (c c' : Cel), i ≠ j → cs[i]? = some c → cs[j]? = some c' → c.v.ownBlock = none ∨ c.v.ownBlock ≠ c'.v.ownBlock

theorem Ow.alloc {BT : Nat} {w : World} {cs : List Cel} (h : Ow BT w cs) (o : Obj) : Ow BT (w.alloc o) cs :=
  ⟨h.tab.alloc o, fun i c hc => (h.own i c hc).alloc o, h.dis⟩
theorem Ow.put {BT : Nat} {w w' : World} {cs : List Cel} (h : Ow BT w cs) {k : Nat} {c c' : Cel} (hk : cs[k]? = some c) (hg : w.grownBy w' c.v.ownBlock) (ho : w'.ownsRow (BT + 1) 28 2 c'.v c'.l.length (cellsOf c'.l))
    (hat : c'.v.ownBlock = c.v.ownBlock ∨ c'.v.ownBlock = some w.heap.size) : Ow BT (w'.setCell ⟨BT, k, none⟩ c'.v) (cs.set k c') := by
  have hne : some BT ≠ c.v.ownBlock := fun e => by have := (h.own k c hk).lt BT e.symm; omega
  have hkl : k < cs.length := (List.getElem?_eq_some_iff.1 hk).1
  have get : ∀ (i : Nat) (x : Cel), (cs.set k c')[i]? = some x → (i = k ∧ x = c') ∨ (i ≠ k ∧ cs[i]? = some x) := fun i x hx => by
    rw [List.getElem?_set] at hx
    by_cases hi : k = i
    · rw [if_pos hi, if_pos (hi ▸ hkl)] at hx
      exact .inl ⟨hi.symm, (Option.some.inj hx).symm⟩
    · rw [if_neg hi] at hx
      exact .inr ⟨fun e => hi e.symm, hx⟩
  have hsc : w'.grownBy (w'.setCell ⟨BT, k, none⟩ c'.v) (some BT) := grownBy_setCellAt w' BT k _
  refine ⟨(h.tab.kept hg hne).set k c', fun i x hx => ?_, fun i j x y hij hx hy => ?_⟩
  · rcases get i x hx with ⟨rfl, rfl⟩ | ⟨hi, hx⟩
    · exact ho.kept hsc (.inr fun e => by have := ho.lt BT e; omega)
    · have h1 := (h.own i x hx).kept hg (h.dis i k x c hi hx hk)
      exact h1.kept hsc (.inr fun e => by have := h1.lt BT e; omega)
  · rcases get i x hx with ⟨rfl, rfl⟩ | ⟨hi, hx'⟩
    · rcases get j y hy with ⟨rfl, rfl⟩ | ⟨hj, hy'⟩
      · exact absurd rfl hij
      · rcases hat with e | e
        · rw [e]; exact h.dis i j c y hij hk hy'
        · rw [e]; exact .inr fun e2 => by have := (h.own j y hy').lt _ e2.symm; omega
    · rcases get j y hy with ⟨rfl, rfl⟩ | ⟨hj, hy'⟩
      · rcases hat with e | e
        · rw [e]; exact h.dis i j x c hij hx' hk
        · rw [e]; exact .inr fun e2 => by have := (h.own i x hx').lt _ e2; omega
      · exact h.dis i j x y hij hx' hy'
theorem Ow.ok {BT : Nat} {w : World} {cs : List Cel} (h : Ow BT w cs) (h4 : ∀ c ∈ cs, c.l.length ≤ 4) : ∀ c ∈ cs, c.ok w.heap.size w := fun c hc => by
  obtain ⟨i, hi, rfl⟩ := List.mem_iff_getElem.1 hc
  have h1 := h.own i cs[i] (List.getElem?_eq_getElem hi)
  obtain ⟨c2, e1, e2, _, e4⟩ := ok_of_owns h1 (by have := h4 _ hc; omega)
  obtain ⟨a, l, cap⟩ := c2
  generalize cs[i] = x at *
  obtain ⟨a', l', cap'⟩ := x
  simp only [Cel.v, Value.slice.injEq] at e1
  simp only at e2
  obtain ⟨rfl, -, rfl⟩ := e1
  subst e2
  exact e4

theorem run_append_at (w : World) (B ty : Nat) (c : Cel) (hown : w.ownsRow B 28 2 c.v c.l.length (cellsOf c.l)) (p : Nm) (b : Nat) (h0 : Two w b 0 p) (h1 : c.l.length ≤ 50) (hbase : B ≤ w.heap.size) :
    ∃ (c' : Cel) (w' : World), (Builtin.append_ #[29, 29] ty #[c.v, .slice (some ⟨b, 0, none⟩) 1 1]).run Try.prog w = .ok c'.v w' ∧ c'.l = c.l ++ [p] ∧ w'.ownsRow B 28 2 c'.v c'.l.length (cellsOf c'.l) ∧ w.grownBy w' c.v.ownBlock ∧
      (c'.v.ownBlock = c.v.ownBlock ∨ c'.v.ownBlock = some w.heap.size) := by
  obtain ⟨i0, hi, hz0, hz1, hz2⟩ := info_parts info28
  have hcell : ∀ (j : Nat) (u : Value), (cellsOf [p])[j]? = some u → w.cell? ((⟨b, 0, none⟩ : Addr).add j) = some u := by
    intro j u hu
    match j, hu with
    | 0, hu => simp [cellsOf] at hu; subst hu; exact h0.1
    | 1, hu => simp [cellsOf] at hu; subst hu; exact h0.2
    | j + 2, hu => simp [cellsOf] at hu
  obtain ⟨v', w', g1, g2, g3, _, g5⟩ := run_append_own_at (P := Try.prog) w B 29 ty 28 i0 zero28 2 16 Try.underlying29 hi hz0 hz1 hz2 rfl (by decide) c.v c.l.length (cellsOf c.l) hown ⟨b, 0, none⟩ 1 1 (cellsOf [p]) (by rw [cellsOf_length]; simp) hcell (cellsOf_one [p])
      (by unfold maxLen; omega) (by omega) hbase
  rw [← cellsOf_append] at g2
  obtain ⟨c2, e1, e2, _, _⟩ := ok_of_owns g2 (by simp; omega)
  subst e1
  refine ⟨c2, w', g1, e2, ?_, g3, g5⟩
  rw [e2]
  simpa using g2
theorem wpList_append_at {ops : Array Oper} {rest : List Oper} {o : Oper} {a : Act} {Q : Exit → Act → World → Prop} {w : World} {s t : Tmp} {B : Nat} (hg : o.guard = none) (hop : o.op = Op.call { callee := Callee.builtin Builtin.append, args := #[.tmp s, .tmp t], argTypes := #[29, 29] }) (c : Cel)
    (hs : a.eval (.tmp s) = c.v) (hown : w.ownsRow B 28 2 c.v c.l.length (cellsOf c.l)) (p : Nm) {b : Nat} (hx : a.eval (.tmp t) = .slice (some ⟨b, 0, none⟩) 1 1) (h0 : Two w b 0 p) (h1 : c.l.length ≤ 50) (hbase : B ≤ w.heap.size)
    (hK : ∀ (c' : Cel) (w' : World), c'.l = c.l ++ [p] → w'.ownsRow B 28 2 c'.v c'.l.length (cellsOf c'.l) → w.grownBy w' c.v.ownBlock → (c'.v.ownBlock = c.v.ownBlock ∨ c'.v.ownBlock = some w.heap.size) → wpList Try.prog ops Q rest (a.put o.dst c'.v) w') : wpList Try.prog ops Q (o :: rest) a w := by
  refine wpList_plain hg fun K hK' => ?_
  obtain ⟨c', w', hr, h2, h3, h4, h5⟩ := run_append_at w B o.type c hown p b h0 h1 hbase
  unfold Oper.wp execOp
  simp only [hop, resolve, invoke, builtin, Sem.run_bind, Sem.run_pure, Result.andThen_ok, List.map_toArray, List.map_cons, List.map_nil, hs, hx, hr]
  exact hK' _ _ (hK c' w' h2 h3 h4 h5)

/-- The names that a law gives, in their order. -/
def nmAt (n : Nat) : Nm := ⟨1 + ((n % 3 : Nat) : Int), ((n / 3 : Nat) : Int)⟩
def ofIn : Nat → Nat → List (List Nm) × Nat → List (List Nm) × Nat
  | 0, _, s => s
  | j + 1, k, s => if (s.1.getD k []).length < 4 then ofIn j k (s.1.set k (s.1.getD k [] ++ [nmAt s.2]), s.2 + 1) else s
def ofAll (xs : List (Nat × Nat)) (s : List (List Nm) × Nat) : List (List Nm) × Nat := xs.foldl (fun s x => ofIn (x.2 % 5) (x.1 % 80) s) s
/-- The table that a law makes of bytes. -/
def ofM (xs : List (Nat × Nat)) : List (List Nm) := (ofAll (xs.take 40) (List.replicate 80 [], 0)).1

theorem nmAt_named {n : Nat} (h : n ≤ 200) : Named (nmAt n) := by
  unfold Named nmAt
  simp only
  omega
theorem nmAt_inj {m n : Nat} (h : nmAt m = nmAt n) : m = n := by
  unfold nmAt at h
  simp only [Nm.mk.injEq] at h
  omega
/-- What the making keeps. -/
structure Ofs (m : Nat) (s : List (List Nm) × Nat) : Prop where
  len : s.1.length = 80
  cnt : s.2 ≤ m
  st : ∀ l ∈ s.1, l.length ≤ 4 ∧ ∀ p ∈ l, ∃ i, i < s.2 ∧ p = nmAt i
  once : s.1.flatten.Nodup
theorem flat_set_perm (T : List (List Nm)) (k : Nat) (p : Nm) (hk : k < T.length) : (T.set k (T.getD k [] ++ [p])).flatten.Perm (p :: T.flatten) := by
  induction T generalizing k with
  | nil => simp at hk
  | cons a T ih =>
    cases k with
    | zero =>
      simp only [List.set_cons_zero, List.getD_cons_zero, List.flatten_cons, List.append_assoc]
      exact List.perm_middle
    | succ k =>
      simp only [List.set_cons_succ, List.getD_cons_succ, List.flatten_cons]
      exact ((ih k (by simpa using hk)).append_left a).trans List.perm_middle
theorem Ofs.step {m : Nat} {s : List (List Nm) × Nat} (h : Ofs m s) {k : Nat} (hk : k < 80) (hl : (s.1.getD k []).length < 4) : Ofs (m + 1) (s.1.set k (s.1.getD k [] ++ [nmAt s.2]), s.2 + 1) := by
  refine ⟨by simp [h.len], by have := h.cnt; simp only; omega, fun l hm => ?_, ?_⟩
  · have hg : ∀ l ∈ s.1, l.length ≤ 4 ∧ ∀ p ∈ l, ∃ i, i < s.2 + 1 ∧ p = nmAt i := fun l hl => ⟨(h.st l hl).1, fun p hp => by
      obtain ⟨i, hi, e⟩ := (h.st l hl).2 p hp
      exact ⟨i, by omega, e⟩⟩
    rcases List.mem_or_eq_of_mem_set hm with h1 | rfl
    · exact hg l h1
    · refine ⟨by rw [List.length_append]; simp only [List.length_cons, List.length_nil]; omega, fun p hp => ?_⟩
      rcases List.mem_append.1 hp with hp | hp
      · rcases getD_mem_or (l := s.1) k with h1 | h1
        · exact (hg _ h1).2 p hp
        · rw [h1] at hp; cases hp
      · exact ⟨s.2, by simp, by simpa using hp⟩
  · refine (flat_set_perm s.1 k (nmAt s.2) (by rw [h.len]; exact hk)).nodup_iff.2 (List.nodup_cons.2 ⟨fun hp => ?_, h.once⟩)
    obtain ⟨l, hl, hp⟩ := List.mem_flatten.1 hp
    obtain ⟨i, hi, e⟩ := (h.st l hl).2 _ hp
    have := nmAt_inj e
    omega
theorem Ofs.ofIn {j k : Nat} (hk : k < 80) : ∀ {m : Nat} {s : List (List Nm) × Nat}, Ofs m s → Ofs (m + j) (Ytjjnhmbgffdenaa.ofIn j k s) := by
  induction j with
  | zero => exact fun h => h
  | succ j ih =>
    intro m s h
    unfold Ytjjnhmbgffdenaa.ofIn
    split
    · rename_i hl
      have := ih (h.step hk hl)
      rwa [show m + 1 + j = m + (j + 1) by omega] at this
    · exact ⟨h.len, by have := h.cnt; omega, h.st, h.once⟩
theorem Ofs.ofAll : ∀ (xs : List (Nat × Nat)) {m : Nat} {s : List (List Nm) × Nat}, Ofs m s → Ofs (m + 4 * xs.length) (Ytjjnhmbgffdenaa.ofAll xs s)
  | [], _, _, h => h
  | x :: xs, m, s, h => by
    have h1 := h.ofIn (j := x.2 % 5) (k := x.1 % 80) (by omega)
    have h2 := Ofs.ofAll xs h1
    exact ⟨h2.len, by have := h2.cnt; simp only [List.length_cons]; unfold Ytjjnhmbgffdenaa.ofAll at *; simp only [List.foldl_cons]; omega, h2.st, h2.once⟩
theorem ofs_zero : Ofs 0 (List.replicate 80 [], 0) := ⟨by simp, by simp, fun l hl => by rw [List.eq_of_mem_replicate hl]; simp, by simp⟩
theorem ofM_ok (xs : List (Nat × Nat)) : TOk (ofM xs) := by
  have h := Ofs.ofAll (xs.take 40) ofs_zero
  have hc := h.cnt
  have hl : (xs.take 40).length ≤ 40 := by simp; omega
  exact ⟨h.len, fun l hl' => ⟨(h.st l hl').1, fun p hp => by
    obtain ⟨i, hi, rfl⟩ := (h.st l hl').2 p hp
    exact nmAt_named (by omega)⟩, h.once⟩
end Go.Proofs.Ytjjnhmbgffdenaa
