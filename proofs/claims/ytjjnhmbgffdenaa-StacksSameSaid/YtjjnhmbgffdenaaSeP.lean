import Derived.Test.YtjjnhmbgffdenaaJoR
import Derived.Test.YtjjnhmbgffdenaaRg7
namespace Go.Proofs.Ytjjnhmbgffdenaa
open Go.RowKit Go.Sort

/-- A number that tells whether something holds. -/
def Vc (c : Int) (P : Prop) (v : Int) : Prop := (v = c ∧ P) ∨ (v = 0 ∧ ¬ P)
theorem Vc.yes {c : Int} {P Q : Prop} {v : Int} (_ : Vc c P v) (h : Q) : Vc c Q c := .inl ⟨rfl, h⟩
theorem Vc.iff {c : Int} {P Q : Prop} {v : Int} (h : Vc c P v) (e : P ↔ Q) : Vc c Q v := h.imp (fun h => ⟨h.1, e.1 h.2⟩) (fun h => ⟨h.1, fun q => h.2 (e.2 q)⟩)
theorem Vc.mk {c : Int} {P : Prop} {b : Bool} (h : b = true ↔ P) : Vc c P (if b = true then c else 0) := by
  cases b
  · exact .inr ⟨rfl, fun hp => by cases h.2 hp⟩
  · exact .inl ⟨rfl, h.1 rfl⟩

section
variable (T : List (List Nm)) (ls : List Nm) (ix : Nat)
def UnN (b a : Int) (k : Nat) : Prop := isN b a = false ∨ ∃ i, i < k ∧ ∃ p, ls[i]? = some p ∧ namedB p = false
def Twc (p : Nm) (q : Nat) : Prop := ∃ i, i < q ∧ ls[i]? = some p
def Out (p : Nm) (j : Nat) : Prop := ∃ j', j' < j ∧ j' ≠ ix ∧ p ∈ T.getD j' []
def OutIn (p : Nm) (j m : Nat) : Prop := Out T ix p j ∨ (j ≠ ix ∧ p ∈ (T.getD j []).take m)
def Bad (k : Nat) : Prop := ∃ i, i < k ∧ ∃ p, ls[i]? = some p ∧ (Twc ls p i ∨ Out T ix p 80)
end
section
variable {T : List (List Nm)} {ls : List Nm} {ix : Nat}
theorem UnN.succ {b a : Int} {k : Nat} {p : Nm} (hp : ls[k]? = some p) : UnN ls b a (k + 1) ↔ (UnN ls b a k ∨ namedB p = false) := by
  unfold UnN
  constructor
  · rintro (h | ⟨i, hi, q, hq, hn⟩)
    · exact .inl (.inl h)
    · by_cases e : i = k
      · subst e; rw [hp] at hq; cases hq; exact .inr hn
      · exact .inl (.inr ⟨i, by omega, q, hq, hn⟩)
  · rintro ((h | ⟨i, hi, q, hq, hn⟩) | h)
    · exact .inl h
    · exact .inr ⟨i, by omega, q, hq, hn⟩
    · exact .inr ⟨k, by omega, p, hp, h⟩
theorem UnN.all {b a : Int} : UnN ls b a ls.length ↔ (isN b a = false ∨ allNamed ls = false) := by
  unfold UnN allNamed
  refine or_congr Iff.rfl ?_
  rw [List.all_eq_false]
  constructor
  · rintro ⟨i, _, p, hp, hn⟩
    exact ⟨p, List.mem_of_getElem? hp, by simpa [namedB] using hn⟩
  · rintro ⟨p, hp, hn⟩
    obtain ⟨i, hi, rfl⟩ := List.getElem_of_mem hp
    exact ⟨i, hi, _, List.getElem?_eq_getElem hi, by simpa [namedB] using hn⟩
theorem Twc.succ {p r : Nm} {q : Nat} (hr : ls[q]? = some r) : Twc ls p (q + 1) ↔ (Twc ls p q ∨ r = p) := by
  unfold Twc
  constructor
  · rintro ⟨i, hi, h⟩
    by_cases e : i = q
    · subst e; rw [hr] at h; cases h; exact .inr rfl
    · exact .inl ⟨i, by omega, h⟩
  · rintro (⟨i, hi, h⟩ | rfl)
    · exact ⟨i, by omega, h⟩
    · exact ⟨q, by omega, hr⟩
theorem Twc.zero (p : Nm) : ¬ Twc ls p 0 := fun ⟨_, h, _⟩ => by omega
theorem Out.zero (p : Nm) : ¬ Out T ix p 0 := fun ⟨_, h, _⟩ => by omega
theorem OutIn.zero {p : Nm} {j : Nat} : OutIn T ix p j 0 ↔ Out T ix p j := by simp [OutIn]
theorem OutIn.succ {p r : Nm} {j m : Nat} (hj : j ≠ ix) (hr : (T.getD j [])[m]? = some r) : OutIn T ix p j (m + 1) ↔ (OutIn T ix p j m ∨ r = p) := by
  unfold OutIn
  rw [take_succ_of hr]
  simp only [List.mem_append, List.mem_singleton]
  constructor
  · rintro (h | ⟨_, h | h⟩)
    · exact .inl (.inl h)
    · exact .inl (.inr ⟨hj, h⟩)
    · exact .inr h.symm
  · rintro ((h | ⟨_, h⟩) | h)
    · exact .inl h
    · exact .inr ⟨hj, .inl h⟩
    · exact .inr ⟨hj, .inr h.symm⟩
theorem OutIn.done {p : Nm} {j : Nat} : OutIn T ix p j (T.getD j []).length ↔ Out T ix p (j + 1) := by
  unfold OutIn Out
  rw [List.take_length]
  constructor
  · rintro (⟨j', h1, h2, h3⟩ | ⟨h1, h2⟩)
    · exact ⟨j', by omega, h2, h3⟩
    · exact ⟨j, by omega, h1, h2⟩
  · rintro ⟨j', h1, h2, h3⟩
    by_cases e : j' = j
    · subst e; exact .inr ⟨h2, h3⟩
    · exact .inl ⟨j', by omega, h2, h3⟩
theorem Out.skip {p : Nm} : Out T ix p (ix + 1) ↔ Out T ix p ix := by
  unfold Out
  constructor
  · rintro ⟨j', h1, h2, h3⟩; exact ⟨j', by omega, h2, h3⟩
  · rintro ⟨j', h1, h2, h3⟩; exact ⟨j', by omega, h2, h3⟩
theorem Bad.zero : ¬ Bad T ls ix 0 := fun ⟨_, h, _⟩ => by omega
theorem Bad.succ {k : Nat} {p : Nm} (hp : ls[k]? = some p) : Bad T ls ix (k + 1) ↔ (Bad T ls ix k ∨ Twc ls p k ∨ Out T ix p 80) := by
  unfold Bad
  constructor
  · rintro ⟨i, hi, q, hq, h⟩
    by_cases e : i = k
    · subst e; rw [hp] at hq; cases hq; exact .inr h
    · exact .inl ⟨i, by omega, q, hq, h⟩
  · rintro (⟨i, hi, q, hq, h⟩ | h)
    · exact ⟨i, by omega, q, hq, h⟩
    · exact ⟨k, by omega, p, hp, h⟩
theorem Bad.mono {k n : Nat} (h : Bad T ls ix k) (hn : k ≤ n) : Bad T ls ix n := by
  obtain ⟨i, hi, r⟩ := h
  exact ⟨i, by omega, r⟩
theorem flat_uniq {L : List (List Nm)} (h : L.flatten.Nodup) {p : Nm} {i j : Nat} (hi : p ∈ L.getD i []) (hj : p ∈ L.getD j []) : i = j := by
  have h1 := (List.pairwise_flatten.1 h).2
  have key : ∀ i j, i < j → p ∈ L.getD i [] → p ∈ L.getD j [] → False := by
    intro i j hij hi hj
    have hj' : j < L.length := by
      rcases Nat.lt_or_ge j L.length with h | h
      · exact h
      · rw [List.getD_eq_getElem?_getD, List.getElem?_eq_none h] at hj; cases hj
    rw [List.getD_eq_getElem?_getD, List.getElem?_eq_getElem (by omega)] at hi
    rw [List.getD_eq_getElem?_getD, List.getElem?_eq_getElem hj'] at hj
    exact (List.pairwise_iff_getElem.1 h1) i j (by omega) hj' hij p hi p hj rfl
  rcases Nat.lt_trichotomy i j with h | h | h
  · exact (key i j h hi hj).elim
  · exact h
  · exact (key j i h hj hi).elim
theorem bad_iff (hT : TOk T) (hx : ix < 80) : (T.set ix ls).flatten.Nodup ↔ ¬ Bad T ls ix ls.length := by
  have hl : ix < T.length := by rw [hT.len]; exact hx
  have hself : (T.set ix ls).getD ix [] = ls := getD_set_eq T hl ls
  constructor
  · rintro hn ⟨i, hi, p, hp, h⟩
    have hpl : p ∈ ls := List.mem_of_getElem? hp
    rcases h with ⟨i', hi', hp'⟩ | ⟨j, hj, hne, hpj⟩
    · have h1 := (List.pairwise_flatten.1 hn).1 ls (List.mem_iff_getElem.2 ⟨ix, by simpa using hl, by simp⟩)
      obtain ⟨ha, e1⟩ := List.getElem?_eq_some_iff.1 hp
      obtain ⟨hb, e2⟩ := List.getElem?_eq_some_iff.1 hp'
      exact (List.pairwise_iff_getElem.1 h1) i' i hb ha hi' (e2.trans e1.symm)
    · have := flat_uniq hn (i := ix) (j := j) (by rw [hself]; exact hpl) (by rw [getD_set_ne T hne.symm]; exact hpj)
      exact hne this.symm
  · intro hb
    have e0 : (T.set ix ls).flatten.Perm ((T.set ix []).flatten ++ ls) := by
      have := flat_set (T.set ix []) ix ls (by simpa using hl)
      rw [List.set_set, getD_set_eq T hl, List.append_nil] at this
      exact this
    have e1 : ((T.set ix []).flatten ++ T.getD ix []).Nodup := by
      have := flat_set T ix [] hl
      rw [List.append_nil] at this
      exact this.nodup_iff.2 hT.once
    refine e0.nodup_iff.2 (List.nodup_append.2 ⟨(List.nodup_append.1 e1).1, ?_, ?_⟩)
    · refine List.pairwise_iff_getElem.2 fun i j hi hj hij e => hb ⟨j, hj, ls[j], List.getElem?_eq_getElem hj, .inl ⟨i, hij, ?_⟩⟩
      rw [List.getElem?_eq_getElem hi, e]
    · intro p hp q hq e
      subst e
      obtain ⟨l, hlm, hpl⟩ := List.mem_flatten.1 hp
      obtain ⟨j, hj, rfl⟩ := List.getElem_of_mem hlm
      obtain ⟨i, hi, rfl⟩ := List.getElem_of_mem hq
      have hj' : j < T.length := by simpa using hj
      refine hb ⟨i, hi, _, List.getElem?_eq_getElem hi, .inr ⟨j, by rw [hT.len] at hj'; exact hj', ?_, ?_⟩⟩
      · rintro rfl
        simp at hpl
      · by_cases e : ix = j
        · subst e; simp at hpl
        · rw [List.getElem_set_ne e] at hpl
          rw [List.getD_eq_getElem?_getD, List.getElem?_eq_getElem hj']; exact hpl
end
/-- The error as the law finds it: first 1 or 9, then 8. -/
def err20 (b a : Int) (ls : List Nm) : Int := if isN b a = false ∨ allNamed ls = false then 1 else if 4 < ls.length then 9 else 0
theorem setErr_20 {T : List (List Nm)} {b a : Int} {ls : List Nm} (h : err20 b a ls ≠ 0) : setErr T b a ls = err20 b a ls := by
  unfold setErr err20 at *
  split
  · rfl
  · split
    · rfl
    · rename_i h1 h2
      rw [if_neg h1, if_neg h2] at h; exact absurd rfl h
theorem err20_zero {b a : Int} {ls : List Nm} (h : err20 b a ls = 0) : isN b a = true ∧ allNamed ls = true ∧ ls.length ≤ 4 := by
  unfold err20 at h
  split at h
  · cases h
  · rename_i h1
    split at h
    · cases h
    · rename_i h2
      refine ⟨?_, ?_, by omega⟩
      · cases hx : isN b a <;> simp_all
      · cases hx : allNamed ls <;> simp_all
theorem setErr_v {T : List (List Nm)} {b a : Int} {ls : List Nm} {v : Int} (hT : TOk T) (hb : 0 ≤ b) (h : err20 b a ls = 0) (hv : Vc 8 (Bad T ls (ixOf b a) ls.length) v) : v = setErr T b a ls := by
  obtain ⟨h1, h2, h3⟩ := err20_zero h
  have hi := bad_iff (ls := ls) hT (ix_lt hb h1)
  rcases hv with ⟨rfl, hv⟩ | ⟨rfl, hv⟩
  · exact (setErr_8 h1 h2 h3 (fun hn => hi.1 hn hv)).symm
  · exact (setErr_0 h1 h2 h3 (hi.2 hv)).symm
theorem setT_ok {T : List (List Nm)} {b a : Int} {ls : List Nm} (hT : TOk T) (hb : 0 ≤ b) (h : setErr T b a ls = 0) : TOk (setT T b a ls) ∧ setErr (setT T b a ls) b a ls = 0 ∧ setT (setT T b a ls) b a ls = setT T b a ls ∧ (setT T b a ls).getD (ixOf b a) [] = ls ∧ isN b a = true ∧ ls.length ≤ 4 := by
  have h0 : err20 b a ls = 0 := by
    by_cases h9 : err20 b a ls = 0
    · exact h9
    · rw [← setErr_20 (T := T) h9]; exact h
  obtain ⟨h1, h2, h3⟩ := err20_zero h0
  have hx := ix_lt hb h1
  have hnd : (setT T b a ls).flatten.Nodup := by
    by_cases hn : (setT T b a ls).flatten.Nodup
    · exact hn
    · rw [setErr_8 h1 h2 h3 hn] at h; cases h
  have hss : setT (setT T b a ls) b a ls = setT T b a ls := by unfold setT; rw [List.set_set]
  refine ⟨⟨by simp [setT, hT.len], fun x hx => ?_, hnd⟩, setErr_0 h1 h2 h3 (by rw [hss]; exact hnd), hss, getD_set_eq T (by rw [hT.len]; exact hx) ls, h1, h3⟩
  rcases mem_setT hx with hx | rfl
  · exact hT.st x hx
  · exact ⟨h3, allNamed_iff h2⟩
end Go.Proofs.Ytjjnhmbgffdenaa
namespace Go.Proofs.Ytjjnhmbgffdenaa
open Go.RowKit Go.Sort
section
variable {o : Oper} {a : Act} {w : World} {K : Act → World → Prop} {Q : Exit → Act → World → Prop}
theorem wpList_append0_own {ops : Array Oper} {rest : List Oper} {s t : Tmp} {g N : Nat} (hg0 : o.guard = none) (hop : o.op = Op.call { callee := Callee.builtin Builtin.append, args := #[.tmp s, .tmp t], argTypes := #[29, 29] }) (hs : a.eval (.tmp s) = .slice (some ⟨g, 0, none⟩) 0 0) (hN : N ≤ g)
    (hg : w.heap[g]? = some (.cells #[] 28 (0, 0))) (c : Cel) (hx : a.eval (.tmp t) = c.v) (hl : c.ok w.heap.size w) (hK : ∀ (c' : Cel) (w' : World), c'.l = c.l → c'.ok w'.heap.size w' → w'.ownsRow N 28 2 c'.v c'.l.length (cellsOf c'.l) → Below w.heap.size w w' → wpList Try.prog ops Q rest (a.put o.dst c'.v) w') : wpList Try.prog ops Q (o :: rest) a w := by
  refine wpList_plain hg0 fun K' hK' => ?_
  refine step_append0_own hop hs hN hg c hx hl fun v' w' h1 h2 => ?_
  obtain ⟨c', rfl, h4, _, h6⟩ := ok_of_owns h1 (by have := hl.1; omega)
  exact hK' _ _ (hK c' w' h4 h6 (by rw [h4]; exact h1) h2)
end
/-- What the last region of Set's law says of its box: for rgT4. -/
def X45 (T : List (List Nm)) (L : Array Bool) (a : Act) (w : World) : Prop :=
  19 < a.tmps.size ∧ (L.getD 10 false = true → ∃ (b : Nat) (bd : Bds), a.tmps.getD 19 undef = .pointer (some ⟨b, 0, none⟩) ∧ Boxed2 w b 35 bd.f.v bd.b.v ∧ Reads T bd ∧ bd.ok w.heap.size w)
theorem X45.keep {T : List (List Nm)} {L : Array Bool} {a : Act} {w w' : World} {k : Nat} {d : Option Tmp} {v : Value} (h : X45 T L a w) (hk : k ≠ 10) (hd : d ≠ some 19) (hb : Below w.heap.size w w') : X45 T (L.setIfInBounds k true) (a.put d v) w' := by
  unfold X45
  rw [Go.getD_set_ne false hk, putD_other hd, put_size]
  refine ⟨h.1, fun hl => ?_⟩
  obtain ⟨b, bd, h1, h2, h3, h4⟩ := h.2 hl
  exact ⟨b, bd, h1, h2.below hb h2.lt, h3, h4.onw hb⟩
theorem X45.early {T : List (List Nm)} {L : Array Bool} {a : Act} {w w' : World} {k : Nat} {d : Option Tmp} {v : Value} (h : X45 T L a w) (hk : k ≠ 10) (hl : L.getD 10 false = false) : X45 T (L.setIfInBounds k true) (a.put d v) w' := by
  unfold X45
  rw [Go.getD_set_ne false hk, put_size]
  exact ⟨h.1, fun h' => by rw [hl] at h'; cases h'⟩
theorem X45.start {T : List (List Nm)} {L : Array Bool} {a : Act} {w : World} (hL : ∀ k, L.getD k false = false) (hs : 19 < a.tmps.size) : X45 T L a w := ⟨hs, fun h => by rw [hL] at h; cases h⟩
end Go.Proofs.Ytjjnhmbgffdenaa
namespace Go.Proofs.Ytjjnhmbgffdenaa
open Go.RowKit Go.Sort
theorem Changed.both2 {T' : List (List Nm)} {err : Int} {w : World} {e : Ending} {w' : World} (h : Changed T' err w e w') :
    ∃ bd : Bds, e = .returned (.tuple #[bd.v, .int .i64 err]) ∧ Hid ((err ≠ 0 → bd = noBds) ∧ (err = 0 → Reads T' bd ∧ Tight bd) ∧ bd.ok w'.heap.size w' ∧ (∀ b o, bd.f.ao = some ⟨b, o, none⟩ → w.heap.size ≤ b) ∧ ∀ b o, bd.b.ao = some ⟨b, o, none⟩ → w.heap.size ≤ b) ∧ Below w.heap.size w w' := by
  obtain ⟨V, rfl, hV, hb⟩ := h
  by_cases he : err = 0
  · obtain ⟨bd, rfl, h⟩ := hV.out.2 he
    exact ⟨bd, rfl, Lib.hid ⟨fun h' => absurd he h', fun _ => ⟨h.1, h.2.1⟩, h.2.2.1, h.2.2.2.1, h.2.2.2.2⟩, hb⟩
  · rw [hV.out.1 he]
    exact ⟨noBds, rfl, Lib.hid ⟨fun _ => rfl, fun h' => absurd h' he, ⟨⟨by simp [noBds], by simp [noBds], .inl rfl⟩, ⟨by simp [noBds], by simp [noBds], .inl rfl⟩⟩, fun b o h => by simp [noBds] at h, fun b o h => by simp [noBds] at h⟩, hb⟩
theorem Bed.ok.set_tab {n : Nat} {w : World} {d : Bed} (h : d.ok n w) {B t : Nat} {cs : List Cel} (ht : Tab w B t cs) (hne : ∀ b o, d.ao = some ⟨b, o, none⟩ → b ≠ B) (k : Nat) (x : Value) : d.ok n (w.setCell ⟨B, k, none⟩ x) := by
  refine ⟨h.1, fun c hc => (h.2.1 c hc).set_tab ht k x, h.2.2.imp id ?_⟩
  rintro ⟨b, o, e, hl, hc⟩
  exact ⟨b, o, e, hl, fun i c hi => by rw [World.cell?_setCell_other _ _ _ _ (by intro h9; injection h9 with h1; first | exact hne b o e h1.symm | exact hne b o e h1)]; exact hc i c hi⟩
end Go.Proofs.Ytjjnhmbgffdenaa
