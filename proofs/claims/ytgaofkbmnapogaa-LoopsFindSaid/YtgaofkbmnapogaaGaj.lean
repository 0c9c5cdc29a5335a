import Derived.Test.YtgaofkbmnapogaaGag
import Derived.Test.YtgaofkbmnapogaaGai
import Derived.Deep.RegionHeld3
import Derived.Deep.AppendLies
namespace Go.Proofs.Ytgaofkbmnapogaa
open Go.RowKit Go.Sort
/-- A loop as a law is given it. -/
structure Li where
  y : Nat
  bk : Bool
  nw : Bool
  th : List Nat
  pa : List Nat
def thM : List Nat → List Nm → List Nm × List Nm
  | [], f => ([], f)
  | c :: cs, f => if f = [] then ([], f) else (f.getD (c % f.length) ⟨0, 0⟩ :: (thM cs (f.take (c % f.length) ++ f.drop (c % f.length + 1))).1, (thM cs (f.take (c % f.length) ++ f.drop (c % f.length + 1))).2)
theorem thM_perm : ∀ (cs : List Nat) (f : List Nm), ((thM cs f).1 ++ (thM cs f).2).Perm f
  | [], f => .refl _
  | c :: cs, f => by
    unfold thM
    split
    · exact .refl _
    · rename_i h
      have hl : c % f.length < f.length := Nat.mod_lt _ (List.length_pos_iff.2 h)
      generalize c % f.length = n at hl
      have h1 := thM_perm cs (f.take n ++ f.drop (n + 1))
      simp only [List.cons_append]
      refine (h1.cons _).trans ?_
      have h2 : f = f.take n ++ f.getD n ⟨0, 0⟩ :: f.drop (n + 1) := by
        rw [List.getD_eq_getElem?_getD, List.getElem?_eq_getElem hl, Option.getD_some, List.getElem_cons_drop, List.take_append_drop]
      have h3 : (f.getD n ⟨0, 0⟩ :: (f.take n ++ f.drop (n + 1))).Perm (f.take n ++ f.getD n ⟨0, 0⟩ :: f.drop (n + 1)) := List.perm_middle.symm
      exact h3.trans (.of_eq h2.symm)
theorem thM_len : ∀ (cs : List Nat) (f : List Nm), (thM cs f).1.length ≤ cs.length
  | [], f => Nat.le_refl _
  | c :: cs, f => by
    unfold thM
    split
    · simp
    · have h1 := thM_len cs (f.take (c % f.length) ++ f.drop (c % f.length + 1))
      simp only [List.length_cons]
      omega
def paM (d : Int) (made : List Nm) (cs : List Nat) : List Pa := if made = [] then [] else cs.map fun n => ⟨made.getD (n / 2 % made.length) ⟨0, 0⟩, n % 2 == 1, d⟩
structure St where
  T : List (List Lq)
  free : List Nm
  made : List Nm
def St.lq (s : St) (x : Li) : Lq := ⟨if x.bk then 1 else 0, x.nw || (s.T.getD (x.y % 6) []).isEmpty, (thM (x.th.take 4) s.free).1, paM ((x.y / 6 % 2 : Nat) : Int) s.made (x.pa.take 5)⟩
def St.id (s : St) (x : Li) : Nm := ⟨((x.y % 6 : Nat) : Int) + 1, (s.T.getD (x.y % 6) []).length⟩
def putT (T : List (List Lq)) (k : Nat) (q : Lq) : List (List Lq) := T.set k (T.getD k [] ++ [q])
def St.step (s : St) (x : Li) : St := ⟨putT s.T (x.y % 6) (s.lq x), (thM (x.th.take 4) s.free).2 ++ [s.id x], s.made ++ [s.id x]⟩
def St.zero : St := ⟨List.replicate 6 [], [], []⟩
def ofL (xs : List Li) : St := xs.foldl St.step St.zero
def ofM (xs : List Li) : St := ofL (xs.take 60)
structure StOk (s : St) : Prop where
  len : s.T.length = 6
  mem : ∀ p, p ∈ s.made ↔ there s.T p = true
  nd : s.made.Nodup
  cnt : s.made.length = totM s.T
  perm : (throughs s.T ++ s.free).Perm s.made
  right : ∀ row ∈ s.T, ∀ q ∈ row, rightM s.T q = true
  fst : ∀ row ∈ s.T, (row.head?.all fun q => q.nw) = true
  ord : ∀ (j : Nat) (p : Nm), s.made[j]? = some p → (∀ r ∈ (lqAt s.T p).th, r ∈ s.made.take j) ∧ (∀ r ∈ (lqAt s.T p).pa, r.id ∈ s.made.take j) ∧ (0 < p.n → (⟨p.y, p.n - 1⟩ : Nm) ∈ s.made.take j)
theorem StOk.zero : StOk St.zero := by
  refine ⟨rfl, fun p => ?_, .nil, rfl, .nil, fun row hr q hq => ?_, fun row hr => ?_, fun j p h => by simp [St.zero] at h⟩
  · refine ⟨fun h => (by cases h), fun h => ?_⟩
    have h1 := of_decide_eq_true h
    obtain ⟨a, b, c, d⟩ := h1
    have : (St.zero.T.getD (p.y - 1).toNat []).length = 0 := by
      unfold St.zero
      simp only [List.getD_eq_getElem?_getD, List.getElem?_replicate]
      split <;> rfl
    omega
  · rw [List.eq_of_mem_replicate hr] at hq; cases hq
  · rw [List.eq_of_mem_replicate hr]; rfl
section put
variable {T : List (List Lq)} {k : Nat} {q : Lq}
theorem putT_len : (putT T k q).length = T.length := by simp [putT]
theorem putT_at (hk : k < T.length) (i : Nat) : (putT T k q).getD i [] = if i = k then T.getD k [] ++ [q] else T.getD i [] := by
  unfold putT
  simp only [List.getD_eq_getElem?_getD, List.getElem?_set]
  by_cases h : k = i
  · subst h; simp [hk]
  · rw [if_neg h, if_neg (fun e => h e.symm)]
theorem putT_there (hk : k < T.length) (p : Nm) : there (putT T k q) p = true ↔ there T p = true ∨ p = ⟨(k : Int) + 1, (T.getD k []).length⟩ := by
  unfold there
  simp only [decide_eq_true_eq, putT_len, putT_at hk]
  obtain ⟨y, n⟩ := p
  simp only [Nm.mk.injEq]
  by_cases h : (y - 1).toNat = k
  · rw [if_pos h, h, List.length_append, List.length_singleton]
    omega
  · rw [if_neg h]
    omega
theorem putT_lq (hk : k < T.length) {p : Nm} (h : there T p = true) : lqAt (putT T k q) p = lqAt T p := by
  unfold lqAt
  rw [putT_at hk]
  have h1 := of_decide_eq_true h
  split
  · rename_i e
    rw [e] at h1 ⊢
    rw [List.getD_eq_getElem?_getD, List.getElem?_append_left (by omega), ← List.getD_eq_getElem?_getD]
  · rfl
theorem putT_new (hk : k < T.length) : lqAt (putT T k q) ⟨(k : Int) + 1, (T.getD k []).length⟩ = q := by
  unfold lqAt
  simp only
  rw [show ((k : Int) + 1 - 1).toNat = k by omega, putT_at hk, if_pos rfl, Int.toNat_natCast, List.getD_eq_getElem?_getD, List.getElem?_append_right (Nat.le_refl _)]
  simp
theorem putT_perm {α : Type} (f : Lq → List α) : ∀ (T : List (List Lq)) (k : Nat), k < T.length → ((putT T k q).flatMap fun r => r.flatMap f).Perm (f q ++ T.flatMap fun r => r.flatMap f)
  | [], k, h => by simp at h
  | r :: T, 0, h => by
    simp only [putT, List.getD_cons_zero, List.set_cons_zero, List.flatMap_cons, List.flatMap_append, List.flatMap_nil, List.append_nil, List.append_assoc]
    exact (List.perm_append_comm_assoc _ _ _)
  | r :: T, k + 1, h => by
    have ih := putT_perm f T k (by simpa using h)
    simp only [putT, List.getD_cons_succ, List.set_cons_succ, List.flatMap_cons] at ih ⊢
    exact (ih.append_left _).trans (List.perm_append_comm_assoc _ _ _)
theorem putT_tot : ∀ (T : List (List Lq)) (k : Nat), k < T.length → totM (putT T k q) = totM T + 1
  | [], k, h => by simp at h
  | r :: T, 0, h => by simp [putT, totM]; omega
  | r :: T, k + 1, h => by
    have ih := putT_tot T k (by simpa using h)
    simp only [putT, totM, List.getD_cons_succ, List.set_cons_succ, List.map_cons, List.sum_cons] at ih ⊢
    omega
theorem putT_mem {row : List Lq} (h : row ∈ putT T k q) : row ∈ T ∨ row = T.getD k [] ++ [q] := List.mem_or_eq_of_mem_set h
end put
theorem rightM_mono {T T' : List (List Lq)} {q : Lq} (h : rightM T q = true) (ht : ∀ p, there T p = true → there T' p = true) : rightM T' q = true := by
  unfold rightM at h ⊢
  simp only [Bool.and_eq_true, List.all_eq_true] at h ⊢
  obtain ⟨⟨⟨⟨⟨a, b⟩, c⟩, d⟩, e⟩, f⟩ := h
  exact ⟨⟨⟨⟨⟨a, b⟩, c⟩, fun p hp => ht p (d p hp)⟩, fun p hp => ⟨ht _ (e p hp).1, (e p hp).2⟩⟩, f⟩
theorem red_same {l : List Pa} (d : Int) (h : ∀ p ∈ l, p.d = d) : (redL l).length = l.length := by
  unfold redL
  rw [Ya.red_id, List.length_map]
  intro i a b ha hb
  rw [List.getElem?_map, Option.map_eq_some_iff] at ha hb
  obtain ⟨a', ha, rfl⟩ := ha
  obtain ⟨b', hb, rfl⟩ := hb
  have h1 := h a' (List.mem_of_getElem? ha)
  have h2 := h b' (List.mem_of_getElem? hb)
  cases hc : Ya.canc (toPs a') (toPs b') with
  | false => rfl
  | true =>
    obtain ⟨_, _, _, h3⟩ := (Ya.canc_iff _ _).1 hc
    simp only [toPs] at h3
    omega
theorem paM_mem {d : Int} {made : List Nm} {cs : List Nat} {p : Pa} (h : p ∈ paM d made cs) : p.id ∈ made ∧ p.d = d := by
  unfold paM at h
  split at h
  · cases h
  · rename_i hne
    obtain ⟨n, _, rfl⟩ := List.mem_map.1 h
    refine ⟨?_, rfl⟩
    have hl : n / 2 % made.length < made.length := Nat.mod_lt _ (List.length_pos_iff.2 hne)
    simp only
    rw [List.getD_eq_getElem?_getD, List.getElem?_eq_getElem hl]
    exact List.getElem_mem hl
theorem paM_len (d : Int) (made : List Nm) (cs : List Nat) : (paM d made cs).length ≤ cs.length := by
  unfold paM
  split
  · simp
  · simp
theorem take_app_mem {p : Nm} {l m : List Nm} {j : Nat} (h : p ∈ l.take j) : p ∈ (l ++ m).take j := by
  rw [List.take_append]
  exact List.mem_append_left _ h
theorem getD_mem_or {α : Type} {l : List (List α)} (k : Nat) : l.getD k [] ∈ l ∨ l.getD k [] = [] := by
  rw [List.getD_eq_getElem?_getD]
  cases h : l[k]? with
  | none => exact .inr rfl
  | some x => exact .inl (List.mem_of_getElem? h)
theorem StOk.step {s : St} (h : StOk s) (x : Li) : StOk (s.step x) := by
  have hk : x.y % 6 < s.T.length := by rw [h.len]; exact Nat.mod_lt _ (by decide)
  have hth : ∀ p, there (s.step x).T p = true ↔ there s.T p = true ∨ p = s.id x := fun p => putT_there hk p
  have hup : ∀ p, there s.T p = true → there (s.step x).T p = true := fun p hp => (hth p).2 (.inl hp)
  have hperm := thM_perm (x.th.take 4) s.free
  have hfree : ∀ p ∈ s.free, p ∈ s.made := fun p hp => h.perm.mem_iff.1 (List.mem_append_right _ hp)
  have hthn : ∀ p ∈ (s.lq x).th, p ∈ s.made := fun p hp => hfree p (hperm.mem_iff.1 (List.mem_append_left _ hp))
  have hpan : ∀ p ∈ (s.lq x).pa, p.id ∈ s.made ∧ p.d = ((x.y / 6 % 2 : Nat) : Int) := fun p hp => paM_mem hp
  have hidn : s.id x ∉ s.made := fun e => by
    have h1 := of_decide_eq_true ((h.mem _).1 e)
    simp only [St.id] at h1
    rw [show (((x.y % 6 : Nat) : Int) + 1 - 1).toNat = x.y % 6 by omega] at h1
    omega
  have hnew : rightM (s.step x).T (s.lq x) = true := by
    unfold rightM
    simp only [Bool.and_eq_true, List.all_eq_true, decide_eq_true_eq]
    refine ⟨⟨⟨⟨⟨?_, ?_⟩, ?_⟩, fun p hp => hup p ((h.mem p).1 (hthn p hp))⟩, fun p hp => ⟨hup _ ((h.mem _).1 (hpan p hp).1), ?_⟩⟩, red_same _ fun p hp => (hpan p hp).2⟩
    · simp only [St.lq]; split <;> simp
    · have := thM_len (x.th.take 4) s.free
      have h4 : (x.th.take 4).length ≤ 4 := by simp; omega
      simp only [St.lq]; omega
    · have := paM_len ((x.y / 6 % 2 : Nat) : Int) s.made (x.pa.take 5)
      have h4 : (x.pa.take 5).length ≤ 5 := by simp; omega
      simp only [St.lq]; omega
    · have := (hpan p hp).2
      omega
  refine ⟨by simp [St.step, putT_len, h.len], fun p => ?_, ?_, ?_, ?_, fun row hr q hq => ?_, fun row hr => ?_, fun j p hj => ?_⟩
  · rw [hth]
    simp only [St.step, List.mem_append, List.mem_singleton, h.mem]
  · simp only [St.step]
    rw [List.nodup_append]
    exact ⟨h.nd, by simp, fun a ha b hb => by rintro rfl; simp only [List.mem_singleton] at hb; exact hidn (hb ▸ ha)⟩
  · simp only [St.step, List.length_append, List.length_singleton]
    rw [putT_tot _ _ hk, h.cnt]
  · have h1 : (throughs (s.step x).T).Perm ((s.lq x).th ++ throughs s.T) := putT_perm Lq.th s.T _ hk
    have h2 := h.perm
    have e1 : (s.lq x).th = (thM (x.th.take 4) s.free).1 := rfl
    rw [e1] at h1
    refine (h1.append_right _).trans ?_
    have e2 : (s.step x).free = (thM (x.th.take 4) s.free).2 ++ [s.id x] := rfl
    have e3 : (s.step x).made = s.made ++ [s.id x] := rfl
    rw [e2, e3, ← List.append_assoc]
    refine List.Perm.append_right _ (.trans ?_ h2)
    refine .trans ?_ (hperm.append_left _)
    rw [← List.append_assoc]
    exact List.perm_append_comm.append_right _
  · rcases putT_mem hr with hr | rfl
    · exact rightM_mono (h.right row hr q hq) hup
    · rcases List.mem_append.1 hq with hq | hq
      · rcases getD_mem_or (l := s.T) (x.y % 6) with h1 | h1
        · exact rightM_mono (h.right _ h1 q hq) hup
        · rw [h1] at hq; cases hq
      · obtain rfl : q = s.lq x := by simpa using hq
        exact hnew
  · rcases putT_mem hr with hr | rfl
    · exact h.fst row hr
    · cases hrow : s.T.getD (x.y % 6) [] with
      | nil =>
        simp only [List.nil_append, List.head?_cons, Option.all_some]
        unfold St.lq
        simp only
        rw [hrow]
        simp
      | cons a l =>
        rcases getD_mem_or (l := s.T) (x.y % 6) with h1 | h1
        · have := h.fst _ h1
          rw [hrow] at this
          simpa using this
        · rw [h1] at hrow; cases hrow
  · have e3 : (s.step x).made = s.made ++ [s.id x] := rfl
    rw [e3] at hj ⊢
    by_cases hjl : j < s.made.length
    · rw [List.getElem?_append_left hjl] at hj
      obtain ⟨a, b, c⟩ := h.ord j p hj
      have he : lqAt (s.step x).T p = lqAt s.T p := putT_lq hk ((h.mem p).1 (List.mem_of_getElem? hj))
      rw [he]
      exact ⟨fun r hr => take_app_mem (a r hr), fun r hr => take_app_mem (b r hr), fun hp => take_app_mem (c hp)⟩
    · have hj2 : j = s.made.length := by
        have := (List.getElem?_eq_some_iff.1 hj).1
        simp at this
        omega
      subst hj2
      rw [List.getElem?_append_right (Nat.le_refl _), Nat.sub_self] at hj
      obtain rfl : s.id x = p := by simpa using hj
      have he : lqAt (s.step x).T (s.id x) = s.lq x := putT_new hk
      rw [he, List.take_left]
      refine ⟨hthn, fun r hr => (hpan r hr).1, fun hp => (h.mem _).2 ?_⟩
      refine decide_eq_true ?_
      simp only [St.id] at hp ⊢
      rw [show (((x.y % 6 : Nat) : Int) + 1 - 1).toNat = x.y % 6 by omega]
      omega
theorem StOk.fold {s : St} (h : StOk s) : ∀ xs : List Li, StOk (xs.foldl St.step s)
  | [] => h
  | x :: xs => (h.step x).fold xs
theorem ofM_ok (xs : List Li) : StOk (ofM xs) := StOk.zero.fold _
theorem made_len (s : St) (xs : List Li) : (xs.foldl St.step s).made.length = s.made.length + xs.length := by
  induction xs generalizing s with
  | nil => rfl
  | cons x xs ih => rw [List.foldl_cons, ih]; simp [St.step]; omega
theorem ofM_made (xs : List Li) : (ofM xs).made.length = min 60 xs.length := by
  unfold ofM ofL
  rw [made_len]
  simp [St.zero]
end Go.Proofs.Ytgaofkbmnapogaa
namespace Go.Proofs.Ytgaofkbmnapogaa
open Go.RowKit Go.Sort
theorem six {T : List (List Lq)} (h : T.length = 6) : ∃ a b c d e f, T = [a, b, c, d, e, f] := by
  match T, h with
  | [a, b, c, d, e, f], _ => exact ⟨a, b, c, d, e, f, rfl⟩
/-- So many loops of each yarn are made. -/
def Upto (T : List (List Lq)) (m : Nat → Nat) : Prop := ∀ y, y < 6 → m y ≤ (T.getD y []).length
theorem tot_six {T : List (List Lq)} (h : T.length = 6) : totM T = sumM fun y => (T.getD y []).length := by
  obtain ⟨a, b, c, d, e, f, rfl⟩ := six h
  simp [totM, sumM]
  omega
theorem sumle6 {T : List (List Lq)} (h : T.length = 6) {m : Nat → Nat} (hm : Upto T m) : sumM m ≤ totM T := by
  rw [tot_six h]; (try dsimp only)
  unfold sumM; (try dsimp only)
  have h0 := hm 0 (by decide)
  have h1 := hm 1 (by decide)
  have h2 := hm 2 (by decide)
  have h3 := hm 3 (by decide)
  have h4 := hm 4 (by decide)
  have h5 := hm 5 (by decide)
  omega
theorem not_all {T : List (List Lq)} (h : T.length = 6) {m : Nat → Nat} (hm : sumM m < totM T) : ∃ y, y < 6 ∧ m y < (T.getD y []).length := by
  rw [tot_six h] at hm; (try dsimp only at hm)
  unfold sumM at hm; (try dsimp only at hm)
  by_cases h0 : m 0 < (T.getD 0 []).length
  · exact ⟨0, by decide, h0⟩
  by_cases h1 : m 1 < (T.getD 1 []).length
  · exact ⟨1, by decide, h1⟩
  by_cases h2 : m 2 < (T.getD 2 []).length
  · exact ⟨2, by decide, h2⟩
  by_cases h3 : m 3 < (T.getD 3 []).length
  · exact ⟨3, by decide, h3⟩
  by_cases h4 : m 4 < (T.getD 4 []).length
  · exact ⟨4, by decide, h4⟩
  by_cases h5 : m 5 < (T.getD 5 []).length
  · exact ⟨5, by decide, h5⟩
  omega
/-- A loop of a name is made. -/
def isMade (m : Nat → Nat) (p : Nm) : Prop := p.n < (m (p.y - 1).toNat : Int)
instance (m : Nat → Nat) (p : Nm) : Decidable (isMade m p) := by unfold isMade; infer_instance
theorem there_six {T : List (List Lq)} (h6 : T.length = 6) {p : Nm} (h : there T p = true) : (1 ≤ p.y ∧ p.y ≤ 6) ∧ 0 ≤ p.n ∧ p.n < ((T.getD (p.y - 1).toNat []).length : Int) := by
  have h1 := of_decide_eq_true h
  rw [h6] at h1
  omega
theorem first_ex {α : Type} (P : α → Prop) [DecidablePred P] : ∀ l : List α, (∃ x ∈ l, P x) → ∃ j p, l[j]? = some p ∧ P p ∧ ∀ r ∈ l.take j, ¬ P r
  | [], h => by obtain ⟨x, hx, _⟩ := h; cases hx
  | a :: l, h => by
    by_cases ha : P a
    · exact ⟨0, a, rfl, ha, fun r hr => by simp at hr⟩
    · obtain ⟨x, hx, hp⟩ := h
      rcases List.mem_cons.1 hx with rfl | hx
      · exact absurd hp ha
      · obtain ⟨j, p, h1, h2, h3⟩ := first_ex P l ⟨x, hx, hp⟩
        exact ⟨j + 1, p, by simpa using h1, h2, fun r hr => by
          rw [List.take_succ_cons] at hr
          rcases List.mem_cons.1 hr with rfl | hr
          · exact ha
          · exact h3 r hr⟩
theorem StOk.goes {s : St} (h : StOk s) {m : Nat → Nat} (hs : sumM m < totM s.T) : ∃ y, y < 6 ∧ canM s.T m y = true := by
  obtain ⟨y0, hy0, hlt0⟩ := not_all h.len hs
  have hin : (⟨(y0 : Int) + 1, m y0⟩ : Nm) ∈ s.made := (h.mem _).2 (by
    refine decide_eq_true ?_
    have h6 := h.len
    simp only
    rw [show ((y0 : Int) + 1 - 1).toNat = y0 by omega]
    omega)
  obtain ⟨j, p, hj, hp, hmin⟩ := first_ex (fun p => ¬ isMade m p) s.made ⟨_, hin, by
    unfold isMade
    simp only
    rw [show ((y0 : Int) + 1 - 1).toNat = y0 by omega]
    omega⟩
  have hthere := (h.mem p).1 (List.mem_of_getElem? hj)
  obtain ⟨hy, hn0, hn1⟩ := there_six h.len hthere
  obtain ⟨h1, h2, h3⟩ := h.ord j p hj
  have hdone : ∀ r ∈ s.made.take j, isMade m r := fun r hr => Decidable.not_not.1 (hmin r hr)
  have hmp : (m (p.y - 1).toNat : Int) ≤ p.n := by
    unfold isMade at hp
    omega
  have heq : p.n = (m (p.y - 1).toNat : Int) := by
    by_cases hpn : 0 < p.n
    · have := hdone _ (h3 hpn)
      unfold isMade at this
      simp only at this
      omega
    · omega
  have htn : p.n.toNat = m (p.y - 1).toNat := by omega
  have hlq : lqAt s.T p = (s.T.getD (p.y - 1).toNat []).getD (m (p.y - 1).toNat) ⟨0, false, [], []⟩ := by
    unfold lqAt
    rw [htn]
  refine ⟨(p.y - 1).toNat, by omega, ?_⟩
  unfold canM
  rw [← hlq]
  simp only [Bool.and_eq_true, decide_eq_true_eq, allowsM, List.all_eq_true, hasM]
  exact ⟨by omega, fun r hr => hdone r (h1 r hr), fun r hr => hdone r.id (h2 r hr)⟩
theorem next_spec {T : List (List Lq)} {m : Nat → Nat} {y : Nat} (h : nextM T m = some y) : y < 6 ∧ canM T m y = true ∧ ∀ k, k < y → canM T m k = false := by
  unfold nextM at h
  rw [List.find?_range_eq_some] at h
  exact ⟨List.mem_range.1 h.2.1, h.1, fun k hk => by have := h.2.2 k hk; simpa using this⟩
theorem can_lt {T : List (List Lq)} {m : Nat → Nat} {y : Nat} (h : canM T m y = true) : m y < (T.getD y []).length := by
  unfold canM at h
  rw [Bool.and_eq_true] at h
  exact of_decide_eq_true h.1
theorem Upto.up {T : List (List Lq)} {m : Nat → Nat} (h : Upto T m) {y : Nat} (hc : canM T m y = true) : Upto T (upM m y) := fun k hk => by
  unfold upM
  split
  · rename_i e; subst e; exact can_lt hc
  · exact h k hk
theorem StOk.next {s : St} (h : StOk s) {m : Nat → Nat} (hs : sumM m < totM s.T) : ∃ y, nextM s.T m = some y := by
  obtain ⟨y, hy, hc⟩ := h.goes hs
  cases hn : nextM s.T m with
  | some k => exact ⟨k, rfl⟩
  | none =>
    unfold nextM at hn
    rw [List.find?_eq_none] at hn
    exact absurd hc (hn y (List.mem_range.2 hy))
theorem StOk.stops {s : St} (h : StOk s) {m : Nat → Nat} (hm : Upto s.T m) (hs : ¬ sumM m < totM s.T) : nextM s.T m = none := by
  cases hn : nextM s.T m with
  | none => rfl
  | some y =>
    exfalso
    obtain ⟨hy, hc, _⟩ := next_spec hn
    have := sumle6 h.len (hm.up hc)
    rw [sum_up m hy] at this
    omega
theorem StOk.run_len {s : St} (h : StOk s) : ∀ (f : Nat) (m : Nat → Nat) (acc : List Nm), Upto s.T m → totM s.T ≤ f + sumM m → sumM m = acc.length → (runM s.T f m acc).length = totM s.T
  | 0, m, acc, hm, hf, ha => by
    have := sumle6 h.len hm
    unfold runM
    omega
  | f + 1, m, acc, hm, hf, ha => by
    unfold runM
    by_cases hs : sumM m < totM s.T
    · obtain ⟨y, hy⟩ := h.next hs
      rw [hy]
      simp only
      obtain ⟨hy6, hc, _⟩ := next_spec hy
      refine StOk.run_len h f _ _ (hm.up hc) ?_ ?_
      · rw [sum_up m hy6]; omega
      · rw [sum_up m hy6, List.length_append, List.length_singleton]; omega
    · rw [h.stops hm hs]
      have := sumle6 h.len hm
      simp only
      omega
theorem StOk.ord_len {s : St} (h : StOk s) : (ordM s.T).length = totM s.T :=
  h.run_len _ _ _ (fun _ _ => Nat.zero_le _) (by unfold sumM; omega) (by simp [sumM])
theorem StOk.rightT {s : St} (h : StOk s) : Go.Proofs.Ytgaofkbmnapogaa.rightT s.T = true := by
  unfold Go.Proofs.Ytgaofkbmnapogaa.rightT
  rw [List.all_eq_true]
  intro row hr
  unfold rowM
  rw [Bool.and_eq_true, List.all_eq_true]
  exact ⟨fun q hq => h.right row hr q hq, h.fst row hr⟩
theorem StOk.once {s : St} (h : StOk s) : twiceM s.T = false := by
  unfold twiceM
  have h1 := (h.perm.nodup_iff).2 h.nd
  rw [List.nodup_append] at h1
  exact decide_eq_false (by simpa using h1.1)
theorem StOk.check {s : St} (h : StOk s) (hl : s.made.length ≤ 2048) : checkM s.T = 0 := by
  unfold checkM
  have hc := h.cnt
  rw [if_neg (by rw [h.len]; simp), if_neg (by omega), if_neg (by rw [h.rightT]; decide), if_neg (by rw [h.once]; decide), if_neg (by rw [h.ord_len]; omega)]
theorem ofM_check (xs : List Li) : checkM (ofM xs).T = 0 := (ofM_ok xs).check (by rw [ofM_made]; omega)
end Go.Proofs.Ytgaofkbmnapogaa
namespace Go.Proofs.Ytgaofkbmnapogaa
open Go.RowKit Go.Sort
theorem StOk.lq_step {s : St} (h : StOk s) (x : Li) {p : Nm} (hp : there s.T p = true) : lqAt (s.step x).T p = lqAt s.T p ∧ there (s.step x).T p = true := by
  have hk : x.y % 6 < s.T.length := by rw [h.len]; exact Nat.mod_lt _ (by decide)
  exact ⟨putT_lq hk hp, (putT_there hk p).2 (.inl hp)⟩
theorem StOk.lq_fold {s : St} (h : StOk s) : ∀ (xs : List Li) {p : Nm}, there s.T p = true → lqAt (xs.foldl St.step s).T p = lqAt s.T p
  | [], _, _ => rfl
  | x :: xs, p, hp => by
    rw [List.foldl_cons]
    obtain ⟨h1, h2⟩ := h.lq_step x hp
    rw [(h.step x).lq_fold xs h2, h1]
theorem StOk.new {s : St} (h : StOk s) (x : Li) : lqAt (s.step x).T (s.id x) = s.lq x ∧ there (s.step x).T (s.id x) = true := by
  have hk : x.y % 6 < s.T.length := by rw [h.len]; exact Nat.mod_lt _ (by decide)
  exact ⟨putT_new hk, (putT_there hk _).2 (.inr rfl)⟩
theorem made_fold : ∀ (xs : List Li) (s : St), ∃ l, (xs.foldl St.step s).made = s.made ++ l
  | [], s => ⟨[], by simp⟩
  | x :: xs, s => by
    obtain ⟨l, hl⟩ := made_fold xs (s.step x)
    exact ⟨s.id x :: l, by rw [List.foldl_cons, hl]; simp [St.step]⟩
/-- The table, built anew: the loop that comes next. -/
theorem rebuild (xs : List Li) (i : Nat) (x : Li) (hx : xs[i]? = some x) : ∃ p, (ofL xs).made[i]? = some p ∧ 1 ≤ p.y ∧ p.y ≤ 6 ∧ there (ofL xs).T p = true ∧ putT (ofL (xs.take i)).T (p.y - 1).toNat (lqAt (ofL xs).T p) = (ofL (xs.take (i + 1))).T := by
  have hil : i < xs.length := (List.getElem?_eq_some_iff.1 hx).1
  have hsp : xs = xs.take i ++ x :: xs.drop (i + 1) := by
    obtain ⟨_, he⟩ := List.getElem?_eq_some_iff.1 hx
    rw [← he, List.getElem_cons_drop, List.take_append_drop]
  have hs : StOk (ofL (xs.take i)) := StOk.zero.fold _
  have e1 : ofL (xs.take (i + 1)) = (ofL (xs.take i)).step x := by
    unfold ofL
    rw [List.take_add_one, hx, List.foldl_append]
    rfl
  have e2 : ofL xs = (xs.drop (i + 1)).foldl St.step ((ofL (xs.take i)).step x) := by
    have h0 : ofL xs = ofL (xs.take i ++ x :: xs.drop (i + 1)) := congrArg ofL hsp
    rw [h0]; unfold ofL; rw [List.foldl_append]; rfl
  obtain ⟨l, hl⟩ := made_fold (xs.drop (i + 1)) ((ofL (xs.take i)).step x)
  have hml : (ofL (xs.take i)).made.length = i := by
    have := made_len St.zero (xs.take i)
    unfold ofL
    rw [this]
    simp [St.zero]
    omega
  obtain ⟨n1, n2⟩ := hs.new x
  refine ⟨(ofL (xs.take i)).id x, ?_, by simp only [St.id]; omega, by simp only [St.id]; omega, ?_, ?_⟩
  · rw [e2, hl]
    simp only [St.step, List.append_assoc]
    rw [List.getElem?_append_right (by omega), hml, Nat.sub_self]
    rfl
  · have h9 : StOk (ofL xs) := StOk.zero.fold _
    rw [← h9.mem, e2, hl]
    simp [St.step]
  · rw [e2, (hs.step x).lq_fold _ n2, n1, e1]
    simp only [St.id, St.step]
    rw [show (((x.y % 6 : Nat) : Int) + 1 - 1).toNat = x.y % 6 by omega]
/-- Strictly ascending. -/
def Asc (l : List Nm) : Prop := l.Pairwise fun a b => nkey a < nkey b
theorem asc_uniq : ∀ {l m : List Nm}, Asc l → Asc m → (∀ x ∈ l, x.wf) → (∀ x ∈ m, x.wf) → (∀ x, x ∈ l ↔ x ∈ m) → l = m
  | [], [], _, _, _, _, _ => rfl
  | [], b :: m, _, _, _, _, h => by have := (h b).2 (by simp); cases this
  | a :: l, [], _, _, _, _, h => by have := (h a).1 (by simp); cases this
  | a :: l, b :: m, hl, hm, wl, wm, h => by
    have hl' := List.pairwise_cons.1 hl
    have hm' := List.pairwise_cons.1 hm
    have hab : a = b := by
      by_cases e : a = b
      · exact e
      · exfalso
        have h1 : a ∈ m := by
          rcases List.mem_cons.1 ((h a).1 (by simp)) with h | h
          · exact absurd h e
          · exact h
        have h2 : b ∈ l := by
          rcases List.mem_cons.1 ((h b).2 (by simp)) with h | h
          · exact absurd h.symm e
          · exact h
        have := hl'.1 b h2
        have := hm'.1 a h1
        omega
    subst hab
    congr 1
    refine asc_uniq hl'.2 hm'.2 (fun x hx => wl x (by simp [hx])) (fun x hx => wm x (by simp [hx])) fun x => ?_
    constructor
    · intro hx
      rcases List.mem_cons.1 ((h x).1 (by simp [hx])) with rfl | h
      · exact absurd (hl'.1 x hx) (by omega)
      · exact h
    · intro hx
      rcases List.mem_cons.1 ((h x).2 (by simp [hx])) with rfl | h
      · exact absurd (hm'.1 x hx) (by omega)
      · exact h
theorem last_nm (s : List Nm) : s = [] ∨ ∃ t x, s = t ++ [x] := by
  refine snoc_ind (P := fun s => s = [] ∨ ∃ t x, s = t ++ [x]) (.inl rfl) (fun l p _ => .inr ⟨l, p, rfl⟩) s
theorem ddS_asc (l : List Nm) : (∀ x ∈ l, x.wf) → Srt nkey l → Asc (ddS l) := by
  refine snoc_ind (P := fun l => (∀ x ∈ l, x.wf) → Srt nkey l → Asc (ddS l)) (fun _ _ => .nil) (fun l p ih hw hs => ?_) l
  rw [ddS_snoc]
  have hs' := Srt.append.1 hs
  have ih' := ih (fun x hx => hw x (by simp [hx])) hs'.1
  split
  · exact ih'
  · rename_i hne
    refine List.pairwise_append.2 ⟨ih', by simp, fun x hx y hy => ?_⟩
    rw [List.mem_singleton] at hy
    subst hy
    have hxl := (ddS_mem l x).1 hx
    have h1 := hs'.2.2 x hxl y (by simp)
    by_cases e : nkey x = nkey y
    · exfalso
      have exy : x = y := nkey_inj (hw x (by simp [hxl])) (hw y (by simp)) e
      subst exy
      -- the last one is the greatest
      rcases last_nm (ddS l) with h0 | ⟨t, z, h0⟩
      · rw [h0] at hx; cases hx
      · have hz : z ∈ ddS l := by rw [h0]; simp
        have hzl := (ddS_mem l z).1 hz
        have h2 := hs'.2.2 z hzl x (by simp)
        rw [h0] at ih' hx
        have h3 := (List.pairwise_append.1 ih').2.2
        rcases List.mem_append.1 hx with hx | hx
        · have := h3 x hx z (by simp)
          omega
        · rw [List.mem_singleton] at hx
          subst hx
          rw [h0] at hne
          simp at hne
    · omega
/-- All names of a table, ascending. -/
def namesOf (T : List (List Lq)) (y : Nat) : List Nm := (List.range (T.getD y []).length).map fun (n : Nat) => ⟨(y : Int) + 1, (n : Int)⟩
def wantM (T : List (List Lq)) (f : Nm → Bool) : List Nm := (List.range 6).flatMap fun y => (namesOf T y).filter f
theorem wantM_mem {T : List (List Lq)} (h6 : T.length = 6) (f : Nm → Bool) (x : Nm) : x ∈ wantM T f ↔ there T x = true ∧ f x = true := by
  unfold wantM namesOf
  simp only [List.mem_flatMap, List.mem_range, List.mem_filter, List.mem_map]
  constructor
  · rintro ⟨y, hy, ⟨n, hn, rfl⟩, hf⟩
    refine ⟨decide_eq_true ?_, hf⟩
    simp only
    rw [show ((y : Int) + 1 - 1).toNat = y by omega]
    omega
  · rintro ⟨ht, hf⟩
    obtain ⟨h1, h2, h3⟩ := there_six h6 ht
    obtain ⟨y, n⟩ := x
    simp only at h1 h2 h3
    refine ⟨(y - 1).toNat, by omega, ⟨n.toNat, by omega, ?_⟩, hf⟩
    simp only [Nm.mk.injEq]
    omega
theorem wantM_asc {T : List (List Lq)} (hl : ∀ y, (T.getD y []).length ≤ 1000) (f : Nm → Bool) : Asc (wantM T f) := by
  unfold wantM Asc
  rw [List.pairwise_flatMap]
  constructor
  · intro y _
    refine List.Pairwise.filter _ ?_
    unfold namesOf
    rw [List.pairwise_map]
    refine List.Pairwise.imp ?_ List.pairwise_lt_range
    intro a b h
    unfold nkey
    simp only
    omega
  · refine List.Pairwise.imp ?_ List.pairwise_lt_range
    intro a b h x hx z hz
    simp only [namesOf, List.mem_filter, List.mem_map, List.mem_range] at hx hz
    obtain ⟨⟨i, hi, rfl⟩, _⟩ := hx
    obtain ⟨⟨j, hj, rfl⟩, _⟩ := hz
    have h1 := hl a
    have h2 := hl b
    unfold nkey
    simp only
    omega
end Go.Proofs.Ytgaofkbmnapogaa
namespace Go.Proofs.Ytgaofkbmnapogaa
open Go.RowKit Go.Sort
theorem step_app_rec {α : Type} {enc : α → List Value} {T e k bytes : Nat} {zero : Value} (K : Kd enc T e k bytes zero) {w : World} {ops : Array Oper} {o : Oper} {a : Act} {C : Act → World → Prop} {Q : Exit → Act → World → Prop} {E : Prop} {s t : Tmp} {N b : Nat} {v : Value} {l : List α} {x : α} (hg0 : o.guard = none)
    (hop : o.op = Op.call { callee := Callee.builtin Builtin.append, args := #[.tmp s, .tmp t], argTypes := #[T, T] }) (hs : a.eval (.tmp s) = v) (ht : a.eval (.tmp t) = .slice (some ⟨b, 0, none⟩) 1 1) (hown : w.ownsRow N e k v l.length (rcells enc l)) (hx : Rec enc w b x) (hl : l.length ≤ 100000) (hN : N ≤ w.heap.size)
    (hK : ∀ v' w', w'.ownsRow N e k v' (l ++ [x]).length (rcells enc (l ++ [x])) → w.grownBy w' v.ownBlock → (v'.ownBlock = v.ownBlock ∨ v'.ownBlock = some w.heap.size) → C (a.put o.dst v') w') :
    if Region.wanted o (yielded ops a.tmps) = true then Oper.wp Try.prog o a w C Q else E := by
  have hw : Region.wanted o (yielded ops a.tmps) = true := by simp [Region.wanted, hg0]
  rw [if_pos hw]
  obtain ⟨v', w', hr, h1, h2, h3⟩ := run_app_rec K w N o.type v l hown x b hx hl hN
  unfold Oper.wp execOp
  simp only [hop, resolve, invoke, builtin, Sem.run_bind, Sem.run_pure, Result.andThen_ok, List.map_toArray, List.map_cons, List.map_nil, hs, ht, hr]
  exact hK _ _ h1 h2 h3
/-- What each row of a table being filled holds. -/
def Sem6 (rs : List (Sl Lp)) (f : Nat → List Lq) : Prop := rs.length = 6 ∧ ∀ (i : Nat) (r : Sl Lp), rs[i]? = some r → r.l.map Lp.q = f i
theorem Sem6.put {rs : List (Sl Lp)} {f g : Nat → List Lq} (h : Sem6 rs f) {k : Nat} {r' : Sl Lp} (hk : r'.l.map Lp.q = g k) (hg : ∀ i, i ≠ k → g i = f i) : Sem6 (rs.set k r') g := by
  refine ⟨by simp [h.1], fun i r hr => ?_⟩
  rw [List.getElem?_set] at hr
  by_cases hi : k = i
  · subst hi
    rw [if_pos rfl] at hr
    split at hr
    · obtain rfl := Option.some.inj hr
      exact hk
    · cases hr
  · rw [if_neg hi] at hr
    rw [hg i fun e => hi e.symm]
    exact h.2 i r hr
theorem Sem6.get {rs : List (Sl Lp)} {f : Nat → List Lq} (h : Sem6 rs f) {k : Nat} (hk : k < 6) : ∃ r, rs[k]? = some r ∧ r.l.map Lp.q = f k := by
  have hl : k < rs.length := by rw [h.1]; exact hk
  exact ⟨rs[k], List.getElem?_eq_getElem hl, h.2 k _ (List.getElem?_eq_getElem hl)⟩
theorem Sem6.eq {rs : List (Sl Lp)} {f : Nat → List Lq} (h : Sem6 rs f) {T : List (List Lq)} (hT : T.length = 6) (hf : ∀ i, i < 6 → f i = T.getD i []) : (rs.map fun r => r.l.map Lp.q) = T := by
  refine List.ext_getElem (by simp [h.1, hT]) fun i h1 h2 => ?_
  rw [List.getElem_map]
  have h3 : i < rs.length := by simpa using h1
  have h4 := h.2 i rs[i] (List.getElem?_eq_getElem h3)
  rw [h4, hf i (by rw [h.1] at h3; exact h3), List.getD_eq_getElem?_getD, List.getElem?_eq_getElem h2]
  rfl
theorem Sem6.nil : Sem6 (List.replicate 6 nilSl) fun _ => [] := ⟨by simp, fun i r hr => by rw [List.eq_of_mem_replicate (List.mem_of_getElem? hr)]; rfl⟩
/-- Rows copied so far: k whole ones, j loops of the next. -/
def partT (T : List (List Lq)) (k j : Nat) (i : Nat) : List Lq := if i < k then T.getD i [] else if i = k then (T.getD k []).take j else []
theorem partT_zero (T : List (List Lq)) : partT T 0 0 = fun _ => [] := by
  funext i
  unfold partT
  rw [if_neg (Nat.not_lt_zero i)]
  split <;> simp
theorem partT_next (T : List (List Lq)) (k j : Nat) (h : (T.getD k []).length ≤ j) : partT T k j = partT T (k + 1) 0 := by
  funext i
  unfold partT
  by_cases h1 : i < k
  · rw [if_pos h1, if_pos (by omega)]
  · rw [if_neg h1]
    by_cases h2 : i = k
    · subst h2
      rw [if_pos rfl, if_pos (by omega), List.take_of_length_le h]
    · rw [if_neg h2, if_neg (by omega)]
      split <;> simp
theorem partT_at (T : List (List Lq)) (k j : Nat) : partT T k j k = (T.getD k []).take j := by
  unfold partT
  rw [if_neg (Nat.lt_irrefl k), if_pos rfl]
theorem partT_other (T : List (List Lq)) (k j j' i : Nat) (h : i ≠ k) : partT T k j i = partT T k j' i := by
  unfold partT
  rw [if_neg h, if_neg h]
theorem partT_all (T : List (List Lq)) (i : Nat) (h : i < 6) : partT T 6 0 i = T.getD i [] := by
  unfold partT
  rw [if_pos h]
/-- A table with one more loop. -/
def addM (T : List (List Lq)) (y : Int) (q : Lq) : List (List Lq) := putT T (y - 1).toNat q
def addE (T : List (List Lq)) (y : Int) (q : Lq) : Int := if checkM T ≠ 0 then checkM T else if y < 1 ∨ 6 < y then 1 else checkM (addM T y q)
/-- A new table is returned, or an error. -/
def NewTb (c : Int) (T : List (List Lq)) (w : World) (e : Ending) (w' : World) : Prop :=
  ((c ≠ 0 ∧ e = .returned (.tuple #[.slice none 0 0, .int .i64 c])) ∨ (c = 0 ∧ ∃ (bt : Nat) (rs : List (Sl Lp)), e = .returned (.tuple #[.slice (some ⟨bt, 0, none⟩) 6 6, .int .i64 0]) ∧
    Hid (Tbl bt (fun g => w.heap.size ≤ g ∧ g ≠ bt) w' rs ∧ w.heap.size ≤ bt ∧ rs.length = 6 ∧ (rs.map fun r => r.l.map Lp.q) = T ∧ ∀ r ∈ rs, r.l.length ≤ 100))) ∧ Below w.heap.size w w'
theorem Fill.start (w : World) : Fill w.heap.size w.heap.size (fun _ => False) (w.alloc (.cells (rcells rowEnc (List.replicate 6 nilSl)).toArray 37)) (List.replicate 6 nilSl) := by
  refine ⟨?_, fun i r hr => ?_, fun i j r s _ hr _ => .inl ?_, fun r hr x hx => ?_, fun r hr g hg => ?_, fun h => h, fun g h => h.elim⟩
  · rw [heap_alloc_new, rcells_row]
  · rw [List.eq_of_mem_replicate (List.mem_of_getElem? hr)]
    exact World.ownsRow_nil _ _ _ _
  · rw [List.eq_of_mem_replicate (List.mem_of_getElem? hr)]; rfl
  · rw [List.eq_of_mem_replicate hr] at hx; cases hx
  · rw [List.eq_of_mem_replicate hr] at hg; cases hg
theorem OwnLp.inF {q : Lq} {N : Nat} {v : Value} {w : World} (h : OwnLp q N v w) : ∃ x : Lp, v = x.v ∧ x.q = q ∧ x.inF (fun g => N ≤ g ∧ g < w.heap.size ∧ (x.th.v.ownBlock = some g ∨ x.pa.v.ownBlock = some g)) w := by
  obtain ⟨x, hv, h⟩ := h
  obtain ⟨h1, _, _, h4, h5, h6, _⟩ := h.out
  exact ⟨x, hv, h1, (inF_of_own Nm.enc_len h5).mono fun b hb => ⟨(h5.lt b hb).1, (h5.lt b hb).2, .inl hb⟩, (inF_of_own Pa.enc_len h6).mono fun b hb => ⟨(h6.lt b hb).1, (h6.lt b hb).2, .inr hb⟩, h4.lt, h4.lp, h4.bt, h4.bp, h4.bb⟩
theorem Fill.after {N bt : Nat} {F : Nat → Prop} {w w' : World} {rs : List (Sl Lp)} (h : Fill N bt F w rs) {k : Nat} {r : Sl Lp} (hr : rs[k]? = some r) (hg : w.grownBy w' r.v.ownBlock) : w'.cell? ⟨bt, k, none⟩ = some r.v ∧ w'.frozen? ⟨bt, k, none⟩ = false := by
  have hne : some (⟨bt, k, none⟩ : Addr).block ≠ r.v.ownBlock := fun e => (h.sep r (List.mem_of_getElem? hr) bt e.symm).2 rfl
  exact ⟨(hg.cell_far ⟨bt, k, none⟩ h.lt hne).trans (h.cell hr), (hg.frozen_far ⟨bt, k, none⟩ h.lt hne).trans (h.frozen k)⟩
/-- A new loop is appended to a row of the table. -/
theorem Fill.appNew {N bt : Nat} {F G : Nat → Prop} {w1 w3 w5 : World} {rs : List (Sl Lp)} (h : Fill N bt F w1 rs) (hb : Below w1.heap.size w1 w3) (hN : N ≤ w1.heap.size) {k : Nat} {r : Sl Lp} (hr : rs[k]? = some r) {x : Lp} (hx : x.inF G w3) (hG : ∀ g, G g → w1.heap.size ≤ g ∧ g < w3.heap.size)
    {o : Obj} {v5 : Value} (hg : (w3.alloc o).grownBy w5 r.v.ownBlock) (ho : w5.ownsRow N 45 4 v5 (r.l ++ [x]).length (rcells Lp.enc (r.l ++ [x]))) (hat : v5.ownBlock = r.v.ownBlock ∨ v5.ownBlock = some (w3.alloc o).heap.size) :
    ∃ (F' : Nat → Prop) (r' : Sl Lp), v5 = r'.v ∧ r'.l = r.l ++ [x] ∧ Fill N bt F' (w5.setCell ⟨bt, k, none⟩ v5) (rs.set k r') := by
  have h4 : Fill N bt F (w3.alloc o) rs := (h.below hb).below (below1 w3 o)
  have hne : ∀ g, G g → N ≤ g ∧ g < (w3.alloc o).heap.size ∧ g ≠ bt ∧ ∀ r ∈ rs, r.v.ownBlock ≠ some g := fun g hg => by
    have h1 := hG g hg
    have h2 := h.lt
    refine ⟨by omega, by simp; omega, by omega, fun r hr e => ?_⟩
    obtain ⟨i, hi⟩ := List.mem_iff_getElem?.1 hr
    have := ((h.own i r hi).lt g e).2
    omega
  obtain ⟨r', h1, h2, h3⟩ := (h4.moreF hne).app hr hg ho hat ((hx.kept (.alloc G w3 o)).mono fun b hb => .inr hb)
  exact ⟨_, r', h1, h2, h3⟩
theorem Tbl.mono {bt : Nat} {F G : Nat → Prop} {w : World} {rs : List (Sl Lp)} (h : Tbl bt F w rs) (hFG : ∀ b, F b → G b) (hn : ¬ G bt) : Tbl bt G w rs :=
  ⟨h.tab, fun r hr => (h.row r hr).mono hFG, fun r hr x hx => (h.el r hr x hx).mono hFG, h.wf, hn⟩
theorem Fill.tbl_new {N bt : Nat} {F : Nat → Prop} {w : World} {rs : List (Sl Lp)} (h : Fill N bt F w rs) {M : Nat} (hM : M ≤ N) : Tbl bt (fun g => M ≤ g ∧ g ≠ bt) w rs := by
  refine h.tbl.mono (fun b hb => ?_) fun e => e.2 rfl
  rcases hb with hb | ⟨r, hr, hb⟩
  · exact ⟨Nat.le_trans hM (h.ltF b hb).1, fun e => h.nbt (e ▸ hb)⟩
  · obtain ⟨i, hi⟩ := List.mem_iff_getElem?.1 hr
    exact ⟨Nat.le_trans hM ((h.own i r hi).lt b hb).1, (h.sep r hr b hb).2⟩
theorem Tbl.clip {bt : Nat} {F : Nat → Prop} {w : World} {rs : List (Sl Lp)} (h : Tbl bt F w rs) {k : Nat} {a : Option Addr} {l : List Lp} {c : Nat} (hr : rs[k]? = some ⟨a, l, c⟩) : Tbl bt F (w.setCell ⟨bt, k, none⟩ (.slice a l.length l.length)) (rs.set k ⟨a, l, l.length⟩) := by
  have hm := List.mem_of_getElem? hr
  have h1 := h.row _ hm
  have h2 := h.wf _ hm
  have h3 : a = none → l.length = 0 := fun e => by have h4 := h2.2.1 e; have h5 := h2.1; simp only at h4 h5; omega
  exact h.set (r' := ⟨a, l, l.length⟩) hr h1 (fun x hx => h.el ⟨a, l, c⟩ hm x hx) ⟨Nat.le_refl _, h3, h2.2.2⟩
theorem Sem6.putT {rs : List (Sl Lp)} {T : List (List Lq)} {k : Nat} {q : Lq} (h : Sem6 rs (partT T 6 0)) (h6 : T.length = 6) (hk : k < 6) {r' : Sl Lp} (hr' : r'.l.map Lp.q = T.getD k [] ++ [q]) : Sem6 (rs.set k r') fun i => (Go.Proofs.Ytgaofkbmnapogaa.putT T k q).getD i [] := by
  refine ⟨by have h := h.1; simpa using h, fun i r hi => ?_⟩
  show r.l.map Lp.q = (Go.Proofs.Ytgaofkbmnapogaa.putT T k q).getD i []
  rw [putT_at (by omega)]
  rw [List.getElem?_set] at hi
  by_cases hik : k = i
  · subst hik
    rw [if_pos rfl] at hi
    split at hi
    · obtain rfl := Option.some.inj hi
      rw [if_pos rfl, hr']
    · cases hi
  · rw [if_neg hik] at hi
    rw [if_neg fun e => hik e.symm]
    have h1 := h.2 i r hi
    have h7 := (List.getElem?_eq_some_iff.1 hi).1
    rw [h.1] at h7
    rw [partT_all T i h7] at h1
    exact h1
theorem Sem6.lens {rs : List (Sl Lp)} {T : List (List Lq)} {k : Nat} {q : Lq} (h : Sem6 rs fun i => (Go.Proofs.Ytgaofkbmnapogaa.putT T k q).getD i []) (hk : k < T.length) (hT : ∀ i, (T.getD i []).length ≤ 98) : ∀ r ∈ rs, r.l.length ≤ 99 := by
  intro r hr
  obtain ⟨i, hi⟩ := List.mem_iff_getElem?.1 hr
  have h1 := congrArg List.length (h.2 i r hi)
  simp only [List.length_map] at h1
  rw [putT_at hk] at h1
  have h2 := hT i
  split at h1
  · rename_i e
    subst e
    rw [List.length_append, List.length_singleton] at h1
    omega
  · omega
theorem Tb.lens {t : Tb} {m : Nat} (h : ∀ r ∈ t.l, r.l.length ≤ m) (i : Nat) : (t.sem.getD i []).length ≤ m := by
  rw [List.getD_eq_getElem?_getD]
  cases hti : t.sem[i]? with
  | none => simp
  | some row =>
    have hm := List.mem_of_getElem? hti
    unfold Tb.sem at hm
    obtain ⟨r8, hr8, rfl⟩ := List.mem_map.1 hm
    have := h r8 hr8
    simpa using this
end Go.Proofs.Ytgaofkbmnapogaa
namespace Go.Proofs.Ytgaofkbmnapogaa
open Go.RowKit Go.Sort
/-- What a law's table lies in while it is made: the table, the free names, and all names. -/
structure OfS (BT : Nat) (F : Nat → Prop) (w : World) (rs : List (Sl Lp)) (fv mv : Value) (T : List (List Lq)) (fr md : List Nm) : Prop where
  fill : Fill BT BT F w rs
  sem : Sem6 rs fun i => T.getD i []
  free : w.ownsRow BT 36 2 fv fr.length (rcells Nm.enc fr)
  made : w.ownsRow BT 36 2 mv md.length (rcells Nm.enc md)
  foff : ∀ g, fv.ownBlock = some g → Fill.off BT F rs g
  moff : ∀ g, mv.ownBlock = some g → Fill.off BT F rs g
  fm : ∀ g, fv.ownBlock = some g → mv.ownBlock ≠ some g
variable {BT : Nat} {F : Nat → Prop} {w : World} {rs : List (Sl Lp)} {fv mv : Value} {T : List (List Lq)} {fr md : List Nm}
theorem own_keep {w w' : World} {N e k n : Nat} {v : Value} {xs : List Value} {row : Option Nat} (h : w.ownsRow N e k v n xs) (hg : w.grownBy w' row) (hr : ∀ g, v.ownBlock = some g → row ≠ some g) : w'.ownsRow N e k v n xs := by
  refine h.kept hg ?_
  cases hb : v.ownBlock with
  | none => exact .inl rfl
  | some g => exact .inr fun e => hr g hb e.symm
theorem OfS.below (h : OfS BT F w rs fv mv T fr md) {w' : World} (hb : Below w.heap.size w w') : OfS BT F w' rs fv mv T fr md :=
  ⟨h.fill.below hb, h.sem, below_owns h.free hb, below_owns h.made hb, h.foff, h.moff, h.fm⟩
theorem OfS.newFree (h : OfS BT F w rs fv mv T fr md) {fv' : Value} {fr' : List Nm} (ho : w.ownsRow BT 36 2 fv' fr'.length (rcells Nm.enc fr')) (hoff : ∀ g, fv'.ownBlock = some g → Fill.off BT F rs g) (hm : ∀ g, fv'.ownBlock = some g → mv.ownBlock ≠ some g) : OfS BT F w rs fv' mv T fr' md :=
  ⟨h.fill, h.sem, ho, h.made, hoff, h.moff, hm⟩
theorem OfS.moreF (h : OfS BT F w rs fv mv T fr md) {G : Nat → Prop} (hG : ∀ g, G g → BT ≤ g ∧ g < w.heap.size ∧ g ≠ BT ∧ (∀ r ∈ rs, r.v.ownBlock ≠ some g) ∧ fv.ownBlock ≠ some g ∧ mv.ownBlock ≠ some g) : OfS BT (fun g => F g ∨ G g) w rs fv mv T fr md :=
  ⟨h.fill.moreF fun g hg => ⟨(hG g hg).1, (hG g hg).2.1, (hG g hg).2.2.1, (hG g hg).2.2.2.1⟩, h.sem, h.free, h.made,
    fun g e => ⟨(h.foff g e).1, fun hF => hF.elim (h.foff g e).2.1 fun hg => (hG g hg).2.2.2.2.1 e, (h.foff g e).2.2⟩,
    fun g e => ⟨(h.moff g e).1, fun hF => hF.elim (h.moff g e).2.1 fun hg => (hG g hg).2.2.2.2.2 e, (h.moff g e).2.2⟩, h.fm⟩
theorem OfS.appFree (h : OfS BT F w rs fv mv T fr md) {w' : World} {fv' : Value} {p : Nm} (hg : w.grownBy w' fv.ownBlock) (ho : w'.ownsRow BT 36 2 fv' (fr ++ [p]).length (rcells Nm.enc (fr ++ [p]))) (hat : fv'.ownBlock = fv.ownBlock ∨ fv'.ownBlock = some w.heap.size) : OfS BT F w' rs fv' mv T (fr ++ [p]) md := by
  have hnew : ∀ g, fv'.ownBlock = some g → fv.ownBlock = some g ∨ g = w.heap.size := fun g e => by
    rcases hat with h1 | h1
    · exact .inl (h1 ▸ e)
    · rw [h1] at e; exact .inr (Option.some.inj e).symm
  refine ⟨h.fill.kept hg fun g e => h.foff g e, h.sem, ho, own_keep h.made hg fun g e e2 => h.fm g e2 e, fun g e => ?_, h.moff, fun g e => ?_⟩
  · rcases hnew g e with e | rfl
    · exact h.foff g e
    · refine ⟨by have := h.fill.lt; omega, fun hF => by have := (h.fill.ltF _ hF).2; omega, fun r hr e2 => ?_⟩
      obtain ⟨i, hi⟩ := List.mem_iff_getElem?.1 hr
      have := ((h.fill.own i r hi).lt _ e2).2
      omega
  · rcases hnew g e with e | rfl
    · exact h.fm g e
    · exact fun e2 => by have := (h.made.lt _ e2).2; omega
theorem OfS.appMade (h : OfS BT F w rs fv mv T fr md) {w' : World} {mv' : Value} {p : Nm} (hg : w.grownBy w' mv.ownBlock) (ho : w'.ownsRow BT 36 2 mv' (md ++ [p]).length (rcells Nm.enc (md ++ [p]))) (hat : mv'.ownBlock = mv.ownBlock ∨ mv'.ownBlock = some w.heap.size) : OfS BT F w' rs fv mv' T fr (md ++ [p]) := by
  have hnew : ∀ g, mv'.ownBlock = some g → mv.ownBlock = some g ∨ g = w.heap.size := fun g e => by
    rcases hat with h1 | h1
    · exact .inl (h1 ▸ e)
    · rw [h1] at e; exact .inr (Option.some.inj e).symm
  refine ⟨h.fill.kept hg fun g e => h.moff g e, h.sem, own_keep h.free hg fun g e e2 => h.fm g e e2, ho, h.foff, fun g e => ?_, fun g e e2 => ?_⟩
  · rcases hnew g e with e | rfl
    · exact h.moff g e
    · refine ⟨by have := h.fill.lt; omega, fun hF => by have := (h.fill.ltF _ hF).2; omega, fun r hr e2 => ?_⟩
      obtain ⟨i, hi⟩ := List.mem_iff_getElem?.1 hr
      have := ((h.fill.own i r hi).lt _ e2).2
      omega
  · rcases hnew g e2 with e2 | rfl
    · exact h.fm g e e2
    · have := (h.free.lt _ e).2; omega
theorem OfS.appRow (h : OfS BT F w rs fv mv T fr md) {k : Nat} (hk : k < 6) (hT : T.length = 6) {r : Sl Lp} (hr : rs[k]? = some r) {x : Lp} (hx : x.inF F w) {w' : World} {v' : Value} (hg : w.grownBy w' r.v.ownBlock) (ho : w'.ownsRow BT 45 4 v' (r.l ++ [x]).length (rcells Lp.enc (r.l ++ [x])))
    (hat : v'.ownBlock = r.v.ownBlock ∨ v'.ownBlock = some w.heap.size) : ∃ rs', OfS BT F (w'.setCell ⟨BT, k, none⟩ v') rs' fv mv (putT T k x.q) fr md := by
  obtain ⟨r', rfl, hl, hF⟩ := h.fill.app hr hg ho hat hx
  have hrm := List.mem_of_getElem? hr
  have hoff : ∀ g, Fill.off BT F rs g → g < w.heap.size → Fill.off BT F (rs.set k r') g := fun g ⟨h1, h2, h3⟩ hlt => ⟨h1, h2, fun s hs e => by
    rcases List.mem_or_eq_of_mem_set hs with hs | rfl
    · exact h3 s hs e
    · rcases hat with h4 | h4
      · exact h3 r hrm (h4 ▸ e)
      · rw [h4] at e; have := Option.some.inj e; omega⟩
  have hset : w'.grownBy (w'.setCell ⟨BT, k, none⟩ r'.v) (some BT) := grownBy_setCellAt w' BT k _
  refine ⟨rs.set k r', hF, ⟨by have h := h.sem.1; simpa using h, fun i s hi => ?_⟩, own_keep (own_keep h.free hg fun g e e2 => (h.foff g e).2.2 r hrm e2) hset fun g e e2 => (h.foff g e).1 (Option.some.inj e2).symm,
    own_keep (own_keep h.made hg fun g e e2 => (h.moff g e).2.2 r hrm e2) hset fun g e e2 => (h.moff g e).1 (Option.some.inj e2).symm, fun g e => hoff g (h.foff g e) (h.free.lt g e).2, fun g e => hoff g (h.moff g e) (h.made.lt g e).2, h.fm⟩
  have h1 := (h.sem.put (r' := r') (k := k) (g := fun i => (putT T k x.q).getD i []) (by
    show r'.l.map Lp.q = (putT T k x.q).getD k []
    rw [putT_at (by omega), if_pos rfl, hl, List.map_append, h.sem.2 k r hr]; rfl) (fun i hi => by
    show (putT T k x.q).getD i [] = T.getD i []
    rw [putT_at (by omega), if_neg hi])).2 i s hi
  exact h1
theorem OfS.start (w : World) : OfS w.heap.size (fun _ => False) (w.alloc (.cells (rcells rowEnc (List.replicate 6 nilSl)).toArray 37)) (List.replicate 6 nilSl) (.slice none 0 0) (.slice none 0 0) (List.replicate 6 []) [] [] := by
  refine ⟨Fill.start w, ⟨by simp, fun i r hi => ?_⟩, World.ownsRow_nil _ _ _ _, World.ownsRow_nil _ _ _ _, fun g e => (by cases e), fun g e => (by cases e), fun g e => (by cases e)⟩
  rw [List.eq_of_mem_replicate (List.mem_of_getElem? hi)]
  simp only [List.getD_eq_getElem?_getD, List.getElem?_replicate]
  split <;> rfl
end Go.Proofs.Ytgaofkbmnapogaa
