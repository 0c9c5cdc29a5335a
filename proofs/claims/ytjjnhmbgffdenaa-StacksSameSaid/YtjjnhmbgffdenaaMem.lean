import Derived.Test.YtjjnhmbgffdenaaSmall1
import Derived.Laws.CopyOwn
import Derived.Deep.OwnRows
import Derived.Deep.RegionLaw
namespace Go.Proofs.Ytjjnhmbgffdenaa
open Go.RowKit Go.Sort

/-- The cells of a list of names, in a row. -/
def cellsOf (ps : List Nm) : List Value := ps.flatMap fun p => [.int .u8 p.y, .int .i64 p.n]
theorem cellsOf_cons (p : Nm) (ps : List Nm) : cellsOf (p :: ps) = .int .u8 p.y :: .int .i64 p.n :: cellsOf ps := rfl
theorem cellsOf_append (a b : List Nm) : cellsOf (a ++ b) = cellsOf a ++ cellsOf b := by simp [cellsOf]
theorem cellsOf_length (ps : List Nm) : (cellsOf ps).length = ps.length * 2 := by
  induction ps with
  | nil => rfl
  | cons p ps ih => rw [cellsOf_cons]; simp [ih]; omega
theorem cellsOf_one (ps : List Nm) : ∀ u ∈ cellsOf ps, u.oneCell' = true := by
  intro u hu
  simp only [cellsOf, List.mem_flatMap] at hu
  obtain ⟨p, _, hu⟩ := hu
  simp at hu
  rcases hu with rfl | rfl <;> rfl
theorem cellsOf_at (ps : List Nm) : ∀ (i : Nat) (p : Nm), ps[i]? = some p →
    (cellsOf ps)[i * 2]? = some (.int .u8 p.y) ∧ (cellsOf ps)[i * 2 + 1]? = some (.int .i64 p.n) := by
  induction ps with
  | nil => intro i p h; simp at h
  | cons q ps ih =>
    intro i p h
    rw [cellsOf_cons]
    cases i with
    | zero => simp at h; subst h; simp
    | succ i =>
      have := ih i p (by simpa using h)
      rw [show (i + 1) * 2 = i * 2 + 2 by omega]
      simpa [Nat.add_assoc] using this
/-- The cells of a stack that lies, one by one. -/
theorem Cel.ok.cells {B : Nat} {w : World} {c : Cel} (h : c.ok B w) : ∀ ad, c.ao = some ad → ∀ j u, (cellsOf c.l)[j]? = some u → w.cell? (ad.add j) = some u := by
  rintro ad e j u hj
  obtain ⟨ao, l, cap⟩ := c
  obtain rfl : ao = some ad := e
  rcases h.2 with h0 | ⟨b, o, h1, h2, h3⟩
  · simp only at h0 hj; subst h0; simp [cellsOf] at hj
  · obtain rfl : ad = ⟨b, o, none⟩ := by simpa using h1
    have hlt : j < l.length * 2 := by rw [← cellsOf_length]; exact (List.getElem?_eq_some_iff.1 hj).1
    have hi : j / 2 < l.length := by omega
    obtain ⟨p, hp⟩ : ∃ p, l[j / 2]? = some p := ⟨_, List.getElem?_eq_getElem hi⟩
    obtain ⟨a0, a1⟩ := cellsOf_at l _ p hp
    obtain ⟨c0, c1⟩ := h3 _ p hp
    have e : (⟨b, o, none⟩ : Addr).add j = ⟨b, o + j, none⟩ := Addr.add_lit ..
    rw [e]
    rcases (by omega : j % 2 = 0 ∨ j % 2 = 1) with h | h
    · rw [show j / 2 * 2 = j by omega] at a0 c0
      rw [hj] at a0; rw [a0]; exact c0
    · rw [show j / 2 * 2 + 1 = j by omega] at a1
      rw [show o + j / 2 * 2 + 1 = o + j by omega] at c1
      rw [hj] at a1; rw [a1]; exact c1
/-- What a row of one's own holds lies. -/
theorem ok_of_row {w : World} {g B cap : Nat} {cur : Array Value} {t : TypeId} {ps : List Nm} (hg : w.heap[g]? = some (.cells cur t (0, 0))) (hc : cur.toList.take (ps.length * 2) = cellsOf ps) (hB : g < B) (hl : ps.length ≤ 100) : Cel.ok B w ⟨some ⟨g, 0, none⟩, ps, cap⟩ := by
  refine ⟨hl, .inr ⟨g, 0, rfl, hB, fun i p hp => ?_⟩⟩
  have hi := (List.getElem?_eq_some_iff.1 hp).1
  simp only at hi hp
  obtain ⟨a0, a1⟩ := cellsOf_at ps i p hp
  have key : ∀ j u, j < ps.length * 2 → (cellsOf ps)[j]? = some u → w.cell? ⟨g, j, none⟩ = some u := fun j u hj hu => by
    rw [cell_of_row w g j cur t (0, 0) hg]
    rw [← hc, List.getElem?_take, if_pos hj] at hu
    simpa using hu
  rw [Nat.zero_add]
  exact ⟨key _ _ (by omega) a0, key _ _ (by omega) a1⟩
/-- A row that the call owns is a stack that lies. -/
theorem ok_of_owns {w : World} {B e : Nat} {v : Value} {n : Nat} {ps : List Nm} (h : w.ownsRow B e 2 v n (cellsOf ps)) (hl : ps.length ≤ 100) : ∃ c : Cel, v = c.v ∧ c.l = ps ∧ c.l.length ≤ c.cap ∧ c.ok w.heap.size w := by
  have hn : n = ps.length := by have := h.1; rw [cellsOf_length] at this; omega
  rcases h.2 with ⟨rfl, rfl⟩ | ⟨g, cap, cur, rfl, hb, hg, hnc, hcm, hcs, htake⟩
  · obtain rfl : ps = [] := List.eq_nil_of_length_eq_zero hn.symm
    exact ⟨Cel.nil, rfl, rfl, Nat.le_refl _, Cel.nil_ok _ _⟩
  · refine ⟨⟨some ⟨g, 0, none⟩, ps, cap⟩, by simp [Cel.v, hn], rfl, by simp only; omega, ok_of_row hg (by rw [← hn]; exact htake) (Array.getElem?_eq_some_iff.1 hg).1 hl⟩

/-- A copy of whole elements of several cells into a row of one's own. -/
theorem run_copy_all {P : Program} (w : World) (dT sT ty e : TypeId) (g : Nat) (n dCap : Nat) (a : Addr) (sCap size : Nat) (cur : Array Value) (t : TypeId) (cs : List Value)
    (hu : P.underlying dT = some (.slice e)) (i : TypeInfo) (hi : P.info? e = some i) (hsz : i.size = size) (hg : w.heap[g]? = some (.cells cur t (0, 0))) (hl : cs.length = n * size)
    (hsrc : ∀ j v, cs[j]? = some v → w.cell? (a.add j) = some v) (hfit : cs.length ≤ cur.size) (h1 : ∀ v ∈ cs, v.oneCell' = true) :
    (Builtin.copy_ #[dT, sT] ty #[.slice (some ⟨g, 0, none⟩) n dCap, .slice (some a) n sCap]).run P w = .ok (goInt n) (w.setRow g (cs ++ cur.toList.drop cs.length).toArray) := by
  subst hsz
  have hf := run_firstCells_some (P := P) w i.size n a n sCap cs hl hsrc
  have hst := run_storeCells_at P g 0 t cs 0 cur w hg (by simpa using hfit) h1
  simp only [Nat.add_zero, Nat.zero_add, List.take_zero, List.nil_append] at hst
  simp [Builtin.copy_, run_underlying hu, Builtin.lenOf, sizeOf, typeInfo, hi, hf, hst]

theorem setRow_alloc (w : World) (cur new : Array Value) (t : TypeId) : (w.alloc (.cells cur t)).setRow w.heap.size new = w.alloc (.cells new t) := by
  unfold World.setRow World.alloc
  simp only
  congr 1
  apply Array.ext
  · simp
  · intro k h1 h2
    simp only [Array.getElem_modify]
    split
    · rename_i hk; subst hk; simp
    · rename_i hk
      simp only [Array.size_modify, Array.size_push] at h1
      rw [Array.getElem_push_lt (by omega), Array.getElem_push_lt (by omega)]

def zero28 : Value := .agg #[.int .u8 0, .int .i64 0]
theorem info28 : (Try.prog.info? 28).map (fun i => (i.zero, i.size, i.bytes)) = some (some zero28, 2, 16) := by kernel_rfl
theorem info29 : (Try.prog.info? 29).map (fun i => (i.zero, i.size, i.bytes)) = some (some (.slice none 0 0), 1, 24) := by kernel_rfl

def rowNew (n : Nat) : Array Value := madeCells zero28.cells (n * 2)
theorem run_mk (c : Int) (n : Nat) (hc : c = n) (h1 : 16 * n ≤ 281474976710656) (w : World) :
    (Instr.makeSlice 29 (.int .i64 c) (.int .i64 c)).run Try.prog w = .ok (.slice (some ⟨w.heap.size, 0, none⟩) n n) (w.alloc (.cells (rowNew n) 28)) := by
  subst hc
  obtain ⟨i0, hi, hz0, hz1, hz2⟩ := info_parts info28
  have hr := run_make (P := Try.prog) w 29 28 i0 zero28 Try.underlying29 hi hz0 .i64 .i64 n n (by omega) (Int.le_refl _) (by rw [hz2]; omega) (by omega)
  simp only [Int.toNat_natCast, hz1] at hr
  exact hr
theorem run_mk0 (c : Int) (n : Nat) (hc : c = n) (h1 : 16 * n ≤ 281474976710656) (w : World) :
    (Instr.makeSlice 29 (.int .i64 0) (.int .i64 c)).run Try.prog w = .ok (.slice (some ⟨w.heap.size, 0, none⟩) 0 n) (w.alloc (.cells (rowNew n) 28)) := by
  subst hc
  obtain ⟨i0, hi, hz0, hz1, hz2⟩ := info_parts info28
  have hr := run_make (P := Try.prog) w 29 28 i0 zero28 Try.underlying29 hi hz0 .i64 .i64 0 n (by omega) (by omega) (by rw [hz2]; omega) (by omega)
  simp only [Int.toNat_natCast, hz1, Int.toNat_zero] at hr
  exact hr
theorem rowNew_size (n : Nat) : (rowNew n).size = n * 2 := size_madeCells _ _

/-- A slice of stacks that the call makes. -/
theorem run_mkL (c : Int) (n : Nat) (hc : c = n) (h1 : n ≤ 1000000) (w : World) :
    (Instr.makeSlice 33 (.int .i64 c) (.int .i64 c)).run Try.prog w = .ok (.slice (some ⟨w.heap.size, 0, none⟩) n n) (w.alloc (.cells (madeCells #[.slice none 0 0] n) 29)) := by
  subst hc
  exact run_make_row' 33 29 (.slice none 0 0) 24 Try.underlying33 info29 rfl .i64 .i64 n (by omega) (by omega) w

theorem run_append_nothing {P : Program} (w : World) (base : Nat) (t ty e : TypeId) (i : TypeInfo) (size : Nat) (ht : P.underlying t = some (.slice e)) (hi : P.info? e = some i)
    (v : Value) (n : Nat) (xs : List Value) (hown : w.ownsRow base e size v n xs) (c : Nat) :
    (Builtin.append_ #[t, t] ty #[v, .slice none 0 c]).run P w = .ok v w := by
  rcases hown.2 with ⟨rfl, rfl⟩ | ⟨g, cap, cur, rfl, _, _, hnc, _⟩
  · simp [Builtin.append_, run_underlying ht, sizeOf, typeInfo, hi, Builtin.lenOf, Builtin.firstCells]
  · simp [Builtin.append_, run_underlying ht, sizeOf, typeInfo, hi, Builtin.lenOf, Builtin.firstCells, hnc, storeCells]

/-- 'append' of a stack that lies anywhere, to a row of the call's own. -/
theorem run_append_cel (w : World) (B B' ty : Nat) (v : Value) (n : Nat) (xs : List Nm) (hown : w.ownsRow B 28 2 v n (cellsOf xs)) (c : Cel) (hl : c.ok B' w) (h1 : n ≤ 1000000) (hbase : B ≤ w.heap.size) :
    ∃ v' w', (Builtin.append_ #[29, 29] ty #[v, c.v]).run Try.prog w = .ok v' w' ∧ w'.ownsRow B 28 2 v' (n + c.l.length) (cellsOf (xs ++ c.l)) ∧ w.grownBy w' v.ownBlock := by
  obtain ⟨i0, hi, hz0, hz1, hz2⟩ := info_parts info28
  rw [cellsOf_append]
  obtain ⟨ao, ps, cap⟩ := c
  have hlen : ps.length ≤ 100 := hl.1
  cases ao with
  | none =>
    have hp : ps = [] := by
      rcases hl.2 with h | ⟨b, o, h, _⟩
      · exact h
      · cases h
    subst hp
    exact ⟨v, w, run_append_nothing w B 29 ty 28 i0 2 Try.underlying29 hi v n _ hown cap, by simpa [cellsOf] using hown, World.grownBy.refl _ _⟩
  | some ad =>
    obtain ⟨v', w', g1, g2, g3, _⟩ := run_append_own (P := Try.prog) w B 29 ty 28 i0 zero28 2 16 Try.underlying29 hi hz0 hz1 hz2 rfl (by decide) v n (cellsOf xs) hown ad ps.length cap (cellsOf ps) (by rw [cellsOf_length]) (hl.cells ad rfl) (cellsOf_one ps)
      (by unfold maxLen; omega) (by omega) hbase
    exact ⟨v', w', g1, g2, g3⟩
end Go.Proofs.Ytjjnhmbgffdenaa
