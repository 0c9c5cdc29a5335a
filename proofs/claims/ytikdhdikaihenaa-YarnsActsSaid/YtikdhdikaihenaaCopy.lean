import Derived.Test.YtikdhdikaihenaaLie
import Derived.Laws.CopyOwn
namespace Go.Proofs.Ytikdhdikaihenaa
open Go.RowKit Go.Sort

/-- The cells of a list of passes, in a row. -/
def cellsOf (ps : List Ps) : List Value := ps.flatMap fun p => [.int .u8 p.y, .int .i64 p.n, .bool p.f, .int .u8 p.d]

theorem cellsOf_nil : cellsOf [] = [] := rfl
theorem cellsOf_cons (p : Ps) (ps : List Ps) : cellsOf (p :: ps) = .int .u8 p.y :: .int .i64 p.n :: .bool p.f :: .int .u8 p.d :: cellsOf ps := rfl
theorem cellsOf_append (a b : List Ps) : cellsOf (a ++ b) = cellsOf a ++ cellsOf b := by simp [cellsOf]
theorem cellsOf_length (ps : List Ps) : (cellsOf ps).length = ps.length * 4 := by
  induction ps with
  | nil => rfl
  | cons p ps ih => rw [cellsOf_cons]; simp [ih]; omega
theorem cellsOf_one (ps : List Ps) : ∀ u ∈ cellsOf ps, u.oneCell' = true := by
  intro u hu
  simp only [cellsOf, List.mem_flatMap] at hu
  obtain ⟨p, _, hu⟩ := hu
  simp at hu
  rcases hu with rfl | rfl | rfl | rfl <;> rfl
theorem cellsOf_at (ps : List Ps) : ∀ (i : Nat) (p : Ps), ps[i]? = some p →
    (cellsOf ps)[i * 4]? = some (.int .u8 p.y) ∧ (cellsOf ps)[i * 4 + 1]? = some (.int .i64 p.n) ∧ (cellsOf ps)[i * 4 + 2]? = some (.bool p.f) ∧ (cellsOf ps)[i * 4 + 3]? = some (.int .u8 p.d) := by
  induction ps with
  | nil => intro i p h; simp at h
  | cons q ps ih =>
    intro i p h
    rw [cellsOf_cons]
    cases i with
    | zero => simp at h; subst h; simp
    | succ i =>
      have := ih i p (by simpa using h)
      rw [show (i + 1) * 4 = i * 4 + 4 by omega]
      simpa [Nat.add_assoc] using this
/-- The cells of a list that lies, one by one. -/
theorem Lie.cells {w : World} {ao : Option Addr} {ps : List Ps} (h : Lie w ao ps) : ∀ ad, ao = some ad → ∀ j u, (cellsOf ps)[j]? = some u → w.cell? (ad.add j) = some u := by
  rintro ad rfl j u hj
  rcases h with rfl | ⟨b, o, h1, h2, h3⟩
  · simp [cellsOf] at hj
  · obtain rfl : ad = ⟨b, o, none⟩ := by simpa using h1
    have hlt : j < ps.length * 4 := by rw [← cellsOf_length]; exact (List.getElem?_eq_some_iff.1 hj).1
    have hi : j / 4 < ps.length := by omega
    obtain ⟨p, hp⟩ : ∃ p, ps[j / 4]? = some p := ⟨_, List.getElem?_eq_getElem hi⟩
    obtain ⟨a0, a1, a2, a3⟩ := cellsOf_at ps _ p hp
    obtain ⟨c0, c1, c2, c3⟩ := h3 _ p hp
    have e : (⟨b, o, none⟩ : Addr).add j = ⟨b, o + j, none⟩ := Addr.add_lit ..
    rw [e]
    have hm : j % 4 < 4 := Nat.mod_lt _ (by omega)
    rcases (by omega : j % 4 = 0 ∨ j % 4 = 1 ∨ j % 4 = 2 ∨ j % 4 = 3) with h | h | h | h
    · rw [show j / 4 * 4 = j by omega] at a0 c0
      rw [hj] at a0; rw [a0]; exact c0
    · rw [show j / 4 * 4 + 1 = j by omega] at a1
      rw [show o + j / 4 * 4 + 1 = o + j by omega] at c1
      rw [hj] at a1; rw [a1]; exact c1
    · rw [show j / 4 * 4 + 2 = j by omega] at a2
      rw [show o + j / 4 * 4 + 2 = o + j by omega] at c2
      rw [hj] at a2; rw [a2]; exact c2
    · rw [show j / 4 * 4 + 3 = j by omega] at a3
      rw [show o + j / 4 * 4 + 3 = o + j by omega] at c3
      rw [hj] at a3; rw [a3]; exact c3

/-- What a row of one's own holds lies. -/
theorem lie_of_row {w : World} {g : Nat} {cur : Array Value} {t : TypeId} {ps : List Ps} (hg : w.heap[g]? = some (.cells cur t (0, 0))) (hc : cur.toList.take (ps.length * 4) = cellsOf ps) : Lie w (some ⟨g, 0, none⟩) ps := by
  refine .inr ⟨g, 0, rfl, (Array.getElem?_eq_some_iff.1 hg).1, fun i p hp => ?_⟩
  have hi := (List.getElem?_eq_some_iff.1 hp).1
  obtain ⟨a0, a1, a2, a3⟩ := cellsOf_at ps i p hp
  have key : ∀ j u, j < ps.length * 4 → (cellsOf ps)[j]? = some u → w.cell? ⟨g, j, none⟩ = some u := fun j u hj hu => by
    rw [cell_of_row w g j cur t (0, 0) hg]
    rw [← hc, List.getElem?_take, if_pos hj] at hu
    simpa using hu
  rw [Nat.zero_add]
  exact ⟨key _ _ (by omega) a0, key _ _ (by omega) a1, key _ _ (by omega) a2, key _ _ (by omega) a3⟩

/-- A row that the call owns holds the passes. -/
theorem lie_of_owns {w : World} {B e : Nat} {v : Value} {n : Nat} {ps : List Ps} (h : w.ownsRow B e 4 v n (cellsOf ps)) : n = ps.length ∧ ∃ ao cap, v = .slice ao n cap ∧ n ≤ cap ∧ cap ≤ maxLen ∧ Lie w ao ps := by
  have hn : n = ps.length := by have := h.1; rw [cellsOf_length] at this; omega
  refine ⟨hn, ?_⟩
  rcases h.2 with ⟨rfl, rfl⟩ | ⟨g, cap, cur, rfl, hb, hg, hnc, hcm, hcs, htake⟩
  · exact ⟨none, 0, rfl, Nat.le_refl _, by simp [maxLen], .inl (List.eq_nil_of_length_eq_zero hn.symm)⟩
  · exact ⟨_, cap, rfl, hnc, hcm, lie_of_row hg (by rw [← hn]; exact htake)⟩

/-- A copy of whole elements of several cells into a row of one's own. -/
theorem run_copy_all {P : Program} (w : World) (dT sT ty e : TypeId) (g : Nat) (n dCap : Nat) (a : Addr) (sCap size : Nat) (cur : Array Value) (t : TypeId) (cs : List Value)
    (hu : P.underlying dT = some (.slice e)) (i : TypeInfo) (hi : P.info? e = some i) (hsz : i.size = size) (hg : w.heap[g]? = some (.cells cur t (0, 0))) (hl : cs.length = n * size)
    (hsrc : ∀ j v, cs[j]? = some v → w.cell? (a.add j) = some v) (hfit : cs.length ≤ cur.size) (h1 : ∀ v ∈ cs, v.oneCell' = true) :
    (Builtin.copy_ #[dT, sT] ty #[.slice (some ⟨g, 0, none⟩) n dCap, .slice (some a) n sCap]).run P w = .ok (goInt n) (w.setRow g (cs ++ cur.toList.drop cs.length).toArray) := by
  subst hsz
  have hf := run_firstCells_some (P := P) w i.size n a n sCap cs hl hsrc
  have hst := run_storeCells_at P g 0 t cs 0 cur w hg (by simpa using hfit) h1
  simp only [Nat.add_zero, Nat.zero_add, List.take_zero, List.nil_append] at hst
  simp [Builtin.copy_, run_underlying hu, Builtin.lenOf, sizeOf, typeInfo, hi, hf, hst]

end Go.Proofs.Ytikdhdikaihenaa
