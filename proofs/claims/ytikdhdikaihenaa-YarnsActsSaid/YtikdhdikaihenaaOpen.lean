import Derived.Test.YtikdhdikaihenaaLawReduce
import Derived.ProofKit
import Derived.Deep.Slices
import Derived.Deep.Strs
import Derived.OpenShut
namespace Go.Proofs.Ytikdhdikaihenaa
open Go.RowKit Go.Sort Go.ChangeShapes Go.WideShapes Go.ChangeAt Go.Deep

theorem Try.own : ownKnob Try.prog.godebug = none := by kernel_rfl
theorem Try.laidOut : laidOutB Try.prog = true := by kernel_rfl
theorem cells57 : Try.prog.cellsOf 57 = 1 := by kernel_rfl
theorem cells33 : Try.prog.cellsOf 33 = 4 := by kernel_rfl
theorem cells5 : Try.prog.cellsOf 5 = 1 := by kernel_rfl
theorem cells3 : Try.prog.cellsOf 3 = 1 := by kernel_rfl
theorem cells4 : Try.prog.cellsOf 4 = 1 := by kernel_rfl
theorem cells31 : Try.prog.cellsOf 31 = 1 := by kernel_rfl
theorem cells23 : Try.prog.cellsOf 23 = 1 := by kernel_rfl
theorem cells22 : Try.prog.cellsOf 22 = 1 := by kernel_rfl
theorem cells30 : Try.prog.cellsOf 30 = 2 := by kernel_rfl

section
variable {H : Type} {enc : TypeId × Value → H} {W : World} {base : Nat} {spare : Nat → Bool} {held : Bool}

theorem byte_bounds {x : Int} (h : (Lit.int .u8 x).wf = true) : 0 ≤ x ∧ x ≤ 255 := bounds_u8 h

/-- A slice of bytes that came in, as cells. -/
theorem open_bytes_cells {fuel : Nat} {cs : List Value} {x : DataW H × List MemPlace} (h : DataW.trod enc Try.prog W base spare held fuel 22 cs = some x) :
    ∃ ao n cap xs, cs = [.slice ao n cap] ∧ n = xs.length ∧ LieB W ao xs ∧ Bytes xs := by
  rcases open_ints (k := .u8) Try.underlying22 Try.underlying57 cells57 h with ⟨hcs, _⟩ | ⟨a, len, cap, zs, hcs, _, hl, hm, hz, _, hcell, hwz⟩
  · exact ⟨none, 0, 0, [], hcs, rfl, .inl rfl, fun _ h => absurd h (by simp)⟩
  · have hzl : len ≤ zs.length := by rw [hz]; split <;> omega
    refine ⟨some a, len, cap, zs.take len, hcs, by simp; omega, ?_, fun x hx => byte_bounds (hwz x (List.mem_of_mem_take hx))⟩
    by_cases h0 : len = 0
    · subst h0; exact .inl (by simp)
    · obtain ⟨b, off, rfl, hc⟩ := ints_at hcell (by omega)
      have hb : b < W.heap.size := World.block_lt_of_cell? _ _ (hc 0 (by omega))
      refine .inr ⟨b, off, rfl, hb, fun i x hx => ?_⟩
      have hi : i < len := by have := (List.getElem?_eq_some_iff.1 hx).1; simp at this; omega
      rw [hc i (by omega)]
      rw [List.getElem?_take, if_pos hi] at hx
      simp [List.getD, hx]

/-- A pass as read. -/
theorem open_pass_cells {fuel : Nat} {cs : List Value} {x : DataW H × List MemPlace} (h : DataW.trod enc Try.prog W base spare held fuel 33 cs = some x) :
    ∃ p : Ps, cs = [.int .u8 p.y, .int .i64 p.n, .bool p.f, .int .u8 p.d] ∧ (0 ≤ p.d ∧ p.d ≤ 255) ∧ (0 ≤ p.y ∧ p.y ≤ 255) := by
  obtain ⟨y0, y1, y2, n, _, hl, h0, h1, h2⟩ := trod_struct3 Try.underlying33 h
  obtain ⟨z0, z1, n2, _, hl2, g0, g1⟩ := trod_struct2 Try.underlying30 h0
  obtain ⟨y, e0, _, wy⟩ := DataW.trod_int Try.underlying5 g0
  obtain ⟨m, e1, _, _⟩ := DataW.trod_int Try.underlying3 g1
  obtain ⟨f, e2, _⟩ := DataW.trod_bool Try.underlying4 h1
  obtain ⟨d, e3, _, wd⟩ := DataW.trod_int Try.underlying31 h2
  rw [cells33] at hl
  refine ⟨⟨y, m, f, d⟩, ?_, byte_bounds wd, byte_bounds wy⟩
  match cs, hl with
  | [v0, v1, v2, v3], _ =>
    simp [cells30, cells5, cells3, cells4, cells31] at e0 e1 e2 e3
    subst e0 e1 e2 e3
    rfl

/-- A slice of passes that came in, as cells. -/
theorem open_passes_cells {fuel : Nat} {cs : List Value} {x : DataW H × List MemPlace} (h : DataW.trod enc Try.prog W base spare held fuel 23 cs = some x) :
    ∃ ao n cap ps, cs = [.slice ao n cap] ∧ n = ps.length ∧ n ≤ 9223372036854775807 ∧ Lie W ao ps ∧ Pos ps ∧ ∀ p ∈ ps, p.d ≤ 255 ∧ 0 ≤ p.y ∧ p.y ≤ 255 := by
  rcases open_slice Try.underlying23 h with ⟨hcs, _⟩ | ⟨a, len, cap, m, n, D, Pl, hcs, hb, hl, hm, hmm, _, hx⟩
  · exact ⟨none, 0, 0, [], hcs, rfl, by omega, .inl rfl, fun _ h => absurd h (by simp), fun _ h => absurd h (by simp)⟩
  · have hlm : len ≤ m := by rw [hmm]; split <;> omega
    have each : ∀ i, i < len → ∃ p : Ps, (∀ j, j < 4 → W.cell? (a.add (i * 4 + j)) = [Value.int .u8 p.y, .int .i64 p.n, .bool p.f, .int .u8 p.d][j]?) ∧ (0 ≤ p.d ∧ p.d ≤ 255) ∧ (0 ≤ p.y ∧ p.y ≤ 255) := by
      intro i hi
      obtain ⟨cs', h1, h2⟩ := hx i (by omega)
      rw [cells33] at h1
      obtain ⟨_, _, hc⟩ := World.cells?_some h1
      obtain ⟨p, rfl, hp, hy⟩ := open_pass_cells h2
      refine ⟨p, fun j hj => ?_, hp, hy⟩
      have := hc j hj
      rwa [add_add] at this
    let dflt : Inhabited Ps := ⟨Ps.nil⟩
    obtain ⟨P, hP⟩ := choose_lt each
    have hget : ∀ i p, ((List.range len).map P)[i]? = some p → i < len ∧ p = P i := by
      intro i p hp
      have hi := (List.getElem?_eq_some_iff.1 hp).1
      simp at hi
      refine ⟨hi, ?_⟩
      rw [List.getElem?_map, List.getElem?_range hi] at hp
      simpa using hp.symm
    have hmem : ∀ p ∈ (List.range len).map P, ∃ i, i < len ∧ p = P i := by
      intro p hp
      obtain ⟨i, hi, rfl⟩ := List.mem_map.1 hp
      exact ⟨i, List.mem_range.1 hi, rfl⟩
    refine ⟨some a, len, cap, (List.range len).map P, hcs, by simp, by unfold maxLen at hm; omega, ?_, ?_, ?_⟩
    · by_cases h0 : len = 0
      · subst h0; exact .inl (by simp)
      · have c0 := (hP 0 (by omega)).1 0 (by omega)
        obtain ⟨b, off, spot⟩ := a
        have hspot : spot = none := by simpa [Addr.add] using World.cell?_spot c0
        subst hspot
        have key : ∀ k, (⟨b, off, none⟩ : Addr).add k = ⟨b, off + k, none⟩ := fun k => Addr.add_lit ..
        refine .inr ⟨b, off, rfl, ?_, fun i p hp => ?_⟩
        · rw [key] at c0
          exact World.block_lt_of_cell? _ _ c0
        · obtain ⟨hi, rfl⟩ := hget i p hp
          have q := (hP i hi).1
          have q0 := q 0 (by omega)
          have q1 := q 1 (by omega)
          have q2 := q 2 (by omega)
          have q3 := q 3 (by omega)
          rw [key] at q0 q1 q2 q3
          simp only [← Nat.add_assoc] at q0 q1 q2 q3
          exact ⟨q0, q1, q2, q3⟩
    · intro p hp
      obtain ⟨i, hi, rfl⟩ := hmem p hp
      exact (hP i hi).2.1.1
    · intro p hp
      obtain ⟨i, hi, rfl⟩ := hmem p hp
      exact ⟨(hP i hi).2.1.2, (hP i hi).2.2⟩

theorem open_bytes_arg {v : Value} {d : DataW H} {p : List MemPlace} {w' : World} {r : _} {b : Nat} (hv : Value.okWide Try.prog w' r b 22 v) (h : DataW.Trod enc Try.prog W 0 spare held 22 v d p) :
    ∃ ao n cap xs, v = .slice ao n cap ∧ n = xs.length ∧ LieB W ao xs ∧ Bytes xs := by
  obtain ⟨a0, len, cap, rfl⟩ := okWide_slice Try.underlying22 hv
  obtain ⟨fuel, hf⟩ := h
  obtain ⟨ao, n, c, xs, hcs, r⟩ := open_bytes_cells hf
  simp [Value.cells] at hcs
  obtain ⟨rfl, rfl, rfl⟩ := hcs
  exact ⟨_, _, _, xs, rfl, r⟩
theorem open_passes_arg {v : Value} {d : DataW H} {p : List MemPlace} {w' : World} {r : _} {b : Nat} (hv : Value.okWide Try.prog w' r b 23 v) (h : DataW.Trod enc Try.prog W 0 spare held 23 v d p) :
    ∃ ao n cap ps, v = .slice ao n cap ∧ n = ps.length ∧ n ≤ 9223372036854775807 ∧ Lie W ao ps ∧ Pos ps ∧ ∀ p ∈ ps, p.d ≤ 255 ∧ 0 ≤ p.y ∧ p.y ≤ 255 := by
  obtain ⟨a0, len, cap, rfl⟩ := okWide_slice Try.underlying23 hv
  obtain ⟨fuel, hf⟩ := h
  obtain ⟨ao, n, c, xs, hcs, r⟩ := open_passes_cells hf
  simp [Value.cells] at hcs
  obtain ⟨rfl, rfl, rfl⟩ := hcs
  exact ⟨_, _, _, xs, rfl, r⟩

end
end Go.Proofs.Ytikdhdikaihenaa
