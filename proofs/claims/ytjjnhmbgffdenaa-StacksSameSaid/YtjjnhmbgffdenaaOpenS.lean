import Derived.Test.YtjjnhmbgffdenaaAtA
import Derived.ProofKit
import Derived.Deep.Slices
import Derived.Deep.Strs
import Derived.OpenShut
import Derived.Lib.SmallJoins
import Derived.Test.YtjjnhmbgffdenaaRows
namespace Go.Proofs.Ytjjnhmbgffdenaa
open Go.ChangeShapes Go.WideShapes Go.ChangeAt Go.RowKit Go.Deep Go.Joins

theorem Try.own' : ownKnob Try.prog.godebug = none := by kernel_rfl
theorem Try.laidOut' : laidOutB Try.prog = true := by kernel_rfl
theorem cellsOf5 : Try.prog.cellsOf 5 = 1 := by kernel_rfl
theorem cellsOf3 : Try.prog.cellsOf 3 = 1 := by kernel_rfl
theorem cellsOf24 : Try.prog.cellsOf 24 = 1 := by kernel_rfl
theorem cellsOf26 : Try.prog.cellsOf 26 = 2 := by kernel_rfl
theorem cellsOf28 : Try.prog.cellsOf 28 = 2 := by kernel_rfl
theorem cellsOf56 : Try.prog.cellsOf 56 = 2 := by kernel_rfl
theorem cellsOf52' : Try.prog.cellsOf 52 = 2 := by kernel_rfl
theorem okWide_arr {P : Program} {w : World} {r : _} {base : Nat} {t : TypeId} {v : Value} {n : Nat} {e : TypeId} (ht : P.underlying t = some (.array n e)) (h : Value.okWide P w r base t v) : ∃ cs, v = .agg cs ∧ cs.size = P.cellsOf t := by
  simp only [Value.okWide, ht] at h
  obtain ⟨cs, h1, h2, _⟩ := h
  exact ⟨cs, h1, h2⟩
theorem byte_in {x : Int} (h : (Lit.int .u8 x).wf = true) : 0 ≤ x ∧ x ≤ 255 := bounds_u8 h
section
variable {H : Type} {enc : TypeId × Value → H} {W : World} {base : Nat} {spare : Nat → Bool} {held : Bool}
theorem open_put_cells {fuel : Nat} {cs : List Value} {x : DataW H × List MemPlace} (h : DataW.trod enc Try.prog W base spare held fuel 56 cs = some x) :
    ∃ y n : Int, cs = [.int .u8 y, .int .u8 n] ∧ (0 ≤ y ∧ y ≤ 255) ∧ (0 ≤ n ∧ n ≤ 255) := by
  obtain ⟨y0, y1, n, _, hl, h0, h1⟩ := trod_struct2 Try.underlying56 h
  rw [cellsOf56] at hl
  match cs, hl with
  | [c0, c1], _ =>
    obtain ⟨y, e0, _, w0⟩ := DataW.trod_int Try.underlying5 h0
    obtain ⟨m, e1, _, w1⟩ := DataW.trod_int Try.underlying5 h1
    simp [cellsOf5, cellsOf3, cellsOf24] at e0 e1
    subst e0 e1
    exact ⟨y, m, rfl, byte_in w0, byte_in w1⟩
theorem open_put_arg {v : Value} {d : DataW H} {p : List MemPlace} {w' : World} {r : _} {b : Nat} (hv : Value.okWide Try.prog w' r b 56 v) (h : DataW.Trod enc Try.prog W 0 spare held 56 v d p) :
    ∃ y n : Int, v = .agg #[.int .u8 y, .int .u8 n] ∧ (0 ≤ y ∧ y ≤ 255) ∧ (0 ≤ n ∧ n ≤ 255) := by
  obtain ⟨cs, rfl, hl⟩ := okWide_struct Try.underlying56 hv
  obtain ⟨fuel, hf⟩ := h
  obtain ⟨y, n, e, hb⟩ := open_put_cells hf
  refine ⟨y, n, ?_, hb⟩
  simp only [Value.cells] at e
  rw [← Array.toArray_toList (xs := cs)]
  rw [show cs.toList = _ from e]
theorem open_ndl_cells {fuel : Nat} {cs : List Value} {x : DataW H × List MemPlace} (h : DataW.trod enc Try.prog W base spare held fuel 26 cs = some x) :
    ∃ y n : Int, cs = [.int .u8 y, .int .i64 n] ∧ (0 ≤ y ∧ y ≤ 255) ∧ (-9223372036854775808 ≤ n ∧ n ≤ 9223372036854775807) := by
  obtain ⟨y0, y1, n, _, hl, h0, h1⟩ := trod_struct2 Try.underlying26 h
  rw [cellsOf26] at hl
  match cs, hl with
  | [c0, c1], _ =>
    obtain ⟨y, e0, _, w0⟩ := DataW.trod_int Try.underlying24 h0
    obtain ⟨m, e1, _, w1⟩ := DataW.trod_int Try.underlying3 h1
    simp [cellsOf5, cellsOf3, cellsOf24] at e0 e1
    subst e0 e1
    exact ⟨y, m, rfl, byte_in w0, bounds_i64 w1⟩
theorem open_ndl_arg {v : Value} {d : DataW H} {p : List MemPlace} {w' : World} {r : _} {b : Nat} (hv : Value.okWide Try.prog w' r b 26 v) (h : DataW.Trod enc Try.prog W 0 spare held 26 v d p) :
    ∃ y n : Int, v = .agg #[.int .u8 y, .int .i64 n] ∧ (0 ≤ y ∧ y ≤ 255) ∧ (-9223372036854775808 ≤ n ∧ n ≤ 9223372036854775807) := by
  obtain ⟨cs, rfl, hl⟩ := okWide_struct Try.underlying26 hv
  obtain ⟨fuel, hf⟩ := h
  obtain ⟨y, n, e, hb⟩ := open_ndl_cells hf
  refine ⟨y, n, ?_, hb⟩
  simp only [Value.cells] at e
  rw [← Array.toArray_toList (xs := cs)]
  rw [show cs.toList = _ from e]
theorem open_id_cells {fuel : Nat} {cs : List Value} {x : DataW H × List MemPlace} (h : DataW.trod enc Try.prog W base spare held fuel 28 cs = some x) :
    ∃ y n : Int, cs = [.int .u8 y, .int .i64 n] ∧ (0 ≤ y ∧ y ≤ 255) ∧ (-9223372036854775808 ≤ n ∧ n ≤ 9223372036854775807) := by
  obtain ⟨y0, y1, n, _, hl, h0, h1⟩ := trod_struct2 Try.underlying28 h
  rw [cellsOf28] at hl
  match cs, hl with
  | [c0, c1], _ =>
    obtain ⟨y, e0, _, w0⟩ := DataW.trod_int Try.underlying5 h0
    obtain ⟨m, e1, _, w1⟩ := DataW.trod_int Try.underlying3 h1
    simp [cellsOf5, cellsOf3, cellsOf24] at e0 e1
    subst e0 e1
    exact ⟨y, m, rfl, byte_in w0, bounds_i64 w1⟩
theorem open_id_arg {v : Value} {d : DataW H} {p : List MemPlace} {w' : World} {r : _} {b : Nat} (hv : Value.okWide Try.prog w' r b 28 v) (h : DataW.Trod enc Try.prog W 0 spare held 28 v d p) :
    ∃ y n : Int, v = .agg #[.int .u8 y, .int .i64 n] ∧ (0 ≤ y ∧ y ≤ 255) ∧ (-9223372036854775808 ≤ n ∧ n ≤ 9223372036854775807) := by
  obtain ⟨cs, rfl, hl⟩ := okWide_struct Try.underlying28 hv
  obtain ⟨fuel, hf⟩ := h
  obtain ⟨y, n, e, hb⟩ := open_id_cells hf
  refine ⟨y, n, ?_, hb⟩
  simp only [Value.cells] at e
  rw [← Array.toArray_toList (xs := cs)]
  rw [show cs.toList = _ from e]
theorem open_puts_arg {v : Value} {d : DataW H} {p : List MemPlace} {w' : World} {r : _} {b : Nat} (hv : Value.okWide Try.prog w' r b 23 v) (h : DataW.Trod enc Try.prog W 0 spare held 23 v d p) :
    ∃ (ao : Option Addr) (n cap : Nat) (xs : List (Nat × Nat)), v = .slice ao n cap ∧ n = xs.length ∧ LieP W ao xs := by
  obtain ⟨a0, len0, cap0, rfl⟩ := okWide_slice Try.underlying23 hv
  obtain ⟨fuel, hf⟩ := h
  rcases open_slice Try.underlying23 hf with ⟨hcs, _⟩ | ⟨a, len, cap, m, n, D, Pl, hcs, hb, hl, hm, hmm, _, hx⟩
  · simp [Value.cells] at hcs
    obtain ⟨rfl, rfl, rfl⟩ := hcs
    exact ⟨none, 0, 0, [], rfl, rfl, .inl rfl⟩
  · simp [Value.cells] at hcs
    obtain ⟨rfl, rfl, rfl⟩ := hcs
    have hlm : len0 ≤ m := by rw [hmm]; split <;> omega
    have each : ∀ i, i < len0 → ∃ p : (Nat × Nat), (∀ j, j < 2 → W.cell? (a.add (i * 2 + j)) = [Value.int .u8 (p.1 : Int), .int .u8 (p.2 : Int)][j]?) ∧ True := by
      intro i hi
      obtain ⟨cs', h1, h2⟩ := hx i (by omega)
      rw [cellsOf56] at h1
      obtain ⟨_, _, hc⟩ := World.cells?_some h1
      obtain ⟨y, n, rfl, hy, hn⟩ := open_put_cells h2
      refine ⟨(y.toNat, n.toNat), fun j hj => ?_, trivial⟩
      have := hc j hj
      rw [add_add] at this
      simp only [Int.toNat_of_nonneg hy.1, Int.toNat_of_nonneg hn.1]
      exact this
    let dflt : Inhabited ((Nat × Nat)) := ⟨(0, 0)⟩
    obtain ⟨P, hP⟩ := choose_lt each
    have hget : ∀ i p, ((List.range len0).map P)[i]? = some p → i < len0 ∧ p = P i := by
      intro i p hp
      have hi := (List.getElem?_eq_some_iff.1 hp).1
      simp at hi
      refine ⟨hi, ?_⟩
      rw [List.getElem?_map, List.getElem?_range hi] at hp
      simpa using hp.symm
    have hlie : len0 = 0 ∨ ∃ b o, some a = some ⟨b, o, none⟩ ∧ b < W.heap.size ∧ ∀ (i : Nat) (p : (Nat × Nat)), ((List.range len0).map P)[i]? = some p → W.cell? ⟨b, o + i * 2, none⟩ = some (.int .u8 (p.1 : Int)) ∧ W.cell? ⟨b, o + i * 2 + 1, none⟩ = some (.int .u8 (p.2 : Int)) := by
      by_cases h0 : len0 = 0
      · exact .inl h0
      · have c0 := (hP 0 (by omega)).1 0 (by omega)
        obtain ⟨b, off, spot⟩ := a
        have hspot : spot = none := by simpa [Addr.add] using World.cell?_spot c0
        subst hspot
        have key : ∀ k, (⟨b, off, none⟩ : Addr).add k = ⟨b, off + k, none⟩ := fun k => Addr.add_lit ..
        refine .inr ⟨b, off, rfl, ?_, fun i p hp => ?_⟩
        · rw [key] at c0
          exact World.block_lt_of_cell? _ _ c0
        · obtain ⟨hi, rfl⟩ := hget i p hp
          have q := (hP i hi).1
          have q0 := q 0 (by omega)
          have q1 := q 1 (by omega)
          rw [key] at q0 q1
          simp only [← Nat.add_assoc] at q0 q1
          exact ⟨q0, q1⟩
    have hwf : ∀ p ∈ (List.range len0).map P, True := by
      intro p hp
      obtain ⟨i, hi, rfl⟩ := List.mem_map.1 hp
      exact (hP i (List.mem_range.1 hi)).2
    refine ⟨some a, len0, cap0, (List.range len0).map P, rfl, by simp, ?_⟩
    rcases hlie with h0 | h0
    · exact .inl (by rw [h0]; rfl)
    · exact .inr h0
theorem open_ids_arg {v : Value} {d : DataW H} {p : List MemPlace} {w' : World} {r : _} {b : Nat} (hv : Value.okWide Try.prog w' r b 29 v) (h : DataW.Trod enc Try.prog W 0 spare held 29 v d p) :
    ∃ (ao : Option Addr) (n cap : Nat) (xs : List Nm), v = .slice ao n cap ∧ n = xs.length ∧ (∀ p ∈ xs, p.wf) ∧ (xs = [] ∨ ∃ b o, ao = some ⟨b, o, none⟩ ∧ b < W.heap.size ∧ ∀ (i : Nat) (p : Nm), xs[i]? = some p → Two W b (o + i * 2) p) := by
  obtain ⟨a0, len0, cap0, rfl⟩ := okWide_slice Try.underlying29 hv
  obtain ⟨fuel, hf⟩ := h
  rcases open_slice Try.underlying29 hf with ⟨hcs, _⟩ | ⟨a, len, cap, m, n, D, Pl, hcs, hb, hl, hm, hmm, _, hx⟩
  · simp [Value.cells] at hcs
    obtain ⟨rfl, rfl, rfl⟩ := hcs
    exact ⟨none, 0, 0, [], rfl, rfl, fun _ h => absurd h (by simp), .inl rfl⟩
  · simp [Value.cells] at hcs
    obtain ⟨rfl, rfl, rfl⟩ := hcs
    have hlm : len0 ≤ m := by rw [hmm]; split <;> omega
    have each : ∀ i, i < len0 → ∃ p : Nm, (∀ j, j < 2 → W.cell? (a.add (i * 2 + j)) = [Value.int .u8 p.y, .int .i64 p.n][j]?) ∧ p.wf := by
      intro i hi
      obtain ⟨cs', h1, h2⟩ := hx i (by omega)
      rw [cellsOf28] at h1
      obtain ⟨_, _, hc⟩ := World.cells?_some h1
      obtain ⟨y, n, rfl, hy, hn⟩ := open_id_cells h2
      refine ⟨⟨y, n⟩, fun j hj => ?_, hy, hn⟩
      have := hc j hj
      rwa [add_add] at this
    let dflt : Inhabited (Nm) := ⟨⟨0, 0⟩⟩
    obtain ⟨P, hP⟩ := choose_lt each
    have hget : ∀ i p, ((List.range len0).map P)[i]? = some p → i < len0 ∧ p = P i := by
      intro i p hp
      have hi := (List.getElem?_eq_some_iff.1 hp).1
      simp at hi
      refine ⟨hi, ?_⟩
      rw [List.getElem?_map, List.getElem?_range hi] at hp
      simpa using hp.symm
    have hlie : len0 = 0 ∨ ∃ b o, some a = some ⟨b, o, none⟩ ∧ b < W.heap.size ∧ ∀ (i : Nat) (p : Nm), ((List.range len0).map P)[i]? = some p → W.cell? ⟨b, o + i * 2, none⟩ = some (.int .u8 p.y) ∧ W.cell? ⟨b, o + i * 2 + 1, none⟩ = some (.int .i64 p.n) := by
      by_cases h0 : len0 = 0
      · exact .inl h0
      · have c0 := (hP 0 (by omega)).1 0 (by omega)
        obtain ⟨b, off, spot⟩ := a
        have hspot : spot = none := by simpa [Addr.add] using World.cell?_spot c0
        subst hspot
        have key : ∀ k, (⟨b, off, none⟩ : Addr).add k = ⟨b, off + k, none⟩ := fun k => Addr.add_lit ..
        refine .inr ⟨b, off, rfl, ?_, fun i p hp => ?_⟩
        · rw [key] at c0
          exact World.block_lt_of_cell? _ _ c0
        · obtain ⟨hi, rfl⟩ := hget i p hp
          have q := (hP i hi).1
          have q0 := q 0 (by omega)
          have q1 := q 1 (by omega)
          rw [key] at q0 q1
          simp only [← Nat.add_assoc] at q0 q1
          exact ⟨q0, q1⟩
    have hwf : ∀ p ∈ (List.range len0).map P, p.wf := by
      intro p hp
      obtain ⟨i, hi, rfl⟩ := List.mem_map.1 hp
      exact (hP i (List.mem_range.1 hi)).2
    refine ⟨some a, len0, cap0, (List.range len0).map P, rfl, by simp, hwf, ?_⟩
    rcases hlie with h0 | h0
    · exact .inl (by rw [h0]; rfl)
    · exact .inr h0
theorem open_pair_arg {v : Value} {d : DataW H} {p : List MemPlace} {w' : World} {r : _} {b : Nat} (hv : Value.okWide Try.prog w' r b 52 v) (h : DataW.Trod enc Try.prog W 0 spare held 52 v d p) :
    ∃ x y : Int, v = .agg #[.int .u8 x, .int .u8 y] ∧ (0 ≤ x ∧ x ≤ 255) ∧ (0 ≤ y ∧ y ≤ 255) := by
  obtain ⟨cs, rfl, hl⟩ := okWide_arr Try.underlying52 hv
  obtain ⟨fuel, hf⟩ := h
  obtain ⟨xs, m, _, _, _, hlen, he⟩ := DataW.trod_array Try.underlying52 hf
  rw [cellsOf52'] at hl
  obtain ⟨l⟩ := cs
  match l, hl, xs, hlen with
  | [c0, c1], _, [y0, y1], _ =>
    have h0 := he 0 (by decide)
    have h1 := he 1 (by decide)
    simp [cellsOf5, Value.cells] at h0 h1
    obtain ⟨x, e0, _, wx⟩ := DataW.trod_int Try.underlying5 h0
    obtain ⟨y, e1, _, wy⟩ := DataW.trod_int Try.underlying5 h1
    obtain rfl : c0 = _ := (List.cons.inj e0).1
    obtain rfl : c1 = _ := (List.cons.inj e1).1
    exact ⟨x, y, rfl, byte_in wx, byte_in wy⟩
end
end Go.Proofs.Ytjjnhmbgffdenaa
