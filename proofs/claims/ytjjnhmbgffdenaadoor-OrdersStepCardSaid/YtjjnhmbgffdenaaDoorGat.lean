import Derived.Test.YtjjnhmbgffdenaaDoorGaq
import Derived.Test.YtjjnhmbgffdenaaDoorCards
import Derived.Test.YtjjnhmbgffdenaaDoorTie
import Derived.Test.YtjjnhmbgffdenaaDoorRows
import Derived.ProofKit
import Derived.WalkKit
import Derived.Deep.Slices
import Derived.Deep.Strs
import Derived.OpenShut
import Derived.Lib.SmallJoins
import Derived.Deep.DeepHandedRow
import Derived.Deep.DeepWitnessRowRef
import Derived.Lib.LaidTab
import Derived.Lib.LaidIn
import Derived.MakeChecks
namespace Go.Proofs.YtjjnhmbgffdenaaDoor
set_option maxRecDepth 100000
open Go.ChangeShapes Go.WideShapes Go.ChangeAt Go.RowKit Go.Deep Go.Joins

theorem own : ownKnob Tryd.prog.godebug = none := by kernel_rfl
theorem Tryd.laidOut' : laidOutB Tryd.prog = true := by kernel_rfl
theorem cellsOf5 : Tryd.prog.cellsOf 5 = 1 := by kernel_rfl
theorem cellsOf3 : Tryd.prog.cellsOf 3 = 1 := by kernel_rfl
theorem cellsOf97 : Tryd.prog.cellsOf 97 = 2 := by kernel_rfl
theorem byte_in {x : Int} (h : (Lit.int .u8 x).wf = true) : 0 ≤ x ∧ x ≤ 255 := bounds_u8 h
/-- The table of steps, as a row lists it. -/
theorem stp_of_laid {W : World} (h : laidMetH Tryd.prog [("gansey/orders.steps", Rows.laid_gansey_orders_steps)] W) : Stp W := by
  rw [MakeChecks.laidMetH_plain _ _ _ (by kernel_rfl)] at h
  have hT : Lib.TabIs Tryd.prog W "gansey/orders.steps" .i64 [-1, 1] := Lib.tabIs_of_head (g := 0) (t := 42) (e := 3) (n := 2) (by kernel_rfl) (by kernel_rfl) Tryd.underlying42 Tryd.underlying3 (by kernel_rfl) (by kernel_rfl) h
  have c0 := hT.cell (g := 0) (by kernel_rfl) 0 (by decide)
  have c1 := hT.cell (g := 0) (by kernel_rfl) 1 (by decide)
  exact ⟨c0, c1, World.block_lt_of_cell? _ _ c0⟩
/-- A world in which the table lies. -/
noncomputable def laidWorld (os : Os) : World :=
  let w0 := World.holding Tryd.prog os ⟨#[], #[], []⟩
  let put (h : Array Obj) (g : Nat) (cs : Array Value) : Array Obj := h.modify g fun
    | .cells _ t frozen => .cells cs t frozen
    | o => o
  { w0 with heap := put w0.heap 0 #[.int .i64 (-1), .int .i64 1] }
theorem laid_met (os : Os) (args : Array Value) : laidMet Tryd.prog Rows.ordersListRow.laid ((laidWorld os).forCall (fun _ _ => 0) ⟨#[], args, []⟩).memory :=
  laidMet_of_run' 8 (by kernel_rfl) (by kernel_rfl)
section
variable {H : Type} {enc : TypeId × Value → H} {W : World} {base : Nat} {spare : Nat → Bool} {held : Bool}
theorem open_put_cells {fuel : Nat} {cs : List Value} {x : DataW H × List MemPlace} (h : DataW.trod enc Tryd.prog W base spare held fuel 97 cs = some x) :
    ∃ y n : Int, cs = [.int .u8 y, .int .u8 n] ∧ (0 ≤ y ∧ y ≤ 255) ∧ (0 ≤ n ∧ n ≤ 255) := by
  obtain ⟨y0, y1, n, _, hl, h0, h1⟩ := trod_struct2 Tryd.underlying97 h
  rw [cellsOf97] at hl
  match cs, hl with
  | [c0, c1], _ =>
    obtain ⟨y, e0, _, w0⟩ := DataW.trod_int Tryd.underlying5 h0
    obtain ⟨m, e1, _, w1⟩ := DataW.trod_int Tryd.underlying5 h1
    simp [cellsOf5, cellsOf3] at e0 e1
    subst e0 e1
    exact ⟨y, m, rfl, byte_in w0, byte_in w1⟩
theorem open_puts_arg {v : Value} {d : DataW H} {p : List MemPlace} {w' : World} {r : _} {b : Nat} (hv : Value.okWide Tryd.prog w' r b 23 v) (h : DataW.Trod enc Tryd.prog W 0 spare held 23 v d p) :
    ∃ (ao : Option Addr) (n cap : Nat) (xs : List (Nat × Nat)), v = .slice ao n cap ∧ n = xs.length ∧ LieP W ao xs := by
  obtain ⟨a0, len0, cap0, rfl⟩ := okWide_slice Tryd.underlying23 hv
  obtain ⟨fuel, hf⟩ := h
  rcases open_slice Tryd.underlying23 hf with ⟨hcs, _⟩ | ⟨a, len, cap, m, n, D, Pl, hcs, hb, hl, hm, hmm, _, hx⟩
  · simp [Value.cells] at hcs
    obtain ⟨rfl, rfl, rfl⟩ := hcs
    exact ⟨none, 0, 0, [], rfl, rfl, .inl rfl⟩
  · simp [Value.cells] at hcs
    obtain ⟨rfl, rfl, rfl⟩ := hcs
    have hlm : len0 ≤ m := by rw [hmm]; split <;> omega
    have each : ∀ i, i < len0 → ∃ p : (Nat × Nat), (∀ j, j < 2 → W.cell? (a.add (i * 2 + j)) = [Value.int .u8 (p.1 : Int), .int .u8 (p.2 : Int)][j]?) ∧ True := by
      intro i hi
      obtain ⟨cs', h1, h2⟩ := hx i (by omega)
      rw [cellsOf97] at h1
      obtain ⟨_, _, hc⟩ := World.cells?_some h1
      obtain ⟨y, n, rfl, hy, hn⟩ := open_put_cells h2
      refine ⟨(y.toNat, n.toNat), fun j hj => ?_, trivial⟩
      have := hc j hj
      rw [add_add] at this
      simp only [Int.toNat_of_nonneg hy.1, Int.toNat_of_nonneg hn.1]
      exact this
    let dflt : Inhabited ((Nat × Nat)) := ⟨(0, 0)⟩
    obtain ⟨P, hP⟩ := choose_lt each
    have hget : ∀ i p, ((List.range len0).map P)[i]? = some p → i < len0 ∧ p = P i := by
      intro i p hp
      have hi := (List.getElem?_eq_some_iff.1 hp).1
      simp at hi
      refine ⟨hi, ?_⟩
      rw [List.getElem?_map, List.getElem?_range hi] at hp
      simpa using hp.symm
    have hlie : len0 = 0 ∨ ∃ b o, some a = some ⟨b, o, none⟩ ∧ b < W.heap.size ∧ ∀ (i : Nat) (p : (Nat × Nat)), ((List.range len0).map P)[i]? = some p → W.cell? ⟨b, o + i * 2, none⟩ = some (.int .u8 (p.1 : Int)) ∧ W.cell? ⟨b, o + i * 2 + 1, none⟩ = some (.int .u8 (p.2 : Int)) := by
      by_cases h0 : len0 = 0
      · exact .inl h0
      · have c0 := (hP 0 (by omega)).1 0 (by omega)
        obtain ⟨b, off, spot⟩ := a
        have hspot : spot = none := by simpa [Addr.add] using World.cell?_spot c0
        subst hspot
        have key : ∀ k, (⟨b, off, none⟩ : Addr).add k = ⟨b, off + k, none⟩ := fun k => Addr.add_lit ..
        refine .inr ⟨b, off, rfl, ?_, fun i p hp => ?_⟩
        · rw [key] at c0
          exact World.block_lt_of_cell? _ _ c0
        · obtain ⟨hi, rfl⟩ := hget i p hp
          have q := (hP i hi).1
          have q0 := q 0 (by omega)
          have q1 := q 1 (by omega)
          rw [key] at q0 q1
          simp only [← Nat.add_assoc] at q0 q1
          exact ⟨q0, q1⟩
    have hwf : ∀ p ∈ (List.range len0).map P, True := by
      intro p hp
      obtain ⟨i, hi, rfl⟩ := List.mem_map.1 hp
      exact (hP i (List.mem_range.1 hi)).2
    refine ⟨some a, len0, cap0, (List.range len0).map P, rfl, by simp, ?_⟩
    rcases hlie with h0 | h0
    · exact .inl (by rw [h0]; rfl)
    · exact .inr h0
theorem okWide_arr {P : Program} {w : World} {r : _} {base : Nat} {t : TypeId} {v : Value} {n : Nat} {e : TypeId} (ht : P.underlying t = some (.array n e)) (h : Value.okWide P w r base t v) : ∃ cs, v = .agg cs ∧ cs.size = P.cellsOf t := by
  simp only [Value.okWide, ht] at h
  obtain ⟨cs, h1, h2, _⟩ := h
  exact ⟨cs, h1, h2⟩
theorem cellsOf42 : Tryd.prog.cellsOf 42 = 2 := by kernel_rfl
theorem open_two_arg {v : Value} {d : DataW H} {p : List MemPlace} {w' : World} {r : _} {b : Nat} (hv : Value.okWide Tryd.prog w' r b 42 v) (h : DataW.Trod enc Tryd.prog W 0 spare held 42 v d p) :
    ∃ x y : Int, v = .agg #[.int .i64 x, .int .i64 y] := by
  obtain ⟨cs, rfl, hl⟩ := okWide_arr Tryd.underlying42 hv
  obtain ⟨fuel, hf⟩ := h
  obtain ⟨xs, m, _, _, _, hlen, he⟩ := DataW.trod_array Tryd.underlying42 hf
  rw [cellsOf42] at hl
  obtain ⟨l⟩ := cs
  match l, hl, xs, hlen with
  | [c0, c1], _, [y0, y1], _ =>
    have h0 := he 0 (by decide)
    have h1 := he 1 (by decide)
    simp [cellsOf3, Value.cells] at h0 h1
    obtain ⟨x, e0, _, _⟩ := DataW.trod_int Tryd.underlying3 h0
    obtain ⟨y, e1, _, _⟩ := DataW.trod_int Tryd.underlying3 h1
    obtain rfl : c0 = _ := (List.cons.inj e0).1
    obtain rfl : c1 = _ := (List.cons.inj e1).1
    exact ⟨x, y, rfl⟩
end
end Go.Proofs.YtjjnhmbgffdenaaDoor
