import Derived.Test.YtjjnhmbgffdenaaDoorGas
namespace Go.Proofs.YtjjnhmbgffdenaaDoor
open Go.RowKit Go.Sort Go.Shelf Go.Lib
/-- OrdersStep: true. -/
theorem step_law (ao : Option Addr) (xs : List (Nat × Nat)) (cap : Nat) (r dd : Int) (w : World) (h : LieP w ao xs) (hs : Stp w) (hdd : 0 ≤ dd ∧ dd ≤ 255) :
    Calls Tryd.prog 5 #[.slice ao xs.length cap, .int .i64 r, .int .u8 dd] w fun e w' => e = .returned (.bool true) ∧ RowKit.Below w.heap.size w w' := by
  by_cases h1 : dd = 0 ∧ -3 ≤ r ∧ r ≤ 4
  · obtain ⟨rfl, h1⟩ := h1
    exact stepl_0 ao xs cap r w h hs h1
  · by_cases h2 : dd = 1 ∧ -4 ≤ r ∧ r ≤ 3
    · obtain ⟨rfl, h2⟩ := h2
      exact stepl_1 ao xs cap r w h hs h2
    · exact stepl_bad ao xs cap r dd w h hs hdd (by omega)
end Go.Proofs.YtjjnhmbgffdenaaDoor
