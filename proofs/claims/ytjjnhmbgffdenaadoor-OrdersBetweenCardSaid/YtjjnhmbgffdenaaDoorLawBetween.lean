import Derived.Test.YtjjnhmbgffdenaaDoorGas
namespace Go.Proofs.YtjjnhmbgffdenaaDoor
open Go.RowKit Go.Sort
/-- OrdersBetween: true. -/
theorem between_law (ao : Option Addr) (xs : List (Nat × Nat)) (cap : Nat) (z x y : Int) (w : World) (h : LieP w ao xs) (hs : Stp w) (hz : 0 ≤ z ∧ z ≤ 255) :
    Calls Tryd.prog 4 #[.slice ao xs.length cap, .int .u8 z, .agg #[.int .i64 x, .int .i64 y]] w fun e w' => e = .returned (.bool true) ∧ Below w.heap.size w w' := by
  rcases Int.lt_trichotomy x y with h1 | h1 | h1
  · exact between_lt ao xs cap z x y w h hs hz h1
  · exact between_eq ao xs cap z x y w h hs hz h1
  · exact between_gt ao xs cap z x y w h hs hz h1
end Go.Proofs.YtjjnhmbgffdenaaDoor
