import Derived.Test.YtjjnhmbgffdenaaDoorGar
namespace Go.Proofs.YtjjnhmbgffdenaaDoor
open Go.RowKit Go.Sort
/-- OrdersMeets: true. -/
theorem meets_law (ao : Option Addr) (xs : List (Nat × Nat)) (cap : Nat) (r p dd : Int) (w : World) (h : LieP w ao xs) (hs : Stp w) (hdd : 0 ≤ dd ∧ dd ≤ 255) :
    Calls Tryd.prog 7 #[.slice ao xs.length cap, .agg #[.int .i64 r, .int .i64 p], .int .u8 dd] w fun e w' => e = .returned (.bool true) ∧ Below w.heap.size w w' := by
  by_cases hc : checkStepM r dd = 0
  · by_cases h0 : Int.tmod p 2 = 0
    · exact meets_law_even ao xs cap r p dd w h hs hdd hc h0
    · rcases (cs_zero hc hdd.1).2.1 with hd | hd
      · exact meets_law_odd0 ao xs cap r p dd w h hs hdd hd hc h0
      · exact meets_law_odd1 ao xs cap r p dd w h hs hdd hd hc h0
  · exact meets_law_bad ao xs cap r p dd w h hs hdd _ rfl hc
end Go.Proofs.YtjjnhmbgffdenaaDoor
