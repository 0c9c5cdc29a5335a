import Derived.Test.YtjjnhmbgffdenaaRg5
import Derived.Test.YtjjnhmbgffdenaaMem
import Derived.Test.YtjjnhmbgffdenaaEq
namespace Go.Proofs.Ytjjnhmbgffdenaa
open Go.RowKit Go.Sort

section
variable {o : Oper} {a : Act} {w : World} {K : Act → World → Prop} {Q : Exit → Act → World → Prop} {x y : Operand}

theorem step_val {v : Value} (h : (execOp a.eval o).run Try.prog w = .ok (.value v) w) (hK : K (a.put o.dst v) w) : o.wp Try.prog a w K Q := by
  unfold Oper.wp
  rw [h]
  exact hK
theorem step_valw {v : Value} {w' : World} (h : (execOp a.eval o).run Try.prog w = .ok (.value v) w') (hK : K (a.put o.dst v) w') : o.wp Try.prog a w K Q := by
  unfold Oper.wp
  rw [h]
  exact hK
theorem fa35_0 {b q : Nat} (hop : o.op = .fieldAddr 35 x 0) (hx : a.eval x = .pointer (some ⟨b, q, none⟩)) (hK : K (a.put o.dst (.pointer (some ⟨b, q, none⟩))) w) : o.wp Try.prog a w K Q := by
  exact step_val (by simp only [execOp, hop, hx]; go_simp) hK
theorem fa35_1 {b q : Nat} (hop : o.op = .fieldAddr 35 x 1) (hx : a.eval x = .pointer (some ⟨b, q, none⟩)) (hK : K (a.put o.dst (.pointer (some ⟨b, q + 1, none⟩))) w) : o.wp Try.prog a w K Q := by
  exact step_val (by simp only [execOp, hop, hx]; go_simp) hK
theorem fa26_0 {b q : Nat} (hop : o.op = .fieldAddr 26 x 0) (hx : a.eval x = .pointer (some ⟨b, q, none⟩)) (hK : K (a.put o.dst (.pointer (some ⟨b, q, none⟩))) w) : o.wp Try.prog a w K Q := by
  exact step_val (by simp only [execOp, hop, hx]; go_simp) hK
theorem fa26_1 {b q : Nat} (hop : o.op = .fieldAddr 26 x 1) (hx : a.eval x = .pointer (some ⟨b, q, none⟩)) (hK : K (a.put o.dst (.pointer (some ⟨b, q + 1, none⟩))) w) : o.wp Try.prog a w K Q := by
  exact step_val (by simp only [execOp, hop, hx]; go_simp) hK
theorem fa28_0 {b q : Nat} (hop : o.op = .fieldAddr 28 x 0) (hx : a.eval x = .pointer (some ⟨b, q, none⟩)) (hK : K (a.put o.dst (.pointer (some ⟨b, q, none⟩))) w) : o.wp Try.prog a w K Q := by
  exact step_val (by simp only [execOp, hop, hx]; go_simp) hK
theorem fa28_1 {b q : Nat} (hop : o.op = .fieldAddr 28 x 1) (hx : a.eval x = .pointer (some ⟨b, q, none⟩)) (hK : K (a.put o.dst (.pointer (some ⟨b, q + 1, none⟩))) w) : o.wp Try.prog a w K Q := by
  exact step_val (by simp only [execOp, hop, hx]; go_simp) hK
theorem ld3 {b q : Nat} {v : Value} (hop : o.op = .load 3 x) (hx : a.eval x = .pointer (some ⟨b, q, none⟩)) (hc : w.cell? ⟨b, q, none⟩ = some v) (hK : K (a.put o.dst (v)) w) : o.wp Try.prog a w K Q := by
  exact step_val (by simp only [execOp, hop, hx]; go_simp) hK
theorem ld5 {b q : Nat} {v : Value} (hop : o.op = .load 5 x) (hx : a.eval x = .pointer (some ⟨b, q, none⟩)) (hc : w.cell? ⟨b, q, none⟩ = some v) (hK : K (a.put o.dst (v)) w) : o.wp Try.prog a w K Q := by
  exact step_val (by simp only [execOp, hop, hx]; go_simp) hK
theorem ld24 {b q : Nat} {v : Value} (hop : o.op = .load 24 x) (hx : a.eval x = .pointer (some ⟨b, q, none⟩)) (hc : w.cell? ⟨b, q, none⟩ = some v) (hK : K (a.put o.dst (v)) w) : o.wp Try.prog a w K Q := by
  exact step_val (by simp only [execOp, hop, hx]; go_simp) hK
theorem ld29 {b q : Nat} {v : Value} (hop : o.op = .load 29 x) (hx : a.eval x = .pointer (some ⟨b, q, none⟩)) (hc : w.cell? ⟨b, q, none⟩ = some v) (hK : K (a.put o.dst (v)) w) : o.wp Try.prog a w K Q := by
  exact step_val (by simp only [execOp, hop, hx]; go_simp) hK
theorem ld33 {b q : Nat} {v : Value} (hop : o.op = .load 33 x) (hx : a.eval x = .pointer (some ⟨b, q, none⟩)) (hc : w.cell? ⟨b, q, none⟩ = some v) (hK : K (a.put o.dst (v)) w) : o.wp Try.prog a w K Q := by
  exact step_val (by simp only [execOp, hop, hx]; go_simp) hK
theorem ld37 {b q : Nat} {v : Value} (hop : o.op = .load 37 x) (hx : a.eval x = .pointer (some ⟨b, q, none⟩)) (hc : w.cell? ⟨b, q, none⟩ = some v) (hK : K (a.put o.dst (v)) w) : o.wp Try.prog a w K Q := by
  exact step_val (by simp only [execOp, hop, hx]; go_simp) hK
theorem ld35 {b q : Nat} {v0 v1 : Value} (hop : o.op = .load 35 x) (hx : a.eval x = .pointer (some ⟨b, q, none⟩)) (c0 : w.cell? ⟨b, q, none⟩ = some v0) (c1 : w.cell? ⟨b, q + 1, none⟩ = some v1) (hK : K (a.put o.dst (.agg #[v0, v1])) w) : o.wp Try.prog a w K Q := by
  exact step_val (by simp only [execOp, hop, hx]; go_simp) hK
theorem ld26 {b q : Nat} {v0 v1 : Value} (hop : o.op = .load 26 x) (hx : a.eval x = .pointer (some ⟨b, q, none⟩)) (c0 : w.cell? ⟨b, q, none⟩ = some v0) (c1 : w.cell? ⟨b, q + 1, none⟩ = some v1) (hK : K (a.put o.dst (.agg #[v0, v1])) w) : o.wp Try.prog a w K Q := by
  exact step_val (by simp only [execOp, hop, hx]; go_simp) hK
theorem ld28 {b q : Nat} {v0 v1 : Value} (hop : o.op = .load 28 x) (hx : a.eval x = .pointer (some ⟨b, q, none⟩)) (c0 : w.cell? ⟨b, q, none⟩ = some v0) (c1 : w.cell? ⟨b, q + 1, none⟩ = some v1) (hK : K (a.put o.dst (.agg #[v0, v1])) w) : o.wp Try.prog a w K Q := by
  exact step_val (by simp only [execOp, hop, hx]; go_simp) hK
theorem st_move {v : Value} (hop : o.op = .move x) (hx : a.eval x = v) (hK : K (a.put o.dst (v)) w) : o.wp Try.prog a w K Q := by
  exact step_val (by simp only [execOp, hop, hx]; go_simp) hK
theorem st_assign {v : Value} (hop : o.op = .assign x) (hx : a.eval x = v) (hK : K (a.put o.dst (v)) w) : o.wp Try.prog a w K Q := by
  exact step_val (by simp only [execOp, hop, hx]; go_simp) hK
theorem st_lss_3 {X Y : Int} (hop : o.op = .binOp .lss 3 x y 3) (hx : a.eval x = .int .i64 X) (hy : a.eval y = .int .i64 Y) (hK : K (a.put o.dst (.bool (decide (X < Y)))) w) : o.wp Try.prog a w K Q := by
  exact step_val (by simp only [execOp, hop, hx, hy]; go_simp) hK
theorem st_lss_5 {X Y : Int} (hop : o.op = .binOp .lss 5 x y 5) (hx : a.eval x = .int .u8 X) (hy : a.eval y = .int .u8 Y) (hK : K (a.put o.dst (.bool (decide (X < Y)))) w) : o.wp Try.prog a w K Q := by
  exact step_val (by simp only [execOp, hop, hx, hy]; go_simp) hK
theorem st_gtr_3 {X Y : Int} (hop : o.op = .binOp .gtr 3 x y 3) (hx : a.eval x = .int .i64 X) (hy : a.eval y = .int .i64 Y) (hK : K (a.put o.dst (.bool (decide (Y < X)))) w) : o.wp Try.prog a w K Q := by
  exact step_val (by simp only [execOp, hop, hx, hy]; go_simp) hK
theorem st_gtr_5 {X Y : Int} (hop : o.op = .binOp .gtr 5 x y 5) (hx : a.eval x = .int .u8 X) (hy : a.eval y = .int .u8 Y) (hK : K (a.put o.dst (.bool (decide (Y < X)))) w) : o.wp Try.prog a w K Q := by
  exact step_val (by simp only [execOp, hop, hx, hy]; go_simp) hK
theorem st_gtr_24 {X Y : Int} (hop : o.op = .binOp .gtr 24 x y 24) (hx : a.eval x = .int .u8 X) (hy : a.eval y = .int .u8 Y) (hK : K (a.put o.dst (.bool (decide (Y < X)))) w) : o.wp Try.prog a w K Q := by
  exact step_val (by simp only [execOp, hop, hx, hy]; go_simp) hK
theorem st_gtr_37 {X Y : Int} (hop : o.op = .binOp .gtr 37 x y 37) (hx : a.eval x = .int .i64 X) (hy : a.eval y = .int .i64 Y) (hK : K (a.put o.dst (.bool (decide (Y < X)))) w) : o.wp Try.prog a w K Q := by
  exact step_val (by simp only [execOp, hop, hx, hy]; go_simp) hK
theorem st_leq_3 {X Y : Int} (hop : o.op = .binOp .leq 3 x y 3) (hx : a.eval x = .int .i64 X) (hy : a.eval y = .int .i64 Y) (hK : K (a.put o.dst (.bool (decide (X ≤ Y)))) w) : o.wp Try.prog a w K Q := by
  exact step_val (by simp only [execOp, hop, hx, hy]; go_simp) hK
theorem st_leq_5 {X Y : Int} (hop : o.op = .binOp .leq 5 x y 5) (hx : a.eval x = .int .u8 X) (hy : a.eval y = .int .u8 Y) (hK : K (a.put o.dst (.bool (decide (X ≤ Y)))) w) : o.wp Try.prog a w K Q := by
  exact step_val (by simp only [execOp, hop, hx, hy]; go_simp) hK
theorem st_geq_3 {X Y : Int} (hop : o.op = .binOp .geq 3 x y 3) (hx : a.eval x = .int .i64 X) (hy : a.eval y = .int .i64 Y) (hK : K (a.put o.dst (.bool (decide (Y ≤ X)))) w) : o.wp Try.prog a w K Q := by
  exact step_val (by simp only [execOp, hop, hx, hy]; go_simp) hK
theorem st_geq_5 {X Y : Int} (hop : o.op = .binOp .geq 5 x y 5) (hx : a.eval x = .int .u8 X) (hy : a.eval y = .int .u8 Y) (hK : K (a.put o.dst (.bool (decide (Y ≤ X)))) w) : o.wp Try.prog a w K Q := by
  exact step_val (by simp only [execOp, hop, hx, hy]; go_simp) hK
theorem st_eql_3 {X Y : Int} (hop : o.op = .binOp .eql 3 x y 3) (hx : a.eval x = .int .i64 X) (hy : a.eval y = .int .i64 Y) (hK : K (a.put o.dst (.bool (X == Y))) w) : o.wp Try.prog a w K Q := by
  exact step_val (by simp only [execOp, hop, hx, hy]; go_simp) hK
theorem st_eql_5 {X Y : Int} (hop : o.op = .binOp .eql 5 x y 5) (hx : a.eval x = .int .u8 X) (hy : a.eval y = .int .u8 Y) (hK : K (a.put o.dst (.bool (X == Y))) w) : o.wp Try.prog a w K Q := by
  exact step_val (by simp only [execOp, hop, hx, hy]; go_simp) hK
theorem st_eql_24 {X Y : Int} (hop : o.op = .binOp .eql 24 x y 24) (hx : a.eval x = .int .u8 X) (hy : a.eval y = .int .u8 Y) (hK : K (a.put o.dst (.bool (X == Y))) w) : o.wp Try.prog a w K Q := by
  exact step_val (by simp only [execOp, hop, hx, hy]; go_simp) hK
theorem st_eql_37 {X Y : Int} (hop : o.op = .binOp .eql 37 x y 37) (hx : a.eval x = .int .i64 X) (hy : a.eval y = .int .i64 Y) (hK : K (a.put o.dst (.bool (X == Y))) w) : o.wp Try.prog a w K Q := by
  exact step_val (by simp only [execOp, hop, hx, hy]; go_simp) hK
theorem st_neq_3 {X Y : Int} (hop : o.op = .binOp .neq 3 x y 3) (hx : a.eval x = .int .i64 X) (hy : a.eval y = .int .i64 Y) (hK : K (a.put o.dst (.bool (X != Y))) w) : o.wp Try.prog a w K Q := by
  exact step_val (by simp only [execOp, hop, hx, hy]; go_simp) hK
theorem st_neq_5 {X Y : Int} (hop : o.op = .binOp .neq 5 x y 5) (hx : a.eval x = .int .u8 X) (hy : a.eval y = .int .u8 Y) (hK : K (a.put o.dst (.bool (X != Y))) w) : o.wp Try.prog a w K Q := by
  exact step_val (by simp only [execOp, hop, hx, hy]; go_simp) hK
theorem st_neq_24 {X Y : Int} (hop : o.op = .binOp .neq 24 x y 24) (hx : a.eval x = .int .u8 X) (hy : a.eval y = .int .u8 Y) (hK : K (a.put o.dst (.bool (X != Y))) w) : o.wp Try.prog a w K Q := by
  exact step_val (by simp only [execOp, hop, hx, hy]; go_simp) hK
theorem st_neq_37 {X Y : Int} (hop : o.op = .binOp .neq 37 x y 37) (hx : a.eval x = .int .i64 X) (hy : a.eval y = .int .i64 Y) (hK : K (a.put o.dst (.bool (X != Y))) w) : o.wp Try.prog a w K Q := by
  exact step_val (by simp only [execOp, hop, hx, hy]; go_simp) hK
theorem st_add_3 {X Y Z : Int} (hop : o.op = .binOp .add 3 x y 3) (hx : a.eval x = .int .i64 X) (hy : a.eval y = .int .i64 Y) (hz : IntKind.i64.wrap (X + Y) = Z) (hK : K (a.put o.dst (.int .i64 Z)) w) : o.wp Try.prog a w K Q := by
  exact step_val (by simp only [execOp, hop, hx, hy]; go_simp) hK
theorem st_add_5 {X Y Z : Int} (hop : o.op = .binOp .add 5 x y 5) (hx : a.eval x = .int .u8 X) (hy : a.eval y = .int .u8 Y) (hz : IntKind.u8.wrap (X + Y) = Z) (hK : K (a.put o.dst (.int .u8 Z)) w) : o.wp Try.prog a w K Q := by
  exact step_val (by simp only [execOp, hop, hx, hy]; go_simp) hK
theorem st_sub_3 {X Y Z : Int} (hop : o.op = .binOp .sub 3 x y 3) (hx : a.eval x = .int .i64 X) (hy : a.eval y = .int .i64 Y) (hz : IntKind.i64.wrap (X - Y) = Z) (hK : K (a.put o.dst (.int .i64 Z)) w) : o.wp Try.prog a w K Q := by
  exact step_val (by simp only [execOp, hop, hx, hy]; go_simp) hK
theorem st_sub_5 {X Y Z : Int} (hop : o.op = .binOp .sub 5 x y 5) (hx : a.eval x = .int .u8 X) (hy : a.eval y = .int .u8 Y) (hz : IntKind.u8.wrap (X - Y) = Z) (hK : K (a.put o.dst (.int .u8 Z)) w) : o.wp Try.prog a w K Q := by
  exact step_val (by simp only [execOp, hop, hx, hy]; go_simp) hK
theorem st_rem40 {X : Int} (hop : o.op = .binOp .rem 5 x y 5) (hx : a.eval x = .int .u8 X) (hy : a.eval y = .int .u8 40) (hK : K (a.put o.dst (.int .u8 (X.tmod 40))) w) : o.wp Try.prog a w K Q := by
  exact step_val (by simp only [execOp, hop, hx, hy]; go_simp) hK
theorem st_conv35 {X Z : Int} (hop : o.op = .convert 3 5 x) (hx : a.eval x = .int .i64 X) (hz : IntKind.u8.wrap X = Z) (hK : K (a.put o.dst (.int .u8 Z)) w) : o.wp Try.prog a w K Q := by
  exact step_val (by simp only [execOp, hop, hx]; go_simp) hK
theorem st_eql_26 {p q p' q' : Int} {r : Bool} (hop : o.op = .binOp .eql 26 x y 26) (hx : a.eval x = .agg #[.int .u8 p, .int .i64 q]) (hy : a.eval y = .agg #[.int .u8 p', .int .i64 q']) (hr : sameNm p q p' q' = r) (hK : K (a.put o.dst (.bool (r))) w) : o.wp Try.prog a w K Q := by
  have e := fun w => eql26 hr w
  exact step_val (by simp only [execOp, hop, hx, hy]; go_simp) hK
theorem st_neq_26 {p q p' q' : Int} {r : Bool} (hop : o.op = .binOp .neq 26 x y 26) (hx : a.eval x = .agg #[.int .u8 p, .int .i64 q]) (hy : a.eval y = .agg #[.int .u8 p', .int .i64 q']) (hr : sameNm p q p' q' = r) (hK : K (a.put o.dst (.bool (!r))) w) : o.wp Try.prog a w K Q := by
  have e := fun w => neq26 hr w
  exact step_val (by simp only [execOp, hop, hx, hy]; go_simp) hK
theorem st_eql_28 {p q p' q' : Int} {r : Bool} (hop : o.op = .binOp .eql 28 x y 28) (hx : a.eval x = .agg #[.int .u8 p, .int .i64 q]) (hy : a.eval y = .agg #[.int .u8 p', .int .i64 q']) (hr : sameNm p q p' q' = r) (hK : K (a.put o.dst (.bool (r))) w) : o.wp Try.prog a w K Q := by
  have e := fun w => eql28 hr w
  exact step_val (by simp only [execOp, hop, hx, hy]; go_simp) hK
theorem st_neq_28 {p q p' q' : Int} {r : Bool} (hop : o.op = .binOp .neq 28 x y 28) (hx : a.eval x = .agg #[.int .u8 p, .int .i64 q]) (hy : a.eval y = .agg #[.int .u8 p', .int .i64 q']) (hr : sameNm p q p' q' = r) (hK : K (a.put o.dst (.bool (!r))) w) : o.wp Try.prog a w K Q := by
  have e := fun w => neq28 hr w
  exact step_val (by simp only [execOp, hop, hx, hy]; go_simp) hK
theorem st_eql_4 {c d : Bool} (hop : o.op = .binOp .eql 4 x y 4) (hx : a.eval x = .bool c) (hy : a.eval y = .bool d) (hK : K (a.put o.dst (.bool (c == d))) w) : o.wp Try.prog a w K Q := by
  exact step_val (by simp only [execOp, hop, hx, hy]; go_simp) hK
theorem st_not {c : Bool} (hop : o.op = .unOp .not 4 x) (hx : a.eval x = .bool c) (hK : K (a.put o.dst (.bool (!c))) w) : o.wp Try.prog a w K Q := by
  exact step_val (by simp only [execOp, hop, hx]; go_simp) hK
theorem st_or {c d : Bool} (hop : o.op = .pick x (.const (.bool true)) y) (hx : a.eval x = .bool c) (hy : c = false → a.eval y = .bool d) (hK : K (a.put o.dst (.bool (c || d))) w) : o.wp Try.prog a w K Q := by
  cases c
  · have hy' := hy rfl
    exact step_val (by simp only [execOp, hop, hx, hy']; go_simp) hK
  · exact step_val (by simp only [execOp, hop, hx]; go_simp) hK
theorem st_and {c d : Bool} (hop : o.op = .pick x y (.const (.bool false))) (hx : a.eval x = .bool c) (hy : c = true → a.eval y = .bool d) (hK : K (a.put o.dst (.bool (c && d))) w) : o.wp Try.prog a w K Q := by
  cases c
  · exact step_val (by simp only [execOp, hop, hx]; go_simp) hK
  · have hy' := hy rfl
    exact step_val (by simp only [execOp, hop, hx, hy']; go_simp) hK
theorem len29 {t : Tmp} {ao : Option Addr} {n cap : Nat} (hop : o.op = .call { callee := .builtin .len, args := #[.tmp t], argTypes := #[29] }) (hv : a.eval (.tmp t) = .slice ao n cap) (hK : K (a.put o.dst (.int .i64 n)) w) : o.wp Try.prog a w K Q := by
  have e : a.tmps[t]?.getD undef = .slice ao n cap := by simpa [Act.eval] using hv
  clear hv
  unfold Oper.wp
  simp only [execOp, hop, resolve]
  go_simp
  exact hK
theorem len33 {t : Tmp} {ao : Option Addr} {n cap : Nat} (hop : o.op = .call { callee := .builtin .len, args := #[.tmp t], argTypes := #[33] }) (hv : a.eval (.tmp t) = .slice ao n cap) (hK : K (a.put o.dst (.int .i64 n)) w) : o.wp Try.prog a w K Q := by
  have e : a.tmps[t]?.getD undef = .slice ao n cap := by simpa [Act.eval] using hv
  clear hv
  unfold Oper.wp
  simp only [execOp, hop, resolve]
  go_simp
  exact hK
theorem st_idx31 {b k : Nat} (hop : o.op = .indexAddr 31 x y) (hx : a.eval x = .pointer (some ⟨b, 0, none⟩)) (hy : a.eval y = .int .i64 k) (hk : k < 80) (hK : K (a.put o.dst (.pointer (some ⟨b, k, none⟩))) w) : o.wp Try.prog a w K Q := by
  have h1 : (k : Int) < 80 := by omega
  have h2 : (0 : Int) ≤ k := by omega
  exact step_val (by simp only [execOp, hop, hx, hy]; go_simp) hK
theorem st_idx68 {b k : Nat} (hop : o.op = .indexAddr 68 x y) (hx : a.eval x = .pointer (some ⟨b, 0, none⟩)) (hy : a.eval y = .int .u8 k) (hk : k < 2) (hK : K (a.put o.dst (.pointer (some ⟨b, k * 40, none⟩))) w) : o.wp Try.prog a w K Q := by
  obtain rfl | rfl : k = 0 ∨ k = 1 := by omega
  · exact step_val (by simp only [execOp, hop, hx, hy]; go_simp) hK
  · exact step_val (by simp only [execOp, hop, hx, hy]; go_simp) hK
theorem st_idx52 {b k : Nat} (hop : o.op = .indexAddr 52 x y) (hx : a.eval x = .pointer (some ⟨b, 0, none⟩)) (hy : a.eval y = .int .i64 k) (hk : k < 2) (hK : K (a.put o.dst (.pointer (some ⟨b, k, none⟩))) w) : o.wp Try.prog a w K Q := by
  obtain rfl | rfl : k = 0 ∨ k = 1 := by omega
  · exact step_val (by simp only [execOp, hop, hx, hy]; go_simp) hK
  · exact step_val (by simp only [execOp, hop, hx, hy]; go_simp) hK
theorem st_nilCheck {b q : Nat} (hop : o.op = .nilCheck x) (hx : a.eval x = .pointer (some ⟨b, q, none⟩)) (hK : K (a.put o.dst (.pointer (some ⟨b, q, none⟩))) w) : o.wp Try.prog a w K Q := by
  exact step_val (by simp only [execOp, hop, hx]; go_simp) hK
theorem st_slice66 {b q : Nat} (hop : o.op = .slice 66 x none none none) (hx : a.eval x = .pointer (some ⟨b, q, none⟩)) (hK : K (a.put o.dst (.slice (some ⟨b, q, none⟩) 40 40)) w) : o.wp Try.prog a w K Q := by
  exact step_val (by simp only [execOp, hop, hx]; go_simp) hK
theorem step_extract {t : Tmp} {i : Nat} {xs : Array Value} {v : Value} (hop : o.op = .extract (.tmp t) i) (hv : a.eval (.tmp t) = .tuple xs) (hx : xs[i]? = some v) (hK : K (a.put o.dst v) w) : o.wp Try.prog a w K Q := by
  have e : a.tmps[t]?.getD undef = .tuple xs := by simpa [Act.eval] using hv
  clear hv
  unfold Oper.wp
  simp only [execOp, hop]
  go_simp
  simpa [hx, Act.put] using hK
theorem step_calls {f : FuncId} {xs : Array Operand} {Ts : Array TypeId} {vs : Array Value} (hop : o.op = .call { callee := .value (.func f), args := xs, argTypes := Ts }) (he : ∀ args w, (callFunc f args).run Try.prog w = .ok (.enter f args) w) (hv : xs.map a.eval = vs)
    (hc : Calls Try.prog f vs w fun e w' => ∃ u, e = .returned u ∧ K (a.put o.dst u) w') : o.wp Try.prog a w K Q := by
  obtain ⟨dst, op, type, pos, after, guard⟩ := o
  simp only at hop
  subst hop
  unfold Oper.wp
  rw [execOp_call_go]
  have e : (#[] ++ Array.map a.eval xs ++ #[] : Array Value) = vs := by simp [hv]
  rw [e, he]
  simp only [Oper.upon]
  refine hc.mono fun x w' hx => ?_
  obtain ⟨u, rfl, hK⟩ := hx
  exact hK
theorem st_mk0 {n : Nat} (hop : o.op = .makeSlice 29 (.const (.int .i64 0)) y) (hy : a.eval y = .int .i64 n) (hn : n ≤ 100) (hK : K (a.put o.dst (.slice (some ⟨w.heap.size, 0, none⟩) 0 n)) (w.alloc (.cells (rowNew n) 28))) : o.wp Try.prog a w K Q := by
  have hmk := run_mk0 (n : Int) n rfl (by omega) w
  exact step_valw (by simp only [execOp, hop, hy]; go_simp) hK
theorem st_bs0 (hop : o.op = .buildSlice 29 0 #[]) (hK : K (a.put o.dst (.slice (some ⟨w.heap.size, 0, none⟩) 0 0)) (w.alloc (.cells #[] 28))) : o.wp Try.prog a w K Q := by
  exact step_valw (by simp only [execOp, hop]; go_simp) hK
theorem step_append {s t : Tmp} {B B' n : Nat} {v : Value} {xs : List Nm} (hop : o.op = Op.call { callee := Callee.builtin Builtin.append, args := #[.tmp s, .tmp t], argTypes := #[29, 29] })
    (hs : a.eval (.tmp s) = v) (hown : w.ownsRow B 28 2 v n (cellsOf xs)) (c : Cel) (hx : a.eval (.tmp t) = c.v) (hl : c.ok B' w) (h1 : n ≤ 1000000) (hbase : B ≤ w.heap.size)
    (hK : ∀ v' w', w'.ownsRow B 28 2 v' (n + c.l.length) (cellsOf (xs ++ c.l)) → w.grownBy w' v.ownBlock → K (a.put o.dst v') w') : o.wp Try.prog a w K Q := by
  obtain ⟨v', w', hr, h2, h3⟩ := run_append_cel w B B' o.type v n xs hown c hl h1 hbase
  unfold Oper.wp execOp
  simp only [hop, resolve, invoke, builtin, Sem.run_bind, Sem.run_pure, Result.andThen_ok, List.map_toArray, List.map_cons, List.map_nil, hs, hx, hr]
  exact hK v' w' h2 h3
theorem wpList_append_cel {ops : Array Oper} {rest : List Oper} {s t : Tmp} {B B' n : Nat} {v : Value} {xs : List Nm} (hg : o.guard = none) (hop : o.op = Op.call { callee := Callee.builtin Builtin.append, args := #[.tmp s, .tmp t], argTypes := #[29, 29] })
    (hs : a.eval (.tmp s) = v) (hown : w.ownsRow B 28 2 v n (cellsOf xs)) (c : Cel) (hx : a.eval (.tmp t) = c.v) (hl : c.ok B' w) (h1 : n ≤ 1000000) (hbase : B ≤ w.heap.size)
    (hK : ∀ v' w', w'.ownsRow B 28 2 v' (n + c.l.length) (cellsOf (xs ++ c.l)) → w.grownBy w' v.ownBlock → wpList Try.prog ops Q rest (a.put o.dst v') w') : wpList Try.prog ops Q (o :: rest) a w := by
  refine wpList_plain hg fun K hK' => ?_
  obtain ⟨v', w', hr, h2, h3⟩ := run_append_cel w B B' o.type v n xs hown c hl h1 hbase
  unfold Oper.wp execOp
  simp only [hop, resolve, invoke, builtin, Sem.run_bind, Sem.run_pure, Result.andThen_ok, List.map_toArray, List.map_cons, List.map_nil, hs, hx, hr]
  exact hK' _ _ (hK v' w' h2 h3)
theorem wanted_of {ops : Array Oper} {o o' : Oper} {tmps : Array Value} {j : Nat} {b : Bool} {d : Tmp} (hg : o.guard = some (j, b)) (ho : ops[j]? = some o') (hd : o'.dst = some d) (hlt : d < tmps.size) (hv : tmps.getD d undef = .bool b) : Region.wanted o (yielded ops tmps) = true := by
  have h1 : tmps[d]? = some (.bool b) := by
    rw [Array.getElem?_eq_getElem hlt]
    simp only [Array.getD_eq_getD_getElem?, Array.getElem?_eq_getElem hlt, Option.getD_some] at hv
    rw [hv]
  have h2 : ((some o').bind (·.dst)).bind (tmps[·]?) = some (.bool b) := by
    show (o'.dst).bind (tmps[·]?) = some (.bool b)
    rw [hd]; exact h1
  simp only [Region.wanted, hg, yielded, ho]
  rw [h2]
  simp
end
def layAt (f : Nat → Bool) (u : Nat → Value) : Nat → List Value → List Value
  | _, [] => []
  | k, x :: r => (if f k = true then u k else x) :: layAt f u (k + 1) r
theorem layAt_length (f : Nat → Bool) (u : Nat → Value) : ∀ (l : List Value) (k : Nat), (layAt f u k l).length = l.length := by
  intro l
  induction l with
  | nil => intro k; rfl
  | cons x l ih => intro k; simp [layAt, ih]
theorem layAt_get (f : Nat → Bool) (u : Nat → Value) : ∀ (l : List Value) (k i : Nat) (h : i < l.length), (layAt f u k l)[i]? = some (if f (k + i) = true then u (k + i) else l[i]) := by
  intro l
  induction l with
  | nil => intro k i h; simp at h
  | cons x l ih =>
    intro k i h
    cases i with
    | zero => simp [layAt]
    | succ i =>
      have := ih (k + 1) i (by simpa using h)
      simp only [layAt, List.getElem?_cons_succ, List.getElem_cons_succ]
      rw [this, show k + 1 + i = k + (i + 1) by omega]
theorem frameAt (dsts : List (Option Tmp)) (A0 : List Value) (tmps : Array Value) (hs : tmps.size = A0.length) (h : ∀ s, dsts.contains (some s) = false → tmps.getD s undef = A0.toArray.getD s undef) :
    tmps = (layAt (fun s => dsts.contains (some s)) (fun s => tmps.getD s undef) 0 A0).toArray := by
  apply Array.ext_getElem?
  intro i
  by_cases hi' : i < tmps.size
  · have hl : i < A0.length := by omega
    have h2 : ((layAt (fun s => dsts.contains (some s)) (fun s => tmps.getD s undef) 0 A0).toArray)[i]? = some (if dsts.contains (some (0 + i)) = true then tmps.getD (0 + i) undef else A0[i]) := by
      rw [List.getElem?_toArray]; exact layAt_get _ _ _ _ _ hl
    rw [h2, Array.getElem?_eq_getElem hi']
    rw [Nat.zero_add]
    cases hc : dsts.contains (some i) with
    | true => rw [if_pos rfl]; simp [hi']
    | false =>
      rw [if_neg (by simp)]
      have := h i hc
      simp [hi', hl] at this
      rw [this]
  · rw [Array.getElem?_eq_none (by omega), Array.getElem?_eq_none (by simp [layAt_length]; omega)]
theorem enter9 (args : Array Value) (w : World) : (callFunc 9 args).run Try.prog w = .ok (.enter 9 args) w := by kernel_rfl
theorem enter11 (args : Array Value) (w : World) : (callFunc 11 args).run Try.prog w = .ok (.enter 11 args) w := by kernel_rfl
theorem enter12 (args : Array Value) (w : World) : (callFunc 12 args).run Try.prog w = .ok (.enter 12 args) w := by kernel_rfl
theorem enter13 (args : Array Value) (w : World) : (callFunc 13 args).run Try.prog w = .ok (.enter 13 args) w := by kernel_rfl
theorem enter15 (args : Array Value) (w : World) : (callFunc 15 args).run Try.prog w = .ok (.enter 15 args) w := by kernel_rfl
theorem enter16 (args : Array Value) (w : World) : (callFunc 16 args).run Try.prog w = .ok (.enter 16 args) w := by kernel_rfl
theorem enter17 (args : Array Value) (w : World) : (callFunc 17 args).run Try.prog w = .ok (.enter 17 args) w := by kernel_rfl
theorem enter18 (args : Array Value) (w : World) : (callFunc 18 args).run Try.prog w = .ok (.enter 18 args) w := by kernel_rfl
theorem enter19 (args : Array Value) (w : World) : (callFunc 19 args).run Try.prog w = .ok (.enter 19 args) w := by kernel_rfl
theorem enter20 (args : Array Value) (w : World) : (callFunc 20 args).run Try.prog w = .ok (.enter 20 args) w := by kernel_rfl
theorem enter26 (args : Array Value) (w : World) : (callFunc 26 args).run Try.prog w = .ok (.enter 26 args) w := by kernel_rfl
theorem enter27 (args : Array Value) (w : World) : (callFunc 27 args).run Try.prog w = .ok (.enter 27 args) w := by kernel_rfl
theorem enter30 (args : Array Value) (w : World) : (callFunc 30 args).run Try.prog w = .ok (.enter 30 args) w := by kernel_rfl
theorem enter31 (args : Array Value) (w : World) : (callFunc 31 args).run Try.prog w = .ok (.enter 31 args) w := by kernel_rfl
theorem enter33 (args : Array Value) (w : World) : (callFunc 33 args).run Try.prog w = .ok (.enter 33 args) w := by kernel_rfl
theorem enter38 (args : Array Value) (w : World) : (callFunc 38 args).run Try.prog w = .ok (.enter 38 args) w := by kernel_rfl
theorem vals1 {a : Act} {s : Tmp} {x : Value} (h1 : a.eval (.tmp s) = x) : Array.map a.eval #[.tmp s] = #[x] := by
  simp only [List.map_toArray, List.map_cons, List.map_nil, h1]
theorem vals2 {a : Act} {s t : Tmp} {x y : Value} (h1 : a.eval (.tmp s) = x) (h2 : a.eval (.tmp t) = y) : Array.map a.eval #[.tmp s, .tmp t] = #[x, y] := by
  simp only [List.map_toArray, List.map_cons, List.map_nil, h1, h2]
theorem vals3 {a : Act} {s t r : Tmp} {x y z : Value} (h1 : a.eval (.tmp s) = x) (h2 : a.eval (.tmp t) = y) (h3 : a.eval (.tmp r) = z) : Array.map a.eval #[.tmp s, .tmp t, .tmp r] = #[x, y, z] := by
  simp only [List.map_toArray, List.map_cons, List.map_nil, h1, h2, h3]
end Go.Proofs.Ytjjnhmbgffdenaa
