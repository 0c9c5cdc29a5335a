import Derived.Test.YtjjnhmbgffdenaaDoorGaf
import Derived.Lib.AppendZeros
namespace Go.Proofs.YtjjnhmbgffdenaaDoor
open Go.RowKit Go.Sort

section
variable {o : Oper} {a : Act} {w : World} {K : Act → World → Prop} {Q : Exit → Act → World → Prop} {x y : Operand}

theorem step_val {v : Value} (h : (execOp a.eval o).run Tryd.prog w = .ok (.value v) w) (hK : K (a.put o.dst v) w) : o.wp Tryd.prog a w K Q := by
  unfold Oper.wp
  rw [h]
  exact hK
theorem step_valw {v : Value} {w' : World} (h : (execOp a.eval o).run Tryd.prog w = .ok (.value v) w') (hK : K (a.put o.dst v) w') : o.wp Tryd.prog a w K Q := by
  unfold Oper.wp
  rw [h]
  exact hK
theorem fa35_0 {b q : Nat} (hop : o.op = .fieldAddr 26 x 0) (hx : a.eval x = .pointer (some ⟨b, q, none⟩)) (hK : K (a.put o.dst (.pointer (some ⟨b, q, none⟩))) w) : o.wp Tryd.prog a w K Q := by
  exact step_val (by simp only [execOp, hop, hx]; go_simp) hK
theorem fa35_1 {b q : Nat} (hop : o.op = .fieldAddr 26 x 1) (hx : a.eval x = .pointer (some ⟨b, q, none⟩)) (hK : K (a.put o.dst (.pointer (some ⟨b, q + 1, none⟩))) w) : o.wp Tryd.prog a w K Q := by
  exact step_val (by simp only [execOp, hop, hx]; go_simp) hK
theorem fa26_0 {b q : Nat} (hop : o.op = .fieldAddr 38 x 0) (hx : a.eval x = .pointer (some ⟨b, q, none⟩)) (hK : K (a.put o.dst (.pointer (some ⟨b, q, none⟩))) w) : o.wp Tryd.prog a w K Q := by
  exact step_val (by simp only [execOp, hop, hx]; go_simp) hK
theorem fa26_1 {b q : Nat} (hop : o.op = .fieldAddr 38 x 1) (hx : a.eval x = .pointer (some ⟨b, q, none⟩)) (hK : K (a.put o.dst (.pointer (some ⟨b, q + 1, none⟩))) w) : o.wp Tryd.prog a w K Q := by
  exact step_val (by simp only [execOp, hop, hx]; go_simp) hK
theorem fa28_0 {b q : Nat} (hop : o.op = .fieldAddr 35 x 0) (hx : a.eval x = .pointer (some ⟨b, q, none⟩)) (hK : K (a.put o.dst (.pointer (some ⟨b, q, none⟩))) w) : o.wp Tryd.prog a w K Q := by
  exact step_val (by simp only [execOp, hop, hx]; go_simp) hK
theorem fa28_1 {b q : Nat} (hop : o.op = .fieldAddr 35 x 1) (hx : a.eval x = .pointer (some ⟨b, q, none⟩)) (hK : K (a.put o.dst (.pointer (some ⟨b, q + 1, none⟩))) w) : o.wp Tryd.prog a w K Q := by
  exact step_val (by simp only [execOp, hop, hx]; go_simp) hK
theorem ld3 {b q : Nat} {v : Value} (hop : o.op = .load 3 x) (hx : a.eval x = .pointer (some ⟨b, q, none⟩)) (hc : w.cell? ⟨b, q, none⟩ = some v) (hK : K (a.put o.dst (v)) w) : o.wp Tryd.prog a w K Q := by
  exact step_val (by simp only [execOp, hop, hx]; go_simp) hK
theorem ld5 {b q : Nat} {v : Value} (hop : o.op = .load 5 x) (hx : a.eval x = .pointer (some ⟨b, q, none⟩)) (hc : w.cell? ⟨b, q, none⟩ = some v) (hK : K (a.put o.dst (v)) w) : o.wp Tryd.prog a w K Q := by
  exact step_val (by simp only [execOp, hop, hx]; go_simp) hK
theorem ld24 {b q : Nat} {v : Value} (hop : o.op = .load 36 x) (hx : a.eval x = .pointer (some ⟨b, q, none⟩)) (hc : w.cell? ⟨b, q, none⟩ = some v) (hK : K (a.put o.dst (v)) w) : o.wp Tryd.prog a w K Q := by
  exact step_val (by simp only [execOp, hop, hx]; go_simp) hK
theorem ld29 {b q : Nat} {v : Value} (hop : o.op = .load 61 x) (hx : a.eval x = .pointer (some ⟨b, q, none⟩)) (hc : w.cell? ⟨b, q, none⟩ = some v) (hK : K (a.put o.dst (v)) w) : o.wp Tryd.prog a w K Q := by
  exact step_val (by simp only [execOp, hop, hx]; go_simp) hK
theorem ld33 {b q : Nat} {v : Value} (hop : o.op = .load 24 x) (hx : a.eval x = .pointer (some ⟨b, q, none⟩)) (hc : w.cell? ⟨b, q, none⟩ = some v) (hK : K (a.put o.dst (v)) w) : o.wp Tryd.prog a w K Q := by
  exact step_val (by simp only [execOp, hop, hx]; go_simp) hK
theorem ld37 {b q : Nat} {v : Value} (hop : o.op = .load 29 x) (hx : a.eval x = .pointer (some ⟨b, q, none⟩)) (hc : w.cell? ⟨b, q, none⟩ = some v) (hK : K (a.put o.dst (v)) w) : o.wp Tryd.prog a w K Q := by
  exact step_val (by simp only [execOp, hop, hx]; go_simp) hK
theorem ld35 {b q : Nat} {v0 v1 : Value} (hop : o.op = .load 26 x) (hx : a.eval x = .pointer (some ⟨b, q, none⟩)) (c0 : w.cell? ⟨b, q, none⟩ = some v0) (c1 : w.cell? ⟨b, q + 1, none⟩ = some v1) (hK : K (a.put o.dst (.agg #[v0, v1])) w) : o.wp Tryd.prog a w K Q := by
  exact step_val (by simp only [execOp, hop, hx]; go_simp) hK
theorem ld26 {b q : Nat} {v0 v1 : Value} (hop : o.op = .load 38 x) (hx : a.eval x = .pointer (some ⟨b, q, none⟩)) (c0 : w.cell? ⟨b, q, none⟩ = some v0) (c1 : w.cell? ⟨b, q + 1, none⟩ = some v1) (hK : K (a.put o.dst (.agg #[v0, v1])) w) : o.wp Tryd.prog a w K Q := by
  exact step_val (by simp only [execOp, hop, hx]; go_simp) hK
theorem ld28 {b q : Nat} {v0 v1 : Value} (hop : o.op = .load 35 x) (hx : a.eval x = .pointer (some ⟨b, q, none⟩)) (c0 : w.cell? ⟨b, q, none⟩ = some v0) (c1 : w.cell? ⟨b, q + 1, none⟩ = some v1) (hK : K (a.put o.dst (.agg #[v0, v1])) w) : o.wp Tryd.prog a w K Q := by
  exact step_val (by simp only [execOp, hop, hx]; go_simp) hK
theorem st_move {v : Value} (hop : o.op = .move x) (hx : a.eval x = v) (hK : K (a.put o.dst (v)) w) : o.wp Tryd.prog a w K Q := by
  exact step_val (by simp only [execOp, hop, hx]; go_simp) hK
theorem st_assign {v : Value} (hop : o.op = .assign x) (hx : a.eval x = v) (hK : K (a.put o.dst (v)) w) : o.wp Tryd.prog a w K Q := by
  exact step_val (by simp only [execOp, hop, hx]; go_simp) hK
theorem st_lss_3 {X Y : Int} (hop : o.op = .binOp .lss 3 x y 3) (hx : a.eval x = .int .i64 X) (hy : a.eval y = .int .i64 Y) (hK : K (a.put o.dst (.bool (decide (X < Y)))) w) : o.wp Tryd.prog a w K Q := by
  exact step_val (by simp only [execOp, hop, hx, hy]; go_simp) hK
theorem st_lss_5 {X Y : Int} (hop : o.op = .binOp .lss 5 x y 5) (hx : a.eval x = .int .u8 X) (hy : a.eval y = .int .u8 Y) (hK : K (a.put o.dst (.bool (decide (X < Y)))) w) : o.wp Tryd.prog a w K Q := by
  exact step_val (by simp only [execOp, hop, hx, hy]; go_simp) hK
theorem st_gtr_3 {X Y : Int} (hop : o.op = .binOp .gtr 3 x y 3) (hx : a.eval x = .int .i64 X) (hy : a.eval y = .int .i64 Y) (hK : K (a.put o.dst (.bool (decide (Y < X)))) w) : o.wp Tryd.prog a w K Q := by
  exact step_val (by simp only [execOp, hop, hx, hy]; go_simp) hK
theorem st_gtr_5 {X Y : Int} (hop : o.op = .binOp .gtr 5 x y 5) (hx : a.eval x = .int .u8 X) (hy : a.eval y = .int .u8 Y) (hK : K (a.put o.dst (.bool (decide (Y < X)))) w) : o.wp Tryd.prog a w K Q := by
  exact step_val (by simp only [execOp, hop, hx, hy]; go_simp) hK
theorem st_gtr_24 {X Y : Int} (hop : o.op = .binOp .gtr 36 x y 36) (hx : a.eval x = .int .u8 X) (hy : a.eval y = .int .u8 Y) (hK : K (a.put o.dst (.bool (decide (Y < X)))) w) : o.wp Tryd.prog a w K Q := by
  exact step_val (by simp only [execOp, hop, hx, hy]; go_simp) hK
theorem st_gtr_37 {X Y : Int} (hop : o.op = .binOp .gtr 29 x y 29) (hx : a.eval x = .int .i64 X) (hy : a.eval y = .int .i64 Y) (hK : K (a.put o.dst (.bool (decide (Y < X)))) w) : o.wp Tryd.prog a w K Q := by
  exact step_val (by simp only [execOp, hop, hx, hy]; go_simp) hK
theorem st_leq_3 {X Y : Int} (hop : o.op = .binOp .leq 3 x y 3) (hx : a.eval x = .int .i64 X) (hy : a.eval y = .int .i64 Y) (hK : K (a.put o.dst (.bool (decide (X ≤ Y)))) w) : o.wp Tryd.prog a w K Q := by
  exact step_val (by simp only [execOp, hop, hx, hy]; go_simp) hK
theorem st_leq_5 {X Y : Int} (hop : o.op = .binOp .leq 5 x y 5) (hx : a.eval x = .int .u8 X) (hy : a.eval y = .int .u8 Y) (hK : K (a.put o.dst (.bool (decide (X ≤ Y)))) w) : o.wp Tryd.prog a w K Q := by
  exact step_val (by simp only [execOp, hop, hx, hy]; go_simp) hK
theorem st_geq_3 {X Y : Int} (hop : o.op = .binOp .geq 3 x y 3) (hx : a.eval x = .int .i64 X) (hy : a.eval y = .int .i64 Y) (hK : K (a.put o.dst (.bool (decide (Y ≤ X)))) w) : o.wp Tryd.prog a w K Q := by
  exact step_val (by simp only [execOp, hop, hx, hy]; go_simp) hK
theorem st_geq_5 {X Y : Int} (hop : o.op = .binOp .geq 5 x y 5) (hx : a.eval x = .int .u8 X) (hy : a.eval y = .int .u8 Y) (hK : K (a.put o.dst (.bool (decide (Y ≤ X)))) w) : o.wp Tryd.prog a w K Q := by
  exact step_val (by simp only [execOp, hop, hx, hy]; go_simp) hK
theorem st_eql_3 {X Y : Int} (hop : o.op = .binOp .eql 3 x y 3) (hx : a.eval x = .int .i64 X) (hy : a.eval y = .int .i64 Y) (hK : K (a.put o.dst (.bool (X == Y))) w) : o.wp Tryd.prog a w K Q := by
  exact step_val (by simp only [execOp, hop, hx, hy]; go_simp) hK
theorem st_eql_5 {X Y : Int} (hop : o.op = .binOp .eql 5 x y 5) (hx : a.eval x = .int .u8 X) (hy : a.eval y = .int .u8 Y) (hK : K (a.put o.dst (.bool (X == Y))) w) : o.wp Tryd.prog a w K Q := by
  exact step_val (by simp only [execOp, hop, hx, hy]; go_simp) hK
theorem st_eql_24 {X Y : Int} (hop : o.op = .binOp .eql 36 x y 36) (hx : a.eval x = .int .u8 X) (hy : a.eval y = .int .u8 Y) (hK : K (a.put o.dst (.bool (X == Y))) w) : o.wp Tryd.prog a w K Q := by
  exact step_val (by simp only [execOp, hop, hx, hy]; go_simp) hK
theorem st_eql_37 {X Y : Int} (hop : o.op = .binOp .eql 29 x y 29) (hx : a.eval x = .int .i64 X) (hy : a.eval y = .int .i64 Y) (hK : K (a.put o.dst (.bool (X == Y))) w) : o.wp Tryd.prog a w K Q := by
  exact step_val (by simp only [execOp, hop, hx, hy]; go_simp) hK
theorem st_neq_3 {X Y : Int} (hop : o.op = .binOp .neq 3 x y 3) (hx : a.eval x = .int .i64 X) (hy : a.eval y = .int .i64 Y) (hK : K (a.put o.dst (.bool (X != Y))) w) : o.wp Tryd.prog a w K Q := by
  exact step_val (by simp only [execOp, hop, hx, hy]; go_simp) hK
theorem st_neq_5 {X Y : Int} (hop : o.op = .binOp .neq 5 x y 5) (hx : a.eval x = .int .u8 X) (hy : a.eval y = .int .u8 Y) (hK : K (a.put o.dst (.bool (X != Y))) w) : o.wp Tryd.prog a w K Q := by
  exact step_val (by simp only [execOp, hop, hx, hy]; go_simp) hK
theorem st_neq_24 {X Y : Int} (hop : o.op = .binOp .neq 36 x y 36) (hx : a.eval x = .int .u8 X) (hy : a.eval y = .int .u8 Y) (hK : K (a.put o.dst (.bool (X != Y))) w) : o.wp Tryd.prog a w K Q := by
  exact step_val (by simp only [execOp, hop, hx, hy]; go_simp) hK
theorem st_neq_37 {X Y : Int} (hop : o.op = .binOp .neq 29 x y 29) (hx : a.eval x = .int .i64 X) (hy : a.eval y = .int .i64 Y) (hK : K (a.put o.dst (.bool (X != Y))) w) : o.wp Tryd.prog a w K Q := by
  exact step_val (by simp only [execOp, hop, hx, hy]; go_simp) hK
theorem st_add_3 {X Y Z : Int} (hop : o.op = .binOp .add 3 x y 3) (hx : a.eval x = .int .i64 X) (hy : a.eval y = .int .i64 Y) (hz : IntKind.i64.wrap (X + Y) = Z) (hK : K (a.put o.dst (.int .i64 Z)) w) : o.wp Tryd.prog a w K Q := by
  exact step_val (by simp only [execOp, hop, hx, hy]; go_simp) hK
theorem st_add_5 {X Y Z : Int} (hop : o.op = .binOp .add 5 x y 5) (hx : a.eval x = .int .u8 X) (hy : a.eval y = .int .u8 Y) (hz : IntKind.u8.wrap (X + Y) = Z) (hK : K (a.put o.dst (.int .u8 Z)) w) : o.wp Tryd.prog a w K Q := by
  exact step_val (by simp only [execOp, hop, hx, hy]; go_simp) hK
theorem st_sub_3 {X Y Z : Int} (hop : o.op = .binOp .sub 3 x y 3) (hx : a.eval x = .int .i64 X) (hy : a.eval y = .int .i64 Y) (hz : IntKind.i64.wrap (X - Y) = Z) (hK : K (a.put o.dst (.int .i64 Z)) w) : o.wp Tryd.prog a w K Q := by
  exact step_val (by simp only [execOp, hop, hx, hy]; go_simp) hK
theorem st_sub_5 {X Y Z : Int} (hop : o.op = .binOp .sub 5 x y 5) (hx : a.eval x = .int .u8 X) (hy : a.eval y = .int .u8 Y) (hz : IntKind.u8.wrap (X - Y) = Z) (hK : K (a.put o.dst (.int .u8 Z)) w) : o.wp Tryd.prog a w K Q := by
  exact step_val (by simp only [execOp, hop, hx, hy]; go_simp) hK
theorem st_rem40 {X : Int} (hop : o.op = .binOp .rem 5 x y 5) (hx : a.eval x = .int .u8 X) (hy : a.eval y = .int .u8 40) (hK : K (a.put o.dst (.int .u8 (X.tmod 40))) w) : o.wp Tryd.prog a w K Q := by
  exact step_val (by simp only [execOp, hop, hx, hy]; go_simp) hK
theorem st_conv35 {X Z : Int} (hop : o.op = .convert 3 5 x) (hx : a.eval x = .int .i64 X) (hz : IntKind.u8.wrap X = Z) (hK : K (a.put o.dst (.int .u8 Z)) w) : o.wp Tryd.prog a w K Q := by
  exact step_val (by simp only [execOp, hop, hx]; go_simp) hK
theorem st_eql_26 {p q p' q' : Int} {r : Bool} (hop : o.op = .binOp .eql 38 x y 38) (hx : a.eval x = .agg #[.int .u8 p, .int .i64 q]) (hy : a.eval y = .agg #[.int .u8 p', .int .i64 q']) (hr : sameNm p q p' q' = r) (hK : K (a.put o.dst (.bool (r))) w) : o.wp Tryd.prog a w K Q := by
  have e := fun w => eql26 hr w
  exact step_val (by simp only [execOp, hop, hx, hy]; go_simp) hK
theorem st_neq_26 {p q p' q' : Int} {r : Bool} (hop : o.op = .binOp .neq 38 x y 38) (hx : a.eval x = .agg #[.int .u8 p, .int .i64 q]) (hy : a.eval y = .agg #[.int .u8 p', .int .i64 q']) (hr : sameNm p q p' q' = r) (hK : K (a.put o.dst (.bool (!r))) w) : o.wp Tryd.prog a w K Q := by
  have e := fun w => neq26 hr w
  exact step_val (by simp only [execOp, hop, hx, hy]; go_simp) hK
theorem st_eql_28 {p q p' q' : Int} {r : Bool} (hop : o.op = .binOp .eql 35 x y 35) (hx : a.eval x = .agg #[.int .u8 p, .int .i64 q]) (hy : a.eval y = .agg #[.int .u8 p', .int .i64 q']) (hr : sameNm p q p' q' = r) (hK : K (a.put o.dst (.bool (r))) w) : o.wp Tryd.prog a w K Q := by
  have e := fun w => eql28 hr w
  exact step_val (by simp only [execOp, hop, hx, hy]; go_simp) hK
theorem st_neq_28 {p q p' q' : Int} {r : Bool} (hop : o.op = .binOp .neq 35 x y 35) (hx : a.eval x = .agg #[.int .u8 p, .int .i64 q]) (hy : a.eval y = .agg #[.int .u8 p', .int .i64 q']) (hr : sameNm p q p' q' = r) (hK : K (a.put o.dst (.bool (!r))) w) : o.wp Tryd.prog a w K Q := by
  have e := fun w => neq28 hr w
  exact step_val (by simp only [execOp, hop, hx, hy]; go_simp) hK
theorem st_eql_4 {c d : Bool} (hop : o.op = .binOp .eql 4 x y 4) (hx : a.eval x = .bool c) (hy : a.eval y = .bool d) (hK : K (a.put o.dst (.bool (c == d))) w) : o.wp Tryd.prog a w K Q := by
  exact step_val (by simp only [execOp, hop, hx, hy]; go_simp) hK
theorem st_not {c : Bool} (hop : o.op = .unOp .not 4 x) (hx : a.eval x = .bool c) (hK : K (a.put o.dst (.bool (!c))) w) : o.wp Tryd.prog a w K Q := by
  exact step_val (by simp only [execOp, hop, hx]; go_simp) hK
theorem st_or {c d : Bool} (hop : o.op = .pick x (.const (.bool true)) y) (hx : a.eval x = .bool c) (hy : c = false → a.eval y = .bool d) (hK : K (a.put o.dst (.bool (c || d))) w) : o.wp Tryd.prog a w K Q := by
  cases c
  · have hy' := hy rfl
    exact step_val (by simp only [execOp, hop, hx, hy']; go_simp) hK
  · exact step_val (by simp only [execOp, hop, hx]; go_simp) hK
theorem st_and {c d : Bool} (hop : o.op = .pick x y (.const (.bool false))) (hx : a.eval x = .bool c) (hy : c = true → a.eval y = .bool d) (hK : K (a.put o.dst (.bool (c && d))) w) : o.wp Tryd.prog a w K Q := by
  cases c
  · exact step_val (by simp only [execOp, hop, hx]; go_simp) hK
  · have hy' := hy rfl
    exact step_val (by simp only [execOp, hop, hx, hy']; go_simp) hK
theorem len29 {t : Tmp} {ao : Option Addr} {n cap : Nat} (hop : o.op = .call { callee := .builtin .len, args := #[.tmp t], argTypes := #[61] }) (hv : a.eval (.tmp t) = .slice ao n cap) (hK : K (a.put o.dst (.int .i64 n)) w) : o.wp Tryd.prog a w K Q := by
  have e : a.tmps[t]?.getD undef = .slice ao n cap := by simpa [Act.eval] using hv
  clear hv
  unfold Oper.wp
  simp only [execOp, hop, resolve]
  go_simp
  exact hK
theorem len33 {t : Tmp} {ao : Option Addr} {n cap : Nat} (hop : o.op = .call { callee := .builtin .len, args := #[.tmp t], argTypes := #[24] }) (hv : a.eval (.tmp t) = .slice ao n cap) (hK : K (a.put o.dst (.int .i64 n)) w) : o.wp Tryd.prog a w K Q := by
  have e : a.tmps[t]?.getD undef = .slice ao n cap := by simpa [Act.eval] using hv
  clear hv
  unfold Oper.wp
  simp only [execOp, hop, resolve]
  go_simp
  exact hK
theorem st_idx31 {b k : Nat} (hop : o.op = .indexAddr 65 x y) (hx : a.eval x = .pointer (some ⟨b, 0, none⟩)) (hy : a.eval y = .int .i64 k) (hk : k < 80) (hK : K (a.put o.dst (.pointer (some ⟨b, k, none⟩))) w) : o.wp Tryd.prog a w K Q := by
  have h1 : (k : Int) < 80 := by omega
  have h2 : (0 : Int) ≤ k := by omega
  exact step_val (by simp only [execOp, hop, hx, hy]; go_simp) hK
theorem st_nilCheck {b q : Nat} (hop : o.op = .nilCheck x) (hx : a.eval x = .pointer (some ⟨b, q, none⟩)) (hK : K (a.put o.dst (.pointer (some ⟨b, q, none⟩))) w) : o.wp Tryd.prog a w K Q := by
  exact step_val (by simp only [execOp, hop, hx]; go_simp) hK
theorem step_extract {t : Tmp} {i : Nat} {xs : Array Value} {v : Value} (hop : o.op = .extract (.tmp t) i) (hv : a.eval (.tmp t) = .tuple xs) (hx : xs[i]? = some v) (hK : K (a.put o.dst v) w) : o.wp Tryd.prog a w K Q := by
  have e : a.tmps[t]?.getD undef = .tuple xs := by simpa [Act.eval] using hv
  clear hv
  unfold Oper.wp
  simp only [execOp, hop]
  go_simp
  simpa [hx, Act.put] using hK
theorem step_calls {f : FuncId} {xs : Array Operand} {Ts : Array TypeId} {vs : Array Value} (hop : o.op = .call { callee := .value (.func f), args := xs, argTypes := Ts }) (he : ∀ args w, (callFunc f args).run Tryd.prog w = .ok (.enter f args) w) (hv : xs.map a.eval = vs)
    (hc : Calls Tryd.prog f vs w fun e w' => ∃ u, e = .returned u ∧ K (a.put o.dst u) w') : o.wp Tryd.prog a w K Q := by
  obtain ⟨dst, op, type, pos, after, guard⟩ := o
  simp only at hop
  subst hop
  unfold Oper.wp
  rw [execOp_call_go]
  have e : (#[] ++ Array.map a.eval xs ++ #[] : Array Value) = vs := by simp [hv]
  rw [e, he]
  simp only [Oper.upon]
  refine hc.mono fun x w' hx => ?_
  obtain ⟨u, rfl, hK⟩ := hx
  exact hK
theorem st_mk0 {n : Nat} (hop : o.op = .makeSlice 61 (.const (.int .i64 0)) y) (hy : a.eval y = .int .i64 n) (hn : n ≤ 100) (hK : K (a.put o.dst (.slice (some ⟨w.heap.size, 0, none⟩) 0 n)) (w.alloc (.cells (rowNew n) 35))) : o.wp Tryd.prog a w K Q := by
  have hmk := run_mk0 (n : Int) n rfl (by omega) w
  exact step_valw (by simp only [execOp, hop, hy]; go_simp) hK
theorem st_bs0 (hop : o.op = .buildSlice 61 0 #[]) (hK : K (a.put o.dst (.slice (some ⟨w.heap.size, 0, none⟩) 0 0)) (w.alloc (.cells #[] 35))) : o.wp Tryd.prog a w K Q := by
  exact step_valw (by simp only [execOp, hop]; go_simp) hK
theorem step_append {s t : Tmp} {B B' n : Nat} {v : Value} {xs : List Nm} (hop : o.op = Op.call { callee := Callee.builtin Builtin.append, args := #[.tmp s, .tmp t], argTypes := #[61, 61] })
    (hs : a.eval (.tmp s) = v) (hown : w.ownsRow B 35 2 v n (cellsOf xs)) (c : Cel) (hx : a.eval (.tmp t) = c.v) (hl : c.ok B' w) (h1 : n ≤ 1000000) (hbase : B ≤ w.heap.size)
    (hK : ∀ v' w', w'.ownsRow B 35 2 v' (n + c.l.length) (cellsOf (xs ++ c.l)) → w.grownBy w' v.ownBlock → K (a.put o.dst v') w') : o.wp Tryd.prog a w K Q := by
  obtain ⟨v', w', hr, h2, h3⟩ := run_append_cel w B B' o.type v n xs hown c hl h1 hbase
  unfold Oper.wp execOp
  simp only [hop, resolve, invoke, builtin, Sem.run_bind, Sem.run_pure, Result.andThen_ok, List.map_toArray, List.map_cons, List.map_nil, hs, hx, hr]
  exact hK v' w' h2 h3
theorem wpList_append_cel {ops : Array Oper} {rest : List Oper} {s t : Tmp} {B B' n : Nat} {v : Value} {xs : List Nm} (hg : o.guard = none) (hop : o.op = Op.call { callee := Callee.builtin Builtin.append, args := #[.tmp s, .tmp t], argTypes := #[61, 61] })
    (hs : a.eval (.tmp s) = v) (hown : w.ownsRow B 35 2 v n (cellsOf xs)) (c : Cel) (hx : a.eval (.tmp t) = c.v) (hl : c.ok B' w) (h1 : n ≤ 1000000) (hbase : B ≤ w.heap.size)
    (hK : ∀ v' w', w'.ownsRow B 35 2 v' (n + c.l.length) (cellsOf (xs ++ c.l)) → w.grownBy w' v.ownBlock → wpList Tryd.prog ops Q rest (a.put o.dst v') w') : wpList Tryd.prog ops Q (o :: rest) a w := by
  refine wpList_plain hg fun K hK' => ?_
  obtain ⟨v', w', hr, h2, h3⟩ := run_append_cel w B B' o.type v n xs hown c hl h1 hbase
  unfold Oper.wp execOp
  simp only [hop, resolve, invoke, builtin, Sem.run_bind, Sem.run_pure, Result.andThen_ok, List.map_toArray, List.map_cons, List.map_nil, hs, hx, hr]
  exact hK' _ _ (hK v' w' h2 h3)
theorem wanted_of {ops : Array Oper} {o o' : Oper} {tmps : Array Value} {j : Nat} {b : Bool} {d : Tmp} (hg : o.guard = some (j, b)) (ho : ops[j]? = some o') (hd : o'.dst = some d) (hlt : d < tmps.size) (hv : tmps.getD d undef = .bool b) : Region.wanted o (yielded ops tmps) = true := by
  have h1 : tmps[d]? = some (.bool b) := by
    rw [Array.getElem?_eq_getElem hlt]
    simp only [Array.getD_eq_getD_getElem?, Array.getElem?_eq_getElem hlt, Option.getD_some] at hv
    rw [hv]
  have h2 : ((some o').bind (·.dst)).bind (tmps[·]?) = some (.bool b) := by
    show (o'.dst).bind (tmps[·]?) = some (.bool b)
    rw [hd]; exact h1
  simp only [Region.wanted, hg, yielded, ho]
  rw [h2]
  simp
end
def layAt (f : Nat → Bool) (u : Nat → Value) : Nat → List Value → List Value
  | _, [] => []
  | k, x :: r => (if f k = true then u k else x) :: layAt f u (k + 1) r
theorem layAt_length (f : Nat → Bool) (u : Nat → Value) : ∀ (l : List Value) (k : Nat), (layAt f u k l).length = l.length := by
  intro l
  induction l with
  | nil => intro k; rfl
  | cons x l ih => intro k; simp [layAt, ih]
theorem layAt_get (f : Nat → Bool) (u : Nat → Value) : ∀ (l : List Value) (k i : Nat) (h : i < l.length), (layAt f u k l)[i]? = some (if f (k + i) = true then u (k + i) else l[i]) := by
  intro l
  induction l with
  | nil => intro k i h; simp at h
  | cons x l ih =>
    intro k i h
    cases i with
    | zero => simp [layAt]
    | succ i =>
      have := ih (k + 1) i (by simpa using h)
      simp only [layAt, List.getElem?_cons_succ, List.getElem_cons_succ]
      rw [this, show k + 1 + i = k + (i + 1) by omega]
theorem frameAt (dsts : List (Option Tmp)) (A0 : List Value) (tmps : Array Value) (hs : tmps.size = A0.length) (h : ∀ s, dsts.contains (some s) = false → tmps.getD s undef = A0.toArray.getD s undef) :
    tmps = (layAt (fun s => dsts.contains (some s)) (fun s => tmps.getD s undef) 0 A0).toArray := by
  apply Array.ext_getElem?
  intro i
  by_cases hi' : i < tmps.size
  · have hl : i < A0.length := by omega
    have h2 : ((layAt (fun s => dsts.contains (some s)) (fun s => tmps.getD s undef) 0 A0).toArray)[i]? = some (if dsts.contains (some (0 + i)) = true then tmps.getD (0 + i) undef else A0[i]) := by
      rw [List.getElem?_toArray]; exact layAt_get _ _ _ _ _ hl
    rw [h2, Array.getElem?_eq_getElem hi']
    rw [Nat.zero_add]
    cases hc : dsts.contains (some i) with
    | true => rw [if_pos rfl]; simp [hi']
    | false =>
      rw [if_neg (by simp)]
      have := h i hc
      simp [hi', hl] at this
      rw [this]
  · rw [Array.getElem?_eq_none (by omega), Array.getElem?_eq_none (by simp [layAt_length]; omega)]
theorem enter9 (args : Array Value) (w : World) : (callFunc 21 args).run Tryd.prog w = .ok (.enter 21 args) w := by kernel_rfl
theorem enter12 (args : Array Value) (w : World) : (callFunc 30 args).run Tryd.prog w = .ok (.enter 30 args) w := by kernel_rfl
theorem enter13 (args : Array Value) (w : World) : (callFunc 28 args).run Tryd.prog w = .ok (.enter 28 args) w := by kernel_rfl
theorem enter26 (args : Array Value) (w : World) : (callFunc 57 args).run Tryd.prog w = .ok (.enter 57 args) w := by kernel_rfl
theorem enter27 (args : Array Value) (w : World) : (callFunc 58 args).run Tryd.prog w = .ok (.enter 58 args) w := by kernel_rfl
theorem vals1 {a : Act} {s : Tmp} {x : Value} (h1 : a.eval (.tmp s) = x) : Array.map a.eval #[.tmp s] = #[x] := by
  simp only [List.map_toArray, List.map_cons, List.map_nil, h1]
theorem vals2 {a : Act} {s t : Tmp} {x y : Value} (h1 : a.eval (.tmp s) = x) (h2 : a.eval (.tmp t) = y) : Array.map a.eval #[.tmp s, .tmp t] = #[x, y] := by
  simp only [List.map_toArray, List.map_cons, List.map_nil, h1, h2]
theorem vals3 {a : Act} {s t r : Tmp} {x y z : Value} (h1 : a.eval (.tmp s) = x) (h2 : a.eval (.tmp t) = y) (h3 : a.eval (.tmp r) = z) : Array.map a.eval #[.tmp s, .tmp t, .tmp r] = #[x, y, z] := by
  simp only [List.map_toArray, List.map_cons, List.map_nil, h1, h2, h3]
end Go.Proofs.YtjjnhmbgffdenaaDoor
namespace Go.Proofs.YtjjnhmbgffdenaaDoor
open Go.RowKit Go.Sort

/-- A table of 80 stacks in memory. -/
def Tab (w : World) (B t : Nat) (cs : List Cel) : Prop := w.heap[B]? = some (.cells (cs.map Cel.v).toArray t (0, 0)) ∧ cs.length = 80
theorem Tab.lt {w : World} {B t : Nat} {cs : List Cel} (h : Tab w B t cs) : B < w.heap.size := (Array.getElem?_eq_some_iff.1 h.1).1
theorem Tab.cell {w : World} {B t : Nat} {cs : List Cel} (h : Tab w B t cs) {k : Nat} (hk : k < 80) : w.cell? ⟨B, k, none⟩ = some (cs[k]'(by rw [h.2]; exact hk)).v := by
  simp [World.cell?, h.1, h.2, hk]
theorem Tab.cellE {w : World} {B t : Nat} {cs : List Cel} (h : Tab w B t cs) {k : Nat} (hk : k < 80) : ∃ a n c, w.cell? ⟨B, k, none⟩ = some (.slice a n c) := ⟨_, _, _, h.cell hk⟩
theorem Tab.frozen {w : World} {B t : Nat} {cs : List Cel} (h : Tab w B t cs) (k : Nat) : w.frozen? ⟨B, k, none⟩ = false := by simp [World.frozen?, h.1]
theorem Tab.below {w w' : World} {B N t : Nat} {cs : List Cel} (h : Tab w B t cs) (hb : Below N w w') (hB : B < N) : Tab w' B t cs := ⟨(hb.block B hB).trans h.1, h.2⟩
theorem Tab.set {w : World} {B t : Nat} {cs : List Cel} (h : Tab w B t cs) (k : Nat) (c : Cel) : Tab (w.setCell ⟨B, k, none⟩ c.v) B t (cs.set k c) :=
  ⟨(setCell_block w B k c.v h.1).trans (by simp [List.map_set]), by simp [h.2]⟩
theorem Tab.kept {w w' : World} {row : Option Nat} {B t : Nat} {cs : List Cel} (h : Tab w B t cs) (hg : w.grownBy w' row) (hne : some B ≠ row) : Tab w' B t cs := ⟨(hg.block B h.lt hne).trans h.1, h.2⟩
theorem Tab.alloc {w : World} {B t : Nat} {cs : List Cel} (h : Tab w B t cs) (o : Obj) : Tab (w.alloc o) B t cs := h.kept (World.grownBy_alloc w o none) (by simp)
theorem Tab.other {w : World} {B t C k : Nat} {x : Value} {cs : List Cel} (h : Tab w B t cs) (hne : B ≠ C) : Tab (w.setCell ⟨C, k, none⟩ x) B t cs := h.kept (grownBy_setCellAt w C k x) (by simp [hne])
/-- A stack's names do not lie in a table. -/
theorem Cel.ok.set_tab {n : Nat} {w : World} {c : Cel} (h : c.ok n w) {B t : Nat} {cs : List Cel} (ht : Tab w B t cs) (k : Nat) (x : Value) : c.ok n (w.setCell ⟨B, k, none⟩ x) := by
  refine ⟨h.1, h.2.imp id ?_⟩
  rintro ⟨b, o, e, hl, hc⟩
  refine ⟨b, o, e, hl, fun i p hp => ?_⟩
  have h2 := hc i p hp
  have hne : b ≠ B := by
    rintro rfl
    have h3 := h2.1
    simp only [World.cell?, ht.1, Option.bind_some] at h3
    have : (cs.map Cel.v)[o + i * 2]? = some (.int .u8 p.y) := by simpa using h3
    rw [List.getElem?_map] at this
    cases hcs : cs[o + i * 2]? with
    | none => rw [hcs] at this; cases this
    | some c' => rw [hcs] at this; simp [Cel.v] at this
  exact ⟨by rw [World.cell?_setCell_other _ _ _ _ (by simp [hne])]; exact h2.1, by rw [World.cell?_setCell_other _ _ _ _ (by simp [hne])]; exact h2.2⟩
theorem tab_own {β : Type} (B t : Nat) (f : β → List Cel) : Own (fun s W => Tab W B t (f s)) := by
  rintro s X Y row hs hg hrow
  refine hs.kept hg (fun e' => ?_)
  obtain ⟨o, ho, hc⟩ := hrow B e'.symm
  rw [hs.1] at ho; cases ho; cases hc

theorem info31 : (Tryd.prog.info? 65).map (·.size) = some 80 := by kernel_rfl
theorem info68 : (Tryd.prog.info? 65).map (·.size) = some 80 := by kernel_rfl
theorem tab_size {w : World} {B t : Nat} {cs : List Cel} (h : Tab w B t cs) : (cs.map Cel.v).toArray.size = 80 := by simp [h.2]
theorem tab_one (cs : List Cel) : (cs.map Cel.v).toArray.all (·.oneCell') = true := by
  rw [Array.all_eq_true_iff_forall_mem]
  intro v hv
  simp only [List.mem_toArray, List.mem_map] at hv
  obtain ⟨c, _, rfl⟩ := hv
  rfl
/-- The array as a value. -/
def tabV (cs : List Cel) : Value := .agg (cs.map Cel.v).toArray

section
variable {F : Fence} {nF : Nat} {w : World} {ops : Array Oper} {rest : List Oper} {o : Oper} {a : Act} {Q : Exit → Act → World → Prop} {K : Act → World → Prop}
theorem load_tab {ty : TypeId} (hty : ty = 65 ∨ ty = 65) {B t : Nat} {cs : List Cel} (hT : Tab w B t cs) : (loadVar ty ⟨B, 0, none⟩).run Tryd.prog w = .ok (tabV cs) w := by
  rcases hty with rfl | rfl
  · exact run_loadVar_row w B t 65 _ (0, 0) _ hT.1 Tryd.underlying65 rfl (by rw [info31, tab_size hT])
  · exact run_loadVar_row w B t 65 _ (0, 0) _ hT.1 Tryd.underlying65 rfl (by rw [info68, tab_size hT])
theorem exec_load_tab {ty : TypeId} (hty : ty = 65 ∨ ty = 65) (x : Operand) (hop : o.op = .load ty x) {B t : Nat} {cs : List Cel} (hx : a.eval x = .pointer (some ⟨B, 0, none⟩)) (hT : Tab w B t cs) : (execOp a.eval o).run Tryd.prog w = .ok (.value (tabV cs)) w := by
  unfold execOp
  simp only [hop, hx, Instr.loadAt, Instr.sureAddr, Sem.run_bind, Sem.run_pure, Result.andThen_ok, load_tab hty hT]
theorem wpListIn_load_tab (hg : o.guard = none) {ty : TypeId} (hty : ty = 65 ∨ ty = 65) (x : Operand) (hop : o.op = .load ty x) {B t : Nat} {cs : List Cel} (hx : a.eval x = .pointer (some ⟨B, 0, none⟩)) (hT : Tab w B t cs)
    (hK : wpListIn F nF Tryd.prog ops Q rest (a.put o.dst (tabV cs)) w) : wpListIn F nF Tryd.prog ops Q (o :: rest) a w := by
  refine wpListIn_plain hg fun K' hK' => ?_
  unfold Oper.wpIn
  refine ⟨by simp [Oper.about, hop], ?_⟩
  rw [Oper.semAt_plain F _ _ (by rw [hop]; intro c hc'; cases hc'), exec_load_tab hty x hop hx hT]
  exact hK' _ _ hK
theorem wpList_load_tab (hg : o.guard = none) {ty : TypeId} (hty : ty = 65 ∨ ty = 65) (x : Operand) (hop : o.op = .load ty x) {B t : Nat} {cs : List Cel} (hx : a.eval x = .pointer (some ⟨B, 0, none⟩)) (hT : Tab w B t cs)
    (hK : wpList Tryd.prog ops Q rest (a.put o.dst (tabV cs)) w) : wpList Tryd.prog ops Q (o :: rest) a w := by
  refine wpList_plain hg fun K' hK' => ?_
  exact step_val (exec_load_tab hty x hop hx hT) (hK' _ _ hK)
theorem ld_tab {ty : TypeId} (hty : ty = 65 ∨ ty = 65) {x : Operand} (hop : o.op = .load ty x) {B t : Nat} {cs : List Cel} (hx : a.eval x = .pointer (some ⟨B, 0, none⟩)) (hT : Tab w B t cs)
    (hK : K (a.put o.dst (tabV cs)) w) : o.wp Tryd.prog a w K Q := step_val (exec_load_tab hty x hop hx hT) hK

/-- What a store of a whole table leaves. -/
structure TabSet (w w' : World) (B t : Nat) (cs : List Cel) : Prop where
  tab : Tab w' B t cs
  grown : w.grownBy w' (some B)
  others : KeepsOthers w w'
theorem exec_store_tab {ty : TypeId} (hty : ty = 65 ∨ ty = 65) (x y : Operand) (hop : o.op = .store ty x y) {B t : Nat} {cs cs' : List Cel} (hx : a.eval x = .pointer (some ⟨B, 0, none⟩)) (hy : a.eval y = tabV cs') (hT : Tab w B t cs) (hl : cs'.length = 80) :
    ∃ w', (execOp a.eval o).run Tryd.prog w = .ok .skip w' ∧ TabSet w w' B t cs' := by
  have hs : (cs'.map Cel.v).toArray.size = 80 := by simp [hl]
  have hr : (storeVar ty ⟨B, 0, none⟩ (tabV cs')).run Tryd.prog w = .ok () (w.setRow B (cs'.map Cel.v).toArray) := by
    rcases hty with rfl | rfl
    · exact run_storeVar_row w B t 65 _ _ hT.1 (by rw [info31, hs]) (by rw [tab_size hT, hs]) (tab_one _)
    · exact run_storeVar_row w B t 65 _ _ hT.1 (by rw [info68, hs]) (by rw [tab_size hT, hs]) (tab_one _)
  refine ⟨w.setRow B (cs'.map Cel.v).toArray, ?_, ⟨setRow_heap w B _ _ t _ hT.1, hl⟩, ?_, ?_⟩
  · unfold execOp
    simp only [hop, hx, hy, Instr.storeAt, Instr.sureAddr, Sem.run_bind, Sem.run_pure, Result.andThen_ok, hr]
  · exact ⟨rfl, rfl, rfl, by simp, fun k _ hk => setRow_other w B k _ (fun e => hk (by rw [e]))⟩
  · exact KeepsOthers.of_grownBy ⟨rfl, rfl, rfl, by simp, fun k _ hk => setRow_other w B k _ (fun e => hk (by rw [e]))⟩ (fun j ob e h => by cases e; rw [hT.1] at h; cases h; rfl)
theorem wpListIn_store_tab (hg : o.guard = none) (hd : o.dst = none) {ty : TypeId} (hty : ty = 65 ∨ ty = 65) (x y : Operand) (hop : o.op = .store ty x y) {B t : Nat} {cs cs' : List Cel} (hx : a.eval x = .pointer (some ⟨B, 0, none⟩)) (hy : a.eval y = tabV cs') (hT : Tab w B t cs) (hl : cs'.length = 80)
    (hK : ∀ w', TabSet w w' B t cs' → wpListIn F nF Tryd.prog ops Q rest a w') : wpListIn F nF Tryd.prog ops Q (o :: rest) a w := by
  refine wpListIn_plain hg fun K' hK' => ?_
  obtain ⟨w', hr, hs⟩ := exec_store_tab (a := a) hty x y hop hx hy hT hl
  unfold Oper.wpIn
  refine ⟨by simp [Oper.about, hop], ?_⟩
  rw [Oper.semAt_plain F _ _ (by rw [hop]; intro c hc'; cases hc'), hr]
  show K' (a.put o.dst undef) w'
  rw [hd]
  exact hK' a w' (hK w' hs)
theorem wpList_store_tab (hg : o.guard = none) (hd : o.dst = none) {ty : TypeId} (hty : ty = 65 ∨ ty = 65) (x y : Operand) (hop : o.op = .store ty x y) {B t : Nat} {cs cs' : List Cel} (hx : a.eval x = .pointer (some ⟨B, 0, none⟩)) (hy : a.eval y = tabV cs') (hT : Tab w B t cs) (hl : cs'.length = 80)
    (hK : ∀ w', TabSet w w' B t cs' → wpList Tryd.prog ops Q rest a w') : wpList Tryd.prog ops Q (o :: rest) a w := by
  refine wpList_plain hg fun K' hK' => ?_
  obtain ⟨w', hr, hs⟩ := exec_store_tab (a := a) hty x y hop hx hy hT hl
  unfold Oper.wp
  rw [hr]
  show K' (a.put o.dst undef) w'
  rw [hd]
  exact hK' a w' (hK w' hs)
/-- A result that is a whole table. -/
theorem results_tab {fn : Func} {p : Tmp} {ty : TypeId} (hty : ty = 65 ∨ ty = 65) (h : fn.results = #[.cell p ty]) (tmps : Array Value) {B t : Nat} {cs : List Cel} (hp : tmps.getD p undef = .pointer (some ⟨B, 0, none⟩)) (hT : Tab w B t cs) :
    (results fn tmps).run Tryd.prog w = .ok (tabV cs) w := by
  have hp' : tmps[p]?.getD undef = .pointer (some ⟨B, 0, none⟩) := by simpa using hp
  simp [results, h, hp', asAddr, load_tab hty hT]
end
end Go.Proofs.YtjjnhmbgffdenaaDoor
namespace Go.Proofs.YtjjnhmbgffdenaaDoor
open Go.RowKit Go.Sort

def psiPut (BT : Nat) (BX : Nat) (k : Nat) (i : Nat) (c : Cel) : Nat → Value → World → Prop
  | 0, v9, _ => v9 = .pointer (some ⟨BT, 0, none⟩)
  | 1, v9, _ => v9 = .pointer (some ⟨BX, 0, none⟩)
  | 2, v9, _ => v9 = .int .u8 k
  | 3, v9, _ => v9 = .pointer (some ⟨BX, 1, none⟩)
  | 4, v9, _ => v9 = .int .i64 ((i : Int) + 1)
  | 5, v9, _ => v9 = .int .i64 i
  | 6, v9, _ => v9 = c.v
  | 7, v9, w9 => ∃ c2 : Cel, v9 = c2.v ∧ c2.l = c.l ∧ c2.cap = c.l.length ∧ c2.ok w9.heap.size w9
  | 8, v9, _ => v9 = .pointer (some ⟨BT, 0, none⟩)
  | 9, v9, _ => v9 = .pointer (some ⟨BT, k * 40, none⟩)
  | _, _, _ => True
theorem psiPut_stab (BT : Nat) (BX : Nat) (k : Nat) (i : Nat) (c : Cel) (i9 : Nat) (v9 : Value) (w9 w9' : World) (h : psiPut BT BX k i c i9 v9 w9) (_hb : Below w9.heap.size w9 w9') : psiPut BT BX k i c i9 v9 w9' := by
  match i9, h with
  | 0, h => exact h
  | 1, h => exact h
  | 2, h => exact h
  | 3, h => exact h
  | 4, h => exact h
  | 5, h => exact h
  | 6, h => exact h
  | 7, h => exact h.elim fun c2 hh => ⟨c2, hh.1, hh.2.1, hh.2.2.1, (hh.2.2.2.below _hb).mono _hb.size⟩
  | 8, h => exact h
  | 9, h => exact h
  | i9 + 10, _ => exact trivial

end Go.Proofs.YtjjnhmbgffdenaaDoor
namespace Go.Proofs.YtjjnhmbgffdenaaDoor
open Go.RowKit Go.Shelf
attribute [local go_sem] Oper.semAt_some

/-- Eighty empty stacks. -/
def z80 : List Cel := List.replicate 80 Cel.nil
def zA : Array Value := (z80.map Cel.v).toArray
theorem zero68 (w : World) : (zeroValue 65).run Tryd.prog w = .ok (.agg zA) w := by kernel_rfl
theorem zero31 (w : World) : (zeroValue 65).run Tryd.prog w = .ok (.agg zA) w := by kernel_rfl
theorem tab_new (w : World) (t : Nat) : Tab (w.alloc (.cells zA t)) w.heap.size t z80 := ⟨heap_alloc_new w _, by simp [z80]⟩
/-- A table whose stacks have no room for more. -/
def Fine (w : World) (cs : List Cel) : Prop := ∀ c ∈ cs, c.cap = c.l.length ∧ c.ok w.heap.size w
theorem fine_z80 (w : World) : Fine w z80 := fun c hc => by
  obtain rfl := List.eq_of_mem_replicate hc
  exact ⟨rfl, Cel.nil_ok _ _⟩
theorem Fine.set {w : World} {cs : List Cel} (h : Fine w cs) (k : Nat) {c : Cel} (hc : c.cap = c.l.length ∧ c.ok w.heap.size w) : Fine w (cs.set k c) := fun x hx => by
  rcases List.mem_or_eq_of_mem_set hx with h' | rfl
  · exact h x h'
  · exact hc
/-- What lies as cells lies on where others turn. -/
theorem Cel.ok.grown {w w' : World} {row : Option Nat} {c : Cel} (h : c.ok w.heap.size w) (hg : w.grownBy w' row) (hr : ∀ r, row = some r → ∃ o : Obj, w.heap[r]? = some o ∧ o.isCells = false) : c.ok w'.heap.size w' := by
  refine ⟨h.1, h.2.imp id ?_⟩
  rintro ⟨b, o, e, hl, hc⟩
  have hs := hg.size
  exact ⟨b, o, e, by omega, fun i p hp => ⟨cell_kept (hc i p hp).1 hg hr, cell_kept (hc i p hp).2 hg hr⟩⟩
theorem Cel.ok.grown_tab {w w' : World} {c : Cel} (h : c.ok w.heap.size w) {B t : Nat} {cs : List Cel} (ht : Tab w B t cs) (hg : w.grownBy w' (some B)) : c.ok w'.heap.size w' := by
  refine ⟨h.1, h.2.imp id ?_⟩
  rintro ⟨b, o, e, hl, hc⟩
  have hs := hg.size
  refine ⟨b, o, e, by omega, fun i p hp => ?_⟩
  have h2 := hc i p hp
  have hne : b ≠ B := by
    rintro rfl
    have h3 := h2.1
    simp only [World.cell?, ht.1, Option.bind_some] at h3
    have : (cs.map Cel.v)[o + i * 2]? = some (.int .u8 p.y) := by simpa using h3
    rw [List.getElem?_map] at this
    cases hcs : cs[o + i * 2]? with
    | none => rw [hcs] at this; cases this
    | some c' => rw [hcs] at this; simp [Cel.v] at this
  have hb : w'.heap[b]? = w.heap[b]? := hg.block b hl (by simp [hne])
  exact ⟨by rw [World.cell?_of_block (w := w) hb]; exact h2.1, by rw [World.cell?_of_block (w := w) hb]; exact h2.2⟩
theorem Fine.grown_tab {w w' : World} {xs : List Cel} (h : Fine w xs) {B t : Nat} {cs : List Cel} (ht : Tab w B t cs) (hg : w.grownBy w' (some B)) : Fine w' xs := fun c hc => ⟨(h c hc).1, (h c hc).2.grown_tab ht hg⟩
theorem Fine.below {w w' : World} {cs : List Cel} (h : Fine w cs) (hb : Below w.heap.size w w') : Fine w' cs := fun c hc => ⟨(h c hc).1, ((h c hc).2.below hb).mono hb.size⟩
theorem Fine.grown {w w' : World} {row : Option Nat} {cs : List Cel} (h : Fine w cs) (hg : w.grownBy w' row) (hr : ∀ r, row = some r → ∃ o : Obj, w.heap[r]? = some o ∧ o.isCells = false) : Fine w' cs := fun c hc => ⟨(h c hc).1, (h c hc).2.grown hg hr⟩

/-- A round knows besides that the needle is one of forty. -/
def ElP (n : Nat) (w : World) (x : El) : Prop := ElOk n w x ∧ x.i < 40
/-- What a table holds behind some stacks. -/
def fillM (xs : List El) : List (List Nm) := xs.foldl (fun t x => t.set (x.k * 40 + x.i) x.c.l) (List.replicate 80 [])
theorem fillM_snoc (xs : List El) (x : El) : fillM (xs ++ [x]) = (fillM xs).set (x.k * 40 + x.i) x.c.l := by simp [fillM]
/-- The call returns a table that holds this. -/
def NewTab (m : List (List Nm)) (w : World) (e : Ending) (w' : World) : Prop := ∃ cs : List Cel, e = .returned (tabV cs) ∧ Hid (cs.length = 80 ∧ cs.map (fun c => c.l) = m ∧ Fine w' cs) ∧ Below w.heap.size w w'

end Go.Proofs.YtjjnhmbgffdenaaDoor
namespace Go.Proofs.YtjjnhmbgffdenaaDoor
open Go.RowKit Go.Sort

/-- The cells of a bed, one by one. -/
theorem Bed.ok.cells {B : Nat} {w : World} {d : Bed} (h : d.ok B w) : ∀ ad, d.ao = some ad → ∀ j u, (d.cs.map Cel.v)[j]? = some u → w.cell? (ad.add j) = some u := by
  rintro ad e j u hj
  obtain ⟨ao, cs, cap⟩ := d
  obtain rfl : ao = some ad := e
  rcases h.2.2 with h0 | ⟨b, o, h1, h2, h3⟩
  · simp only at h0 hj; subst h0; simp at hj
  · obtain rfl : ad = ⟨b, o, none⟩ := by simpa using h1
    rw [show (⟨b, o, none⟩ : Addr).add j = ⟨b, o + j, none⟩ from Addr.add_lit ..]
    simp only at hj
    rw [List.getElem?_map] at hj
    cases hc : cs[j]? with
    | none => rw [hc] at hj; cases hj
    | some c =>
      rw [hc] at hj
      obtain rfl : c.v = u := by simpa using hj
      exact h3 j c hc

/-- A bed in new memory that has no room for more. -/
def NewBed (cs : List Cel) (w : World) (e : Ending) (w' : World) : Prop := ∃ d : Bed, e = .returned d.v ∧ Hid (d.cs = cs ∧ d.cap = cs.length ∧ d.ok w'.heap.size w' ∧ ∀ b o, d.ao = some ⟨b, o, none⟩ → w.heap.size ≤ b) ∧ Below w.heap.size w w'

/-- A value that is a slice. -/
def IsSl (v : Value) : Prop := ∃ a n c, v = .slice a n c
theorem Cel.ok.set_box {n : Nat} {w : World} {c : Cel} (h : c.ok n w) {B t : Nat} {u v : Value} (hb : Boxed2 w B t u v) (hu : IsSl u) (hv : IsSl v) (k : Nat) (x : Value) : c.ok n (w.setCell ⟨B, k, none⟩ x) := by
  refine ⟨h.1, h.2.imp id ?_⟩
  rintro ⟨b, o, e, hl, hc⟩
  refine ⟨b, o, e, hl, fun i p hp => ?_⟩
  have h2 := hc i p hp
  have hne : b ≠ B := by
    rintro rfl
    have h3 := h2.1
    obtain ⟨_, _, _, rfl⟩ := hu
    obtain ⟨_, _, _, rfl⟩ := hv
    simp only [World.cell?, show w.heap[b]? = _ from hb, Option.bind_some] at h3
    generalize o + i * 2 = q at h3
    match q, h3 with
    | 0, h3 => simp at h3
    | 1, h3 => simp at h3
    | q + 2, h3 => simp at h3
  exact ⟨by rw [World.cell?_setCell_other _ _ _ _ (by simp [hne])]; exact h2.1, by rw [World.cell?_setCell_other _ _ _ _ (by simp [hne])]; exact h2.2⟩
theorem Bed.ok.set_box {n : Nat} {w : World} {d : Bed} (h : d.ok n w) {B t : Nat} {u v : Value} (hb : Boxed2 w B t u v) (hu : IsSl u) (hv : IsSl v) (hne : ∀ b o, d.ao = some ⟨b, o, none⟩ → b ≠ B) (k : Nat) (x : Value) : d.ok n (w.setCell ⟨B, k, none⟩ x) := by
  refine ⟨h.1, fun c hc => (h.2.1 c hc).set_box hb hu hv k x, h.2.2.imp id ?_⟩
  rintro ⟨b, o, e, hl, hc⟩
  refine ⟨b, o, e, hl, fun i c hci => ?_⟩
  have h9 := hne b o e
  rw [World.cell?_setCell_other _ _ _ _ (by simp [h9])]
  exact hc i c hci
theorem isSl_mk (a : Option Addr) (n c : Nat) : IsSl (.slice a n c) := ⟨_, _, _, rfl⟩
/-- What 'short' leaves. -/
def shortN (cs : List Cel) (n : Nat) : Prop := n ≤ cs.length ∧ (∀ i, n ≤ i → ∀ c, cs[i]? = some c → c.l = []) ∧ ∀ c, 0 < n → cs[n - 1]? = some c → c.l ≠ []
/-- The first stacks of a bed. -/
def Bed.take (d : Bed) (n : Nat) : Bed := ⟨d.ao, d.cs.take n, d.cap⟩
theorem Bed.ok.take {B : Nat} {w : World} {d : Bed} (h : d.ok B w) (n : Nat) : (d.take n).ok B w := by
  refine ⟨?_, fun c hc => h.2.1 c (List.mem_of_mem_take hc), ?_⟩
  · simp only [Bed.take, List.length_take]; have := h.1; omega
  · rcases h.2.2 with h0 | ⟨b, o, h1, h2, h3⟩
    · exact .inl (by simp [Bed.take, h0])
    · refine .inr ⟨b, o, h1, h2, fun i c hc => h3 i c ?_⟩
      simp only [Bed.take] at hc
      rw [List.getElem?_take] at hc
      split at hc
      · exact hc
      · cases hc

end Go.Proofs.YtjjnhmbgffdenaaDoor
namespace Go.Proofs.YtjjnhmbgffdenaaDoor
open Go.RowKit Go.Sort

/-- Beds that are short, of a table. -/
def ShortOf (cs : List Cel) (bd : Bds) : Prop := ∃ nf nb, shortN (cs.take 40) nf ∧ shortN (cs.drop 40) nb ∧ bd.f.cs = (cs.take 40).take nf ∧ bd.b.cs = (cs.drop 40).take nb ∧ bd.f.cap = bd.f.cs.length ∧ bd.b.cap = bd.b.cs.length
/-- The call returns the short beds of a table. -/
def NewBeds (cs : List Cel) (w : World) (e : Ending) (w' : World) : Prop := ∃ bd : Bds, e = .returned bd.v ∧ Hid (ShortOf cs bd ∧ bd.ok w'.heap.size w' ∧ (∀ b o, bd.f.ao = some ⟨b, o, none⟩ → w.heap.size ≤ b) ∧ ∀ b o, bd.b.ao = some ⟨b, o, none⟩ → w.heap.size ≤ b) ∧ Below w.heap.size w w'
/-- Half of a table as a bed. -/
theorem half_ok {w : World} {BT t : Nat} {cs : List Cel} (hT : Tab w BT t cs) (hF : Fine w cs) (k : Nat) (hk : k < 2) : Bed.ok w.heap.size w ⟨some ⟨BT, k * 40, none⟩, (cs.drop (k * 40)).take 40, 40⟩ := by
  refine ⟨by simp only [List.length_take, List.length_drop]; omega, fun c hc => (hF c (List.mem_of_mem_drop (List.mem_of_mem_take hc))).2, .inr ⟨BT, k * 40, rfl, hT.lt, fun i c hc => ?_⟩⟩
  simp only at hc
  rw [List.getElem?_take] at hc
  split at hc
  · rename_i hi
    rw [List.getElem?_drop] at hc
    obtain ⟨h1, rfl⟩ := List.getElem?_eq_some_iff.1 hc
    exact hT.cell (by omega)
  · cases hc

def psiTB (BT : Nat) (BR : Nat) (cs : List Cel) : Nat → Value → World → Prop
  | 0, v9, _ => v9 = .pointer (some ⟨BT, 0, none⟩)
  | 1, v9, _ => v9 = .pointer (some ⟨BT, 0, none⟩)
  | 2, v9, _ => v9 = .pointer (some ⟨BT, 0, none⟩)
  | 3, v9, _ => v9 = .slice (some ⟨BT, 0, none⟩) 40 40
  | 4, v9, w9 => ∃ (n : Nat) (d2 : Bed), v9 = d2.v ∧ shortN (cs.take 40) n ∧ d2.cs = (cs.take 40).take n ∧ d2.cap = d2.cs.length ∧ d2.ok w9.heap.size w9 ∧ ∀ b o, d2.ao = some ⟨b, o, none⟩ → BR < b
  | 5, v9, _ => v9 = .pointer (some ⟨BT, 0, none⟩)
  | 6, v9, _ => v9 = .pointer (some ⟨BT, 0, none⟩)
  | 7, v9, _ => v9 = .pointer (some ⟨BT, 40, none⟩)
  | 8, v9, _ => v9 = .slice (some ⟨BT, 40, none⟩) 40 40
  | _, _, _ => True
theorem psiTB_stab (BT : Nat) (BR : Nat) (cs : List Cel) (i9 : Nat) (v9 : Value) (w9 w9' : World) (h : psiTB BT BR cs i9 v9 w9) (_hb : Below w9.heap.size w9 w9') : psiTB BT BR cs i9 v9 w9' := by
  match i9, h with
  | 0, h => exact h
  | 1, h => exact h
  | 2, h => exact h
  | 3, h => exact h
  | 4, h => exact (by obtain ⟨n, d2, h1, h2, h3, h4, h5, h6⟩ := h; exact ⟨n, d2, h1, h2, h3, h4, (h5.below _hb).mono _hb.size, h6⟩)
  | 5, h => exact h
  | 6, h => exact h
  | 7, h => exact h
  | 8, h => exact h
  | i9 + 9, _ => exact trivial

end Go.Proofs.YtjjnhmbgffdenaaDoor
namespace Go.Proofs.YtjjnhmbgffdenaaDoor
open Go.RowKit Go.Sort

def catL (cs : List Cel) : List Nm := (cs.map fun c => c.l).flatten
theorem catL_take_succ (cs : List Cel) {k : Nat} (hk : k < cs.length) : catL (cs.take (k + 1)) = catL (cs.take k) ++ cs[k].l := by
  unfold catL
  rw [List.take_succ_eq_append_getElem hk, List.map_append, List.flatten_append]
  simp only [List.map_cons, List.map_nil, List.flatten_cons, List.flatten_nil, List.append_nil]
theorem catL_take_le (cs : List Cel) (k : Nat) : (catL (cs.take k)).length ≤ (catL cs).length := by
  have h : catL cs = catL (cs.take k) ++ catL (cs.drop k) := by
    unfold catL
    rw [← List.flatten_append, ← List.map_append, List.take_append_drop]
  rw [h, List.length_append]
  exact Nat.le_add_right _ _
/-- A list in the call's own memory. -/
def NewOwn (l : List Nm) (w : World) (e : Ending) (w' : World) : Prop := ∃ c : Cel, e = .returned c.v ∧ Hid (c.l = l ∧ c.ok w'.heap.size w') ∧ Below w.heap.size w w'

end Go.Proofs.YtjjnhmbgffdenaaDoor
namespace Go.Proofs.YtjjnhmbgffdenaaDoor
open Go.RowKit Go.Shelf
attribute [local go_sem] Oper.semAt_some

def cntM (xs : List El) : Nat := (xs.map fun x => if isN x.k ((x.i : Int) + 1) = true then x.c.l.length else 0).sum
theorem cntM_snoc (xs : List El) (x : El) : cntM (xs ++ [x]) = cntM xs + if isN x.k ((x.i : Int) + 1) = true then x.c.l.length else 0 := by simp [cntM]
theorem cntM_le {n : Nat} {w : World} (xs : List (Al n w)) : cntM (xs.map fun x => x.1) ≤ xs.length * 100 := by
  induction xs with
  | nil => simp [cntM]
  | cons x xs ih =>
    have h : x.1.c.l.length ≤ 100 := x.2.2.2.1
    simp only [cntM, List.map_cons, List.sum_cons, List.length_cons] at ih ⊢
    split <;> omega

end Go.Proofs.YtjjnhmbgffdenaaDoor
namespace Go.Proofs.YtjjnhmbgffdenaaDoor
open Go.RowKit Go.Shelf
attribute [local go_sem] Oper.semAt_some

/-- Whether a needle that is valid holds a name. -/
def holds (p : Nm) (x : El) : Bool := isN x.k ((x.i : Int) + 1) && decide (p ∈ x.c.l)
/-- What 'Find' returns. -/
def findV (d : Bds) (p : Nm) : Value := match d.els.find? (holds p) with
  | some x => .tuple #[x.nv, .int .i64 0]
  | none => .tuple #[.agg #[.int .u8 0, .int .i64 0], .int .i64 7]
theorem find_none {p : Nm} {xs : List El} (h : ∀ x ∈ xs, holds p x = false) : xs.find? (holds p) = none := by
  rw [List.find?_eq_none]; intro x hx; simp [h x hx]
theorem find_some {p : Nm} {xs ini : List El} {x : El} (hp : ini ++ [x] <+: xs) (h : ∀ x ∈ ini, holds p x = false) (hx : holds p x = true) : xs.find? (holds p) = some x := by
  obtain ⟨r, rfl⟩ := hp
  rw [List.append_assoc, List.find?_append, find_none h]
  simp [hx]

end Go.Proofs.YtjjnhmbgffdenaaDoor
namespace Go.Proofs.YtjjnhmbgffdenaaDoor
open Go.RowKit Go.Shelf
attribute [local go_sem] Oper.semAt_some

/-- Whether a needle holds the same in other beds. -/
def sameAt (d' : Bds) (x : El) : Bool := decide (x.c.l = ((d'.bed x.k).cel x.i).l)
end Go.Proofs.YtjjnhmbgffdenaaDoor
namespace Go.Proofs.YtjjnhmbgffdenaaDoor
open Go.RowKit

/-- The beds hold what the table T says: the needle i + 1 of the bed k holds T's place k * 40 + i. -/
structure Reads (T : List (List Nm)) (d : Bds) : Prop where
  len : T.length = 80
  cel : ∀ k, k < 2 → ∀ i, i < 40 → ((d.bed k).cel i).l = T.getD (k * 40 + i) []
  f40 : d.f.cs.length ≤ 40
  b40 : d.b.cs.length ≤ 40
/-- .. and are short. -/
structure Tight (d : Bds) : Prop where
  f : d.f.cap = d.f.cs.length
  b : d.b.cap = d.b.cs.length
  fl : ∀ c, 0 < d.f.cs.length → d.f.cs[d.f.cs.length - 1]? = some c → c.l ≠ []
  bl : ∀ c, 0 < d.b.cs.length → d.b.cs[d.b.cs.length - 1]? = some c → c.l ≠ []

theorem cel_take {cs : List Cel} {n : Nat} (h : shortN cs n) (ao : Option Addr) (cap i : Nat) : (Bed.cel ⟨ao, cs.take n, cap⟩ i).l = (cs.getD i Cel.nil).l := by
  unfold Bed.cel
  simp only [List.getD_eq_getElem?_getD]
  rw [List.getElem?_take]
  split
  · rfl
  · rename_i hi
    cases hc : cs[i]? with
    | none => rfl
    | some c => rw [Option.getD_none, Option.getD_some, h.2.1 i (by omega) c hc]; rfl
theorem reads_of {cs : List Cel} {d : Bds} (hl : cs.length = 80) (h : ShortOf cs d) : Reads (cs.map fun c => c.l) d ∧ Tight d := by
  obtain ⟨nf, nb, hf, hb, ef, eb, cf, cb⟩ := h
  obtain ⟨⟨fa, fs, fc⟩, ⟨ba, bs, bc⟩⟩ := d
  simp only at ef eb cf cb
  have lf : fs.length = nf := by rw [ef, List.length_take]; exact Nat.min_eq_left hf.1
  have lb : bs.length = nb := by rw [eb, List.length_take]; exact Nat.min_eq_left hb.1
  have h40 : (cs.take 40).length = 40 := by rw [List.length_take]; omega
  have h40' : (cs.drop 40).length = 40 := by rw [List.length_drop]; omega
  refine ⟨⟨by simpa using hl, fun k hk i hi => ?_, ?_, ?_⟩, ⟨cf, cb, fun c h0 hc => ?_, fun c h0 hc => ?_⟩⟩
  · have key : ∀ j, ((cs.map fun c => c.l).getD j []) = (cs.getD j Cel.nil).l := fun j => by
      simp only [List.getD_eq_getElem?_getD, List.getElem?_map]
      cases cs[j]? <;> rfl
    rw [key]
    obtain rfl | rfl : k = 0 ∨ k = 1 := by omega
    · simp only [Bds.bed, if_true, ef]
      rw [cel_take hf]
      simp only [List.getD_eq_getElem?_getD, List.getElem?_take, hi, if_true, Nat.zero_mul, Nat.zero_add]
    · simp only [Bds.bed, Nat.one_ne_zero, if_false, eb]
      rw [cel_take hb]
      simp only [List.getD_eq_getElem?_getD, List.getElem?_drop, Nat.one_mul]
  · simp only; have := hf.1; omega
  · simp only; have := hb.1; omega
  · simp only at h0 hc
    rw [lf] at h0 hc
    refine hf.2.2 c h0 ?_
    rw [ef, List.getElem?_take, if_pos (by omega)] at hc
    exact hc
  · simp only at h0 hc
    rw [lb] at h0 hc
    refine hb.2.2 c h0 ?_
    rw [eb, List.getElem?_take, if_pos (by omega)] at hc
    exact hc

section
variable {T : List (List Nm)} {d : Bds}
theorem mem_els {x : El} (hx : x ∈ d.els) : x.k < 2 ∧ x.i < (d.bed x.k).cs.length ∧ (d.bed x.k).cel x.i = x.c := by
  unfold Bds.els at hx
  rcases List.mem_append.1 hx with hx | hx
  · simp only [Bed.els, List.mem_mapIdx] at hx
    obtain ⟨i, hi, rfl⟩ := hx
    refine ⟨by simp, by simpa [Bds.bed] using hi, ?_⟩
    simp [Bds.bed, Bed.cel, hi]
  · simp only [Bed.els, List.mem_mapIdx] at hx
    obtain ⟨i, hi, rfl⟩ := hx
    refine ⟨by simp, by simpa [Bds.bed] using hi, ?_⟩
    simp [Bds.bed, Bed.cel, hi]
theorem els_mem {k i : Nat} (hk : k < 2) (hi : i < (d.bed k).cs.length) : (⟨k, i, (d.bed k).cel i⟩ : El) ∈ d.els := by
  unfold Bds.els
  rw [List.mem_append]
  obtain rfl | rfl : k = 0 ∨ k = 1 := by omega
  · left
    simp only [Bds.bed, if_true] at hi ⊢
    simp only [Bed.els, List.mem_mapIdx]
    exact ⟨i, hi, by simp [Bed.cel, hi]⟩
  · right
    simp only [Bds.bed, Nat.one_ne_zero, if_false] at hi ⊢
    simp only [Bed.els, List.mem_mapIdx]
    exact ⟨i, hi, by simp [Bed.cel, hi]⟩
theorem Reads.i40 (h : Reads T d) {x : El} (hx : x ∈ d.els) : x.i < 40 := by
  obtain ⟨hk, hi, _⟩ := mem_els hx
  have : (d.bed x.k).cs.length ≤ 40 := by unfold Bds.bed; split; exact h.f40; exact h.b40
  omega
theorem Reads.at_el (h : Reads T d) {x : El} (hx : x ∈ d.els) : T.getD (x.k * 40 + x.i) [] = x.c.l := by
  obtain ⟨hk, hi, hc⟩ := mem_els hx
  rw [← h.cel _ hk _ (h.i40 hx), hc]
/-- What is not empty is an element. -/
theorem Reads.el_of (h : Reads T d) {k i : Nat} (hk : k < 2) (hi : i < 40) (hne : T.getD (k * 40 + i) [] ≠ []) : ∃ x ∈ d.els, x.k = k ∧ x.i = i := by
  by_cases hl : i < (d.bed k).cs.length
  · exact ⟨_, els_mem hk hl, rfl, rfl⟩
  · exfalso
    apply hne
    rw [← h.cel k hk i hi]
    unfold Bed.cel
    rw [List.getD_eq_getElem?_getD, List.getElem?_eq_none (by omega)]
    rfl

/-- A table that is filled from its own elements. -/
theorem foldl_set (g : Nat → List Nm) (xs : List El) : ∀ (t : List (List Nm)), (∀ x ∈ xs, g (x.k * 40 + x.i) = x.c.l) → ∀ j, (xs.foldl (fun t x => t.set (x.k * 40 + x.i) x.c.l) t)[j]? =
    if (∃ x ∈ xs, x.k * 40 + x.i = j) ∧ j < t.length then some (g j) else t[j]? := by
  induction xs with
  | nil => intro t _ j; simp
  | cons x xs ih =>
    intro t h j
    rw [List.foldl_cons, ih _ (fun y hy => h y (List.mem_cons_of_mem _ hy)), List.length_set]
    by_cases h1 : ∃ y ∈ xs, y.k * 40 + y.i = j
    · by_cases h2 : j < t.length
      · rw [if_pos ⟨h1, h2⟩, if_pos ⟨by obtain ⟨y, hy, e⟩ := h1; exact ⟨y, List.mem_cons_of_mem _ hy, e⟩, h2⟩]
      · rw [if_neg (fun hh => h2 hh.2), if_neg (fun hh => h2 hh.2), List.getElem?_eq_none (by simp; omega), List.getElem?_eq_none (by omega)]
    · rw [if_neg (fun hh => h1 hh.1)]
      by_cases h3 : x.k * 40 + x.i = j
      · subst h3
        by_cases h2 : x.k * 40 + x.i < t.length
        · rw [if_pos ⟨⟨x, List.mem_cons_self .., rfl⟩, h2⟩, List.getElem?_set_self h2, h x (List.mem_cons_self ..)]
        · rw [if_neg (fun hh => h2 hh.2), List.getElem?_eq_none (by simp; omega), List.getElem?_eq_none (by omega)]
      · rw [List.getElem?_set_ne h3, if_neg]
        rintro ⟨⟨y, hy, e⟩, _⟩
        rcases List.mem_cons.1 hy with rfl | hy
        · exact h3 e
        · exact h1 ⟨y, hy, e⟩
theorem Reads.fill (h : Reads T d) : fillM d.els = T := by
  apply List.ext_getElem?
  intro j
  unfold fillM
  rw [foldl_set (fun j => T.getD j []) d.els _ (fun x hx => h.at_el hx) j, List.length_replicate]
  by_cases hj : j < 80
  · have hT : T[j]? = some (T.getD j []) := by rw [List.getD_eq_getElem?_getD, List.getElem?_eq_getElem (by rw [h.len]; exact hj)]; rfl
    by_cases h1 : ∃ x ∈ d.els, x.k * 40 + x.i = j
    · rw [if_pos ⟨h1, hj⟩, hT]
    · rw [if_neg (fun hh => h1 hh.1), hT, List.getElem?_replicate, if_pos hj]
      congr 1
      by_cases hne : T.getD j [] = []
      · rw [hne]
      · exfalso
        obtain ⟨x, hx, hk, hi⟩ := h.el_of (k := j / 40) (i := j % 40) (by omega) (by omega) (by rw [show j / 40 * 40 + j % 40 = j by omega]; exact hne)
        exact h1 ⟨x, hx, by rw [hk, hi]; omega⟩
  · rw [if_neg (fun hh => hj hh.2), List.getElem?_eq_none (by rw [List.length_replicate]; omega), List.getElem?_eq_none (by rw [h.len]; omega)]
end
end Go.Proofs.YtjjnhmbgffdenaaDoor
