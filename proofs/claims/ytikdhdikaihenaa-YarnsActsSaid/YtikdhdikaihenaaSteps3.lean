import Derived.Test.YtikdhdikaihenaaRg3
import Derived.Test.YtikdhdikaihenaaSteps2
import Derived.Test.YtikdhdikaihenaaLives
namespace Go.Proofs.Ytikdhdikaihenaa
open Go.RowKit Go.Sort

section
variable {o : Oper} {a : Act} {w : World} {K : Act → World → Prop} {Q : Exit → Act → World → Prop} {x y : Operand}

theorem step_val {v : Value} (h : (execOp a.eval o).run Try.prog w = .ok (.value v) w) (hK : K (a.put o.dst v) w) : o.wp Try.prog a w K Q := by
  unfold Oper.wp
  rw [h]
  exact hK

theorem fa38_0 {b q : Nat} (hop : o.op = .fieldAddr 38 x 0) (hx : a.eval x = .pointer (some ⟨b, q, none⟩)) (hK : K (a.put o.dst (.pointer (some ⟨b, q, none⟩))) w) : o.wp Try.prog a w K Q :=
  step_val (by simp only [execOp, hop, hx]; go_simp) hK
theorem fa38_1 {b q : Nat} (hop : o.op = .fieldAddr 38 x 1) (hx : a.eval x = .pointer (some ⟨b, q, none⟩)) (hK : K (a.put o.dst (.pointer (some ⟨b, q + 1, none⟩))) w) : o.wp Try.prog a w K Q :=
  step_val (by simp only [execOp, hop, hx]; go_simp) hK
theorem fa38_2 {b q : Nat} (hop : o.op = .fieldAddr 38 x 2) (hx : a.eval x = .pointer (some ⟨b, q, none⟩)) (hK : K (a.put o.dst (.pointer (some ⟨b, q + 2, none⟩))) w) : o.wp Try.prog a w K Q :=
  step_val (by simp only [execOp, hop, hx]; go_simp) hK
theorem fa38_3 {b q : Nat} (hop : o.op = .fieldAddr 38 x 3) (hx : a.eval x = .pointer (some ⟨b, q, none⟩)) (hK : K (a.put o.dst (.pointer (some ⟨b, q + 3, none⟩))) w) : o.wp Try.prog a w K Q :=
  step_val (by simp only [execOp, hop, hx]; go_simp) hK
theorem fa38_4 {b q : Nat} (hop : o.op = .fieldAddr 38 x 4) (hx : a.eval x = .pointer (some ⟨b, q, none⟩)) (hK : K (a.put o.dst (.pointer (some ⟨b, q + 4, none⟩))) w) : o.wp Try.prog a w K Q :=
  step_val (by simp only [execOp, hop, hx]; go_simp) hK
theorem fa33_0 {b q : Nat} (hop : o.op = .fieldAddr 33 x 0) (hx : a.eval x = .pointer (some ⟨b, q, none⟩)) (hK : K (a.put o.dst (.pointer (some ⟨b, q, none⟩))) w) : o.wp Try.prog a w K Q :=
  step_val (by simp only [execOp, hop, hx]; go_simp) hK
theorem fa33_1 {b q : Nat} (hop : o.op = .fieldAddr 33 x 1) (hx : a.eval x = .pointer (some ⟨b, q, none⟩)) (hK : K (a.put o.dst (.pointer (some ⟨b, q + 2, none⟩))) w) : o.wp Try.prog a w K Q :=
  step_val (by simp only [execOp, hop, hx]; go_simp) hK
theorem fa33_2 {b q : Nat} (hop : o.op = .fieldAddr 33 x 2) (hx : a.eval x = .pointer (some ⟨b, q, none⟩)) (hK : K (a.put o.dst (.pointer (some ⟨b, q + 3, none⟩))) w) : o.wp Try.prog a w K Q :=
  step_val (by simp only [execOp, hop, hx]; go_simp) hK
theorem fa30_0 {b q : Nat} (hop : o.op = .fieldAddr 30 x 0) (hx : a.eval x = .pointer (some ⟨b, q, none⟩)) (hK : K (a.put o.dst (.pointer (some ⟨b, q, none⟩))) w) : o.wp Try.prog a w K Q :=
  step_val (by simp only [execOp, hop, hx]; go_simp) hK
theorem fa30_1 {b q : Nat} (hop : o.op = .fieldAddr 30 x 1) (hx : a.eval x = .pointer (some ⟨b, q, none⟩)) (hK : K (a.put o.dst (.pointer (some ⟨b, q + 1, none⟩))) w) : o.wp Try.prog a w K Q :=
  step_val (by simp only [execOp, hop, hx]; go_simp) hK
theorem fa47_0 {b q : Nat} (hop : o.op = .fieldAddr 47 x 0) (hx : a.eval x = .pointer (some ⟨b, q, none⟩)) (hK : K (a.put o.dst (.pointer (some ⟨b, q, none⟩))) w) : o.wp Try.prog a w K Q :=
  step_val (by simp only [execOp, hop, hx]; go_simp) hK
theorem fa47_1 {b q : Nat} (hop : o.op = .fieldAddr 47 x 1) (hx : a.eval x = .pointer (some ⟨b, q, none⟩)) (hK : K (a.put o.dst (.pointer (some ⟨b, q + 1, none⟩))) w) : o.wp Try.prog a w K Q :=
  step_val (by simp only [execOp, hop, hx]; go_simp) hK
theorem fa47_2 {b q : Nat} (hop : o.op = .fieldAddr 47 x 2) (hx : a.eval x = .pointer (some ⟨b, q, none⟩)) (hK : K (a.put o.dst (.pointer (some ⟨b, q + 2, none⟩))) w) : o.wp Try.prog a w K Q :=
  step_val (by simp only [execOp, hop, hx]; go_simp) hK
theorem ld3 {b q : Nat} {v : Value} (hop : o.op = .load 3 x) (hx : a.eval x = .pointer (some ⟨b, q, none⟩)) (hc : w.cell? ⟨b, q, none⟩ = some v) (hK : K (a.put o.dst v) w) : o.wp Try.prog a w K Q :=
  step_val (by simp only [execOp, hop, hx]; go_simp) hK
theorem ld4 {b q : Nat} {v : Value} (hop : o.op = .load 4 x) (hx : a.eval x = .pointer (some ⟨b, q, none⟩)) (hc : w.cell? ⟨b, q, none⟩ = some v) (hK : K (a.put o.dst v) w) : o.wp Try.prog a w K Q :=
  step_val (by simp only [execOp, hop, hx]; go_simp) hK
theorem ld5 {b q : Nat} {v : Value} (hop : o.op = .load 5 x) (hx : a.eval x = .pointer (some ⟨b, q, none⟩)) (hc : w.cell? ⟨b, q, none⟩ = some v) (hK : K (a.put o.dst v) w) : o.wp Try.prog a w K Q :=
  step_val (by simp only [execOp, hop, hx]; go_simp) hK
theorem ld31 {b q : Nat} {v : Value} (hop : o.op = .load 31 x) (hx : a.eval x = .pointer (some ⟨b, q, none⟩)) (hc : w.cell? ⟨b, q, none⟩ = some v) (hK : K (a.put o.dst v) w) : o.wp Try.prog a w K Q :=
  step_val (by simp only [execOp, hop, hx]; go_simp) hK
theorem ld23 {b q : Nat} {v : Value} (hop : o.op = .load 23 x) (hx : a.eval x = .pointer (some ⟨b, q, none⟩)) (hc : w.cell? ⟨b, q, none⟩ = some v) (hK : K (a.put o.dst v) w) : o.wp Try.prog a w K Q :=
  step_val (by simp only [execOp, hop, hx]; go_simp) hK
theorem ld30 {b : Nat} {v0 v1 : Value} (hop : o.op = .load 30 x) (hx : a.eval x = .pointer (some ⟨b, 0, none⟩)) (c0 : w.cell? ⟨b, 0, none⟩ = some v0) (c1 : w.cell? ⟨b, 1, none⟩ = some v1) (hK : K (a.put o.dst (.agg #[v0, v1])) w) : o.wp Try.prog a w K Q :=
  step_val (by simp only [execOp, hop, hx]; go_simp) hK
theorem ld38 {b : Nat} {v0 v1 v2 v3 v4 : Value} (hop : o.op = .load 38 x) (hx : a.eval x = .pointer (some ⟨b, 0, none⟩)) (hf : Five w b v0 v1 v2 v3 v4) (hK : K (a.put o.dst (.agg #[v0, v1, v2, v3, v4])) w) : o.wp Try.prog a w K Q := by
  obtain ⟨⟨c0, c1, c2, c3, c4⟩, -⟩ := hf
  exact step_val (by simp only [execOp, hop, hx]; go_simp) hK
theorem ld33 {b q : Nat} {p : Ps} (hop : o.op = .load 33 x) (hx : a.eval x = .pointer (some ⟨b, q, none⟩)) (hf : Four w b q p) (hK : K (a.put o.dst p.v) w) : o.wp Try.prog a w K Q := by
  obtain ⟨c0, c1, c2, c3⟩ := hf
  exact step_val (by simp only [execOp, hop, hx]; go_simp; simp [Ps.v]) hK
theorem st_move {v : Value} (hop : o.op = .move x) (hx : a.eval x = v) (hK : K (a.put o.dst v) w) : o.wp Try.prog a w K Q :=
  step_val (by simp only [execOp, hop, hx]; go_simp) hK
theorem st_assign {v : Value} (hop : o.op = .assign x) (hx : a.eval x = v) (hK : K (a.put o.dst v) w) : o.wp Try.prog a w K Q :=
  step_val (by simp only [execOp, hop, hx]; go_simp) hK
theorem st_lss_3 {X Y : Int} (hop : o.op = .binOp .lss 3 x y 3) (hx : a.eval x = .int .i64 X) (hy : a.eval y = .int .i64 Y) (hK : K (a.put o.dst (.bool (decide (X < Y)))) w) : o.wp Try.prog a w K Q :=
  step_val (by simp only [execOp, hop, hx, hy]; go_simp) hK
theorem st_gtr_3 {X Y : Int} (hop : o.op = .binOp .gtr 3 x y 3) (hx : a.eval x = .int .i64 X) (hy : a.eval y = .int .i64 Y) (hK : K (a.put o.dst (.bool (decide (Y < X)))) w) : o.wp Try.prog a w K Q :=
  step_val (by simp only [execOp, hop, hx, hy]; go_simp) hK
theorem st_leq_3 {X Y : Int} (hop : o.op = .binOp .leq 3 x y 3) (hx : a.eval x = .int .i64 X) (hy : a.eval y = .int .i64 Y) (hK : K (a.put o.dst (.bool (decide (X ≤ Y)))) w) : o.wp Try.prog a w K Q :=
  step_val (by simp only [execOp, hop, hx, hy]; go_simp) hK
theorem st_geq_3 {X Y : Int} (hop : o.op = .binOp .geq 3 x y 3) (hx : a.eval x = .int .i64 X) (hy : a.eval y = .int .i64 Y) (hK : K (a.put o.dst (.bool (decide (Y ≤ X)))) w) : o.wp Try.prog a w K Q :=
  step_val (by simp only [execOp, hop, hx, hy]; go_simp) hK
theorem st_eql_3 {X Y : Int} (hop : o.op = .binOp .eql 3 x y 3) (hx : a.eval x = .int .i64 X) (hy : a.eval y = .int .i64 Y) (hK : K (a.put o.dst (.bool ((X == Y)))) w) : o.wp Try.prog a w K Q :=
  step_val (by simp only [execOp, hop, hx, hy]; go_simp) hK
theorem st_neq_3 {X Y : Int} (hop : o.op = .binOp .neq 3 x y 3) (hx : a.eval x = .int .i64 X) (hy : a.eval y = .int .i64 Y) (hK : K (a.put o.dst (.bool (X != Y))) w) : o.wp Try.prog a w K Q :=
  step_val (by simp only [execOp, hop, hx, hy]; go_simp) hK
theorem st_lss_5 {X Y : Int} (hop : o.op = .binOp .lss 5 x y 5) (hx : a.eval x = .int .u8 X) (hy : a.eval y = .int .u8 Y) (hK : K (a.put o.dst (.bool (decide (X < Y)))) w) : o.wp Try.prog a w K Q :=
  step_val (by simp only [execOp, hop, hx, hy]; go_simp) hK
theorem st_gtr_5 {X Y : Int} (hop : o.op = .binOp .gtr 5 x y 5) (hx : a.eval x = .int .u8 X) (hy : a.eval y = .int .u8 Y) (hK : K (a.put o.dst (.bool (decide (Y < X)))) w) : o.wp Try.prog a w K Q :=
  step_val (by simp only [execOp, hop, hx, hy]; go_simp) hK
theorem st_leq_5 {X Y : Int} (hop : o.op = .binOp .leq 5 x y 5) (hx : a.eval x = .int .u8 X) (hy : a.eval y = .int .u8 Y) (hK : K (a.put o.dst (.bool (decide (X ≤ Y)))) w) : o.wp Try.prog a w K Q :=
  step_val (by simp only [execOp, hop, hx, hy]; go_simp) hK
theorem st_geq_5 {X Y : Int} (hop : o.op = .binOp .geq 5 x y 5) (hx : a.eval x = .int .u8 X) (hy : a.eval y = .int .u8 Y) (hK : K (a.put o.dst (.bool (decide (Y ≤ X)))) w) : o.wp Try.prog a w K Q :=
  step_val (by simp only [execOp, hop, hx, hy]; go_simp) hK
theorem st_eql_5 {X Y : Int} (hop : o.op = .binOp .eql 5 x y 5) (hx : a.eval x = .int .u8 X) (hy : a.eval y = .int .u8 Y) (hK : K (a.put o.dst (.bool ((X == Y)))) w) : o.wp Try.prog a w K Q :=
  step_val (by simp only [execOp, hop, hx, hy]; go_simp) hK
theorem st_neq_5 {X Y : Int} (hop : o.op = .binOp .neq 5 x y 5) (hx : a.eval x = .int .u8 X) (hy : a.eval y = .int .u8 Y) (hK : K (a.put o.dst (.bool (X != Y))) w) : o.wp Try.prog a w K Q :=
  step_val (by simp only [execOp, hop, hx, hy]; go_simp) hK
theorem st_lss_31 {X Y : Int} (hop : o.op = .binOp .lss 31 x y 31) (hx : a.eval x = .int .u8 X) (hy : a.eval y = .int .u8 Y) (hK : K (a.put o.dst (.bool (decide (X < Y)))) w) : o.wp Try.prog a w K Q :=
  step_val (by simp only [execOp, hop, hx, hy]; go_simp) hK
theorem st_gtr_31 {X Y : Int} (hop : o.op = .binOp .gtr 31 x y 31) (hx : a.eval x = .int .u8 X) (hy : a.eval y = .int .u8 Y) (hK : K (a.put o.dst (.bool (decide (Y < X)))) w) : o.wp Try.prog a w K Q :=
  step_val (by simp only [execOp, hop, hx, hy]; go_simp) hK
theorem st_leq_31 {X Y : Int} (hop : o.op = .binOp .leq 31 x y 31) (hx : a.eval x = .int .u8 X) (hy : a.eval y = .int .u8 Y) (hK : K (a.put o.dst (.bool (decide (X ≤ Y)))) w) : o.wp Try.prog a w K Q :=
  step_val (by simp only [execOp, hop, hx, hy]; go_simp) hK
theorem st_geq_31 {X Y : Int} (hop : o.op = .binOp .geq 31 x y 31) (hx : a.eval x = .int .u8 X) (hy : a.eval y = .int .u8 Y) (hK : K (a.put o.dst (.bool (decide (Y ≤ X)))) w) : o.wp Try.prog a w K Q :=
  step_val (by simp only [execOp, hop, hx, hy]; go_simp) hK
theorem st_eql_31 {X Y : Int} (hop : o.op = .binOp .eql 31 x y 31) (hx : a.eval x = .int .u8 X) (hy : a.eval y = .int .u8 Y) (hK : K (a.put o.dst (.bool ((X == Y)))) w) : o.wp Try.prog a w K Q :=
  step_val (by simp only [execOp, hop, hx, hy]; go_simp) hK
theorem st_neq_31 {X Y : Int} (hop : o.op = .binOp .neq 31 x y 31) (hx : a.eval x = .int .u8 X) (hy : a.eval y = .int .u8 Y) (hK : K (a.put o.dst (.bool (X != Y))) w) : o.wp Try.prog a w K Q :=
  step_val (by simp only [execOp, hop, hx, hy]; go_simp) hK
theorem st_lss_41 {X Y : Int} (hop : o.op = .binOp .lss 41 x y 41) (hx : a.eval x = .int .i64 X) (hy : a.eval y = .int .i64 Y) (hK : K (a.put o.dst (.bool (decide (X < Y)))) w) : o.wp Try.prog a w K Q :=
  step_val (by simp only [execOp, hop, hx, hy]; go_simp) hK
theorem st_gtr_41 {X Y : Int} (hop : o.op = .binOp .gtr 41 x y 41) (hx : a.eval x = .int .i64 X) (hy : a.eval y = .int .i64 Y) (hK : K (a.put o.dst (.bool (decide (Y < X)))) w) : o.wp Try.prog a w K Q :=
  step_val (by simp only [execOp, hop, hx, hy]; go_simp) hK
theorem st_leq_41 {X Y : Int} (hop : o.op = .binOp .leq 41 x y 41) (hx : a.eval x = .int .i64 X) (hy : a.eval y = .int .i64 Y) (hK : K (a.put o.dst (.bool (decide (X ≤ Y)))) w) : o.wp Try.prog a w K Q :=
  step_val (by simp only [execOp, hop, hx, hy]; go_simp) hK
theorem st_geq_41 {X Y : Int} (hop : o.op = .binOp .geq 41 x y 41) (hx : a.eval x = .int .i64 X) (hy : a.eval y = .int .i64 Y) (hK : K (a.put o.dst (.bool (decide (Y ≤ X)))) w) : o.wp Try.prog a w K Q :=
  step_val (by simp only [execOp, hop, hx, hy]; go_simp) hK
theorem st_eql_41 {X Y : Int} (hop : o.op = .binOp .eql 41 x y 41) (hx : a.eval x = .int .i64 X) (hy : a.eval y = .int .i64 Y) (hK : K (a.put o.dst (.bool ((X == Y)))) w) : o.wp Try.prog a w K Q :=
  step_val (by simp only [execOp, hop, hx, hy]; go_simp) hK
theorem st_neq_41 {X Y : Int} (hop : o.op = .binOp .neq 41 x y 41) (hx : a.eval x = .int .i64 X) (hy : a.eval y = .int .i64 Y) (hK : K (a.put o.dst (.bool (X != Y))) w) : o.wp Try.prog a w K Q :=
  step_val (by simp only [execOp, hop, hx, hy]; go_simp) hK
theorem st_sub_3 {X Y Z : Int} (hop : o.op = .binOp .sub 3 x y 3) (hx : a.eval x = .int .i64 X) (hy : a.eval y = .int .i64 Y) (hz : IntKind.i64.wrap (X - Y) = Z) (hK : K (a.put o.dst (.int .i64 Z)) w) : o.wp Try.prog a w K Q :=
  step_val (by simp only [execOp, hop, hx, hy]; go_simp) hK
theorem st_rem2_3 {X : Int} (hop : o.op = .binOp .rem 3 x y 3) (hx : a.eval x = .int .i64 X) (hy : a.eval y = .int .i64 2) (hK : K (a.put o.dst (.int .i64 (X.tmod 2))) w) : o.wp Try.prog a w K Q :=
  step_val (by simp only [execOp, hop, hx, hy]; go_simp) hK
theorem st_not {c : Bool} (hop : o.op = .unOp .not 4 x) (hx : a.eval x = .bool c) (hK : K (a.put o.dst (.bool (!c))) w) : o.wp Try.prog a w K Q :=
  step_val (by simp only [execOp, hop, hx]; go_simp) hK
theorem st_neq_4 {c d : Bool} (hop : o.op = .binOp .neq 4 x y 4) (hx : a.eval x = .bool c) (hy : a.eval y = .bool d) (hK : K (a.put o.dst (.bool (!(c == d)))) w) : o.wp Try.prog a w K Q :=
  step_val (by simp only [execOp, hop, hx, hy]; go_simp) hK
theorem st_or {c d : Bool} (hop : o.op = .pick x (.const (.bool true)) y) (hx : a.eval x = .bool c) (hy : c = false → a.eval y = .bool d) (hK : K (a.put o.dst (.bool (c || d))) w) : o.wp Try.prog a w K Q := by
  cases c
  · have hy' := hy rfl
    exact step_val (by simp only [execOp, hop, hx, hy']; go_simp) hK
  · exact step_val (by simp only [execOp, hop, hx]; go_simp) hK
theorem st_and {c d : Bool} (hop : o.op = .pick x y (.const (.bool false))) (hx : a.eval x = .bool c) (hy : c = true → a.eval y = .bool d) (hK : K (a.put o.dst (.bool (c && d))) w) : o.wp Try.prog a w K Q := by
  cases c
  · exact step_val (by simp only [execOp, hop, hx]; go_simp) hK
  · have hy' := hy rfl
    exact step_val (by simp only [execOp, hop, hx, hy']; go_simp) hK
theorem len23 {t : Tmp} {ao : Option Addr} {n cap : Nat} (hop : o.op = .call { callee := .builtin .len, args := #[.tmp t], argTypes := #[23] }) (hv : a.eval (.tmp t) = .slice ao n cap) (hK : K (a.put o.dst (.int .i64 n)) w) : o.wp Try.prog a w K Q := by
  have e : a.tmps[t]?.getD undef = .slice ao n cap := by simpa [Act.eval] using hv
  clear hv
  unfold Oper.wp
  simp only [execOp, hop, resolve]
  go_simp
  exact hK
theorem len22 {t : Tmp} {ao : Option Addr} {n cap : Nat} (hop : o.op = .call { callee := .builtin .len, args := #[.tmp t], argTypes := #[22] }) (hv : a.eval (.tmp t) = .slice ao n cap) (hK : K (a.put o.dst (.int .i64 n)) w) : o.wp Try.prog a w K Q := by
  have e : a.tmps[t]?.getD undef = .slice ao n cap := by simpa [Act.eval] using hv
  clear hv
  unfold Oper.wp
  simp only [execOp, hop, resolve]
  go_simp
  exact hK
theorem len36 {t : Tmp} {ao : Option Addr} {n cap : Nat} (hop : o.op = .call { callee := .builtin .len, args := #[.tmp t], argTypes := #[36] }) (hv : a.eval (.tmp t) = .slice ao n cap) (hK : K (a.put o.dst (.int .i64 n)) w) : o.wp Try.prog a w K Q := by
  have e : a.tmps[t]?.getD undef = .slice ao n cap := by simpa [Act.eval] using hv
  clear hv
  unfold Oper.wp
  simp only [execOp, hop, resolve]
  go_simp
  exact hK
theorem st_idx23 {b q n cap k : Nat} (hop : o.op = .indexAddr 23 x y) (hx : a.eval x = .slice (some ⟨b, q, none⟩) n cap) (hy : a.eval y = .int .i64 k) (hk : k < n) (hK : K (a.put o.dst (.pointer (some ⟨b, q + k * 4, none⟩))) w) : o.wp Try.prog a w K Q := by
  have h1 : (k : Int) < n := by omega
  have h2 : (0 : Int) ≤ k := by omega
  exact step_val (by simp only [execOp, hop, hx, hy]; go_simp) hK
theorem wanted_no {ops : Array Oper} {o' : Oper} {tmps : Array Value} {j : Nat} {b c : Bool} {d : Tmp} (hg : o.guard = some (j, b)) (ho : ops[j]? = some o') (hd : o'.dst = some d) (hlt : d < tmps.size) (hv : tmps.getD d undef = .bool c) (hn : c ≠ b) : Region.wanted o (yielded ops tmps) = false := by
  have h1 : tmps[d]? = some (.bool c) := by
    rw [Array.getElem?_eq_getElem hlt]
    simp only [Array.getD_eq_getD_getElem?, Array.getElem?_eq_getElem hlt, Option.getD_some] at hv
    rw [hv]
  have h2 : ((some o').bind (·.dst)).bind (tmps[·]?) = some (.bool c) := by
    show (o'.dst).bind (tmps[·]?) = some (.bool c)
    rw [hd]; exact h1
  simp only [Region.wanted, hg, yielded, ho]
  rw [h2]
  simp [hn]
theorem wanted_undef {ops : Array Oper} {o' : Oper} {tmps : Array Value} {j : Nat} {b : Bool} {d : Tmp} (hg : o.guard = some (j, b)) (ho : ops[j]? = some o') (hd : o'.dst = some d) (hlt : d < tmps.size) (hv : tmps.getD d undef = undef) : Region.wanted o (yielded ops tmps) = false := by
  have h1 : tmps[d]? = some undef := by
    rw [Array.getElem?_eq_getElem hlt]
    simp only [Array.getD_eq_getD_getElem?, Array.getElem?_eq_getElem hlt, Option.getD_some] at hv
    rw [hv]
  have h2 : ((some o').bind (·.dst)).bind (tmps[·]?) = some undef := by
    show (o'.dst).bind (tmps[·]?) = some undef
    rw [hd]; exact h1
  simp only [Region.wanted, hg, yielded, ho]
  rw [h2]
  simp [undef]
end
def layAt (f : Nat → Bool) (u : Nat → Value) : Nat → List Value → List Value
  | _, [] => []
  | k, x :: r => (if f k = true then u k else x) :: layAt f u (k + 1) r
theorem layAt_length (f : Nat → Bool) (u : Nat → Value) : ∀ (l : List Value) (k : Nat), (layAt f u k l).length = l.length := by
  intro l
  induction l with
  | nil => intro k; rfl
  | cons x l ih => intro k; simp [layAt, ih]
theorem layAt_get (f : Nat → Bool) (u : Nat → Value) : ∀ (l : List Value) (k i : Nat) (h : i < l.length), (layAt f u k l)[i]? = some (if f (k + i) = true then u (k + i) else l[i]) := by
  intro l
  induction l with
  | nil => intro k i h; simp at h
  | cons x l ih =>
    intro k i h
    cases i with
    | zero => simp [layAt]
    | succ i =>
      have := ih (k + 1) i (by simpa using h)
      simp only [layAt, List.getElem?_cons_succ, List.getElem_cons_succ]
      rw [this, show k + 1 + i = k + (i + 1) by omega]
theorem frameAt (dsts : List (Option Tmp)) (A0 : List Value) (tmps : Array Value) (hs : tmps.size = A0.length) (h : ∀ s, dsts.contains (some s) = false → tmps.getD s undef = A0.toArray.getD s undef) :
    tmps = (layAt (fun s => dsts.contains (some s)) (fun s => tmps.getD s undef) 0 A0).toArray := by
  apply Array.ext_getElem?
  intro i
  by_cases hi' : i < tmps.size
  · have hl : i < A0.length := by omega
    have h2 : ((layAt (fun s => dsts.contains (some s)) (fun s => tmps.getD s undef) 0 A0).toArray)[i]? = some (if dsts.contains (some (0 + i)) = true then tmps.getD (0 + i) undef else A0[i]) := by
      rw [List.getElem?_toArray]; exact layAt_get _ _ _ _ _ hl
    rw [h2, Array.getElem?_eq_getElem hi']
    rw [Nat.zero_add]
    cases hc : dsts.contains (some i) with
    | true => rw [if_pos rfl]; simp [hi']
    | false =>
      rw [if_neg (by simp)]
      have := h i hc
      simp [hi', hl] at this
      rw [this]
  · rw [Array.getElem?_eq_none (by omega), Array.getElem?_eq_none (by simp [layAt_length]; omega)]
theorem enter22 (args : Array Value) (w : World) : (callFunc 22 args).run Try.prog w = .ok (.enter 22 args) w := by kernel_rfl
theorem enter15 (args : Array Value) (w : World) : (callFunc 15 args).run Try.prog w = .ok (.enter 15 args) w := by kernel_rfl
theorem vals1 {a : Act} {s : Tmp} {x : Value} (h1 : a.eval (.tmp s) = x) : Array.map a.eval #[.tmp s] = #[x] := by
  simp only [List.map_toArray, List.map_cons, List.map_nil, h1]
theorem vals2 {a : Act} {s t : Tmp} {x y : Value} (h1 : a.eval (.tmp s) = x) (h2 : a.eval (.tmp t) = y) : Array.map a.eval #[.tmp s, .tmp t] = #[x, y] := by
  simp only [List.map_toArray, List.map_cons, List.map_nil, h1, h2]
end Go.Proofs.Ytikdhdikaihenaa
