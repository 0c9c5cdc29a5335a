import Derived.Test.YtikdhdikaihenaaFine
import Derived.Deep.Cut
import Derived.Deep.CutRange
import Derived.Deep.CutBlock
namespace Go.Proofs.Ytikdhdikaihenaa
open Go.RowKit Go.Sort

theorem named_any {y n : Int} {r : Bool} (h : (1 ≤ y ∧ y ≤ 6 ∧ 0 ≤ n ∧ n ≤ 2047) ↔ r = true) (w : World) : Calls Try.prog 22 #[.agg #[.int .u8 y, .int .i64 n]] w fun e w' => e = .returned (.bool r) ∧ Below w.heap.size w w' := by
  cases r
  · exact named_bad y n _ fun h' => (by cases h.1 h')
  · have := h.2 rfl
    exact named_ok y n _ this.1 this.2.1 this.2.2.1 this.2.2.2

theorem id_new (w : World) (o : Obj) (y n : Int) : ((w.alloc o).alloc (.cells #[.int .u8 y, .int .i64 n] 30)).cell? ⟨w.heap.size + 1, 0, none⟩ = some (.int .u8 y) ∧ ((w.alloc o).alloc (.cells #[.int .u8 y, .int .i64 n] 30)).cell? ⟨w.heap.size + 1, 1, none⟩ = some (.int .i64 n) := by
  refine ⟨?_, ?_⟩ <;> go_simp
def psi3 (yy : Int) (nn : Int) (r : Bool) (K3 : Nat) : Nat → Value → World → Prop
  | 0, v, _ => v = .agg #[.int .u8 yy, .int .i64 nn]
  | 1, v, _ => v = .bool r
  | 2, v, _ => v = .pointer (some ⟨K3, 0, none⟩)
  | 3, v, _ => v = .int .u8 yy
  | 4, v, _ => v = .bool (decide (1 ≤ yy))
  | 5, v, _ => v = .bool (decide (1 ≤ yy))
  | 6, v, _ => ((decide (1 ≤ yy)) = true → v = .pointer (some ⟨K3, 0, none⟩)) ∧ ((decide (1 ≤ yy)) = false → v = undef)
  | 7, v, _ => ((decide (1 ≤ yy)) = true → v = .int .u8 yy) ∧ ((decide (1 ≤ yy)) = false → v = undef)
  | 8, v, _ => ((decide (1 ≤ yy)) = true → v = .bool (decide (yy ≤ 6))) ∧ ((decide (1 ≤ yy)) = false → v = undef)
  | 9, v, _ => v = .bool ((decide (1 ≤ yy)) && (decide (yy ≤ 6)))
  | 10, v, _ => v = .bool ((decide (1 ≤ yy)) && (decide (yy ≤ 6)))
  | 11, v, _ => (((decide (1 ≤ yy)) && (decide (yy ≤ 6))) = true → v = .pointer (some ⟨K3, 1, none⟩)) ∧ (((decide (1 ≤ yy)) && (decide (yy ≤ 6))) = false → v = undef)
  | 12, v, _ => (((decide (1 ≤ yy)) && (decide (yy ≤ 6))) = true → v = .int .i64 nn) ∧ (((decide (1 ≤ yy)) && (decide (yy ≤ 6))) = false → v = undef)
  | 13, v, _ => (((decide (1 ≤ yy)) && (decide (yy ≤ 6))) = true → v = .bool (decide (0 ≤ nn))) ∧ (((decide (1 ≤ yy)) && (decide (yy ≤ 6))) = false → v = undef)
  | 14, v, _ => v = .bool (((decide (1 ≤ yy)) && (decide (yy ≤ 6))) && (decide (0 ≤ nn)))
  | 15, v, _ => v = .bool (((decide (1 ≤ yy)) && (decide (yy ≤ 6))) && (decide (0 ≤ nn)))
  | 16, v, _ => ((((decide (1 ≤ yy)) && (decide (yy ≤ 6))) && (decide (0 ≤ nn))) = true → v = .pointer (some ⟨K3, 1, none⟩)) ∧ ((((decide (1 ≤ yy)) && (decide (yy ≤ 6))) && (decide (0 ≤ nn))) = false → v = undef)
  | 17, v, _ => ((((decide (1 ≤ yy)) && (decide (yy ≤ 6))) && (decide (0 ≤ nn))) = true → v = .int .i64 nn) ∧ ((((decide (1 ≤ yy)) && (decide (yy ≤ 6))) && (decide (0 ≤ nn))) = false → v = undef)
  | 18, v, _ => ((((decide (1 ≤ yy)) && (decide (yy ≤ 6))) && (decide (0 ≤ nn))) = true → v = .bool (decide (nn < 2048))) ∧ ((((decide (1 ≤ yy)) && (decide (yy ≤ 6))) && (decide (0 ≤ nn))) = false → v = undef)
  | 19, v, _ => v = .bool ((((decide (1 ≤ yy)) && (decide (yy ≤ 6))) && (decide (0 ≤ nn))) && (decide (nn < 2048)))
  | 20, v, _ => v = .bool (!(r == ((((decide (1 ≤ yy)) && (decide (yy ≤ 6))) && (decide (0 ≤ nn))) && (decide (nn < 2048)))))
  | _, _, _ => True
theorem psi3_stab (yy : Int) (nn : Int) (r : Bool) (K3 : Nat) (i : Nat) (v : Value) (w w' : World) (h : psi3 yy nn r K3 i v w) (_hb : Below w.heap.size w w') : psi3 yy nn r K3 i v w' := by
  match i, h with
  | 0, h => exact h
  | 1, h => exact h
  | 2, h => exact h
  | 3, h => exact h
  | 4, h => exact h
  | 5, h => exact h
  | 6, h => exact h
  | 7, h => exact h
  | 8, h => exact h
  | 9, h => exact h
  | 10, h => exact h
  | 11, h => exact h
  | 12, h => exact h
  | 13, h => exact h
  | 14, h => exact h
  | 15, h => exact h
  | 16, h => exact h
  | 17, h => exact h
  | 18, h => exact h
  | 19, h => exact h
  | 20, h => exact h
  | i + 21, _ => exact trivial
def psi5 (c : Int) (K2 : Nat) : Nat → Value → World → Prop
  | 0, v, _ => v = .pointer (some ⟨K2, 2, none⟩)
  | 1, v, _ => v = .int .i64 c
  | 2, v, _ => v = .bool (decide (0 ≤ c))
  | 3, v, _ => v = .bool (decide (0 ≤ c))
  | 4, v, _ => ((decide (0 ≤ c)) = true → v = .pointer (some ⟨K2, 2, none⟩)) ∧ ((decide (0 ≤ c)) = false → v = undef)
  | 5, v, _ => ((decide (0 ≤ c)) = true → v = .int .i64 c) ∧ ((decide (0 ≤ c)) = false → v = undef)
  | 6, v, _ => ((decide (0 ≤ c)) = true → v = .bool (decide (c ≤ 2048))) ∧ ((decide (0 ≤ c)) = false → v = undef)
  | 7, v, _ => v = .bool ((decide (0 ≤ c)) && (decide (c ≤ 2048)))
  | 8, v, _ => v = .bool ((decide (0 ≤ c)) && (decide (c ≤ 2048)))
  | _, _, _ => True
theorem psi5_stab (c : Int) (K2 : Nat) (i : Nat) (v : Value) (w w' : World) (h : psi5 c K2 i v w) (_hb : Below w.heap.size w w') : psi5 c K2 i v w' := by
  match i, h with
  | 0, h => exact h
  | 1, h => exact h
  | 2, h => exact h
  | 3, h => exact h
  | 4, h => exact h
  | 5, h => exact h
  | 6, h => exact h
  | 7, h => exact h
  | 8, h => exact h
  | i + 9, _ => exact trivial
def psi7 (p : Int) (gc : Bool) (K2 : Nat) : Nat → Value → World → Prop
  | 0, v, _ => v = .bool gc
  | 1, v, _ => v = .bool gc
  | 2, v, _ => (gc = true → v = .pointer (some ⟨K2, 1, none⟩)) ∧ (gc = false → v = undef)
  | 3, v, _ => (gc = true → v = .int .i64 p) ∧ (gc = false → v = undef)
  | 4, v, _ => (gc = true → v = .bool (decide ((-13) ≤ p))) ∧ (gc = false → v = undef)
  | 5, v, _ => v = .bool (gc && (decide ((-13) ≤ p)))
  | 6, v, _ => v = .bool (gc && (decide ((-13) ≤ p)))
  | 7, v, _ => ((gc && (decide ((-13) ≤ p))) = true → v = .pointer (some ⟨K2, 1, none⟩)) ∧ ((gc && (decide ((-13) ≤ p))) = false → v = undef)
  | 8, v, _ => ((gc && (decide ((-13) ≤ p))) = true → v = .int .i64 p) ∧ ((gc && (decide ((-13) ≤ p))) = false → v = undef)
  | 9, v, _ => ((gc && (decide ((-13) ≤ p))) = true → v = .bool (decide (p ≤ 179))) ∧ ((gc && (decide ((-13) ≤ p))) = false → v = undef)
  | 10, v, _ => v = .bool ((gc && (decide ((-13) ≤ p))) && (decide (p ≤ 179)))
  | 11, v, _ => v = .bool ((gc && (decide ((-13) ≤ p))) && (decide (p ≤ 179)))
  | 12, v, _ => (((gc && (decide ((-13) ≤ p))) && (decide (p ≤ 179))) = true → v = .pointer (some ⟨K2, 1, none⟩)) ∧ (((gc && (decide ((-13) ≤ p))) && (decide (p ≤ 179))) = false → v = undef)
  | 13, v, _ => (((gc && (decide ((-13) ≤ p))) && (decide (p ≤ 179))) = true → v = .int .i64 p) ∧ (((gc && (decide ((-13) ≤ p))) && (decide (p ≤ 179))) = false → v = undef)
  | 14, v, _ => (((gc && (decide ((-13) ≤ p))) && (decide (p ≤ 179))) = true → v = .int .i64 (Int.tmod p 2)) ∧ (((gc && (decide ((-13) ≤ p))) && (decide (p ≤ 179))) = false → v = undef)
  | 15, v, _ => (((gc && (decide ((-13) ≤ p))) && (decide (p ≤ 179))) = true → v = .bool ((Int.tmod p 2) != 0)) ∧ (((gc && (decide ((-13) ≤ p))) && (decide (p ≤ 179))) = false → v = undef)
  | 16, v, _ => v = .bool (((gc && (decide ((-13) ≤ p))) && (decide (p ≤ 179))) && ((Int.tmod p 2) != 0))
  | 17, v, _ => v = .bool (((gc && (decide ((-13) ≤ p))) && (decide (p ≤ 179))) && ((Int.tmod p 2) != 0))
  | _, _, _ => True
theorem psi7_stab (p : Int) (gc : Bool) (K2 : Nat) (i : Nat) (v : Value) (w w' : World) (h : psi7 p gc K2 i v w) (_hb : Below w.heap.size w w') : psi7 p gc K2 i v w' := by
  match i, h with
  | 0, h => exact h
  | 1, h => exact h
  | 2, h => exact h
  | 3, h => exact h
  | 4, h => exact h
  | 5, h => exact h
  | 6, h => exact h
  | 7, h => exact h
  | 8, h => exact h
  | 9, h => exact h
  | 10, h => exact h
  | 11, h => exact h
  | 12, h => exact h
  | 13, h => exact h
  | 14, h => exact h
  | 15, h => exact h
  | 16, h => exact h
  | 17, h => exact h
  | i + 18, _ => exact trivial
def psi8 (p : Int) (nw : Bool) (ao : Option Addr) (n : Nat) (cap : Nat) (gc : Bool) (K2 : Nat) : Nat → Value → World → Prop
  | 0, v, _ => v = .bool gc
  | 1, v, _ => v = .bool gc
  | 2, v, _ => (gc = true → v = .pointer (some ⟨K2, 1, none⟩)) ∧ (gc = false → v = undef)
  | 3, v, _ => (gc = true → v = .int .i64 p) ∧ (gc = false → v = undef)
  | 4, v, _ => (gc = true → v = .bool (p == 0)) ∧ (gc = false → v = undef)
  | 5, v, _ => v = .bool (gc && (p == 0))
  | 6, v, _ => v = .bool (gc && (p == 0))
  | 7, v, _ => ((gc && (p == 0)) = true → v = .pointer (some ⟨K2, 3, none⟩)) ∧ ((gc && (p == 0)) = false → v = undef)
  | 8, v, _ => ((gc && (p == 0)) = true → v = .bool nw) ∧ ((gc && (p == 0)) = false → v = undef)
  | 9, v, _ => ((gc && (p == 0)) = true → v = .bool (!nw)) ∧ ((gc && (p == 0)) = false → v = undef)
  | 10, v, _ => v = .bool ((gc && (p == 0)) && (!nw))
  | 11, v, _ => v = .bool ((gc && (p == 0)) && (!nw))
  | 12, v, _ => (((gc && (p == 0)) && (!nw)) = true → v = .pointer (some ⟨K2, 4, none⟩)) ∧ (((gc && (p == 0)) && (!nw)) = false → v = undef)
  | 13, v, _ => (((gc && (p == 0)) && (!nw)) = true → v = .slice ao n cap) ∧ (((gc && (p == 0)) && (!nw)) = false → v = undef)
  | 14, v, _ => (((gc && (p == 0)) && (!nw)) = true → v = .int .i64 (n : Int)) ∧ (((gc && (p == 0)) && (!nw)) = false → v = undef)
  | 15, v, _ => (((gc && (p == 0)) && (!nw)) = true → v = .bool ((n : Int) == 0)) ∧ (((gc && (p == 0)) && (!nw)) = false → v = undef)
  | 16, v, _ => v = .bool (((gc && (p == 0)) && (!nw)) && ((n : Int) == 0))
  | 17, v, _ => v = .bool (((gc && (p == 0)) && (!nw)) && ((n : Int) == 0))
  | _, _, _ => True
theorem psi8_stab (p : Int) (nw : Bool) (ao : Option Addr) (n : Nat) (cap : Nat) (gc : Bool) (K2 : Nat) (i : Nat) (v : Value) (w w' : World) (h : psi8 p nw ao n cap gc K2 i v w) (_hb : Below w.heap.size w w') : psi8 p nw ao n cap gc K2 i v w' := by
  match i, h with
  | 0, h => exact h
  | 1, h => exact h
  | 2, h => exact h
  | 3, h => exact h
  | 4, h => exact h
  | 5, h => exact h
  | 6, h => exact h
  | 7, h => exact h
  | 8, h => exact h
  | 9, h => exact h
  | 10, h => exact h
  | 11, h => exact h
  | 12, h => exact h
  | 13, h => exact h
  | 14, h => exact h
  | 15, h => exact h
  | 16, h => exact h
  | 17, h => exact h
  | i + 18, _ => exact trivial
def psi13 (y : Int) (m : Int) (d : Int) (y2 : Int) (m2 : Int) (d2 : Int) (cv : Int) (f : Bool) (f2 : Bool) (bb : Nat) (o : Nat) (n : Nat) (cap : Nat) (k : Nat) (j : Nat) (K2 : Nat) (K7 : Nat) : Nat → Value → World → Prop
  | 0, v, _ => v = .pointer (some ⟨K7, 0, none⟩)
  | 1, v, _ => v = .pointer (some ⟨K7, 0, none⟩)
  | 2, v, _ => v = .int .u8 y
  | 3, v, _ => v = .bool (decide (y < 1))
  | 4, v, _ => v = .bool (decide (y < 1))
  | 5, v, _ => ((!(decide (y < 1))) = true → v = .pointer (some ⟨K7, 0, none⟩)) ∧ ((!(decide (y < 1))) = false → v = undef)
  | 6, v, _ => ((!(decide (y < 1))) = true → v = .pointer (some ⟨K7, 0, none⟩)) ∧ ((!(decide (y < 1))) = false → v = undef)
  | 7, v, _ => ((!(decide (y < 1))) = true → v = .int .u8 y) ∧ ((!(decide (y < 1))) = false → v = undef)
  | 8, v, _ => ((!(decide (y < 1))) = true → v = .bool (decide (6 < y))) ∧ ((!(decide (y < 1))) = false → v = undef)
  | 9, v, _ => v = .bool ((decide (y < 1)) || (decide (6 < y)))
  | 10, v, _ => v = .bool ((decide (y < 1)) || (decide (6 < y)))
  | 11, v, _ => ((!((decide (y < 1)) || (decide (6 < y)))) = true → v = .pointer (some ⟨K7, 0, none⟩)) ∧ ((!((decide (y < 1)) || (decide (6 < y)))) = false → v = undef)
  | 12, v, _ => ((!((decide (y < 1)) || (decide (6 < y)))) = true → v = .pointer (some ⟨K7, 1, none⟩)) ∧ ((!((decide (y < 1)) || (decide (6 < y)))) = false → v = undef)
  | 13, v, _ => ((!((decide (y < 1)) || (decide (6 < y)))) = true → v = .int .i64 m) ∧ ((!((decide (y < 1)) || (decide (6 < y)))) = false → v = undef)
  | 14, v, _ => ((!((decide (y < 1)) || (decide (6 < y)))) = true → v = .bool (decide (m < 0))) ∧ ((!((decide (y < 1)) || (decide (6 < y)))) = false → v = undef)
  | 15, v, _ => v = .bool (((decide (y < 1)) || (decide (6 < y))) || (decide (m < 0)))
  | 16, v, _ => v = .bool (((decide (y < 1)) || (decide (6 < y))) || (decide (m < 0)))
  | 17, v, _ => ((!(((decide (y < 1)) || (decide (6 < y))) || (decide (m < 0)))) = true → v = .pointer (some ⟨K7, 0, none⟩)) ∧ ((!(((decide (y < 1)) || (decide (6 < y))) || (decide (m < 0)))) = false → v = undef)
  | 18, v, _ => ((!(((decide (y < 1)) || (decide (6 < y))) || (decide (m < 0)))) = true → v = .pointer (some ⟨K7, 1, none⟩)) ∧ ((!(((decide (y < 1)) || (decide (6 < y))) || (decide (m < 0)))) = false → v = undef)
  | 19, v, _ => ((!(((decide (y < 1)) || (decide (6 < y))) || (decide (m < 0)))) = true → v = .int .i64 m) ∧ ((!(((decide (y < 1)) || (decide (6 < y))) || (decide (m < 0)))) = false → v = undef)
  | 20, v, _ => ((!(((decide (y < 1)) || (decide (6 < y))) || (decide (m < 0)))) = true → v = .bool (decide (2047 < m))) ∧ ((!(((decide (y < 1)) || (decide (6 < y))) || (decide (m < 0)))) = false → v = undef)
  | 21, v, _ => v = .bool ((((decide (y < 1)) || (decide (6 < y))) || (decide (m < 0))) || (decide (2047 < m)))
  | 22, v, _ => v = .bool ((((decide (y < 1)) || (decide (6 < y))) || (decide (m < 0))) || (decide (2047 < m)))
  | 23, v, _ => ((!((((decide (y < 1)) || (decide (6 < y))) || (decide (m < 0))) || (decide (2047 < m)))) = true → v = .pointer (some ⟨K7, 3, none⟩)) ∧ ((!((((decide (y < 1)) || (decide (6 < y))) || (decide (m < 0))) || (decide (2047 < m)))) = false → v = undef)
  | 24, v, _ => ((!((((decide (y < 1)) || (decide (6 < y))) || (decide (m < 0))) || (decide (2047 < m)))) = true → v = .int .u8 d) ∧ ((!((((decide (y < 1)) || (decide (6 < y))) || (decide (m < 0))) || (decide (2047 < m)))) = false → v = undef)
  | 25, v, _ => ((!((((decide (y < 1)) || (decide (6 < y))) || (decide (m < 0))) || (decide (2047 < m)))) = true → v = .bool (decide (1 < d))) ∧ ((!((((decide (y < 1)) || (decide (6 < y))) || (decide (m < 0))) || (decide (2047 < m)))) = false → v = undef)
  | 26, v, _ => v = .bool (((((decide (y < 1)) || (decide (6 < y))) || (decide (m < 0))) || (decide (2047 < m))) || (decide (1 < d)))
  | 27, v, _ => v = .bool (((((decide (y < 1)) || (decide (6 < y))) || (decide (m < 0))) || (decide (2047 < m))) || (decide (1 < d)))
  | 28, v, _ => ((!(((((decide (y < 1)) || (decide (6 < y))) || (decide (m < 0))) || (decide (2047 < m))) || (decide (1 < d)))) = true → v = .int .i64 (k : Int)) ∧ ((!(((((decide (y < 1)) || (decide (6 < y))) || (decide (m < 0))) || (decide (2047 < m))) || (decide (1 < d)))) = false → v = undef)
  | 29, v, _ => ((!(((((decide (y < 1)) || (decide (6 < y))) || (decide (m < 0))) || (decide (2047 < m))) || (decide (1 < d)))) = true → v = .bool (decide (0 < (k : Int)))) ∧ ((!(((((decide (y < 1)) || (decide (6 < y))) || (decide (m < 0))) || (decide (2047 < m))) || (decide (1 < d)))) = false → v = undef)
  | 30, v, _ => ((!(((((decide (y < 1)) || (decide (6 < y))) || (decide (m < 0))) || (decide (2047 < m))) || (decide (1 < d)))) = true → v = .bool (decide (0 < (k : Int)))) ∧ ((!(((((decide (y < 1)) || (decide (6 < y))) || (decide (m < 0))) || (decide (2047 < m))) || (decide (1 < d)))) = false → v = undef)
  | 31, v, _ => (((!(((((decide (y < 1)) || (decide (6 < y))) || (decide (m < 0))) || (decide (2047 < m))) || (decide (1 < d)))) && (decide (0 < (k : Int)))) = true → v = .pointer (some ⟨K2, 4, none⟩)) ∧ (((!(((((decide (y < 1)) || (decide (6 < y))) || (decide (m < 0))) || (decide (2047 < m))) || (decide (1 < d)))) && (decide (0 < (k : Int)))) = false → v = undef)
  | 32, v, _ => (((!(((((decide (y < 1)) || (decide (6 < y))) || (decide (m < 0))) || (decide (2047 < m))) || (decide (1 < d)))) && (decide (0 < (k : Int)))) = true → v = .slice (some ⟨bb, o, none⟩) n cap) ∧ (((!(((((decide (y < 1)) || (decide (6 < y))) || (decide (m < 0))) || (decide (2047 < m))) || (decide (1 < d)))) && (decide (0 < (k : Int)))) = false → v = undef)
  | 33, v, _ => (((!(((((decide (y < 1)) || (decide (6 < y))) || (decide (m < 0))) || (decide (2047 < m))) || (decide (1 < d)))) && (decide (0 < (k : Int)))) = true → v = .int .i64 (k : Int)) ∧ (((!(((((decide (y < 1)) || (decide (6 < y))) || (decide (m < 0))) || (decide (2047 < m))) || (decide (1 < d)))) && (decide (0 < (k : Int)))) = false → v = undef)
  | 34, v, _ => (((!(((((decide (y < 1)) || (decide (6 < y))) || (decide (m < 0))) || (decide (2047 < m))) || (decide (1 < d)))) && (decide (0 < (k : Int)))) = true → v = .int .i64 (j : Int)) ∧ (((!(((((decide (y < 1)) || (decide (6 < y))) || (decide (m < 0))) || (decide (2047 < m))) || (decide (1 < d)))) && (decide (0 < (k : Int)))) = false → v = undef)
  | 35, v, _ => (((!(((((decide (y < 1)) || (decide (6 < y))) || (decide (m < 0))) || (decide (2047 < m))) || (decide (1 < d)))) && (decide (0 < (k : Int)))) = true → v = .pointer (some ⟨bb, o + j * 4, none⟩)) ∧ (((!(((((decide (y < 1)) || (decide (6 < y))) || (decide (m < 0))) || (decide (2047 < m))) || (decide (1 < d)))) && (decide (0 < (k : Int)))) = false → v = undef)
  | 36, v, _ => (((!(((((decide (y < 1)) || (decide (6 < y))) || (decide (m < 0))) || (decide (2047 < m))) || (decide (1 < d)))) && (decide (0 < (k : Int)))) = true → v = (Ps.v ⟨y2, m2, f2, d2⟩)) ∧ (((!(((((decide (y < 1)) || (decide (6 < y))) || (decide (m < 0))) || (decide (2047 < m))) || (decide (1 < d)))) && (decide (0 < (k : Int)))) = false → v = undef)
  | 37, v, _ => (((!(((((decide (y < 1)) || (decide (6 < y))) || (decide (m < 0))) || (decide (2047 < m))) || (decide (1 < d)))) && (decide (0 < (k : Int)))) = true → v = (Ps.v ⟨y, m, f, d⟩)) ∧ (((!(((((decide (y < 1)) || (decide (6 < y))) || (decide (m < 0))) || (decide (2047 < m))) || (decide (1 < d)))) && (decide (0 < (k : Int)))) = false → v = undef)
  | 38, v, _ => (((!(((((decide (y < 1)) || (decide (6 < y))) || (decide (m < 0))) || (decide (2047 < m))) || (decide (1 < d)))) && (decide (0 < (k : Int)))) = true → v = .int .i64 cv) ∧ (((!(((((decide (y < 1)) || (decide (6 < y))) || (decide (m < 0))) || (decide (2047 < m))) || (decide (1 < d)))) && (decide (0 < (k : Int)))) = false → v = undef)
  | 39, v, _ => (((!(((((decide (y < 1)) || (decide (6 < y))) || (decide (m < 0))) || (decide (2047 < m))) || (decide (1 < d)))) && (decide (0 < (k : Int)))) = true → v = .bool (cv == 1)) ∧ (((!(((((decide (y < 1)) || (decide (6 < y))) || (decide (m < 0))) || (decide (2047 < m))) || (decide (1 < d)))) && (decide (0 < (k : Int)))) = false → v = undef)
  | 40, v, _ => ((!(((((decide (y < 1)) || (decide (6 < y))) || (decide (m < 0))) || (decide (2047 < m))) || (decide (1 < d)))) = true → v = .bool ((decide (0 < (k : Int))) && (cv == 1))) ∧ ((!(((((decide (y < 1)) || (decide (6 < y))) || (decide (m < 0))) || (decide (2047 < m))) || (decide (1 < d)))) = false → v = undef)
  | 41, v, _ => v = .bool ((((((decide (y < 1)) || (decide (6 < y))) || (decide (m < 0))) || (decide (2047 < m))) || (decide (1 < d))) || ((decide (0 < (k : Int))) && (cv == 1)))
  | _, _, _ => True
theorem psi13_stab (y : Int) (m : Int) (d : Int) (y2 : Int) (m2 : Int) (d2 : Int) (cv : Int) (f : Bool) (f2 : Bool) (bb : Nat) (o : Nat) (n : Nat) (cap : Nat) (k : Nat) (j : Nat) (K2 : Nat) (K7 : Nat) (i : Nat) (v : Value) (w w' : World) (h : psi13 y m d y2 m2 d2 cv f f2 bb o n cap k j K2 K7 i v w) (_hb : Below w.heap.size w w') : psi13 y m d y2 m2 d2 cv f f2 bb o n cap k j K2 K7 i v w' := by
  match i, h with
  | 0, h => exact h
  | 1, h => exact h
  | 2, h => exact h
  | 3, h => exact h
  | 4, h => exact h
  | 5, h => exact h
  | 6, h => exact h
  | 7, h => exact h
  | 8, h => exact h
  | 9, h => exact h
  | 10, h => exact h
  | 11, h => exact h
  | 12, h => exact h
  | 13, h => exact h
  | 14, h => exact h
  | 15, h => exact h
  | 16, h => exact h
  | 17, h => exact h
  | 18, h => exact h
  | 19, h => exact h
  | 20, h => exact h
  | 21, h => exact h
  | 22, h => exact h
  | 23, h => exact h
  | 24, h => exact h
  | 25, h => exact h
  | 26, h => exact h
  | 27, h => exact h
  | 28, h => exact h
  | 29, h => exact h
  | 30, h => exact h
  | 31, h => exact h
  | 32, h => exact h
  | 33, h => exact h
  | 34, h => exact h
  | 35, h => exact h
  | 36, h => exact h
  | 37, h => exact h
  | 38, h => exact h
  | 39, h => exact h
  | 40, h => exact h
  | 41, h => exact h
  | i + 42, _ => exact trivial

set_option maxRecDepth 100000 in
set_option maxHeartbeats 4000000 in
theorem check_core (i : Bool) (p c : Int) (nw : Bool) (ao : Option Addr) (ps : List Ps) (n cap : Nat) (yy nn : Int) (w : World) (hn : n = ps.length) (hm : n ≤ 20) (hl : Lie w ao ps) (hp : Pos ps) :
    Calls Try.prog 7 #[.agg #[.bool i, .int .i64 p, .int .i64 c, .bool nw, .slice ao n cap], .agg #[.int .u8 yy, .int .i64 nn]] w fun e w' => e = .returned (.bool true) ∧ Below w.heap.size w w' := by
  have HN := Lib.hid hn
  have HL := Lib.hid hl
  have HP := Lib.hid hp
  clear hn hl hp
  have g1 : ¬ ((20 : Int) < n) := by omega
  go_enter Try.func7, Try.ntmps7
  go_wp2_with fail
  obtain ⟨W0, hW0⟩ : ∃ W0 : World, W0 = (w.alloc (.cells #[.bool i, .int .i64 p, .int .i64 c, .bool nw, .slice ao n cap] 38)).alloc (.cells #[.int .u8 yy, .int .i64 nn] 30) := ⟨_, rfl⟩
  rw [← hW0]
  have F0 : Hid (Five W0 w.heap.size (.bool i) (.int .i64 p) (.int .i64 c) (.bool nw) (.slice ao n cap)) := by rw [hW0]; exact (five1' w i p c nw (.slice ao n cap)).below (below1 _ _) (by simp)
  have hid := id_new w (.cells #[.bool i, .int .i64 p, .int .i64 c, .bool nw, .slice ao n cap] 38) yy nn
  rw [← hW0] at hid
  have hb0 : Below w.heap.size w W0 := by rw [hW0]; exact below2 _ _ _
  have hzz : w.heap.size + 2 ≤ W0.heap.size := by rw [hW0]; simp
  have HID := Lib.hid hid
  clear hW0 hid
  have hk2 : w.heap.size < W0.heap.size := by omega
  have hk3 : w.heap.size + 1 < W0.heap.size := by omega
  obtain ⟨r, hr⟩ : ∃ r : Bool, (1 ≤ yy ∧ yy ≤ 6 ∧ 0 ≤ nn ∧ nn ≤ 2047) ↔ r = true := ⟨decide (1 ≤ yy ∧ yy ≤ 6 ∧ 0 ≤ nn ∧ nn ≤ 2047), by simp⟩
  have HR := Lib.hid hr
  have HQ : Hid ((!(r == (((decide (1 ≤ yy) && decide (yy ≤ 6)) && decide (0 ≤ nn)) && decide (nn < 2048)))) = false) := by
    have e : (((decide (1 ≤ yy) && decide (yy ≤ 6)) && decide (0 ≤ nn)) && decide (nn < 2048)) = r := by
      cases r
      · have h : ¬ (1 ≤ yy ∧ yy ≤ 6 ∧ 0 ≤ nn ∧ nn ≤ 2047) := fun h => by cases hr.1 h
        simp only [Bool.and_eq_false_iff, decide_eq_false_iff_not]
        by_cases h1 : 1 ≤ yy
        · by_cases h2 : yy ≤ 6
          · by_cases h3 : 0 ≤ nn
            · have : ¬ nn ≤ 2047 := fun h4 => h ⟨h1, h2, h3, h4⟩
              exact .inr (by omega)
            · exact .inl (.inr h3)
          · exact .inl (.inl (.inr h2))
        · exact .inl (.inl (.inl h1))
      · obtain ⟨h1, h2, h3, h4⟩ := hr.2 rfl
        simp only [Bool.and_eq_true, decide_eq_true_eq]
        omega
    refine Lib.hid ?_
    rw [e]; simp
  clear hr
  refine rgP [some 26, some 27, some 28, some 29, some 30, some 31, some 32, some 33, some 34, some 35, some 36, some 37, some 38, some 39, some 40, some 41, some 42, some 43, some 44, some 45, some 46] (psi3 yy nn r (w.heap.size + 1)) (fun w' => Below W0.heap.size W0 w') (by kernel_rfl) (by kernel_rfl) (by kernel_rfl) (psi3_stab yy nn r (w.heap.size + 1)) (fun _ _ h hb => h.trans (hb.mono h.size)) (fun i o ho fa w1 hs hout hI hdep hold => ?_) ?_ (Below.refl _ _).drew
  · have hlt := (Array.getElem?_eq_some_iff.1 ho).1
    have i0 := (hI.cell (p := ⟨w.heap.size + 1, 0, none⟩) hk3).trans HID.out.1
    have i1 := (hI.cell (p := ⟨w.heap.size + 1, 1, none⟩) hk3).trans HID.out.2
    match i, ho with
    | 0, ho =>
      obtain rfl := Option.some.inj ho
      refine .inl ⟨rfl, fun K hK => ?_⟩
      exact ld30 rfl ((hout 3 rfl).trans rfl) i0 i1 (hK _ _ (Below.refl _ _) rfl)
    | 1, ho =>
      obtain rfl := Option.some.inj ho
      have q0 : fa.tmps.getD 26 undef = .agg #[.int .u8 yy, .int .i64 nn] := hdep ⟨0, .data⟩ (by simp) rfl _ 26 rfl rfl
      refine .inl ⟨rfl, fun K hK => ?_⟩
      exact step_calls rfl enter22 (vs := #[.agg #[.int .u8 yy, .int .i64 nn]]) (vals1 q0) ((named_any HR.out _).mono fun e w' hh => by
        obtain ⟨rfl, hb⟩ := hh
        exact ⟨_, rfl, hK _ _ hb rfl⟩)
    | 2, ho =>
      obtain rfl := Option.some.inj ho
      refine .inl ⟨rfl, fun K hK => ?_⟩
      exact fa30_0 rfl ((hout 3 rfl).trans rfl) (hK _ _ (Below.refl _ _) rfl)
    | 3, ho =>
      obtain rfl := Option.some.inj ho
      have q2 : fa.tmps.getD 28 undef = .pointer (some ⟨(w.heap.size + 1), 0, none⟩) := hdep ⟨2, .data⟩ (by simp) rfl _ 28 rfl rfl
      refine .inl ⟨rfl, fun K hK => ?_⟩
      exact ld5 rfl q2 i0 (hK _ _ (Below.refl _ _) rfl)
    | 4, ho =>
      obtain rfl := Option.some.inj ho
      have q3 : fa.tmps.getD 29 undef = .int .u8 yy := hdep ⟨3, .data⟩ (by simp) rfl _ 29 rfl rfl
      refine .inl ⟨rfl, fun K hK => ?_⟩
      exact st_geq_5 rfl q3 rfl (hK _ _ (Below.refl _ _) rfl)
    | 5, ho =>
      obtain rfl := Option.some.inj ho
      have q4 : fa.tmps.getD 30 undef = .bool (decide (1 ≤ yy)) := hdep ⟨4, .data⟩ (by simp) rfl _ 30 rfl rfl
      refine .inl ⟨rfl, fun K hK => ?_⟩
      exact st_move rfl q4 (hK _ _ (Below.refl _ _) rfl)
    | 6, ho =>
      obtain rfl := Option.some.inj ho
      have qg : fa.tmps.getD 31 undef = .bool (decide (1 ≤ yy)) := hdep ⟨5, .guard⟩ (by simp) rfl _ 31 rfl rfl
      rcases Bool.eq_false_or_eq_true (decide (1 ≤ yy)) with hB | hB
      rotate_left
      · exact .inr ⟨wanted_no (j := 5) (d := 31) rfl rfl rfl (by rw [hs]; exact of_decide_eq_true (by kernel_rfl)) (qg.trans (congrArg Value.bool hB)) (by decide), fun h => absurd (show (decide (1 ≤ yy)) = true from h) (by rw [show (decide (1 ≤ yy)) = false from by rw [hB]; try rfl]; simp), fun _ => rfl⟩
      have hC : (decide (1 ≤ yy)) = true := by rw [hB]; try rfl
      refine .inl ⟨wanted_of (j := 5) (d := 31) rfl rfl rfl (by rw [hs]; exact of_decide_eq_true (by kernel_rfl)) (qg.trans (congrArg Value.bool hB)), fun K hK => ?_⟩
      exact fa30_0 rfl ((hout 3 rfl).trans rfl) (hK _ _ (Below.refl _ _) ⟨fun _ => rfl, fun h => absurd (hC.symm.trans h) (by decide)⟩)
    | 7, ho =>
      obtain rfl := Option.some.inj ho
      have q6 : ((decide (1 ≤ yy)) = true → fa.tmps.getD 32 undef = .pointer (some ⟨(w.heap.size + 1), 0, none⟩)) ∧ ((decide (1 ≤ yy)) = false → fa.tmps.getD 32 undef = undef) := hdep ⟨6, .data⟩ (by simp) rfl _ 32 rfl rfl
      have qg : fa.tmps.getD 31 undef = .bool (decide (1 ≤ yy)) := hdep ⟨5, .guard⟩ (by simp) rfl _ 31 rfl rfl
      rcases Bool.eq_false_or_eq_true (decide (1 ≤ yy)) with hB | hB
      rotate_left
      · exact .inr ⟨wanted_no (j := 5) (d := 31) rfl rfl rfl (by rw [hs]; exact of_decide_eq_true (by kernel_rfl)) (qg.trans (congrArg Value.bool hB)) (by decide), fun h => absurd (show (decide (1 ≤ yy)) = true from h) (by rw [show (decide (1 ≤ yy)) = false from by rw [hB]; try rfl]; simp), fun _ => rfl⟩
      have hC : (decide (1 ≤ yy)) = true := by rw [hB]; try rfl
      refine .inl ⟨wanted_of (j := 5) (d := 31) rfl rfl rfl (by rw [hs]; exact of_decide_eq_true (by kernel_rfl)) (qg.trans (congrArg Value.bool hB)), fun K hK => ?_⟩
      exact ld5 rfl (q6.1 hC) i0 (hK _ _ (Below.refl _ _) ⟨fun _ => rfl, fun h => absurd (hC.symm.trans h) (by decide)⟩)
    | 8, ho =>
      obtain rfl := Option.some.inj ho
      have q7 : ((decide (1 ≤ yy)) = true → fa.tmps.getD 33 undef = .int .u8 yy) ∧ ((decide (1 ≤ yy)) = false → fa.tmps.getD 33 undef = undef) := hdep ⟨7, .data⟩ (by simp) rfl _ 33 rfl rfl
      have qg : fa.tmps.getD 31 undef = .bool (decide (1 ≤ yy)) := hdep ⟨5, .guard⟩ (by simp) rfl _ 31 rfl rfl
      rcases Bool.eq_false_or_eq_true (decide (1 ≤ yy)) with hB | hB
      rotate_left
      · exact .inr ⟨wanted_no (j := 5) (d := 31) rfl rfl rfl (by rw [hs]; exact of_decide_eq_true (by kernel_rfl)) (qg.trans (congrArg Value.bool hB)) (by decide), fun h => absurd (show (decide (1 ≤ yy)) = true from h) (by rw [show (decide (1 ≤ yy)) = false from by rw [hB]; try rfl]; simp), fun _ => rfl⟩
      have hC : (decide (1 ≤ yy)) = true := by rw [hB]; try rfl
      refine .inl ⟨wanted_of (j := 5) (d := 31) rfl rfl rfl (by rw [hs]; exact of_decide_eq_true (by kernel_rfl)) (qg.trans (congrArg Value.bool hB)), fun K hK => ?_⟩
      exact st_leq_5 rfl (q7.1 hC) rfl (hK _ _ (Below.refl _ _) ⟨fun _ => rfl, fun h => absurd (hC.symm.trans h) (by decide)⟩)
    | 9, ho =>
      obtain rfl := Option.some.inj ho
      have q5 : fa.tmps.getD 31 undef = .bool (decide (1 ≤ yy)) := hdep ⟨5, .data⟩ (by simp) rfl _ 31 rfl rfl
      have q8 : ((decide (1 ≤ yy)) = true → fa.tmps.getD 34 undef = .bool (decide (yy ≤ 6))) ∧ ((decide (1 ≤ yy)) = false → fa.tmps.getD 34 undef = undef) := hdep ⟨8, .data⟩ (by simp) rfl _ 34 rfl rfl
      refine .inl ⟨rfl, fun K hK => ?_⟩
      exact st_and rfl q5 (fun h => q8.1 h) (hK _ _ (Below.refl _ _) rfl)
    | 10, ho =>
      obtain rfl := Option.some.inj ho
      have q9 : fa.tmps.getD 35 undef = .bool ((decide (1 ≤ yy)) && (decide (yy ≤ 6))) := hdep ⟨9, .data⟩ (by simp) rfl _ 35 rfl rfl
      refine .inl ⟨rfl, fun K hK => ?_⟩
      exact st_move rfl q9 (hK _ _ (Below.refl _ _) rfl)
    | 11, ho =>
      obtain rfl := Option.some.inj ho
      have qg : fa.tmps.getD 36 undef = .bool ((decide (1 ≤ yy)) && (decide (yy ≤ 6))) := hdep ⟨10, .guard⟩ (by simp) rfl _ 36 rfl rfl
      rcases Bool.eq_false_or_eq_true ((decide (1 ≤ yy)) && (decide (yy ≤ 6))) with hB | hB
      rotate_left
      · exact .inr ⟨wanted_no (j := 10) (d := 36) rfl rfl rfl (by rw [hs]; exact of_decide_eq_true (by kernel_rfl)) (qg.trans (congrArg Value.bool hB)) (by decide), fun h => absurd (show ((decide (1 ≤ yy)) && (decide (yy ≤ 6))) = true from h) (by rw [show ((decide (1 ≤ yy)) && (decide (yy ≤ 6))) = false from by rw [hB]; try rfl]; simp), fun _ => rfl⟩
      have hC : ((decide (1 ≤ yy)) && (decide (yy ≤ 6))) = true := by rw [hB]; try rfl
      refine .inl ⟨wanted_of (j := 10) (d := 36) rfl rfl rfl (by rw [hs]; exact of_decide_eq_true (by kernel_rfl)) (qg.trans (congrArg Value.bool hB)), fun K hK => ?_⟩
      exact fa30_1 rfl ((hout 3 rfl).trans rfl) (hK _ _ (Below.refl _ _) ⟨fun _ => rfl, fun h => absurd (hC.symm.trans h) (by decide)⟩)
    | 12, ho =>
      obtain rfl := Option.some.inj ho
      have q11 : (((decide (1 ≤ yy)) && (decide (yy ≤ 6))) = true → fa.tmps.getD 37 undef = .pointer (some ⟨(w.heap.size + 1), 1, none⟩)) ∧ (((decide (1 ≤ yy)) && (decide (yy ≤ 6))) = false → fa.tmps.getD 37 undef = undef) := hdep ⟨11, .data⟩ (by simp) rfl _ 37 rfl rfl
      have qg : fa.tmps.getD 36 undef = .bool ((decide (1 ≤ yy)) && (decide (yy ≤ 6))) := hdep ⟨10, .guard⟩ (by simp) rfl _ 36 rfl rfl
      rcases Bool.eq_false_or_eq_true ((decide (1 ≤ yy)) && (decide (yy ≤ 6))) with hB | hB
      rotate_left
      · exact .inr ⟨wanted_no (j := 10) (d := 36) rfl rfl rfl (by rw [hs]; exact of_decide_eq_true (by kernel_rfl)) (qg.trans (congrArg Value.bool hB)) (by decide), fun h => absurd (show ((decide (1 ≤ yy)) && (decide (yy ≤ 6))) = true from h) (by rw [show ((decide (1 ≤ yy)) && (decide (yy ≤ 6))) = false from by rw [hB]; try rfl]; simp), fun _ => rfl⟩
      have hC : ((decide (1 ≤ yy)) && (decide (yy ≤ 6))) = true := by rw [hB]; try rfl
      refine .inl ⟨wanted_of (j := 10) (d := 36) rfl rfl rfl (by rw [hs]; exact of_decide_eq_true (by kernel_rfl)) (qg.trans (congrArg Value.bool hB)), fun K hK => ?_⟩
      exact ld3 rfl (q11.1 hC) i1 (hK _ _ (Below.refl _ _) ⟨fun _ => rfl, fun h => absurd (hC.symm.trans h) (by decide)⟩)
    | 13, ho =>
      obtain rfl := Option.some.inj ho
      have q12 : (((decide (1 ≤ yy)) && (decide (yy ≤ 6))) = true → fa.tmps.getD 38 undef = .int .i64 nn) ∧ (((decide (1 ≤ yy)) && (decide (yy ≤ 6))) = false → fa.tmps.getD 38 undef = undef) := hdep ⟨12, .data⟩ (by simp) rfl _ 38 rfl rfl
      have qg : fa.tmps.getD 36 undef = .bool ((decide (1 ≤ yy)) && (decide (yy ≤ 6))) := hdep ⟨10, .guard⟩ (by simp) rfl _ 36 rfl rfl
      rcases Bool.eq_false_or_eq_true ((decide (1 ≤ yy)) && (decide (yy ≤ 6))) with hB | hB
      rotate_left
      · exact .inr ⟨wanted_no (j := 10) (d := 36) rfl rfl rfl (by rw [hs]; exact of_decide_eq_true (by kernel_rfl)) (qg.trans (congrArg Value.bool hB)) (by decide), fun h => absurd (show ((decide (1 ≤ yy)) && (decide (yy ≤ 6))) = true from h) (by rw [show ((decide (1 ≤ yy)) && (decide (yy ≤ 6))) = false from by rw [hB]; try rfl]; simp), fun _ => rfl⟩
      have hC : ((decide (1 ≤ yy)) && (decide (yy ≤ 6))) = true := by rw [hB]; try rfl
      refine .inl ⟨wanted_of (j := 10) (d := 36) rfl rfl rfl (by rw [hs]; exact of_decide_eq_true (by kernel_rfl)) (qg.trans (congrArg Value.bool hB)), fun K hK => ?_⟩
      exact st_geq_3 rfl (q12.1 hC) rfl (hK _ _ (Below.refl _ _) ⟨fun _ => rfl, fun h => absurd (hC.symm.trans h) (by decide)⟩)
    | 14, ho =>
      obtain rfl := Option.some.inj ho
      have q10 : fa.tmps.getD 36 undef = .bool ((decide (1 ≤ yy)) && (decide (yy ≤ 6))) := hdep ⟨10, .data⟩ (by simp) rfl _ 36 rfl rfl
      have q13 : (((decide (1 ≤ yy)) && (decide (yy ≤ 6))) = true → fa.tmps.getD 39 undef = .bool (decide (0 ≤ nn))) ∧ (((decide (1 ≤ yy)) && (decide (yy ≤ 6))) = false → fa.tmps.getD 39 undef = undef) := hdep ⟨13, .data⟩ (by simp) rfl _ 39 rfl rfl
      refine .inl ⟨rfl, fun K hK => ?_⟩
      exact st_and rfl q10 (fun h => q13.1 h) (hK _ _ (Below.refl _ _) rfl)
    | 15, ho =>
      obtain rfl := Option.some.inj ho
      have q14 : fa.tmps.getD 40 undef = .bool (((decide (1 ≤ yy)) && (decide (yy ≤ 6))) && (decide (0 ≤ nn))) := hdep ⟨14, .data⟩ (by simp) rfl _ 40 rfl rfl
      refine .inl ⟨rfl, fun K hK => ?_⟩
      exact st_move rfl q14 (hK _ _ (Below.refl _ _) rfl)
    | 16, ho =>
      obtain rfl := Option.some.inj ho
      have qg : fa.tmps.getD 41 undef = .bool (((decide (1 ≤ yy)) && (decide (yy ≤ 6))) && (decide (0 ≤ nn))) := hdep ⟨15, .guard⟩ (by simp) rfl _ 41 rfl rfl
      rcases Bool.eq_false_or_eq_true (((decide (1 ≤ yy)) && (decide (yy ≤ 6))) && (decide (0 ≤ nn))) with hB | hB
      rotate_left
      · exact .inr ⟨wanted_no (j := 15) (d := 41) rfl rfl rfl (by rw [hs]; exact of_decide_eq_true (by kernel_rfl)) (qg.trans (congrArg Value.bool hB)) (by decide), fun h => absurd (show (((decide (1 ≤ yy)) && (decide (yy ≤ 6))) && (decide (0 ≤ nn))) = true from h) (by rw [show (((decide (1 ≤ yy)) && (decide (yy ≤ 6))) && (decide (0 ≤ nn))) = false from by rw [hB]; try rfl]; simp), fun _ => rfl⟩
      have hC : (((decide (1 ≤ yy)) && (decide (yy ≤ 6))) && (decide (0 ≤ nn))) = true := by rw [hB]; try rfl
      refine .inl ⟨wanted_of (j := 15) (d := 41) rfl rfl rfl (by rw [hs]; exact of_decide_eq_true (by kernel_rfl)) (qg.trans (congrArg Value.bool hB)), fun K hK => ?_⟩
      exact fa30_1 rfl ((hout 3 rfl).trans rfl) (hK _ _ (Below.refl _ _) ⟨fun _ => rfl, fun h => absurd (hC.symm.trans h) (by decide)⟩)
    | 17, ho =>
      obtain rfl := Option.some.inj ho
      have q16 : ((((decide (1 ≤ yy)) && (decide (yy ≤ 6))) && (decide (0 ≤ nn))) = true → fa.tmps.getD 42 undef = .pointer (some ⟨(w.heap.size + 1), 1, none⟩)) ∧ ((((decide (1 ≤ yy)) && (decide (yy ≤ 6))) && (decide (0 ≤ nn))) = false → fa.tmps.getD 42 undef = undef) := hdep ⟨16, .data⟩ (by simp) rfl _ 42 rfl rfl
      have qg : fa.tmps.getD 41 undef = .bool (((decide (1 ≤ yy)) && (decide (yy ≤ 6))) && (decide (0 ≤ nn))) := hdep ⟨15, .guard⟩ (by simp) rfl _ 41 rfl rfl
      rcases Bool.eq_false_or_eq_true (((decide (1 ≤ yy)) && (decide (yy ≤ 6))) && (decide (0 ≤ nn))) with hB | hB
      rotate_left
      · exact .inr ⟨wanted_no (j := 15) (d := 41) rfl rfl rfl (by rw [hs]; exact of_decide_eq_true (by kernel_rfl)) (qg.trans (congrArg Value.bool hB)) (by decide), fun h => absurd (show (((decide (1 ≤ yy)) && (decide (yy ≤ 6))) && (decide (0 ≤ nn))) = true from h) (by rw [show (((decide (1 ≤ yy)) && (decide (yy ≤ 6))) && (decide (0 ≤ nn))) = false from by rw [hB]; try rfl]; simp), fun _ => rfl⟩
      have hC : (((decide (1 ≤ yy)) && (decide (yy ≤ 6))) && (decide (0 ≤ nn))) = true := by rw [hB]; try rfl
      refine .inl ⟨wanted_of (j := 15) (d := 41) rfl rfl rfl (by rw [hs]; exact of_decide_eq_true (by kernel_rfl)) (qg.trans (congrArg Value.bool hB)), fun K hK => ?_⟩
      exact ld3 rfl (q16.1 hC) i1 (hK _ _ (Below.refl _ _) ⟨fun _ => rfl, fun h => absurd (hC.symm.trans h) (by decide)⟩)
    | 18, ho =>
      obtain rfl := Option.some.inj ho
      have q17 : ((((decide (1 ≤ yy)) && (decide (yy ≤ 6))) && (decide (0 ≤ nn))) = true → fa.tmps.getD 43 undef = .int .i64 nn) ∧ ((((decide (1 ≤ yy)) && (decide (yy ≤ 6))) && (decide (0 ≤ nn))) = false → fa.tmps.getD 43 undef = undef) := hdep ⟨17, .data⟩ (by simp) rfl _ 43 rfl rfl
      have qg : fa.tmps.getD 41 undef = .bool (((decide (1 ≤ yy)) && (decide (yy ≤ 6))) && (decide (0 ≤ nn))) := hdep ⟨15, .guard⟩ (by simp) rfl _ 41 rfl rfl
      rcases Bool.eq_false_or_eq_true (((decide (1 ≤ yy)) && (decide (yy ≤ 6))) && (decide (0 ≤ nn))) with hB | hB
      rotate_left
      · exact .inr ⟨wanted_no (j := 15) (d := 41) rfl rfl rfl (by rw [hs]; exact of_decide_eq_true (by kernel_rfl)) (qg.trans (congrArg Value.bool hB)) (by decide), fun h => absurd (show (((decide (1 ≤ yy)) && (decide (yy ≤ 6))) && (decide (0 ≤ nn))) = true from h) (by rw [show (((decide (1 ≤ yy)) && (decide (yy ≤ 6))) && (decide (0 ≤ nn))) = false from by rw [hB]; try rfl]; simp), fun _ => rfl⟩
      have hC : (((decide (1 ≤ yy)) && (decide (yy ≤ 6))) && (decide (0 ≤ nn))) = true := by rw [hB]; try rfl
      refine .inl ⟨wanted_of (j := 15) (d := 41) rfl rfl rfl (by rw [hs]; exact of_decide_eq_true (by kernel_rfl)) (qg.trans (congrArg Value.bool hB)), fun K hK => ?_⟩
      exact st_lss_3 rfl (q17.1 hC) rfl (hK _ _ (Below.refl _ _) ⟨fun _ => rfl, fun h => absurd (hC.symm.trans h) (by decide)⟩)
    | 19, ho =>
      obtain rfl := Option.some.inj ho
      have q15 : fa.tmps.getD 41 undef = .bool (((decide (1 ≤ yy)) && (decide (yy ≤ 6))) && (decide (0 ≤ nn))) := hdep ⟨15, .data⟩ (by simp) rfl _ 41 rfl rfl
      have q18 : ((((decide (1 ≤ yy)) && (decide (yy ≤ 6))) && (decide (0 ≤ nn))) = true → fa.tmps.getD 44 undef = .bool (decide (nn < 2048))) ∧ ((((decide (1 ≤ yy)) && (decide (yy ≤ 6))) && (decide (0 ≤ nn))) = false → fa.tmps.getD 44 undef = undef) := hdep ⟨18, .data⟩ (by simp) rfl _ 44 rfl rfl
      refine .inl ⟨rfl, fun K hK => ?_⟩
      exact st_and rfl q15 (fun h => q18.1 h) (hK _ _ (Below.refl _ _) rfl)
    | 20, ho =>
      obtain rfl := Option.some.inj ho
      have q1 : fa.tmps.getD 27 undef = .bool r := hdep ⟨1, .data⟩ (by simp) rfl _ 27 rfl rfl
      have q19 : fa.tmps.getD 45 undef = .bool ((((decide (1 ≤ yy)) && (decide (yy ≤ 6))) && (decide (0 ≤ nn))) && (decide (nn < 2048))) := hdep ⟨19, .data⟩ (by simp) rfl _ 45 rfl rfl
      refine .inl ⟨rfl, fun K hK => ?_⟩
      exact st_neq_4 rfl q1 q19 (hK _ _ (Below.refl _ _) rfl)
    | i + 21, ho => exact absurd (show i + 21 < 21 from hlt) (by omega)
  · intro a2 wc hs hd hout hI hall
    obtain ⟨tmps, defers⟩ := a2
    have e0_46 : tmps.getD 46 undef = .bool (!(r == ((((decide (1 ≤ yy)) && (decide (yy ≤ 6))) && (decide (0 ≤ nn))) && (decide (nn < 2048))))) := hall 20 _ 46 rfl rfl
    have e_46 : tmps.getD 46 undef = .bool false := by rw [e0_46, HQ.out]
    simp only at hs hd hout
    have ef := frameAt [some 26, some 27, some 28, some 29, some 30, some 31, some 32, some 33, some 34, some 35, some 36, some 37, some 38, some 39, some 40, some 41, some 42, some 43, some 44, some 45, some 46] _ tmps hs hout
    obtain ⟨sv3, hu⟩ : ∃ u : Nat → Value, u = fun s => tmps.getD s undef := ⟨_, rfl⟩
    have eu_46 : sv3 46 = .bool false := by rw [hu]; exact e_46
    rw [← hu] at ef
    have ef2 : tmps = #[Value.agg #[Value.bool i, Value.int IntKind.i64 p, Value.int IntKind.i64 c, Value.bool nw, Value.slice ao n cap], Value.agg #[Value.int IntKind.u8 yy, Value.int IntKind.i64 nn], Value.pointer (some { block := w.heap.size, off := 0 }), Value.pointer (some { block := w.heap.size + 1, off := 0 }), Value.bool false, undef, undef, undef, undef, undef, undef, undef, undef, undef, undef, undef, undef, undef, undef, undef, undef, Value.pointer (some { block := w.heap.size, off := 4 }), Value.slice ao n cap, Value.int IntKind.i64 n, Value.bool false, undef, sv3 26, sv3 27, sv3 28, sv3 29, sv3 30, sv3 31, sv3 32, sv3 33, sv3 34, sv3 35, sv3 36, sv3 37, sv3 38, sv3 39, sv3 40, sv3 41, sv3 42, sv3 43, sv3 44, sv3 45, sv3 46, undef, undef, undef, undef, undef, undef, undef, undef, undef, undef, undef, undef, undef, undef, undef, undef, undef, undef, undef, undef, undef, undef, undef, undef, undef, undef, undef, undef, undef, undef, undef, undef, undef, undef, undef, undef, undef, undef, undef, undef, undef, undef, undef, undef, undef, undef, undef, undef, undef, undef, undef, undef, undef, undef, undef, undef, undef, undef, undef, undef, undef, undef, undef, undef, undef, undef, undef, undef, undef, undef, undef, undef, undef, undef, undef, undef, undef, undef, undef, undef, undef, undef, undef, undef, undef, undef, undef, undef, undef, undef, undef, undef, undef, undef, undef, undef, undef, undef, undef, undef, undef, undef, undef, undef, undef, undef, undef, undef, undef, undef, undef, undef, undef, undef, undef, undef, undef, undef, undef, undef, undef, undef, undef, undef, undef, undef, undef, undef, undef, undef, undef, undef, undef, undef, undef, undef, undef, undef, undef, undef, undef, undef, undef, undef, undef, undef, undef, undef, undef, undef, undef, undef, undef, undef, undef, undef, undef, undef, undef, undef, undef, undef, undef, undef, undef, undef] := ef
    subst hd
    rw [eu_46] at ef2
    rw [ef2]
    clear ef ef2 hu hs hout hall e0_46 e_46 eu_46
    have hbC := hI
    have FC := Lib.hid (F0.out.below hbC hk2)
    have hb1 : Below w.heap.size w wc := hb0.trans (hbC.mono hb0.size)
    have hz1 : w.heap.size + 2 ≤ wc.heap.size := by have := hbC.size; omega
    clear hI hbC F0 HID hb0 hzz hk2 hk3 HQ HR
    have hz0 : w.heap.size < wc.heap.size := by omega
    obtain ⟨gc, hgc⟩ : ∃ gc : Bool, (decide (0 ≤ c) && decide (c ≤ 2048)) = gc := ⟨_, rfl⟩
    have HGC := Lib.hid hgc
    clear hgc
    iterate 7 go_step
    refine sqP [some 47, some 48, some 49, some 50, some 51, some 52, some 53, some 54, some 5] (psi5 c w.heap.size) (fun w' => Below wc.heap.size wc w') (by kernel_rfl) (by kernel_rfl) (psi5_stab c w.heap.size) (fun _ _ h hb => h.trans (hb.mono h.size)) (fun i o ho fa w1 hs hout hI hdep hold => ?_) ?_ (Below.refl _ _)
    · have hlt := (Array.getElem?_eq_some_iff.1 ho).1
      have c0 := (hI.cell (p := ⟨w.heap.size, 0, none⟩) hz0).trans FC.out.1.1
      have c1 := (hI.cell (p := ⟨w.heap.size, 1, none⟩) hz0).trans FC.out.1.2.1
      have c2 := (hI.cell (p := ⟨w.heap.size, 2, none⟩) hz0).trans FC.out.1.2.2.1
      have c3 := (hI.cell (p := ⟨w.heap.size, 3, none⟩) hz0).trans FC.out.1.2.2.2.1
      have c4 := (hI.cell (p := ⟨w.heap.size, 4, none⟩) hz0).trans FC.out.1.2.2.2.2
      match i, ho with
      | 0, ho =>
        obtain rfl := Option.some.inj ho
        refine .inl ⟨rfl, fun K hK => ?_⟩
        exact fa38_2 rfl ((hout 2 rfl).trans rfl) (hK _ _ (Below.refl _ _) rfl)
      | 1, ho =>
        obtain rfl := Option.some.inj ho
        have q0 : fa.tmps.getD 47 undef = .pointer (some ⟨w.heap.size, 2, none⟩) := hdep ⟨0, .data⟩ (by simp) rfl _ 47 rfl rfl
        refine .inl ⟨rfl, fun K hK => ?_⟩
        exact ld3 rfl q0 c2 (hK _ _ (Below.refl _ _) rfl)
      | 2, ho =>
        obtain rfl := Option.some.inj ho
        have q1 : fa.tmps.getD 48 undef = .int .i64 c := hdep ⟨1, .data⟩ (by simp) rfl _ 48 rfl rfl
        refine .inl ⟨rfl, fun K hK => ?_⟩
        exact st_geq_3 rfl q1 rfl (hK _ _ (Below.refl _ _) rfl)
      | 3, ho =>
        obtain rfl := Option.some.inj ho
        have q2 : fa.tmps.getD 49 undef = .bool (decide (0 ≤ c)) := hdep ⟨2, .data⟩ (by simp) rfl _ 49 rfl rfl
        refine .inl ⟨rfl, fun K hK => ?_⟩
        exact st_move rfl q2 (hK _ _ (Below.refl _ _) rfl)
      | 4, ho =>
        obtain rfl := Option.some.inj ho
        have qg : fa.tmps.getD 50 undef = .bool (decide (0 ≤ c)) := hdep ⟨3, .guard⟩ (by simp) rfl _ 50 rfl rfl
        rcases Bool.eq_false_or_eq_true (decide (0 ≤ c)) with hB | hB
        rotate_left
        · exact .inr ⟨wanted_no (j := 3) (d := 50) rfl rfl rfl (by rw [hs]; exact of_decide_eq_true (by kernel_rfl)) (qg.trans (congrArg Value.bool hB)) (by decide), fun h => absurd (show (decide (0 ≤ c)) = true from h) (by rw [show (decide (0 ≤ c)) = false from by rw [hB]; try rfl]; simp), fun _ => rfl⟩
        have hC : (decide (0 ≤ c)) = true := by rw [hB]; try rfl
        refine .inl ⟨wanted_of (j := 3) (d := 50) rfl rfl rfl (by rw [hs]; exact of_decide_eq_true (by kernel_rfl)) (qg.trans (congrArg Value.bool hB)), fun K hK => ?_⟩
        exact fa38_2 rfl ((hout 2 rfl).trans rfl) (hK _ _ (Below.refl _ _) ⟨fun _ => rfl, fun h => absurd (hC.symm.trans h) (by decide)⟩)
      | 5, ho =>
        obtain rfl := Option.some.inj ho
        have q4 : ((decide (0 ≤ c)) = true → fa.tmps.getD 51 undef = .pointer (some ⟨w.heap.size, 2, none⟩)) ∧ ((decide (0 ≤ c)) = false → fa.tmps.getD 51 undef = undef) := hdep ⟨4, .data⟩ (by simp) rfl _ 51 rfl rfl
        have qg : fa.tmps.getD 50 undef = .bool (decide (0 ≤ c)) := hdep ⟨3, .guard⟩ (by simp) rfl _ 50 rfl rfl
        rcases Bool.eq_false_or_eq_true (decide (0 ≤ c)) with hB | hB
        rotate_left
        · exact .inr ⟨wanted_no (j := 3) (d := 50) rfl rfl rfl (by rw [hs]; exact of_decide_eq_true (by kernel_rfl)) (qg.trans (congrArg Value.bool hB)) (by decide), fun h => absurd (show (decide (0 ≤ c)) = true from h) (by rw [show (decide (0 ≤ c)) = false from by rw [hB]; try rfl]; simp), fun _ => rfl⟩
        have hC : (decide (0 ≤ c)) = true := by rw [hB]; try rfl
        refine .inl ⟨wanted_of (j := 3) (d := 50) rfl rfl rfl (by rw [hs]; exact of_decide_eq_true (by kernel_rfl)) (qg.trans (congrArg Value.bool hB)), fun K hK => ?_⟩
        exact ld3 rfl (q4.1 hC) c2 (hK _ _ (Below.refl _ _) ⟨fun _ => rfl, fun h => absurd (hC.symm.trans h) (by decide)⟩)
      | 6, ho =>
        obtain rfl := Option.some.inj ho
        have q5 : ((decide (0 ≤ c)) = true → fa.tmps.getD 52 undef = .int .i64 c) ∧ ((decide (0 ≤ c)) = false → fa.tmps.getD 52 undef = undef) := hdep ⟨5, .data⟩ (by simp) rfl _ 52 rfl rfl
        have qg : fa.tmps.getD 50 undef = .bool (decide (0 ≤ c)) := hdep ⟨3, .guard⟩ (by simp) rfl _ 50 rfl rfl
        rcases Bool.eq_false_or_eq_true (decide (0 ≤ c)) with hB | hB
        rotate_left
        · exact .inr ⟨wanted_no (j := 3) (d := 50) rfl rfl rfl (by rw [hs]; exact of_decide_eq_true (by kernel_rfl)) (qg.trans (congrArg Value.bool hB)) (by decide), fun h => absurd (show (decide (0 ≤ c)) = true from h) (by rw [show (decide (0 ≤ c)) = false from by rw [hB]; try rfl]; simp), fun _ => rfl⟩
        have hC : (decide (0 ≤ c)) = true := by rw [hB]; try rfl
        refine .inl ⟨wanted_of (j := 3) (d := 50) rfl rfl rfl (by rw [hs]; exact of_decide_eq_true (by kernel_rfl)) (qg.trans (congrArg Value.bool hB)), fun K hK => ?_⟩
        exact st_leq_3 rfl (q5.1 hC) rfl (hK _ _ (Below.refl _ _) ⟨fun _ => rfl, fun h => absurd (hC.symm.trans h) (by decide)⟩)
      | 7, ho =>
        obtain rfl := Option.some.inj ho
        have q3 : fa.tmps.getD 50 undef = .bool (decide (0 ≤ c)) := hdep ⟨3, .data⟩ (by simp) rfl _ 50 rfl rfl
        have q6 : ((decide (0 ≤ c)) = true → fa.tmps.getD 53 undef = .bool (decide (c ≤ 2048))) ∧ ((decide (0 ≤ c)) = false → fa.tmps.getD 53 undef = undef) := hdep ⟨6, .data⟩ (by simp) rfl _ 53 rfl rfl
        refine .inl ⟨rfl, fun K hK => ?_⟩
        exact st_and rfl q3 (fun h => q6.1 h) (hK _ _ (Below.refl _ _) rfl)
      | 8, ho =>
        obtain rfl := Option.some.inj ho
        have q7 : fa.tmps.getD 54 undef = .bool ((decide (0 ≤ c)) && (decide (c ≤ 2048))) := hdep ⟨7, .data⟩ (by simp) rfl _ 54 rfl rfl
        refine .inl ⟨rfl, fun K hK => ?_⟩
        exact st_assign rfl q7 (hK _ _ (Below.refl _ _) rfl)
      | i + 9, ho => exact absurd (show i + 9 < 9 from hlt) (by omega)
    · intro a2 wd hs hd hout hI hall
      obtain ⟨tmps, defers⟩ := a2
      have e0_5 : tmps.getD 5 undef = .bool ((decide (0 ≤ c)) && (decide (c ≤ 2048))) := hall 8 _ 5 rfl rfl
      have e_5 : tmps.getD 5 undef = .bool gc := by rw [e0_5, HGC.out]
      simp only at hs hd hout
      have ef := frameAt [some 47, some 48, some 49, some 50, some 51, some 52, some 53, some 54, some 5] _ tmps hs hout
      obtain ⟨sv5, hu⟩ : ∃ u : Nat → Value, u = fun s => tmps.getD s undef := ⟨_, rfl⟩
      have eu_5 : sv5 5 = .bool gc := by rw [hu]; exact e_5
      rw [← hu] at ef
      have ef2 : tmps = #[Value.agg #[Value.bool i, Value.int IntKind.i64 p, Value.int IntKind.i64 c, Value.bool nw, Value.slice ao n cap], Value.agg #[Value.int IntKind.u8 yy, Value.int IntKind.i64 nn], Value.pointer (some { block := w.heap.size, off := 0 }), Value.pointer (some { block := w.heap.size + 1, off := 0 }), Value.bool false, sv5 5, undef, undef, undef, undef, undef, undef, undef, undef, undef, undef, undef, undef, undef, undef, undef, Value.pointer (some { block := w.heap.size, off := 4 }), Value.slice ao n cap, Value.int IntKind.i64 n, Value.bool false, undef, sv3 26, sv3 27, sv3 28, sv3 29, sv3 30, sv3 31, sv3 32, sv3 33, sv3 34, sv3 35, sv3 36, sv3 37, sv3 38, sv3 39, sv3 40, sv3 41, sv3 42, sv3 43, sv3 44, sv3 45, Value.bool false, sv5 47, sv5 48, sv5 49, sv5 50, sv5 51, sv5 52, sv5 53, sv5 54, undef, undef, undef, undef, undef, undef, undef, undef, undef, undef, undef, undef, undef, undef, undef, undef, undef, undef, undef, undef, undef, undef, undef, undef, undef, undef, undef, undef, undef, undef, undef, undef, undef, undef, undef, undef, undef, undef, undef, undef, undef, undef, undef, undef, undef, undef, undef, undef, undef, undef, undef, undef, undef, undef, undef, undef, undef, undef, undef, undef, undef, undef, undef, undef, undef, undef, undef, undef, undef, undef, undef, undef, undef, undef, undef, undef, undef, undef, undef, undef, undef, undef, undef, undef, undef, undef, undef, undef, undef, undef, undef, undef, undef, undef, undef, undef, undef, undef, undef, undef, undef, undef, undef, undef, undef, undef, undef, undef, undef, undef, undef, undef, undef, undef, undef, undef, undef, undef, undef, undef, undef, undef, undef, undef, undef, undef, undef, undef, undef, undef, undef, undef, undef, undef, undef, undef, undef, undef, undef, undef, undef, undef, undef, undef, undef, undef, undef, undef, undef, undef, undef, undef, undef, undef, undef, undef, undef, undef] := ef
      subst hd
      rw [eu_5] at ef2
      rw [ef2]
      clear ef ef2 hu hs hout hall e0_5 e_5 eu_5
      have hbD := hI
      have FD := Lib.hid (FC.out.below hbD hz0)
      have hb2 : Below w.heap.size w wd := hb1.trans (hbD.mono hb1.size)
      have hzd : w.heap.size < wd.heap.size := by have := hbD.size; omega
      clear hI hbD FC hb1 hz1 hz0
      obtain ⟨g0, hg7, hg8⟩ : ∃ g0 : Bool, (i = true → (((gc && decide ((-13) ≤ p)) && decide (p ≤ 179)) && ((Int.tmod p 2) != 0)) = g0) ∧ (i = false → (((gc && (p == 0)) && (!nw)) && ((n : Int) == 0)) = g0) := by
        cases i
        · exact ⟨_, fun h => absurd h (by decide), fun _ => rfl⟩
        · exact ⟨_, fun _ => rfl, fun h => absurd h (by decide)⟩
      have HG7 := Lib.hid hg7
      have HG8 := Lib.hid hg8
      clear hg7 hg8
      have c0 := FD.out.1.1
      go_upto_if 56 with (fail)
      clear c0
      go_cut [5] from 57 (fun s wx => s = .bool g0 ∧ Below wd.heap.size wd wx)
      case first =>
        cases i
        · go_step
          refine sqP [some 74, some 75, some 76, some 77, some 78, some 79, some 80, some 81, some 82, some 83, some 84, some 85, some 86, some 87, some 88, some 89, some 90, some 5] (psi8 p nw ao n cap gc w.heap.size) (fun w' => Below wd.heap.size wd w') (by kernel_rfl) (by kernel_rfl) (psi8_stab p nw ao n cap gc w.heap.size) (fun _ _ h hb => h.trans (hb.mono h.size)) (fun i o ho fa w1 hs hout hI hdep hold => ?_) ?_ (Below.refl _ _)
          · have hlt := (Array.getElem?_eq_some_iff.1 ho).1
            have c0 := (hI.cell (p := ⟨w.heap.size, 0, none⟩) hzd).trans FD.out.1.1
            have c1 := (hI.cell (p := ⟨w.heap.size, 1, none⟩) hzd).trans FD.out.1.2.1
            have c2 := (hI.cell (p := ⟨w.heap.size, 2, none⟩) hzd).trans FD.out.1.2.2.1
            have c3 := (hI.cell (p := ⟨w.heap.size, 3, none⟩) hzd).trans FD.out.1.2.2.2.1
            have c4 := (hI.cell (p := ⟨w.heap.size, 4, none⟩) hzd).trans FD.out.1.2.2.2.2
            match i, ho with
            | 0, ho =>
              obtain rfl := Option.some.inj ho
              refine .inl ⟨rfl, fun K hK => ?_⟩
              exact st_move rfl ((hold 17 _ 5 rfl rfl (by kernel_rfl)).trans rfl) (hK _ _ (Below.refl _ _) rfl)
            | 1, ho =>
              obtain rfl := Option.some.inj ho
              have q0 : fa.tmps.getD 74 undef = .bool gc := hdep ⟨0, .data⟩ (by simp) rfl _ 74 rfl rfl
              refine .inl ⟨rfl, fun K hK => ?_⟩
              exact st_move rfl q0 (hK _ _ (Below.refl _ _) rfl)
            | 2, ho =>
              obtain rfl := Option.some.inj ho
              have qg : fa.tmps.getD 75 undef = .bool gc := hdep ⟨1, .guard⟩ (by simp) rfl _ 75 rfl rfl
              rcases Bool.eq_false_or_eq_true gc with hB | hB
              rotate_left
              · exact .inr ⟨wanted_no (j := 1) (d := 75) rfl rfl rfl (by rw [hs]; exact of_decide_eq_true (by kernel_rfl)) (qg.trans (congrArg Value.bool hB)) (by decide), fun h => absurd (show gc = true from h) (by rw [show gc = false from by rw [hB]; try rfl]; simp), fun _ => rfl⟩
              have hC : gc = true := by rw [hB]; try rfl
              refine .inl ⟨wanted_of (j := 1) (d := 75) rfl rfl rfl (by rw [hs]; exact of_decide_eq_true (by kernel_rfl)) (qg.trans (congrArg Value.bool hB)), fun K hK => ?_⟩
              exact fa38_1 rfl ((hout 2 rfl).trans rfl) (hK _ _ (Below.refl _ _) ⟨fun _ => rfl, fun h => absurd (hC.symm.trans h) (by decide)⟩)
            | 3, ho =>
              obtain rfl := Option.some.inj ho
              have q2 : (gc = true → fa.tmps.getD 76 undef = .pointer (some ⟨w.heap.size, 1, none⟩)) ∧ (gc = false → fa.tmps.getD 76 undef = undef) := hdep ⟨2, .data⟩ (by simp) rfl _ 76 rfl rfl
              have qg : fa.tmps.getD 75 undef = .bool gc := hdep ⟨1, .guard⟩ (by simp) rfl _ 75 rfl rfl
              rcases Bool.eq_false_or_eq_true gc with hB | hB
              rotate_left
              · exact .inr ⟨wanted_no (j := 1) (d := 75) rfl rfl rfl (by rw [hs]; exact of_decide_eq_true (by kernel_rfl)) (qg.trans (congrArg Value.bool hB)) (by decide), fun h => absurd (show gc = true from h) (by rw [show gc = false from by rw [hB]; try rfl]; simp), fun _ => rfl⟩
              have hC : gc = true := by rw [hB]; try rfl
              refine .inl ⟨wanted_of (j := 1) (d := 75) rfl rfl rfl (by rw [hs]; exact of_decide_eq_true (by kernel_rfl)) (qg.trans (congrArg Value.bool hB)), fun K hK => ?_⟩
              exact ld3 rfl (q2.1 hC) c1 (hK _ _ (Below.refl _ _) ⟨fun _ => rfl, fun h => absurd (hC.symm.trans h) (by decide)⟩)
            | 4, ho =>
              obtain rfl := Option.some.inj ho
              have q3 : (gc = true → fa.tmps.getD 77 undef = .int .i64 p) ∧ (gc = false → fa.tmps.getD 77 undef = undef) := hdep ⟨3, .data⟩ (by simp) rfl _ 77 rfl rfl
              have qg : fa.tmps.getD 75 undef = .bool gc := hdep ⟨1, .guard⟩ (by simp) rfl _ 75 rfl rfl
              rcases Bool.eq_false_or_eq_true gc with hB | hB
              rotate_left
              · exact .inr ⟨wanted_no (j := 1) (d := 75) rfl rfl rfl (by rw [hs]; exact of_decide_eq_true (by kernel_rfl)) (qg.trans (congrArg Value.bool hB)) (by decide), fun h => absurd (show gc = true from h) (by rw [show gc = false from by rw [hB]; try rfl]; simp), fun _ => rfl⟩
              have hC : gc = true := by rw [hB]; try rfl
              refine .inl ⟨wanted_of (j := 1) (d := 75) rfl rfl rfl (by rw [hs]; exact of_decide_eq_true (by kernel_rfl)) (qg.trans (congrArg Value.bool hB)), fun K hK => ?_⟩
              exact st_eql_3 rfl (q3.1 hC) rfl (hK _ _ (Below.refl _ _) ⟨fun _ => rfl, fun h => absurd (hC.symm.trans h) (by decide)⟩)
            | 5, ho =>
              obtain rfl := Option.some.inj ho
              have q1 : fa.tmps.getD 75 undef = .bool gc := hdep ⟨1, .data⟩ (by simp) rfl _ 75 rfl rfl
              have q4 : (gc = true → fa.tmps.getD 78 undef = .bool (p == 0)) ∧ (gc = false → fa.tmps.getD 78 undef = undef) := hdep ⟨4, .data⟩ (by simp) rfl _ 78 rfl rfl
              refine .inl ⟨rfl, fun K hK => ?_⟩
              exact st_and rfl q1 (fun h => q4.1 h) (hK _ _ (Below.refl _ _) rfl)
            | 6, ho =>
              obtain rfl := Option.some.inj ho
              have q5 : fa.tmps.getD 79 undef = .bool (gc && (p == 0)) := hdep ⟨5, .data⟩ (by simp) rfl _ 79 rfl rfl
              refine .inl ⟨rfl, fun K hK => ?_⟩
              exact st_move rfl q5 (hK _ _ (Below.refl _ _) rfl)
            | 7, ho =>
              obtain rfl := Option.some.inj ho
              have qg : fa.tmps.getD 80 undef = .bool (gc && (p == 0)) := hdep ⟨6, .guard⟩ (by simp) rfl _ 80 rfl rfl
              rcases Bool.eq_false_or_eq_true (gc && (p == 0)) with hB | hB
              rotate_left
              · exact .inr ⟨wanted_no (j := 6) (d := 80) rfl rfl rfl (by rw [hs]; exact of_decide_eq_true (by kernel_rfl)) (qg.trans (congrArg Value.bool hB)) (by decide), fun h => absurd (show (gc && (p == 0)) = true from h) (by rw [show (gc && (p == 0)) = false from by rw [hB]; try rfl]; simp), fun _ => rfl⟩
              have hC : (gc && (p == 0)) = true := by rw [hB]; try rfl
              refine .inl ⟨wanted_of (j := 6) (d := 80) rfl rfl rfl (by rw [hs]; exact of_decide_eq_true (by kernel_rfl)) (qg.trans (congrArg Value.bool hB)), fun K hK => ?_⟩
              exact fa38_3 rfl ((hout 2 rfl).trans rfl) (hK _ _ (Below.refl _ _) ⟨fun _ => rfl, fun h => absurd (hC.symm.trans h) (by decide)⟩)
            | 8, ho =>
              obtain rfl := Option.some.inj ho
              have q7 : ((gc && (p == 0)) = true → fa.tmps.getD 81 undef = .pointer (some ⟨w.heap.size, 3, none⟩)) ∧ ((gc && (p == 0)) = false → fa.tmps.getD 81 undef = undef) := hdep ⟨7, .data⟩ (by simp) rfl _ 81 rfl rfl
              have qg : fa.tmps.getD 80 undef = .bool (gc && (p == 0)) := hdep ⟨6, .guard⟩ (by simp) rfl _ 80 rfl rfl
              rcases Bool.eq_false_or_eq_true (gc && (p == 0)) with hB | hB
              rotate_left
              · exact .inr ⟨wanted_no (j := 6) (d := 80) rfl rfl rfl (by rw [hs]; exact of_decide_eq_true (by kernel_rfl)) (qg.trans (congrArg Value.bool hB)) (by decide), fun h => absurd (show (gc && (p == 0)) = true from h) (by rw [show (gc && (p == 0)) = false from by rw [hB]; try rfl]; simp), fun _ => rfl⟩
              have hC : (gc && (p == 0)) = true := by rw [hB]; try rfl
              refine .inl ⟨wanted_of (j := 6) (d := 80) rfl rfl rfl (by rw [hs]; exact of_decide_eq_true (by kernel_rfl)) (qg.trans (congrArg Value.bool hB)), fun K hK => ?_⟩
              exact ld4 rfl (q7.1 hC) c3 (hK _ _ (Below.refl _ _) ⟨fun _ => rfl, fun h => absurd (hC.symm.trans h) (by decide)⟩)
            | 9, ho =>
              obtain rfl := Option.some.inj ho
              have q8 : ((gc && (p == 0)) = true → fa.tmps.getD 82 undef = .bool nw) ∧ ((gc && (p == 0)) = false → fa.tmps.getD 82 undef = undef) := hdep ⟨8, .data⟩ (by simp) rfl _ 82 rfl rfl
              have qg : fa.tmps.getD 80 undef = .bool (gc && (p == 0)) := hdep ⟨6, .guard⟩ (by simp) rfl _ 80 rfl rfl
              rcases Bool.eq_false_or_eq_true (gc && (p == 0)) with hB | hB
              rotate_left
              · exact .inr ⟨wanted_no (j := 6) (d := 80) rfl rfl rfl (by rw [hs]; exact of_decide_eq_true (by kernel_rfl)) (qg.trans (congrArg Value.bool hB)) (by decide), fun h => absurd (show (gc && (p == 0)) = true from h) (by rw [show (gc && (p == 0)) = false from by rw [hB]; try rfl]; simp), fun _ => rfl⟩
              have hC : (gc && (p == 0)) = true := by rw [hB]; try rfl
              refine .inl ⟨wanted_of (j := 6) (d := 80) rfl rfl rfl (by rw [hs]; exact of_decide_eq_true (by kernel_rfl)) (qg.trans (congrArg Value.bool hB)), fun K hK => ?_⟩
              exact st_not rfl (q8.1 hC) (hK _ _ (Below.refl _ _) ⟨fun _ => rfl, fun h => absurd (hC.symm.trans h) (by decide)⟩)
            | 10, ho =>
              obtain rfl := Option.some.inj ho
              have q6 : fa.tmps.getD 80 undef = .bool (gc && (p == 0)) := hdep ⟨6, .data⟩ (by simp) rfl _ 80 rfl rfl
              have q9 : ((gc && (p == 0)) = true → fa.tmps.getD 83 undef = .bool (!nw)) ∧ ((gc && (p == 0)) = false → fa.tmps.getD 83 undef = undef) := hdep ⟨9, .data⟩ (by simp) rfl _ 83 rfl rfl
              refine .inl ⟨rfl, fun K hK => ?_⟩
              exact st_and rfl q6 (fun h => q9.1 h) (hK _ _ (Below.refl _ _) rfl)
            | 11, ho =>
              obtain rfl := Option.some.inj ho
              have q10 : fa.tmps.getD 84 undef = .bool ((gc && (p == 0)) && (!nw)) := hdep ⟨10, .data⟩ (by simp) rfl _ 84 rfl rfl
              refine .inl ⟨rfl, fun K hK => ?_⟩
              exact st_move rfl q10 (hK _ _ (Below.refl _ _) rfl)
            | 12, ho =>
              obtain rfl := Option.some.inj ho
              have qg : fa.tmps.getD 85 undef = .bool ((gc && (p == 0)) && (!nw)) := hdep ⟨11, .guard⟩ (by simp) rfl _ 85 rfl rfl
              rcases Bool.eq_false_or_eq_true ((gc && (p == 0)) && (!nw)) with hB | hB
              rotate_left
              · exact .inr ⟨wanted_no (j := 11) (d := 85) rfl rfl rfl (by rw [hs]; exact of_decide_eq_true (by kernel_rfl)) (qg.trans (congrArg Value.bool hB)) (by decide), fun h => absurd (show ((gc && (p == 0)) && (!nw)) = true from h) (by rw [show ((gc && (p == 0)) && (!nw)) = false from by rw [hB]; try rfl]; simp), fun _ => rfl⟩
              have hC : ((gc && (p == 0)) && (!nw)) = true := by rw [hB]; try rfl
              refine .inl ⟨wanted_of (j := 11) (d := 85) rfl rfl rfl (by rw [hs]; exact of_decide_eq_true (by kernel_rfl)) (qg.trans (congrArg Value.bool hB)), fun K hK => ?_⟩
              exact fa38_4 rfl ((hout 2 rfl).trans rfl) (hK _ _ (Below.refl _ _) ⟨fun _ => rfl, fun h => absurd (hC.symm.trans h) (by decide)⟩)
            | 13, ho =>
              obtain rfl := Option.some.inj ho
              have q12 : (((gc && (p == 0)) && (!nw)) = true → fa.tmps.getD 86 undef = .pointer (some ⟨w.heap.size, 4, none⟩)) ∧ (((gc && (p == 0)) && (!nw)) = false → fa.tmps.getD 86 undef = undef) := hdep ⟨12, .data⟩ (by simp) rfl _ 86 rfl rfl
              have qg : fa.tmps.getD 85 undef = .bool ((gc && (p == 0)) && (!nw)) := hdep ⟨11, .guard⟩ (by simp) rfl _ 85 rfl rfl
              rcases Bool.eq_false_or_eq_true ((gc && (p == 0)) && (!nw)) with hB | hB
              rotate_left
              · exact .inr ⟨wanted_no (j := 11) (d := 85) rfl rfl rfl (by rw [hs]; exact of_decide_eq_true (by kernel_rfl)) (qg.trans (congrArg Value.bool hB)) (by decide), fun h => absurd (show ((gc && (p == 0)) && (!nw)) = true from h) (by rw [show ((gc && (p == 0)) && (!nw)) = false from by rw [hB]; try rfl]; simp), fun _ => rfl⟩
              have hC : ((gc && (p == 0)) && (!nw)) = true := by rw [hB]; try rfl
              refine .inl ⟨wanted_of (j := 11) (d := 85) rfl rfl rfl (by rw [hs]; exact of_decide_eq_true (by kernel_rfl)) (qg.trans (congrArg Value.bool hB)), fun K hK => ?_⟩
              exact ld23 rfl (q12.1 hC) c4 (hK _ _ (Below.refl _ _) ⟨fun _ => rfl, fun h => absurd (hC.symm.trans h) (by decide)⟩)
            | 14, ho =>
              obtain rfl := Option.some.inj ho
              have q13 : (((gc && (p == 0)) && (!nw)) = true → fa.tmps.getD 87 undef = .slice ao n cap) ∧ (((gc && (p == 0)) && (!nw)) = false → fa.tmps.getD 87 undef = undef) := hdep ⟨13, .data⟩ (by simp) rfl _ 87 rfl rfl
              have qg : fa.tmps.getD 85 undef = .bool ((gc && (p == 0)) && (!nw)) := hdep ⟨11, .guard⟩ (by simp) rfl _ 85 rfl rfl
              rcases Bool.eq_false_or_eq_true ((gc && (p == 0)) && (!nw)) with hB | hB
              rotate_left
              · exact .inr ⟨wanted_no (j := 11) (d := 85) rfl rfl rfl (by rw [hs]; exact of_decide_eq_true (by kernel_rfl)) (qg.trans (congrArg Value.bool hB)) (by decide), fun h => absurd (show ((gc && (p == 0)) && (!nw)) = true from h) (by rw [show ((gc && (p == 0)) && (!nw)) = false from by rw [hB]; try rfl]; simp), fun _ => rfl⟩
              have hC : ((gc && (p == 0)) && (!nw)) = true := by rw [hB]; try rfl
              refine .inl ⟨wanted_of (j := 11) (d := 85) rfl rfl rfl (by rw [hs]; exact of_decide_eq_true (by kernel_rfl)) (qg.trans (congrArg Value.bool hB)), fun K hK => ?_⟩
              exact len23 rfl (q13.1 hC) (hK _ _ (Below.refl _ _) ⟨fun _ => rfl, fun h => absurd (hC.symm.trans h) (by decide)⟩)
            | 15, ho =>
              obtain rfl := Option.some.inj ho
              have q14 : (((gc && (p == 0)) && (!nw)) = true → fa.tmps.getD 88 undef = .int .i64 (n : Int)) ∧ (((gc && (p == 0)) && (!nw)) = false → fa.tmps.getD 88 undef = undef) := hdep ⟨14, .data⟩ (by simp) rfl _ 88 rfl rfl
              have qg : fa.tmps.getD 85 undef = .bool ((gc && (p == 0)) && (!nw)) := hdep ⟨11, .guard⟩ (by simp) rfl _ 85 rfl rfl
              rcases Bool.eq_false_or_eq_true ((gc && (p == 0)) && (!nw)) with hB | hB
              rotate_left
              · exact .inr ⟨wanted_no (j := 11) (d := 85) rfl rfl rfl (by rw [hs]; exact of_decide_eq_true (by kernel_rfl)) (qg.trans (congrArg Value.bool hB)) (by decide), fun h => absurd (show ((gc && (p == 0)) && (!nw)) = true from h) (by rw [show ((gc && (p == 0)) && (!nw)) = false from by rw [hB]; try rfl]; simp), fun _ => rfl⟩
              have hC : ((gc && (p == 0)) && (!nw)) = true := by rw [hB]; try rfl
              refine .inl ⟨wanted_of (j := 11) (d := 85) rfl rfl rfl (by rw [hs]; exact of_decide_eq_true (by kernel_rfl)) (qg.trans (congrArg Value.bool hB)), fun K hK => ?_⟩
              exact st_eql_3 rfl (q14.1 hC) rfl (hK _ _ (Below.refl _ _) ⟨fun _ => rfl, fun h => absurd (hC.symm.trans h) (by decide)⟩)
            | 16, ho =>
              obtain rfl := Option.some.inj ho
              have q11 : fa.tmps.getD 85 undef = .bool ((gc && (p == 0)) && (!nw)) := hdep ⟨11, .data⟩ (by simp) rfl _ 85 rfl rfl
              have q15 : (((gc && (p == 0)) && (!nw)) = true → fa.tmps.getD 89 undef = .bool ((n : Int) == 0)) ∧ (((gc && (p == 0)) && (!nw)) = false → fa.tmps.getD 89 undef = undef) := hdep ⟨15, .data⟩ (by simp) rfl _ 89 rfl rfl
              refine .inl ⟨rfl, fun K hK => ?_⟩
              exact st_and rfl q11 (fun h => q15.1 h) (hK _ _ (Below.refl _ _) rfl)
            | 17, ho =>
              obtain rfl := Option.some.inj ho
              have q16 : fa.tmps.getD 90 undef = .bool (((gc && (p == 0)) && (!nw)) && ((n : Int) == 0)) := hdep ⟨16, .data⟩ (by simp) rfl _ 90 rfl rfl
              refine .inl ⟨rfl, fun K hK => ?_⟩
              exact st_assign rfl q16 (hK _ _ (Below.refl _ _) rfl)
            | i + 18, ho => exact absurd (show i + 18 < 18 from hlt) (by omega)
          · intro a2 we hs hd hout hI hall
            obtain ⟨tmps, defers⟩ := a2
            have e0_5 : tmps.getD 5 undef = .bool (((gc && (p == 0)) && (!nw)) && ((n : Int) == 0)) := hall 17 _ 5 rfl rfl
            have e_5 : tmps.getD 5 undef = .bool g0 := by rw [e0_5, HG8.out rfl]
            simp only at hs hd hout
            have ef := frameAt [some 74, some 75, some 76, some 77, some 78, some 79, some 80, some 81, some 82, some 83, some 84, some 85, some 86, some 87, some 88, some 89, some 90, some 5] _ tmps hs hout
            obtain ⟨sv8, hu⟩ : ∃ u : Nat → Value, u = fun s => tmps.getD s undef := ⟨_, rfl⟩
            have eu_5 : sv8 5 = .bool g0 := by rw [hu]; exact e_5
            rw [← hu] at ef
            have ef2 : tmps = #[Value.agg #[Value.bool false, Value.int IntKind.i64 p, Value.int IntKind.i64 c, Value.bool nw, Value.slice ao n cap], Value.agg #[Value.int IntKind.u8 yy, Value.int IntKind.i64 nn], Value.pointer (some { block := w.heap.size, off := 0 }), Value.pointer (some { block := w.heap.size + 1, off := 0 }), Value.bool false, sv8 5, undef, undef, undef, undef, undef, undef, undef, undef, undef, undef, undef, undef, undef, undef, undef, Value.pointer (some { block := w.heap.size, off := 4 }), Value.slice ao n cap, Value.int IntKind.i64 n, Value.bool false, undef, sv3 26, sv3 27, sv3 28, sv3 29, sv3 30, sv3 31, sv3 32, sv3 33, sv3 34, sv3 35, sv3 36, sv3 37, sv3 38, sv3 39, sv3 40, sv3 41, sv3 42, sv3 43, sv3 44, sv3 45, Value.bool false, sv5 47, sv5 48, sv5 49, sv5 50, sv5 51, sv5 52, sv5 53, sv5 54, Value.pointer (some { block := w.heap.size, off := 0 }), Value.bool false, undef, undef, undef, undef, undef, undef, undef, undef, undef, undef, undef, undef, undef, undef, undef, undef, undef, sv8 74, sv8 75, sv8 76, sv8 77, sv8 78, sv8 79, sv8 80, sv8 81, sv8 82, sv8 83, sv8 84, sv8 85, sv8 86, sv8 87, sv8 88, sv8 89, sv8 90, undef, undef, undef, undef, undef, undef, undef, undef, undef, undef, undef, undef, undef, undef, undef, undef, undef, undef, undef, undef, undef, undef, undef, undef, undef, undef, undef, undef, undef, undef, undef, undef, undef, undef, undef, undef, undef, undef, undef, undef, undef, undef, undef, undef, undef, undef, undef, undef, undef, undef, undef, undef, undef, undef, undef, undef, undef, undef, undef, undef, undef, undef, undef, undef, undef, undef, undef, undef, undef, undef, undef, undef, undef, undef, undef, undef, undef, undef, undef, undef, undef, undef, undef, undef, undef, undef, undef, undef, undef, undef, undef, undef, undef, undef, undef, undef, undef, undef, undef, undef, undef, undef, undef, undef, undef, undef, undef, undef, undef, undef, undef, undef, undef, undef, undef, undef, undef, undef, undef, undef, undef, undef] := ef
            subst hd
            rw [eu_5] at ef2
            rw [ef2]
            clear ef ef2 hu hs hout hall e0_5 e_5 eu_5
            go_wp2_with fail
            go_meet
            case rel => exact ⟨rfl, hI⟩
        · go_step
          refine sqP [some 57, some 58, some 59, some 60, some 61, some 62, some 63, some 64, some 65, some 66, some 67, some 68, some 69, some 70, some 71, some 72, some 73, some 5] (psi7 p gc w.heap.size) (fun w' => Below wd.heap.size wd w') (by kernel_rfl) (by kernel_rfl) (psi7_stab p gc w.heap.size) (fun _ _ h hb => h.trans (hb.mono h.size)) (fun i o ho fa w1 hs hout hI hdep hold => ?_) ?_ (Below.refl _ _)
          · have hlt := (Array.getElem?_eq_some_iff.1 ho).1
            have c0 := (hI.cell (p := ⟨w.heap.size, 0, none⟩) hzd).trans FD.out.1.1
            have c1 := (hI.cell (p := ⟨w.heap.size, 1, none⟩) hzd).trans FD.out.1.2.1
            have c2 := (hI.cell (p := ⟨w.heap.size, 2, none⟩) hzd).trans FD.out.1.2.2.1
            have c3 := (hI.cell (p := ⟨w.heap.size, 3, none⟩) hzd).trans FD.out.1.2.2.2.1
            have c4 := (hI.cell (p := ⟨w.heap.size, 4, none⟩) hzd).trans FD.out.1.2.2.2.2
            match i, ho with
            | 0, ho =>
              obtain rfl := Option.some.inj ho
              refine .inl ⟨rfl, fun K hK => ?_⟩
              exact st_move rfl ((hold 17 _ 5 rfl rfl (by kernel_rfl)).trans rfl) (hK _ _ (Below.refl _ _) rfl)
            | 1, ho =>
              obtain rfl := Option.some.inj ho
              have q0 : fa.tmps.getD 57 undef = .bool gc := hdep ⟨0, .data⟩ (by simp) rfl _ 57 rfl rfl
              refine .inl ⟨rfl, fun K hK => ?_⟩
              exact st_move rfl q0 (hK _ _ (Below.refl _ _) rfl)
            | 2, ho =>
              obtain rfl := Option.some.inj ho
              have qg : fa.tmps.getD 58 undef = .bool gc := hdep ⟨1, .guard⟩ (by simp) rfl _ 58 rfl rfl
              rcases Bool.eq_false_or_eq_true gc with hB | hB
              rotate_left
              · exact .inr ⟨wanted_no (j := 1) (d := 58) rfl rfl rfl (by rw [hs]; exact of_decide_eq_true (by kernel_rfl)) (qg.trans (congrArg Value.bool hB)) (by decide), fun h => absurd (show gc = true from h) (by rw [show gc = false from by rw [hB]; try rfl]; simp), fun _ => rfl⟩
              have hC : gc = true := by rw [hB]; try rfl
              refine .inl ⟨wanted_of (j := 1) (d := 58) rfl rfl rfl (by rw [hs]; exact of_decide_eq_true (by kernel_rfl)) (qg.trans (congrArg Value.bool hB)), fun K hK => ?_⟩
              exact fa38_1 rfl ((hout 2 rfl).trans rfl) (hK _ _ (Below.refl _ _) ⟨fun _ => rfl, fun h => absurd (hC.symm.trans h) (by decide)⟩)
            | 3, ho =>
              obtain rfl := Option.some.inj ho
              have q2 : (gc = true → fa.tmps.getD 59 undef = .pointer (some ⟨w.heap.size, 1, none⟩)) ∧ (gc = false → fa.tmps.getD 59 undef = undef) := hdep ⟨2, .data⟩ (by simp) rfl _ 59 rfl rfl
              have qg : fa.tmps.getD 58 undef = .bool gc := hdep ⟨1, .guard⟩ (by simp) rfl _ 58 rfl rfl
              rcases Bool.eq_false_or_eq_true gc with hB | hB
              rotate_left
              · exact .inr ⟨wanted_no (j := 1) (d := 58) rfl rfl rfl (by rw [hs]; exact of_decide_eq_true (by kernel_rfl)) (qg.trans (congrArg Value.bool hB)) (by decide), fun h => absurd (show gc = true from h) (by rw [show gc = false from by rw [hB]; try rfl]; simp), fun _ => rfl⟩
              have hC : gc = true := by rw [hB]; try rfl
              refine .inl ⟨wanted_of (j := 1) (d := 58) rfl rfl rfl (by rw [hs]; exact of_decide_eq_true (by kernel_rfl)) (qg.trans (congrArg Value.bool hB)), fun K hK => ?_⟩
              exact ld3 rfl (q2.1 hC) c1 (hK _ _ (Below.refl _ _) ⟨fun _ => rfl, fun h => absurd (hC.symm.trans h) (by decide)⟩)
            | 4, ho =>
              obtain rfl := Option.some.inj ho
              have q3 : (gc = true → fa.tmps.getD 60 undef = .int .i64 p) ∧ (gc = false → fa.tmps.getD 60 undef = undef) := hdep ⟨3, .data⟩ (by simp) rfl _ 60 rfl rfl
              have qg : fa.tmps.getD 58 undef = .bool gc := hdep ⟨1, .guard⟩ (by simp) rfl _ 58 rfl rfl
              rcases Bool.eq_false_or_eq_true gc with hB | hB
              rotate_left
              · exact .inr ⟨wanted_no (j := 1) (d := 58) rfl rfl rfl (by rw [hs]; exact of_decide_eq_true (by kernel_rfl)) (qg.trans (congrArg Value.bool hB)) (by decide), fun h => absurd (show gc = true from h) (by rw [show gc = false from by rw [hB]; try rfl]; simp), fun _ => rfl⟩
              have hC : gc = true := by rw [hB]; try rfl
              refine .inl ⟨wanted_of (j := 1) (d := 58) rfl rfl rfl (by rw [hs]; exact of_decide_eq_true (by kernel_rfl)) (qg.trans (congrArg Value.bool hB)), fun K hK => ?_⟩
              exact st_geq_3 rfl (q3.1 hC) rfl (hK _ _ (Below.refl _ _) ⟨fun _ => rfl, fun h => absurd (hC.symm.trans h) (by decide)⟩)
            | 5, ho =>
              obtain rfl := Option.some.inj ho
              have q1 : fa.tmps.getD 58 undef = .bool gc := hdep ⟨1, .data⟩ (by simp) rfl _ 58 rfl rfl
              have q4 : (gc = true → fa.tmps.getD 61 undef = .bool (decide ((-13) ≤ p))) ∧ (gc = false → fa.tmps.getD 61 undef = undef) := hdep ⟨4, .data⟩ (by simp) rfl _ 61 rfl rfl
              refine .inl ⟨rfl, fun K hK => ?_⟩
              exact st_and rfl q1 (fun h => q4.1 h) (hK _ _ (Below.refl _ _) rfl)
            | 6, ho =>
              obtain rfl := Option.some.inj ho
              have q5 : fa.tmps.getD 62 undef = .bool (gc && (decide ((-13) ≤ p))) := hdep ⟨5, .data⟩ (by simp) rfl _ 62 rfl rfl
              refine .inl ⟨rfl, fun K hK => ?_⟩
              exact st_move rfl q5 (hK _ _ (Below.refl _ _) rfl)
            | 7, ho =>
              obtain rfl := Option.some.inj ho
              have qg : fa.tmps.getD 63 undef = .bool (gc && (decide ((-13) ≤ p))) := hdep ⟨6, .guard⟩ (by simp) rfl _ 63 rfl rfl
              rcases Bool.eq_false_or_eq_true (gc && (decide ((-13) ≤ p))) with hB | hB
              rotate_left
              · exact .inr ⟨wanted_no (j := 6) (d := 63) rfl rfl rfl (by rw [hs]; exact of_decide_eq_true (by kernel_rfl)) (qg.trans (congrArg Value.bool hB)) (by decide), fun h => absurd (show (gc && (decide ((-13) ≤ p))) = true from h) (by rw [show (gc && (decide ((-13) ≤ p))) = false from by rw [hB]; try rfl]; simp), fun _ => rfl⟩
              have hC : (gc && (decide ((-13) ≤ p))) = true := by rw [hB]; try rfl
              refine .inl ⟨wanted_of (j := 6) (d := 63) rfl rfl rfl (by rw [hs]; exact of_decide_eq_true (by kernel_rfl)) (qg.trans (congrArg Value.bool hB)), fun K hK => ?_⟩
              exact fa38_1 rfl ((hout 2 rfl).trans rfl) (hK _ _ (Below.refl _ _) ⟨fun _ => rfl, fun h => absurd (hC.symm.trans h) (by decide)⟩)
            | 8, ho =>
              obtain rfl := Option.some.inj ho
              have q7 : ((gc && (decide ((-13) ≤ p))) = true → fa.tmps.getD 64 undef = .pointer (some ⟨w.heap.size, 1, none⟩)) ∧ ((gc && (decide ((-13) ≤ p))) = false → fa.tmps.getD 64 undef = undef) := hdep ⟨7, .data⟩ (by simp) rfl _ 64 rfl rfl
              have qg : fa.tmps.getD 63 undef = .bool (gc && (decide ((-13) ≤ p))) := hdep ⟨6, .guard⟩ (by simp) rfl _ 63 rfl rfl
              rcases Bool.eq_false_or_eq_true (gc && (decide ((-13) ≤ p))) with hB | hB
              rotate_left
              · exact .inr ⟨wanted_no (j := 6) (d := 63) rfl rfl rfl (by rw [hs]; exact of_decide_eq_true (by kernel_rfl)) (qg.trans (congrArg Value.bool hB)) (by decide), fun h => absurd (show (gc && (decide ((-13) ≤ p))) = true from h) (by rw [show (gc && (decide ((-13) ≤ p))) = false from by rw [hB]; try rfl]; simp), fun _ => rfl⟩
              have hC : (gc && (decide ((-13) ≤ p))) = true := by rw [hB]; try rfl
              refine .inl ⟨wanted_of (j := 6) (d := 63) rfl rfl rfl (by rw [hs]; exact of_decide_eq_true (by kernel_rfl)) (qg.trans (congrArg Value.bool hB)), fun K hK => ?_⟩
              exact ld3 rfl (q7.1 hC) c1 (hK _ _ (Below.refl _ _) ⟨fun _ => rfl, fun h => absurd (hC.symm.trans h) (by decide)⟩)
            | 9, ho =>
              obtain rfl := Option.some.inj ho
              have q8 : ((gc && (decide ((-13) ≤ p))) = true → fa.tmps.getD 65 undef = .int .i64 p) ∧ ((gc && (decide ((-13) ≤ p))) = false → fa.tmps.getD 65 undef = undef) := hdep ⟨8, .data⟩ (by simp) rfl _ 65 rfl rfl
              have qg : fa.tmps.getD 63 undef = .bool (gc && (decide ((-13) ≤ p))) := hdep ⟨6, .guard⟩ (by simp) rfl _ 63 rfl rfl
              rcases Bool.eq_false_or_eq_true (gc && (decide ((-13) ≤ p))) with hB | hB
              rotate_left
              · exact .inr ⟨wanted_no (j := 6) (d := 63) rfl rfl rfl (by rw [hs]; exact of_decide_eq_true (by kernel_rfl)) (qg.trans (congrArg Value.bool hB)) (by decide), fun h => absurd (show (gc && (decide ((-13) ≤ p))) = true from h) (by rw [show (gc && (decide ((-13) ≤ p))) = false from by rw [hB]; try rfl]; simp), fun _ => rfl⟩
              have hC : (gc && (decide ((-13) ≤ p))) = true := by rw [hB]; try rfl
              refine .inl ⟨wanted_of (j := 6) (d := 63) rfl rfl rfl (by rw [hs]; exact of_decide_eq_true (by kernel_rfl)) (qg.trans (congrArg Value.bool hB)), fun K hK => ?_⟩
              exact st_leq_3 rfl (q8.1 hC) rfl (hK _ _ (Below.refl _ _) ⟨fun _ => rfl, fun h => absurd (hC.symm.trans h) (by decide)⟩)
            | 10, ho =>
              obtain rfl := Option.some.inj ho
              have q6 : fa.tmps.getD 63 undef = .bool (gc && (decide ((-13) ≤ p))) := hdep ⟨6, .data⟩ (by simp) rfl _ 63 rfl rfl
              have q9 : ((gc && (decide ((-13) ≤ p))) = true → fa.tmps.getD 66 undef = .bool (decide (p ≤ 179))) ∧ ((gc && (decide ((-13) ≤ p))) = false → fa.tmps.getD 66 undef = undef) := hdep ⟨9, .data⟩ (by simp) rfl _ 66 rfl rfl
              refine .inl ⟨rfl, fun K hK => ?_⟩
              exact st_and rfl q6 (fun h => q9.1 h) (hK _ _ (Below.refl _ _) rfl)
            | 11, ho =>
              obtain rfl := Option.some.inj ho
              have q10 : fa.tmps.getD 67 undef = .bool ((gc && (decide ((-13) ≤ p))) && (decide (p ≤ 179))) := hdep ⟨10, .data⟩ (by simp) rfl _ 67 rfl rfl
              refine .inl ⟨rfl, fun K hK => ?_⟩
              exact st_move rfl q10 (hK _ _ (Below.refl _ _) rfl)
            | 12, ho =>
              obtain rfl := Option.some.inj ho
              have qg : fa.tmps.getD 68 undef = .bool ((gc && (decide ((-13) ≤ p))) && (decide (p ≤ 179))) := hdep ⟨11, .guard⟩ (by simp) rfl _ 68 rfl rfl
              rcases Bool.eq_false_or_eq_true ((gc && (decide ((-13) ≤ p))) && (decide (p ≤ 179))) with hB | hB
              rotate_left
              · exact .inr ⟨wanted_no (j := 11) (d := 68) rfl rfl rfl (by rw [hs]; exact of_decide_eq_true (by kernel_rfl)) (qg.trans (congrArg Value.bool hB)) (by decide), fun h => absurd (show ((gc && (decide ((-13) ≤ p))) && (decide (p ≤ 179))) = true from h) (by rw [show ((gc && (decide ((-13) ≤ p))) && (decide (p ≤ 179))) = false from by rw [hB]; try rfl]; simp), fun _ => rfl⟩
              have hC : ((gc && (decide ((-13) ≤ p))) && (decide (p ≤ 179))) = true := by rw [hB]; try rfl
              refine .inl ⟨wanted_of (j := 11) (d := 68) rfl rfl rfl (by rw [hs]; exact of_decide_eq_true (by kernel_rfl)) (qg.trans (congrArg Value.bool hB)), fun K hK => ?_⟩
              exact fa38_1 rfl ((hout 2 rfl).trans rfl) (hK _ _ (Below.refl _ _) ⟨fun _ => rfl, fun h => absurd (hC.symm.trans h) (by decide)⟩)
            | 13, ho =>
              obtain rfl := Option.some.inj ho
              have q12 : (((gc && (decide ((-13) ≤ p))) && (decide (p ≤ 179))) = true → fa.tmps.getD 69 undef = .pointer (some ⟨w.heap.size, 1, none⟩)) ∧ (((gc && (decide ((-13) ≤ p))) && (decide (p ≤ 179))) = false → fa.tmps.getD 69 undef = undef) := hdep ⟨12, .data⟩ (by simp) rfl _ 69 rfl rfl
              have qg : fa.tmps.getD 68 undef = .bool ((gc && (decide ((-13) ≤ p))) && (decide (p ≤ 179))) := hdep ⟨11, .guard⟩ (by simp) rfl _ 68 rfl rfl
              rcases Bool.eq_false_or_eq_true ((gc && (decide ((-13) ≤ p))) && (decide (p ≤ 179))) with hB | hB
              rotate_left
              · exact .inr ⟨wanted_no (j := 11) (d := 68) rfl rfl rfl (by rw [hs]; exact of_decide_eq_true (by kernel_rfl)) (qg.trans (congrArg Value.bool hB)) (by decide), fun h => absurd (show ((gc && (decide ((-13) ≤ p))) && (decide (p ≤ 179))) = true from h) (by rw [show ((gc && (decide ((-13) ≤ p))) && (decide (p ≤ 179))) = false from by rw [hB]; try rfl]; simp), fun _ => rfl⟩
              have hC : ((gc && (decide ((-13) ≤ p))) && (decide (p ≤ 179))) = true := by rw [hB]; try rfl
              refine .inl ⟨wanted_of (j := 11) (d := 68) rfl rfl rfl (by rw [hs]; exact of_decide_eq_true (by kernel_rfl)) (qg.trans (congrArg Value.bool hB)), fun K hK => ?_⟩
              exact ld3 rfl (q12.1 hC) c1 (hK _ _ (Below.refl _ _) ⟨fun _ => rfl, fun h => absurd (hC.symm.trans h) (by decide)⟩)
            | 14, ho =>
              obtain rfl := Option.some.inj ho
              have q13 : (((gc && (decide ((-13) ≤ p))) && (decide (p ≤ 179))) = true → fa.tmps.getD 70 undef = .int .i64 p) ∧ (((gc && (decide ((-13) ≤ p))) && (decide (p ≤ 179))) = false → fa.tmps.getD 70 undef = undef) := hdep ⟨13, .data⟩ (by simp) rfl _ 70 rfl rfl
              have qg : fa.tmps.getD 68 undef = .bool ((gc && (decide ((-13) ≤ p))) && (decide (p ≤ 179))) := hdep ⟨11, .guard⟩ (by simp) rfl _ 68 rfl rfl
              rcases Bool.eq_false_or_eq_true ((gc && (decide ((-13) ≤ p))) && (decide (p ≤ 179))) with hB | hB
              rotate_left
              · exact .inr ⟨wanted_no (j := 11) (d := 68) rfl rfl rfl (by rw [hs]; exact of_decide_eq_true (by kernel_rfl)) (qg.trans (congrArg Value.bool hB)) (by decide), fun h => absurd (show ((gc && (decide ((-13) ≤ p))) && (decide (p ≤ 179))) = true from h) (by rw [show ((gc && (decide ((-13) ≤ p))) && (decide (p ≤ 179))) = false from by rw [hB]; try rfl]; simp), fun _ => rfl⟩
              have hC : ((gc && (decide ((-13) ≤ p))) && (decide (p ≤ 179))) = true := by rw [hB]; try rfl
              refine .inl ⟨wanted_of (j := 11) (d := 68) rfl rfl rfl (by rw [hs]; exact of_decide_eq_true (by kernel_rfl)) (qg.trans (congrArg Value.bool hB)), fun K hK => ?_⟩
              exact st_rem2_3 rfl (q13.1 hC) rfl (hK _ _ (Below.refl _ _) ⟨fun _ => rfl, fun h => absurd (hC.symm.trans h) (by decide)⟩)
            | 15, ho =>
              obtain rfl := Option.some.inj ho
              have q14 : (((gc && (decide ((-13) ≤ p))) && (decide (p ≤ 179))) = true → fa.tmps.getD 71 undef = .int .i64 (Int.tmod p 2)) ∧ (((gc && (decide ((-13) ≤ p))) && (decide (p ≤ 179))) = false → fa.tmps.getD 71 undef = undef) := hdep ⟨14, .data⟩ (by simp) rfl _ 71 rfl rfl
              have qg : fa.tmps.getD 68 undef = .bool ((gc && (decide ((-13) ≤ p))) && (decide (p ≤ 179))) := hdep ⟨11, .guard⟩ (by simp) rfl _ 68 rfl rfl
              rcases Bool.eq_false_or_eq_true ((gc && (decide ((-13) ≤ p))) && (decide (p ≤ 179))) with hB | hB
              rotate_left
              · exact .inr ⟨wanted_no (j := 11) (d := 68) rfl rfl rfl (by rw [hs]; exact of_decide_eq_true (by kernel_rfl)) (qg.trans (congrArg Value.bool hB)) (by decide), fun h => absurd (show ((gc && (decide ((-13) ≤ p))) && (decide (p ≤ 179))) = true from h) (by rw [show ((gc && (decide ((-13) ≤ p))) && (decide (p ≤ 179))) = false from by rw [hB]; try rfl]; simp), fun _ => rfl⟩
              have hC : ((gc && (decide ((-13) ≤ p))) && (decide (p ≤ 179))) = true := by rw [hB]; try rfl
              refine .inl ⟨wanted_of (j := 11) (d := 68) rfl rfl rfl (by rw [hs]; exact of_decide_eq_true (by kernel_rfl)) (qg.trans (congrArg Value.bool hB)), fun K hK => ?_⟩
              exact st_neq_3 rfl (q14.1 hC) rfl (hK _ _ (Below.refl _ _) ⟨fun _ => rfl, fun h => absurd (hC.symm.trans h) (by decide)⟩)
            | 16, ho =>
              obtain rfl := Option.some.inj ho
              have q11 : fa.tmps.getD 68 undef = .bool ((gc && (decide ((-13) ≤ p))) && (decide (p ≤ 179))) := hdep ⟨11, .data⟩ (by simp) rfl _ 68 rfl rfl
              have q15 : (((gc && (decide ((-13) ≤ p))) && (decide (p ≤ 179))) = true → fa.tmps.getD 72 undef = .bool ((Int.tmod p 2) != 0)) ∧ (((gc && (decide ((-13) ≤ p))) && (decide (p ≤ 179))) = false → fa.tmps.getD 72 undef = undef) := hdep ⟨15, .data⟩ (by simp) rfl _ 72 rfl rfl
              refine .inl ⟨rfl, fun K hK => ?_⟩
              exact st_and rfl q11 (fun h => q15.1 h) (hK _ _ (Below.refl _ _) rfl)
            | 17, ho =>
              obtain rfl := Option.some.inj ho
              have q16 : fa.tmps.getD 73 undef = .bool (((gc && (decide ((-13) ≤ p))) && (decide (p ≤ 179))) && ((Int.tmod p 2) != 0)) := hdep ⟨16, .data⟩ (by simp) rfl _ 73 rfl rfl
              refine .inl ⟨rfl, fun K hK => ?_⟩
              exact st_assign rfl q16 (hK _ _ (Below.refl _ _) rfl)
            | i + 18, ho => exact absurd (show i + 18 < 18 from hlt) (by omega)
          · intro a2 we hs hd hout hI hall
            obtain ⟨tmps, defers⟩ := a2
            have e0_5 : tmps.getD 5 undef = .bool (((gc && (decide ((-13) ≤ p))) && (decide (p ≤ 179))) && ((Int.tmod p 2) != 0)) := hall 17 _ 5 rfl rfl
            have e_5 : tmps.getD 5 undef = .bool g0 := by rw [e0_5, HG7.out rfl]
            simp only at hs hd hout
            have ef := frameAt [some 57, some 58, some 59, some 60, some 61, some 62, some 63, some 64, some 65, some 66, some 67, some 68, some 69, some 70, some 71, some 72, some 73, some 5] _ tmps hs hout
            obtain ⟨sv7, hu⟩ : ∃ u : Nat → Value, u = fun s => tmps.getD s undef := ⟨_, rfl⟩
            have eu_5 : sv7 5 = .bool g0 := by rw [hu]; exact e_5
            rw [← hu] at ef
            have ef2 : tmps = #[Value.agg #[Value.bool true, Value.int IntKind.i64 p, Value.int IntKind.i64 c, Value.bool nw, Value.slice ao n cap], Value.agg #[Value.int IntKind.u8 yy, Value.int IntKind.i64 nn], Value.pointer (some { block := w.heap.size, off := 0 }), Value.pointer (some { block := w.heap.size + 1, off := 0 }), Value.bool false, sv7 5, undef, undef, undef, undef, undef, undef, undef, undef, undef, undef, undef, undef, undef, undef, undef, Value.pointer (some { block := w.heap.size, off := 4 }), Value.slice ao n cap, Value.int IntKind.i64 n, Value.bool false, undef, sv3 26, sv3 27, sv3 28, sv3 29, sv3 30, sv3 31, sv3 32, sv3 33, sv3 34, sv3 35, sv3 36, sv3 37, sv3 38, sv3 39, sv3 40, sv3 41, sv3 42, sv3 43, sv3 44, sv3 45, Value.bool false, sv5 47, sv5 48, sv5 49, sv5 50, sv5 51, sv5 52, sv5 53, sv5 54, Value.pointer (some { block := w.heap.size, off := 0 }), Value.bool true, sv7 57, sv7 58, sv7 59, sv7 60, sv7 61, sv7 62, sv7 63, sv7 64, sv7 65, sv7 66, sv7 67, sv7 68, sv7 69, sv7 70, sv7 71, sv7 72, sv7 73, undef, undef, undef, undef, undef, undef, undef, undef, undef, undef, undef, undef, undef, undef, undef, undef, undef, undef, undef, undef, undef, undef, undef, undef, undef, undef, undef, undef, undef, undef, undef, undef, undef, undef, undef, undef, undef, undef, undef, undef, undef, undef, undef, undef, undef, undef, undef, undef, undef, undef, undef, undef, undef, undef, undef, undef, undef, undef, undef, undef, undef, undef, undef, undef, undef, undef, undef, undef, undef, undef, undef, undef, undef, undef, undef, undef, undef, undef, undef, undef, undef, undef, undef, undef, undef, undef, undef, undef, undef, undef, undef, undef, undef, undef, undef, undef, undef, undef, undef, undef, undef, undef, undef, undef, undef, undef, undef, undef, undef, undef, undef, undef, undef, undef, undef, undef, undef, undef, undef, undef, undef, undef, undef, undef, undef, undef, undef, undef, undef, undef, undef, undef, undef, undef, undef, undef, undef, undef, undef] := ef
            subst hd
            rw [eu_5] at ef2
            rw [ef2]
            clear ef ef2 hu hs hout hall e0_5 e_5 eu_5
            go_wp2_with fail
            go_meet
            case rel => exact ⟨rfl, hI⟩
      case rest =>
        obtain ⟨rfl, hbE⟩ := hcut
        obtain ⟨W1, hW1⟩ : ∃ W1 : World, W1 = wc := ⟨_, rfl⟩
        rw [← hW1] at hbE ⊢
        clear hW1
        have FE := Lib.hid (FD.out.below hbE hzd)
        have hb3 : Below w.heap.size w W1 := hb2.trans (hbE.mono hb2.size)
        have hz3 : w.heap.size < W1.heap.size := by have := hbE.size; omega
        have HL3 := Lib.hid (HL.out.below hb3)
        clear hbE FD hb2 hzd HL
        go_wp2_with fail
        go_loopg [5, 6] (n + 1) (fun g x y wr => ∃ k : Nat, ∃ b : Bool, k ≤ n ∧ g = n + 1 - k ∧ y = .int .i64 k ∧ x = .bool (g0 && b) ∧ Hid (b = true ↔ ∀ j, j < k → Fine ps j) ∧ Below W1.heap.size W1 wr)
        case atStart => exact ⟨0, true, by omega, rfl, rfl, by simp, Lib.hid ⟨fun _ j h => absurd h (by omega), fun _ => rfl⟩, Below.refl _ _⟩
        case round =>
          obtain ⟨k, b, hk, hg, rfl, rfl, HB, hb⟩ := hrel
          have HM := Lib.hid hg
          clear hg
          have hsz := hb.size
          have FR := Lib.hid (FE.out.below hb hz3)
          have c4 := FR.out.1.2.2.2.2
          by_cases hlt : k < n
          · obtain ⟨bb, o, rfl, hbb, hf⟩ := Lie.at (HL3.out.below hb) (i := k) (by rw [← HN.out]; exact hlt)
            obtain ⟨pp, hpp⟩ : ∃ pp, pp = ps.getD k Ps.nil := ⟨_, rfl⟩
            rw [← hpp] at hf
            have hd0 : 0 ≤ pp.d := by rw [hpp]; exact HP.out.at k
            obtain ⟨j, hj⟩ : ∃ j : Nat, 0 < k → k = j + 1 := ⟨k - 1, fun h => by omega⟩
            obtain ⟨qq, hqq⟩ : ∃ qq, qq = ps.getD j Ps.nil := ⟨_, rfl⟩
            have hd2 : 0 ≤ qq.d := by rw [hqq]; exact HP.out.at j
            have HF2 : Hid (0 < k → Four wr bb (o + j * 4) qq) := Lib.hid fun h => by
              obtain ⟨b1, o1, e1, hbb1, hf1⟩ := Lie.at (HL3.out.below hb) (i := j) (by rw [← HN.out]; have := hj h; omega)
              obtain ⟨rfl, rfl⟩ : b1 = bb ∧ o1 = o := by simpa using e1.symm
              rw [hqq]; exact hf1
            obtain ⟨y, m, f, d⟩ := pp
            obtain ⟨y2, m2, f2, d2⟩ := qq
            simp only at hd0 hd2
            have HPP := Lib.hid hpp
            have HQQ := Lib.hid hqq
            have HJ0 := Lib.hid hj
            have HJ : Hid (0 < k → IntKind.i64.wrap ((k : Int) - 1) = (j : Int) ∧ j < n) := Lib.hid fun h => ⟨wrap_pred (hj h) (by omega), by have := hj h; omega⟩
            obtain ⟨cv, hcv⟩ : ∃ cv : Int, (if canc ⟨y2, m2, f2, d2⟩ ⟨y, m, f, d⟩ = true then 1 else 0) = cv := ⟨_, rfl⟩
            have HCV := Lib.hid hcv
            obtain ⟨bd, hbd⟩ : ∃ bd : Bool, ((((((decide (y < 1)) || (decide (6 < y))) || (decide (m < 0))) || (decide (2047 < m))) || (decide (1 < d))) || ((decide (0 < (k : Int))) && (cv == 1))) = bd := ⟨_, rfl⟩
            have HBD := Lib.hid hbd
            clear hpp hqq hj hcv hbd
            obtain ⟨e0, e1, e2, e3⟩ := hf
            simp only at e0 e1 e2 e3
            have b0 : (0 : Int) ≤ (k : Int) := by omega
            have b9 : (k : Int) < n := by omega
            go_wp2_with fail
            obtain ⟨V0, hV0⟩ : ∃ V0 : World, V0 = wr.alloc (.cells #[.int .u8 y, .int .i64 m, .bool f, .int .u8 d] 33) := ⟨_, rfl⟩
            rw [← hV0]
            have P1 : Hid (Four V0 wr.heap.size 0 ⟨y, m, f, d⟩) := by rw [hV0]; exact four_new _ _ _ _ _
            have F1 : Hid (Five V0 w.heap.size (.bool i) (.int .i64 p) (.int .i64 c) (.bool nw) (.slice (some ⟨bb, o, none⟩) n cap)) := by rw [hV0]; exact FR.out.below (below1 _ _) (by omega)
            have Q1 : Hid (0 < k → Four V0 bb (o + j * 4) ⟨y2, m2, f2, d2⟩) := Lib.hid fun h => by rw [hV0]; exact (HF2.out h).below (below1 _ _) hbb
            have hbV : Below W1.heap.size W1 V0 := by rw [hV0]; exact hb.alloc hsz _
            have hV1 : wr.heap.size < V0.heap.size := by rw [hV0]; simp
            have hV2 : w.heap.size < V0.heap.size := by omega
            have hV3 : bb < V0.heap.size := by omega
            clear hV0 HF2 e0 e1 e2 e3 b0 b9 c4 FR hbb
            refine rgP [some 103, some 104, some 105, some 106, some 107, some 108, some 109, some 110, some 111, some 112, some 113, some 114, some 115, some 116, some 117, some 118, some 119, some 120, some 121, some 122, some 123, some 124, some 125, some 126, some 127, some 128, some 129, some 130, some 131, some 132, some 133, some 134, some 135, some 136, some 137, some 138, some 139, some 140, some 141, some 142, some 143, some 144] (psi13 y m d y2 m2 d2 cv f f2 bb o n cap k j w.heap.size wr.heap.size) (fun w' => Below V0.heap.size V0 w') (by kernel_rfl) (by kernel_rfl) (by kernel_rfl) (psi13_stab y m d y2 m2 d2 cv f f2 bb o n cap k j w.heap.size wr.heap.size) (fun _ _ h hb => h.trans (hb.mono h.size)) (fun i o ho fa w1 hs hout hI hdep hold => ?_) ?_ (Below.refl _ _).drew
            · have hlt := (Array.getElem?_eq_some_iff.1 ho).1
              have P2 := P1.out.below hI hV1
              have t0 := P2.1
              have t1 := P2.2.1
              have t2 := P2.2.2.1
              have t3 := P2.2.2.2
              have c4 := (hI.cell (p := ⟨w.heap.size, 4, none⟩) hV2).trans F1.out.1.2.2.2.2
              match i, ho with
              | 0, ho =>
                obtain rfl := Option.some.inj ho
                refine .inl ⟨rfl, fun K hK => ?_⟩
                exact fa33_0 rfl ((hout 7 rfl).trans rfl) (hK _ _ (Below.refl _ _) rfl)
              | 1, ho =>
                obtain rfl := Option.some.inj ho
                have q0 : fa.tmps.getD 103 undef = .pointer (some ⟨wr.heap.size, 0, none⟩) := hdep ⟨0, .data⟩ (by simp) rfl _ 103 rfl rfl
                refine .inl ⟨rfl, fun K hK => ?_⟩
                exact fa30_0 rfl q0 (hK _ _ (Below.refl _ _) rfl)
              | 2, ho =>
                obtain rfl := Option.some.inj ho
                have q1 : fa.tmps.getD 104 undef = .pointer (some ⟨wr.heap.size, 0, none⟩) := hdep ⟨1, .data⟩ (by simp) rfl _ 104 rfl rfl
                refine .inl ⟨rfl, fun K hK => ?_⟩
                exact ld5 rfl q1 t0 (hK _ _ (Below.refl _ _) rfl)
              | 3, ho =>
                obtain rfl := Option.some.inj ho
                have q2 : fa.tmps.getD 105 undef = .int .u8 y := hdep ⟨2, .data⟩ (by simp) rfl _ 105 rfl rfl
                refine .inl ⟨rfl, fun K hK => ?_⟩
                exact st_lss_5 rfl q2 rfl (hK _ _ (Below.refl _ _) rfl)
              | 4, ho =>
                obtain rfl := Option.some.inj ho
                have q3 : fa.tmps.getD 106 undef = .bool (decide (y < 1)) := hdep ⟨3, .data⟩ (by simp) rfl _ 106 rfl rfl
                refine .inl ⟨rfl, fun K hK => ?_⟩
                exact st_move rfl q3 (hK _ _ (Below.refl _ _) rfl)
              | 5, ho =>
                obtain rfl := Option.some.inj ho
                have qg : fa.tmps.getD 107 undef = .bool (decide (y < 1)) := hdep ⟨4, .guard⟩ (by simp) rfl _ 107 rfl rfl
                rcases Bool.eq_false_or_eq_true (decide (y < 1)) with hB | hB
                · exact .inr ⟨wanted_no (j := 4) (d := 107) rfl rfl rfl (by rw [hs]; exact of_decide_eq_true (by kernel_rfl)) (qg.trans (congrArg Value.bool hB)) (by decide), fun h => absurd (show (!(decide (y < 1))) = true from h) (by rw [show (!(decide (y < 1))) = false from by rw [hB]; try rfl]; simp), fun _ => rfl⟩
                have hC : (!(decide (y < 1))) = true := by rw [hB]; try rfl
                refine .inl ⟨wanted_of (j := 4) (d := 107) rfl rfl rfl (by rw [hs]; exact of_decide_eq_true (by kernel_rfl)) (qg.trans (congrArg Value.bool hB)), fun K hK => ?_⟩
                exact fa33_0 rfl ((hout 7 rfl).trans rfl) (hK _ _ (Below.refl _ _) ⟨fun _ => rfl, fun h => absurd (hC.symm.trans h) (by decide)⟩)
              | 6, ho =>
                obtain rfl := Option.some.inj ho
                have q5 : ((!(decide (y < 1))) = true → fa.tmps.getD 108 undef = .pointer (some ⟨wr.heap.size, 0, none⟩)) ∧ ((!(decide (y < 1))) = false → fa.tmps.getD 108 undef = undef) := hdep ⟨5, .data⟩ (by simp) rfl _ 108 rfl rfl
                have qg : fa.tmps.getD 107 undef = .bool (decide (y < 1)) := hdep ⟨4, .guard⟩ (by simp) rfl _ 107 rfl rfl
                rcases Bool.eq_false_or_eq_true (decide (y < 1)) with hB | hB
                · exact .inr ⟨wanted_no (j := 4) (d := 107) rfl rfl rfl (by rw [hs]; exact of_decide_eq_true (by kernel_rfl)) (qg.trans (congrArg Value.bool hB)) (by decide), fun h => absurd (show (!(decide (y < 1))) = true from h) (by rw [show (!(decide (y < 1))) = false from by rw [hB]; try rfl]; simp), fun _ => rfl⟩
                have hC : (!(decide (y < 1))) = true := by rw [hB]; try rfl
                refine .inl ⟨wanted_of (j := 4) (d := 107) rfl rfl rfl (by rw [hs]; exact of_decide_eq_true (by kernel_rfl)) (qg.trans (congrArg Value.bool hB)), fun K hK => ?_⟩
                exact fa30_0 rfl (q5.1 hC) (hK _ _ (Below.refl _ _) ⟨fun _ => rfl, fun h => absurd (hC.symm.trans h) (by decide)⟩)
              | 7, ho =>
                obtain rfl := Option.some.inj ho
                have q6 : ((!(decide (y < 1))) = true → fa.tmps.getD 109 undef = .pointer (some ⟨wr.heap.size, 0, none⟩)) ∧ ((!(decide (y < 1))) = false → fa.tmps.getD 109 undef = undef) := hdep ⟨6, .data⟩ (by simp) rfl _ 109 rfl rfl
                have qg : fa.tmps.getD 107 undef = .bool (decide (y < 1)) := hdep ⟨4, .guard⟩ (by simp) rfl _ 107 rfl rfl
                rcases Bool.eq_false_or_eq_true (decide (y < 1)) with hB | hB
                · exact .inr ⟨wanted_no (j := 4) (d := 107) rfl rfl rfl (by rw [hs]; exact of_decide_eq_true (by kernel_rfl)) (qg.trans (congrArg Value.bool hB)) (by decide), fun h => absurd (show (!(decide (y < 1))) = true from h) (by rw [show (!(decide (y < 1))) = false from by rw [hB]; try rfl]; simp), fun _ => rfl⟩
                have hC : (!(decide (y < 1))) = true := by rw [hB]; try rfl
                refine .inl ⟨wanted_of (j := 4) (d := 107) rfl rfl rfl (by rw [hs]; exact of_decide_eq_true (by kernel_rfl)) (qg.trans (congrArg Value.bool hB)), fun K hK => ?_⟩
                exact ld5 rfl (q6.1 hC) t0 (hK _ _ (Below.refl _ _) ⟨fun _ => rfl, fun h => absurd (hC.symm.trans h) (by decide)⟩)
              | 8, ho =>
                obtain rfl := Option.some.inj ho
                have q7 : ((!(decide (y < 1))) = true → fa.tmps.getD 110 undef = .int .u8 y) ∧ ((!(decide (y < 1))) = false → fa.tmps.getD 110 undef = undef) := hdep ⟨7, .data⟩ (by simp) rfl _ 110 rfl rfl
                have qg : fa.tmps.getD 107 undef = .bool (decide (y < 1)) := hdep ⟨4, .guard⟩ (by simp) rfl _ 107 rfl rfl
                rcases Bool.eq_false_or_eq_true (decide (y < 1)) with hB | hB
                · exact .inr ⟨wanted_no (j := 4) (d := 107) rfl rfl rfl (by rw [hs]; exact of_decide_eq_true (by kernel_rfl)) (qg.trans (congrArg Value.bool hB)) (by decide), fun h => absurd (show (!(decide (y < 1))) = true from h) (by rw [show (!(decide (y < 1))) = false from by rw [hB]; try rfl]; simp), fun _ => rfl⟩
                have hC : (!(decide (y < 1))) = true := by rw [hB]; try rfl
                refine .inl ⟨wanted_of (j := 4) (d := 107) rfl rfl rfl (by rw [hs]; exact of_decide_eq_true (by kernel_rfl)) (qg.trans (congrArg Value.bool hB)), fun K hK => ?_⟩
                exact st_gtr_5 rfl (q7.1 hC) rfl (hK _ _ (Below.refl _ _) ⟨fun _ => rfl, fun h => absurd (hC.symm.trans h) (by decide)⟩)
              | 9, ho =>
                obtain rfl := Option.some.inj ho
                have q4 : fa.tmps.getD 107 undef = .bool (decide (y < 1)) := hdep ⟨4, .data⟩ (by simp) rfl _ 107 rfl rfl
                have q8 : ((!(decide (y < 1))) = true → fa.tmps.getD 111 undef = .bool (decide (6 < y))) ∧ ((!(decide (y < 1))) = false → fa.tmps.getD 111 undef = undef) := hdep ⟨8, .data⟩ (by simp) rfl _ 111 rfl rfl
                refine .inl ⟨rfl, fun K hK => ?_⟩
                exact st_or rfl q4 (fun h => q8.1 (by rw [h]; try rfl)) (hK _ _ (Below.refl _ _) rfl)
              | 10, ho =>
                obtain rfl := Option.some.inj ho
                have q9 : fa.tmps.getD 112 undef = .bool ((decide (y < 1)) || (decide (6 < y))) := hdep ⟨9, .data⟩ (by simp) rfl _ 112 rfl rfl
                refine .inl ⟨rfl, fun K hK => ?_⟩
                exact st_move rfl q9 (hK _ _ (Below.refl _ _) rfl)
              | 11, ho =>
                obtain rfl := Option.some.inj ho
                have qg : fa.tmps.getD 113 undef = .bool ((decide (y < 1)) || (decide (6 < y))) := hdep ⟨10, .guard⟩ (by simp) rfl _ 113 rfl rfl
                rcases Bool.eq_false_or_eq_true ((decide (y < 1)) || (decide (6 < y))) with hB | hB
                · exact .inr ⟨wanted_no (j := 10) (d := 113) rfl rfl rfl (by rw [hs]; exact of_decide_eq_true (by kernel_rfl)) (qg.trans (congrArg Value.bool hB)) (by decide), fun h => absurd (show (!((decide (y < 1)) || (decide (6 < y)))) = true from h) (by rw [show (!((decide (y < 1)) || (decide (6 < y)))) = false from by rw [hB]; try rfl]; simp), fun _ => rfl⟩
                have hC : (!((decide (y < 1)) || (decide (6 < y)))) = true := by rw [hB]; try rfl
                refine .inl ⟨wanted_of (j := 10) (d := 113) rfl rfl rfl (by rw [hs]; exact of_decide_eq_true (by kernel_rfl)) (qg.trans (congrArg Value.bool hB)), fun K hK => ?_⟩
                exact fa33_0 rfl ((hout 7 rfl).trans rfl) (hK _ _ (Below.refl _ _) ⟨fun _ => rfl, fun h => absurd (hC.symm.trans h) (by decide)⟩)
              | 12, ho =>
                obtain rfl := Option.some.inj ho
                have q11 : ((!((decide (y < 1)) || (decide (6 < y)))) = true → fa.tmps.getD 114 undef = .pointer (some ⟨wr.heap.size, 0, none⟩)) ∧ ((!((decide (y < 1)) || (decide (6 < y)))) = false → fa.tmps.getD 114 undef = undef) := hdep ⟨11, .data⟩ (by simp) rfl _ 114 rfl rfl
                have qg : fa.tmps.getD 113 undef = .bool ((decide (y < 1)) || (decide (6 < y))) := hdep ⟨10, .guard⟩ (by simp) rfl _ 113 rfl rfl
                rcases Bool.eq_false_or_eq_true ((decide (y < 1)) || (decide (6 < y))) with hB | hB
                · exact .inr ⟨wanted_no (j := 10) (d := 113) rfl rfl rfl (by rw [hs]; exact of_decide_eq_true (by kernel_rfl)) (qg.trans (congrArg Value.bool hB)) (by decide), fun h => absurd (show (!((decide (y < 1)) || (decide (6 < y)))) = true from h) (by rw [show (!((decide (y < 1)) || (decide (6 < y)))) = false from by rw [hB]; try rfl]; simp), fun _ => rfl⟩
                have hC : (!((decide (y < 1)) || (decide (6 < y)))) = true := by rw [hB]; try rfl
                refine .inl ⟨wanted_of (j := 10) (d := 113) rfl rfl rfl (by rw [hs]; exact of_decide_eq_true (by kernel_rfl)) (qg.trans (congrArg Value.bool hB)), fun K hK => ?_⟩
                exact fa30_1 rfl (q11.1 hC) (hK _ _ (Below.refl _ _) ⟨fun _ => rfl, fun h => absurd (hC.symm.trans h) (by decide)⟩)
              | 13, ho =>
                obtain rfl := Option.some.inj ho
                have q12 : ((!((decide (y < 1)) || (decide (6 < y)))) = true → fa.tmps.getD 115 undef = .pointer (some ⟨wr.heap.size, 1, none⟩)) ∧ ((!((decide (y < 1)) || (decide (6 < y)))) = false → fa.tmps.getD 115 undef = undef) := hdep ⟨12, .data⟩ (by simp) rfl _ 115 rfl rfl
                have qg : fa.tmps.getD 113 undef = .bool ((decide (y < 1)) || (decide (6 < y))) := hdep ⟨10, .guard⟩ (by simp) rfl _ 113 rfl rfl
                rcases Bool.eq_false_or_eq_true ((decide (y < 1)) || (decide (6 < y))) with hB | hB
                · exact .inr ⟨wanted_no (j := 10) (d := 113) rfl rfl rfl (by rw [hs]; exact of_decide_eq_true (by kernel_rfl)) (qg.trans (congrArg Value.bool hB)) (by decide), fun h => absurd (show (!((decide (y < 1)) || (decide (6 < y)))) = true from h) (by rw [show (!((decide (y < 1)) || (decide (6 < y)))) = false from by rw [hB]; try rfl]; simp), fun _ => rfl⟩
                have hC : (!((decide (y < 1)) || (decide (6 < y)))) = true := by rw [hB]; try rfl
                refine .inl ⟨wanted_of (j := 10) (d := 113) rfl rfl rfl (by rw [hs]; exact of_decide_eq_true (by kernel_rfl)) (qg.trans (congrArg Value.bool hB)), fun K hK => ?_⟩
                exact ld3 rfl (q12.1 hC) t1 (hK _ _ (Below.refl _ _) ⟨fun _ => rfl, fun h => absurd (hC.symm.trans h) (by decide)⟩)
              | 14, ho =>
                obtain rfl := Option.some.inj ho
                have q13 : ((!((decide (y < 1)) || (decide (6 < y)))) = true → fa.tmps.getD 116 undef = .int .i64 m) ∧ ((!((decide (y < 1)) || (decide (6 < y)))) = false → fa.tmps.getD 116 undef = undef) := hdep ⟨13, .data⟩ (by simp) rfl _ 116 rfl rfl
                have qg : fa.tmps.getD 113 undef = .bool ((decide (y < 1)) || (decide (6 < y))) := hdep ⟨10, .guard⟩ (by simp) rfl _ 113 rfl rfl
                rcases Bool.eq_false_or_eq_true ((decide (y < 1)) || (decide (6 < y))) with hB | hB
                · exact .inr ⟨wanted_no (j := 10) (d := 113) rfl rfl rfl (by rw [hs]; exact of_decide_eq_true (by kernel_rfl)) (qg.trans (congrArg Value.bool hB)) (by decide), fun h => absurd (show (!((decide (y < 1)) || (decide (6 < y)))) = true from h) (by rw [show (!((decide (y < 1)) || (decide (6 < y)))) = false from by rw [hB]; try rfl]; simp), fun _ => rfl⟩
                have hC : (!((decide (y < 1)) || (decide (6 < y)))) = true := by rw [hB]; try rfl
                refine .inl ⟨wanted_of (j := 10) (d := 113) rfl rfl rfl (by rw [hs]; exact of_decide_eq_true (by kernel_rfl)) (qg.trans (congrArg Value.bool hB)), fun K hK => ?_⟩
                exact st_lss_3 rfl (q13.1 hC) rfl (hK _ _ (Below.refl _ _) ⟨fun _ => rfl, fun h => absurd (hC.symm.trans h) (by decide)⟩)
              | 15, ho =>
                obtain rfl := Option.some.inj ho
                have q10 : fa.tmps.getD 113 undef = .bool ((decide (y < 1)) || (decide (6 < y))) := hdep ⟨10, .data⟩ (by simp) rfl _ 113 rfl rfl
                have q14 : ((!((decide (y < 1)) || (decide (6 < y)))) = true → fa.tmps.getD 117 undef = .bool (decide (m < 0))) ∧ ((!((decide (y < 1)) || (decide (6 < y)))) = false → fa.tmps.getD 117 undef = undef) := hdep ⟨14, .data⟩ (by simp) rfl _ 117 rfl rfl
                refine .inl ⟨rfl, fun K hK => ?_⟩
                exact st_or rfl q10 (fun h => q14.1 (by rw [h]; try rfl)) (hK _ _ (Below.refl _ _) rfl)
              | 16, ho =>
                obtain rfl := Option.some.inj ho
                have q15 : fa.tmps.getD 118 undef = .bool (((decide (y < 1)) || (decide (6 < y))) || (decide (m < 0))) := hdep ⟨15, .data⟩ (by simp) rfl _ 118 rfl rfl
                refine .inl ⟨rfl, fun K hK => ?_⟩
                exact st_move rfl q15 (hK _ _ (Below.refl _ _) rfl)
              | 17, ho =>
                obtain rfl := Option.some.inj ho
                have qg : fa.tmps.getD 119 undef = .bool (((decide (y < 1)) || (decide (6 < y))) || (decide (m < 0))) := hdep ⟨16, .guard⟩ (by simp) rfl _ 119 rfl rfl
                rcases Bool.eq_false_or_eq_true (((decide (y < 1)) || (decide (6 < y))) || (decide (m < 0))) with hB | hB
                · exact .inr ⟨wanted_no (j := 16) (d := 119) rfl rfl rfl (by rw [hs]; exact of_decide_eq_true (by kernel_rfl)) (qg.trans (congrArg Value.bool hB)) (by decide), fun h => absurd (show (!(((decide (y < 1)) || (decide (6 < y))) || (decide (m < 0)))) = true from h) (by rw [show (!(((decide (y < 1)) || (decide (6 < y))) || (decide (m < 0)))) = false from by rw [hB]; try rfl]; simp), fun _ => rfl⟩
                have hC : (!(((decide (y < 1)) || (decide (6 < y))) || (decide (m < 0)))) = true := by rw [hB]; try rfl
                refine .inl ⟨wanted_of (j := 16) (d := 119) rfl rfl rfl (by rw [hs]; exact of_decide_eq_true (by kernel_rfl)) (qg.trans (congrArg Value.bool hB)), fun K hK => ?_⟩
                exact fa33_0 rfl ((hout 7 rfl).trans rfl) (hK _ _ (Below.refl _ _) ⟨fun _ => rfl, fun h => absurd (hC.symm.trans h) (by decide)⟩)
              | 18, ho =>
                obtain rfl := Option.some.inj ho
                have q17 : ((!(((decide (y < 1)) || (decide (6 < y))) || (decide (m < 0)))) = true → fa.tmps.getD 120 undef = .pointer (some ⟨wr.heap.size, 0, none⟩)) ∧ ((!(((decide (y < 1)) || (decide (6 < y))) || (decide (m < 0)))) = false → fa.tmps.getD 120 undef = undef) := hdep ⟨17, .data⟩ (by simp) rfl _ 120 rfl rfl
                have qg : fa.tmps.getD 119 undef = .bool (((decide (y < 1)) || (decide (6 < y))) || (decide (m < 0))) := hdep ⟨16, .guard⟩ (by simp) rfl _ 119 rfl rfl
                rcases Bool.eq_false_or_eq_true (((decide (y < 1)) || (decide (6 < y))) || (decide (m < 0))) with hB | hB
                · exact .inr ⟨wanted_no (j := 16) (d := 119) rfl rfl rfl (by rw [hs]; exact of_decide_eq_true (by kernel_rfl)) (qg.trans (congrArg Value.bool hB)) (by decide), fun h => absurd (show (!(((decide (y < 1)) || (decide (6 < y))) || (decide (m < 0)))) = true from h) (by rw [show (!(((decide (y < 1)) || (decide (6 < y))) || (decide (m < 0)))) = false from by rw [hB]; try rfl]; simp), fun _ => rfl⟩
                have hC : (!(((decide (y < 1)) || (decide (6 < y))) || (decide (m < 0)))) = true := by rw [hB]; try rfl
                refine .inl ⟨wanted_of (j := 16) (d := 119) rfl rfl rfl (by rw [hs]; exact of_decide_eq_true (by kernel_rfl)) (qg.trans (congrArg Value.bool hB)), fun K hK => ?_⟩
                exact fa30_1 rfl (q17.1 hC) (hK _ _ (Below.refl _ _) ⟨fun _ => rfl, fun h => absurd (hC.symm.trans h) (by decide)⟩)
              | 19, ho =>
                obtain rfl := Option.some.inj ho
                have q18 : ((!(((decide (y < 1)) || (decide (6 < y))) || (decide (m < 0)))) = true → fa.tmps.getD 121 undef = .pointer (some ⟨wr.heap.size, 1, none⟩)) ∧ ((!(((decide (y < 1)) || (decide (6 < y))) || (decide (m < 0)))) = false → fa.tmps.getD 121 undef = undef) := hdep ⟨18, .data⟩ (by simp) rfl _ 121 rfl rfl
                have qg : fa.tmps.getD 119 undef = .bool (((decide (y < 1)) || (decide (6 < y))) || (decide (m < 0))) := hdep ⟨16, .guard⟩ (by simp) rfl _ 119 rfl rfl
                rcases Bool.eq_false_or_eq_true (((decide (y < 1)) || (decide (6 < y))) || (decide (m < 0))) with hB | hB
                · exact .inr ⟨wanted_no (j := 16) (d := 119) rfl rfl rfl (by rw [hs]; exact of_decide_eq_true (by kernel_rfl)) (qg.trans (congrArg Value.bool hB)) (by decide), fun h => absurd (show (!(((decide (y < 1)) || (decide (6 < y))) || (decide (m < 0)))) = true from h) (by rw [show (!(((decide (y < 1)) || (decide (6 < y))) || (decide (m < 0)))) = false from by rw [hB]; try rfl]; simp), fun _ => rfl⟩
                have hC : (!(((decide (y < 1)) || (decide (6 < y))) || (decide (m < 0)))) = true := by rw [hB]; try rfl
                refine .inl ⟨wanted_of (j := 16) (d := 119) rfl rfl rfl (by rw [hs]; exact of_decide_eq_true (by kernel_rfl)) (qg.trans (congrArg Value.bool hB)), fun K hK => ?_⟩
                exact ld3 rfl (q18.1 hC) t1 (hK _ _ (Below.refl _ _) ⟨fun _ => rfl, fun h => absurd (hC.symm.trans h) (by decide)⟩)
              | 20, ho =>
                obtain rfl := Option.some.inj ho
                have q19 : ((!(((decide (y < 1)) || (decide (6 < y))) || (decide (m < 0)))) = true → fa.tmps.getD 122 undef = .int .i64 m) ∧ ((!(((decide (y < 1)) || (decide (6 < y))) || (decide (m < 0)))) = false → fa.tmps.getD 122 undef = undef) := hdep ⟨19, .data⟩ (by simp) rfl _ 122 rfl rfl
                have qg : fa.tmps.getD 119 undef = .bool (((decide (y < 1)) || (decide (6 < y))) || (decide (m < 0))) := hdep ⟨16, .guard⟩ (by simp) rfl _ 119 rfl rfl
                rcases Bool.eq_false_or_eq_true (((decide (y < 1)) || (decide (6 < y))) || (decide (m < 0))) with hB | hB
                · exact .inr ⟨wanted_no (j := 16) (d := 119) rfl rfl rfl (by rw [hs]; exact of_decide_eq_true (by kernel_rfl)) (qg.trans (congrArg Value.bool hB)) (by decide), fun h => absurd (show (!(((decide (y < 1)) || (decide (6 < y))) || (decide (m < 0)))) = true from h) (by rw [show (!(((decide (y < 1)) || (decide (6 < y))) || (decide (m < 0)))) = false from by rw [hB]; try rfl]; simp), fun _ => rfl⟩
                have hC : (!(((decide (y < 1)) || (decide (6 < y))) || (decide (m < 0)))) = true := by rw [hB]; try rfl
                refine .inl ⟨wanted_of (j := 16) (d := 119) rfl rfl rfl (by rw [hs]; exact of_decide_eq_true (by kernel_rfl)) (qg.trans (congrArg Value.bool hB)), fun K hK => ?_⟩
                exact st_gtr_3 rfl (q19.1 hC) rfl (hK _ _ (Below.refl _ _) ⟨fun _ => rfl, fun h => absurd (hC.symm.trans h) (by decide)⟩)
              | 21, ho =>
                obtain rfl := Option.some.inj ho
                have q16 : fa.tmps.getD 119 undef = .bool (((decide (y < 1)) || (decide (6 < y))) || (decide (m < 0))) := hdep ⟨16, .data⟩ (by simp) rfl _ 119 rfl rfl
                have q20 : ((!(((decide (y < 1)) || (decide (6 < y))) || (decide (m < 0)))) = true → fa.tmps.getD 123 undef = .bool (decide (2047 < m))) ∧ ((!(((decide (y < 1)) || (decide (6 < y))) || (decide (m < 0)))) = false → fa.tmps.getD 123 undef = undef) := hdep ⟨20, .data⟩ (by simp) rfl _ 123 rfl rfl
                refine .inl ⟨rfl, fun K hK => ?_⟩
                exact st_or rfl q16 (fun h => q20.1 (by rw [h]; try rfl)) (hK _ _ (Below.refl _ _) rfl)
              | 22, ho =>
                obtain rfl := Option.some.inj ho
                have q21 : fa.tmps.getD 124 undef = .bool ((((decide (y < 1)) || (decide (6 < y))) || (decide (m < 0))) || (decide (2047 < m))) := hdep ⟨21, .data⟩ (by simp) rfl _ 124 rfl rfl
                refine .inl ⟨rfl, fun K hK => ?_⟩
                exact st_move rfl q21 (hK _ _ (Below.refl _ _) rfl)
              | 23, ho =>
                obtain rfl := Option.some.inj ho
                have qg : fa.tmps.getD 125 undef = .bool ((((decide (y < 1)) || (decide (6 < y))) || (decide (m < 0))) || (decide (2047 < m))) := hdep ⟨22, .guard⟩ (by simp) rfl _ 125 rfl rfl
                rcases Bool.eq_false_or_eq_true ((((decide (y < 1)) || (decide (6 < y))) || (decide (m < 0))) || (decide (2047 < m))) with hB | hB
                · exact .inr ⟨wanted_no (j := 22) (d := 125) rfl rfl rfl (by rw [hs]; exact of_decide_eq_true (by kernel_rfl)) (qg.trans (congrArg Value.bool hB)) (by decide), fun h => absurd (show (!((((decide (y < 1)) || (decide (6 < y))) || (decide (m < 0))) || (decide (2047 < m)))) = true from h) (by rw [show (!((((decide (y < 1)) || (decide (6 < y))) || (decide (m < 0))) || (decide (2047 < m)))) = false from by rw [hB]; try rfl]; simp), fun _ => rfl⟩
                have hC : (!((((decide (y < 1)) || (decide (6 < y))) || (decide (m < 0))) || (decide (2047 < m)))) = true := by rw [hB]; try rfl
                refine .inl ⟨wanted_of (j := 22) (d := 125) rfl rfl rfl (by rw [hs]; exact of_decide_eq_true (by kernel_rfl)) (qg.trans (congrArg Value.bool hB)), fun K hK => ?_⟩
                exact fa33_2 rfl ((hout 7 rfl).trans rfl) (hK _ _ (Below.refl _ _) ⟨fun _ => rfl, fun h => absurd (hC.symm.trans h) (by decide)⟩)
              | 24, ho =>
                obtain rfl := Option.some.inj ho
                have q23 : ((!((((decide (y < 1)) || (decide (6 < y))) || (decide (m < 0))) || (decide (2047 < m)))) = true → fa.tmps.getD 126 undef = .pointer (some ⟨wr.heap.size, 3, none⟩)) ∧ ((!((((decide (y < 1)) || (decide (6 < y))) || (decide (m < 0))) || (decide (2047 < m)))) = false → fa.tmps.getD 126 undef = undef) := hdep ⟨23, .data⟩ (by simp) rfl _ 126 rfl rfl
                have qg : fa.tmps.getD 125 undef = .bool ((((decide (y < 1)) || (decide (6 < y))) || (decide (m < 0))) || (decide (2047 < m))) := hdep ⟨22, .guard⟩ (by simp) rfl _ 125 rfl rfl
                rcases Bool.eq_false_or_eq_true ((((decide (y < 1)) || (decide (6 < y))) || (decide (m < 0))) || (decide (2047 < m))) with hB | hB
                · exact .inr ⟨wanted_no (j := 22) (d := 125) rfl rfl rfl (by rw [hs]; exact of_decide_eq_true (by kernel_rfl)) (qg.trans (congrArg Value.bool hB)) (by decide), fun h => absurd (show (!((((decide (y < 1)) || (decide (6 < y))) || (decide (m < 0))) || (decide (2047 < m)))) = true from h) (by rw [show (!((((decide (y < 1)) || (decide (6 < y))) || (decide (m < 0))) || (decide (2047 < m)))) = false from by rw [hB]; try rfl]; simp), fun _ => rfl⟩
                have hC : (!((((decide (y < 1)) || (decide (6 < y))) || (decide (m < 0))) || (decide (2047 < m)))) = true := by rw [hB]; try rfl
                refine .inl ⟨wanted_of (j := 22) (d := 125) rfl rfl rfl (by rw [hs]; exact of_decide_eq_true (by kernel_rfl)) (qg.trans (congrArg Value.bool hB)), fun K hK => ?_⟩
                exact ld31 rfl (q23.1 hC) t3 (hK _ _ (Below.refl _ _) ⟨fun _ => rfl, fun h => absurd (hC.symm.trans h) (by decide)⟩)
              | 25, ho =>
                obtain rfl := Option.some.inj ho
                have q24 : ((!((((decide (y < 1)) || (decide (6 < y))) || (decide (m < 0))) || (decide (2047 < m)))) = true → fa.tmps.getD 127 undef = .int .u8 d) ∧ ((!((((decide (y < 1)) || (decide (6 < y))) || (decide (m < 0))) || (decide (2047 < m)))) = false → fa.tmps.getD 127 undef = undef) := hdep ⟨24, .data⟩ (by simp) rfl _ 127 rfl rfl
                have qg : fa.tmps.getD 125 undef = .bool ((((decide (y < 1)) || (decide (6 < y))) || (decide (m < 0))) || (decide (2047 < m))) := hdep ⟨22, .guard⟩ (by simp) rfl _ 125 rfl rfl
                rcases Bool.eq_false_or_eq_true ((((decide (y < 1)) || (decide (6 < y))) || (decide (m < 0))) || (decide (2047 < m))) with hB | hB
                · exact .inr ⟨wanted_no (j := 22) (d := 125) rfl rfl rfl (by rw [hs]; exact of_decide_eq_true (by kernel_rfl)) (qg.trans (congrArg Value.bool hB)) (by decide), fun h => absurd (show (!((((decide (y < 1)) || (decide (6 < y))) || (decide (m < 0))) || (decide (2047 < m)))) = true from h) (by rw [show (!((((decide (y < 1)) || (decide (6 < y))) || (decide (m < 0))) || (decide (2047 < m)))) = false from by rw [hB]; try rfl]; simp), fun _ => rfl⟩
                have hC : (!((((decide (y < 1)) || (decide (6 < y))) || (decide (m < 0))) || (decide (2047 < m)))) = true := by rw [hB]; try rfl
                refine .inl ⟨wanted_of (j := 22) (d := 125) rfl rfl rfl (by rw [hs]; exact of_decide_eq_true (by kernel_rfl)) (qg.trans (congrArg Value.bool hB)), fun K hK => ?_⟩
                exact st_gtr_31 rfl (q24.1 hC) rfl (hK _ _ (Below.refl _ _) ⟨fun _ => rfl, fun h => absurd (hC.symm.trans h) (by decide)⟩)
              | 26, ho =>
                obtain rfl := Option.some.inj ho
                have q22 : fa.tmps.getD 125 undef = .bool ((((decide (y < 1)) || (decide (6 < y))) || (decide (m < 0))) || (decide (2047 < m))) := hdep ⟨22, .data⟩ (by simp) rfl _ 125 rfl rfl
                have q25 : ((!((((decide (y < 1)) || (decide (6 < y))) || (decide (m < 0))) || (decide (2047 < m)))) = true → fa.tmps.getD 128 undef = .bool (decide (1 < d))) ∧ ((!((((decide (y < 1)) || (decide (6 < y))) || (decide (m < 0))) || (decide (2047 < m)))) = false → fa.tmps.getD 128 undef = undef) := hdep ⟨25, .data⟩ (by simp) rfl _ 128 rfl rfl
                refine .inl ⟨rfl, fun K hK => ?_⟩
                exact st_or rfl q22 (fun h => q25.1 (by rw [h]; try rfl)) (hK _ _ (Below.refl _ _) rfl)
              | 27, ho =>
                obtain rfl := Option.some.inj ho
                have q26 : fa.tmps.getD 129 undef = .bool (((((decide (y < 1)) || (decide (6 < y))) || (decide (m < 0))) || (decide (2047 < m))) || (decide (1 < d))) := hdep ⟨26, .data⟩ (by simp) rfl _ 129 rfl rfl
                refine .inl ⟨rfl, fun K hK => ?_⟩
                exact st_move rfl q26 (hK _ _ (Below.refl _ _) rfl)
              | 28, ho =>
                obtain rfl := Option.some.inj ho
                have qg : fa.tmps.getD 130 undef = .bool (((((decide (y < 1)) || (decide (6 < y))) || (decide (m < 0))) || (decide (2047 < m))) || (decide (1 < d))) := hdep ⟨27, .guard⟩ (by simp) rfl _ 130 rfl rfl
                rcases Bool.eq_false_or_eq_true (((((decide (y < 1)) || (decide (6 < y))) || (decide (m < 0))) || (decide (2047 < m))) || (decide (1 < d))) with hB | hB
                · exact .inr ⟨wanted_no (j := 27) (d := 130) rfl rfl rfl (by rw [hs]; exact of_decide_eq_true (by kernel_rfl)) (qg.trans (congrArg Value.bool hB)) (by decide), fun h => absurd (show (!(((((decide (y < 1)) || (decide (6 < y))) || (decide (m < 0))) || (decide (2047 < m))) || (decide (1 < d)))) = true from h) (by rw [show (!(((((decide (y < 1)) || (decide (6 < y))) || (decide (m < 0))) || (decide (2047 < m))) || (decide (1 < d)))) = false from by rw [hB]; try rfl]; simp), fun _ => rfl⟩
                have hC : (!(((((decide (y < 1)) || (decide (6 < y))) || (decide (m < 0))) || (decide (2047 < m))) || (decide (1 < d)))) = true := by rw [hB]; try rfl
                refine .inl ⟨wanted_of (j := 27) (d := 130) rfl rfl rfl (by rw [hs]; exact of_decide_eq_true (by kernel_rfl)) (qg.trans (congrArg Value.bool hB)), fun K hK => ?_⟩
                exact st_move rfl ((hout 6 rfl).trans rfl) (hK _ _ (Below.refl _ _) ⟨fun _ => rfl, fun h => absurd (hC.symm.trans h) (by decide)⟩)
              | 29, ho =>
                obtain rfl := Option.some.inj ho
                have q28 : ((!(((((decide (y < 1)) || (decide (6 < y))) || (decide (m < 0))) || (decide (2047 < m))) || (decide (1 < d)))) = true → fa.tmps.getD 131 undef = .int .i64 (k : Int)) ∧ ((!(((((decide (y < 1)) || (decide (6 < y))) || (decide (m < 0))) || (decide (2047 < m))) || (decide (1 < d)))) = false → fa.tmps.getD 131 undef = undef) := hdep ⟨28, .data⟩ (by simp) rfl _ 131 rfl rfl
                have qg : fa.tmps.getD 130 undef = .bool (((((decide (y < 1)) || (decide (6 < y))) || (decide (m < 0))) || (decide (2047 < m))) || (decide (1 < d))) := hdep ⟨27, .guard⟩ (by simp) rfl _ 130 rfl rfl
                rcases Bool.eq_false_or_eq_true (((((decide (y < 1)) || (decide (6 < y))) || (decide (m < 0))) || (decide (2047 < m))) || (decide (1 < d))) with hB | hB
                · exact .inr ⟨wanted_no (j := 27) (d := 130) rfl rfl rfl (by rw [hs]; exact of_decide_eq_true (by kernel_rfl)) (qg.trans (congrArg Value.bool hB)) (by decide), fun h => absurd (show (!(((((decide (y < 1)) || (decide (6 < y))) || (decide (m < 0))) || (decide (2047 < m))) || (decide (1 < d)))) = true from h) (by rw [show (!(((((decide (y < 1)) || (decide (6 < y))) || (decide (m < 0))) || (decide (2047 < m))) || (decide (1 < d)))) = false from by rw [hB]; try rfl]; simp), fun _ => rfl⟩
                have hC : (!(((((decide (y < 1)) || (decide (6 < y))) || (decide (m < 0))) || (decide (2047 < m))) || (decide (1 < d)))) = true := by rw [hB]; try rfl
                refine .inl ⟨wanted_of (j := 27) (d := 130) rfl rfl rfl (by rw [hs]; exact of_decide_eq_true (by kernel_rfl)) (qg.trans (congrArg Value.bool hB)), fun K hK => ?_⟩
                exact st_gtr_3 rfl (q28.1 hC) rfl (hK _ _ (Below.refl _ _) ⟨fun _ => rfl, fun h => absurd (hC.symm.trans h) (by decide)⟩)
              | 30, ho =>
                obtain rfl := Option.some.inj ho
                have q29 : ((!(((((decide (y < 1)) || (decide (6 < y))) || (decide (m < 0))) || (decide (2047 < m))) || (decide (1 < d)))) = true → fa.tmps.getD 132 undef = .bool (decide (0 < (k : Int)))) ∧ ((!(((((decide (y < 1)) || (decide (6 < y))) || (decide (m < 0))) || (decide (2047 < m))) || (decide (1 < d)))) = false → fa.tmps.getD 132 undef = undef) := hdep ⟨29, .data⟩ (by simp) rfl _ 132 rfl rfl
                have qg : fa.tmps.getD 130 undef = .bool (((((decide (y < 1)) || (decide (6 < y))) || (decide (m < 0))) || (decide (2047 < m))) || (decide (1 < d))) := hdep ⟨27, .guard⟩ (by simp) rfl _ 130 rfl rfl
                rcases Bool.eq_false_or_eq_true (((((decide (y < 1)) || (decide (6 < y))) || (decide (m < 0))) || (decide (2047 < m))) || (decide (1 < d))) with hB | hB
                · exact .inr ⟨wanted_no (j := 27) (d := 130) rfl rfl rfl (by rw [hs]; exact of_decide_eq_true (by kernel_rfl)) (qg.trans (congrArg Value.bool hB)) (by decide), fun h => absurd (show (!(((((decide (y < 1)) || (decide (6 < y))) || (decide (m < 0))) || (decide (2047 < m))) || (decide (1 < d)))) = true from h) (by rw [show (!(((((decide (y < 1)) || (decide (6 < y))) || (decide (m < 0))) || (decide (2047 < m))) || (decide (1 < d)))) = false from by rw [hB]; try rfl]; simp), fun _ => rfl⟩
                have hC : (!(((((decide (y < 1)) || (decide (6 < y))) || (decide (m < 0))) || (decide (2047 < m))) || (decide (1 < d)))) = true := by rw [hB]; try rfl
                refine .inl ⟨wanted_of (j := 27) (d := 130) rfl rfl rfl (by rw [hs]; exact of_decide_eq_true (by kernel_rfl)) (qg.trans (congrArg Value.bool hB)), fun K hK => ?_⟩
                exact st_move rfl (q29.1 hC) (hK _ _ (Below.refl _ _) ⟨fun _ => rfl, fun h => absurd (hC.symm.trans h) (by decide)⟩)
              | 31, ho =>
                obtain rfl := Option.some.inj ho
                have qg : ((!(((((decide (y < 1)) || (decide (6 < y))) || (decide (m < 0))) || (decide (2047 < m))) || (decide (1 < d)))) = true → fa.tmps.getD 133 undef = .bool (decide (0 < (k : Int)))) ∧ ((!(((((decide (y < 1)) || (decide (6 < y))) || (decide (m < 0))) || (decide (2047 < m))) || (decide (1 < d)))) = false → fa.tmps.getD 133 undef = undef) := hdep ⟨30, .guard⟩ (by simp) rfl _ 133 rfl rfl
                rcases Bool.eq_false_or_eq_true (!(((((decide (y < 1)) || (decide (6 < y))) || (decide (m < 0))) || (decide (2047 < m))) || (decide (1 < d)))) with hG | hG
                rotate_left
                · exact .inr ⟨wanted_undef (j := 30) (d := 133) rfl rfl rfl (by rw [hs]; exact of_decide_eq_true (by kernel_rfl)) (qg.2 hG), fun h => absurd (show ((!(((((decide (y < 1)) || (decide (6 < y))) || (decide (m < 0))) || (decide (2047 < m))) || (decide (1 < d)))) && (decide (0 < (k : Int)))) = true from h) (by rw [hG]; simp), fun _ => rfl⟩
                have qg := qg.1 hG
                rcases Bool.eq_false_or_eq_true (decide (0 < (k : Int))) with hB | hB
                rotate_left
                · exact .inr ⟨wanted_no (j := 30) (d := 133) rfl rfl rfl (by rw [hs]; exact of_decide_eq_true (by kernel_rfl)) (qg.trans (congrArg Value.bool hB)) (by decide), fun h => absurd (show ((!(((((decide (y < 1)) || (decide (6 < y))) || (decide (m < 0))) || (decide (2047 < m))) || (decide (1 < d)))) && (decide (0 < (k : Int)))) = true from h) (by rw [show ((!(((((decide (y < 1)) || (decide (6 < y))) || (decide (m < 0))) || (decide (2047 < m))) || (decide (1 < d)))) && (decide (0 < (k : Int)))) = false from by rw [hG, hB]; try rfl]; simp), fun _ => rfl⟩
                have hC : ((!(((((decide (y < 1)) || (decide (6 < y))) || (decide (m < 0))) || (decide (2047 < m))) || (decide (1 < d)))) && (decide (0 < (k : Int)))) = true := by rw [hG, hB]; try rfl
                refine .inl ⟨wanted_of (j := 30) (d := 133) rfl rfl rfl (by rw [hs]; exact of_decide_eq_true (by kernel_rfl)) (qg.trans (congrArg Value.bool hB)), fun K hK => ?_⟩
                exact fa38_4 rfl ((hout 2 rfl).trans rfl) (hK _ _ (Below.refl _ _) ⟨fun _ => rfl, fun h => absurd (hC.symm.trans h) (by decide)⟩)
              | 32, ho =>
                obtain rfl := Option.some.inj ho
                have q31 : (((!(((((decide (y < 1)) || (decide (6 < y))) || (decide (m < 0))) || (decide (2047 < m))) || (decide (1 < d)))) && (decide (0 < (k : Int)))) = true → fa.tmps.getD 134 undef = .pointer (some ⟨w.heap.size, 4, none⟩)) ∧ (((!(((((decide (y < 1)) || (decide (6 < y))) || (decide (m < 0))) || (decide (2047 < m))) || (decide (1 < d)))) && (decide (0 < (k : Int)))) = false → fa.tmps.getD 134 undef = undef) := hdep ⟨31, .data⟩ (by simp) rfl _ 134 rfl rfl
                have qg : ((!(((((decide (y < 1)) || (decide (6 < y))) || (decide (m < 0))) || (decide (2047 < m))) || (decide (1 < d)))) = true → fa.tmps.getD 133 undef = .bool (decide (0 < (k : Int)))) ∧ ((!(((((decide (y < 1)) || (decide (6 < y))) || (decide (m < 0))) || (decide (2047 < m))) || (decide (1 < d)))) = false → fa.tmps.getD 133 undef = undef) := hdep ⟨30, .guard⟩ (by simp) rfl _ 133 rfl rfl
                rcases Bool.eq_false_or_eq_true (!(((((decide (y < 1)) || (decide (6 < y))) || (decide (m < 0))) || (decide (2047 < m))) || (decide (1 < d)))) with hG | hG
                rotate_left
                · exact .inr ⟨wanted_undef (j := 30) (d := 133) rfl rfl rfl (by rw [hs]; exact of_decide_eq_true (by kernel_rfl)) (qg.2 hG), fun h => absurd (show ((!(((((decide (y < 1)) || (decide (6 < y))) || (decide (m < 0))) || (decide (2047 < m))) || (decide (1 < d)))) && (decide (0 < (k : Int)))) = true from h) (by rw [hG]; simp), fun _ => rfl⟩
                have qg := qg.1 hG
                rcases Bool.eq_false_or_eq_true (decide (0 < (k : Int))) with hB | hB
                rotate_left
                · exact .inr ⟨wanted_no (j := 30) (d := 133) rfl rfl rfl (by rw [hs]; exact of_decide_eq_true (by kernel_rfl)) (qg.trans (congrArg Value.bool hB)) (by decide), fun h => absurd (show ((!(((((decide (y < 1)) || (decide (6 < y))) || (decide (m < 0))) || (decide (2047 < m))) || (decide (1 < d)))) && (decide (0 < (k : Int)))) = true from h) (by rw [show ((!(((((decide (y < 1)) || (decide (6 < y))) || (decide (m < 0))) || (decide (2047 < m))) || (decide (1 < d)))) && (decide (0 < (k : Int)))) = false from by rw [hG, hB]; try rfl]; simp), fun _ => rfl⟩
                have hC : ((!(((((decide (y < 1)) || (decide (6 < y))) || (decide (m < 0))) || (decide (2047 < m))) || (decide (1 < d)))) && (decide (0 < (k : Int)))) = true := by rw [hG, hB]; try rfl
                refine .inl ⟨wanted_of (j := 30) (d := 133) rfl rfl rfl (by rw [hs]; exact of_decide_eq_true (by kernel_rfl)) (qg.trans (congrArg Value.bool hB)), fun K hK => ?_⟩
                exact ld23 rfl (q31.1 hC) c4 (hK _ _ (Below.refl _ _) ⟨fun _ => rfl, fun h => absurd (hC.symm.trans h) (by decide)⟩)
              | 33, ho =>
                obtain rfl := Option.some.inj ho
                have qg : ((!(((((decide (y < 1)) || (decide (6 < y))) || (decide (m < 0))) || (decide (2047 < m))) || (decide (1 < d)))) = true → fa.tmps.getD 133 undef = .bool (decide (0 < (k : Int)))) ∧ ((!(((((decide (y < 1)) || (decide (6 < y))) || (decide (m < 0))) || (decide (2047 < m))) || (decide (1 < d)))) = false → fa.tmps.getD 133 undef = undef) := hdep ⟨30, .guard⟩ (by simp) rfl _ 133 rfl rfl
                rcases Bool.eq_false_or_eq_true (!(((((decide (y < 1)) || (decide (6 < y))) || (decide (m < 0))) || (decide (2047 < m))) || (decide (1 < d)))) with hG | hG
                rotate_left
                · exact .inr ⟨wanted_undef (j := 30) (d := 133) rfl rfl rfl (by rw [hs]; exact of_decide_eq_true (by kernel_rfl)) (qg.2 hG), fun h => absurd (show ((!(((((decide (y < 1)) || (decide (6 < y))) || (decide (m < 0))) || (decide (2047 < m))) || (decide (1 < d)))) && (decide (0 < (k : Int)))) = true from h) (by rw [hG]; simp), fun _ => rfl⟩
                have qg := qg.1 hG
                rcases Bool.eq_false_or_eq_true (decide (0 < (k : Int))) with hB | hB
                rotate_left
                · exact .inr ⟨wanted_no (j := 30) (d := 133) rfl rfl rfl (by rw [hs]; exact of_decide_eq_true (by kernel_rfl)) (qg.trans (congrArg Value.bool hB)) (by decide), fun h => absurd (show ((!(((((decide (y < 1)) || (decide (6 < y))) || (decide (m < 0))) || (decide (2047 < m))) || (decide (1 < d)))) && (decide (0 < (k : Int)))) = true from h) (by rw [show ((!(((((decide (y < 1)) || (decide (6 < y))) || (decide (m < 0))) || (decide (2047 < m))) || (decide (1 < d)))) && (decide (0 < (k : Int)))) = false from by rw [hG, hB]; try rfl]; simp), fun _ => rfl⟩
                have hC : ((!(((((decide (y < 1)) || (decide (6 < y))) || (decide (m < 0))) || (decide (2047 < m))) || (decide (1 < d)))) && (decide (0 < (k : Int)))) = true := by rw [hG, hB]; try rfl
                refine .inl ⟨wanted_of (j := 30) (d := 133) rfl rfl rfl (by rw [hs]; exact of_decide_eq_true (by kernel_rfl)) (qg.trans (congrArg Value.bool hB)), fun K hK => ?_⟩
                exact st_move rfl ((hout 6 rfl).trans rfl) (hK _ _ (Below.refl _ _) ⟨fun _ => rfl, fun h => absurd (hC.symm.trans h) (by decide)⟩)
              | 34, ho =>
                obtain rfl := Option.some.inj ho
                have q33 : (((!(((((decide (y < 1)) || (decide (6 < y))) || (decide (m < 0))) || (decide (2047 < m))) || (decide (1 < d)))) && (decide (0 < (k : Int)))) = true → fa.tmps.getD 136 undef = .int .i64 (k : Int)) ∧ (((!(((((decide (y < 1)) || (decide (6 < y))) || (decide (m < 0))) || (decide (2047 < m))) || (decide (1 < d)))) && (decide (0 < (k : Int)))) = false → fa.tmps.getD 136 undef = undef) := hdep ⟨33, .data⟩ (by simp) rfl _ 136 rfl rfl
                have qg : ((!(((((decide (y < 1)) || (decide (6 < y))) || (decide (m < 0))) || (decide (2047 < m))) || (decide (1 < d)))) = true → fa.tmps.getD 133 undef = .bool (decide (0 < (k : Int)))) ∧ ((!(((((decide (y < 1)) || (decide (6 < y))) || (decide (m < 0))) || (decide (2047 < m))) || (decide (1 < d)))) = false → fa.tmps.getD 133 undef = undef) := hdep ⟨30, .guard⟩ (by simp) rfl _ 133 rfl rfl
                rcases Bool.eq_false_or_eq_true (!(((((decide (y < 1)) || (decide (6 < y))) || (decide (m < 0))) || (decide (2047 < m))) || (decide (1 < d)))) with hG | hG
                rotate_left
                · exact .inr ⟨wanted_undef (j := 30) (d := 133) rfl rfl rfl (by rw [hs]; exact of_decide_eq_true (by kernel_rfl)) (qg.2 hG), fun h => absurd (show ((!(((((decide (y < 1)) || (decide (6 < y))) || (decide (m < 0))) || (decide (2047 < m))) || (decide (1 < d)))) && (decide (0 < (k : Int)))) = true from h) (by rw [hG]; simp), fun _ => rfl⟩
                have qg := qg.1 hG
                rcases Bool.eq_false_or_eq_true (decide (0 < (k : Int))) with hB | hB
                rotate_left
                · exact .inr ⟨wanted_no (j := 30) (d := 133) rfl rfl rfl (by rw [hs]; exact of_decide_eq_true (by kernel_rfl)) (qg.trans (congrArg Value.bool hB)) (by decide), fun h => absurd (show ((!(((((decide (y < 1)) || (decide (6 < y))) || (decide (m < 0))) || (decide (2047 < m))) || (decide (1 < d)))) && (decide (0 < (k : Int)))) = true from h) (by rw [show ((!(((((decide (y < 1)) || (decide (6 < y))) || (decide (m < 0))) || (decide (2047 < m))) || (decide (1 < d)))) && (decide (0 < (k : Int)))) = false from by rw [hG, hB]; try rfl]; simp), fun _ => rfl⟩
                have hC : ((!(((((decide (y < 1)) || (decide (6 < y))) || (decide (m < 0))) || (decide (2047 < m))) || (decide (1 < d)))) && (decide (0 < (k : Int)))) = true := by rw [hG, hB]; try rfl
                refine .inl ⟨wanted_of (j := 30) (d := 133) rfl rfl rfl (by rw [hs]; exact of_decide_eq_true (by kernel_rfl)) (qg.trans (congrArg Value.bool hB)), fun K hK => ?_⟩
                exact st_sub_3 rfl (q33.1 hC) rfl (HJ.out (gpos_of hC)).1 (hK _ _ (Below.refl _ _) ⟨fun _ => rfl, fun h => absurd (hC.symm.trans h) (by decide)⟩)
              | 35, ho =>
                obtain rfl := Option.some.inj ho
                have q32 : (((!(((((decide (y < 1)) || (decide (6 < y))) || (decide (m < 0))) || (decide (2047 < m))) || (decide (1 < d)))) && (decide (0 < (k : Int)))) = true → fa.tmps.getD 135 undef = .slice (some ⟨bb, o, none⟩) n cap) ∧ (((!(((((decide (y < 1)) || (decide (6 < y))) || (decide (m < 0))) || (decide (2047 < m))) || (decide (1 < d)))) && (decide (0 < (k : Int)))) = false → fa.tmps.getD 135 undef = undef) := hdep ⟨32, .data⟩ (by simp) rfl _ 135 rfl rfl
                have q34 : (((!(((((decide (y < 1)) || (decide (6 < y))) || (decide (m < 0))) || (decide (2047 < m))) || (decide (1 < d)))) && (decide (0 < (k : Int)))) = true → fa.tmps.getD 137 undef = .int .i64 (j : Int)) ∧ (((!(((((decide (y < 1)) || (decide (6 < y))) || (decide (m < 0))) || (decide (2047 < m))) || (decide (1 < d)))) && (decide (0 < (k : Int)))) = false → fa.tmps.getD 137 undef = undef) := hdep ⟨34, .data⟩ (by simp) rfl _ 137 rfl rfl
                have qg : ((!(((((decide (y < 1)) || (decide (6 < y))) || (decide (m < 0))) || (decide (2047 < m))) || (decide (1 < d)))) = true → fa.tmps.getD 133 undef = .bool (decide (0 < (k : Int)))) ∧ ((!(((((decide (y < 1)) || (decide (6 < y))) || (decide (m < 0))) || (decide (2047 < m))) || (decide (1 < d)))) = false → fa.tmps.getD 133 undef = undef) := hdep ⟨30, .guard⟩ (by simp) rfl _ 133 rfl rfl
                rcases Bool.eq_false_or_eq_true (!(((((decide (y < 1)) || (decide (6 < y))) || (decide (m < 0))) || (decide (2047 < m))) || (decide (1 < d)))) with hG | hG
                rotate_left
                · exact .inr ⟨wanted_undef (j := 30) (d := 133) rfl rfl rfl (by rw [hs]; exact of_decide_eq_true (by kernel_rfl)) (qg.2 hG), fun h => absurd (show ((!(((((decide (y < 1)) || (decide (6 < y))) || (decide (m < 0))) || (decide (2047 < m))) || (decide (1 < d)))) && (decide (0 < (k : Int)))) = true from h) (by rw [hG]; simp), fun _ => rfl⟩
                have qg := qg.1 hG
                rcases Bool.eq_false_or_eq_true (decide (0 < (k : Int))) with hB | hB
                rotate_left
                · exact .inr ⟨wanted_no (j := 30) (d := 133) rfl rfl rfl (by rw [hs]; exact of_decide_eq_true (by kernel_rfl)) (qg.trans (congrArg Value.bool hB)) (by decide), fun h => absurd (show ((!(((((decide (y < 1)) || (decide (6 < y))) || (decide (m < 0))) || (decide (2047 < m))) || (decide (1 < d)))) && (decide (0 < (k : Int)))) = true from h) (by rw [show ((!(((((decide (y < 1)) || (decide (6 < y))) || (decide (m < 0))) || (decide (2047 < m))) || (decide (1 < d)))) && (decide (0 < (k : Int)))) = false from by rw [hG, hB]; try rfl]; simp), fun _ => rfl⟩
                have hC : ((!(((((decide (y < 1)) || (decide (6 < y))) || (decide (m < 0))) || (decide (2047 < m))) || (decide (1 < d)))) && (decide (0 < (k : Int)))) = true := by rw [hG, hB]; try rfl
                refine .inl ⟨wanted_of (j := 30) (d := 133) rfl rfl rfl (by rw [hs]; exact of_decide_eq_true (by kernel_rfl)) (qg.trans (congrArg Value.bool hB)), fun K hK => ?_⟩
                exact st_idx23 rfl (q32.1 hC) (q34.1 hC) (HJ.out (gpos_of hC)).2 (hK _ _ (Below.refl _ _) ⟨fun _ => rfl, fun h => absurd (hC.symm.trans h) (by decide)⟩)
              | 36, ho =>
                obtain rfl := Option.some.inj ho
                have q35 : (((!(((((decide (y < 1)) || (decide (6 < y))) || (decide (m < 0))) || (decide (2047 < m))) || (decide (1 < d)))) && (decide (0 < (k : Int)))) = true → fa.tmps.getD 138 undef = .pointer (some ⟨bb, o + j * 4, none⟩)) ∧ (((!(((((decide (y < 1)) || (decide (6 < y))) || (decide (m < 0))) || (decide (2047 < m))) || (decide (1 < d)))) && (decide (0 < (k : Int)))) = false → fa.tmps.getD 138 undef = undef) := hdep ⟨35, .data⟩ (by simp) rfl _ 138 rfl rfl
                have qg : ((!(((((decide (y < 1)) || (decide (6 < y))) || (decide (m < 0))) || (decide (2047 < m))) || (decide (1 < d)))) = true → fa.tmps.getD 133 undef = .bool (decide (0 < (k : Int)))) ∧ ((!(((((decide (y < 1)) || (decide (6 < y))) || (decide (m < 0))) || (decide (2047 < m))) || (decide (1 < d)))) = false → fa.tmps.getD 133 undef = undef) := hdep ⟨30, .guard⟩ (by simp) rfl _ 133 rfl rfl
                rcases Bool.eq_false_or_eq_true (!(((((decide (y < 1)) || (decide (6 < y))) || (decide (m < 0))) || (decide (2047 < m))) || (decide (1 < d)))) with hG | hG
                rotate_left
                · exact .inr ⟨wanted_undef (j := 30) (d := 133) rfl rfl rfl (by rw [hs]; exact of_decide_eq_true (by kernel_rfl)) (qg.2 hG), fun h => absurd (show ((!(((((decide (y < 1)) || (decide (6 < y))) || (decide (m < 0))) || (decide (2047 < m))) || (decide (1 < d)))) && (decide (0 < (k : Int)))) = true from h) (by rw [hG]; simp), fun _ => rfl⟩
                have qg := qg.1 hG
                rcases Bool.eq_false_or_eq_true (decide (0 < (k : Int))) with hB | hB
                rotate_left
                · exact .inr ⟨wanted_no (j := 30) (d := 133) rfl rfl rfl (by rw [hs]; exact of_decide_eq_true (by kernel_rfl)) (qg.trans (congrArg Value.bool hB)) (by decide), fun h => absurd (show ((!(((((decide (y < 1)) || (decide (6 < y))) || (decide (m < 0))) || (decide (2047 < m))) || (decide (1 < d)))) && (decide (0 < (k : Int)))) = true from h) (by rw [show ((!(((((decide (y < 1)) || (decide (6 < y))) || (decide (m < 0))) || (decide (2047 < m))) || (decide (1 < d)))) && (decide (0 < (k : Int)))) = false from by rw [hG, hB]; try rfl]; simp), fun _ => rfl⟩
                have hC : ((!(((((decide (y < 1)) || (decide (6 < y))) || (decide (m < 0))) || (decide (2047 < m))) || (decide (1 < d)))) && (decide (0 < (k : Int)))) = true := by rw [hG, hB]; try rfl
                refine .inl ⟨wanted_of (j := 30) (d := 133) rfl rfl rfl (by rw [hs]; exact of_decide_eq_true (by kernel_rfl)) (qg.trans (congrArg Value.bool hB)), fun K hK => ?_⟩
                exact ld33 rfl (q35.1 hC) ((Q1.out (gpos_of hC)).below hI hV3) (hK _ _ (Below.refl _ _) ⟨fun _ => rfl, fun h => absurd (hC.symm.trans h) (by decide)⟩)
              | 37, ho =>
                obtain rfl := Option.some.inj ho
                have qg : ((!(((((decide (y < 1)) || (decide (6 < y))) || (decide (m < 0))) || (decide (2047 < m))) || (decide (1 < d)))) = true → fa.tmps.getD 133 undef = .bool (decide (0 < (k : Int)))) ∧ ((!(((((decide (y < 1)) || (decide (6 < y))) || (decide (m < 0))) || (decide (2047 < m))) || (decide (1 < d)))) = false → fa.tmps.getD 133 undef = undef) := hdep ⟨30, .guard⟩ (by simp) rfl _ 133 rfl rfl
                rcases Bool.eq_false_or_eq_true (!(((((decide (y < 1)) || (decide (6 < y))) || (decide (m < 0))) || (decide (2047 < m))) || (decide (1 < d)))) with hG | hG
                rotate_left
                · exact .inr ⟨wanted_undef (j := 30) (d := 133) rfl rfl rfl (by rw [hs]; exact of_decide_eq_true (by kernel_rfl)) (qg.2 hG), fun h => absurd (show ((!(((((decide (y < 1)) || (decide (6 < y))) || (decide (m < 0))) || (decide (2047 < m))) || (decide (1 < d)))) && (decide (0 < (k : Int)))) = true from h) (by rw [hG]; simp), fun _ => rfl⟩
                have qg := qg.1 hG
                rcases Bool.eq_false_or_eq_true (decide (0 < (k : Int))) with hB | hB
                rotate_left
                · exact .inr ⟨wanted_no (j := 30) (d := 133) rfl rfl rfl (by rw [hs]; exact of_decide_eq_true (by kernel_rfl)) (qg.trans (congrArg Value.bool hB)) (by decide), fun h => absurd (show ((!(((((decide (y < 1)) || (decide (6 < y))) || (decide (m < 0))) || (decide (2047 < m))) || (decide (1 < d)))) && (decide (0 < (k : Int)))) = true from h) (by rw [show ((!(((((decide (y < 1)) || (decide (6 < y))) || (decide (m < 0))) || (decide (2047 < m))) || (decide (1 < d)))) && (decide (0 < (k : Int)))) = false from by rw [hG, hB]; try rfl]; simp), fun _ => rfl⟩
                have hC : ((!(((((decide (y < 1)) || (decide (6 < y))) || (decide (m < 0))) || (decide (2047 < m))) || (decide (1 < d)))) && (decide (0 < (k : Int)))) = true := by rw [hG, hB]; try rfl
                refine .inl ⟨wanted_of (j := 30) (d := 133) rfl rfl rfl (by rw [hs]; exact of_decide_eq_true (by kernel_rfl)) (qg.trans (congrArg Value.bool hB)), fun K hK => ?_⟩
                exact ld33 rfl ((hout 7 rfl).trans rfl) P2 (hK _ _ (Below.refl _ _) ⟨fun _ => rfl, fun h => absurd (hC.symm.trans h) (by decide)⟩)
              | 38, ho =>
                obtain rfl := Option.some.inj ho
                have q36 : (((!(((((decide (y < 1)) || (decide (6 < y))) || (decide (m < 0))) || (decide (2047 < m))) || (decide (1 < d)))) && (decide (0 < (k : Int)))) = true → fa.tmps.getD 139 undef = (Ps.v ⟨y2, m2, f2, d2⟩)) ∧ (((!(((((decide (y < 1)) || (decide (6 < y))) || (decide (m < 0))) || (decide (2047 < m))) || (decide (1 < d)))) && (decide (0 < (k : Int)))) = false → fa.tmps.getD 139 undef = undef) := hdep ⟨36, .data⟩ (by simp) rfl _ 139 rfl rfl
                have q37 : (((!(((((decide (y < 1)) || (decide (6 < y))) || (decide (m < 0))) || (decide (2047 < m))) || (decide (1 < d)))) && (decide (0 < (k : Int)))) = true → fa.tmps.getD 140 undef = (Ps.v ⟨y, m, f, d⟩)) ∧ (((!(((((decide (y < 1)) || (decide (6 < y))) || (decide (m < 0))) || (decide (2047 < m))) || (decide (1 < d)))) && (decide (0 < (k : Int)))) = false → fa.tmps.getD 140 undef = undef) := hdep ⟨37, .data⟩ (by simp) rfl _ 140 rfl rfl
                have qg : ((!(((((decide (y < 1)) || (decide (6 < y))) || (decide (m < 0))) || (decide (2047 < m))) || (decide (1 < d)))) = true → fa.tmps.getD 133 undef = .bool (decide (0 < (k : Int)))) ∧ ((!(((((decide (y < 1)) || (decide (6 < y))) || (decide (m < 0))) || (decide (2047 < m))) || (decide (1 < d)))) = false → fa.tmps.getD 133 undef = undef) := hdep ⟨30, .guard⟩ (by simp) rfl _ 133 rfl rfl
                rcases Bool.eq_false_or_eq_true (!(((((decide (y < 1)) || (decide (6 < y))) || (decide (m < 0))) || (decide (2047 < m))) || (decide (1 < d)))) with hG | hG
                rotate_left
                · exact .inr ⟨wanted_undef (j := 30) (d := 133) rfl rfl rfl (by rw [hs]; exact of_decide_eq_true (by kernel_rfl)) (qg.2 hG), fun h => absurd (show ((!(((((decide (y < 1)) || (decide (6 < y))) || (decide (m < 0))) || (decide (2047 < m))) || (decide (1 < d)))) && (decide (0 < (k : Int)))) = true from h) (by rw [hG]; simp), fun _ => rfl⟩
                have qg := qg.1 hG
                rcases Bool.eq_false_or_eq_true (decide (0 < (k : Int))) with hB | hB
                rotate_left
                · exact .inr ⟨wanted_no (j := 30) (d := 133) rfl rfl rfl (by rw [hs]; exact of_decide_eq_true (by kernel_rfl)) (qg.trans (congrArg Value.bool hB)) (by decide), fun h => absurd (show ((!(((((decide (y < 1)) || (decide (6 < y))) || (decide (m < 0))) || (decide (2047 < m))) || (decide (1 < d)))) && (decide (0 < (k : Int)))) = true from h) (by rw [show ((!(((((decide (y < 1)) || (decide (6 < y))) || (decide (m < 0))) || (decide (2047 < m))) || (decide (1 < d)))) && (decide (0 < (k : Int)))) = false from by rw [hG, hB]; try rfl]; simp), fun _ => rfl⟩
                have hC : ((!(((((decide (y < 1)) || (decide (6 < y))) || (decide (m < 0))) || (decide (2047 < m))) || (decide (1 < d)))) && (decide (0 < (k : Int)))) = true := by rw [hG, hB]; try rfl
                refine .inl ⟨wanted_of (j := 30) (d := 133) rfl rfl rfl (by rw [hs]; exact of_decide_eq_true (by kernel_rfl)) (qg.trans (congrArg Value.bool hB)), fun K hK => ?_⟩
                exact step_calls rfl enter15 (vs := #[Ps.v ⟨y2, m2, f2, d2⟩, Ps.v ⟨y, m, f, d⟩]) (vals2 (q36.1 hC) (q37.1 hC)) ((lcancel_any hd2 hd0 HCV.out _).mono fun e w' hh => by
                  obtain ⟨rfl, hb⟩ := hh
                  exact ⟨_, rfl, hK _ _ hb ⟨fun _ => rfl, fun h => absurd (hC.symm.trans h) (by decide)⟩⟩)
              | 39, ho =>
                obtain rfl := Option.some.inj ho
                have q38 : (((!(((((decide (y < 1)) || (decide (6 < y))) || (decide (m < 0))) || (decide (2047 < m))) || (decide (1 < d)))) && (decide (0 < (k : Int)))) = true → fa.tmps.getD 141 undef = .int .i64 cv) ∧ (((!(((((decide (y < 1)) || (decide (6 < y))) || (decide (m < 0))) || (decide (2047 < m))) || (decide (1 < d)))) && (decide (0 < (k : Int)))) = false → fa.tmps.getD 141 undef = undef) := hdep ⟨38, .data⟩ (by simp) rfl _ 141 rfl rfl
                have qg : ((!(((((decide (y < 1)) || (decide (6 < y))) || (decide (m < 0))) || (decide (2047 < m))) || (decide (1 < d)))) = true → fa.tmps.getD 133 undef = .bool (decide (0 < (k : Int)))) ∧ ((!(((((decide (y < 1)) || (decide (6 < y))) || (decide (m < 0))) || (decide (2047 < m))) || (decide (1 < d)))) = false → fa.tmps.getD 133 undef = undef) := hdep ⟨30, .guard⟩ (by simp) rfl _ 133 rfl rfl
                rcases Bool.eq_false_or_eq_true (!(((((decide (y < 1)) || (decide (6 < y))) || (decide (m < 0))) || (decide (2047 < m))) || (decide (1 < d)))) with hG | hG
                rotate_left
                · exact .inr ⟨wanted_undef (j := 30) (d := 133) rfl rfl rfl (by rw [hs]; exact of_decide_eq_true (by kernel_rfl)) (qg.2 hG), fun h => absurd (show ((!(((((decide (y < 1)) || (decide (6 < y))) || (decide (m < 0))) || (decide (2047 < m))) || (decide (1 < d)))) && (decide (0 < (k : Int)))) = true from h) (by rw [hG]; simp), fun _ => rfl⟩
                have qg := qg.1 hG
                rcases Bool.eq_false_or_eq_true (decide (0 < (k : Int))) with hB | hB
                rotate_left
                · exact .inr ⟨wanted_no (j := 30) (d := 133) rfl rfl rfl (by rw [hs]; exact of_decide_eq_true (by kernel_rfl)) (qg.trans (congrArg Value.bool hB)) (by decide), fun h => absurd (show ((!(((((decide (y < 1)) || (decide (6 < y))) || (decide (m < 0))) || (decide (2047 < m))) || (decide (1 < d)))) && (decide (0 < (k : Int)))) = true from h) (by rw [show ((!(((((decide (y < 1)) || (decide (6 < y))) || (decide (m < 0))) || (decide (2047 < m))) || (decide (1 < d)))) && (decide (0 < (k : Int)))) = false from by rw [hG, hB]; try rfl]; simp), fun _ => rfl⟩
                have hC : ((!(((((decide (y < 1)) || (decide (6 < y))) || (decide (m < 0))) || (decide (2047 < m))) || (decide (1 < d)))) && (decide (0 < (k : Int)))) = true := by rw [hG, hB]; try rfl
                refine .inl ⟨wanted_of (j := 30) (d := 133) rfl rfl rfl (by rw [hs]; exact of_decide_eq_true (by kernel_rfl)) (qg.trans (congrArg Value.bool hB)), fun K hK => ?_⟩
                exact st_eql_3 rfl (q38.1 hC) rfl (hK _ _ (Below.refl _ _) ⟨fun _ => rfl, fun h => absurd (hC.symm.trans h) (by decide)⟩)
              | 40, ho =>
                obtain rfl := Option.some.inj ho
                have q30 : ((!(((((decide (y < 1)) || (decide (6 < y))) || (decide (m < 0))) || (decide (2047 < m))) || (decide (1 < d)))) = true → fa.tmps.getD 133 undef = .bool (decide (0 < (k : Int)))) ∧ ((!(((((decide (y < 1)) || (decide (6 < y))) || (decide (m < 0))) || (decide (2047 < m))) || (decide (1 < d)))) = false → fa.tmps.getD 133 undef = undef) := hdep ⟨30, .data⟩ (by simp) rfl _ 133 rfl rfl
                have q39 : (((!(((((decide (y < 1)) || (decide (6 < y))) || (decide (m < 0))) || (decide (2047 < m))) || (decide (1 < d)))) && (decide (0 < (k : Int)))) = true → fa.tmps.getD 142 undef = .bool (cv == 1)) ∧ (((!(((((decide (y < 1)) || (decide (6 < y))) || (decide (m < 0))) || (decide (2047 < m))) || (decide (1 < d)))) && (decide (0 < (k : Int)))) = false → fa.tmps.getD 142 undef = undef) := hdep ⟨39, .data⟩ (by simp) rfl _ 142 rfl rfl
                have qg : fa.tmps.getD 130 undef = .bool (((((decide (y < 1)) || (decide (6 < y))) || (decide (m < 0))) || (decide (2047 < m))) || (decide (1 < d))) := hdep ⟨27, .guard⟩ (by simp) rfl _ 130 rfl rfl
                rcases Bool.eq_false_or_eq_true (((((decide (y < 1)) || (decide (6 < y))) || (decide (m < 0))) || (decide (2047 < m))) || (decide (1 < d))) with hB | hB
                · exact .inr ⟨wanted_no (j := 27) (d := 130) rfl rfl rfl (by rw [hs]; exact of_decide_eq_true (by kernel_rfl)) (qg.trans (congrArg Value.bool hB)) (by decide), fun h => absurd (show (!(((((decide (y < 1)) || (decide (6 < y))) || (decide (m < 0))) || (decide (2047 < m))) || (decide (1 < d)))) = true from h) (by rw [show (!(((((decide (y < 1)) || (decide (6 < y))) || (decide (m < 0))) || (decide (2047 < m))) || (decide (1 < d)))) = false from by rw [hB]; try rfl]; simp), fun _ => rfl⟩
                have hC : (!(((((decide (y < 1)) || (decide (6 < y))) || (decide (m < 0))) || (decide (2047 < m))) || (decide (1 < d)))) = true := by rw [hB]; try rfl
                refine .inl ⟨wanted_of (j := 27) (d := 130) rfl rfl rfl (by rw [hs]; exact of_decide_eq_true (by kernel_rfl)) (qg.trans (congrArg Value.bool hB)), fun K hK => ?_⟩
                exact st_and rfl (q30.1 hC) (fun h => q39.1 (by rw [hC, h]; try rfl)) (hK _ _ (Below.refl _ _) ⟨fun _ => rfl, fun h => absurd (hC.symm.trans h) (by decide)⟩)
              | 41, ho =>
                obtain rfl := Option.some.inj ho
                have q27 : fa.tmps.getD 130 undef = .bool (((((decide (y < 1)) || (decide (6 < y))) || (decide (m < 0))) || (decide (2047 < m))) || (decide (1 < d))) := hdep ⟨27, .data⟩ (by simp) rfl _ 130 rfl rfl
                have q40 : ((!(((((decide (y < 1)) || (decide (6 < y))) || (decide (m < 0))) || (decide (2047 < m))) || (decide (1 < d)))) = true → fa.tmps.getD 143 undef = .bool ((decide (0 < (k : Int))) && (cv == 1))) ∧ ((!(((((decide (y < 1)) || (decide (6 < y))) || (decide (m < 0))) || (decide (2047 < m))) || (decide (1 < d)))) = false → fa.tmps.getD 143 undef = undef) := hdep ⟨40, .data⟩ (by simp) rfl _ 143 rfl rfl
                refine .inl ⟨rfl, fun K hK => ?_⟩
                exact st_or rfl q27 (fun h => q40.1 (by rw [h]; try rfl)) (hK _ _ (Below.refl _ _) rfl)
              | i + 42, ho => exact absurd (show i + 42 < 42 from hlt) (by omega)
            · intro a2 wv hs hd hout hI hall
              obtain ⟨tmps, defers⟩ := a2
              have e0_144 : tmps.getD 144 undef = .bool ((((((decide (y < 1)) || (decide (6 < y))) || (decide (m < 0))) || (decide (2047 < m))) || (decide (1 < d))) || ((decide (0 < (k : Int))) && (cv == 1))) := hall 41 _ 144 rfl rfl
              have e_144 : tmps.getD 144 undef = .bool bd := by rw [e0_144, HBD.out]
              simp only at hs hd hout
              have ef := frameAt [some 103, some 104, some 105, some 106, some 107, some 108, some 109, some 110, some 111, some 112, some 113, some 114, some 115, some 116, some 117, some 118, some 119, some 120, some 121, some 122, some 123, some 124, some 125, some 126, some 127, some 128, some 129, some 130, some 131, some 132, some 133, some 134, some 135, some 136, some 137, some 138, some 139, some 140, some 141, some 142, some 143, some 144] _ tmps hs hout
              obtain ⟨sv13, hu⟩ : ∃ u : Nat → Value, u = fun s => tmps.getD s undef := ⟨_, rfl⟩
              have eu_144 : sv13 144 = .bool bd := by rw [hu]; exact e_144
              rw [← hu] at ef
              have ef2 : tmps = #[Value.agg #[Value.bool i, Value.int IntKind.i64 p, Value.int IntKind.i64 c, Value.bool nw, Value.slice (some { block := bb, off := o }) n cap], Value.agg #[Value.int IntKind.u8 yy, Value.int IntKind.i64 nn], Value.pointer (some { block := w.heap.size, off := 0 }), Value.pointer (some { block := w.heap.size + 1, off := 0 }), Value.bool false, Value.bool (g0 && b), Value.int IntKind.i64 k, Value.pointer (some { block := wr.heap.size, off := 0 }), undef, undef, undef, undef, undef, undef, undef, undef, undef, undef, undef, undef, undef, Value.pointer (some { block := w.heap.size, off := 4 }), Value.slice (some { block := bb, off := o }) n cap, Value.int IntKind.i64 n, Value.bool false, undef, sv3 26, sv3 27, sv3 28, sv3 29, sv3 30, sv3 31, sv3 32, sv3 33, sv3 34, sv3 35, sv3 36, sv3 37, sv3 38, sv3 39, sv3 40, sv3 41, sv3 42, sv3 43, sv3 44, sv3 45, Value.bool false, sv5 47, sv5 48, sv5 49, sv5 50, sv5 51, sv5 52, sv5 53, sv5 54, Value.pointer (some { block := w.heap.size, off := 0 }), Value.bool i, u57, u58, u59, u60, u61, u62, u63, u64, u65, u66, u67, u68, u69, u70, u71, u72, u73, u74, u75, u76, u77, u78, u79, u80, u81, u82, u83, u84, u85, u86, u87, u88, u89, u90, Value.int IntKind.i64 k, Value.pointer (some { block := w.heap.size, off := 4 }), Value.slice (some { block := bb, off := o }) n cap, Value.int IntKind.i64 n, Value.bool true, u96, u97, Value.pointer (some { block := w.heap.size, off := 4 }), Value.slice (some { block := bb, off := o }) n cap, Value.int IntKind.i64 k, Value.pointer (some { block := bb, off := o + k * 4 }), Value.agg #[Value.int IntKind.u8 y, Value.int IntKind.i64 m, Value.bool f, Value.int IntKind.u8 d], sv13 103, sv13 104, sv13 105, sv13 106, sv13 107, sv13 108, sv13 109, sv13 110, sv13 111, sv13 112, sv13 113, sv13 114, sv13 115, sv13 116, sv13 117, sv13 118, sv13 119, sv13 120, sv13 121, sv13 122, sv13 123, sv13 124, sv13 125, sv13 126, sv13 127, sv13 128, sv13 129, sv13 130, sv13 131, sv13 132, sv13 133, sv13 134, sv13 135, sv13 136, sv13 137, sv13 138, sv13 139, sv13 140, sv13 141, sv13 142, sv13 143, sv13 144, u145, u146, u147, u148, u149, u150, u151, u152, u153, u154, u155, u156, u157, u158, u159, u160, u161, u162, u163, u164, u165, u166, u167, u168, u169, u170, u171, u172, u173, u174, u175, u176, u177, u178, u179, u180, u181, u182, u183, u184, u185, u186, u187, u188, u189, u190, u191, u192, u193, u194, u195, u196, u197, u198, u199, u200, u201, u202, u203, u204, u205, u206, u207, u208, u209, u210, u211, u212] := ef
              subst hd
              rw [eu_144] at ef2
              rw [ef2]
              clear ef ef2 hu hs hout hall e0_144 e_144 eu_144
              have hbn : Below W1.heap.size W1 wv := hbV.trans (hI.mono hbV.size)
              have HFS := Lib.hid (fine_step HPP.out HJ0.out HQQ.out hd0 HCV.out HBD.out HB.out)
              clear hI F1 Q1 P1
              cases bd
              · go_wp2_with fail
                go_roundg (gk - 1)
                case measure => have := HM.out; omega
                case rel => exact ⟨k + 1, b && !false, by omega, by have := HM.out; omega, by go_num, by simp, HFS, hbn⟩
              · go_wp2_with fail
                go_roundg (gk - 1)
                case measure => have := HM.out; omega
                case rel => exact ⟨k + 1, b && !true, by omega, by have := HM.out; omega, by go_num, by simp, HFS, hbn⟩
          · obtain rfl : k = n := by omega
            have hv := vy_iff HN.out hm HGC.out HG7.out HG8.out HB.out
            obtain ⟨G, hG⟩ : ∃ G, (g0 && b) = G := ⟨_, rfl⟩
            rw [hG] at hv ⊢
            have HV := Lib.hid hv
            have HL4 := Lib.hid (HL3.out.below hb)
            have hb4 : Below w.heap.size w wr := hb3.trans (hb.mono hb3.size)
            have hz4 : w.heap.size < wr.heap.size := by omega
            clear hv hG hb hb3 hz3 hsz HB HM HG7 HG8 HGC FE HL3 c4 hlt
            obtain ⟨⟨c0, c1, c2, c3, c4⟩, -⟩ := FR.out
            cases G
            · have NV : Hid (¬ VY i p c nw ps) := Lib.hid fun h => by cases HV.out.2 h
              clear HV
              have F4 := FR
              clear FR
              go_wp2_with (go_at_call 17; refine (enter_bad _ _ _ _ _ ps _ _ _ HN.out (by omega) HL4.out 0 NV.out).mono ?_; rintro e w5 ⟨rfl, hbq⟩; refine Hid.out ?_)
              clear c0 c1 c2 c3 c4
              have F5 := Lib.hid (F4.out.below hbq (by (try simp); omega))
              have HL5 := Lib.hid (HL4.out.below hbq)
              have hb5 : Below w.heap.size w w5 := hb4.trans (hbq.mono (by (try simp); omega))
              have hz5 : w.heap.size < w5.heap.size := by have := hbq.size; (try simp at this); omega
              clear hbq hb4 HL4 F4 hz4
              have c0 := fun o0 => (F5.out.alloc (by omega) o0).1.1
              have c1 := fun o0 => (F5.out.alloc (by omega) o0).1.2.1
              have c2 := fun o0 => (F5.out.alloc (by omega) o0).1.2.2.1
              have c3 := fun o0 => (F5.out.alloc (by omega) o0).1.2.2.2.1
              have c4 := fun o0 => (F5.out.alloc (by omega) o0).1.2.2.2.2
              refine Lib.hid ?_
              go_wp2_with (go_at_call 18; refine (leave_bad _ _ _ _ _ ps _ _ _ HN.out (by omega) (HL5.out.below (below1 _ _)) NV.out).mono ?_; rintro e w6 ⟨rfl, hbq⟩; refine Hid.out ?_)
              clear c0 c1 c2 c3 c4
              have F6 := Lib.hid ((F5.out.alloc (by omega) _).below hbq (by (try simp); omega))
              have HL6 := Lib.hid ((HL5.out.below (below1 _ _)).below hbq)
              have hb6 : Below w.heap.size w w6 := (hb5.alloc (by omega) _).trans (hbq.mono (by (try simp); omega))
              have hz6 : w.heap.size < w6.heap.size := by have := hbq.size; (try simp at this); omega
              clear hbq hb5 HL5 F5 hz5
              have c0 := fun o0 => (F6.out.alloc (by omega) o0).1.1
              have c1 := fun o0 => (F6.out.alloc (by omega) o0).1.2.1
              have c2 := fun o0 => (F6.out.alloc (by omega) o0).1.2.2.1
              have c3 := fun o0 => (F6.out.alloc (by omega) o0).1.2.2.2.1
              have c4 := fun o0 => (F6.out.alloc (by omega) o0).1.2.2.2.2
              refine Lib.hid ?_
              go_wp2_with (go_at_call 19; refine (go_bad1 _ _ _ _ _ ps _ _ _ HN.out (by omega) (HL6.out.below (below1 _ _)) 7 none 0 0 NV.out).mono ?_; rintro e w7 ⟨rfl, hbq⟩; refine Hid.out ?_)
              clear c0 c1 c2 c3 c4
              have F7 := Lib.hid ((F6.out.alloc (by omega) _).below hbq (by (try simp); omega))
              have HL7 := Lib.hid ((HL6.out.below (below1 _ _)).below hbq)
              have hb7 : Below w.heap.size w w7 := (hb6.alloc (by omega) _).trans (hbq.mono (by (try simp); omega))
              have hz7 : w.heap.size < w7.heap.size := by have := hbq.size; (try simp at this); omega
              clear hbq hb6 HL6 F6 hz6
              have c0 := fun o0 => (F7.out.alloc (by omega) o0).1.1
              have c1 := fun o0 => (F7.out.alloc (by omega) o0).1.2.1
              have c2 := fun o0 => (F7.out.alloc (by omega) o0).1.2.2.1
              have c3 := fun o0 => (F7.out.alloc (by omega) o0).1.2.2.2.1
              have c4 := fun o0 => (F7.out.alloc (by omega) o0).1.2.2.2.2
              refine Lib.hid ?_
              go_wp2_with (go_at_call 20; refine (make_bad _ _ _ _ _ ps _ _ _ HN.out (by omega) (HL7.out.below (below1 _ _)) NV.out).mono ?_; rintro e w8 ⟨rfl, hbq⟩; refine Hid.out ?_)
              clear c0 c1 c2 c3 c4
              have F8 := Lib.hid ((F7.out.alloc (by omega) _).below hbq (by (try simp); omega))
              have HL8 := Lib.hid ((HL7.out.below (below1 _ _)).below hbq)
              have hb8 : Below w.heap.size w w8 := (hb7.alloc (by omega) _).trans (hbq.mono (by (try simp); omega))
              have hz8 : w.heap.size < w8.heap.size := by have := hbq.size; (try simp at this); omega
              clear hbq hb7 HL7 F7 hz7
              have c0 := fun o0 o1 => ((F8.out.alloc (by omega) o0).alloc (by (try simp); omega) o1).1.1
              have c1 := fun o0 o1 => ((F8.out.alloc (by omega) o0).alloc (by (try simp); omega) o1).1.2.1
              have c2 := fun o0 o1 => ((F8.out.alloc (by omega) o0).alloc (by (try simp); omega) o1).1.2.2.1
              have c3 := fun o0 o1 => ((F8.out.alloc (by omega) o0).alloc (by (try simp); omega) o1).1.2.2.2.1
              have c4 := fun o0 o1 => ((F8.out.alloc (by omega) o0).alloc (by (try simp); omega) o1).1.2.2.2.2
              refine Lib.hid ?_
              go_wp2_with (go_at_call 21; refine (check_bad _ _ _ _ _ ps _ _ _ HN.out (by omega) ((HL8.out.below (below1 _ _)).below (below1 _ _)) NV.out).mono ?_; rintro e w9 ⟨rfl, hbq⟩; refine Hid.out ?_)
              clear c0 c1 c2 c3 c4
              have F9 := Lib.hid (((F8.out.alloc (by omega) _).alloc (by (try simp); omega) _).below hbq (by (try simp); omega))
              have HL9 := Lib.hid (((HL8.out.below (below1 _ _)).below (below1 _ _)).below hbq)
              have hb9 : Below w.heap.size w w9 := ((hb8.alloc (by omega) _).alloc (by (try simp); omega) _).trans (hbq.mono (by (try simp); omega))
              have hz9 : w.heap.size < w9.heap.size := by have := hbq.size; (try simp at this); omega
              clear hbq hb8 HL8 F8 hz8
              refine Lib.hid ?_
              go_wp2_with (go_at_call 9; refine (lives_any _).mono ?_; rintro e wz ⟨rfl, hbq⟩)
              go_ret
              exact ⟨rfl, hb9.trans (hbq.mono hb9.size)⟩
            · have YV : Hid (VY i p c nw ps) := Lib.hid (HV.out.1 rfl)
              clear HV
              have F4 := FR
              clear FR
              cases i
              · go_wp2_with (go_at_call 20; refine (make_out _ _ _ _ ps _ _ _ HN.out (by omega) HL4.out YV.out).mono ?_; rintro e w5 ⟨rfl, hbq⟩; refine Hid.out ?_)
                clear c0 c1 c2 c3 c4
                have F5 := Lib.hid (F4.out.below hbq (by (try simp); omega))
                have HL5 := Lib.hid (HL4.out.below hbq)
                have hb5 : Below w.heap.size w w5 := hb4.trans (hbq.mono (by (try simp); omega))
                have hz5 : w.heap.size < w5.heap.size := by have := hbq.size; (try simp at this); omega
                clear hbq hb4 HL4 F4 hz4
                have c0 := fun o0 o1 => ((F5.out.alloc (by omega) o0).alloc (by (try simp); omega) o1).1.1
                have c1 := fun o0 o1 => ((F5.out.alloc (by omega) o0).alloc (by (try simp); omega) o1).1.2.1
                have c2 := fun o0 o1 => ((F5.out.alloc (by omega) o0).alloc (by (try simp); omega) o1).1.2.2.1
                have c3 := fun o0 o1 => ((F5.out.alloc (by omega) o0).alloc (by (try simp); omega) o1).1.2.2.2.1
                have c4 := fun o0 o1 => ((F5.out.alloc (by omega) o0).alloc (by (try simp); omega) o1).1.2.2.2.2
                refine Lib.hid ?_
                go_wp2_with (go_at_call 21; refine (check_ok _ _ _ _ _ ps _ _ _ HN.out (by omega) ((HL5.out.below (below1 _ _)).below (below1 _ _)) YV.out).mono ?_; rintro e w6 ⟨rfl, hbq⟩; refine Hid.out ?_)
                clear c0 c1 c2 c3 c4
                have F6 := Lib.hid (((F5.out.alloc (by omega) _).alloc (by (try simp); omega) _).below hbq (by (try simp); omega))
                have HL6 := Lib.hid (((HL5.out.below (below1 _ _)).below (below1 _ _)).below hbq)
                have hb6 : Below w.heap.size w w6 := ((hb5.alloc (by omega) _).alloc (by (try simp); omega) _).trans (hbq.mono (by (try simp); omega))
                have hz6 : w.heap.size < w6.heap.size := by have := hbq.size; (try simp at this); omega
                clear hbq hb5 HL5 F5 hz5
                refine Lib.hid ?_
                go_wp2_with (go_at_call 9; refine (lives_any _).mono ?_; rintro e wz ⟨rfl, hbq⟩)
                go_ret
                exact ⟨rfl, hb6.trans (hbq.mono hb6.size)⟩
              · by_cases e48 : c = 2048
                · subst e48
                  go_wp2_with (go_at_call 20; refine (make_full _ _ _ ps _ _ _ HN.out (by omega) HL4.out YV.out).mono ?_; rintro e w5 ⟨rfl, hbq⟩; refine Hid.out ?_)
                  clear c0 c1 c2 c3 c4
                  have F5 := Lib.hid (F4.out.below hbq (by (try simp); omega))
                  have HL5 := Lib.hid (HL4.out.below hbq)
                  have hb5 : Below w.heap.size w w5 := hb4.trans (hbq.mono (by (try simp); omega))
                  have hz5 : w.heap.size < w5.heap.size := by have := hbq.size; (try simp at this); omega
                  clear hbq hb4 HL4 F4 hz4
                  have c0 := fun o0 o1 => ((F5.out.alloc (by omega) o0).alloc (by (try simp); omega) o1).1.1
                  have c1 := fun o0 o1 => ((F5.out.alloc (by omega) o0).alloc (by (try simp); omega) o1).1.2.1
                  have c2 := fun o0 o1 => ((F5.out.alloc (by omega) o0).alloc (by (try simp); omega) o1).1.2.2.1
                  have c3 := fun o0 o1 => ((F5.out.alloc (by omega) o0).alloc (by (try simp); omega) o1).1.2.2.2.1
                  have c4 := fun o0 o1 => ((F5.out.alloc (by omega) o0).alloc (by (try simp); omega) o1).1.2.2.2.2
                  refine Lib.hid ?_
                  go_wp2_with (go_at_call 21; refine (check_ok _ _ _ _ _ ps _ _ _ HN.out (by omega) ((HL5.out.below (below1 _ _)).below (below1 _ _)) YV.out).mono ?_; rintro e w6 ⟨rfl, hbq⟩; refine Hid.out ?_)
                  clear c0 c1 c2 c3 c4
                  have F6 := Lib.hid (((F5.out.alloc (by omega) _).alloc (by (try simp); omega) _).below hbq (by (try simp); omega))
                  have HL6 := Lib.hid (((HL5.out.below (below1 _ _)).below (below1 _ _)).below hbq)
                  have hb6 : Below w.heap.size w w6 := ((hb5.alloc (by omega) _).alloc (by (try simp); omega) _).trans (hbq.mono (by (try simp); omega))
                  have hz6 : w.heap.size < w6.heap.size := by have := hbq.size; (try simp at this); omega
                  clear hbq hb5 HL5 F5 hz5
                  refine Lib.hid ?_
                  go_wp2_with (go_at_call 9; refine (lives_any _).mono ?_; rintro e wz ⟨rfl, hbq⟩)
                  go_ret
                  exact ⟨rfl, hb6.trans (hbq.mono hb6.size)⟩
                · have e48b : (c == 2048) = false := by simp; omega
                  go_wp2_with (go_at_call 20; refine (make_ok _ _ _ _ ps _ _ _ HN.out (by omega) HL4.out YV.out (by have := YV.out.1; omega)).mono ?_; rintro e w5 ⟨bo, rfl, -, hbq⟩; refine Hid.out ?_)
                  clear c0 c1 c2 c3 c4
                  have F5 := Lib.hid (F4.out.below hbq (by (try simp); omega))
                  have HL5 := Lib.hid (HL4.out.below hbq)
                  have hb5 : Below w.heap.size w w5 := hb4.trans (hbq.mono (by (try simp); omega))
                  have hz5 : w.heap.size < w5.heap.size := by have := hbq.size; (try simp at this); omega
                  clear hbq hb4 HL4 F4 hz4
                  have c0 := fun o0 o1 => ((F5.out.alloc (by omega) o0).alloc (by (try simp); omega) o1).1.1
                  have c1 := fun o0 o1 => ((F5.out.alloc (by omega) o0).alloc (by (try simp); omega) o1).1.2.1
                  have c2 := fun o0 o1 => ((F5.out.alloc (by omega) o0).alloc (by (try simp); omega) o1).1.2.2.1
                  have c3 := fun o0 o1 => ((F5.out.alloc (by omega) o0).alloc (by (try simp); omega) o1).1.2.2.2.1
                  have c4 := fun o0 o1 => ((F5.out.alloc (by omega) o0).alloc (by (try simp); omega) o1).1.2.2.2.2
                  refine Lib.hid ?_
                  go_wp2_with (go_at_call 21; refine (check_ok _ _ _ _ _ ps _ _ _ HN.out (by omega) ((HL5.out.below (below1 _ _)).below (below1 _ _)) YV.out).mono ?_; rintro e w6 ⟨rfl, hbq⟩; refine Hid.out ?_)
                  clear c0 c1 c2 c3 c4
                  have F6 := Lib.hid (((F5.out.alloc (by omega) _).alloc (by (try simp); omega) _).below hbq (by (try simp); omega))
                  have HL6 := Lib.hid (((HL5.out.below (below1 _ _)).below (below1 _ _)).below hbq)
                  have hb6 : Below w.heap.size w w6 := ((hb5.alloc (by omega) _).alloc (by (try simp); omega) _).trans (hbq.mono (by (try simp); omega))
                  have hz6 : w.heap.size < w6.heap.size := by have := hbq.size; (try simp at this); omega
                  clear hbq hb5 HL5 F5 hz5
                  refine Lib.hid ?_
                  go_wp2_with (go_at_call 9; refine (lives_any _).mono ?_; rintro e wz ⟨rfl, hbq⟩)
                  go_ret
                  exact ⟨rfl, hb6.trans (hbq.mono hb6.size)⟩

end Go.Proofs.Ytikdhdikaihenaa
