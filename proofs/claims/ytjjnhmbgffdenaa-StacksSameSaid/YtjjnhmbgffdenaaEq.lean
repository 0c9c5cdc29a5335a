import Derived.Test.YtjjnhmbgffdenaaBase
import Derived.Laws.StructEq
namespace Go.Proofs.Ytjjnhmbgffdenaa
open Go.RowKit

theorem und28 : Try.prog.underlying 28 = some (.struct (Try.prog.fieldsOf 28)) := by kernel_rfl
theorem und26 : Try.prog.underlying 26 = some (.struct (Try.prog.fieldsOf 26)) := by kernel_rfl
theorem sih28 : Try.prog.stoodInHeld 28 = false := by kernel_rfl
theorem sih26 : Try.prog.stoodInHeld 26 = false := by kernel_rfl
theorem eqg28 : Try.prog.eqGuardType Try.prog.depth 28 = false := by kernel_rfl
theorem eqg26 : Try.prog.eqGuardType Try.prog.depth 26 = false := by kernel_rfl
theorem fields28 : ((Try.prog.fieldsOf 28).toList.map fun f => (f.name != "_", f.type, f.offset)) = [(true, 5, 0), (true, 3, 1)] := by kernel_rfl
theorem fields26 : ((Try.prog.fieldsOf 26).toList.map fun f => (f.name != "_", f.type, f.offset)) = [(true, 24, 0), (true, 3, 1)] := by kernel_rfl

theorem eqFields_two (d t1 t2 : Nat) (xs ys : Array Value) (fs : List Field) (w : World) (k1 k2 : IntKind) (a b a' b' : Int) (hf : (fs.map fun f => (f.name != "_", f.type, f.offset)) = [(true, t1, 0), (true, t2, 1)])
    (hu1 : Try.prog.underlying t1 = some (.int k1)) (hu2 : Try.prog.underlying t2 = some (.int k2)) (h1 : ∀ w, (part t1 xs 0).run Try.prog w = .ok (.int k1 a) w) (h2 : ∀ w, (part t2 xs 1).run Try.prog w = .ok (.int k2 b) w)
    (h1' : ∀ w, (part t1 ys 0).run Try.prog w = .ok (.int k1 a') w) (h2' : ∀ w, (part t2 ys 1).run Try.prog w = .ok (.int k2 b') w) :
    (Op.eqFields (d + 1) xs ys fs).run Try.prog w = .ok ((a == a') && (b == b')) w := by
  obtain ⟨f, g, rfl⟩ : ∃ f g, fs = [f, g] := by
    have hl : fs.length = 2 := by simpa using congrArg List.length hf
    cases fs with
    | nil => simp at hl
    | cons f fs => cases fs with
      | nil => simp at hl
      | cons g fs => cases fs with
        | nil => exact ⟨f, g, rfl⟩
        | cons x fs => simp at hl
  · skip
    simp only [List.map_cons, List.map_nil, List.cons.injEq, Prod.mk.injEq, and_true] at hf
    obtain ⟨⟨n1, e1, o1⟩, n2, e2, o2⟩ := hf
    have n1' : f.name ≠ "_" := by simpa using n1
    have n2' : g.name ≠ "_" := by simpa using n2
    simp only [Op.eqFields, n1', n2', ne_eq, not_false_eq_true, if_true, e1, e2, o1, o2, Sem.run_bind, h1, h2, h1', h2', Result.andThen_ok, run_equalIn_int _ _ _ _ _ _ _ hu1, run_equalIn_int _ _ _ _ _ _ _ hu2]
    cases a == a'
    · simp
    · simp only [Bool.not_true, Bool.false_eq_true, if_false, Sem.run_bind, h2, h2', Result.andThen_ok, run_equalIn_int _ _ _ _ _ _ _ hu2, Bool.true_and]
      cases b == b' <;> simp
theorem run_eql28 (y n y' n' : Int) (w : World) : (binOp .eql 28 (.agg #[.int .u8 y, .int .i64 n]) (.agg #[.int .u8 y', .int .i64 n'])).run Try.prog w = .ok (.bool ((y == y') && (n == n'))) w := by
  rw [run_eql_struct, run_equalIn_agg _ _ _ _ _ und28 sih28, eqFields_two 9998 5 3 _ _ _ w .u8 .i64 y n y' n' fields28 Try.underlying5 Try.underlying3 (fun _ => by kernel_rfl) (fun _ => by kernel_rfl) (fun _ => by kernel_rfl) (fun _ => by kernel_rfl)]
  rfl
theorem run_neq28 (y n y' n' : Int) (w : World) : (binOp .neq 28 (.agg #[.int .u8 y, .int .i64 n]) (.agg #[.int .u8 y', .int .i64 n'])).run Try.prog w = .ok (.bool (!((y == y') && (n == n')))) w := by
  rw [run_neq_struct, run_equalIn_agg _ _ _ _ _ und28 sih28, eqFields_two 9998 5 3 _ _ _ w .u8 .i64 y n y' n' fields28 Try.underlying5 Try.underlying3 (fun _ => by kernel_rfl) (fun _ => by kernel_rfl) (fun _ => by kernel_rfl) (fun _ => by kernel_rfl)]
  rfl
theorem run_eql26 (y n y' n' : Int) (w : World) : (binOp .eql 26 (.agg #[.int .u8 y, .int .i64 n]) (.agg #[.int .u8 y', .int .i64 n'])).run Try.prog w = .ok (.bool ((y == y') && (n == n'))) w := by
  rw [run_eql_struct, run_equalIn_agg _ _ _ _ _ und26 sih26, eqFields_two 9998 24 3 _ _ _ w .u8 .i64 y n y' n' fields26 Try.underlying24 Try.underlying3 (fun _ => by kernel_rfl) (fun _ => by kernel_rfl) (fun _ => by kernel_rfl) (fun _ => by kernel_rfl)]
  rfl
theorem run_neq26 (y n y' n' : Int) (w : World) : (binOp .neq 26 (.agg #[.int .u8 y, .int .i64 n]) (.agg #[.int .u8 y', .int .i64 n'])).run Try.prog w = .ok (.bool (!((y == y') && (n == n')))) w := by
  rw [run_neq_struct, run_equalIn_agg _ _ _ _ _ und26 sih26, eqFields_two 9998 24 3 _ _ _ w .u8 .i64 y n y' n' fields26 Try.underlying24 Try.underlying3 (fun _ => by kernel_rfl) (fun _ => by kernel_rfl) (fun _ => by kernel_rfl) (fun _ => by kernel_rfl)]
  rfl
/-- Whether two names are one. -/
def sameNm (y n y' n' : Int) : Bool := (y == y') && (n == n')
theorem sameNm_iff {y n y' n' : Int} : sameNm y n y' n' = true ↔ (⟨y, n⟩ : Nm) = ⟨y', n'⟩ := by simp [sameNm]
theorem eql28 {y n y' n' : Int} {r : Bool} (h : sameNm y n y' n' = r) (w : World) : (binOp .eql 28 (.agg #[.int .u8 y, .int .i64 n]) (.agg #[.int .u8 y', .int .i64 n'])).run Try.prog w = .ok (.bool r) w := by
  rw [run_eql28, ← h]; rfl
theorem neq28 {y n y' n' : Int} {r : Bool} (h : sameNm y n y' n' = r) (w : World) : (binOp .neq 28 (.agg #[.int .u8 y, .int .i64 n]) (.agg #[.int .u8 y', .int .i64 n'])).run Try.prog w = .ok (.bool (!r)) w := by
  rw [run_neq28, ← h]; rfl
theorem eql26 {y n y' n' : Int} {r : Bool} (h : sameNm y n y' n' = r) (w : World) : (binOp .eql 26 (.agg #[.int .u8 y, .int .i64 n]) (.agg #[.int .u8 y', .int .i64 n'])).run Try.prog w = .ok (.bool r) w := by
  rw [run_eql26, ← h]; rfl
theorem neq26 {y n y' n' : Int} {r : Bool} (h : sameNm y n y' n' = r) (w : World) : (binOp .neq 26 (.agg #[.int .u8 y, .int .i64 n]) (.agg #[.int .u8 y', .int .i64 n'])).run Try.prog w = .ok (.bool (!r)) w := by
  rw [run_neq26, ← h]; rfl
theorem sameNm_no {y n y' n' : Int} (h : sameNm y n y' n' = false) : (⟨y, n⟩ : Nm) ≠ ⟨y', n'⟩ := fun e => by rw [sameNm_iff.2 e] at h; cases h
end Go.Proofs.Ytjjnhmbgffdenaa
