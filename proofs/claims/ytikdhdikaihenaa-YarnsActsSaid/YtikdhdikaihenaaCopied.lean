import Derived.Test.YtikdhdikaihenaaCopy
import Derived.Deep.OwnRows
namespace Go.Proofs.Ytikdhdikaihenaa
open Go.RowKit Go.Sort

theorem setRow_alloc (w : World) (cur new : Array Value) (t : TypeId) : (w.alloc (.cells cur t)).setRow w.heap.size new = w.alloc (.cells new t) := by
  unfold World.setRow World.alloc
  simp only
  congr 1
  apply Array.ext
  · simp
  · intro k h1 h2
    simp only [Array.getElem_modify]
    split
    · rename_i hk; subst hk; simp
    · rename_i hk
      simp only [Array.size_modify, Array.size_push] at h1
      rw [Array.getElem_push_lt (by omega), Array.getElem_push_lt (by omega)]

/-- The zero pass. -/
def zero33 : Value := .agg #[.int .u8 0, .int .i64 0, .bool false, .int .u8 0]
theorem info33 : (Try.prog.info? 33).map (fun i => (i.zero, i.size, i.bytes)) = some (some zero33, 4, 24) := by kernel_rfl

/-- The row of the call's own that 'make' lays. -/
def rowNew (n : Nat) : Array Value := madeCells zero33.cells (n * 4)

theorem run_mk (c : Int) (n : Nat) (hc : c = n) (h1 : 24 * n ≤ 281474976710656) (w : World) :
    (Instr.makeSlice 23 (.int .i64 c) (.int .i64 c)).run Try.prog w = .ok (.slice (some ⟨w.heap.size, 0, none⟩) n n) (w.alloc (.cells (rowNew n) 33)) := by
  subst hc
  obtain ⟨i0, hi, hz0, hz1, hz2⟩ := info_parts info33
  have hr := run_make (P := Try.prog) w 23 33 i0 zero33 Try.underlying23 hi hz0 .i64 .i64 n n (by omega) (Int.le_refl _) (by rw [hz2]; omega) (by omega)
  simp only [Int.toNat_natCast, hz1] at hr
  exact hr
theorem run_mk0 (c : Int) (n : Nat) (hc : c = n) (h1 : 24 * n ≤ 281474976710656) (w : World) :
    (Instr.makeSlice 23 (.int .i64 0) (.int .i64 c)).run Try.prog w = .ok (.slice (some ⟨w.heap.size, 0, none⟩) 0 n) (w.alloc (.cells (rowNew n) 33)) := by
  subst hc
  obtain ⟨i0, hi, hz0, hz1, hz2⟩ := info_parts info33
  have hr := run_make (P := Try.prog) w 23 33 i0 zero33 Try.underlying23 hi hz0 .i64 .i64 0 n (by omega) (by omega) (by rw [hz2]; omega) (by omega)
  simp only [Int.toNat_natCast, hz1, Int.toNat_zero] at hr
  exact hr
theorem rowNew_size (n : Nat) : (rowNew n).size = n * 4 := size_madeCells _ _

/-- A list of passes that the call has made: its length is its room. -/
def Made (B : Nat) (w w' : World) (e : Ending) (ps : List Ps) : Prop :=
  ∃ bo, e = .returned (.slice bo ps.length ps.length) ∧ w'.ownsRow B 33 4 (.slice bo ps.length ps.length) ps.length (cellsOf ps) ∧ Below w.heap.size w w'

theorem copied_any (ao : Option Addr) (ps : List Ps) (n cap : Nat) (w : World) (hn : n = ps.length) (hm : 24 * n ≤ 281474976710656) (h : Lie w ao ps) :
    Calls Try.prog 24 #[.slice ao n cap] w fun e w' => Made w.heap.size w w' e ps := by
  have HN := Lib.hid hn
  have HL := Lib.hid h
  clear hn h
  by_cases h0 : n = 0
  · subst h0
    obtain rfl : ps = [] := List.eq_nil_of_length_eq_zero HN.out.symm
    go_enter Try.func24, Try.ntmps24
    go_wp2
    go_ret
    exact ⟨none, rfl, World.ownsRow_nil _ _ _ _, Below.refl _ _⟩
  · obtain ⟨b, o, rfl, hb, -⟩ := Lie.at HL.out (i := 0) (by rw [← HN.out]; omega)
    have hmk := fun w => run_mk (n : Int) n rfl hm w
    obtain ⟨i0, hi, hz0, hz1, hz2⟩ := info_parts info33
    have hlen : (cellsOf ps).length = n * 4 := by rw [cellsOf_length, HN.out]
    have hcp : (Builtin.copy_ #[23, 23] 3 #[.slice (some ⟨w.heap.size, 0, none⟩) n n, .slice (some ⟨b, o, none⟩) n cap]).run Try.prog (w.alloc (.cells (rowNew n) 33)) = .ok (goInt n) (w.alloc (.cells (cellsOf ps).toArray 33)) := by
      have := run_copy_all (P := Try.prog) (w.alloc (.cells (rowNew n) 33)) 23 23 3 33 w.heap.size n n ⟨b, o, none⟩ cap 4 (rowNew n) 33 (cellsOf ps) Try.underlying23 i0 hi hz1 (heap_alloc_new w _) hlen
        ((HL.out.below (below1 w _)).cells _ rfl) (by rw [rowNew_size, hlen]; exact Nat.le_refl _) (cellsOf_one ps)
      rw [this, setRow_alloc, List.drop_of_length_le (by rw [Array.length_toList, rowNew_size, hlen]; exact Nat.le_refl _), List.append_nil]
    have HLEN := Lib.hid hlen
    clear hi hz0 hz1 hz2 hlen
    go_enter Try.func24, Try.ntmps24
    go_wp2_with fail
    go_ret
    refine ⟨some ⟨w.heap.size, 0, none⟩, by rw [← HN.out]; rfl, ?_, below1 _ _⟩
    have hp := World.ownsRow_lit (base := w.heap.size) (e := 33) (size := 4) w (cellsOf ps).toArray ps.length (Nat.le_refl _) (by rw [← HN.out]; simp [maxLen]; omega) (by simp [cellsOf_length])
    simpa using hp

end Go.Proofs.Ytikdhdikaihenaa
