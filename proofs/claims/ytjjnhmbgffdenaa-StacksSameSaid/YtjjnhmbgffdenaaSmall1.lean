import Derived.Test.YtjjnhmbgffdenaaBase
namespace Go.Proofs.Ytjjnhmbgffdenaa
open Go.RowKit

/-- Whether a needle is valid. -/
def isN (b at_ : Int) : Bool := decide (b ≤ 1 ∧ 1 ≤ at_ ∧ at_ ≤ 40)
theorem isN_true {b a : Int} (h : isN b a = true) : b ≤ 1 ∧ 1 ≤ a ∧ a ≤ 40 := of_decide_eq_true h
theorem isN_false {b a : Int} (h : isN b a = false) : ¬ (b ≤ 1 ∧ 1 ≤ a ∧ a ≤ 40) := of_decide_eq_false h
theorem isN_mk {b a : Int} (h : b ≤ 1 ∧ 1 ≤ a ∧ a ≤ 40) : isN b a = true := decide_eq_true h
theorem isN_no {b a : Int} (h : ¬ (b ≤ 1 ∧ 1 ≤ a ∧ a ≤ 40)) : isN b a = false := decide_eq_false h

theorem ncheck_ok (b a : Int) (w : World) (h : isN b a = true) :
    Calls Try.prog 35 #[.agg #[.int .u8 b, .int .i64 a]] w fun e w' => e = .returned (.int .i64 0) ∧ Below w.heap.size w w' := by
  obtain ⟨h1, h2, h3⟩ := isN_true h
  clear h
  have g1 : ¬ 1 < b := by omega
  have g2 : ¬ a < 1 := by omega
  have g3 : ¬ 40 < a := by omega
  go_enter Try.func35, Try.ntmps35
  go_wp2
  go_ret
  exact ⟨rfl, below1 _ _⟩
theorem ncheck_bad (b a : Int) (w : World) (h : isN b a = false) :
    Calls Try.prog 35 #[.agg #[.int .u8 b, .int .i64 a]] w fun e w' => e = .returned (.int .i64 1) ∧ Below w.heap.size w w' := by
  have h0 := isN_false h
  clear h
  by_cases g1 : 1 < b
  · clear h0
    go_enter Try.func35, Try.ntmps35
    go_wp2
    go_ret
    exact ⟨rfl, below1 _ _⟩
  · by_cases g2 : a < 1
    · clear h0
      go_enter Try.func35, Try.ntmps35
      go_wp2
      go_ret
      exact ⟨rfl, below1 _ _⟩
    · have g3 : 40 < a := by omega
      clear h0
      go_enter Try.func35, Try.ntmps35
      go_wp2
      go_ret
      exact ⟨rfl, below1 _ _⟩

theorem isNeedle_any (b a : Int) (r : Bool) (w : World) (h : isN b a = r) :
    Calls Try.prog 23 #[.agg #[.int .u8 b, .int .i64 a]] w fun e w' => e = .returned (.bool r) ∧ Below w.heap.size w w' := by
  cases r
  · go_enter Try.func23, Try.ntmps23
    go_wp2_with (go_at_call 35; refine (ncheck_bad _ _ _ h).mono ?_; rintro e w1 ⟨rfl, hb1⟩)
    go_ret
    exact ⟨rfl, (below1 _ _).trans (hb1.mono (by simp))⟩
  · go_enter Try.func23, Try.ntmps23
    go_wp2_with (go_at_call 35; refine (ncheck_ok _ _ _ h).mono ?_; rintro e w1 ⟨rfl, hb1⟩)
    go_ret
    exact ⟨rfl, (below1 _ _).trans (hb1.mono (by simp))⟩

theorem named_ok (y n : Int) (w : World) (h1 : 1 ≤ y) (h2 : y ≤ 6) (h3 : 0 ≤ n) (h4 : n ≤ 2047) :
    Calls Try.prog 36 #[.agg #[.int .u8 y, .int .i64 n]] w fun e w' => e = .returned (.bool true) ∧ Below w.heap.size w w' := by
  go_enter Try.func36, Try.ntmps36
  go_wp2
  go_ret
  exact ⟨ret_bool (by simp; omega), below1 _ _⟩

theorem named_bad (y n : Int) (w : World) (h : ¬ (1 ≤ y ∧ y ≤ 6 ∧ 0 ≤ n ∧ n ≤ 2047)) :
    Calls Try.prog 36 #[.agg #[.int .u8 y, .int .i64 n]] w fun e w' => e = .returned (.bool false) ∧ Below w.heap.size w w' := by
  by_cases h1 : 1 ≤ y
  · by_cases h2 : y ≤ 6
    · by_cases h3 : 0 ≤ n
      · have h4 : 2048 ≤ n := by omega
        clear h
        go_enter Try.func36, Try.ntmps36
        go_wp2
        go_ret
        exact ⟨ret_bool (by simp; omega), below1 _ _⟩
      · have h3' : n < 0 := by omega
        clear h
        go_enter Try.func36, Try.ntmps36
        go_wp2
        go_ret
        exact ⟨rfl, below1 _ _⟩
    · have h2' : 6 < y := by omega
      clear h
      go_enter Try.func36, Try.ntmps36
      go_wp2
      go_ret
      exact ⟨rfl, below1 _ _⟩
  · have h1' : y < 1 := by omega
    clear h
    go_enter Try.func36, Try.ntmps36
    go_wp2
    go_ret
    exact ⟨rfl, below1 _ _⟩

/-- Whether a name is valid. -/
def namedB (p : Nm) : Bool := decide (Named p)
theorem named_any (p : Nm) (r : Bool) (w : World) (h : namedB p = r) :
    Calls Try.prog 36 #[.agg #[.int .u8 p.y, .int .i64 p.n]] w fun e w' => e = .returned (.bool r) ∧ Below w.heap.size w w' := by
  cases r
  · exact named_bad _ _ _ (of_decide_eq_false h)
  · have h := of_decide_eq_true h
    exact named_ok _ _ _ h.1 h.2.1 h.2.2.1 h.2.2.2

/-- The needle with an index (of the statements). -/
theorem needle_any (i : Nat) (w : World) (h : i < 80) :
    Calls Try.prog 13 #[.int .u8 i] w fun e w' => e = .returned (.agg #[.int .u8 ((i / 40 : Nat) : Int), .int .i64 ((i % 40 : Nat) + 1 : Int)]) ∧ Below w.heap.size w w' := by
  have e1 : (Int.tmod (i : Int) 80) = i := Int.tmod_eq_of_lt (by omega) (by omega)
  have e2 : (Int.tdiv (i : Int) 40) = ((i / 40 : Nat) : Int) := by rw [Int.tdiv_eq_ediv_of_nonneg (by omega)]; rfl
  have e3 : (Int.tmod (i : Int) 40) = ((i % 40 : Nat) : Int) := by rw [Int.tmod_eq_emod_of_nonneg (by omega)]; rfl
  go_enter Try.func13, Try.ntmps13
  go_wp2
  refine bodyPost_ret (v := .agg #[.int .u8 ((i : Int) / 40), .int .i64 (1 + (i : Int) % 40)]) (by simp [results, Try.results13, go_sem]) rfl ⟨?_, below1 _ _⟩
  rw [Int.add_comm]; rfl
end Go.Proofs.Ytjjnhmbgffdenaa
