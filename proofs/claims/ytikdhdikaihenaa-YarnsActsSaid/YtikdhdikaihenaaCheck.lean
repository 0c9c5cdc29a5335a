import Derived.Test.YtikdhdikaihenaaPend
namespace Go.Proofs.Ytikdhdikaihenaa
open Go.RowKit Go.Sort

/-- A place. -/
def PlaceOk (p : Int) : Prop := -13 ≤ p ∧ p ≤ 179 ∧ p.tmod 2 ≠ 0
/-- A yarn that is valid. -/
def VY (i : Bool) (p c : Int) (nw : Bool) (ps : List Ps) : Prop :=
  (0 ≤ c ∧ c ≤ 2048) ∧ if i = true then PlaceOk p ∧ ps.length ≤ 4096 ∧ (∀ p ∈ ps, Good p) ∧ Red ps else p = 0 ∧ nw = false ∧ ps = []

theorem check_count (i : Bool) (p c : Int) (nw : Bool) (v : Value) (w : World) (h : ¬ (0 ≤ c ∧ c ≤ 2048)) (ao : Option Addr) (n cap : Nat) (hv : v = .slice ao n cap) :
    Calls Try.prog 21 #[.agg #[.bool i, .int .i64 p, .int .i64 c, .bool nw, v]] w fun e w' => e = .returned (.int .i64 1) ∧ Below w.heap.size w w' := by
  subst hv
  by_cases h1 : 0 ≤ c
  · have h2 : 2048 < c := by omega
    have h3 : decide (c ≤ 2048) = false := by simp; omega
    clear h
    cases i
    · go_enter Try.func21, Try.ntmps21
      go_wp2
      go_ret
      exact ⟨rfl, below1 _ _⟩
    · go_enter Try.func21, Try.ntmps21
      go_wp2
      go_ret
      exact ⟨rfl, below1 _ _⟩
  · have h2 : c < 0 := by omega
    clear h
    cases i
    · go_enter Try.func21, Try.ntmps21
      go_wp2
      go_ret
      exact ⟨rfl, below1 _ _⟩
    · go_enter Try.func21, Try.ntmps21
      go_wp2
      go_ret
      exact ⟨rfl, below1 _ _⟩

theorem check_in_place (p c : Int) (nw : Bool) (v : Value) (w : World) (h1 : 0 ≤ c) (h2 : c ≤ 2048) (h : ¬ PlaceOk p) (ao : Option Addr) (n cap : Nat) (hv : v = .slice ao n cap) :
    Calls Try.prog 21 #[.agg #[.bool true, .int .i64 p, .int .i64 c, .bool nw, v]] w fun e w' => e = .returned (.int .i64 1) ∧ Below w.heap.size w w' := by
  subst hv
  have H := Lib.hid h
  have h3 : decide (c ≤ 2048) = true := by simp; omega
  clear h
  go_enter Try.func21, Try.ntmps21
  go_wp2_with (go_at_call 28; refine (place_bad _ _ H.out).mono ?_; rintro e w1 ⟨rfl, rfl⟩)
  go_ret
  exact ⟨rfl, below1 _ _⟩

theorem check_in (p c : Int) (nw : Bool) (ao : Option Addr) (ps : List Ps) (n cap : Nat) (w : World) (hn : n = ps.length) (hm : n ≤ 9223372036854775807) (hl : Lie w ao ps) (h1 : 0 ≤ c) (h2 : c ≤ 2048) (h : PlaceOk p) :
    Calls Try.prog 21 #[.agg #[.bool true, .int .i64 p, .int .i64 c, .bool nw, .slice ao n cap]] w fun e w' => ((ps.length ≤ 4096 ∧ (∀ p ∈ ps, Good p) ∧ Red ps) ∧ e = .returned (.int .i64 0) ∨ ¬ (ps.length ≤ 4096 ∧ (∀ p ∈ ps, Good p) ∧ Red ps) ∧ e = .returned (.int .i64 1)) ∧ Below w.heap.size w w' := by
  have H := Lib.hid h
  have K := Lib.hid (isPending_any ao ps n cap (w.alloc (.cells #[.bool true, .int .i64 p, .int .i64 c, .bool nw, .slice ao n cap] 38)) hn hm (hl.below (below1 _ _)))
  have h3 : decide (c ≤ 2048) = true := by simp; omega
  obtain ⟨P, hP⟩ : ∃ P : Prop, P = (ps.length ≤ 4096 ∧ (∀ p ∈ ps, Good p) ∧ Red ps) := ⟨_, rfl⟩
  rw [← hP] at K ⊢
  clear h hn hm hl hP
  go_enter Try.func21, Try.ntmps21
  go_wp2_with (first
    | (go_at_call 28; refine (place_ok _ _ H.out.1 H.out.2.1 H.out.2.2).mono ?_; rintro e w1 ⟨rfl, rfl⟩)
    | (go_at_call 30; refine K.out.mono ?_; rintro e w1 ⟨⟨r, rfl, hr⟩, hb⟩; refine Hid.out ?_))
  have hb1 : Below w.heap.size w w1 := (below1 _ _).trans (hb.mono (by simp))
  have HR := Lib.hid hr
  clear hr hb K
  cases r
  · refine Lib.hid ?_
    go_wp2
    go_ret
    exact ⟨.inr ⟨fun h => (by cases HR.out.2 h), rfl⟩, hb1⟩
  · have hp := HR.out.1 rfl
    have HP := Lib.hid hp
    clear HR hp
    refine Lib.hid ?_
    go_wp2
    go_ret
    exact ⟨.inl ⟨HP.out, rfl⟩, hb1⟩

theorem check_out_ok (c : Int) (ao : Option Addr) (cap : Nat) (w : World) (h1 : 0 ≤ c) (h2 : c ≤ 2048) :
    Calls Try.prog 21 #[.agg #[.bool false, .int .i64 0, .int .i64 c, .bool false, .slice ao 0 cap]] w fun e w' => e = .returned (.int .i64 0) ∧ Below w.heap.size w w' := by
  have h3 : decide (c ≤ 2048) = true := by simp; omega
  go_enter Try.func21, Try.ntmps21
  go_wp2
  go_ret
  exact ⟨rfl, below1 _ _⟩

theorem check_out_bad (p c : Int) (nw : Bool) (ao : Option Addr) (n cap : Nat) (w : World) (h1 : 0 ≤ c) (h2 : c ≤ 2048) (h : ¬ (p = 0 ∧ nw = false ∧ n = 0)) :
    Calls Try.prog 21 #[.agg #[.bool false, .int .i64 p, .int .i64 c, .bool nw, .slice ao n cap]] w fun e w' => e = .returned (.int .i64 1) ∧ Below w.heap.size w w' := by
  have h3 : decide (c ≤ 2048) = true := by simp; omega
  by_cases hp : p = 0
  · subst hp
    cases nw
    · have hn : n ≠ 0 := fun h' => h ⟨rfl, rfl, h'⟩
      clear h
      have hn2 : ((n : Int) == 0) = false := by simp; omega
      go_enter Try.func21, Try.ntmps21
      go_wp2
      go_ret
      exact ⟨rfl, below1 _ _⟩
    · clear h
      go_enter Try.func21, Try.ntmps21
      go_wp2
      go_ret
      exact ⟨rfl, below1 _ _⟩
  · clear h
    have hp2 : (p == 0) = false := by simp; omega
    go_enter Try.func21, Try.ntmps21
    go_wp2
    go_ret
    exact ⟨rfl, below1 _ _⟩

theorem check_ok (i : Bool) (p c : Int) (nw : Bool) (ao : Option Addr) (ps : List Ps) (n cap : Nat) (w : World) (hn : n = ps.length) (hm : n ≤ 9223372036854775807) (hl : Lie w ao ps) (h : VY i p c nw ps) :
    Calls Try.prog 21 #[.agg #[.bool i, .int .i64 p, .int .i64 c, .bool nw, .slice ao n cap]] w fun e w' => e = .returned (.int .i64 0) ∧ Below w.heap.size w w' := by
  obtain ⟨⟨h1, h2⟩, h3⟩ := h
  cases i
  · simp only [Bool.false_eq_true, if_false] at h3
    obtain ⟨rfl, rfl, rfl⟩ := h3
    obtain rfl : n = 0 := by simpa using hn
    exact check_out_ok c ao cap w h1 h2
  · simp only [if_true] at h3
    refine (check_in p c nw ao ps n cap w hn hm hl h1 h2 h3.1).mono ?_
    rintro e w' ⟨⟨_, rfl⟩ | ⟨hx, _⟩, hb⟩
    · exact ⟨rfl, hb⟩
    · exact absurd h3.2 hx

theorem check_bad (i : Bool) (p c : Int) (nw : Bool) (ao : Option Addr) (ps : List Ps) (n cap : Nat) (w : World) (hn : n = ps.length) (hm : n ≤ 9223372036854775807) (hl : Lie w ao ps) (h : ¬ VY i p c nw ps) :
    Calls Try.prog 21 #[.agg #[.bool i, .int .i64 p, .int .i64 c, .bool nw, .slice ao n cap]] w fun e w' => e = .returned (.int .i64 1) ∧ Below w.heap.size w w' := by
  by_cases hc : 0 ≤ c ∧ c ≤ 2048
  · cases i
    · refine check_out_bad p c nw ao n cap w hc.1 hc.2 fun h' => h ⟨hc, ?_⟩
      simp only [Bool.false_eq_true, if_false]
      exact ⟨h'.1, h'.2.1, List.eq_nil_of_length_eq_zero (by rw [← hn]; exact h'.2.2)⟩
    · by_cases hp : PlaceOk p
      · refine (check_in p c nw ao ps n cap w hn hm hl hc.1 hc.2 hp).mono ?_
        rintro e w' ⟨⟨hx, _⟩ | ⟨_, rfl⟩, hb⟩
        · exact absurd ⟨hc, by simp only [if_true]; exact ⟨hp, hx⟩⟩ h
        · exact ⟨rfl, hb⟩
      · exact check_in_place p c nw _ w hc.1 hc.2 hp ao n cap rfl
  · exact check_count i p c nw _ w hc ao n cap rfl

end Go.Proofs.Ytikdhdikaihenaa
