import Derived.Test.YtikdhdikaihenaaSteps3
import Derived.Deep.Cut
namespace Go.Proofs.Ytikdhdikaihenaa
open Go.RowKit Go.Sort

theorem lcancel_any {y n : Int} {f : Bool} {d y' n' : Int} {f' : Bool} {d' : Int} {c : Int} (h0 : 0 ≤ d) (h0' : 0 ≤ d') (hc : (if canc ⟨y, n, f, d⟩ ⟨y', n', f', d'⟩ = true then 1 else 0) = c) (w : World) :
    Calls Try.prog 15 #[.agg #[.int .u8 y, .int .i64 n, .bool f, .int .u8 d], .agg #[.int .u8 y', .int .i64 n', .bool f', .int .u8 d']] w fun x w'' => x = .returned (.int .i64 c) ∧ Below w.heap.size w w'' := by
  subst hc
  cases hx : canc ⟨y, n, f, d⟩ ⟨y', n', f', d'⟩
  · simp only [Bool.false_eq_true, if_false]; exact lcancel_no y n f d y' n' f' d' _ h0 h0' hx
  · rw [canc_iff] at hx
    obtain ⟨rfl, rfl, rfl, h4⟩ := hx
    simp only [if_true]; exact lcancel_yes _ _ _ d d' _ h4
def Fine (ps : List Ps) (i : Nat) : Prop := Good (ps.getD i Ps.nil) ∧ (0 < i → canc (ps.getD (i - 1) Ps.nil) (ps.getD i Ps.nil) = false)
theorem fine_all {ps : List Ps} : (∀ i, i < ps.length → Fine ps i) ↔ (∀ p ∈ ps, Good p) ∧ Red ps := by
  rw [red_iff]
  constructor
  · intro h
    refine ⟨good_all fun i hi => (h i hi).1, fun i hi => ?_⟩
    have := (h (i + 1) hi).2 (by omega)
    simpa using this
  · rintro ⟨h1, h2⟩ i hi
    refine ⟨h1 _ (mem_getD hi), fun hp => ?_⟩
    obtain ⟨j, rfl⟩ : ∃ j, i = j + 1 := ⟨i - 1, by omega⟩
    exact h2 j hi
theorem gpos_of {x : Bool} {k : Nat} (h : (x && decide ((0 : Int) < (k : Int))) = true) : 0 < k := by
  simp only [Bool.and_eq_true, decide_eq_true_eq] at h
  omega
theorem wrap_pred {k j : Nat} (h : k = j + 1) (hk : k ≤ 20) : IntKind.i64.wrap ((k : Int) - 1) = (j : Int) := by
  subst h
  have : ((j + 1 : Nat) : Int) - 1 = (j : Int) := by omega
  rw [this]
  rw [IntKind.wrap_i64]; omega
theorem bad_iff {y m d : Int} {k : Nat} {cv : Int} (h0 : 0 ≤ d) : ((((((decide (y < 1)) || (decide (6 < y))) || (decide (m < 0))) || (decide (2047 < m))) || (decide (1 < d))) || ((decide (0 < (k : Int))) && (cv == 1))) = false ↔ (((1 ≤ y ∧ y ≤ 6 ∧ 0 ≤ m ∧ m ≤ 2047) ∧ (d = 0 ∨ d = 1)) ∧ (0 < k → cv ≠ 1)) := by
  simp only [Bool.or_eq_false_iff, Bool.and_eq_false_iff, decide_eq_false_iff_not, beq_eq_false_iff_ne, ne_eq]
  constructor
  · rintro ⟨⟨⟨⟨⟨h1, h2⟩, h3⟩, h4⟩, h5⟩, h6⟩
    refine ⟨⟨⟨by omega, by omega, by omega, by omega⟩, by omega⟩, fun hk => ?_⟩
    rcases h6 with h6 | h6
    · omega
    · exact h6
  · rintro ⟨⟨⟨h1, h2, h3, h4⟩, h5⟩, h6⟩
    refine ⟨⟨⟨⟨⟨by omega, by omega⟩, by omega⟩, by omega⟩, by omega⟩, ?_⟩
    by_cases hk : 0 < k
    · exact .inr (h6 hk)
    · exact .inl (by omega)
theorem fine_step {ps : List Ps} {k j : Nat} {y m d : Int} {f : Bool} {y2 m2 d2 : Int} {f2 : Bool} {cv : Int} {b bd : Bool} (hp : (⟨y, m, f, d⟩ : Ps) = ps.getD k Ps.nil) (hj : 0 < k → k = j + 1) (hq : (⟨y2, m2, f2, d2⟩ : Ps) = ps.getD j Ps.nil) (h0 : 0 ≤ d)
    (hcv : (if canc ⟨y2, m2, f2, d2⟩ ⟨y, m, f, d⟩ = true then 1 else 0) = cv)
    (hbd : ((((((decide (y < 1)) || (decide (6 < y))) || (decide (m < 0))) || (decide (2047 < m))) || (decide (1 < d))) || ((decide (0 < (k : Int))) && (cv == 1))) = bd)
    (hb : b = true ↔ ∀ j, j < k → Fine ps j) : (b && !bd) = true ↔ ∀ j, j < k + 1 → Fine ps j := by
  have hf : Fine ps k ↔ bd = false := by
    rw [← hbd, bad_iff h0]
    show (Good _ ∧ _) ↔ _
    rw [← hp]
    refine and_congr Iff.rfl ⟨fun h hk => ?_, fun h hk => ?_⟩
    · have := h hk
      rw [show k - 1 = j by have := hj hk; omega, ← hq] at this
      rw [this] at hcv
      simp at hcv
      omega
    · rw [show k - 1 = j by have := hj hk; omega, ← hq]
      have := h hk
      cases hc : canc ⟨y2, m2, f2, d2⟩ ⟨y, m, f, d⟩ with
      | false => rfl
      | true => rw [hc] at hcv; simp at hcv; omega
  rw [Bool.and_eq_true, hb, Bool.not_eq_true', ← hf]
  constructor
  · rintro ⟨h1, h2⟩ i hi
    by_cases e : i = k
    · subst e; exact h2
    · exact h1 i (by omega)
  · intro h
    exact ⟨fun i hi => h i (by omega), h k (by omega)⟩
theorem vy_iff {i nw g0 gc b : Bool} {p c : Int} {ps : List Ps} {n : Nat} (hn : n = ps.length) (hm : n ≤ 20) (hgc : (decide (0 ≤ c) && decide (c ≤ 2048)) = gc)
    (h7 : i = true → (((gc && decide ((-13) ≤ p)) && decide (p ≤ 179)) && ((Int.tmod p 2) != 0)) = g0) (h8 : i = false → (((gc && (p == 0)) && (!nw)) && ((n : Int) == 0)) = g0)
    (hb : b = true ↔ ∀ j, j < n → Fine ps j) : (g0 && b) = true ↔ VY i p c nw ps := by
  subst hgc
  rw [Bool.and_eq_true, hb]
  cases i
  · have e := h8 rfl
    rw [← e]
    simp only [VY, Bool.false_eq_true, if_false, Bool.and_eq_true, decide_eq_true_eq, beq_iff_eq, Bool.not_eq_true']
    constructor
    · rintro ⟨⟨⟨⟨h1, h2⟩, h3⟩, h4⟩, -⟩
      exact ⟨h1, h2, h3, List.eq_nil_of_length_eq_zero (by omega)⟩
    · rintro ⟨h1, h2, h3, rfl⟩
      simp only [List.length_nil] at hn
      exact ⟨⟨⟨⟨h1, h2⟩, h3⟩, by omega⟩, fun j hj => absurd hj (by omega)⟩
  · have e := h7 rfl
    rw [← e, hn, fine_all]
    simp only [VY, if_true, Bool.and_eq_true, decide_eq_true_eq, bne_iff_ne, ne_eq, PlaceOk]
    constructor
    · rintro ⟨⟨⟨⟨h1, h2⟩, h3⟩, h4⟩, h5, h6⟩
      exact ⟨h1, ⟨h2, h3, h4⟩, by omega, h5, h6⟩
    · rintro ⟨h1, ⟨h2, h3, h4⟩, -, h5, h6⟩
      exact ⟨⟨⟨⟨h1, h2⟩, h3⟩, h4⟩, h5, h6⟩
end Go.Proofs.Ytikdhdikaihenaa
