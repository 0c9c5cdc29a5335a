import Derived.Test.YtikdhdikaihenaaAc
import Derived.Test.YtikdhdikaihenaaLives
namespace Go.Proofs.Ytikdhdikaihenaa
open Go.RowKit Go.Sort

def EnterR (inn : Bool) (count s : Int) (i1 : Bool) (p1 c1 : Int) (n1 : Bool) (ev : Int) : Prop :=
  (1 < s ∧ i1 = false ∧ p1 = 0 ∧ c1 = 0 ∧ n1 = false ∧ ev = 1) ∨ (s ≤ 1 ∧ inn = true ∧ i1 = false ∧ p1 = 0 ∧ c1 = 0 ∧ n1 = false ∧ ev = 12) ∨
  (s = 0 ∧ inn = false ∧ i1 = true ∧ p1 = -13 ∧ c1 = count ∧ n1 = true ∧ ev = 0) ∨ (s = 1 ∧ inn = false ∧ i1 = true ∧ p1 = 179 ∧ c1 = count ∧ n1 = true ∧ ev = 0)

theorem enter_gen (inn : Bool) (p c : Int) (nw : Bool) (ao : Option Addr) (ps : List Ps) (n cap : Nat) (s : Int) (hn : n = ps.length) (hm : n ≤ 9223372036854775807) (h0 : 0 ≤ s) (h : VY inn p c nw ps) :
    ∃ i1 p1 c1 n1 ev, EnterR inn c s i1 p1 c1 n1 ev ∧ ∀ w, Lie w ao ps → Calls Try.prog 17 #[.agg #[.bool inn, .int .i64 p, .int .i64 c, .bool nw, .slice ao n cap], .int .u8 s] w fun e w' =>
      e = .returned (.tuple #[.agg #[.bool i1, .int .i64 p1, .int .i64 c1, .bool n1, .slice none 0 0], .int .i64 ev]) ∧ Below w.heap.size w w' := by
  by_cases hs : 1 < s
  · exact ⟨_, _, _, _, _, .inl ⟨hs, rfl, rfl, rfl, rfl, rfl⟩, fun w hl => enter_side inn p c nw ao ps n cap w hn hm hl s h (by omega)⟩
  · cases inn
    · by_cases e : s = 0
      · subst e
        exact ⟨_, _, _, _, _, .inr (.inr (.inl ⟨rfl, rfl, rfl, rfl, rfl, rfl, rfl⟩)), fun w hl => enter_ok0 p c nw ao ps n cap w hn hm hl h⟩
      · obtain rfl : s = 1 := by omega
        exact ⟨_, _, _, _, _, .inr (.inr (.inr ⟨rfl, rfl, rfl, rfl, rfl, rfl, rfl⟩)), fun w hl => enter_ok1 p c nw ao ps n cap w hn hm hl h⟩
    · exact ⟨_, _, _, _, _, .inr (.inl ⟨by omega, rfl, rfl, rfl, rfl, rfl, rfl⟩), fun w hl => enter_in p c nw ao ps n cap w hn hm hl s h (by omega)⟩

def GoR (inn : Bool) (count : Int) (nw : Bool) (ps qs : List Ps) (pl : Int) (i1 : Bool) (p1 c1 : Int) (n1 : Bool) (rs : List Ps) (ev : Int) : Prop :=
  (¬ PlaceOk pl ∧ i1 = false ∧ p1 = 0 ∧ c1 = 0 ∧ n1 = false ∧ rs = [] ∧ ev = 1) ∨ (PlaceOk pl ∧ inn = false ∧ i1 = false ∧ p1 = 0 ∧ c1 = 0 ∧ n1 = false ∧ rs = [] ∧ ev = 12) ∨
  (PlaceOk pl ∧ inn = true ∧ i1 = true ∧ p1 = pl ∧ c1 = count ∧ n1 = nw ∧ rs = red (ps ++ qs) ∧ ev = 0)

theorem go_gen (inn : Bool) (p c : Int) (nw : Bool) (ao : Option Addr) (ps qs : List Ps) (n cap n2 : Nat) (pl : Int) (hn : n = ps.length) (hm : n ≤ 1000) (hn2 : n2 = qs.length) (hm2 : n2 ≤ 1000) (hq : ∀ p ∈ qs, Good p) (h : VY inn p c nw ps) :
    ∃ i1 p1 c1 n1 rs ev, GoR inn c nw ps qs pl i1 p1 c1 n1 rs ev ∧ ∀ w ao2 cap2, Lie w ao ps → Lie w ao2 qs → Calls Try.prog 19 #[.agg #[.bool inn, .int .i64 p, .int .i64 c, .bool nw, .slice ao n cap], .int .i64 pl, .slice ao2 n2 cap2] w fun e w' =>
      ∃ bo, e = .returned (.tuple #[.agg #[.bool i1, .int .i64 p1, .int .i64 c1, .bool n1, .slice bo rs.length rs.length], .int .i64 ev]) ∧ Lie w' bo rs ∧ (∀ b o, bo = some ⟨b, o, none⟩ → w.heap.size ≤ b) ∧ Below w.heap.size w w' := by
  have hlim : (red (ps ++ qs)).length ≤ 4096 := by have := length_red (ps ++ qs); simp at this; omega
  by_cases hp : PlaceOk pl
  · cases inn
    · refine ⟨_, _, _, _, [], _, .inr (.inl ⟨hp, rfl, rfl, rfl, rfl, rfl, rfl, rfl⟩), fun w ao2 cap2 hl hl2 => (go_out p c nw ao ps n cap w hn (by omega) hl pl ao2 qs n2 cap2 hn2 (by omega) hl2 h hp hq).mono ?_⟩
      rintro e w' ⟨rfl, hb⟩
      exact ⟨none, rfl, Lie.nil _ _, (by rintro b o ⟨⟩), hb⟩
    · refine ⟨_, _, _, _, red (ps ++ qs), _, .inr (.inr ⟨hp, rfl, rfl, rfl, rfl, rfl, rfl, rfl⟩), fun w ao2 cap2 hl hl2 => (go_ok p c nw ao ps n cap w hn (by omega) hl pl ao2 qs n2 cap2 hn2 (by omega) hl2 h hp hq (by omega) hlim).mono ?_⟩
      rintro e w' ⟨bo, rfl, ho, hb⟩
      obtain ⟨-, ao3, cap3, hv, -, -, hl3⟩ := lie_of_owns ho
      obtain ⟨rfl, -⟩ : bo = ao3 ∧ _ = cap3 := by simpa using hv
      exact ⟨bo, rfl, hl3, (by rintro b o rfl; exact (ho.lt b rfl).1), hb⟩
  · refine ⟨_, _, _, _, [], _, .inl ⟨hp, rfl, rfl, rfl, rfl, rfl, rfl⟩, fun w ao2 cap2 hl hl2 => (go_bad2 inn p c nw ao ps n cap w hn (by omega) hl pl ao2 n2 cap2 h hp).mono ?_⟩
    rintro e w' ⟨rfl, hb⟩
    exact ⟨none, rfl, Lie.nil _ _, (by rintro b o ⟨⟩), hb⟩
end Go.Proofs.Ytikdhdikaihenaa
