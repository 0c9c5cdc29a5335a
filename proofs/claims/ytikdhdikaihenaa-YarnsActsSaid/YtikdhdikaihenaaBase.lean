import Derived.Test.YtikdhdikaihenaaLists
import Derived.WalkKit
import Derived.WalkSpells
import Derived.WalkLawsBesides
import Derived.Lib.Hide
import Derived.Lib.QuietBelow
import Derived.BigQuiet
namespace Go.Proofs.Ytikdhdikaihenaa
open Go.RowKit

theorem bcell {W w1 : World} (hb : Below W.heap.size W w1) : (∀ b o, b < W.heap.size → w1.cell? ⟨b, o, none⟩ = W.cell? ⟨b, o, none⟩) ∧ (∀ b o, b < W.heap.size → w1.frozen? ⟨b, o, none⟩ = W.frozen? ⟨b, o, none⟩) :=
  ⟨fun b o h => hb.cell (p := ⟨b, o, none⟩) h, fun b o h => hb.frozen (p := ⟨b, o, none⟩) h⟩

/-- A pass as a value. -/
def Ps.v (p : Ps) : Value := .agg #[.int .u8 p.y, .int .i64 p.n, .bool p.f, .int .u8 p.d]

theorem below1 (w : World) (o : Obj) : Below w.heap.size w (w.alloc o) := (Below.refl _ _).alloc (Nat.le_refl _) _
theorem below2 (w : World) (o p : Obj) : Below w.heap.size w ((w.alloc o).alloc p) := (below1 w o).alloc (by simp) _

theorem back_right (y n : Int) (f : Bool) (w : World) :
    Calls Try.prog 25 #[.agg #[.int .u8 y, .int .i64 n, .bool f, .int .u8 1]] w fun e w' => e = .returned (.agg #[.int .u8 y, .int .i64 n, .bool f, .int .u8 0]) ∧ Below w.heap.size w w' := by
  go_enter Try.func25, Try.ntmps25
  go_wp2
  exact bodyPost_ret (v := .agg #[.int .u8 y, .int .i64 n, .bool f, .int .u8 0]) (by simp [results, Try.results25, go_sem]) rfl ⟨rfl, below2 _ _ _⟩

theorem back_other (y n : Int) (f : Bool) (d : Int) (h : d ≠ 1) (w : World) :
    Calls Try.prog 25 #[.agg #[.int .u8 y, .int .i64 n, .bool f, .int .u8 d]] w fun e w' => e = .returned (.agg #[.int .u8 y, .int .i64 n, .bool f, .int .u8 1]) ∧ Below w.heap.size w w' := by
  go_enter Try.func25, Try.ntmps25
  go_wp2
  exact bodyPost_ret (v := .agg #[.int .u8 y, .int .i64 n, .bool f, .int .u8 1]) (by simp [results, Try.results25, go_sem]) rfl ⟨rfl, below2 _ _ _⟩

theorem back_any (y n : Int) (f : Bool) (d : Int) (w : World) :
    Calls Try.prog 25 #[.agg #[.int .u8 y, .int .i64 n, .bool f, .int .u8 d]] w fun e w' => e = .returned (.agg #[.int .u8 y, .int .i64 n, .bool f, .int .u8 (bck ⟨y, n, f, d⟩).d]) ∧ Below w.heap.size w w' := by
  by_cases h : d = 1
  · subst h; exact back_right y n f w
  · have := back_other y n f d h w
    simpa [bck, h] using this

theorem ret_bool {a b : Bool} (h : a = b) : Ending.returned (.bool a) = .returned (.bool b) := by rw [h]

theorem named_ok (y n : Int) (w : World) (h1 : 1 ≤ y) (h2 : y ≤ 6) (h3 : 0 ≤ n) (h4 : n ≤ 2047) :
    Calls Try.prog 22 #[.agg #[.int .u8 y, .int .i64 n]] w fun e w' => e = .returned (.bool true) ∧ Below w.heap.size w w' := by
  go_enter Try.func22, Try.ntmps22
  go_wp2
  go_ret
  exact ⟨ret_bool (by simp; omega), below1 _ _⟩

theorem named_bad (y n : Int) (w : World) (h : ¬ (1 ≤ y ∧ y ≤ 6 ∧ 0 ≤ n ∧ n ≤ 2047)) :
    Calls Try.prog 22 #[.agg #[.int .u8 y, .int .i64 n]] w fun e w' => e = .returned (.bool false) ∧ Below w.heap.size w w' := by
  by_cases h1 : 1 ≤ y
  · by_cases h2 : y ≤ 6
    · by_cases h3 : 0 ≤ n
      · have h4 : 2048 ≤ n := by omega
        clear h
        go_enter Try.func22, Try.ntmps22
        go_wp2
        go_ret
        exact ⟨ret_bool (by simp; omega), below1 _ _⟩
      · have h3' : n < 0 := by omega
        clear h
        go_enter Try.func22, Try.ntmps22
        go_wp2
        go_ret
        exact ⟨rfl, below1 _ _⟩
    · have h2' : 6 < y := by omega
      clear h
      go_enter Try.func22, Try.ntmps22
      go_wp2
      go_ret
      exact ⟨rfl, below1 _ _⟩
  · have h1' : y < 1 := by omega
    clear h
    go_enter Try.func22, Try.ntmps22
    go_wp2
    go_ret
    exact ⟨rfl, below1 _ _⟩

theorem dir_ok (d : Int) (w : World) (h : d = 0 ∨ d = 1) :
    Calls Try.prog 26 #[.int .u8 d] w fun e w' => e = .returned (.bool true) ∧ w' = w := by
  rcases h with rfl | rfl <;>
  · go_enter Try.func26, Try.ntmps26
    go_wp2
    go_ret
    exact ⟨rfl, rfl⟩

theorem dir_bad (d : Int) (w : World) (h : ¬ (d = 0 ∨ d = 1)) :
    Calls Try.prog 26 #[.int .u8 d] w fun e w' => e = .returned (.bool false) ∧ w' = w := by
  have h0 : d ≠ 0 := fun e => h (.inl e)
  have h1 : d ≠ 1 := fun e => h (.inr e)
  clear h
  go_enter Try.func26, Try.ntmps26
  go_wp2
  go_ret
  exact ⟨ret_bool (by simp [h0, h1]), rfl⟩

theorem place_ok (p : Int) (w : World) (h1 : -13 ≤ p) (h2 : p ≤ 179) (h3 : p.tmod 2 ≠ 0) :
    Calls Try.prog 28 #[.int .i64 p] w fun e w' => e = .returned (.bool true) ∧ w' = w := by
  go_enter Try.func28, Try.ntmps28
  go_wp2
  go_ret
  exact ⟨ret_bool (by simp [h3]), rfl⟩

theorem place_bad (p : Int) (w : World) (h : ¬ (-13 ≤ p ∧ p ≤ 179 ∧ p.tmod 2 ≠ 0)) :
    Calls Try.prog 28 #[.int .i64 p] w fun e w' => e = .returned (.bool false) ∧ w' = w := by
  by_cases h1 : -13 ≤ p
  · by_cases h2 : p ≤ 179
    · have h3 : p.tmod 2 = 0 := by
        by_cases h3 : p.tmod 2 = 0
        · exact h3
        · exact absurd ⟨h1, h2, h3⟩ h
      clear h
      go_enter Try.func28, Try.ntmps28
      go_wp2
      go_ret
      exact ⟨ret_bool (by simp), rfl⟩
    · have h2' : 179 < p := by omega
      clear h
      go_enter Try.func28, Try.ntmps28
      go_wp2
      go_ret
      exact ⟨ret_bool (by simp), rfl⟩
  · have h1' : p < -13 := by omega
    clear h
    go_enter Try.func28, Try.ntmps28
    go_wp2
    go_ret
    exact ⟨rfl, rfl⟩

theorem lcancel_yes (y n : Int) (f : Bool) (d d' : Int) (w : World) (h : (d = 0 ∧ d' = 1) ∨ (d = 1 ∧ d' = 0)) :
    Calls Try.prog 15 #[.agg #[.int .u8 y, .int .i64 n, .bool f, .int .u8 d], .agg #[.int .u8 y, .int .i64 n, .bool f, .int .u8 d']] w fun e w' => e = .returned (.int .i64 1) ∧ Below w.heap.size w w' := by
  rcases h with ⟨rfl, rfl⟩ | ⟨rfl, rfl⟩ <;>
  · go_enter Try.func15, Try.ntmps15
    go_wp2
    go_ret
    exact ⟨rfl, below2 _ _ _⟩

theorem canc_cases {y n : Int} {f : Bool} {d y' n' : Int} {f' : Bool} {d' : Int} (h : canc ⟨y, n, f, d⟩ ⟨y', n', f', d'⟩ = false) :
    y ≠ y' ∨ (y = y' ∧ n ≠ n') ∨ (y = y' ∧ n = n' ∧ f ≠ f') ∨ (y = y' ∧ n = n' ∧ f = f' ∧ ¬ ((d = 0 ∧ d' = 1) ∨ (d = 1 ∧ d' = 0))) := by
  by_cases h1 : y = y'
  · by_cases h2 : n = n'
    · by_cases h3 : f = f'
      · refine .inr (.inr (.inr ⟨h1, h2, h3, fun h4 => ?_⟩))
        have := (canc_iff ⟨y, n, f, d⟩ ⟨y', n', f', d'⟩).2 ⟨h1, h2, h3, h4⟩
        rw [this] at h; cases h
      · exact .inr (.inr (.inl ⟨h1, h2, h3⟩))
    · exact .inr (.inl ⟨h1, h2⟩)
  · exact .inl h1

theorem lcancel_no (y n : Int) (f : Bool) (d y' n' : Int) (f' : Bool) (d' : Int) (w : World) (h0 : 0 ≤ d) (h0' : 0 ≤ d') (h : canc ⟨y, n, f, d⟩ ⟨y', n', f', d'⟩ = false) :
    Calls Try.prog 15 #[.agg #[.int .u8 y, .int .i64 n, .bool f, .int .u8 d], .agg #[.int .u8 y', .int .i64 n', .bool f', .int .u8 d']] w fun e w' => e = .returned (.int .i64 0) ∧ Below w.heap.size w w' := by
  rcases canc_cases h with h1 | ⟨rfl, h1⟩ | ⟨rfl, rfl, h1⟩ | ⟨rfl, rfl, rfl, h1⟩
  · clear h
    go_enter Try.func15, Try.ntmps15
    go_wp2
    go_ret
    exact ⟨rfl, below2 _ _ _⟩
  · clear h
    go_enter Try.func15, Try.ntmps15
    go_wp2
    go_ret
    exact ⟨rfl, below2 _ _ _⟩
  · clear h
    go_enter Try.func15, Try.ntmps15
    go_wp2
    go_ret
    exact ⟨rfl, below2 _ _ _⟩
  · clear h
    by_cases g1 : d ≤ 1
    · by_cases g2 : d' ≤ 1
      · have g3 : d = d' := by omega
        subst g3
        clear h1
        go_enter Try.func15, Try.ntmps15
        go_wp2
        go_ret
        exact ⟨rfl, below2 _ _ _⟩
      · have g2' : 1 < d' := by omega
        clear h1
        go_enter Try.func15, Try.ntmps15
        go_wp2
        go_ret
        exact ⟨rfl, below2 _ _ _⟩
    · have g1' : 1 < d := by omega
      clear h1
      go_enter Try.func15, Try.ntmps15
      go_wp2
      go_ret
      exact ⟨rfl, below2 _ _ _⟩

/-- The cells of a pass in a block of its own, in a world and in all that are grown from it. -/
theorem new2 (w : World) (y n : Int) (f : Bool) (d y' n' : Int) (f' : Bool) (d' : Int) :
    (let W := (w.alloc (.cells #[.int .u8 y, .int .i64 n, .bool f, .int .u8 d] 33)).alloc (.cells #[.int .u8 y', .int .i64 n', .bool f', .int .u8 d'] 33)
    (W.cell? ⟨w.heap.size, 0, none⟩ = some (.int .u8 y) ∧ W.cell? ⟨w.heap.size, 1, none⟩ = some (.int .i64 n) ∧ W.cell? ⟨w.heap.size, 2, none⟩ = some (.bool f) ∧ W.cell? ⟨w.heap.size, 3, none⟩ = some (.int .u8 d)) ∧
    (W.cell? ⟨w.heap.size + 1, 0, none⟩ = some (.int .u8 y') ∧ W.cell? ⟨w.heap.size + 1, 1, none⟩ = some (.int .i64 n') ∧ W.cell? ⟨w.heap.size + 1, 2, none⟩ = some (.bool f') ∧ W.cell? ⟨w.heap.size + 1, 3, none⟩ = some (.int .u8 d'))) := by
  refine ⟨⟨?_, ?_, ?_, ?_⟩, ⟨?_, ?_, ?_, ?_⟩⟩ <;> go_simp

end Go.Proofs.Ytikdhdikaihenaa
