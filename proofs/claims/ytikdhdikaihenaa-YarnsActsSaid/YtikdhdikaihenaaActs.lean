import Derived.Test.YtikdhdikaihenaaCheck
import Derived.Test.YtikdhdikaihenaaBehind
import Derived.Deep.RegionWith
namespace Go.Proofs.Ytikdhdikaihenaa
open Go.RowKit Go.Sort

theorem below_sets5 {w W : World} {B g : Nat} (h : Below B w W) (hg : B ≤ g) (v0 v1 v2 v3 v4 : Value) :
    Below B w (((((W.setCell ⟨g, 0, none⟩ v0).setCell ⟨g, 1, none⟩ v1).setCell ⟨g, 2, none⟩ v2).setCell ⟨g, 3, none⟩ v3).setCell ⟨g, 4, none⟩ v4) :=
  ((((h.setCell (p := ⟨g, 0, none⟩) hg _).setCell (p := ⟨g, 1, none⟩) hg _).setCell (p := ⟨g, 2, none⟩) hg _).setCell (p := ⟨g, 3, none⟩) hg _).setCell (p := ⟨g, 4, none⟩) hg _
theorem owns_sets5 {W : World} {B e n g : Nat} {v : Value} {xs : List Value} (h : W.ownsRow B e 4 v n xs) (hg : g < B) (v0 v1 v2 v3 v4 : Value) :
    (((((W.setCell ⟨g, 0, none⟩ v0).setCell ⟨g, 1, none⟩ v1).setCell ⟨g, 2, none⟩ v2).setCell ⟨g, 3, none⟩ v3).setCell ⟨g, 4, none⟩ v4).ownsRow B e 4 v n xs :=
  ownsRow_setCell_below (a := ⟨g, 4, none⟩) (ownsRow_setCell_below (a := ⟨g, 3, none⟩) (ownsRow_setCell_below (a := ⟨g, 2, none⟩) (ownsRow_setCell_below (a := ⟨g, 1, none⟩) (ownsRow_setCell_below (a := ⟨g, 0, none⟩) h hg _) hg _) hg _) hg _) hg _

/-- A block of five cells, none frozen. -/
def Five (w : World) (b : Nat) (v0 v1 v2 v3 v4 : Value) : Prop :=
  (w.cell? ⟨b, 0, none⟩ = some v0 ∧ w.cell? ⟨b, 1, none⟩ = some v1 ∧ w.cell? ⟨b, 2, none⟩ = some v2 ∧ w.cell? ⟨b, 3, none⟩ = some v3 ∧ w.cell? ⟨b, 4, none⟩ = some v4) ∧
  (w.frozen? ⟨b, 0, none⟩ = false ∧ w.frozen? ⟨b, 1, none⟩ = false ∧ w.frozen? ⟨b, 2, none⟩ = false ∧ w.frozen? ⟨b, 3, none⟩ = false ∧ w.frozen? ⟨b, 4, none⟩ = false)
theorem Five.below {w w' : World} {B b : Nat} {v0 v1 v2 v3 v4 : Value} (h : Five w b v0 v1 v2 v3 v4) (hb : Below B w w') (hB : b < B) : Five w' b v0 v1 v2 v3 v4 := by
  obtain ⟨⟨c0, c1, c2, c3, c4⟩, ⟨f0, f1, f2, f3, f4⟩⟩ := h
  have hc : ∀ o, w'.cell? ⟨b, o, none⟩ = w.cell? ⟨b, o, none⟩ := fun o => hb.cell (p := ⟨b, o, none⟩) hB
  have hf : ∀ o, w'.frozen? ⟨b, o, none⟩ = w.frozen? ⟨b, o, none⟩ := fun o => hb.frozen (p := ⟨b, o, none⟩) hB
  exact ⟨⟨(hc 0).trans c0, (hc 1).trans c1, (hc 2).trans c2, (hc 3).trans c3, (hc 4).trans c4⟩, ⟨(hf 0).trans f0, (hf 1).trans f1, (hf 2).trans f2, (hf 3).trans f3, (hf 4).trans f4⟩⟩
theorem five2 (w : World) (i : Bool) (p c : Int) (nw : Bool) (v : Value) (i' : Bool) (p' c' : Int) (nw' : Bool) (v' : Value) :
    Five ((w.alloc (.cells #[.bool i, .int .i64 p, .int .i64 c, .bool nw, v] 38)).alloc (.cells #[.bool i', .int .i64 p', .int .i64 c', .bool nw', v'] 38)) w.heap.size (.bool i) (.int .i64 p) (.int .i64 c) (.bool nw) v ∧
    Five ((w.alloc (.cells #[.bool i, .int .i64 p, .int .i64 c, .bool nw, v] 38)).alloc (.cells #[.bool i', .int .i64 p', .int .i64 c', .bool nw', v'] 38)) (w.heap.size + 1) (.bool i') (.int .i64 p') (.int .i64 c') (.bool nw') v' := by
  refine ⟨⟨⟨?_, ?_, ?_, ?_, ?_⟩, ⟨?_, ?_, ?_, ?_, ?_⟩⟩, ⟨⟨?_, ?_, ?_, ?_, ?_⟩, ⟨?_, ?_, ?_, ?_, ?_⟩⟩⟩ <;> go_simp

theorem VY.len {i : Bool} {p c : Int} {nw : Bool} {ps : List Ps} (h : VY i p c nw ps) : ps.length ≤ 4096 := by
  obtain ⟨_, h⟩ := h
  cases i
  · simp only [Bool.false_eq_true, if_false] at h
    rw [h.2.2]; simp
  · simp only [if_true] at h
    exact h.2.1

theorem passes_ok (ao : Option Addr) (ps : List Ps) (n cap : Nat) (w : World) (hn : n = ps.length) (hm : n ≤ 9223372036854775807) (h : Lie w ao ps) (hg : ∀ p ∈ ps, Good p) :
    Calls Try.prog 29 #[.slice ao n cap] w fun e w' => e = .returned (.bool true) ∧ Below w.heap.size w w' :=
  (arePasses_any ao ps n cap w hn hm h).mono fun e w' h => by
    obtain ⟨⟨r, rfl, hr⟩, hb⟩ := h
    have := hr.2 hg
    subst this
    exact ⟨rfl, hb⟩
theorem passes_bad (ao : Option Addr) (ps : List Ps) (n cap : Nat) (w : World) (hn : n = ps.length) (hm : n ≤ 9223372036854775807) (h : Lie w ao ps) (hg : ¬ ∀ p ∈ ps, Good p) :
    Calls Try.prog 29 #[.slice ao n cap] w fun e w' => e = .returned (.bool false) ∧ Below w.heap.size w w' :=
  (arePasses_any ao ps n cap w hn hm h).mono fun e w' h => by
    obtain ⟨⟨r, rfl, hr⟩, hb⟩ := h
    cases r
    · exact ⟨rfl, hb⟩
    · exact absurd (hr.1 rfl) hg

theorem checkin_bad (i : Bool) (p c : Int) (nw : Bool) (ao : Option Addr) (ps : List Ps) (n cap : Nat) (w : World) (hn : n = ps.length) (hm : n ≤ 9223372036854775807) (hl : Lie w ao ps) (h : ¬ VY i p c nw ps) :
    Calls Try.prog 27 #[.agg #[.bool i, .int .i64 p, .int .i64 c, .bool nw, .slice ao n cap]] w fun e w' => e = .returned (.int .i64 1) ∧ Below w.heap.size w w' := by
  have HN := Lib.hid hn
  have HL := Lib.hid hl
  have HV := Lib.hid h
  clear hn hl h
  go_enter Try.func27, Try.ntmps27
  go_wp2_with (go_at_call 21; refine (check_bad _ _ _ _ _ ps _ _ _ HN.out hm (HL.out.below (below1 _ _)) HV.out).mono ?_; rintro e w1 ⟨rfl, hb⟩; obtain ⟨hc, hf⟩ := bcell hb; have hz := hb.size; simp at hz)
  go_ret
  exact ⟨rfl, (below1 _ _).trans (hb.mono (by simp))⟩

theorem checkin_out (p c : Int) (nw : Bool) (ao : Option Addr) (ps : List Ps) (n cap : Nat) (w : World) (hn : n = ps.length) (hm : n ≤ 9223372036854775807) (hl : Lie w ao ps) (h : VY false p c nw ps) :
    Calls Try.prog 27 #[.agg #[.bool false, .int .i64 p, .int .i64 c, .bool nw, .slice ao n cap]] w fun e w' => e = .returned (.int .i64 12) ∧ Below w.heap.size w w' := by
  have HN := Lib.hid hn
  have HL := Lib.hid hl
  have HV := Lib.hid h
  clear hn hl h
  go_enter Try.func27, Try.ntmps27
  go_wp2_with (go_at_call 21; refine (check_ok _ _ _ _ _ ps _ _ _ HN.out hm (HL.out.below (below1 _ _)) HV.out).mono ?_; rintro e w1 ⟨rfl, hb⟩; obtain ⟨hc, hf⟩ := bcell hb; have hz := hb.size; simp at hz)
  go_ret
  exact ⟨rfl, (below1 _ _).trans (hb.mono (by simp))⟩

theorem checkin_ok (p c : Int) (nw : Bool) (ao : Option Addr) (ps : List Ps) (n cap : Nat) (w : World) (hn : n = ps.length) (hm : n ≤ 9223372036854775807) (hl : Lie w ao ps) (h : VY true p c nw ps) :
    Calls Try.prog 27 #[.agg #[.bool true, .int .i64 p, .int .i64 c, .bool nw, .slice ao n cap]] w fun e w' => e = .returned (.int .i64 0) ∧ Below w.heap.size w w' := by
  have HN := Lib.hid hn
  have HL := Lib.hid hl
  have HV := Lib.hid h
  clear hn hl h
  go_enter Try.func27, Try.ntmps27
  go_wp2_with (go_at_call 21; refine (check_ok _ _ _ _ _ ps _ _ _ HN.out hm (HL.out.below (below1 _ _)) HV.out).mono ?_; rintro e w1 ⟨rfl, hb⟩; obtain ⟨hc, hf⟩ := bcell hb; have hz := hb.size; simp at hz)
  go_ret
  exact ⟨rfl, (below1 _ _).trans (hb.mono (by simp))⟩

theorem enter_bad (i : Bool) (p c : Int) (nw : Bool) (ao : Option Addr) (ps : List Ps) (n cap : Nat) (w : World) (hn : n = ps.length) (hm : n ≤ 9223372036854775807) (hl : Lie w ao ps) (s : Int) (h : ¬ VY i p c nw ps) :
    Calls Try.prog 17 #[.agg #[.bool i, .int .i64 p, .int .i64 c, .bool nw, .slice ao n cap], .int .u8 s] w fun e w' => e = .returned (.tuple #[.agg #[.bool false, .int .i64 0, .int .i64 0, .bool false, .slice none 0 0], .int .i64 1]) ∧ Below w.heap.size w w' := by
  have HN := Lib.hid hn
  have HL := Lib.hid hl
  have HV := Lib.hid h
  clear hn hl h
  go_enter Try.func17, Try.ntmps17
  go_wp2_with (first
    | (go_at_call 21; refine (check_bad _ _ _ _ _ ps _ _ _ HN.out hm (HL.out.below (below2 _ _ _)) HV.out).mono ?_; rintro e w1 ⟨rfl, hb⟩; obtain ⟨hc, hf⟩ := bcell hb; have hz := hb.size; simp at hz))
  exact bodyPost_ret (v := .tuple #[.agg #[.bool false, .int .i64 0, .int .i64 0, .bool false, .slice none 0 0], .int .i64 1]) (by simp [results, Try.results17, go_sem, hc]) rfl ⟨rfl, below_sets5 ((below2 _ _ _).trans (hb.mono (by simp; omega))) (by omega) _ _ _ _ _⟩

theorem enter_side (i : Bool) (p c : Int) (nw : Bool) (ao : Option Addr) (ps : List Ps) (n cap : Nat) (w : World) (hn : n = ps.length) (hm : n ≤ 9223372036854775807) (hl : Lie w ao ps) (s : Int) (h : VY i p c nw ps) (hd : ¬ (s = 0 ∨ s = 1)) :
    Calls Try.prog 17 #[.agg #[.bool i, .int .i64 p, .int .i64 c, .bool nw, .slice ao n cap], .int .u8 s] w fun e w' => e = .returned (.tuple #[.agg #[.bool false, .int .i64 0, .int .i64 0, .bool false, .slice none 0 0], .int .i64 1]) ∧ Below w.heap.size w w' := by
  have HN := Lib.hid hn
  have HL := Lib.hid hl
  have HV := Lib.hid h
  clear hn hl h
  have HD := Lib.hid hd
  clear hd
  go_enter Try.func17, Try.ntmps17
  go_wp2_with (first
    | (go_at_call 21; refine (check_ok _ _ _ _ _ ps _ _ _ HN.out hm (HL.out.below (below2 _ _ _)) HV.out).mono ?_; rintro e w1 ⟨rfl, hb⟩; obtain ⟨hc, hf⟩ := bcell hb; have hz := hb.size; simp at hz)
    | (go_at_call 26; refine (dir_bad _ _ HD.out).mono ?_; rintro e w2 ⟨rfl, rfl⟩))
  exact bodyPost_ret (v := .tuple #[.agg #[.bool false, .int .i64 0, .int .i64 0, .bool false, .slice none 0 0], .int .i64 1]) (by simp [results, Try.results17, go_sem, hc]) rfl ⟨rfl, below_sets5 ((below2 _ _ _).trans (hb.mono (by simp; omega))) (by omega) _ _ _ _ _⟩

theorem enter_in (p c : Int) (nw : Bool) (ao : Option Addr) (ps : List Ps) (n cap : Nat) (w : World) (hn : n = ps.length) (hm : n ≤ 9223372036854775807) (hl : Lie w ao ps) (s : Int) (h : VY true p c nw ps) (hd : s = 0 ∨ s = 1) :
    Calls Try.prog 17 #[.agg #[.bool true, .int .i64 p, .int .i64 c, .bool nw, .slice ao n cap], .int .u8 s] w fun e w' => e = .returned (.tuple #[.agg #[.bool false, .int .i64 0, .int .i64 0, .bool false, .slice none 0 0], .int .i64 12]) ∧ Below w.heap.size w w' := by
  have HN := Lib.hid hn
  have HL := Lib.hid hl
  have HV := Lib.hid h
  clear hn hl h
  have HD := Lib.hid hd
  clear hd
  go_enter Try.func17, Try.ntmps17
  go_wp2_with (first
    | (go_at_call 21; refine (check_ok _ _ _ _ _ ps _ _ _ HN.out hm (HL.out.below (below2 _ _ _)) HV.out).mono ?_; rintro e w1 ⟨rfl, hb⟩; obtain ⟨hc, hf⟩ := bcell hb; have hz := hb.size; simp at hz)
    | (go_at_call 26; refine (dir_ok _ _ HD.out).mono ?_; rintro e w2 ⟨rfl, rfl⟩))
  exact bodyPost_ret (v := .tuple #[.agg #[.bool false, .int .i64 0, .int .i64 0, .bool false, .slice none 0 0], .int .i64 12]) (by simp [results, Try.results17, go_sem, hc]) rfl ⟨rfl, below_sets5 ((below2 _ _ _).trans (hb.mono (by simp; omega))) (by omega) _ _ _ _ _⟩

theorem enter_ok0 (p c : Int) (nw : Bool) (ao : Option Addr) (ps : List Ps) (n cap : Nat) (w : World) (hn : n = ps.length) (hm : n ≤ 9223372036854775807) (hl : Lie w ao ps) (h : VY false p c nw ps) :
    Calls Try.prog 17 #[.agg #[.bool false, .int .i64 p, .int .i64 c, .bool nw, .slice ao n cap], .int .u8 0] w fun e w' => e = .returned (.tuple #[.agg #[.bool true, .int .i64 (-13), .int .i64 c, .bool true, .slice none 0 0], .int .i64 0]) ∧ Below w.heap.size w w' := by
  have HN := Lib.hid hn
  have HL := Lib.hid hl
  have HV := Lib.hid h
  clear hn hl h
  go_enter Try.func17, Try.ntmps17
  go_wp2_with (first
    | (go_at_call 21; refine (check_ok _ _ _ _ _ ps _ _ _ HN.out hm (HL.out.below (below2 _ _ _)) HV.out).mono ?_; rintro e w1 ⟨rfl, hb⟩; obtain ⟨hc, hf⟩ := bcell hb; have hz := hb.size; simp at hz)
    | (go_at_call 26; refine (dir_ok 0 _ (by omega)).mono ?_; rintro e w2 ⟨rfl, rfl⟩))
  exact bodyPost_ret (v := .tuple #[.agg #[.bool true, .int .i64 (-13), .int .i64 c, .bool true, .slice none 0 0], .int .i64 0]) (by simp [results, Try.results17, go_sem, hc]) rfl ⟨rfl, below_sets5 ((below2 _ _ _).trans (hb.mono (by simp; omega))) (by omega) _ _ _ _ _⟩

theorem enter_ok1 (p c : Int) (nw : Bool) (ao : Option Addr) (ps : List Ps) (n cap : Nat) (w : World) (hn : n = ps.length) (hm : n ≤ 9223372036854775807) (hl : Lie w ao ps) (h : VY false p c nw ps) :
    Calls Try.prog 17 #[.agg #[.bool false, .int .i64 p, .int .i64 c, .bool nw, .slice ao n cap], .int .u8 1] w fun e w' => e = .returned (.tuple #[.agg #[.bool true, .int .i64 (179), .int .i64 c, .bool true, .slice none 0 0], .int .i64 0]) ∧ Below w.heap.size w w' := by
  have HN := Lib.hid hn
  have HL := Lib.hid hl
  have HV := Lib.hid h
  clear hn hl h
  go_enter Try.func17, Try.ntmps17
  go_wp2_with (first
    | (go_at_call 21; refine (check_ok _ _ _ _ _ ps _ _ _ HN.out hm (HL.out.below (below2 _ _ _)) HV.out).mono ?_; rintro e w1 ⟨rfl, hb⟩; obtain ⟨hc, hf⟩ := bcell hb; have hz := hb.size; simp at hz)
    | (go_at_call 26; refine (dir_ok 1 _ (by omega)).mono ?_; rintro e w2 ⟨rfl, rfl⟩))
  exact bodyPost_ret (v := .tuple #[.agg #[.bool true, .int .i64 (179), .int .i64 c, .bool true, .slice none 0 0], .int .i64 0]) (by simp [results, Try.results17, go_sem, hc]) rfl ⟨rfl, below_sets5 ((below2 _ _ _).trans (hb.mono (by simp; omega))) (by omega) _ _ _ _ _⟩

theorem leave_bad (i : Bool) (p c : Int) (nw : Bool) (ao : Option Addr) (ps : List Ps) (n cap : Nat) (w : World) (hn : n = ps.length) (hm : n ≤ 9223372036854775807) (hl : Lie w ao ps) (h : ¬ VY i p c nw ps) :
    Calls Try.prog 18 #[.agg #[.bool i, .int .i64 p, .int .i64 c, .bool nw, .slice ao n cap]] w fun e w' => e = .returned (.tuple #[.agg #[.bool false, .int .i64 0, .int .i64 0, .bool false, .slice none 0 0], .int .i64 1]) ∧ Below w.heap.size w w' := by
  have HN := Lib.hid hn
  have HL := Lib.hid hl
  have HV := Lib.hid h
  clear hn hl h
  go_enter Try.func18, Try.ntmps18
  go_wp2_with (first
    | (go_at_call 27; refine (checkin_bad _ _ _ _ _ ps _ _ _ HN.out hm (HL.out.below (below2 _ _ _)) HV.out).mono ?_; rintro e w1 ⟨rfl, hb⟩; obtain ⟨hc, hf⟩ := bcell hb; have hz := hb.size; simp at hz))
  exact bodyPost_ret (v := .tuple #[.agg #[.bool false, .int .i64 0, .int .i64 0, .bool false, .slice none 0 0], .int .i64 1]) (by simp [results, Try.results18, go_sem, hc]) rfl ⟨rfl, below_sets5 ((below2 _ _ _).trans (hb.mono (by simp; omega))) (by omega) _ _ _ _ _⟩

theorem leave_out (p c : Int) (nw : Bool) (ao : Option Addr) (ps : List Ps) (n cap : Nat) (w : World) (hn : n = ps.length) (hm : n ≤ 9223372036854775807) (hl : Lie w ao ps) (h : VY false p c nw ps) :
    Calls Try.prog 18 #[.agg #[.bool false, .int .i64 p, .int .i64 c, .bool nw, .slice ao n cap]] w fun e w' => e = .returned (.tuple #[.agg #[.bool false, .int .i64 0, .int .i64 0, .bool false, .slice none 0 0], .int .i64 12]) ∧ Below w.heap.size w w' := by
  have HN := Lib.hid hn
  have HL := Lib.hid hl
  have HV := Lib.hid h
  clear hn hl h
  go_enter Try.func18, Try.ntmps18
  go_wp2_with (first
    | (go_at_call 27; refine (checkin_out _ _ _ _ ps _ _ _ HN.out hm (HL.out.below (below2 _ _ _)) HV.out).mono ?_; rintro e w1 ⟨rfl, hb⟩; obtain ⟨hc, hf⟩ := bcell hb; have hz := hb.size; simp at hz))
  exact bodyPost_ret (v := .tuple #[.agg #[.bool false, .int .i64 0, .int .i64 0, .bool false, .slice none 0 0], .int .i64 12]) (by simp [results, Try.results18, go_sem, hc]) rfl ⟨rfl, below_sets5 ((below2 _ _ _).trans (hb.mono (by simp; omega))) (by omega) _ _ _ _ _⟩

theorem leave_ok (p c : Int) (nw : Bool) (ao : Option Addr) (ps : List Ps) (n cap : Nat) (w : World) (hn : n = ps.length) (hm : n ≤ 9223372036854775807) (hl : Lie w ao ps) (h : VY true p c nw ps) :
    Calls Try.prog 18 #[.agg #[.bool true, .int .i64 p, .int .i64 c, .bool nw, .slice ao n cap]] w fun e w' => e = .returned (.tuple #[.agg #[.bool false, .int .i64 0, .int .i64 c, .bool false, .slice none 0 0], .int .i64 0]) ∧ Below w.heap.size w w' := by
  have HN := Lib.hid hn
  have HL := Lib.hid hl
  have HV := Lib.hid h
  clear hn hl h
  go_enter Try.func18, Try.ntmps18
  go_wp2_with (first
    | (go_at_call 27; refine (checkin_ok _ _ _ _ ps _ _ _ HN.out hm (HL.out.below (below2 _ _ _)) HV.out).mono ?_; rintro e w1 ⟨rfl, hb⟩; obtain ⟨hc, hf⟩ := bcell hb; have hz := hb.size; simp at hz))
  exact bodyPost_ret (v := .tuple #[.agg #[.bool false, .int .i64 0, .int .i64 c, .bool false, .slice none 0 0], .int .i64 0]) (by simp [results, Try.results18, go_sem, hc]) rfl ⟨rfl, below_sets5 ((below2 _ _ _).trans (hb.mono (by simp; omega))) (by omega) _ _ _ _ _⟩

theorem go_bad1 (i : Bool) (p c : Int) (nw : Bool) (ao : Option Addr) (ps : List Ps) (n cap : Nat) (w : World) (hn : n = ps.length) (hm : n ≤ 9223372036854775807) (hl : Lie w ao ps) (pl : Int) (ao2 : Option Addr) (n2 cap2 : Nat) (h : ¬ VY i p c nw ps) :
    Calls Try.prog 19 #[.agg #[.bool i, .int .i64 p, .int .i64 c, .bool nw, .slice ao n cap], .int .i64 pl, .slice ao2 n2 cap2] w fun e w' => e = .returned (.tuple #[.agg #[.bool false, .int .i64 0, .int .i64 0, .bool false, .slice none 0 0], .int .i64 1]) ∧ Below w.heap.size w w' := by
  have HN := Lib.hid hn
  have HL := Lib.hid hl
  have HV := Lib.hid h
  clear hn hl h
  go_enter Try.func19, Try.ntmps19
  go_wp2_with (first
    | (go_at_call 21; refine (check_bad _ _ _ _ _ ps _ _ _ HN.out hm (HL.out.below (below2 _ _ _)) HV.out).mono ?_; rintro e w1 ⟨rfl, hb⟩; obtain ⟨hc, hf⟩ := bcell hb; have hz := hb.size; simp at hz))
  exact bodyPost_ret (v := .tuple #[.agg #[.bool false, .int .i64 0, .int .i64 0, .bool false, .slice none 0 0], .int .i64 1]) (by simp [results, Try.results19, go_sem, hc]) rfl ⟨rfl, below_sets5 ((below2 _ _ _).trans (hb.mono (by simp; omega))) (by omega) _ _ _ _ _⟩

theorem go_bad2 (i : Bool) (p c : Int) (nw : Bool) (ao : Option Addr) (ps : List Ps) (n cap : Nat) (w : World) (hn : n = ps.length) (hm : n ≤ 9223372036854775807) (hl : Lie w ao ps) (pl : Int) (ao2 : Option Addr) (n2 cap2 : Nat) (h : VY i p c nw ps) (hpl : ¬ PlaceOk pl) :
    Calls Try.prog 19 #[.agg #[.bool i, .int .i64 p, .int .i64 c, .bool nw, .slice ao n cap], .int .i64 pl, .slice ao2 n2 cap2] w fun e w' => e = .returned (.tuple #[.agg #[.bool false, .int .i64 0, .int .i64 0, .bool false, .slice none 0 0], .int .i64 1]) ∧ Below w.heap.size w w' := by
  have HN := Lib.hid hn
  have HL := Lib.hid hl
  have HV := Lib.hid h
  clear hn hl h
  have HPL := Lib.hid hpl
  clear hpl
  go_enter Try.func19, Try.ntmps19
  go_wp2_with (first
    | (go_at_call 21; refine (check_ok _ _ _ _ _ ps _ _ _ HN.out hm (HL.out.below (below2 _ _ _)) HV.out).mono ?_; rintro e w1 ⟨rfl, hb⟩; obtain ⟨hc, hf⟩ := bcell hb; have hz := hb.size; simp at hz)
    | (go_at_call 28; refine (place_bad _ _ HPL.out).mono ?_; rintro e w2 ⟨rfl, rfl⟩))
  exact bodyPost_ret (v := .tuple #[.agg #[.bool false, .int .i64 0, .int .i64 0, .bool false, .slice none 0 0], .int .i64 1]) (by simp [results, Try.results19, go_sem, hc]) rfl ⟨rfl, below_sets5 ((below2 _ _ _).trans (hb.mono (by simp; omega))) (by omega) _ _ _ _ _⟩

theorem go_bad3 (i : Bool) (p c : Int) (nw : Bool) (ao : Option Addr) (ps : List Ps) (n cap : Nat) (w : World) (hn : n = ps.length) (hm : n ≤ 9223372036854775807) (hl : Lie w ao ps) (pl : Int) (ao2 : Option Addr) (qs : List Ps) (n2 cap2 : Nat) (hn2 : n2 = qs.length) (hm2 : n2 ≤ 9223372036854775807) (hl2 : Lie w ao2 qs) (h : VY i p c nw ps) (hpl : PlaceOk pl) (hq : ¬ ∀ p ∈ qs, Good p) :
    Calls Try.prog 19 #[.agg #[.bool i, .int .i64 p, .int .i64 c, .bool nw, .slice ao n cap], .int .i64 pl, .slice ao2 n2 cap2] w fun e w' => e = .returned (.tuple #[.agg #[.bool false, .int .i64 0, .int .i64 0, .bool false, .slice none 0 0], .int .i64 1]) ∧ Below w.heap.size w w' := by
  have HN := Lib.hid hn
  have HL := Lib.hid hl
  have HV := Lib.hid h
  clear hn hl h
  have HN2 := Lib.hid hn2
  have HL2 := Lib.hid hl2
  clear hn2 hl2
  have HPL := Lib.hid hpl
  clear hpl
  have HQ := Lib.hid hq
  clear hq
  go_enter Try.func19, Try.ntmps19
  go_wp2_with (first
    | (go_at_call 21; refine (check_ok _ _ _ _ _ ps _ _ _ HN.out hm (HL.out.below (below2 _ _ _)) HV.out).mono ?_; rintro e w1 ⟨rfl, hb⟩; refine Hid.out ?_))
  obtain ⟨F0, F1⟩ := five2 w i p c nw (.slice ao n cap) false 0 0 false (.slice none 0 0)
  have hb1 : Below w.heap.size w w1 := (below2 _ _ _).trans (hb.mono (by simp; omega))
  have hz1 := hb.size
  simp at hz1
  have G0 := F0.below hb (by simp; omega)
  have G1 := F1.below hb (by simp)
  clear hb F0 F1
  refine Lib.hid ?_
  go_wp2_with (first
    | (go_at_call 28; refine (place_ok _ _ HPL.out.1 HPL.out.2.1 HPL.out.2.2).mono ?_; rintro e w2 ⟨rfl, rfl⟩)
    | (go_at_call 29; refine (passes_bad _ qs _ _ _ HN2.out hm2 (HL2.out.below hb1) HQ.out).mono ?_; rintro e w3 ⟨rfl, hb⟩; refine Hid.out ?_))
  have hb3 : Below w.heap.size w w3 := hb1.trans (hb.mono (by omega))
  have hz3 := hb.size
  have H0 := G0.below hb (by omega)
  have H1 := G1.below hb (by omega)
  clear hb G0 G1 hb1
  obtain ⟨⟨c0, c1, c2, c3, c4⟩, ⟨f0, f1, f2, f3, f4⟩⟩ := H0
  obtain ⟨⟨d0, d1, d2, d3, d4⟩, ⟨e0, e1, e2, e3, e4⟩⟩ := H1
  refine Lib.hid ?_
  go_wp2_with fail
  exact bodyPost_ret (v := .tuple #[.agg #[.bool false, .int .i64 0, .int .i64 0, .bool false, .slice none 0 0], .int .i64 1]) (by simp [results, Try.results19, go_sem, d0, d1, d2, d3, d4]) rfl ⟨rfl, below_sets5 hb3 (by omega) _ _ _ _ _⟩

theorem go_out (p c : Int) (nw : Bool) (ao : Option Addr) (ps : List Ps) (n cap : Nat) (w : World) (hn : n = ps.length) (hm : n ≤ 9223372036854775807) (hl : Lie w ao ps) (pl : Int) (ao2 : Option Addr) (qs : List Ps) (n2 cap2 : Nat) (hn2 : n2 = qs.length) (hm2 : n2 ≤ 9223372036854775807) (hl2 : Lie w ao2 qs) (h : VY false p c nw ps) (hpl : PlaceOk pl) (hq : ∀ p ∈ qs, Good p) :
    Calls Try.prog 19 #[.agg #[.bool false, .int .i64 p, .int .i64 c, .bool nw, .slice ao n cap], .int .i64 pl, .slice ao2 n2 cap2] w fun e w' => e = .returned (.tuple #[.agg #[.bool false, .int .i64 0, .int .i64 0, .bool false, .slice none 0 0], .int .i64 12]) ∧ Below w.heap.size w w' := by
  have HN := Lib.hid hn
  have HL := Lib.hid hl
  have HV := Lib.hid h
  clear hn hl h
  have HN2 := Lib.hid hn2
  have HL2 := Lib.hid hl2
  clear hn2 hl2
  have HPL := Lib.hid hpl
  clear hpl
  have HQ := Lib.hid hq
  clear hq
  go_enter Try.func19, Try.ntmps19
  go_wp2_with (first
    | (go_at_call 21; refine (check_ok _ _ _ _ _ ps _ _ _ HN.out hm (HL.out.below (below2 _ _ _)) HV.out).mono ?_; rintro e w1 ⟨rfl, hb⟩; refine Hid.out ?_))
  obtain ⟨F0, F1⟩ := five2 w false p c nw (.slice ao n cap) false 0 0 false (.slice none 0 0)
  have hb1 : Below w.heap.size w w1 := (below2 _ _ _).trans (hb.mono (by simp; omega))
  have hz1 := hb.size
  simp at hz1
  have G0 := F0.below hb (by simp; omega)
  have G1 := F1.below hb (by simp)
  clear hb F0 F1
  refine Lib.hid ?_
  go_wp2_with (first
    | (go_at_call 28; refine (place_ok _ _ HPL.out.1 HPL.out.2.1 HPL.out.2.2).mono ?_; rintro e w2 ⟨rfl, rfl⟩)
    | (go_at_call 29; refine (passes_ok _ qs _ _ _ HN2.out hm2 (HL2.out.below hb1) HQ.out).mono ?_; rintro e w3 ⟨rfl, hb⟩; refine Hid.out ?_))
  have hb3 : Below w.heap.size w w3 := hb1.trans (hb.mono (by omega))
  have hz3 := hb.size
  have H0 := G0.below hb (by omega)
  have H1 := G1.below hb (by omega)
  clear hb G0 G1 hb1
  obtain ⟨⟨c0, c1, c2, c3, c4⟩, ⟨f0, f1, f2, f3, f4⟩⟩ := H0
  obtain ⟨⟨d0, d1, d2, d3, d4⟩, ⟨e0, e1, e2, e3, e4⟩⟩ := H1
  refine Lib.hid ?_
  go_wp2_with fail
  exact bodyPost_ret (v := .tuple #[.agg #[.bool false, .int .i64 0, .int .i64 0, .bool false, .slice none 0 0], .int .i64 12]) (by simp [results, Try.results19, go_sem, d0, d1, d2, d3, d4]) rfl ⟨rfl, below_sets5 hb3 (by omega) _ _ _ _ _⟩

theorem go_limit (p c : Int) (nw : Bool) (ao : Option Addr) (ps : List Ps) (n cap : Nat) (w : World) (hn : n = ps.length) (hm : n ≤ 9223372036854775807) (hl : Lie w ao ps) (pl : Int) (ao2 : Option Addr) (qs : List Ps) (n2 cap2 : Nat) (hn2 : n2 = qs.length) (hm2 : n2 ≤ 9223372036854775807) (hl2 : Lie w ao2 qs) (h : VY true p c nw ps) (hpl : PlaceOk pl) (hq : ∀ p ∈ qs, Good p) (hmm : n2 ≤ 1000000) (hlim : 4096 < (red (ps ++ qs)).length) :
    Calls Try.prog 19 #[.agg #[.bool true, .int .i64 p, .int .i64 c, .bool nw, .slice ao n cap], .int .i64 pl, .slice ao2 n2 cap2] w fun e w' => e = .returned (.tuple #[.agg #[.bool false, .int .i64 0, .int .i64 0, .bool false, .slice none 0 0], .int .i64 3]) ∧ Below w.heap.size w w' := by
  have HN := Lib.hid hn
  have HL := Lib.hid hl
  have HV := Lib.hid h
  clear hn hl h
  have HN2 := Lib.hid hn2
  have HL2 := Lib.hid hl2
  clear hn2 hl2
  have HPL := Lib.hid hpl
  clear hpl
  have HQ := Lib.hid hq
  clear hq
  go_enter Try.func19, Try.ntmps19
  go_wp2_with (first
    | (go_at_call 21; refine (check_ok _ _ _ _ _ ps _ _ _ HN.out hm (HL.out.below (below2 _ _ _)) HV.out).mono ?_; rintro e w1 ⟨rfl, hb⟩; refine Hid.out ?_))
  obtain ⟨F0, F1⟩ := five2 w true p c nw (.slice ao n cap) false 0 0 false (.slice none 0 0)
  have hb1 : Below w.heap.size w w1 := (below2 _ _ _).trans (hb.mono (by simp; omega))
  have hz1 := hb.size
  simp at hz1
  have G0 := F0.below hb (by simp; omega)
  have G1 := F1.below hb (by simp)
  clear hb F0 F1
  refine Lib.hid ?_
  go_wp2_with (first
    | (go_at_call 28; refine (place_ok _ _ HPL.out.1 HPL.out.2.1 HPL.out.2.2).mono ?_; rintro e w2 ⟨rfl, rfl⟩)
    | (go_at_call 29; refine (passes_ok _ qs _ _ _ HN2.out hm2 (HL2.out.below hb1) HQ.out).mono ?_; rintro e w3 ⟨rfl, hb⟩; refine Hid.out ?_))
  have hb3 : Below w.heap.size w w3 := hb1.trans (hb.mono (by omega))
  have hz3 := hb.size
  have H0 := G0.below hb (by omega)
  have H1 := G1.below hb (by omega)
  clear hb G0 G1 hb1
  obtain ⟨⟨c0, c1, c2, c3, c4⟩, ⟨f0, f1, f2, f3, f4⟩⟩ := H0
  obtain ⟨⟨d0, d1, d2, d3, d4⟩, ⟨e0, e1, e2, e3, e4⟩⟩ := H1
  refine Lib.hid ?_
  have hlz := VY.len HV.out
  go_wp2_with (first
    | (go_at_call 23; refine (behind_any _ _ ps qs _ _ _ _ _ HN.out HN2.out (by have := HN.out; omega) (HL.out.below hb3) (HL2.out.below hb3)).mono ?_; rintro e w4 ⟨bo, rfl, ho, hb⟩; refine Hid.out ?_))
  have hb4 : Below w.heap.size w w4 := hb3.trans (hb.mono (by omega))
  have hz4 := hb.size
  have HO := Lib.hid ho
  have H0 := Five.below ⟨⟨c0, c1, c2, c3, c4⟩, ⟨f0, f1, f2, f3, f4⟩⟩ hb (by omega)
  have H1 := Five.below ⟨⟨d0, d1, d2, d3, d4⟩, ⟨e0, e1, e2, e3, e4⟩⟩ hb (by omega)
  clear hb ho hb3 c0 c1 c2 c3 c4 f0 f1 f2 f3 f4 d0 d1 d2 d3 d4 e0 e1 e2 e3 e4
  obtain ⟨⟨c0, c1, c2, c3, c4⟩, ⟨f0, f1, f2, f3, f4⟩⟩ := H0
  obtain ⟨⟨d0, d1, d2, d3, d4⟩, ⟨e0, e1, e2, e3, e4⟩⟩ := H1
  obtain ⟨L, hL⟩ : ∃ L, L = (red (ps ++ qs)).length := ⟨_, rfl⟩
  rw [← hL] at HO ⊢
  have HLL := Lib.hid hL
  rw [← hL] at hlim
  clear hL
  refine Lib.hid ?_
  go_wp2_with fail
  exact bodyPost_ret (v := .tuple #[.agg #[.bool false, .int .i64 0, .int .i64 0, .bool false, .slice none 0 0], .int .i64 3]) (by simp [results, Try.results19, go_sem, d0, d1, d2, d3, d4]) rfl ⟨rfl, below_sets5 hb4 (by omega) _ _ _ _ _⟩

theorem go_ok (p c : Int) (nw : Bool) (ao : Option Addr) (ps : List Ps) (n cap : Nat) (w : World) (hn : n = ps.length) (hm : n ≤ 9223372036854775807) (hl : Lie w ao ps) (pl : Int) (ao2 : Option Addr) (qs : List Ps) (n2 cap2 : Nat) (hn2 : n2 = qs.length) (hm2 : n2 ≤ 9223372036854775807) (hl2 : Lie w ao2 qs) (h : VY true p c nw ps) (hpl : PlaceOk pl) (hq : ∀ p ∈ qs, Good p) (hmm : n2 ≤ 1000000) (hlim : (red (ps ++ qs)).length ≤ 4096) :
    Calls Try.prog 19 #[.agg #[.bool true, .int .i64 p, .int .i64 c, .bool nw, .slice ao n cap], .int .i64 pl, .slice ao2 n2 cap2] w fun e w' => ∃ bo, e = .returned (.tuple #[.agg #[.bool true, .int .i64 pl, .int .i64 c, .bool nw, .slice bo (red (ps ++ qs)).length (red (ps ++ qs)).length], .int .i64 0]) ∧ w'.ownsRow w.heap.size 33 4 (.slice bo (red (ps ++ qs)).length (red (ps ++ qs)).length) (red (ps ++ qs)).length (cellsOf (red (ps ++ qs))) ∧ Below w.heap.size w w' := by
  have HN := Lib.hid hn
  have HL := Lib.hid hl
  have HV := Lib.hid h
  clear hn hl h
  have HN2 := Lib.hid hn2
  have HL2 := Lib.hid hl2
  clear hn2 hl2
  have HPL := Lib.hid hpl
  clear hpl
  have HQ := Lib.hid hq
  clear hq
  go_enter Try.func19, Try.ntmps19
  go_wp2_with (first
    | (go_at_call 21; refine (check_ok _ _ _ _ _ ps _ _ _ HN.out hm (HL.out.below (below2 _ _ _)) HV.out).mono ?_; rintro e w1 ⟨rfl, hb⟩; refine Hid.out ?_))
  obtain ⟨F0, F1⟩ := five2 w true p c nw (.slice ao n cap) false 0 0 false (.slice none 0 0)
  have hb1 : Below w.heap.size w w1 := (below2 _ _ _).trans (hb.mono (by simp; omega))
  have hz1 := hb.size
  simp at hz1
  have G0 := F0.below hb (by simp; omega)
  have G1 := F1.below hb (by simp)
  clear hb F0 F1
  refine Lib.hid ?_
  go_wp2_with (first
    | (go_at_call 28; refine (place_ok _ _ HPL.out.1 HPL.out.2.1 HPL.out.2.2).mono ?_; rintro e w2 ⟨rfl, rfl⟩)
    | (go_at_call 29; refine (passes_ok _ qs _ _ _ HN2.out hm2 (HL2.out.below hb1) HQ.out).mono ?_; rintro e w3 ⟨rfl, hb⟩; refine Hid.out ?_))
  have hb3 : Below w.heap.size w w3 := hb1.trans (hb.mono (by omega))
  have hz3 := hb.size
  have H0 := G0.below hb (by omega)
  have H1 := G1.below hb (by omega)
  clear hb G0 G1 hb1
  obtain ⟨⟨c0, c1, c2, c3, c4⟩, ⟨f0, f1, f2, f3, f4⟩⟩ := H0
  obtain ⟨⟨d0, d1, d2, d3, d4⟩, ⟨e0, e1, e2, e3, e4⟩⟩ := H1
  refine Lib.hid ?_
  have hlz := VY.len HV.out
  go_wp2_with (first
    | (go_at_call 23; refine (behind_any _ _ ps qs _ _ _ _ _ HN.out HN2.out (by have := HN.out; omega) (HL.out.below hb3) (HL2.out.below hb3)).mono ?_; rintro e w4 ⟨bo, rfl, ho, hb⟩; refine Hid.out ?_))
  have hb4 : Below w.heap.size w w4 := hb3.trans (hb.mono (by omega))
  have hz4 := hb.size
  have HO := Lib.hid ho
  have H0 := Five.below ⟨⟨c0, c1, c2, c3, c4⟩, ⟨f0, f1, f2, f3, f4⟩⟩ hb (by omega)
  have H1 := Five.below ⟨⟨d0, d1, d2, d3, d4⟩, ⟨e0, e1, e2, e3, e4⟩⟩ hb (by omega)
  clear hb ho hb3 c0 c1 c2 c3 c4 f0 f1 f2 f3 f4 d0 d1 d2 d3 d4 e0 e1 e2 e3 e4
  obtain ⟨⟨c0, c1, c2, c3, c4⟩, ⟨f0, f1, f2, f3, f4⟩⟩ := H0
  obtain ⟨⟨d0, d1, d2, d3, d4⟩, ⟨e0, e1, e2, e3, e4⟩⟩ := H1
  obtain ⟨L, hL⟩ : ∃ L, L = (red (ps ++ qs)).length := ⟨_, rfl⟩
  rw [← hL] at HO ⊢
  have HLL := Lib.hid hL
  rw [← hL] at hlim
  clear hL
  refine Lib.hid ?_
  go_wp2_with fail
  have hk : w.heap.size + 2 ≤ w3.heap.size := by omega
  refine bodyPost_ret (v := .tuple #[.agg #[.bool true, .int .i64 pl, .int .i64 c, .bool nw, .slice bo L L], .int .i64 0]) (by simp [results, Try.results19, go_sem, d0, d1, d2, d3, d4]) rfl ⟨bo, by rw [← HLL.out], ?_, ?_⟩
  · rw [← HLL.out]
    exact owns_mono (owns_sets5 (ownsRow_setCell_below (a := ⟨w.heap.size, 4, none⟩) (ownsRow_setCell_below (a := ⟨w.heap.size, 1, none⟩) HO.out (by show w.heap.size < w3.heap.size; omega) _) (by show w.heap.size < w3.heap.size; omega) _) (by omega) _ _ _ _ _) (by omega)
  · exact below_sets5 ((hb4.setCell (p := ⟨w.heap.size, 1, none⟩) (Nat.le_refl _) _).setCell (p := ⟨w.heap.size, 4, none⟩) (Nat.le_refl _) _) (by omega) _ _ _ _ _

end Go.Proofs.Ytikdhdikaihenaa
