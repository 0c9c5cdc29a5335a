import Derived.Test.YthdmpoiecmbinaaDoorBase
import Derived.Deep.LoopGhost
import Derived.Outline
namespace Go.Proofs.YthdmpoiecmbinaaDoor
open Go.RowKit

theorem at_rack (s r : Int) (w : World) (h : ¬ (-4 ≤ r ∧ r ≤ 4)) :
    Calls Tryd.prog 13 #[.int .i64 s, .int .i64 r] w fun e w' => e = .returned (.tuple #[.agg #[.int .u8 0, .int .i64 0], .int .i64 11]) ∧ Below w.heap.size w w' := by
  have HR := Lib.hid h
  clear h
  go_enter Tryd.func13, Tryd.ntmps13
  go_wp2_with fail
  go_step3
  go_wp2_with (go_at_call 19; refine (rack_bad _ _ HR.out).mono ?_; rintro e w' ⟨rfl, rfl⟩)
  rw [Exit.noGoto_ret]
  exact bodyPost_ret (v := .tuple #[.agg #[.int .u8 0, .int .i64 0], .int .i64 11]) (by simp [results, Tryd.results13, go_sem]) rfl ⟨rfl, ((Below.refl _ _).alloc (Nat.le_refl _) _)⟩

/-- No needle of the bed up to k has a spot from s on. -/
def Low (b r s k : Int) : Prop := ∀ a : Int, 1 ≤ a → a ≤ k → spt b a r < s
/-- No needle of the bed has the spot. -/
def NoBed (b r s : Int) : Prop := ∀ a : Int, 1 ≤ a → a ≤ 40 → spt b a r ≠ s

theorem low_zero (b r s : Int) : Low b r s 0 := fun a h1 h2 => absurd h1 (by omega)
theorem low_succ {b r s : Int} {k : Nat} (h : Low b r s k) (h1 : spt b (k + 1) r < s) : Low b r s ((k + 1 : Nat) : Int) := fun a h2 h3 => by
  by_cases e : a = k + 1
  · subst e; exact h1
  · exact h a h2 (by omega)
theorem spt_mono (b r a a' : Int) (h : a ≤ a') : spt b a r ≤ spt b a' r := by unfold spt; split <;> omega
theorem low_all {b r s : Int} (h : Low b r s 40) : NoBed b r s := fun a h1 h2 => by have := h a h1 h2; omega
theorem low_stop {b r s : Int} {k : Nat} (h : Low b r s k) (h1 : s < spt b (k + 1) r) : NoBed b r s := fun a h2 _ => by
  by_cases e : a ≤ k
  · have := h a h2 e; omega
  · have := spt_mono b r (k + 1) a (by omega); omega

def AtPost (s r : Int) (w : World) (e : Ending) (w' : World) : Prop :=
  ((∃ b a : Int, (b = 0 ∨ b = 1) ∧ 1 ≤ a ∧ a ≤ 40 ∧ spt b a r = s ∧ e = .returned (.tuple #[.agg #[.int .u8 b, .int .i64 a], .int .i64 0])) ∨
    (NoBed 0 r s ∧ NoBed 1 r s ∧ e = .returned (.tuple #[.agg #[.int .u8 0, .int .i64 0], .int .i64 7]))) ∧ Below w.heap.size w w'

/-- What the rounds have shown of the beds before. -/
def Done (r s : Int) (j : Nat) : Prop := (1 ≤ j → NoBed 0 r s) ∧ (2 ≤ j → NoBed 1 r s)

theorem done_succ {r s : Int} {j : Nat} (hd : Done r s j) (hj : j < 2) (h : NoBed j r s) : Done r s (j + 1) := by
  obtain rfl | rfl : j = 0 ∨ j = 1 := by omega
  · exact ⟨fun _ => h, fun h' => absurd h' (by omega)⟩
  · exact ⟨fun _ => hd.1 (by omega), fun _ => h⟩

theorem held {w W0 wr : World} (h0 : W0 = (w.alloc (Obj.cells #[Value.int IntKind.u8 0, Value.int IntKind.i64 0] 24)).alloc (Obj.cells #[Value.int IntKind.u8 0, Value.int IntKind.i64 0] 24)) (hb : Below (w.heap.size + 2) W0 wr) :
    wr.cell? ⟨w.heap.size, 0, none⟩ = some (.int .u8 0) ∧ wr.cell? ⟨w.heap.size, 1, none⟩ = some (.int .i64 0) ∧
    wr.cell? ⟨w.heap.size + 1, 0, none⟩ = some (.int .u8 0) ∧ wr.cell? ⟨w.heap.size + 1, 1, none⟩ = some (.int .i64 0) ∧
    wr.frozen? ⟨w.heap.size, 0, none⟩ = false ∧ wr.frozen? ⟨w.heap.size, 1, none⟩ = false ∧
    wr.frozen? ⟨w.heap.size + 1, 0, none⟩ = false ∧ wr.frozen? ⟨w.heap.size + 1, 1, none⟩ = false ∧ w.heap.size + 2 ≤ wr.heap.size := by
  have hz := hb.size
  rw [hb.cell (p := ⟨w.heap.size, 0, none⟩) (by simp), hb.cell (p := ⟨w.heap.size, 1, none⟩) (by simp), hb.cell (p := ⟨w.heap.size + 1, 0, none⟩) (by simp), hb.cell (p := ⟨w.heap.size + 1, 1, none⟩) (by simp),
    hb.frozen (p := ⟨w.heap.size, 0, none⟩) (by simp), hb.frozen (p := ⟨w.heap.size, 1, none⟩) (by simp), hb.frozen (p := ⟨w.heap.size + 1, 0, none⟩) (by simp), hb.frozen (p := ⟨w.heap.size + 1, 1, none⟩) (by simp)]
  subst h0
  simp at hz
  refine ⟨?_, ?_, ?_, ?_, ?_, ?_, ?_, ?_, by omega⟩ <;> go_simp

theorem below0 {w W0 : World} (h0 : W0 = (w.alloc (Obj.cells #[Value.int IntKind.u8 0, Value.int IntKind.i64 0] 24)).alloc (Obj.cells #[Value.int IntKind.u8 0, Value.int IntKind.i64 0] 24)) : Below w.heap.size w W0 := by
  subst h0
  exact ((Below.refl _ _).alloc (Nat.le_refl _) _).alloc (by simp) _

set_option maxHeartbeats 1000000 in
theorem at_ok (s r : Int) (w : World) (h3 : -4 ≤ r) (h4 : r ≤ 4) :
    Calls Tryd.prog 13 #[.int .i64 s, .int .i64 r] w (AtPost s r w) := by
  obtain ⟨W0, hW0⟩ : ∃ W0 : World, W0 = (w.alloc (Obj.cells #[Value.int IntKind.u8 0, Value.int IntKind.i64 0] 24)).alloc (Obj.cells #[Value.int IntKind.u8 0, Value.int IntKind.i64 0] 24) := ⟨_, rfl⟩
  have H0 := Lib.hid hW0
  clear hW0
  go_enter Tryd.func13, Tryd.ntmps13
  go_wp2_with fail
  go_step3
  go_wp2_with (go_at_call 19; refine (rack_ok _ _ (by omega) (by omega)).mono ?_; rintro e w' ⟨rfl, rfl⟩)
  go_step3
  go_wp2
  rw [← H0.out]
  go_loopg [7, 19] 3 (fun g e i wr => ∃ j : Nat, j ≤ 2 ∧ g = 3 - j ∧ e = .int .i64 7 ∧ i = .int .i64 j ∧ Done r s j ∧ Below (w.heap.size + 2) W0 wr)
  case atStart => exact ⟨0, by omega, rfl, rfl, rfl, ⟨fun h => absurd h (by omega), fun h => absurd h (by omega)⟩, Below.refl _ _⟩
  case round =>
    obtain ⟨j, hj, hg, rfl, rfl, hd, hb⟩ := hrel
    have HG := Lib.hid hg
    clear hg
    obtain ⟨wo, rfl⟩ : ∃ wo : World, wo = wr := ⟨_, rfl⟩
    obtain ⟨go, rfl⟩ : ∃ go : Nat, go = gk := ⟨_, rfl⟩
    obtain ⟨c00, c01, c10, c11, f00, f01, f10, f11, hz⟩ := held H0.out hb
    by_cases hlt : j < 2
    · have ij : ∀ w, (Instr.index 43 (.agg #[.int .u8 0, .int .u8 1]) (.int .i64 j)).run Tryd.prog w = .ok (.int .u8 j) w := by
        obtain rfl | rfl : j = 0 ∨ j = 1 := by omega
        · exact fun _ => by kernel_rfl
        · exact fun _ => by kernel_rfl
      have hjd : decide ((j : Int) < 2) = true := by simp; omega
      have HJ := Lib.hid (show (j : Int) = 0 ∨ (j : Int) = 1 by omega)
      go_wp2_with fail
      clear ij
      go_loopg [7, 22] 41 (fun g e i wr => ∃ k : Nat, k ≤ 40 ∧ g = 41 - k ∧ e = .int .i64 7 ∧ i = .int .i64 k ∧ Low j r s k ∧ Below (w.heap.size + 2) W0 wr)
      case atStart => exact ⟨0, by omega, rfl, rfl, rfl, low_zero _ _ _, hb⟩
      case round =>
        obtain ⟨k, hk, hg, rfl, rfl, hl, hb'⟩ := hrel
        have HG' := Lib.hid hg
        clear hg c00 c01 c10 c11 f00 f01 f10 f11 hz
        obtain ⟨c00, c01, c10, c11, f00, f01, f10, f11, hz⟩ := held H0.out hb'
        by_cases hk40 : k < 40
        · rcases Int.lt_trichotomy (spt j (k + 1) r) s with hx | hx | hx
          · go_wp2_with (go_at_call 11; refine (spot_ok _ _ _ _ HJ.out (by omega) (by omega) (by omega) (by omega)).mono ?_; rintro e w' ⟨rfl, hbs⟩; obtain ⟨hc, hf⟩ := bcell hbs; have hzs := hbs.size)
            go_roundg (gk - 1)
            case measure => have := HG'.out; omega
            case rel => exact ⟨k + 1, by omega, by have := HG'.out; omega, rfl, by go_num, low_succ hl hx, (hb'.alloc (by omega) _).trans (hbs.mono (by simp; omega))⟩
          · go_wp2_with (go_at_call 11; refine (spot_ok _ _ _ _ HJ.out (by omega) (by omega) (by omega) (by omega)).mono ?_; rintro e w' ⟨rfl, hbs⟩; obtain ⟨hc, hf⟩ := bcell hbs; have hzs := hbs.size; have hb2 : Below (w.heap.size + 2) W0 w' := (hb'.alloc (by omega) _).trans (hbs.mono (by simp; omega)); obtain ⟨d00, d01, d10, d11, e00, e01, e10, e11, hz2⟩ := held H0.out hb2)
            rw [Exit.noGoto_ret]
            refine bodyPost_ret (v := .tuple #[.agg #[.int .u8 j, .int .i64 (k + 1)], .int .i64 0]) (by simp [results, Tryd.results13, go_sem, d00, d01]) rfl ⟨?_, ?_⟩
            · left; exact ⟨j, k + 1, HJ.out, by omega, by omega, hx, rfl⟩
            · exact (((((below0 H0.out).trans (hb2.mono (by omega))).setCell (Nat.le_succ _) _).setCell (Nat.le_succ _) _).setCell (Nat.le_refl _) _).setCell (Nat.le_refl _) _
          · go_wp2_with (go_at_call 11; refine (spot_ok _ _ _ _ HJ.out (by omega) (by omega) (by omega) (by omega)).mono ?_; rintro e w' ⟨rfl, hbs⟩; obtain ⟨hc, hf⟩ := bcell hbs; have hzs := hbs.size)
            go_roundg (go - 1)
            case measure => have := HG.out; omega
            case rel => exact ⟨j + 1, by omega, by have := HG.out; omega, rfl, by go_num, done_succ hd hlt (low_stop hl hx), (hb'.alloc (by omega) _).trans (hbs.mono (by simp; omega))⟩
        · obtain rfl : k = 40 := by omega
          go_wp2
          go_roundg (go - 1)
          case measure => have := HG.out; omega
          case rel => exact ⟨j + 1, by omega, by have := HG.out; omega, rfl, by go_num, done_succ hd hlt (low_all hl), hb'⟩
    · obtain rfl : j = 2 := by omega
      go_wp2
      rw [Exit.noGoto_ret]
      refine bodyPost_ret (v := .tuple #[.agg #[.int .u8 0, .int .i64 0], .int .i64 7]) (by simp [results, Tryd.results13, go_sem, c00, c01]) rfl ⟨?_, ?_⟩
      · right; exact ⟨hd.1 (by omega), hd.2 (by omega), rfl⟩
      · exact (((below0 H0.out).trans (hb.mono (by omega))).setCell (Nat.le_refl _) _).setCell (Nat.le_refl _) _

theorem spt_inj {b a b' a' r : Int} (hb : b = 0 ∨ b = 1) (hb' : b' = 0 ∨ b' = 1) (h : spt b a r = spt b' a' r) : b = b' ∧ a = a' := by
  rcases hb with rfl | rfl <;> rcases hb' with rfl | rfl <;> simp [spt] at h ⊢ <;> omega

theorem at_found (s b a r : Int) (w : World) (hb : b = 0 ∨ b = 1) (h1 : 1 ≤ a) (h2 : a ≤ 40) (h3 : -4 ≤ r) (h4 : r ≤ 4) (h : spt b a r = s) :
    Calls Tryd.prog 13 #[.int .i64 s, .int .i64 r] w fun e w' => e = .returned (.tuple #[.agg #[.int .u8 b, .int .i64 a], .int .i64 0]) ∧ Below w.heap.size w w' := by
  refine (at_ok s r w h3 h4).mono fun e w' hp => ?_
  obtain ⟨⟨b', a', g1, g2, g3, g4, rfl⟩ | ⟨n0, n1, _⟩, hbl⟩ := hp
  · obtain ⟨rfl, rfl⟩ := spt_inj g1 hb (g4.trans h.symm)
    exact ⟨rfl, hbl⟩
  · rcases hb with rfl | rfl
    · exact absurd h (n0 a h1 h2)
    · exact absurd h (n1 a h1 h2)

theorem at_none (s r : Int) (w : World) (h3 : -4 ≤ r) (h4 : r ≤ 4) (n0 : NoBed 0 r s) (n1 : NoBed 1 r s) :
    Calls Tryd.prog 13 #[.int .i64 s, .int .i64 r] w fun e w' => e = .returned (.tuple #[.agg #[.int .u8 0, .int .i64 0], .int .i64 7]) ∧ Below w.heap.size w w' := by
  refine (at_ok s r w h3 h4).mono fun e w' hp => ?_
  obtain ⟨⟨b', a', g1, g2, g3, g4, rfl⟩ | ⟨_, _, rfl⟩, hbl⟩ := hp
  · rcases g1 with rfl | rfl
    · exact absurd g4 (n0 a' g2 g3)
    · exact absurd g4 (n1 a' g2 g3)
  · exact ⟨rfl, hbl⟩

/-- The position of a needle. -/
def pos (b a r : Int) : Int := if b = 1 then a + r else a
/-- Opposite's answer for a needle that is valid: where the other bed's needle is. -/
def opp (b a r : Int) : Int := if b = 1 then a + r else a - r

theorem opp_arg (b a r : Int) (w : World) (h : ¬ (b ≤ 1 ∧ 1 ≤ a ∧ a ≤ 40)) :
    Calls Tryd.prog 16 #[.agg #[.int .u8 b, .int .i64 a], .int .i64 r] w fun e w' => e = .returned (.tuple #[.agg #[.int .u8 0, .int .i64 0], .int .i64 1]) ∧ Below w.heap.size w w' := by
  have HV := Lib.hid h
  clear h
  go_enter Tryd.func16, Tryd.ntmps16
  go_wp2_with (go_at_call 10; refine (check_bad _ _ _ HV.out).mono ?_; rintro e w' ⟨rfl, hb⟩; obtain ⟨hc, hf⟩ := bcell hb; have hz := hb.size)
  exact bodyPost_ret (v := .tuple #[.agg #[.int .u8 0, .int .i64 0], .int .i64 1]) (by simp [results, Tryd.results16, go_sem, hc]) rfl
    ⟨rfl, (((((Below.refl _ _).alloc (Nat.le_refl _) _).alloc (by simp) _).trans (hb.mono (by simp; omega))).setCell (by simp) _).setCell (by simp) _⟩

theorem opp_rack (b a r : Int) (w : World) (hb : b ≤ 1) (h1 : 1 ≤ a) (h2 : a ≤ 40) (h : ¬ (-4 ≤ r ∧ r ≤ 4)) :
    Calls Tryd.prog 16 #[.agg #[.int .u8 b, .int .i64 a], .int .i64 r] w fun e w' => e = .returned (.tuple #[.agg #[.int .u8 0, .int .i64 0], .int .i64 11]) ∧ Below w.heap.size w w' := by
  have HV := Lib.hid h
  clear h
  go_enter Tryd.func16, Tryd.ntmps16
  go_wp2_with (first
    | (go_at_call 10; refine (check_ok _ _ _ (by omega) (by omega) (by omega)).mono ?_; rintro e w' ⟨rfl, hb⟩; obtain ⟨hc, hf⟩ := bcell hb; have hz := hb.size)
    | (go_at_call 19; refine (rack_bad _ _ HV.out).mono ?_; rintro e w' ⟨rfl, rfl⟩))
  exact bodyPost_ret (v := .tuple #[.agg #[.int .u8 0, .int .i64 0], .int .i64 11]) (by simp [results, Tryd.results16, go_sem, hc]) rfl
    ⟨rfl, (((((Below.refl _ _).alloc (Nat.le_refl _) _).alloc (by simp) _).trans (hb.mono (by simp; omega))).setCell (by simp) _).setCell (by simp) _⟩

theorem held2 {b a : Int} {w W0 wr : World} (h0 : W0 = (w.alloc (Obj.cells #[Value.int IntKind.u8 b, Value.int IntKind.i64 a] 24)).alloc (Obj.cells #[Value.int IntKind.u8 0, Value.int IntKind.i64 0] 24)) (hb : Below (w.heap.size + 2) W0 wr) :
    wr.cell? ⟨w.heap.size, 0, none⟩ = some (.int .u8 b) ∧ wr.cell? ⟨w.heap.size, 1, none⟩ = some (.int .i64 a) ∧
    wr.cell? ⟨w.heap.size + 1, 0, none⟩ = some (.int .u8 0) ∧ wr.cell? ⟨w.heap.size + 1, 1, none⟩ = some (.int .i64 0) ∧
    wr.frozen? ⟨w.heap.size + 1, 0, none⟩ = false ∧ wr.frozen? ⟨w.heap.size + 1, 1, none⟩ = false ∧ w.heap.size + 2 ≤ wr.heap.size := by
  have hz := hb.size
  rw [hb.cell (p := ⟨w.heap.size, 0, none⟩) (by simp), hb.cell (p := ⟨w.heap.size, 1, none⟩) (by simp), hb.cell (p := ⟨w.heap.size + 1, 0, none⟩) (by simp), hb.cell (p := ⟨w.heap.size + 1, 1, none⟩) (by simp),
    hb.frozen (p := ⟨w.heap.size + 1, 0, none⟩) (by simp), hb.frozen (p := ⟨w.heap.size + 1, 1, none⟩) (by simp)]
  subst h0
  simp at hz
  refine ⟨?_, ?_, ?_, ?_, ?_, ?_, by omega⟩ <;> go_simp

theorem held2o {b a : Int} {w W0 wr : World} (h0 : W0 = (w.alloc (Obj.cells #[Value.int IntKind.u8 b, Value.int IntKind.i64 a] 24)).alloc (Obj.cells #[Value.int IntKind.u8 0, Value.int IntKind.i64 0] 24)) (hb : Below (w.heap.size + 2) W0 wr) :
    (∀ o, (wr.alloc o).cell? ⟨w.heap.size, 0, none⟩ = some (.int .u8 b)) ∧ (∀ o, (wr.alloc o).cell? ⟨w.heap.size, 1, none⟩ = some (.int .i64 a)) ∧
    (∀ o, (wr.alloc o).cell? ⟨w.heap.size + 1, 0, none⟩ = some (.int .u8 0)) ∧ (∀ o, (wr.alloc o).cell? ⟨w.heap.size + 1, 1, none⟩ = some (.int .i64 0)) ∧
    (∀ o, (wr.alloc o).frozen? ⟨w.heap.size + 1, 0, none⟩ = false) ∧ (∀ o, (wr.alloc o).frozen? ⟨w.heap.size + 1, 1, none⟩ = false) := by
  have hz := (held2 h0 hb).2.2.2.2.2.2
  have h := fun o => held2 h0 (hb.alloc hz o)
  exact ⟨fun o => (h o).1, fun o => (h o).2.1, fun o => (h o).2.2.1, fun o => (h o).2.2.2.1, fun o => (h o).2.2.2.2.1, fun o => (h o).2.2.2.2.2.1⟩

theorem below2 {b a : Int} {w W0 : World} (h0 : W0 = (w.alloc (Obj.cells #[Value.int IntKind.u8 b, Value.int IntKind.i64 a] 24)).alloc (Obj.cells #[Value.int IntKind.u8 0, Value.int IntKind.i64 0] 24)) : Below w.heap.size w W0 := by
  subst h0
  exact ((Below.refl _ _).alloc (Nat.le_refl _) _).alloc (by simp) _

theorem opp_front (a r : Int) (w : World) (h1 : 1 ≤ a) (h2 : a ≤ 40) (h3 : -4 ≤ r) (h4 : r ≤ 4) (g1 : 1 ≤ a - r) (g2 : a - r ≤ 40) :
    Calls Tryd.prog 16 #[.agg #[.int .u8 0, .int .i64 a], .int .i64 r] w fun e w' => e = .returned (.tuple #[.agg #[.int .u8 1, .int .i64 (a - r)], .int .i64 0]) ∧ Below w.heap.size w w' := by
  go_enter Tryd.func16, Tryd.ntmps16
  go_wp2_with (first
    | (go_at_call 10; refine (check_ok _ _ _ (by omega) (by omega) (by omega)).mono ?_; rintro e w1 ⟨rfl, hb⟩; have hb1 := hb.mono (B' := w.heap.size + 2) (by simp); clear hb; obtain ⟨c0, c1, c2, c3, f2, f3, hz⟩ := held2 rfl hb1; obtain ⟨q0, q1, q2, q3, p2, p3⟩ := held2o rfl hb1; refine Hid.out ?_)
    | (go_at_call 19; refine (rack_ok _ _ (by omega) (by omega)).mono ?_; rintro e w' ⟨rfl, rfl⟩))
  refine Lib.hid ?_
  go_wp2_with (first
    | (go_at_call 10; refine (check_ok _ _ _ (by omega) (by omega) (by omega)).mono ?_; rintro e w2 ⟨rfl, hb⟩; have hz2 := hb.size; have hb2 := hb1.trans (((Below.refl _ _).alloc hz _).trans (hb.mono (by simp; omega))); obtain ⟨hc, hf⟩ := bcell hb; clear hb c0 c1 c2 c3 f2 f3 hz q0 q1 q2 q3 p2 p3; obtain ⟨c0, c1, c2, c3, f2, f3, hz⟩ := held2 rfl hb2)
    | (go_at_call 19; refine (rack_ok _ _ (by omega) (by omega)).mono ?_; rintro e w' ⟨rfl, rfl⟩))
  exact bodyPost_ret (v := .tuple #[.agg #[.int .u8 1, .int .i64 (a - r)], .int .i64 0]) (by simp [results, Tryd.results16, go_sem, c2, c3]) rfl
    ⟨rfl, (((below2 rfl).trans (hb2.mono (by omega))).setCell (Nat.le_succ _) _).setCell (Nat.le_succ _) _⟩

theorem opp_front_none (a r : Int) (w : World) (h1 : 1 ≤ a) (h2 : a ≤ 40) (h3 : -4 ≤ r) (h4 : r ≤ 4) (g : ¬ ((1 : Int) ≤ 1 ∧ 1 ≤ a - r ∧ a - r ≤ 40)) :
    Calls Tryd.prog 16 #[.agg #[.int .u8 0, .int .i64 a], .int .i64 r] w fun e w' => e = .returned (.tuple #[.agg #[.int .u8 0, .int .i64 0], .int .i64 11]) ∧ Below w.heap.size w w' := by
  have HG := Lib.hid g
  clear g
  go_enter Tryd.func16, Tryd.ntmps16
  go_wp2_with (first
    | (go_at_call 10; refine (check_ok _ _ _ (by omega) (by omega) (by omega)).mono ?_; rintro e w1 ⟨rfl, hb⟩; have hb1 := hb.mono (B' := w.heap.size + 2) (by simp); clear hb; obtain ⟨c0, c1, c2, c3, f2, f3, hz⟩ := held2 rfl hb1; obtain ⟨q0, q1, q2, q3, p2, p3⟩ := held2o rfl hb1; refine Hid.out ?_)
    | (go_at_call 19; refine (rack_ok _ _ (by omega) (by omega)).mono ?_; rintro e w' ⟨rfl, rfl⟩))
  refine Lib.hid ?_
  go_wp2_with (first
    | (go_at_call 10; refine (check_bad _ _ _ HG.out).mono ?_; rintro e w2 ⟨rfl, hb⟩; have hz2 := hb.size; have hb2 := hb1.trans (((Below.refl _ _).alloc hz _).trans (hb.mono (by simp; omega))); obtain ⟨hc, hf⟩ := bcell hb; clear hb c0 c1 c2 c3 f2 f3 hz q0 q1 q2 q3 p2 p3; obtain ⟨c0, c1, c2, c3, f2, f3, hz⟩ := held2 rfl hb2)
    | (go_at_call 19; refine (rack_ok _ _ (by omega) (by omega)).mono ?_; rintro e w' ⟨rfl, rfl⟩))
  exact bodyPost_ret (v := .tuple #[.agg #[.int .u8 0, .int .i64 0], .int .i64 11]) (by simp [results, Tryd.results16, go_sem, c2, c3]) rfl
    ⟨rfl, (((below2 rfl).trans (hb2.mono (by omega))).setCell (Nat.le_succ _) _).setCell (Nat.le_succ _) _⟩

theorem opp_back (a r : Int) (w : World) (h1 : 1 ≤ a) (h2 : a ≤ 40) (h3 : -4 ≤ r) (h4 : r ≤ 4) (g1 : 1 ≤ a + r) (g2 : a + r ≤ 40) :
    Calls Tryd.prog 16 #[.agg #[.int .u8 1, .int .i64 a], .int .i64 r] w fun e w' => e = .returned (.tuple #[.agg #[.int .u8 0, .int .i64 (a + r)], .int .i64 0]) ∧ Below w.heap.size w w' := by
  go_enter Tryd.func16, Tryd.ntmps16
  go_wp2_with (first
    | (go_at_call 10; refine (check_ok _ _ _ (by omega) (by omega) (by omega)).mono ?_; rintro e w1 ⟨rfl, hb⟩; have hb1 := hb.mono (B' := w.heap.size + 2) (by simp); clear hb; obtain ⟨c0, c1, c2, c3, f2, f3, hz⟩ := held2 rfl hb1; obtain ⟨q0, q1, q2, q3, p2, p3⟩ := held2o rfl hb1; refine Hid.out ?_)
    | (go_at_call 19; refine (rack_ok _ _ (by omega) (by omega)).mono ?_; rintro e w' ⟨rfl, rfl⟩))
  refine Lib.hid ?_
  go_wp2_with (first
    | (go_at_call 10; refine (check_ok _ _ _ (by omega) (by omega) (by omega)).mono ?_; rintro e w2 ⟨rfl, hb⟩; have hz2 := hb.size; have hb2 := hb1.trans (((Below.refl _ _).alloc hz _).trans (hb.mono (by simp; omega))); obtain ⟨hc, hf⟩ := bcell hb; clear hb c0 c1 c2 c3 f2 f3 hz q0 q1 q2 q3 p2 p3; obtain ⟨c0, c1, c2, c3, f2, f3, hz⟩ := held2 rfl hb2)
    | (go_at_call 19; refine (rack_ok _ _ (by omega) (by omega)).mono ?_; rintro e w' ⟨rfl, rfl⟩))
  exact bodyPost_ret (v := .tuple #[.agg #[.int .u8 0, .int .i64 (a + r)], .int .i64 0]) (by simp [results, Tryd.results16, go_sem, c2, c3]) rfl
    ⟨rfl, (((below2 rfl).trans (hb2.mono (by omega))).setCell (Nat.le_succ _) _).setCell (Nat.le_succ _) _⟩

theorem opp_back_none (a r : Int) (w : World) (h1 : 1 ≤ a) (h2 : a ≤ 40) (h3 : -4 ≤ r) (h4 : r ≤ 4) (g : ¬ ((0 : Int) ≤ 1 ∧ 1 ≤ a + r ∧ a + r ≤ 40)) :
    Calls Tryd.prog 16 #[.agg #[.int .u8 1, .int .i64 a], .int .i64 r] w fun e w' => e = .returned (.tuple #[.agg #[.int .u8 0, .int .i64 0], .int .i64 11]) ∧ Below w.heap.size w w' := by
  have HG := Lib.hid g
  clear g
  go_enter Tryd.func16, Tryd.ntmps16
  go_wp2_with (first
    | (go_at_call 10; refine (check_ok _ _ _ (by omega) (by omega) (by omega)).mono ?_; rintro e w1 ⟨rfl, hb⟩; have hb1 := hb.mono (B' := w.heap.size + 2) (by simp); clear hb; obtain ⟨c0, c1, c2, c3, f2, f3, hz⟩ := held2 rfl hb1; obtain ⟨q0, q1, q2, q3, p2, p3⟩ := held2o rfl hb1; refine Hid.out ?_)
    | (go_at_call 19; refine (rack_ok _ _ (by omega) (by omega)).mono ?_; rintro e w' ⟨rfl, rfl⟩))
  refine Lib.hid ?_
  go_wp2_with (first
    | (go_at_call 10; refine (check_bad _ _ _ HG.out).mono ?_; rintro e w2 ⟨rfl, hb⟩; have hz2 := hb.size; have hb2 := hb1.trans (((Below.refl _ _).alloc hz _).trans (hb.mono (by simp; omega))); obtain ⟨hc, hf⟩ := bcell hb; clear hb c0 c1 c2 c3 f2 f3 hz q0 q1 q2 q3 p2 p3; obtain ⟨c0, c1, c2, c3, f2, f3, hz⟩ := held2 rfl hb2)
    | (go_at_call 19; refine (rack_ok _ _ (by omega) (by omega)).mono ?_; rintro e w' ⟨rfl, rfl⟩))
  exact bodyPost_ret (v := .tuple #[.agg #[.int .u8 0, .int .i64 0], .int .i64 11]) (by simp [results, Tryd.results16, go_sem, c2, c3]) rfl
    ⟨rfl, (((below2 rfl).trans (hb2.mono (by omega))).setCell (Nat.le_succ _) _).setCell (Nat.le_succ _) _⟩

end Go.Proofs.YthdmpoiecmbinaaDoor
