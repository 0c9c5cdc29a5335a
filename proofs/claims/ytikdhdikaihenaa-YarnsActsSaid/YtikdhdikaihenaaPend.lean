import Derived.Test.YtikdhdikaihenaaLie
namespace Go.Proofs.Ytikdhdikaihenaa
open Go.RowKit Go.Sort

theorem Four.regrown {w : World} {b o : Nat} {y n : Int} {f : Bool} {d : Int} (h : Four w b o ⟨y, n, f, d⟩) :
    (∀ m os, (grow (redrawn w m) os).cell? ⟨b, o, none⟩ = some (.int .u8 y)) ∧ (∀ m os, (grow (redrawn w m) os).cell? ⟨b, o + 1, none⟩ = some (.int .i64 n)) ∧
    (∀ m os, (grow (redrawn w m) os).cell? ⟨b, o + 2, none⟩ = some (.bool f)) ∧ (∀ m os, (grow (redrawn w m) os).cell? ⟨b, o + 3, none⟩ = some (.int .u8 d)) :=
  ⟨fun m os => cell_regrown (d := m) (os := os) h.1, fun m os => cell_regrown (d := m) (os := os) h.2.1, fun m os => cell_regrown (d := m) (os := os) h.2.2.1, fun m os => cell_regrown (d := m) (os := os) h.2.2.2⟩

theorem cancel_regrown {y n : Int} {f : Bool} {d y' n' : Int} {f' : Bool} {d' : Int} {c : Bool} (hc : canc ⟨y, n, f, d⟩ ⟨y', n', f', d'⟩ = c) (w : World) :
    ∀ m os, Calls Try.prog 31 #[.agg #[.int .u8 y, .int .i64 n, .bool f, .int .u8 d], .agg #[.int .u8 y', .int .i64 n', .bool f', .int .u8 d']] (grow (redrawn w m) os) fun x w'' => x = .returned (.bool c) ∧ ∃ p : Regrown, w'' = grow (redrawn w p.d) p.os :=
  fun m os => by subst hc; exact Calls.regrown_of (cancel_any _ _ _ _ _ _ _ _ _)

theorem wrap_nat (j : Nat) (h : j ≤ 9223372036854775807) : IntKind.i64.wrap (j : Int) = j := by
  rw [IntKind.wrap_i64]; omega

theorem red_upto {ps : List Ps} {j : Nat} (h : ∀ i, i < j → canc (ps.getD i Ps.nil) (ps.getD (i + 1) Ps.nil) = false) (h1 : canc (ps.getD j Ps.nil) (ps.getD (j + 1) Ps.nil) = false) :
    ∀ i, i < j + 1 → canc (ps.getD i Ps.nil) (ps.getD (i + 1) Ps.nil) = false := fun i hi => by
  by_cases e : i = j
  · subst e; exact h1
  · exact h i (by omega)
theorem red_iff {ps : List Ps} : Red ps ↔ ∀ i, i + 1 < ps.length → canc (ps.getD i Ps.nil) (ps.getD (i + 1) Ps.nil) = false := by
  constructor
  · intro h i hi
    exact h i _ _ (by simp [List.getD, List.getElem?_eq_getElem (show i < ps.length by omega)]) (by simp [List.getD, List.getElem?_eq_getElem hi])
  · intro h i a b ha hb
    have := h i (List.getElem?_eq_some_iff.1 hb).1
    simpa [List.getD, ha, hb] using this

set_option maxHeartbeats 1000000 in
theorem isPending_any (ao : Option Addr) (ps : List Ps) (n cap : Nat) (w : World) (hn : n = ps.length) (hm : n ≤ 9223372036854775807) (h : Lie w ao ps) :
    Calls Try.prog 30 #[.slice ao n cap] w fun e w' => IsB e (ps.length ≤ 4096 ∧ (∀ p ∈ ps, Good p) ∧ Red ps) ∧ Below w.heap.size w w' := by
  have HN := Lib.hid hn
  have HL := Lib.hid h
  have KA : ∀ w, Lie w ao ps → Calls Try.prog 29 #[.slice ao n cap] w fun e w' => IsB e (∀ p ∈ ps, Good p) ∧ Below w.heap.size w w' := fun w h => arePasses_any ao ps n cap w hn hm h
  have HA := Lib.hid KA
  clear hn h KA
  by_cases h4 : n ≤ 4096
  · have hd : decide (4096 < (n : Int)) = false := by simp; omega
    go_enter Try.func30, Try.ntmps30
    go_wp2_with (go_at_call 29; refine (HA.out _ HL.out).mono ?_; rintro e w1 ⟨⟨r, rfl, hr⟩, hb1⟩; refine Hid.out ?_)
    have HR := Lib.hid hr
    clear hr
    have hz1 := hb1.size
    cases r
    · refine Lib.hid ?_
      go_wp2
      go_ret
      refine ⟨isB_no fun h => ?_, hb1⟩
      have := HR.out.2 h.2.1
      cases this
    have HGD : Hid (∀ p ∈ ps, Good p) := HR.out.1 rfl
    clear HR
    refine Lib.hid ?_
    go_wp2_with fail
    go_loopg [3] (n + 2) (fun g i wr => ∃ j : Nat, j ≤ n ∧ g = n + 2 - j ∧ i = .int .i64 (j + 1) ∧ (∀ i, i < j → canc (ps.getD i Ps.nil) (ps.getD (i + 1) Ps.nil) = false) ∧ Below w.heap.size w wr)
    case atStart => exact ⟨0, by omega, rfl, rfl, fun i hi => absurd hi (by omega), hb1⟩
    case round =>
      obtain ⟨j, hj, hg, rfl, hgs, hb⟩ := hrel
      have HM := Lib.hid hg
      have HGS := Lib.hid hgs
      clear hg hgs
      have hsz := hb.size
      by_cases hlt : j + 1 < n
      · have hl2 := HL.out.below hb
        obtain ⟨b, o, rfl, hbb, hf⟩ := Lie.at hl2 (i := j) (by rw [← HN.out]; omega)
        obtain ⟨b', o', hbo, _, hf'⟩ := Lie.at hl2 (i := j + 1) (by rw [← HN.out]; omega)
        obtain ⟨rfl, rfl⟩ : b = b' ∧ o = o' := by simpa using hbo
        clear hl2 hbo
        obtain ⟨p, hp⟩ : ∃ p, p = ps.getD j Ps.nil := ⟨_, rfl⟩
        obtain ⟨q, hq⟩ : ∃ q, q = ps.getD (j + 1) Ps.nil := ⟨_, rfl⟩
        rw [← hp] at hf
        rw [← hq] at hf'
        obtain ⟨c, hc⟩ : ∃ c, canc p q = c := ⟨_, rfl⟩
        have HP := Lib.hid hp
        have HQ := Lib.hid hq
        clear hp hq
        obtain ⟨y, m, f, d⟩ := p
        obtain ⟨y', m', f', d'⟩ := q
        obtain ⟨c0, c1, c2, c3⟩ := hf.regrown
        obtain ⟨c4, c5, c6, c7⟩ := hf'.regrown
        have K1 := Lib.hid (cancel_regrown hc wr)
        have HC := Lib.hid hc
        have e1 := wrap_nat j (by omega)
        have b1 : (j : Int) < n := by omega
        have b2 : (j : Int) + 1 < n := by omega
        have b0 : (0 : Int) ≤ (j : Int) := by omega
        have b3 : (0 : Int) ≤ (j : Int) + 1 := by omega
        have t1 : ((j : Int) + 1).toNat = j + 1 := by omega
        clear hf hf' hc
        go_wp2_with fail
        refine wp_region_quiet_below (by kernel_rfl) (by kernel_rfl) ?_
        repeat (quiet_step (exact K1.out _ _))
        rintro w2 ⟨⟨dq, osq⟩, rfl⟩
        have hb2 : Below w.heap.size w (grow (redrawn wr dq) osq) := hb.trans ((below_regrown wr dq osq).mono hsz)
        obtain ⟨V, hV⟩ : ∃ V : World, V = grow (redrawn wr dq) osq := ⟨_, rfl⟩
        rw [← hV] at hb2 ⊢
        clear hV c0 c1 c2 c3 c4 c5 c6 c7 K1
        have HCP : Hid (canc (ps.getD j Ps.nil) (ps.getD (j + 1) Ps.nil) = c) := by rw [← HP.out, ← HQ.out]; exact HC.out
        clear HC HP HQ
        cases c
        · go_wp2_with fail
          go_roundg (gk - 1)
          case measure => have := HM.out; omega
          case rel => exact ⟨j + 1, by omega, by have := HM.out; omega, by go_num, red_upto HGS.out HCP.out, hb2⟩
        · go_wp2
          go_ret
          refine ⟨isB_no fun h => ?_, hb2⟩
          have := red_iff.1 h.2.2 j (by rw [← HN.out]; exact hlt)
          rw [HCP.out] at this
          cases this
      · have e0 : ¬ ((j : Int) + 1 < n) := by omega
        go_wp2
        go_ret
        exact ⟨isB_yes ⟨by rw [← HN.out]; exact h4, HGD.out, red_iff.2 fun i hi => HGS.out i (by rw [← HN.out] at hi; omega)⟩, hb⟩
  · have h4' : 4096 < n := by omega
    go_enter Try.func30, Try.ntmps30
    go_wp2
    go_ret
    refine ⟨isB_no fun h => ?_, Below.refl _ _⟩
    have := h.1
    rw [← HN.out] at this
    omega

end Go.Proofs.Ytikdhdikaihenaa
