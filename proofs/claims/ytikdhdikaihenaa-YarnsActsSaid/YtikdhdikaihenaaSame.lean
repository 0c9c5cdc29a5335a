import Derived.Test.YtikdhdikaihenaaBehind
namespace Go.Proofs.Ytikdhdikaihenaa
open Go.RowKit Go.Sort

theorem reduce_any (ao : Option Addr) (ps : List Ps) (n cap : Nat) (w : World) (hn : n = ps.length) (hm : 24 * n ≤ 281474976710656) (h : Lie w ao ps) :
    Calls Try.prog 11 #[.slice ao n cap] w fun e w' => Made w.heap.size w w' e (red ps) := by
  have K := Lib.hid (behind_any none ao [] ps 0 n 0 cap w rfl hn (by omega) (Lie.nil _ _) h)
  clear hn h
  go_enter Try.func11, Try.ntmps11
  go_wp2_with (go_at_call 23; refine K.out.mono ?_; rintro e w3 ⟨bo, rfl, ho, hb3⟩; refine Hid.out ?_)
  have HO := Lib.hid ho
  clear ho
  refine Lib.hid ?_
  go_wp2_with fail
  go_ret
  exact ⟨bo, rfl, HO.out, hb3⟩

set_option maxHeartbeats 1000000 in
theorem same_yes (ao1 ao2 : Option Addr) (ps : List Ps) (n cap : Nat) (w : World) (hn : n = ps.length) (hm : n ≤ 4611686018427387904) (h1 : Lie w ao1 ps) (h2 : Lie w ao2 ps) :
    Calls Try.prog 13 #[.slice ao1 n n, .slice ao2 n cap] w fun e w' => e = .returned (.int .i64 1) ∧ Below w.heap.size w w' := by
  have HN := Lib.hid hn
  have HL1 := Lib.hid h1
  have HL2 := Lib.hid h2
  clear hn h1 h2
  go_enter Try.func13, Try.ntmps13
  go_wp2_with fail
  go_loopg [5] (n + 1) (fun g i wr => ∃ k : Nat, k ≤ n ∧ g = n + 1 - k ∧ i = .int .i64 k ∧ Below w.heap.size w wr)
  case atStart => exact ⟨0, by omega, rfl, rfl, Below.refl _ _⟩
  case round =>
    obtain ⟨k, hk, hg, rfl, hb⟩ := hrel
    have HM := Lib.hid hg
    clear hg
    have hsz := hb.size
    by_cases hlt : k < n
    · obtain ⟨b, o, rfl, hbb, hf⟩ := Lie.at (HL1.out.below hb) (i := k) (by rw [← HN.out]; exact hlt)
      obtain ⟨b', o', rfl, hbb', hf'⟩ := Lie.at (HL2.out.below hb) (i := k) (by rw [← HN.out]; exact hlt)
      obtain ⟨p, hp⟩ : ∃ p, p = ps.getD k Ps.nil := ⟨_, rfl⟩
      rw [← hp] at hf hf'
      clear hp
      obtain ⟨y, m, f, d⟩ := p
      obtain ⟨c0, c1, c2, c3⟩ := hf.regrown
      obtain ⟨c4, c5, c6, c7⟩ := hf'.regrown
      have b1 : (k : Int) < n := by omega
      have b0 : (0 : Int) ≤ (k : Int) := by omega
      clear hf hf'
      go_wp2_with fail
      refine wp_region_quiet_below (by kernel_rfl) (by kernel_rfl) ?_
      repeat (quiet_step (fail))
      rintro w2 ⟨⟨dq, osq⟩, rfl⟩
      have hb2 : Below w.heap.size w (grow (redrawn wr dq) osq) := hb.trans ((below_regrown wr dq osq).mono hsz)
      obtain ⟨V, hV⟩ : ∃ V : World, V = grow (redrawn wr dq) osq := ⟨_, rfl⟩
      rw [← hV] at hb2 ⊢
      clear hV c0 c1 c2 c3 c4 c5 c6 c7
      go_wp2
      go_roundg (gk - 1)
      case measure => have := HM.out; omega
      case rel => exact ⟨k + 1, by omega, by have := HM.out; omega, by go_num, hb2⟩
    · obtain rfl : k = n := by omega
      go_wp2
      go_ret
      exact ⟨rfl, hb⟩

end Go.Proofs.Ytikdhdikaihenaa
