/-
  Proved: the law YarnsInverse returns true for every two lists of bytes and every list of passes (behind its inverse every list reduces to nothing; parts of a list may be reduced first; Inverse is what the definition says, for passes that are not valid, too), and leaves its arguments as they were. No conditions.
-/
import Derived.Test.YtikdhdikaihenaaOpen
import Derived.Test.YtikdhdikaihenaaLives
import Derived.Test.YtikdhdikaihenaaLawInverse
namespace Go.Proofs.Ytikdhdikaihenaa
open Go.ChangeShapes Go.WideShapes Go.ChangeAt Go.RowKit Go.Deep

theorem inverse_long (HLV : LivesSaid) (ao1 ao2 ao3 : Option Addr) (n1 cap1 n2 cap2 n3 cap3 : Nat) (w : World) (h : 20 < n1 ∨ (n1 ≤ 20 ∧ 20 < n2) ∨ (n1 ≤ 20 ∧ n2 ≤ 20 ∧ 20 < n3)) :
    Calls Try.prog 4 #[.slice ao1 n1 cap1, .slice ao2 n2 cap2, .slice ao3 n3 cap3] w fun e w' => e = .returned (.bool true) ∧ Below w.heap.size w w' := by
  rcases h with h | ⟨h, h'⟩ | ⟨h, h', h''⟩
  · have g1 : (20 : Int) < n1 := by omega
    go_enter Try.func4, Try.ntmps4
    go_wp2_with (go_at_call 9; refine (HLV _).mono ?_; rintro e w8 ⟨rfl, hb⟩)
    go_ret
    exact ⟨rfl, hb⟩
  · have g1 : ¬ ((20 : Int) < n1) := by omega
    have g2 : (20 : Int) < n2 := by omega
    go_enter Try.func4, Try.ntmps4
    go_wp2_with (go_at_call 9; refine (HLV _).mono ?_; rintro e w8 ⟨rfl, hb⟩)
    go_ret
    exact ⟨rfl, hb⟩
  · have g1 : ¬ ((20 : Int) < n1) := by omega
    have g2 : ¬ ((20 : Int) < n2) := by omega
    have g3 : (20 : Int) < n3 := by omega
    go_enter Try.func4, Try.ntmps4
    go_wp2_with (go_at_call 9; refine (HLV _).mono ?_; rintro e w8 ⟨rfl, hb⟩)
    go_ret
    exact ⟨rfl, hb⟩

set_option maxRecDepth 100000 in
theorem yarnsInverse_lifted (os : Os) (started : os.Started) (H : Type) (enc : TypeId × Value → H) :
    ReturnsInHanded {} Try.checked os 4 .any (Rows.yarnsInverseSpec.pre6 enc Try.prog Try.f4 Rows.yarnsInverseRow.domain false) (Rows.yarnsInverseSpec.post enc Try.prog Try.f4 false true false false) := by
  refine returnsInHanded_of_change (C := Try.checked) Try.own started (by kernel_rfl) Try.func4
    (ChangeSpec.witness6 (enc := enc) (C := Try.checked) false ⟨#[], #[.slice none 0 0, .slice none 0 0, .slice none 0 0], []⟩ 8 (by kernel_rfl) (by kernel_rfl) (by kernel_rfl) (by kernel_rfl)) ?_
  intro W base args ds gs before hval0 hW hcnd _
  have hval : ∀ (j : Nat) t v, Try.f4.params[j]? = some t → args[j]? = some v → Value.okWide Try.prog W .any base t v := hval0
  have hW' := hW
  obtain ⟨p, q, hA0, hV, rfl, hfz, hnd⟩ := hW
  have hA : DataW.TrodAll enc Try.prog W 0 (fun _ => true) true Try.f4.params.toList args.toList ds p := hA0
  rw [Try.params4] at hA hval
  obtain ⟨v0, vs0, d0, ds0, p0, q0, hargs, rfl, rfl, h0, r0⟩ := trodAll_cons hA
  obtain ⟨v1, vs1, d1, ds1, p1, q1, rfl, rfl, rfl, h1, r1⟩ := trodAll_cons r0
  obtain ⟨v2, vs2, d2, ds2, p2, q2, rfl, rfl, rfl, h2, r2⟩ := trodAll_cons r1
  obtain ⟨rfl, rfl, rfl⟩ := trodAll_nil r2
  obtain rfl : args = #[v0, v1, v2] := by cases args; simp_all
  obtain ⟨rfl, rfl⟩ := trodVars_none hV
  have k0 := h0
  have k1 := h1
  have k2 := h2
  obtain ⟨ao0, n0, cap0, xs0, rfl, hn0, hl0, hx0⟩ := open_bytes_arg (hval 0 22 v0 rfl rfl) h0
  obtain ⟨ao1, n1, cap1, xs1, rfl, hn1, hl1, hx1⟩ := open_bytes_arg (hval 1 22 v1 rfl rfl) h1
  obtain ⟨ao2, n2, cap2, ps2, rfl, hn2, hm2, hl2, hp2, hd2⟩ := open_passes_arg (hval 2 23 v2 rfl rfl) h2
  clear hA0 hval0 h0 h1 h2
  simp only [List.append_nil] at hW'
  have lt0 : ∀ x ∈ p0, x.block < W.heap.size := fun x hx => by simpa using hW'.lt x (by simp [hx])
  have lt1 : ∀ x ∈ p1, x.block < W.heap.size := fun x hx => by simpa using hW'.lt x (by simp [hx])
  have lt2 : ∀ x ∈ p2, x.block < W.heap.size := fun x hx => by simpa using hW'.lt x (by simp [hx])
  have key : Calls Try.prog 4 #[.slice ao0 n0 cap0, .slice ao1 n1 cap1, .slice ao2 n2 cap2] W fun e w' => e = .returned (.bool true) ∧ Below W.heap.size W w' := by
    by_cases g0 : n0 ≤ 20
    · by_cases g1 : n1 ≤ 20
      · by_cases g2 : n2 ≤ 20
        · exact inverse_core lives_any _ _ _ xs0 xs1 ps2 _ _ _ _ _ _ W hn0 hn1 hn2 g0 g1 g2 hl0 hl1 hl2 hx0 hx1
        · exact inverse_long lives_any _ _ _ _ _ _ _ _ _ W (.inr (.inr ⟨g0, g1, by omega⟩))
      · exact inverse_long lives_any _ _ _ _ _ _ _ _ _ W (.inr (.inl ⟨g0, by omega⟩))
    · exact inverse_long lives_any _ _ _ _ _ _ _ _ _ W (.inl (by omega))
  refine key.mono fun e W' ⟨he, hb⟩ => ?_
  subst he
  refine ⟨_, rfl, _, _, _, [], p0 ++ (p1 ++ p2), [], hW', ?_, ?_, rfl, hb.frame _, fun h => by cases h⟩
  · exact trodAll_mk1 (shut_bool Try.underlying4 _)
  · have t0 := Below.trod Try.laidOut (by kernel_rfl) (of_decide_eq_true (by kernel_rfl)) k0 hb lt0
    have t1 := Below.trod Try.laidOut (by kernel_rfl) (of_decide_eq_true (by kernel_rfl)) k1 hb lt1
    have t2 := Below.trod Try.laidOut (by kernel_rfl) (of_decide_eq_true (by kernel_rfl)) k2 hb lt2
    have := trodAll_cons_mk t0 (trodAll_cons_mk t1 (trodAll_cons_mk t2 trodAll_mk0))
    simp only [List.append_nil] at this
    exact this

theorem yarnsInverse_holds : Rows.YarnsInverseSaid :=
  OpenClaim.holds_of_wide 4 Try.f4 rfl rfl rfl rfl rfl rfl rfl ⟨rfl, rfl, rfl, rfl, rfl⟩ rfl rfl rfl rfl rfl (by kernel_rfl) Try.func4 (by kernel_rfl)
    (of_decide_eq_true (by kernel_rfl)) (by unfold Func.isWrapper; first | (rw [if_pos (by decide +kernel)]; kernel_rfl) | (rw [if_neg (by decide +kernel)]; exact ⟨rfl, rfl⟩))
    (fun os started H enc _ => yarnsInverse_lifted os started H enc)

end Go.Proofs.Ytikdhdikaihenaa
