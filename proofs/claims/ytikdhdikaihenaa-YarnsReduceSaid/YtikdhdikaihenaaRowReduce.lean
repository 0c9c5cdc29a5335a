/-
  Proved: the law YarnsReduce returns true for every list of bytes and every list of passes (Reduce gives the one list that is left when passes that cancel are taken away, whichever are taken first; in it none cancel; the argument is not changed), and leaves its arguments as they were. No conditions.
-/
import Derived.Test.YtikdhdikaihenaaOpen
import Derived.Test.YtikdhdikaihenaaLives
namespace Go.Proofs.Ytikdhdikaihenaa
open Go.ChangeShapes Go.WideShapes Go.ChangeAt Go.RowKit Go.Deep

theorem reduce_long (HLV : LivesSaid) (ao1 ao2 : Option Addr) (n1 cap1 n2 cap2 : Nat) (w : World) (h : 40 < n1 ∨ (n1 ≤ 40 ∧ 5 < n2)) :
    Calls Try.prog 3 #[.slice ao1 n1 cap1, .slice ao2 n2 cap2] w fun e w' => e = .returned (.bool true) ∧ Below w.heap.size w w' := by
  rcases h with h | ⟨h, h'⟩
  · have g1 : (40 : Int) < n1 := by omega
    go_enter Try.func3, Try.ntmps3
    go_wp2_with (go_at_call 9; refine (HLV _).mono ?_; rintro e w8 ⟨rfl, hb⟩)
    go_ret
    exact ⟨rfl, hb⟩
  · have g1 : ¬ ((40 : Int) < n1) := by omega
    have g2 : (5 : Int) < n2 := by omega
    go_enter Try.func3, Try.ntmps3
    go_wp2_with (go_at_call 9; refine (HLV _).mono ?_; rintro e w8 ⟨rfl, hb⟩)
    go_ret
    exact ⟨rfl, hb⟩

set_option maxRecDepth 100000 in
theorem yarnsReduce_lifted (os : Os) (started : os.Started) (H : Type) (enc : TypeId × Value → H) :
    ReturnsInHanded {} Try.checked os 3 .any (Rows.yarnsReduceSpec.pre6 enc Try.prog Try.f3 Rows.yarnsReduceRow.domain false) (Rows.yarnsReduceSpec.post enc Try.prog Try.f3 false true false false) := by
  refine returnsInHanded_of_change (C := Try.checked) Try.own started (by kernel_rfl) Try.func3
    (ChangeSpec.witness6 (enc := enc) (C := Try.checked) false ⟨#[], #[.slice none 0 0, .slice none 0 0], []⟩ 8 (by kernel_rfl) (by kernel_rfl) (by kernel_rfl) (by kernel_rfl)) ?_
  intro W base args ds gs before hval0 hW hcnd _
  have hval : ∀ (j : Nat) t v, Try.f3.params[j]? = some t → args[j]? = some v → Value.okWide Try.prog W .any base t v := hval0
  have hW' := hW
  obtain ⟨p, q, hA0, hV, rfl, hfz, hnd⟩ := hW
  have hA : DataW.TrodAll enc Try.prog W 0 (fun _ => true) true Try.f3.params.toList args.toList ds p := hA0
  rw [Try.params3] at hA hval
  obtain ⟨v0, v1, d0, d1, p0, p1, rfl, rfl, rfl, h0, h1⟩ := trodAll_two hA
  obtain ⟨rfl, rfl⟩ := trodVars_none hV
  have k0 := h0
  have k1 := h1
  obtain ⟨ao0, n0, cap0, xs0, rfl, hn0, hl0, hx0⟩ := open_bytes_arg (hval 0 22 v0 rfl rfl) h0
  obtain ⟨ao1, n1, cap1, ps1, rfl, hn1, hm1, hl1, hp1, hd1⟩ := open_passes_arg (hval 1 23 v1 rfl rfl) h1
  clear hA0 hval0 h0 h1
  simp only [List.append_nil] at hW'
  have lt0 : ∀ x ∈ p0, x.block < W.heap.size := fun x hx => by simpa using hW'.lt x (by simp [hx])
  have lt1 : ∀ x ∈ p1, x.block < W.heap.size := fun x hx => by simpa using hW'.lt x (by simp [hx])
  have key : Calls Try.prog 3 #[.slice ao0 n0 cap0, .slice ao1 n1 cap1] W fun e w' => e = .returned (.bool true) ∧ Below W.heap.size W w' := by
    by_cases g0 : n0 ≤ 40
    · by_cases g1 : n1 ≤ 5
      · exact reduce_core lives_any _ _ xs0 ps1 _ _ _ _ W hn0 hn1 g0 g1 hl0 hl1 hx0 hp1
      · exact reduce_long lives_any _ _ _ _ _ _ W (.inr ⟨g0, by omega⟩)
    · exact reduce_long lives_any _ _ _ _ _ _ W (.inl (by omega))
  refine key.mono fun e W' ⟨he, hb⟩ => ?_
  subst he
  refine ⟨_, rfl, _, _, _, [], p0 ++ p1, [], hW', ?_, ?_, rfl, hb.frame _, fun h => by cases h⟩
  · exact trodAll_mk1 (shut_bool Try.underlying4 _)
  · exact trodAll_mk2 (Below.trod Try.laidOut (by kernel_rfl) (of_decide_eq_true (by kernel_rfl)) k0 hb lt0) (Below.trod Try.laidOut (by kernel_rfl) (of_decide_eq_true (by kernel_rfl)) k1 hb lt1)

theorem yarnsReduce_holds : Rows.YarnsReduceSaid :=
  OpenClaim.holds_of_wide 3 Try.f3 rfl rfl rfl rfl rfl rfl rfl ⟨rfl, rfl, rfl, rfl, rfl⟩ rfl rfl rfl rfl rfl (by kernel_rfl) Try.func3 (by kernel_rfl)
    (of_decide_eq_true (by kernel_rfl)) (by unfold Func.isWrapper; first | (rw [if_pos (by decide +kernel)]; kernel_rfl) | (rw [if_neg (by decide +kernel)]; exact ⟨rfl, rfl⟩))
    (fun os started H enc _ => yarnsReduce_lifted os started H enc)

end Go.Proofs.Ytikdhdikaihenaa
