/-
  Proved: the law StacksSet returns true for every list of pairs of bytes (the beds), every needle and every list of names (Set replaces the loops of one needle, and nothing else; its errors are those of the definition), and leaves its arguments as they were. No conditions.
-/
import Derived.Test.YtlhgigmpebgjbaaLawSet
import Derived.Test.YtlhgigmpebgjbaaOpenS
namespace Go.Proofs.Ytlhgigmpebgjbaa
open Go.ChangeShapes Go.WideShapes Go.ChangeAt Go.RowKit Go.Deep Go.Joins

set_option maxRecDepth 100000 in
theorem stacksSet_lifted (os : Os) (started : os.Started) (H : Type) (enc : TypeId × Value → H) :
    ReturnsInHanded {} Try.checked os 4 .any (Rows.stacksSetSpec.pre6 enc Try.prog Try.f4 Rows.stacksSetRow.domain false) (Rows.stacksSetSpec.post enc Try.prog Try.f4 false true false false) := by
  refine returnsInHanded_of_change (C := Try.checked) Try.own' started (by kernel_rfl) Try.func4
    (ChangeSpec.witness6 (enc := enc) (C := Try.checked) false ⟨#[], #[.slice none 0 0, .agg #[.int .u8 0, .int .i64 0], .slice none 0 0], []⟩ 8 (by kernel_rfl) (by kernel_rfl) (by kernel_rfl) (by kernel_rfl)) ?_
  intro W base args ds gs before hval0 hW hcnd _
  have hval : ∀ (j : Nat) t v, Try.f4.params[j]? = some t → args[j]? = some v → Value.okWide Try.prog W .any base t v := hval0
  have hW' := hW
  obtain ⟨p, q, hA0, hV, rfl, hfz, hnd⟩ := hW
  have hA : DataW.TrodAll enc Try.prog W 0 (fun _ => true) true Try.f4.params.toList args.toList ds p := hA0
  rw [Try.params4] at hA hval
  obtain ⟨v0, v1, v2, d0, d1, d2, p0, p1, p2, rfl, rfl, rfl, h0, h1, h2⟩ := trodAll_three hA
  obtain ⟨rfl, rfl⟩ := trodVars_none hV
  have k0 := h0
  have k1 := h1
  have k2 := h2
  obtain ⟨ao, n0, cap, xs, rfl, rfl, hl⟩ := open_puts_arg (hval 0 23 v0 rfl rfl) h0
  obtain ⟨nb, na, rfl, hnb, hna⟩ := open_ndl_arg (hval 1 26 v1 rfl rfl) h1
  obtain ⟨lo, ln, lc, ls, rfl, rfl, hwf, hll⟩ := open_ids_arg (hval 2 29 v2 rfl rfl) h2
  clear hA0 hval0 h0 h1 h2
  simp only [List.append_nil, List.append_assoc] at hW'
  have lt0 : ∀ x ∈ p0, x.block < W.heap.size := fun x hx => by simpa using hW'.lt x (by simp [hx])
  have lt1 : ∀ x ∈ p1, x.block < W.heap.size := fun x hx => by simpa using hW'.lt x (by simp [hx])
  have lt2 : ∀ x ∈ p2, x.block < W.heap.size := fun x hx => by simpa using hW'.lt x (by simp [hx])
  have key : Calls Try.prog 4 #[.slice ao xs.length cap, .agg #[.int .u8 nb, .int .i64 na], .slice lo ls.length lc] W fun e w' => e = .returned (.bool true) ∧ Below W.heap.size W w' := set_law ao xs cap nb na hnb hna lo ls lc hwf W hll hl
  refine key.mono fun e W' ⟨he, hb⟩ => ?_
  subst he
  refine ⟨_, rfl, _, _, _, [], p0 ++ (p1 ++ p2), [], hW', ?_, ?_, rfl, hb.frame _, fun h => by cases h⟩
  · exact trodAll_mk1 (shut_bool Try.underlying4 _)
  · exact trodAll_mk3 (Below.trod Try.laidOut' (by kernel_rfl) (of_decide_eq_true (by kernel_rfl)) k0 hb lt0) (Below.trod Try.laidOut' (by kernel_rfl) (of_decide_eq_true (by kernel_rfl)) k1 hb lt1) (Below.trod Try.laidOut' (by kernel_rfl) (of_decide_eq_true (by kernel_rfl)) k2 hb lt2)

theorem stacksSet_holds : Rows.StacksSetSaid :=
  OpenClaim.holds_of_wide 4 Try.f4 rfl rfl rfl rfl rfl rfl rfl ⟨rfl, rfl, rfl, rfl, rfl⟩ rfl rfl rfl rfl rfl (by kernel_rfl) Try.func4 (by kernel_rfl)
    (of_decide_eq_true (by kernel_rfl)) (by unfold Func.isWrapper; first | (rw [if_pos (by decide +kernel)]; kernel_rfl) | (rw [if_neg (by decide +kernel)]; exact ⟨rfl, rfl⟩))
    (fun os started H enc _ => stacksSet_lifted os started H enc)

end Go.Proofs.Ytlhgigmpebgjbaa
