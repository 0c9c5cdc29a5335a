/-
  Proved: the law YarnsLimits returns true for every byte and every pass (at most 4096 passes may be pending; passes that are not valid are refused), and leaves its arguments as they were. No conditions.
-/
import Derived.Test.YtikdhdikaihenaaOpen
import Derived.Test.YtikdhdikaihenaaLawLimits2
import Derived.Lib.SmallJoins
namespace Go.Proofs.Ytikdhdikaihenaa
open Go.ChangeShapes Go.WideShapes Go.ChangeAt Go.RowKit Go.Deep Go.Joins

theorem open_pass_arg {H : Type} {enc : TypeId × Value → H} {W : World} {v : Value} {d : DataW H} {p : List MemPlace} {w' : World} {r : _} {b : Nat} {spare : Nat → Bool} {held : Bool} (hv : Value.okWide Try.prog w' r b 33 v) (h : DataW.Trod enc Try.prog W 0 spare held 33 v d p) :
    ∃ q : Ps, v = .agg #[.int .u8 q.y, .int .i64 q.n, .bool q.f, .int .u8 q.d] ∧ (0 ≤ q.d ∧ q.d ≤ 255) ∧ (0 ≤ q.y ∧ q.y ≤ 255) := by
  obtain ⟨cs, rfl, hl⟩ := okWide_struct Try.underlying33 hv
  obtain ⟨fuel, hf⟩ := h
  obtain ⟨q, hq, h1, h2⟩ := open_pass_cells hf
  refine ⟨q, ?_, h1, h2⟩
  obtain ⟨l⟩ := cs
  simp [Value.cells] at hq
  rw [hq]

set_option maxRecDepth 100000 in
theorem yarnsLimits_lifted (os : Os) (started : os.Started) (H : Type) (enc : TypeId × Value → H) :
    ReturnsInHanded {} Try.checked os 8 .any (Rows.yarnsLimitsSpec.pre6 enc Try.prog Try.f8 Rows.yarnsLimitsRow.domain false) (Rows.yarnsLimitsSpec.post enc Try.prog Try.f8 false true false false) := by
  refine returnsInHanded_of_change (C := Try.checked) Try.own started (by kernel_rfl) Try.func8
    (ChangeSpec.witness6 (enc := enc) (C := Try.checked) false ⟨#[], #[.int .u8 0, .agg #[.int .u8 0, .int .i64 0, .bool false, .int .u8 0]], []⟩ 8 (by kernel_rfl) (by kernel_rfl) (by kernel_rfl) (by kernel_rfl)) ?_
  intro W base args ds gs before hval0 hW hcnd _
  have hval : ∀ (j : Nat) t v, Try.f8.params[j]? = some t → args[j]? = some v → Value.okWide Try.prog W .any base t v := hval0
  have hW' := hW
  obtain ⟨p, q, hA0, hV, rfl, hfz, hnd⟩ := hW
  have hA : DataW.TrodAll enc Try.prog W 0 (fun _ => true) true Try.f8.params.toList args.toList ds p := hA0
  rw [Try.params8] at hA hval
  obtain ⟨v0, v1, d0, d1, p0, p1, rfl, rfl, rfl, h0, h1⟩ := trodAll_two hA
  obtain ⟨rfl, rfl⟩ := trodVars_none hV
  have k0 := h0
  have k1 := h1
  obtain ⟨x, rfl, rfl, rfl, wx⟩ := open_int Try.underlying5 (hval 0 5 v0 rfl rfl) h0
  obtain ⟨q, rfl, hd, -⟩ := open_pass_arg (hval 1 33 v1 rfl rfl) h1
  clear hA0 hval0 h0 h1
  simp only [List.append_nil] at hW'
  have lt1 : ∀ z ∈ p1, z.block < W.heap.size := fun z hz => by simpa using hW'.lt z (by simp [hz])
  have key := limits_core x q.y q.n q.f q.d W (byte_bounds wx).1 (byte_bounds wx).2 hd.1
  refine key.mono fun e W' ⟨he, hb⟩ => ?_
  subst he
  refine ⟨_, rfl, _, _, _, [], [] ++ p1, [], hW', ?_, ?_, rfl, hb.frame _, fun h => by cases h⟩
  · exact trodAll_mk1 (shut_bool Try.underlying4 _)
  · exact trodAll_mk2 (shut_int Try.underlying5 wx) (Below.trod Try.laidOut (by kernel_rfl) (of_decide_eq_true (by kernel_rfl)) k1 hb lt1)

theorem yarnsLimits_holds : Rows.YarnsLimitsSaid :=
  OpenClaim.holds_of_wide 8 Try.f8 rfl rfl rfl rfl rfl rfl rfl ⟨rfl, rfl, rfl, rfl, rfl⟩ rfl rfl rfl rfl rfl (by kernel_rfl) Try.func8 (by kernel_rfl)
    (of_decide_eq_true (by kernel_rfl)) (by unfold Func.isWrapper; first | (rw [if_pos (by decide +kernel)]; kernel_rfl) | (rw [if_neg (by decide +kernel)]; exact ⟨rfl, rfl⟩))
    (fun os started H enc _ => yarnsLimits_lifted os started H enc)

end Go.Proofs.Ytikdhdikaihenaa
