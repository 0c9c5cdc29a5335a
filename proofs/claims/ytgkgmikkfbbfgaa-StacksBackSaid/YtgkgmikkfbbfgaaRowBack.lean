/-
  Proved: the law StacksBack returns true for every two pairs of bytes (needles that are joined to the other bed and back hold what they should; the errors are those of the document), and leaves its arguments as they were. No conditions.
-/
import Derived.Test.YtgkgmikkfbbfgaaBackB
import Derived.ProofKit
import Derived.Deep.Slices
import Derived.Deep.Strs
import Derived.OpenShut
import Derived.Lib.SmallJoins
import Derived.Test.YtgkgmikkfbbfgaaRows
namespace Go.Proofs.Ytgkgmikkfbbfgaa
open Go.ChangeShapes Go.WideShapes Go.ChangeAt Go.RowKit Go.Deep Go.Joins

theorem Try.own : ownKnob Try.prog.godebug = none := by kernel_rfl
theorem Try.laidOut : laidOutB Try.prog = true := by kernel_rfl
theorem cells52 : Try.prog.cellsOf 52 = 2 := by kernel_rfl
theorem cells5 : Try.prog.cellsOf 5 = 1 := by kernel_rfl
theorem okWide_array {P : Program} {w : World} {r : _} {base : Nat} {t : TypeId} {v : Value} {n : Nat} {e : TypeId} (ht : P.underlying t = some (.array n e)) (h : Value.okWide P w r base t v) : ∃ cs, v = .agg cs ∧ cs.size = P.cellsOf t := by
  simp only [Value.okWide, ht] at h
  obtain ⟨cs, h1, h2, _⟩ := h
  exact ⟨cs, h1, h2⟩
theorem byte_bounds {x : Int} (h : (Lit.int .u8 x).wf = true) : 0 ≤ x ∧ x ≤ 255 := bounds_u8 h
theorem open_two_arg {H : Type} {enc : TypeId × Value → H} {W : World} {v : Value} {d : DataW H} {p : List MemPlace} {w' : World} {r : _} {b : Nat} {spare : Nat → Bool} {held : Bool} (hv : Value.okWide Try.prog w' r b 52 v) (h : DataW.Trod enc Try.prog W 0 spare held 52 v d p) :
    ∃ x y : Int, v = .agg #[.int .u8 x, .int .u8 y] ∧ (0 ≤ x ∧ x ≤ 255) ∧ (0 ≤ y ∧ y ≤ 255) := by
  obtain ⟨cs, rfl, hl⟩ := okWide_array Try.underlying52 hv
  obtain ⟨fuel, hf⟩ := h
  obtain ⟨xs, m, _, _, _, hlen, he⟩ := DataW.trod_array Try.underlying52 hf
  rw [cells52] at hl
  obtain ⟨l⟩ := cs
  match l, hl, xs, hlen with
  | [c0, c1], _, [y0, y1], _ =>
    have h0 := he 0 (by decide)
    have h1 := he 1 (by decide)
    simp [cells5, Value.cells] at h0 h1
    obtain ⟨x, e0, _, wx⟩ := DataW.trod_int Try.underlying5 h0
    obtain ⟨y, e1, _, wy⟩ := DataW.trod_int Try.underlying5 h1
    obtain rfl : c0 = _ := (List.cons.inj e0).1
    obtain rfl : c1 = _ := (List.cons.inj e1).1
    exact ⟨x, y, rfl, byte_bounds wx, byte_bounds wy⟩

set_option maxRecDepth 100000 in
theorem stacksBack_lifted (os : Os) (started : os.Started) (H : Type) (enc : TypeId × Value → H) :
    ReturnsInHanded {} Try.checked os 7 .any (Rows.stacksBackSpec.pre6 enc Try.prog Try.f7 Rows.stacksBackRow.domain false) (Rows.stacksBackSpec.post enc Try.prog Try.f7 false true false false) := by
  refine returnsInHanded_of_change (C := Try.checked) Try.own started (by kernel_rfl) Try.func7
    (ChangeSpec.witness6 (enc := enc) (C := Try.checked) false ⟨#[], #[.agg #[.int .u8 0, .int .u8 0], .agg #[.int .u8 0, .int .u8 0]], []⟩ 8 (by kernel_rfl) (by kernel_rfl) (by kernel_rfl) (by kernel_rfl)) ?_
  intro W base args ds gs before hval0 hW hcnd _
  have hval : ∀ (j : Nat) t v, Try.f7.params[j]? = some t → args[j]? = some v → Value.okWide Try.prog W .any base t v := hval0
  have hW' := hW
  obtain ⟨p, q, hA0, hV, rfl, hfz, hnd⟩ := hW
  have hA : DataW.TrodAll enc Try.prog W 0 (fun _ => true) true Try.f7.params.toList args.toList ds p := hA0
  rw [Try.params7] at hA hval
  obtain ⟨v0, v1, d0, d1, p0, p1, rfl, rfl, rfl, h0, h1⟩ := trodAll_two hA
  obtain ⟨rfl, rfl⟩ := trodVars_none hV
  have k0 := h0
  have k1 := h1
  obtain ⟨x, y, rfl, hx, hy⟩ := open_two_arg (hval 0 52 v0 rfl rfl) h0
  obtain ⟨u, z, rfl, hu, hz⟩ := open_two_arg (hval 1 52 v1 rfl rfl) h1
  clear hA0 hval0 h0 h1
  simp only [List.append_nil] at hW'
  have lt0 : ∀ x ∈ p0, x.block < W.heap.size := fun x hx => by simpa using hW'.lt x (by simp [hx])
  have lt1 : ∀ x ∈ p1, x.block < W.heap.size := fun x hx => by simpa using hW'.lt x (by simp [hx])
  have key : Calls Try.prog 7 #[.agg #[.int .u8 x, .int .u8 y], .agg #[.int .u8 u, .int .u8 z]] W fun e w' => e = .returned (.bool true) ∧ Below W.heap.size W w' := by
    have h := back_any x.toNat y.toNat u.toNat z.toNat (by omega) (by omega) (by omega) (by omega) W
    rw [Int.toNat_of_nonneg hx.1, Int.toNat_of_nonneg hy.1, Int.toNat_of_nonneg hu.1, Int.toNat_of_nonneg hz.1] at h
    exact h
  refine key.mono fun e W' ⟨he, hb⟩ => ?_
  subst he
  refine ⟨_, rfl, _, _, _, [], p0 ++ p1, [], hW', ?_, ?_, rfl, hb.frame _, fun h => by cases h⟩
  · exact trodAll_mk1 (shut_bool Try.underlying4 _)
  · have t0 := Below.trod Try.laidOut (by kernel_rfl) (of_decide_eq_true (by kernel_rfl)) k0 hb lt0
    have t1 := Below.trod Try.laidOut (by kernel_rfl) (of_decide_eq_true (by kernel_rfl)) k1 hb lt1
    have := trodAll_cons_mk t0 (trodAll_cons_mk t1 trodAll_mk0)
    simp only [List.append_nil] at this
    exact this

theorem stacksBack_holds : Rows.StacksBackSaid :=
  OpenClaim.holds_of_wide 7 Try.f7 rfl rfl rfl rfl rfl rfl rfl ⟨rfl, rfl, rfl, rfl, rfl⟩ rfl rfl rfl rfl rfl (by kernel_rfl) Try.func7 (by kernel_rfl)
    (of_decide_eq_true (by kernel_rfl)) (by unfold Func.isWrapper; first | (rw [if_pos (by decide +kernel)]; kernel_rfl) | (rw [if_neg (by decide +kernel)]; exact ⟨rfl, rfl⟩))
    (fun os started H enc _ => stacksBack_lifted os started H enc)

end Go.Proofs.Ytgkgmikkfbbfgaa
