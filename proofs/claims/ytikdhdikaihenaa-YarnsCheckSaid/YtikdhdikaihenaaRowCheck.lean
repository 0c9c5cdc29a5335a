/-
  Proved: the law YarnsCheck returns true for every yarn and every name (Check accepts exactly the valid yarns; Named exactly the valid names; all functions return the error of a yarn that is not valid), and leaves its arguments as they were. No conditions.
-/
import Derived.Test.YtikdhdikaihenaaOpen
import Derived.Test.YtikdhdikaihenaaLawCheck
import Derived.Lib.SmallJoins
namespace Go.Proofs.Ytikdhdikaihenaa
open Go.ChangeShapes Go.WideShapes Go.ChangeAt Go.RowKit Go.Deep Go.Joins

theorem cells38 : Try.prog.cellsOf 38 = 5 := by kernel_rfl

section
variable {H : Type} {enc : TypeId × Value → H} {W : World} {base : Nat} {spare : Nat → Bool} {held : Bool}
theorem trod_struct5 {P : Program} {t : TypeId} {f0 f1 f2 f3 f4 : Field} {fuel : Nat} {cs : List Value} {x : DataW H × List MemPlace} (ht : P.underlying t = some (.struct #[f0, f1, f2, f3, f4])) (h : DataW.trod enc P W base spare held fuel t cs = some x) :
    ∃ y0 y1 y2 y3 y4 n, cs.length = P.cellsOf t ∧ DataW.trod enc P W base spare held n f0.type ((cs.drop f0.offset).take (P.cellsOf f0.type)) = some y0 ∧
      DataW.trod enc P W base spare held n f1.type ((cs.drop f1.offset).take (P.cellsOf f1.type)) = some y1 ∧ DataW.trod enc P W base spare held n f2.type ((cs.drop f2.offset).take (P.cellsOf f2.type)) = some y2 ∧
      DataW.trod enc P W base spare held n f3.type ((cs.drop f3.offset).take (P.cellsOf f3.type)) = some y3 ∧ DataW.trod enc P W base spare held n f4.type ((cs.drop f4.offset).take (P.cellsOf f4.type)) = some y4 := by
  obtain ⟨xs, n, _, rfl, hl, hlen, hf⟩ := DataW.trod_struct ht h
  match xs, hlen with
  | [y0, y1, y2, y3, y4], _ => exact ⟨y0, y1, y2, y3, y4, n, hl, by simpa using hf 0 f0 rfl, by simpa using hf 1 f1 rfl, by simpa using hf 2 f2 rfl, by simpa using hf 3 f3 rfl, by simpa using hf 4 f4 rfl⟩

theorem open_yarn_arg {v : Value} {d : DataW H} {p : List MemPlace} {w' : World} {r : _} {b : Nat} (hv : Value.okWide Try.prog w' r b 38 v) (h : DataW.Trod enc Try.prog W 0 spare held 38 v d p) :
    ∃ i pl c nw ao n cap ps, v = .agg #[.bool i, .int .i64 pl, .int .i64 c, .bool nw, .slice ao n cap] ∧ n = ps.length ∧ n ≤ 9223372036854775807 ∧ Lie W ao ps ∧ Pos ps := by
  obtain ⟨cs, rfl, hl⟩ := okWide_struct Try.underlying38 hv
  obtain ⟨fuel, hf⟩ := h
  obtain ⟨y0, y1, y2, y3, y4, n, _, h0, h1, h2, h3, h4⟩ := trod_struct5 Try.underlying38 hf
  rw [cells38] at hl
  obtain ⟨l⟩ := cs
  match l, hl with
  | [c0, c1, c2, c3, c4], _ =>
    obtain ⟨i, e0, _⟩ := DataW.trod_bool Try.underlying4 h0
    obtain ⟨pl, e1, _, _⟩ := DataW.trod_int Try.underlying3 h1
    obtain ⟨c, e2, _, _⟩ := DataW.trod_int Try.underlying3 h2
    obtain ⟨nw, e3, _⟩ := DataW.trod_bool Try.underlying4 h3
    obtain ⟨ao, n, cap, ps, e4, r1, r2, r3, r4, -⟩ := open_passes_cells h4
    simp [cells3, cells4, cells23, Value.cells] at e0 e1 e2 e3 e4
    subst e0 e1 e2 e3 e4
    exact ⟨i, pl, c, nw, ao, n, cap, ps, rfl, r1, r2, r3, r4⟩
theorem open_id_arg {v : Value} {d : DataW H} {p : List MemPlace} {w' : World} {r : _} {b : Nat} (hv : Value.okWide Try.prog w' r b 30 v) (h : DataW.Trod enc Try.prog W 0 spare held 30 v d p) :
    ∃ y n : Int, v = .agg #[.int .u8 y, .int .i64 n] := by
  obtain ⟨cs, rfl, hl⟩ := okWide_struct Try.underlying30 hv
  obtain ⟨fuel, hf⟩ := h
  obtain ⟨z0, z1, n2, _, hl2, g0, g1⟩ := trod_struct2 Try.underlying30 hf
  rw [cells30] at hl
  obtain ⟨l⟩ := cs
  match l, hl with
  | [c0, c1], _ =>
    obtain ⟨y, e0, _, wy⟩ := DataW.trod_int Try.underlying5 g0
    obtain ⟨m, e1, _, _⟩ := DataW.trod_int Try.underlying3 g1
    simp [cells3, cells5, Value.cells] at e0 e1
    subst e0 e1
    exact ⟨y, m, rfl⟩
end

set_option maxRecDepth 100000 in
theorem check_long (i : Bool) (p c : Int) (nw : Bool) (ao : Option Addr) (n cap : Nat) (yy nn : Int) (w : World) (h : 20 < n) :
    Calls Try.prog 7 #[.agg #[.bool i, .int .i64 p, .int .i64 c, .bool nw, .slice ao n cap], .agg #[.int .u8 yy, .int .i64 nn]] w fun e w' => e = .returned (.bool true) ∧ Below w.heap.size w w' := by
  have g1 : (20 : Int) < n := by omega
  go_enter Try.func7, Try.ntmps7
  go_wp2_with (go_at_call 9; refine (lives_any _).mono ?_; rintro e w8 ⟨rfl, hb⟩)
  go_ret
  exact ⟨rfl, (below2 w _ _).trans (hb.mono (by simp; omega))⟩

set_option maxRecDepth 100000 in
theorem yarnsCheck_lifted (os : Os) (started : os.Started) (H : Type) (enc : TypeId × Value → H) :
    ReturnsInHanded {} Try.checked os 7 .any (Rows.yarnsCheckSpec.pre6 enc Try.prog Try.f7 Rows.yarnsCheckRow.domain false) (Rows.yarnsCheckSpec.post enc Try.prog Try.f7 false true false false) := by
  refine returnsInHanded_of_change (C := Try.checked) Try.own started (by kernel_rfl) Try.func7
    (ChangeSpec.witness6 (enc := enc) (C := Try.checked) false ⟨#[], #[.agg #[.bool false, .int .i64 0, .int .i64 0, .bool false, .slice none 0 0], .agg #[.int .u8 0, .int .i64 0]], []⟩ 8 (by kernel_rfl) (by kernel_rfl) (by kernel_rfl) (by kernel_rfl)) ?_
  intro W base args ds gs before hval0 hW hcnd _
  have hval : ∀ (j : Nat) t v, Try.f7.params[j]? = some t → args[j]? = some v → Value.okWide Try.prog W .any base t v := hval0
  have hW' := hW
  obtain ⟨p, q, hA0, hV, rfl, hfz, hnd⟩ := hW
  have hA : DataW.TrodAll enc Try.prog W 0 (fun _ => true) true Try.f7.params.toList args.toList ds p := hA0
  rw [Try.params7] at hA hval
  obtain ⟨v0, v1, d0, d1, p0, p1, rfl, rfl, rfl, h0, h1⟩ := trodAll_two hA
  obtain ⟨rfl, rfl⟩ := trodVars_none hV
  have k0 := h0
  have k1 := h1
  obtain ⟨i, pl, c, nw, ao, n, cap, ps, rfl, hn, hm, hl, hp⟩ := open_yarn_arg (hval 0 38 v0 rfl rfl) h0
  obtain ⟨yy, nn, rfl⟩ := open_id_arg (hval 1 30 v1 rfl rfl) h1
  clear hA0 hval0 h0 h1
  simp only [List.append_nil] at hW'
  have lt0 : ∀ x ∈ p0, x.block < W.heap.size := fun x hx => by simpa using hW'.lt x (by simp [hx])
  have lt1 : ∀ x ∈ p1, x.block < W.heap.size := fun x hx => by simpa using hW'.lt x (by simp [hx])
  have key : Calls Try.prog 7 #[.agg #[.bool i, .int .i64 pl, .int .i64 c, .bool nw, .slice ao n cap], .agg #[.int .u8 yy, .int .i64 nn]] W fun e w' => e = .returned (.bool true) ∧ Below W.heap.size W w' := by
    by_cases g0 : n ≤ 20
    · exact check_core i pl c nw ao ps n cap yy nn W hn g0 hl hp
    · exact check_long i pl c nw ao n cap yy nn W (by omega)
  refine key.mono fun e W' ⟨he, hb⟩ => ?_
  subst he
  refine ⟨_, rfl, _, _, _, [], p0 ++ p1, [], hW', ?_, ?_, rfl, hb.frame _, fun h => by cases h⟩
  · exact trodAll_mk1 (shut_bool Try.underlying4 _)
  · exact trodAll_mk2 (Below.trod Try.laidOut (by kernel_rfl) (of_decide_eq_true (by kernel_rfl)) k0 hb lt0) (Below.trod Try.laidOut (by kernel_rfl) (of_decide_eq_true (by kernel_rfl)) k1 hb lt1)

theorem yarnsCheck_holds : Rows.YarnsCheckSaid :=
  OpenClaim.holds_of_wide 7 Try.f7 rfl rfl rfl rfl rfl rfl rfl ⟨rfl, rfl, rfl, rfl, rfl⟩ rfl rfl rfl rfl rfl (by kernel_rfl) Try.func7 (by kernel_rfl)
    (of_decide_eq_true (by kernel_rfl)) (by unfold Func.isWrapper; first | (rw [if_pos (by decide +kernel)]; kernel_rfl) | (rw [if_neg (by decide +kernel)]; exact ⟨rfl, rfl⟩))
    (fun os started H enc _ => yarnsCheck_lifted os started H enc)

end Go.Proofs.Ytikdhdikaihenaa
