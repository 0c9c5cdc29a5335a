/-
  Proved: the law YarnsBack returns true for every two lists of bytes and every two bytes (a carrier that goes somewhere and back, past the inverse, is as it was before), and leaves its arguments as they were. No conditions.
-/
import Derived.Test.YtikdhdikaihenaaOpen
import Derived.Test.YtikdhdikaihenaaLives
import Derived.Test.YtikdhdikaihenaaLawBack
import Derived.Lib.SmallJoins
namespace Go.Proofs.Ytikdhdikaihenaa
open Go.ChangeShapes Go.WideShapes Go.ChangeAt Go.RowKit Go.Deep Go.Joins

theorem cells52 : Try.prog.cellsOf 52 = 2 := by kernel_rfl
theorem okWide_array {P : Program} {w : World} {r : _} {base : Nat} {t : TypeId} {v : Value} {n : Nat} {e : TypeId} (ht : P.underlying t = some (.array n e)) (h : Value.okWide P w r base t v) : ∃ cs, v = .agg cs ∧ cs.size = P.cellsOf t := by
  simp only [Value.okWide, ht] at h
  obtain ⟨cs, h1, h2, _⟩ := h
  exact ⟨cs, h1, h2⟩

theorem open_two_arg {H : Type} {enc : TypeId × Value → H} {W : World} {v : Value} {d : DataW H} {p : List MemPlace} {w' : World} {r : _} {b : Nat} {spare : Nat → Bool} {held : Bool} (hv : Value.okWide Try.prog w' r b 52 v) (h : DataW.Trod enc Try.prog W 0 spare held 52 v d p) :
    ∃ x y : Int, v = .agg #[.int .u8 x, .int .u8 y] ∧ (0 ≤ x ∧ x ≤ 255) ∧ (0 ≤ y ∧ y ≤ 255) := by
  obtain ⟨cs, rfl, hl⟩ := okWide_array Try.underlying52 hv
  obtain ⟨fuel, hf⟩ := h
  obtain ⟨xs, m, _, _, _, hlen, he⟩ := DataW.trod_array Try.underlying52 hf
  rw [cells52] at hl
  obtain ⟨l⟩ := cs
  match l, hl, xs, hlen with
  | [c0, c1], _, [y0, y1], _ =>
    have h0 := he 0 (by decide)
    have h1 := he 1 (by decide)
    simp [cells5, Value.cells] at h0 h1
    obtain ⟨x, e0, _, wx⟩ := DataW.trod_int Try.underlying5 h0
    obtain ⟨y, e1, _, wy⟩ := DataW.trod_int Try.underlying5 h1
    obtain rfl : c0 = _ := (List.cons.inj e0).1
    obtain rfl : c1 = _ := (List.cons.inj e1).1
    exact ⟨x, y, rfl, byte_bounds wx, byte_bounds wy⟩

theorem back_long (HLV : LivesSaid) (ao1 ao2 : Option Addr) (n1 cap1 n2 cap2 : Nat) (v : Value) (x y : Int) (hv : v = .agg #[.int .u8 x, .int .u8 y]) (w : World) (h : 20 < n1 ∨ (n1 ≤ 20 ∧ 20 < n2)) :
    Calls Try.prog 6 #[.slice ao1 n1 cap1, .slice ao2 n2 cap2, v] w fun e w' => e = .returned (.bool true) ∧ Below w.heap.size w w' := by
  subst hv
  rcases h with h | ⟨h, h'⟩
  · have g1 : (20 : Int) < n1 := by omega
    go_enter Try.func6, Try.ntmps6
    go_wp2_with (go_at_call 9; refine (HLV _).mono ?_; rintro e w8 ⟨rfl, hb⟩)
    go_ret
    exact ⟨rfl, (below1 w _).trans (hb.mono (by simp))⟩
  · have g1 : ¬ ((20 : Int) < n1) := by omega
    have g2 : (20 : Int) < n2 := by omega
    go_enter Try.func6, Try.ntmps6
    go_wp2_with (go_at_call 9; refine (HLV _).mono ?_; rintro e w8 ⟨rfl, hb⟩)
    go_ret
    exact ⟨rfl, (below1 w _).trans (hb.mono (by simp))⟩

set_option maxRecDepth 100000 in
theorem yarnsBack_lifted (os : Os) (started : os.Started) (H : Type) (enc : TypeId × Value → H) :
    ReturnsInHanded {} Try.checked os 6 .any (Rows.yarnsBackSpec.pre6 enc Try.prog Try.f6 Rows.yarnsBackRow.domain false) (Rows.yarnsBackSpec.post enc Try.prog Try.f6 false true false false) := by
  refine returnsInHanded_of_change (C := Try.checked) Try.own started (by kernel_rfl) Try.func6
    (ChangeSpec.witness6 (enc := enc) (C := Try.checked) false ⟨#[], #[.slice none 0 0, .slice none 0 0, .agg #[.int .u8 0, .int .u8 0]], []⟩ 8 (by kernel_rfl) (by kernel_rfl) (by kernel_rfl) (by kernel_rfl)) ?_
  intro W base args ds gs before hval0 hW hcnd _
  have hval : ∀ (j : Nat) t v, Try.f6.params[j]? = some t → args[j]? = some v → Value.okWide Try.prog W .any base t v := hval0
  have hW' := hW
  obtain ⟨p, q, hA0, hV, rfl, hfz, hnd⟩ := hW
  have hA : DataW.TrodAll enc Try.prog W 0 (fun _ => true) true Try.f6.params.toList args.toList ds p := hA0
  rw [Try.params6] at hA hval
  obtain ⟨v0, vs0, d0, ds0, p0, q0, hargs, rfl, rfl, h0, r0⟩ := trodAll_cons hA
  obtain ⟨v1, vs1, d1, ds1, p1, q1, rfl, rfl, rfl, h1, r1⟩ := trodAll_cons r0
  obtain ⟨v2, vs2, d2, ds2, p2, q2, rfl, rfl, rfl, h2, r2⟩ := trodAll_cons r1
  obtain ⟨rfl, rfl, rfl⟩ := trodAll_nil r2
  obtain rfl : args = #[v0, v1, v2] := by cases args; simp_all
  obtain ⟨rfl, rfl⟩ := trodVars_none hV
  have k0 := h0
  have k1 := h1
  have k2 := h2
  obtain ⟨ao0, n0, cap0, xs0, rfl, hn0, hl0, hx0⟩ := open_bytes_arg (hval 0 22 v0 rfl rfl) h0
  obtain ⟨ao1, n1, cap1, xs1, rfl, hn1, hl1, hx1⟩ := open_bytes_arg (hval 1 22 v1 rfl rfl) h1
  obtain ⟨x, y, rfl, hx, hy⟩ := open_two_arg (hval 2 52 v2 rfl rfl) h2
  clear hA0 hval0 h0 h1 h2
  simp only [List.append_nil] at hW'
  have lt0 : ∀ x ∈ p0, x.block < W.heap.size := fun x hx => by simpa using hW'.lt x (by simp [hx])
  have lt1 : ∀ x ∈ p1, x.block < W.heap.size := fun x hx => by simpa using hW'.lt x (by simp [hx])
  have lt2 : ∀ x ∈ p2, x.block < W.heap.size := fun x hx => by simpa using hW'.lt x (by simp [hx])
  have key : Calls Try.prog 6 #[.slice ao0 n0 cap0, .slice ao1 n1 cap1, .agg #[.int .u8 x, .int .u8 y]] W fun e w' => e = .returned (.bool true) ∧ Below W.heap.size W w' := by
    by_cases g0 : n0 ≤ 20
    · by_cases g1 : n1 ≤ 20
      · exact back_core lives_any _ _ xs0 xs1 _ _ _ _ x y W hn0 hn1 g0 g1 hl0 hl1 hx0 hx1 hx.1 hx.2 hy.1 hy.2
      · exact back_long lives_any _ _ _ _ _ _ _ x y rfl W (.inr ⟨g0, by omega⟩)
    · exact back_long lives_any _ _ _ _ _ _ _ x y rfl W (.inl (by omega))
  refine key.mono fun e W' ⟨he, hb⟩ => ?_
  subst he
  refine ⟨_, rfl, _, _, _, [], p0 ++ (p1 ++ p2), [], hW', ?_, ?_, rfl, hb.frame _, fun h => by cases h⟩
  · exact trodAll_mk1 (shut_bool Try.underlying4 _)
  · have t0 := Below.trod Try.laidOut (by kernel_rfl) (of_decide_eq_true (by kernel_rfl)) k0 hb lt0
    have t1 := Below.trod Try.laidOut (by kernel_rfl) (of_decide_eq_true (by kernel_rfl)) k1 hb lt1
    have t2 := Below.trod Try.laidOut (by kernel_rfl) (of_decide_eq_true (by kernel_rfl)) k2 hb lt2
    have := trodAll_cons_mk t0 (trodAll_cons_mk t1 (trodAll_cons_mk t2 trodAll_mk0))
    simp only [List.append_nil] at this
    exact this

theorem yarnsBack_holds : Rows.YarnsBackSaid :=
  OpenClaim.holds_of_wide 6 Try.f6 rfl rfl rfl rfl rfl rfl rfl ⟨rfl, rfl, rfl, rfl, rfl⟩ rfl rfl rfl rfl rfl (by kernel_rfl) Try.func6 (by kernel_rfl)
    (of_decide_eq_true (by kernel_rfl)) (by unfold Func.isWrapper; first | (rw [if_pos (by decide +kernel)]; kernel_rfl) | (rw [if_neg (by decide +kernel)]; exact ⟨rfl, rfl⟩))
    (fun os started H enc _ => yarnsBack_lifted os started H enc)

end Go.Proofs.Ytikdhdikaihenaa
