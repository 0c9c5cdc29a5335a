/-
  Proved: the law YarnsActs returns true for every list of acts (whatever is done with a carrier, its place, its number of loops, what is pending, the loops that it makes, and the errors are those of the definition; the yarn stays valid), and leaves its argument as it was. No conditions.
-/
import Derived.Test.YtikdhdikaihenaaOpen
import Derived.Test.YtikdhdikaihenaaLawActs
import Derived.Lib.SmallJoins
namespace Go.Proofs.Ytikdhdikaihenaa
open Go.ChangeShapes Go.WideShapes Go.ChangeAt Go.RowKit Go.Deep Go.Joins

theorem cells40 : Try.prog.cellsOf 40 = 4 := by kernel_rfl
section
variable {H : Type} {enc : TypeId × Value → H} {W : World} {base : Nat} {spare : Nat → Bool} {held : Bool}
theorem open_act_cells {fuel : Nat} {cs : List Value} {x : DataW H × List MemPlace} (h : DataW.trod enc Try.prog W base spare held fuel 40 cs = some x) :
    ∃ a : Ac, cs = [.int .u8 a.what, .int .i64 a.place, .int .u8 a.side, .slice a.ao a.n a.cap] ∧ AcOk W a := by
  obtain ⟨y0, y1, y2, y3, n, _, hl, h0, h1, h2, h3⟩ := trod_struct4 Try.underlying40 h
  rw [cells40] at hl
  match cs, hl with
  | [c0, c1, c2, c3], _ =>
    obtain ⟨wh, e0, _, w0⟩ := DataW.trod_int Try.underlying5 h0
    obtain ⟨pl, e1, _, _⟩ := DataW.trod_int Try.underlying3 h1
    obtain ⟨si, e2, _, w2⟩ := DataW.trod_int Try.underlying5 h2
    obtain ⟨ao, n2, cap, xs, e3, r1, r2, r3⟩ := open_bytes_cells h3
    simp [cells5, cells3, cells22] at e0 e1 e2 e3
    subst e0 e1 e2 e3
    exact ⟨⟨wh, pl, si, ao, n2, cap, xs⟩, rfl, r1, r2, r3, byte_bounds w0, byte_bounds w2⟩

theorem open_acts_cells {fuel : Nat} {cs : List Value} {x : DataW H × List MemPlace} (h : DataW.trod enc Try.prog W base spare held fuel 36 cs = some x) :
    ∃ ao n cap acts, cs = [.slice ao n cap] ∧ n = acts.length ∧ LieAct W ao acts := by
  rcases open_slice Try.underlying36 h with ⟨hcs, _⟩ | ⟨a, len, cap, m, n, D, Pl, hcs, hb, hl, hm, hmm, _, hx⟩
  · exact ⟨none, 0, 0, [], hcs, rfl, .inl rfl⟩
  · have hlm : len ≤ m := by rw [hmm]; split <;> omega
    have each : ∀ i, i < len → ∃ p : Ac, (∀ j, j < 4 → W.cell? (a.add (i * 4 + j)) = [Value.int .u8 p.what, .int .i64 p.place, .int .u8 p.side, .slice p.ao p.n p.cap][j]?) ∧ AcOk W p := by
      intro i hi
      obtain ⟨cs', h1, h2⟩ := hx i (by omega)
      rw [cells40] at h1
      obtain ⟨_, _, hc⟩ := World.cells?_some h1
      obtain ⟨p, rfl, hp⟩ := open_act_cells h2
      refine ⟨p, fun j hj => ?_, hp⟩
      have := hc j hj
      rwa [add_add] at this
    let dflt : Inhabited Ac := ⟨⟨0, 0, 0, none, 0, 0, []⟩⟩
    obtain ⟨P, hP⟩ := choose_lt each
    have hget : ∀ i p, ((List.range len).map P)[i]? = some p → i < len ∧ p = P i := by
      intro i p hp
      have hi := (List.getElem?_eq_some_iff.1 hp).1
      simp at hi
      refine ⟨hi, ?_⟩
      rw [List.getElem?_map, List.getElem?_range hi] at hp
      simpa using hp.symm
    refine ⟨some a, len, cap, (List.range len).map P, hcs, by simp, ?_⟩
    by_cases h0 : len = 0
    · subst h0; exact .inl (by simp)
    · have c0 := (hP 0 (by omega)).1 0 (by omega)
      obtain ⟨b, off, spot⟩ := a
      have hspot : spot = none := by simpa [Addr.add] using World.cell?_spot c0
      subst hspot
      have key : ∀ k, (⟨b, off, none⟩ : Addr).add k = ⟨b, off + k, none⟩ := fun k => Addr.add_lit ..
      refine .inr ⟨b, off, rfl, ?_, fun i p hp => ?_⟩
      · rw [key] at c0
        exact World.block_lt_of_cell? _ _ c0
      · obtain ⟨hi, rfl⟩ := hget i p hp
        have q := (hP i hi).1
        have q0 := q 0 (by omega)
        have q1 := q 1 (by omega)
        have q2 := q 2 (by omega)
        have q3 := q 3 (by omega)
        rw [key] at q0 q1 q2 q3
        simp only [← Nat.add_assoc] at q0 q1 q2 q3
        exact ⟨⟨q0, q1, q2, q3⟩, (hP i hi).2⟩

theorem open_acts_arg {v : Value} {d : DataW H} {p : List MemPlace} {w' : World} {r : _} {b : Nat} (hv : Value.okWide Try.prog w' r b 36 v) (h : DataW.Trod enc Try.prog W 0 spare held 36 v d p) :
    ∃ ao n cap acts, v = .slice ao n cap ∧ n = acts.length ∧ LieAct W ao acts := by
  obtain ⟨a0, len, cap, rfl⟩ := okWide_slice Try.underlying36 hv
  obtain ⟨fuel, hf⟩ := h
  obtain ⟨ao, n, c, xs, hcs, r⟩ := open_acts_cells hf
  simp [Value.cells] at hcs
  obtain ⟨rfl, rfl, rfl⟩ := hcs
  exact ⟨_, _, _, xs, rfl, r⟩
end

set_option maxRecDepth 100000 in
theorem acts_long (ao : Option Addr) (n cap : Nat) (w : World) (h : 30 < n) :
    Calls Try.prog 5 #[.slice ao n cap] w fun e w' => e = .returned (.bool true) ∧ Below w.heap.size w w' := by
  have g1 : (30 : Int) < n := by omega
  go_enter Try.func5, Try.ntmps5
  go_wp2_with (go_at_call 9; refine (lives_any _).mono ?_; rintro e w8 ⟨rfl, hb⟩)
  go_ret
  exact ⟨rfl, hb⟩

set_option maxRecDepth 100000 in
theorem yarnsActs_lifted (os : Os) (started : os.Started) (H : Type) (enc : TypeId × Value → H) :
    ReturnsInHanded {} Try.checked os 5 .any (Rows.yarnsActsSpec.pre6 enc Try.prog Try.f5 Rows.yarnsActsRow.domain false) (Rows.yarnsActsSpec.post enc Try.prog Try.f5 false true false false) := by
  refine returnsInHanded_of_change (C := Try.checked) Try.own started (by kernel_rfl) Try.func5
    (ChangeSpec.witness6 (enc := enc) (C := Try.checked) false ⟨#[], #[.slice none 0 0], []⟩ 8 (by kernel_rfl) (by kernel_rfl) (by kernel_rfl) (by kernel_rfl)) ?_
  intro W base args ds gs before hval0 hW hcnd _
  have hval : ∀ (j : Nat) t v, Try.f5.params[j]? = some t → args[j]? = some v → Value.okWide Try.prog W .any base t v := hval0
  have hW' := hW
  obtain ⟨p, q, hA0, hV, rfl, hfz, hnd⟩ := hW
  have hA : DataW.TrodAll enc Try.prog W 0 (fun _ => true) true Try.f5.params.toList args.toList ds p := hA0
  rw [Try.params5] at hA hval
  obtain ⟨v0, vs0, d0, ds0, p0, q0, hargs, rfl, rfl, h0, r0⟩ := trodAll_cons hA
  obtain ⟨rfl, rfl, rfl⟩ := trodAll_nil r0
  obtain rfl : args = #[v0] := by cases args; simp_all
  obtain ⟨rfl, rfl⟩ := trodVars_none hV
  have k0 := h0
  obtain ⟨ao, n, cap, acts, rfl, hn, hl⟩ := open_acts_arg (hval 0 36 v0 rfl rfl) h0
  clear hA0 hval0 h0
  simp only [List.append_nil] at hW'
  have lt0 : ∀ x ∈ p0, x.block < W.heap.size := fun x hx => by simpa using hW'.lt x (by simp [hx])
  have key : Calls Try.prog 5 #[.slice ao n cap] W fun e w' => e = .returned (.bool true) ∧ Below W.heap.size W w' := by
    by_cases g0 : n ≤ 30
    · exact acts_core ao acts n cap W hn g0 hl
    · exact acts_long ao n cap W (by omega)
  refine key.mono fun e W' ⟨he, hb⟩ => ?_
  subst he
  refine ⟨_, rfl, _, _, _, [], p0, [], hW', ?_, ?_, rfl, hb.frame _, fun h => by cases h⟩
  · exact trodAll_mk1 (shut_bool Try.underlying4 _)
  · exact trodAll_mk1 (Below.trod Try.laidOut (by kernel_rfl) (of_decide_eq_true (by kernel_rfl)) k0 hb lt0)

theorem yarnsActs_holds : Rows.YarnsActsSaid :=
  OpenClaim.holds_of_wide 5 Try.f5 rfl rfl rfl rfl rfl rfl rfl ⟨rfl, rfl, rfl, rfl, rfl⟩ rfl rfl rfl rfl rfl (by kernel_rfl) Try.func5 (by kernel_rfl)
    (of_decide_eq_true (by kernel_rfl)) (by unfold Func.isWrapper; first | (rw [if_pos (by decide +kernel)]; kernel_rfl) | (rw [if_neg (by decide +kernel)]; exact ⟨rfl, rfl⟩))
    (fun os started H enc _ => yarnsActs_lifted os started H enc)

end Go.Proofs.Ytikdhdikaihenaa
