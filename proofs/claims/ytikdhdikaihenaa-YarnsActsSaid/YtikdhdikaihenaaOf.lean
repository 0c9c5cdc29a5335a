import Derived.Test.YtikdhdikaihenaaBehind
namespace Go.Proofs.Ytikdhdikaihenaa
open Go.RowKit Go.Sort

/-- Bytes lie in memory. -/
def LieB (w : World) (ao : Option Addr) (xs : List Int) : Prop :=
  xs = [] ∨ ∃ b o, ao = some ⟨b, o, none⟩ ∧ b < w.heap.size ∧ ∀ i x, xs[i]? = some x → w.cell? ⟨b, o + i, none⟩ = some (.int .u8 x)
theorem LieB.below {w w' : World} {ao : Option Addr} {xs : List Int} (h : LieB w ao xs) (hb : Below w.heap.size w w') : LieB w' ao xs := by
  rcases h with h | ⟨b, o, h1, h2, h3⟩
  · exact .inl h
  · exact .inr ⟨b, o, h1, Nat.lt_of_lt_of_le h2 hb.size, fun i p hp => by rw [hb.cell (p := ⟨b, o + i, none⟩) h2]; exact h3 i p hp⟩
theorem LieB.at {w : World} {ao : Option Addr} {xs : List Int} (h : LieB w ao xs) {i : Nat} (hi : i < xs.length) :
    ∃ b o, ao = some ⟨b, o, none⟩ ∧ b < w.heap.size ∧ w.cell? ⟨b, o + i, none⟩ = some (.int .u8 (xs.getD i 0)) := by
  rcases h with rfl | ⟨b, o, h1, h2, h3⟩
  · simp at hi
  · exact ⟨b, o, h1, h2, h3 i _ (by simp [List.getD, List.getElem?_eq_getElem hi])⟩

/-- The pass of a byte. -/
def pOf (x : Int) : Ps := ⟨1 + x / 4 % 2, x / 8 % 3, x / 2 % 2 == 1, x % 2⟩
def Bytes (xs : List Int) : Prop := ∀ x ∈ xs, 0 ≤ x ∧ x ≤ 255

/-- A list of passes that the call has made, with room or without. -/
def MadeAny (B : Nat) (w w' : World) (e : Ending) (ps : List Ps) : Prop :=
  ∃ ao cap, e = .returned (.slice ao ps.length cap) ∧ w'.ownsRow B 33 4 (.slice ao ps.length cap) ps.length (cellsOf ps) ∧ Below w.heap.size w w'

set_option maxHeartbeats 1000000 in
theorem of_any (ao : Option Addr) (xs : List Int) (n cap : Nat) (w : World) (hn : n = xs.length) (hm : n ≤ 40) (hx : Bytes xs) (h : LieB w ao xs) :
    Calls Try.prog 10 #[.slice ao n cap] w fun e w' => MadeAny w.heap.size w w' e (xs.map pOf) := by
  have HN := Lib.hid hn
  have HL := Lib.hid h
  have HX := Lib.hid hx
  clear hn h hx
  obtain ⟨i0, hi, hz0, hz1, hz2⟩ := info_parts info33
  have HI := Lib.hid (And.intro hi (And.intro hz0 (And.intro hz1 hz2)))
  clear hi hz0 hz1 hz2
  go_enter Try.func10, Try.ntmps10
  go_wp2_with fail
  go_loopg [3, 4] (n + 1) (fun g v i wr => ∃ k : Nat, k ≤ n ∧ g = n + 1 - k ∧ i = .int .i64 k ∧ Hid (wr.ownsRow w.heap.size 33 4 v k (cellsOf ((xs.take k).map pOf))) ∧ Below w.heap.size w wr)
  case atStart => exact ⟨0, by omega, rfl, rfl, World.ownsRow_nil _ _ _ _, Below.refl _ _⟩
  case round =>
    obtain ⟨k, hk, hg, rfl, HO, hb⟩ := hrel
    have HM := Lib.hid hg
    clear hg
    have hsz := hb.size
    by_cases hlt : k < n
    · obtain ⟨b, o, rfl, hbb, hf⟩ := LieB.at (HL.out.below hb) (i := k) (by rw [← HN.out]; exact hlt)
      obtain ⟨x, hx⟩ : ∃ x, x = xs.getD k 0 := ⟨_, rfl⟩
      rw [← hx] at hf
      have HXX := Lib.hid hx
      have hr : 0 ≤ x ∧ x ≤ 255 := HX.out x (by rw [hx]; simp [List.getD, List.getElem?_eq_getElem (show k < xs.length by rw [← HN.out]; exact hlt)])
      obtain ⟨x0, x1⟩ := hr
      clear hx
      go_wp2_with (at_builtin; refine wpList_append_own _ rfl _ _ 23 rfl w.heap.size 33 i0 zero33 4 24 Try.underlying23 HI.out.1 HI.out.2.1 HI.out.2.2.1 HI.out.2.2.2 rfl (by decide) _ k (cellsOf ((xs.take k).map pOf)) rfl (HO.out.alloc _) ⟨wr.heap.size, 0, none⟩ 1 1 [.int .u8 (1 + x / 4 % 2), .int .i64 (x / 8 % 3), .bool (x / 2 % 2 == 1), .int .u8 (x % 2)] rfl rfl (new4 _ _ _ _ _) (one4 _ _ _ _) (by unfold maxLen; omega) (by omega) (by simp; omega) ?_)
      intro v4 w4 hown4 hgrow4 _
      have HO4 := Lib.hid hown4
      have hb4 : Below w.heap.size w w4 := (hb.alloc hsz _).grown hgrow4 (by simp; omega) (fun j hj => (HO.out.lt j hj).1)
      clear hown4 hgrow4
      go_wp2
      go_roundg (gk - 1)
      case measure => have := HM.out; omega
      case rel =>
        refine ⟨k + 1, by omega, by have := HM.out; omega, by go_num, ?_, hb4⟩
        have e : (xs.take (k + 1)).map pOf = (xs.take k).map pOf ++ [pOf x] := by
          rw [List.take_succ_eq_append_getElem (show k < xs.length by rw [← HN.out]; exact hlt), List.map_append, HXX.out]
          simp [List.getD, List.getElem?_eq_getElem (show k < xs.length by rw [← HN.out]; exact hlt)]
        show w4.ownsRow _ _ _ _ _ _
        rw [e]
        have ho4 := HO4.out
        rw [← List.map_take] at ho4
        exact owns_add (x := pOf x) ho4
    · obtain rfl : k = n := by omega
      go_wp2_with fail
      go_ret
      have ho := HO.out
      rw [HN.out, List.take_length] at ho
      obtain ⟨hn, ao2, cap2, hv, -, -, -⟩ := lie_of_owns ho
      have hl : (xs.map pOf).length = xs.length := by simp
      refine ⟨ao2, cap2, by rw [hl]; exact congrArg _ hv, by rw [hl, ← hv]; exact ho, hb⟩

end Go.Proofs.Ytikdhdikaihenaa
