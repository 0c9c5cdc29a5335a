import Derived.Test.YtjjnhmbgffdenaaReads2
import Derived.Test.YtjjnhmbgffdenaaCat
namespace Go.Proofs.Ytjjnhmbgffdenaa
open Go.RowKit Go.Sort

theorem same_beds (a b : Bds) (T T' : List (List Nm)) (B : Nat) (w : World) (hB : B ≤ w.heap.size) (ha : a.ok B w) (hb : b.ok B w) (hr : Reads0 T a) (hr' : Reads0 T' b) :
    Calls Try.prog 18 #[a.v, b.v] w fun e w' => e = .returned (.bool (decide (T = T'))) ∧ Below w.heap.size w w' := by
  rw [← same_iff hr hr']
  obtain ⟨r1, h1⟩ : ∃ r1, a.els.all (sameAt b) = r1 := ⟨_, rfl⟩
  obtain ⟨r2, h2⟩ : ∃ r2, b.els.all (sameAt a) = r2 := ⟨_, rfl⟩
  rw [h1, h2]
  have K1 := Lib.hid fun w1 (hw : Below w.heap.size w w1) => agree_any a b w.heap.size w1 hw.size ((ha.mono hB).below hw) ((hb.mono hB).below hw)
  have K2 := Lib.hid fun w1 (hw : Below w.heap.size w w1) => agree_any b a w.heap.size w1 hw.size ((hb.mono hB).below hw) ((ha.mono hB).below hw)
  rw [h1] at K1
  rw [h2] at K2
  obtain ⟨⟨fa, fs, fc⟩, ⟨ba, bs, bc⟩⟩ := a
  obtain ⟨⟨fa', fs', fc'⟩, ⟨ba', bs', bc'⟩⟩ := b
  clear h1 h2 ha hb hr hr'
  simp only [Bds.v, Bed.v] at K1 K2 ⊢
  cases r1
  · go_enter Try.func18, Try.ntmps18
    go_wp2_with (go_at_call 32; refine (K1.out _ (below2 _ _ _)).mono ?_; rintro e w1 ⟨rfl, hb1⟩; obtain ⟨hc1, hf1⟩ := bcell hb1; have hz1 := hb1.size)
    go_ret
    exact ⟨rfl, (below2 _ _ _).trans (hb1.mono (by simp; omega))⟩
  · go_enter Try.func18, Try.ntmps18
    go_wp2_with (first
      | (go_at_call 32; refine (K1.out _ (below2 _ _ _)).mono ?_; rintro e w1 ⟨rfl, hb1⟩; clear K1; obtain ⟨hc1, hf1⟩ := bcell hb1; have hz1 := hb1.size)
      | (go_at_call 32; refine (K2.out _ ((below2 _ _ _).trans (hb1.mono (by simp; omega)))).mono ?_; rintro e w2 ⟨rfl, hb2⟩; clear K2; have hz2 := hb2.size))
    go_ret
    exact ⟨rfl, ((below2 _ _ _).trans (hb1.mono (by simp; omega))).trans (hb2.mono (by simp at hz1; omega))⟩
end Go.Proofs.Ytjjnhmbgffdenaa
