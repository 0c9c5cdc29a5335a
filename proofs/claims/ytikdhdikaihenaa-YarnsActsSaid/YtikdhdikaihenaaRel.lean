import Derived.Test.YtikdhdikaihenaaAcGen
namespace Go.Proofs.Ytikdhdikaihenaa
open Go.RowKit Go.Sort
theorem five_set {w : World} {b : Nat} {u0 u1 u2 u3 u4 : Value} (h : Five w b u0 u1 u2 u3 u4) (v0 v1 v2 v3 v4 : Value) :
    Five (((((w.setCell ⟨b, 0, none⟩ v0).setCell ⟨b, 1, none⟩ v1).setCell ⟨b, 2, none⟩ v2).setCell ⟨b, 3, none⟩ v3).setCell ⟨b, 4, none⟩ v4) b v0 v1 v2 v3 v4 := by
  obtain ⟨⟨c0, c1, c2, c3, c4⟩, ⟨f0, f1, f2, f3, f4⟩⟩ := h
  refine ⟨⟨?_, ?_, ?_, ?_, ?_⟩, ⟨?_, ?_, ?_, ?_, ?_⟩⟩ <;> go_simp
theorem lie_sets5 {W : World} {g : Nat} {ao : Option Addr} {ps : List Ps} (h : Lie W ao ps) (hg : ∀ b o, ao = some ⟨b, o, none⟩ → b ≠ g) (v0 v1 v2 v3 v4 : Value) :
    Lie (((((W.setCell ⟨g, 0, none⟩ v0).setCell ⟨g, 1, none⟩ v1).setCell ⟨g, 2, none⟩ v2).setCell ⟨g, 3, none⟩ v3).setCell ⟨g, 4, none⟩ v4) ao ps := lie_sets5' h hg v0 v1 v2 v3 v4

def relS (S KN : Nat) (i : Nat) (w w' : World) : Prop := (i ≠ S ∧ Below w.heap.size w w') ∨
  (i = S ∧ ∃ v0 v1 v2 v3 v4, w' = ((((w.setCell ⟨KN, 0, none⟩ v0).setCell ⟨KN, 1, none⟩ v1).setCell ⟨KN, 2, none⟩ v2).setCell ⟨KN, 3, none⟩ v3).setCell ⟨KN, 4, none⟩ v4)
def invS (KN : Nat) (W w : World) : Prop := Below KN W w ∧ ∃ u0 u1 u2 u3 u4, Five w KN u0 u1 u2 u3 u4
theorem five_lt {w : World} {b : Nat} {u0 u1 u2 u3 u4 : Value} (h : Five w b u0 u1 u2 u3 u4) : b < w.heap.size := World.block_lt_of_cell? _ _ h.1.1
theorem invS_stab (S : Nat) {KN : Nat} {W : World} : ∀ i w w', invS KN W w → relS S KN i w w' → invS KN W w' := by
  rintro i w w' ⟨h1, u0, u1, u2, u3, u4, h2⟩ (⟨_, hb⟩ | ⟨rfl, v0, v1, v2, v3, v4, rfl⟩)
  · have := five_lt h2
    exact ⟨h1.trans (hb.mono (by omega)), _, _, _, _, _, h2.below hb this⟩
  · exact ⟨below_sets5 h1 (Nat.le_refl _) _ _ _ _ _, _, _, _, _, _, five_set h2 _ _ _ _ _⟩
def relA (A B : Nat) (i : Nat) (w w' : World) : Prop := (i ≠ A ∧ Below w.heap.size w w') ∨ (i = A ∧ Below B w w' ∧ ∀ g n, OwnZ w B g n → OwnZ w' B g n)
theorem invA_stab (A : Nat) {W : World} : ∀ i w w', Below W.heap.size W w → relA A W.heap.size i w w' → Below W.heap.size W w' := by
  rintro i w w' h (⟨_, hb⟩ | ⟨_, hb, _⟩)
  · exact h.trans (hb.mono h.size)
  · exact h.trans hb
theorem vals3 {a : Act} {s t u : Tmp} {x y z : Value} (h1 : a.eval (.tmp s) = x) (h2 : a.eval (.tmp t) = y) (h3 : a.eval (.tmp u) = z) : Array.map a.eval #[.tmp s, .tmp t, .tmp u] = #[x, y, z] := by
  simp only [List.map_toArray, List.map_cons, List.map_nil, h1, h2, h3]
theorem enter20 (args : Array Value) (w : World) : (callFunc 20 args).run Try.prog w = .ok (.enter 20 args) w := by kernel_rfl
theorem enter21 (args : Array Value) (w : World) : (callFunc 21 args).run Try.prog w = .ok (.enter 21 args) w := by kernel_rfl
end Go.Proofs.Ytikdhdikaihenaa
