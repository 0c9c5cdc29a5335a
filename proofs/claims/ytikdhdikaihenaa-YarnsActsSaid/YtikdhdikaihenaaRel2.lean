import Derived.Test.YtikdhdikaihenaaSw
namespace Go.Proofs.Ytikdhdikaihenaa
open Go.RowKit Go.Sort
theorem three_sets5 {w : World} {b g : Nat} {u0 u1 u2 : Value} (h : ThreeC w b u0 u1 u2) (hg : b ≠ g) (v0 v1 v2 v3 v4 : Value) :
    ThreeC (((((w.setCell ⟨g, 0, none⟩ v0).setCell ⟨g, 1, none⟩ v1).setCell ⟨g, 2, none⟩ v2).setCell ⟨g, 3, none⟩ v3).setCell ⟨g, 4, none⟩ v4) b u0 u1 u2 := by
  have ne : ∀ x y, (⟨g, y, none⟩ : Addr) ≠ ⟨b, x, none⟩ := fun x y e => hg (by injection e with e _ _; exact e.symm)
  have e : ∀ x, (((((w.setCell ⟨g, 0, none⟩ v0).setCell ⟨g, 1, none⟩ v1).setCell ⟨g, 2, none⟩ v2).setCell ⟨g, 3, none⟩ v3).setCell ⟨g, 4, none⟩ v4).cell? ⟨b, x, none⟩ = w.cell? ⟨b, x, none⟩ := fun x => by
    rw [World.cell?_setCell_other _ _ _ _ (ne x 4), World.cell?_setCell_other _ _ _ _ (ne x 3), World.cell?_setCell_other _ _ _ _ (ne x 2), World.cell?_setCell_other _ _ _ _ (ne x 1), World.cell?_setCell_other _ _ _ _ (ne x 0)]
  obtain ⟨⟨c0, c1, c2⟩, ⟨f0, f1, f2⟩⟩ := h
  refine ⟨⟨(e 0).trans c0, (e 1).trans c1, (e 2).trans c2⟩, ⟨?_, ?_, ?_⟩⟩
  · simpa using f0
  · simpa using f1
  · simpa using f2
theorem lie_sets3 {W : World} {g : Nat} {ao : Option Addr} {ps : List Ps} (h : Lie W ao ps) (hg : ∀ b o, ao = some ⟨b, o, none⟩ → b ≠ g) (v0 v1 v2 : Value) :
    Lie (((W.setCell ⟨g, 0, none⟩ v0).setCell ⟨g, 1, none⟩ v1).setCell ⟨g, 2, none⟩ v2) ao ps := by
  rcases h with h | ⟨b, o, h1, h2, h3⟩
  · exact .inl h
  · have hb := hg b o h1
    have e : ∀ x, (((W.setCell ⟨g, 0, none⟩ v0).setCell ⟨g, 1, none⟩ v1).setCell ⟨g, 2, none⟩ v2).cell? ⟨b, x, none⟩ = W.cell? ⟨b, x, none⟩ := fun x => by
      have ne : ∀ y, (⟨g, y, none⟩ : Addr) ≠ ⟨b, x, none⟩ := fun y e => hb (by injection e with e _ _; exact e.symm)
      rw [World.cell?_setCell_other _ _ _ _ (ne 2), World.cell?_setCell_other _ _ _ _ (ne 1), World.cell?_setCell_other _ _ _ _ (ne 0)]
    refine .inr ⟨b, o, h1, by simpa using h2, fun i p hp => ?_⟩
    obtain ⟨c0, c1, c2, c3⟩ := h3 i p hp
    exact ⟨(e _).trans c0, (e _).trans c1, (e _).trans c2, (e _).trans c3⟩
def invQ (KN : Nat) (W : World) (aq : Option Addr) (qs : List Ps) (w : World) : Prop := invS KN W w ∧ Lie w aq qs
theorem invQ_stab (S : Nat) {KN : Nat} {W : World} {aq : Option Addr} {qs : List Ps} (hq : ∀ b o, aq = some ⟨b, o, none⟩ → b ≠ KN) : ∀ i w w', invQ KN W aq qs w → relS S KN i w w' → invQ KN W aq qs w' := by
  rintro i w w' ⟨h1, h2⟩ hr
  refine ⟨invS_stab S i w w' h1 hr, ?_⟩
  rcases hr with ⟨_, hb⟩ | ⟨rfl, v0, v1, v2, v3, v4, rfl⟩
  · exact h2.below hb
  · exact lie_sets5 h2 hq _ _ _ _ _
theorem room_of {w : World} {B e n q cap : Nat} {ao : Option Addr} {xs : List Value} (h : w.ownsRow B e 4 (.slice ao q cap) n xs) : ao = none → q = 0 := by
  rintro rfl
  exact (owns_none h).1
theorem ne_of_own {w : World} {B e n q cap KY : Nat} {ao : Option Addr} {xs : List Value} (h : w.ownsRow B e 4 (.slice ao q cap) n xs) (hK : KY < B) : ∀ b o, ao = some ⟨b, o, none⟩ → b ≠ KY := by
  rintro b o rfl
  have := (h.lt b rfl).1
  omega
end Go.Proofs.Ytikdhdikaihenaa
