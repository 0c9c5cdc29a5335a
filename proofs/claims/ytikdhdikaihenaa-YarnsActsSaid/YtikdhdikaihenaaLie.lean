import Derived.Test.YtikdhdikaihenaaCancel
import Derived.Deep.LoopGhost
import Derived.Outline
namespace Go.Proofs.Ytikdhdikaihenaa
open Go.RowKit Go.Sort

/-- The four cells of a pass. -/
def Four (w : World) (b o : Nat) (p : Ps) : Prop :=
  w.cell? ⟨b, o, none⟩ = some (.int .u8 p.y) ∧ w.cell? ⟨b, o + 1, none⟩ = some (.int .i64 p.n) ∧ w.cell? ⟨b, o + 2, none⟩ = some (.bool p.f) ∧ w.cell? ⟨b, o + 3, none⟩ = some (.int .u8 p.d)

/-- The passes of a list lie in memory. -/
def Lie (w : World) (ao : Option Addr) (ps : List Ps) : Prop :=
  ps = [] ∨ ∃ b o, ao = some ⟨b, o, none⟩ ∧ b < w.heap.size ∧ ∀ i p, ps[i]? = some p → Four w b (o + i * 4) p

theorem Four.below {w w' : World} {b o : Nat} {p : Ps} (h : Four w b o p) {B : Nat} (hb : Below B w w') (hB : b < B) : Four w' b o p := by
  obtain ⟨h1, h2, h3, h4⟩ := h
  refine ⟨?_, ?_, ?_, ?_⟩
  · rw [hb.cell (p := ⟨b, o, none⟩) hB]; exact h1
  · rw [hb.cell (p := ⟨b, o + 1, none⟩) hB]; exact h2
  · rw [hb.cell (p := ⟨b, o + 2, none⟩) hB]; exact h3
  · rw [hb.cell (p := ⟨b, o + 3, none⟩) hB]; exact h4

theorem Lie.below {w w' : World} {ao : Option Addr} {ps : List Ps} (h : Lie w ao ps) (hb : Below w.heap.size w w') : Lie w' ao ps := by
  rcases h with h | ⟨b, o, h1, h2, h3⟩
  · exact .inl h
  · exact .inr ⟨b, o, h1, Nat.lt_of_lt_of_le h2 hb.size, fun i p hp => (h3 i p hp).below hb h2⟩

theorem Lie.nil (w : World) (ao : Option Addr) : Lie w ao [] := .inl rfl

/-- The pass at a place of a list that is not empty. -/
theorem Lie.at {w : World} {ao : Option Addr} {ps : List Ps} (h : Lie w ao ps) {i : Nat} (hi : i < ps.length) :
    ∃ b o, ao = some ⟨b, o, none⟩ ∧ b < w.heap.size ∧ Four w b (o + i * 4) (ps.getD i Ps.nil) := by
  rcases h with rfl | ⟨b, o, h1, h2, h3⟩
  · simp at hi
  · exact ⟨b, o, h1, h2, h3 i _ (by simp [List.getD, List.getElem?_eq_getElem hi])⟩

/-- A pass whose name and direction are. -/
def Good (p : Ps) : Prop := (1 ≤ p.y ∧ p.y ≤ 6 ∧ 0 ≤ p.n ∧ p.n ≤ 2047) ∧ (p.d = 0 ∨ p.d = 1)

theorem good_upto {ps : List Ps} {k : Nat} (h : ∀ i, i < k → Good (ps.getD i Ps.nil)) (h1 : Good (ps.getD k Ps.nil)) : ∀ i, i < k + 1 → Good (ps.getD i Ps.nil) := fun i hi => by
  by_cases e : i = k
  · subst e; exact h1
  · exact h i (by omega)
theorem good_all {ps : List Ps} (h : ∀ i, i < ps.length → Good (ps.getD i Ps.nil)) : ∀ p ∈ ps, Good p := fun p hp => by
  obtain ⟨i, hi, rfl⟩ := List.mem_iff_getElem.1 hp
  have := h i hi
  simpa [List.getD, List.getElem?_eq_getElem hi] using this
theorem mem_getD {ps : List Ps} {k : Nat} (h : k < ps.length) : ps.getD k Ps.nil ∈ ps := by
  simp [List.getD, List.getElem?_eq_getElem h]

/-- The call returns whether P. -/
def IsB (e : Ending) (P : Prop) : Prop := ∃ r : Bool, e = .returned (.bool r) ∧ (r = true ↔ P)
theorem isB_no {P : Prop} (h : ¬ P) : IsB (.returned (.bool false)) P := ⟨false, rfl, ⟨fun h' => (by cases h'), fun h' => absurd h' h⟩⟩
theorem isB_yes {P : Prop} (h : P) : IsB (.returned (.bool true)) P := ⟨true, rfl, ⟨fun _ => h, fun _ => rfl⟩⟩

theorem arePasses_any (ao : Option Addr) (ps : List Ps) (n cap : Nat) (w : World) (hn : n = ps.length) (hm : n ≤ 9223372036854775807) (h : Lie w ao ps) :
    Calls Try.prog 29 #[.slice ao n cap] w fun e w' => IsB e (∀ p ∈ ps, Good p) ∧ Below w.heap.size w w' := by
  have HN := Lib.hid hn
  have HL := Lib.hid h
  clear hn h
  go_enter Try.func29, Try.ntmps29
  go_wp2_with fail
  go_loopg [7] (n + 1) (fun g i wr => ∃ k : Nat, k ≤ n ∧ g = n + 1 - k ∧ i = .int .i64 k ∧ (∀ i, i < k → Good (ps.getD i Ps.nil)) ∧ Below w.heap.size w wr)
  case atStart => exact ⟨0, by omega, rfl, rfl, fun i hi => absurd hi (by omega), Below.refl _ _⟩
  case round =>
    obtain ⟨k, hk, hg, rfl, hgs, hb⟩ := hrel
    have HM := Lib.hid hg
    have HGS := Lib.hid hgs
    clear hg hgs
    have hsz := hb.size
    by_cases hlt : k < n
    · obtain ⟨b, o, rfl, hbb, hf⟩ := Lie.at (HL.out.below hb) (i := k) (by rw [← HN.out]; exact hlt)
      obtain ⟨p, hp⟩ : ∃ p, p = ps.getD k Ps.nil := ⟨_, rfl⟩
      rw [← hp] at hf
      have HP := Lib.hid hp
      clear hp
      obtain ⟨y, m, f, d⟩ := p
      obtain ⟨c0, c1, c2, c3⟩ := hf
      simp only at c0 c1 c2 c3
      by_cases hna : 1 ≤ y ∧ y ≤ 6 ∧ 0 ≤ m ∧ m ≤ 2047
      · have HNA := Lib.hid hna
        clear hna
        by_cases hdi : d = 0 ∨ d = 1
        · have HDI := Lib.hid hdi
          clear hdi
          go_wp2_with (first
            | (go_at_call 22; refine (named_ok _ _ _ HNA.out.1 HNA.out.2.1 HNA.out.2.2.1 HNA.out.2.2.2).mono ?_; rintro e w1 ⟨rfl, hb1⟩; obtain ⟨hc, hf⟩ := bcell hb1; have hz1 := hb1.size)
            | (go_at_call 26; refine (dir_ok _ _ HDI.out).mono ?_; rintro e w2 ⟨rfl, rfl⟩))
          go_roundg (gk - 1)
          case measure => have := HM.out; omega
          case rel =>
            exact ⟨k + 1, by omega, by have := HM.out; omega, by go_num, good_upto HGS.out (by rw [← HP.out]; exact ⟨HNA.out, HDI.out⟩), (hb.alloc (by omega) _).trans (hb1.mono (by simp; omega))⟩
        · have HDI := Lib.hid hdi
          clear hdi
          go_wp2_with (first
            | (go_at_call 22; refine (named_ok _ _ _ HNA.out.1 HNA.out.2.1 HNA.out.2.2.1 HNA.out.2.2.2).mono ?_; rintro e w1 ⟨rfl, hb1⟩; obtain ⟨hc, hf⟩ := bcell hb1; have hz1 := hb1.size)
            | (go_at_call 26; refine (dir_bad _ _ HDI.out).mono ?_; rintro e w2 ⟨rfl, rfl⟩))
          go_ret
          refine ⟨isB_no fun h => absurd (h _ (mem_getD (k := k) (by rw [← HN.out]; exact hlt))) ?_, (hb.alloc (by omega) _).trans (hb1.mono (by simp; omega))⟩
          rw [← HP.out]; exact fun h => HDI.out h.2
      · have HNA := Lib.hid hna
        clear hna
        go_wp2_with (first
          | (go_at_call 22; refine (named_bad _ _ _ HNA.out).mono ?_; rintro e w1 ⟨rfl, hb1⟩; obtain ⟨hc, hf⟩ := bcell hb1; have hz1 := hb1.size))
        go_ret
        refine ⟨isB_no fun h => absurd (h _ (mem_getD (k := k) (by rw [← HN.out]; exact hlt))) ?_, (hb.alloc (by omega) _).trans (hb1.mono (by simp; omega))⟩
        rw [← HP.out]; exact fun h => HNA.out h.1
    · obtain rfl : k = n := by omega
      go_wp2
      go_ret
      exact ⟨isB_yes (good_all (by rw [← HN.out]; exact HGS.out)), hb⟩

end Go.Proofs.Ytikdhdikaihenaa
