import Derived.Test.YtjjnhmbgffdenaaLvS
import Derived.Test.YtjjnhmbgffdenaaRg7
namespace Go.Proofs.Ytjjnhmbgffdenaa
open Go.RowKit Go.Sort

theorem Cel.ok.kept {n : Nat} {w w' : World} {c : Cel} {r : Option Nat} (h : c.ok n w) (hg : w.grownBy w' r) (hn : n ≤ w.heap.size) (hne : ∀ b o, c.ao = some ⟨b, o, none⟩ → c.l ≠ [] → some b ≠ r) : c.ok n w' := by
  refine ⟨h.1, ?_⟩
  by_cases hz : c.l = []
  · exact .inl hz
  rcases h.2 with h0 | ⟨b, o, e, hl, hc⟩
  · exact .inl h0
  · refine .inr ⟨b, o, e, hl, fun i p hp => ?_⟩
    have hb := hg.block b (by omega) (hne b o e hz)
    obtain ⟨c0, c1⟩ := hc i p hp
    exact ⟨by simpa [World.cell?, hb] using c0, by simpa [World.cell?, hb] using c1⟩
/-- A row of zeros holds no valid name. -/
theorem Cel.ok.ne_zero {n m g : Nat} {w : World} {c : Cel} (h : c.ok n w) (hN : ∀ p ∈ c.l, Named p) (hg : w.heap[g]? = some (.cells (rowNew m) 28 (0, 0))) : ∀ b o, c.ao = some ⟨b, o, none⟩ → c.l ≠ [] → some b ≠ some g := by
  rintro b o e hz hbg
  obtain rfl : b = g := by simpa using hbg
  rcases h.2 with h0 | ⟨b', o', e', hl, hc⟩
  · exact hz h0
  · rw [e] at e'
    simp only [Option.some.injEq, Addr.mk.injEq, and_true] at e'
    obtain ⟨rfl, rfl⟩ := e'
    obtain ⟨p, ps, hp⟩ := List.exists_cons_of_ne_nil hz
    have h1 := (hc 0 p (by rw [hp]; rfl)).1
    have h2 := (hN p (by rw [hp]; exact List.mem_cons_self ..)).1
    simp only [World.cell?, hg, Option.bind_some] at h1
    have h3 : (rowNew m)[o]? = some (.int .u8 p.y) := by simpa using h1
    have h4 : ∀ v ∈ rowNew m, v ≠ .int .u8 p.y := by
      intro v hv
      simp only [rowNew, madeCells, Array.mem_map, Array.mem_range] at hv
      obtain ⟨k, _, rfl⟩ := hv
      have hz : zero28.cells = #[.int .u8 0, .int .i64 0] := rfl
      rw [hz]
      rcases (by have := Nat.mod_lt k (show 0 < 2 by omega); omega : k % 2 = 0 ∨ k % 2 = 1) with e | e
      · simp [e]; omega
      · simp [e]
    exact h4 _ (Array.mem_of_getElem? h3) rfl
/-- The beds' row has its elements. -/
theorem Bed.ok.last {n : Nat} {w : World} {d : Bed} (h : d.ok n w) {k : Nat} (hk : d.cs.length = k + 1) : ∃ b o, d.ao = some ⟨b, o, none⟩ ∧ b < n ∧ w.cell? ⟨b, o + k, none⟩ = some (d.cs[k]'(by omega)).v := by
  rcases h.2.2 with h0 | ⟨b, o, e, hl, hc⟩
  · rw [h0] at hk; cases hk
  · exact ⟨b, o, e, hl, hc k _ (List.getElem?_eq_getElem (by omega))⟩
end Go.Proofs.Ytjjnhmbgffdenaa
