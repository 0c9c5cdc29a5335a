import Derived.Test.YtjjnhmbgffdenaaSmall1
import Derived.Laws.CopyOwn
import Derived.Deep.OwnRows
namespace Go.Proofs.Ytjjnhmbgffdenaa
open Go.RowKit

/-- The stack of the needle i + 1 of a bed. -/
def Bed.cel (d : Bed) (i : Nat) : Cel := d.cs.getD i Cel.nil
theorem Bed.ok.cel {n : Nat} {w : World} {d : Bed} (h : d.ok n w) (i : Nat) : (d.cel i).ok n w := by
  unfold Bed.cel
  by_cases hi : i < d.cs.length
  · simp only [List.getD, List.getElem?_eq_getElem hi, Option.getD_some]
    exact h.2.1 _ (List.getElem_mem hi)
  · simp only [List.getD, List.getElem?_eq_none (Nat.le_of_not_lt hi), Option.getD_none]
    exact Cel.nil_ok n w

theorem on_any (d : Bds) (k i : Nat) (B : Nat) (w : World) (hB : B ≤ w.heap.size) (hk : k ≤ 1) (hi : i ≤ 1000000) (h : d.ok B w) :
    Calls Try.prog 27 #[d.v, .agg #[.int .u8 k, .int .i64 ((i : Int) + 1)]] w fun e w' => e = .returned ((d.bed k).cel i).v ∧ Below w.heap.size w w' := by
  have HW := Lib.hid ((h.mono hB).bed k)
  obtain ⟨⟨fa, fs, fc⟩, ⟨ba, bs, bc⟩⟩ := d
  have h1 : fs.length ≤ 100 := h.1.1
  have h2 : bs.length ≤ 100 := h.2.1
  clear h
  simp only [Bds.v, Bed.v] at HW ⊢
  obtain rfl | rfl : k = 0 ∨ k = 1 := by omega
  all_goals
    simp only [Bds.bed, if_true, if_false, Nat.one_ne_zero] at HW ⊢
  · by_cases hl : i < fs.length
    · obtain ⟨b, o, he, hbb, hcell⟩ := HW.out.at (i := i) hl
      obtain rfl : fa = some ⟨b, o, none⟩ := he
      obtain ⟨ca, cl, cc, hce⟩ : ∃ ca cl cc, fs[i] = ⟨ca, cl, cc⟩ := ⟨_, _, _, rfl⟩
      simp only at hcell
      rw [hce] at hcell
      simp only [Cel.v] at hcell
      have hcel : Bed.cel ⟨some ⟨b, o, none⟩, fs, fc⟩ i = ⟨ca, cl, cc⟩ := by simp [Bed.cel, List.getD, List.getElem?_eq_getElem hl, hce]
      rw [hcel]
      clear HW hcel
      go_enter Try.func27, Try.ntmps27
      go_wp2
      go_ret
      exact ⟨rfl, below2 _ _ _⟩
    · have hcel : Bed.cel ⟨fa, fs, fc⟩ i = Cel.nil := by simp [Bed.cel, List.getD, List.getElem?_eq_none (Nat.le_of_not_lt hl)]
      rw [hcel]
      have hl2 : (fs.length : Int) < (i : Int) + 1 := by omega
      clear HW hcel
      go_enter Try.func27, Try.ntmps27
      go_wp2
      go_ret
      exact ⟨rfl, below2 _ _ _⟩
  · by_cases hl : i < bs.length
    · obtain ⟨b, o, he, hbb, hcell⟩ := HW.out.at (i := i) hl
      obtain rfl : ba = some ⟨b, o, none⟩ := he
      obtain ⟨ca, cl, cc, hce⟩ : ∃ ca cl cc, bs[i] = ⟨ca, cl, cc⟩ := ⟨_, _, _, rfl⟩
      simp only at hcell
      rw [hce] at hcell
      simp only [Cel.v] at hcell
      have hcel : Bed.cel ⟨some ⟨b, o, none⟩, bs, bc⟩ i = ⟨ca, cl, cc⟩ := by simp [Bed.cel, List.getD, List.getElem?_eq_getElem hl, hce]
      rw [hcel]
      clear HW hcel
      go_enter Try.func27, Try.ntmps27
      go_wp2
      go_ret
      exact ⟨rfl, below2 _ _ _⟩
    · have hcel : Bed.cel ⟨ba, bs, bc⟩ i = Cel.nil := by simp [Bed.cel, List.getD, List.getElem?_eq_none (Nat.le_of_not_lt hl)]
      rw [hcel]
      have hl2 : (bs.length : Int) < (i : Int) + 1 := by omega
      clear HW hcel
      go_enter Try.func27, Try.ntmps27
      go_wp2
      go_ret
      exact ⟨rfl, below2 _ _ _⟩
end Go.Proofs.Ytjjnhmbgffdenaa
