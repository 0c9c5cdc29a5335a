import Derived.Test.YtjjnhmbgffdenaaMem
import Derived.Test.YtjjnhmbgffdenaaSmall2
import Derived.Test.YtjjnhmbgffdenaaSmall3
namespace Go.Proofs.Ytjjnhmbgffdenaa
open Go.RowKit Go.Sort

/-- A stack in new memory that has no room for more. -/
def NewCel (l : List Nm) (w : World) (e : Ending) (w' : World) : Prop := ∃ c : Cel, e = .returned c.v ∧ Hid (c.l = l ∧ c.cap = l.length ∧ c.ok w'.heap.size w') ∧ Below w.heap.size w w'

theorem copied_any (c : Cel) (B : Nat) (w : World) (hB : B ≤ w.heap.size) (h : c.ok B w) :
    Calls Try.prog 26 #[c.v] w (NewCel c.l w) := by
  obtain ⟨ao, ps, cap⟩ := c
  have hm : ps.length ≤ 100 := h.1
  have HL := Lib.hid (h.mono hB)
  clear h
  simp only [Cel.v]
  obtain ⟨n, hn⟩ : ∃ n, n = ps.length := ⟨_, rfl⟩
  rw [← hn] at hm ⊢
  have HN := Lib.hid hn
  clear hn
  by_cases h0 : n = 0
  · subst h0
    obtain rfl : ps = [] := List.eq_nil_of_length_eq_zero HN.out.symm
    go_enter Try.func26, Try.ntmps26
    go_wp2
    go_ret
    exact ⟨Cel.nil, rfl, Lib.hid ⟨rfl, rfl, Cel.nil_ok _ _⟩, Below.refl _ _⟩
  · obtain ⟨b, o, he, hb, -⟩ := HL.out.at (i := 0) (by simp only; rw [← HN.out]; omega)
    obtain rfl : ao = some ⟨b, o, none⟩ := he
    have hmk := fun w => run_mk (n : Int) n rfl (by omega) w
    obtain ⟨i0, hi, hz0, hz1, hz2⟩ := info_parts info28
    have hlen : (cellsOf ps).length = n * 2 := by rw [cellsOf_length, HN.out]
    have hcp : (Builtin.copy_ #[29, 29] 3 #[.slice (some ⟨w.heap.size, 0, none⟩) n n, .slice (some ⟨b, o, none⟩) n cap]).run Try.prog (w.alloc (.cells (rowNew n) 28)) = .ok (goInt n) (w.alloc (.cells (cellsOf ps).toArray 28)) := by
      have := run_copy_all (P := Try.prog) (w.alloc (.cells (rowNew n) 28)) 29 29 3 28 w.heap.size n n ⟨b, o, none⟩ cap 2 (rowNew n) 28 (cellsOf ps) Try.underlying29 i0 hi hz1 (heap_alloc_new w _) hlen
        ((HL.out.below (below1 w _)).cells _ rfl) (by rw [rowNew_size, hlen]; exact Nat.le_refl _) (cellsOf_one ps)
      rw [this, setRow_alloc, List.drop_of_length_le (by rw [Array.length_toList, rowNew_size, hlen]; exact Nat.le_refl _), List.append_nil]
    have HLEN := Lib.hid hlen
    have h00 : ((n : Int) == 0) = false := by simp; omega
    clear hi hz0 hz1 hz2 hlen
    go_enter Try.func26, Try.ntmps26
    go_wp2_with fail
    go_ret
    refine ⟨⟨some ⟨w.heap.size, 0, none⟩, ps, n⟩, by simp [Cel.v, HN.out], Lib.hid ⟨rfl, HN.out, ?_⟩, below1 _ _⟩
    exact ok_of_row (heap_alloc_new w _) (by rw [List.take_of_length_le]; simp [cellsOf_length]) (by simp) (by rw [← HN.out]; exact hm)

/-- What a needle holds; nothing if it is not valid. -/
def Bds.atM (d : Bds) (b a : Int) : List Nm := if isN b a = true then ((d.bed b.toNat).cel (a - 1).toNat).l else []

theorem at_any (d : Bds) (b a : Int) (hb0 : 0 ≤ b) (B : Nat) (w : World) (hB : B ≤ w.heap.size) (h : d.ok B w) :
    Calls Try.prog 12 #[d.v, .agg #[.int .u8 b, .int .i64 a]] w (NewCel (d.atM b a) w) := by
  have HO := Lib.hid (h.mono hB)
  obtain ⟨V, hV⟩ : ∃ V, V = d.v := ⟨_, rfl⟩
  obtain ⟨v0, v1, hv⟩ : ∃ v0 v1, d.v = .agg #[v0, v1] := ⟨_, _, rfl⟩
  have hq : isN b a = true ∨ isN b a = false := by cases isN b a <;> simp
  rcases hq with hq | hq
  · have hr := isN_true hq
    obtain ⟨k, rfl⟩ : ∃ k : Nat, b = k := ⟨b.toNat, by omega⟩
    obtain ⟨i, rfl⟩ : ∃ i : Nat, a = (i : Int) + 1 := ⟨(a - 1).toNat, by omega⟩
    have e : d.atM k ((i : Int) + 1) = ((d.bed k).cel i).l := by
      unfold Bds.atM; rw [if_pos hq]; congr 2; simp
    rw [e]
    have hk : k ≤ 1 := by omega
    have hi : i ≤ 100 := by omega
    have HQ := Lib.hid hq
    have HE := Lib.hid hv
    clear e hq hr hV h hb0
    obtain ⟨⟨fa, fs, fc⟩, ⟨ba, bs, bc⟩⟩ := d
    simp only [Bds.v, Bed.v] at HE ⊢
    go_enter Try.func12, Try.ntmps12
    go_wp2_with (first
      | (go_at_call 23; refine (isNeedle_any _ _ _ _ HQ.out).mono ?_; rintro e w1 ⟨rfl, hb1⟩; obtain ⟨hc1, hf1⟩ := bcell hb1; have hz1 := hb1.size)
      | (go_at_call 27; refine (on_any ⟨⟨fa, fs, fc⟩, ⟨ba, bs, bc⟩⟩ k i w.heap.size _ (by simp at hz1; omega) hk (by omega) (HO.out.below ((below2 _ _ _).trans (hb1.mono (by simp; omega))))).mono ?_; rintro e w2 ⟨rfl, hb2⟩; obtain ⟨hc2, hf2⟩ := bcell hb2; have hz2 := hb2.size)
      | (go_at_call 26; refine (copied_any _ w.heap.size _ (by simp at hz1; omega) ((((HO.out.below ((below2 _ _ _).trans (hb1.mono (by simp; omega)))).bed k).cel i).below (hb2.mono (by simp at hz1; omega)))).mono ?_; rintro e w3 ⟨c3, rfl, hc3, hb3⟩))
    go_ret
    refine ⟨c3, rfl, hc3, ?_⟩
    have h2 : Below w.heap.size w w1 := (below2 _ _ _).trans (hb1.mono (by simp; omega))
    exact (h2.trans (hb2.mono h2.size)).trans (hb3.mono (Nat.le_trans h2.size hb2.size))
  · have e : d.atM b a = [] := by
      unfold Bds.atM; rw [hq]; rfl
    rw [e]
    have HQ := Lib.hid hq
    clear e hq hV h hb0
    obtain ⟨⟨fa, fs, fc⟩, ⟨ba, bs, bc⟩⟩ := d
    simp only [Bds.v, Bed.v] at hv ⊢
    go_enter Try.func12, Try.ntmps12
    go_wp2_with (first
      | (go_at_call 23; refine (isNeedle_any _ _ _ _ HQ.out).mono ?_; rintro e w1 ⟨rfl, hb1⟩))
    go_ret
    exact ⟨Cel.nil, rfl, Lib.hid ⟨rfl, rfl, Cel.nil_ok _ _⟩, (below2 _ _ _).trans (hb1.mono (by simp; omega))⟩
end Go.Proofs.Ytjjnhmbgffdenaa
