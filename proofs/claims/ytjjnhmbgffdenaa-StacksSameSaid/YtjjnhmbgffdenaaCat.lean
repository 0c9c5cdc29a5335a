import Derived.Test.YtjjnhmbgffdenaaSpread
import Derived.Lib.AppendZeros
namespace Go.Proofs.Ytjjnhmbgffdenaa
open Go.RowKit Go.Sort

theorem grow_any (n : Nat) (hn : n ≤ 1000) (w : World) :
    Calls Try.prog 40 #[.slice none 0 0, .int .i64 n] w fun e w' => (∃ v, e = .returned v ∧ Hid (w'.ownsRow w.heap.size 28 2 v 0 (cellsOf []))) ∧ Below w.heap.size w w' := by
  obtain ⟨i0, hi, hz0, hz1, hz2⟩ := info_parts info28
  by_cases h0 : n = 0
  · subst h0
    clear hi hz0 hz1 hz2
    go_enter Try.func40, Try.ntmps40
    go_wp2
    go_ret
    exact ⟨⟨_, rfl, Lib.hid (World.ownsRow_nil _ _ _ _)⟩, Below.refl _ _⟩
  · have hr := Lib.run_append_nil_zeros (P := Try.prog) w 29 3 29 28 i0 zero28 .i64 .i64 Try.underlying29 Try.underlying3 hi hz0 n (by omega) (by rw [hz1]; omega) (by omega) (by rw [hz2]; omega)
    have hpos : (0 : Int) < n := by omega
    have hge := grownCap_ge w n 0 28
    have hle := grownCap_le_maxLen w n 0 28 (by unfold maxLen; omega)
    obtain ⟨C, hC⟩ : ∃ C, C = grownCap w n 0 28 := ⟨_, rfl⟩
    obtain ⟨A, hA⟩ : ∃ A, A = Builtin.zeroCells zero28.cells n ++ Builtin.zeroCells zero28.cells (grownCap w n 0 28 - n) := ⟨_, rfl⟩
    have hAs : A.size = C * 2 := by
      rw [hA, Array.size_append, size_zeroCells, size_zeroCells, ← hC]
      have : zero28.cells.size = 2 := rfl
      rw [this]; omega
    rw [← hA] at hr
    rw [← hC] at hr hge hle
    have HA := Lib.hid hAs
    have HR := Lib.hid hr
    clear hr hi hz0 hz1 hz2 hA hC hAs
    go_enter Try.func40, Try.ntmps40
    go_wp2_with (at_builtin; refine Lib.wpList_append_run _ rfl _ _ 29 3 rfl _ _ rfl rfl _ _ HR.out ?_)
    go_ret
    refine ⟨⟨_, rfl, Lib.hid ⟨rfl, .inr ⟨w.heap.size, C, A, rfl, Nat.le_refl _, ?_, Nat.zero_le _, hle, HA.out, by simp [cellsOf]⟩⟩⟩, (below1 _ _).drew⟩
    exact heap_alloc_new w _

def catL (cs : List Cel) : List Nm := (cs.map fun c => c.l).flatten
theorem catL_take_succ (cs : List Cel) {k : Nat} (hk : k < cs.length) : catL (cs.take (k + 1)) = catL (cs.take k) ++ cs[k].l := by
  unfold catL
  rw [List.take_succ_eq_append_getElem hk, List.map_append, List.flatten_append]
  simp only [List.map_cons, List.map_nil, List.flatten_cons, List.flatten_nil, List.append_nil]
theorem catL_take_le (cs : List Cel) (k : Nat) : (catL (cs.take k)).length ≤ (catL cs).length := by
  have h : catL cs = catL (cs.take k) ++ catL (cs.drop k) := by
    unfold catL
    rw [← List.flatten_append, ← List.map_append, List.take_append_drop]
  rw [h, List.length_append]
  exact Nat.le_add_right _ _
/-- A list in the call's own memory. -/
def NewOwn (l : List Nm) (w : World) (e : Ending) (w' : World) : Prop := ∃ c : Cel, e = .returned c.v ∧ Hid (c.l = l ∧ c.ok w'.heap.size w') ∧ Below w.heap.size w w'

set_option maxRecDepth 100000 in
set_option maxHeartbeats 1000000 in
theorem concat_any (d : Bed) (B : Nat) (w : World) (hB : B ≤ w.heap.size) (h : d.ok B w) (h100 : (catL d.cs).length ≤ 100) :
    Calls Try.prog 33 #[d.v] w (NewOwn (catL d.cs) w) := by
  obtain ⟨ao, cs, cap⟩ := d
  have hm : cs.length ≤ 100 := h.1
  have HL : Hid (Bed.ok w.heap.size w ⟨ao, cs, cap⟩) := Lib.hid (h.mono hB)
  have H100 : Hid ((catL cs).length ≤ 100) := Lib.hid h100
  clear h h100
  simp only [Bed.v]
  obtain ⟨N, hN⟩ : ∃ N, N = cs.length := ⟨_, rfl⟩
  rw [← hN] at hm ⊢
  have HN := Lib.hid hN
  clear hN
  go_enter Try.func33, Try.ntmps33
  go_wp2_with fail
  go_loopg [3, 11] (N + 1) (fun g s i wr => ∃ k : Nat, k ≤ N ∧ g = N + 1 - k ∧ i = .int .i64 k ∧ s = .int .i64 ((catL (cs.take k)).length : Nat) ∧ wr = w)
  case atStart => exact ⟨0, by omega, rfl, rfl, rfl, rfl⟩
  case round =>
    obtain ⟨k, hk, hg, rfl, rfl, rfl⟩ := hrel
    have HM := Lib.hid hg
    clear hg
    have hle := catL_take_le cs k
    have h100 := H100.out
    by_cases hlt : k < N
    · have hlt' : k < cs.length := by rw [← HN.out]; exact hlt
      obtain ⟨b, o, he, hbb, hcc⟩ := HL.out.at (i := k) hlt'
      obtain rfl : ao = some ⟨b, o, none⟩ := he
      have hsuc := catL_take_succ cs hlt'
      have hle2 := catL_take_le cs (k + 1)
      obtain ⟨ca, cl, cc, hce⟩ : ∃ ca cl cc, cs[k] = ⟨ca, cl, cc⟩ := ⟨_, _, _, rfl⟩
      simp only at hcc
      rw [hce] at hcc hsuc
      simp only [Cel.v] at hcc hsuc
      have hlen : (catL (cs.take (k + 1))).length = (catL (cs.take k)).length + cl.length := by rw [hsuc, List.length_append]
      obtain ⟨S, hS⟩ : ∃ S, S = (catL (cs.take k)).length := ⟨_, rfl⟩
      rw [← hS] at hle hlen ⊢
      have HLEN := Lib.hid hlen
      have hb1 : S + cl.length ≤ 100 := by omega
      clear hce hsuc hlen hS hle hle2 h100
      go_wp2_with fail
      go_roundg (gk - 1)
      case measure => have := HM.out; omega
      case rel => exact ⟨k + 1, by omega, by have := HM.out; omega, by go_num, by rw [HLEN.out]; go_num, rfl⟩
    · obtain rfl : k = N := by omega
      have hfull : cs.take k = cs := by rw [HN.out, List.take_length]
      rw [hfull]
      obtain ⟨S, hS⟩ : ∃ S, S = (catL cs).length := ⟨_, rfl⟩
      rw [← hS] at h100 ⊢
      have HS := Lib.hid hS
      clear hS hfull hle
      have W0r : ∃ W0 : World, W0 = wr := ⟨_, rfl⟩
      obtain ⟨W0, hW0⟩ := W0r
      subst hW0
      go_wp2_with (go_at_call 40; refine (grow_any S (by omega) _).mono ?_; rintro e w1 ⟨⟨v0, rfl, hv0⟩, hb1⟩)
      go_loopg [6, 27] (k + 1) (fun g s i wr => ∃ j : Nat, j ≤ k ∧ g = k + 1 - j ∧ i = .int .i64 j ∧ Hid (wr.ownsRow W0.heap.size 28 2 s (catL (cs.take j)).length (cellsOf (catL (cs.take j)))) ∧ Below W0.heap.size W0 wr)
      case atStart => exact ⟨0, by omega, rfl, rfl, hv0, hb1⟩
      case round =>
        obtain ⟨j, hj, hg, rfl, hown, hb⟩ := hrel
        have HMj := Lib.hid hg
        clear hg
        have hle := catL_take_le cs j
        have hsz := hb.size
        by_cases hlt : j < k
        · have hlt' : j < cs.length := by rw [← HN.out]; exact hlt
          obtain ⟨b, o, he, hbb, hcc⟩ := (HL.out.below hb).at (i := j) hlt'
          obtain rfl : ao = some ⟨b, o, none⟩ := he
          have hsuc := catL_take_succ cs hlt'
          obtain ⟨ca, cl, cc, hce⟩ : ∃ ca cl cc, cs[j] = ⟨ca, cl, cc⟩ := ⟨_, _, _, rfl⟩
          have hok : Cel.ok W0.heap.size wr ⟨ca, cl, cc⟩ := by
            have := (HL.out.below hb).2.1 cs[j] (List.getElem_mem hlt')
            rwa [hce] at this
          simp only at hcc
          rw [hce] at hcc hsuc
          simp only [Cel.v] at hcc hsuc
          have HSUC := Lib.hid hsuc
          have HOK := Lib.hid hok
          have hS9 := HS.out
          have hle100 : (catL (cs.take j)).length ≤ 100 := by omega
          clear hce hsuc hok hle hS9
          go_wp2_with (refine wpList_append_cel rfl rfl rfl hown.out ⟨ca, cl, cc⟩ rfl HOK.out (by omega) hsz ?_; intro v2 w2 hown2 hgr2)
          have HO2 := Lib.hid hown2
          have hB2 : Below W0.heap.size wr w2 := (Below.refl _ wr).grown hgr2 hsz (fun r e => by
            rcases hown.out.2 with ⟨h1, _⟩ | ⟨g, cap', cur, h1, hg1, _⟩
            · rw [h1] at e; cases e
            · rw [h1] at e; cases e; exact hg1)
          clear hown2
          go_wp2
          go_roundg (gk - 1)
          case measure => have := HMj.out; omega
          case rel =>
            refine ⟨j + 1, by omega, by have := HMj.out; omega, by go_num, Lib.hid ?_, hb.trans hB2⟩
            rw [HSUC.out, List.length_append]
            exact HO2.out
        · obtain rfl : j = k := by omega
          have hfull : cs.take j = cs := by rw [HN.out, List.take_length]
          rw [hfull] at hown
          obtain ⟨c, hc1, hc2, hc3, hc4⟩ := ok_of_owns hown.out H100.out
          subst hc1
          have HC2 := Lib.hid hc2
          clear hc2
          go_wp2
          go_ret
          exact ⟨c, rfl, Lib.hid ⟨HC2.out, hc4⟩, hb⟩
end Go.Proofs.Ytjjnhmbgffdenaa
