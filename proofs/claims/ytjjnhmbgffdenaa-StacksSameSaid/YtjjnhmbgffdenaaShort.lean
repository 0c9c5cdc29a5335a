import Derived.Test.YtjjnhmbgffdenaaSpread
namespace Go.Proofs.Ytjjnhmbgffdenaa
open Go.RowKit Go.Sort

/-- The cells of a bed, one by one. -/
theorem Bed.ok.cells {B : Nat} {w : World} {d : Bed} (h : d.ok B w) : ∀ ad, d.ao = some ad → ∀ j u, (d.cs.map Cel.v)[j]? = some u → w.cell? (ad.add j) = some u := by
  rintro ad e j u hj
  obtain ⟨ao, cs, cap⟩ := d
  obtain rfl : ao = some ad := e
  rcases h.2.2 with h0 | ⟨b, o, h1, h2, h3⟩
  · simp only at h0 hj; subst h0; simp at hj
  · obtain rfl : ad = ⟨b, o, none⟩ := by simpa using h1
    rw [show (⟨b, o, none⟩ : Addr).add j = ⟨b, o + j, none⟩ from Addr.add_lit ..]
    simp only at hj
    rw [List.getElem?_map] at hj
    cases hc : cs[j]? with
    | none => rw [hc] at hj; cases hj
    | some c =>
      rw [hc] at hj
      obtain rfl : c.v = u := by simpa using hj
      exact h3 j c hc

/-- A bed in new memory that has no room for more. -/
def NewBed (cs : List Cel) (w : World) (e : Ending) (w' : World) : Prop := ∃ d : Bed, e = .returned d.v ∧ Hid (d.cs = cs ∧ d.cap = cs.length ∧ d.ok w'.heap.size w' ∧ ∀ b o, d.ao = some ⟨b, o, none⟩ → w.heap.size ≤ b) ∧ Below w.heap.size w w'

theorem copiedL_any (d : Bed) (B : Nat) (w : World) (hB : B ≤ w.heap.size) (h : d.ok B w) :
    Calls Try.prog 41 #[d.v] w (NewBed d.cs w) := by
  obtain ⟨ao, ps, cap⟩ := d
  have hm : ps.length ≤ 100 := h.1
  have HL := Lib.hid (h.mono hB)
  clear h
  simp only [Bed.v]
  obtain ⟨n, hn⟩ : ∃ n, n = ps.length := ⟨_, rfl⟩
  rw [← hn] at hm ⊢
  have HN := Lib.hid hn
  clear hn
  by_cases h0 : n = 0
  · subst h0
    obtain rfl : ps = [] := List.eq_nil_of_length_eq_zero HN.out.symm
    go_enter Try.func41, Try.ntmps41
    go_wp2
    go_ret
    exact ⟨⟨none, [], 0⟩, rfl, Lib.hid ⟨rfl, rfl, ⟨by simp, fun c hc => by simp at hc, .inl rfl⟩, fun b o h => by cases h⟩, Below.refl _ _⟩
  · obtain ⟨b, o, he, hb, -⟩ := HL.out.at (i := 0) (by simp only; rw [← HN.out]; omega)
    obtain rfl : ao = some ⟨b, o, none⟩ := he
    have hmk := fun w => run_mkL (n : Int) n rfl (by omega) w
    obtain ⟨i0, hi, hz0, hz1, hz2⟩ := info_parts info29
    have hlen : (ps.map Cel.v).length = n * 1 := by rw [List.length_map, HN.out, Nat.mul_one]
    have hsz : (madeCells #[Value.slice none 0 0] n).size = n := size_madeCells _ _
    have hone : ∀ v ∈ ps.map Cel.v, v.oneCell' = true := fun v hv => by
      obtain ⟨c, _, rfl⟩ := List.mem_map.1 hv; rfl
    have hcp : (Builtin.copy_ #[33, 33] 3 #[.slice (some ⟨w.heap.size, 0, none⟩) n n, .slice (some ⟨b, o, none⟩) n cap]).run Try.prog (w.alloc (.cells (madeCells #[.slice none 0 0] n) 29)) = .ok (goInt n) (w.alloc (.cells (ps.map Cel.v).toArray 29)) := by
      have := run_copy_all (P := Try.prog) (w.alloc (.cells (madeCells #[.slice none 0 0] n) 29)) 33 33 3 29 w.heap.size n n ⟨b, o, none⟩ cap 1 (madeCells #[.slice none 0 0] n) 29 (ps.map Cel.v) Try.underlying33 i0 hi hz1 (heap_alloc_new w _) hlen
        ((HL.out.below (below1 w _)).cells _ rfl) (by rw [hsz, hlen]; omega) hone
      rw [this, setRow_alloc, List.drop_of_length_le (by rw [Array.length_toList, hsz, hlen]; omega), List.append_nil]
    have HLEN := Lib.hid hlen
    have h00 : ((n : Int) == 0) = false := by simp; omega
    clear hi hz0 hz1 hz2 hlen hsz hone
    go_enter Try.func41, Try.ntmps41
    go_wp2_with fail
    go_ret
    refine ⟨⟨some ⟨w.heap.size, 0, none⟩, ps, n⟩, by simp [Bed.v, HN.out], Lib.hid ⟨rfl, HN.out, ⟨?_, fun c hc => ?_, ?_⟩, fun b o h => by cases h; exact Nat.le_refl _⟩, below1 _ _⟩
    · simp only; rw [← HN.out]; exact hm
    · exact ((HL.out.2.1 c hc).below (below1 _ _)).mono (by simp)
    · refine .inr ⟨w.heap.size, 0, rfl, by simp, fun i c hc => ?_⟩
      rw [cell_of_row _ _ _ _ _ (0, 0) (heap_alloc_new w _)]
      simp only at hc
      simp [hc]

/-- A value that is a slice. -/
def IsSl (v : Value) : Prop := ∃ a n c, v = .slice a n c
theorem Cel.ok.set_box {n : Nat} {w : World} {c : Cel} (h : c.ok n w) {B t : Nat} {u v : Value} (hb : Boxed2 w B t u v) (hu : IsSl u) (hv : IsSl v) (k : Nat) (x : Value) : c.ok n (w.setCell ⟨B, k, none⟩ x) := by
  refine ⟨h.1, h.2.imp id ?_⟩
  rintro ⟨b, o, e, hl, hc⟩
  refine ⟨b, o, e, hl, fun i p hp => ?_⟩
  have h2 := hc i p hp
  have hne : b ≠ B := by
    rintro rfl
    have h3 := h2.1
    obtain ⟨_, _, _, rfl⟩ := hu
    obtain ⟨_, _, _, rfl⟩ := hv
    simp only [World.cell?, show w.heap[b]? = _ from hb, Option.bind_some] at h3
    generalize o + i * 2 = q at h3
    match q, h3 with
    | 0, h3 => simp at h3
    | 1, h3 => simp at h3
    | q + 2, h3 => simp at h3
  exact ⟨by rw [World.cell?_setCell_other _ _ _ _ (by simp [hne])]; exact h2.1, by rw [World.cell?_setCell_other _ _ _ _ (by simp [hne])]; exact h2.2⟩
theorem Bed.ok.set_box {n : Nat} {w : World} {d : Bed} (h : d.ok n w) {B t : Nat} {u v : Value} (hb : Boxed2 w B t u v) (hu : IsSl u) (hv : IsSl v) (hne : ∀ b o, d.ao = some ⟨b, o, none⟩ → b ≠ B) (k : Nat) (x : Value) : d.ok n (w.setCell ⟨B, k, none⟩ x) := by
  refine ⟨h.1, fun c hc => (h.2.1 c hc).set_box hb hu hv k x, h.2.2.imp id ?_⟩
  rintro ⟨b, o, e, hl, hc⟩
  refine ⟨b, o, e, hl, fun i c hci => ?_⟩
  have h9 := hne b o e
  rw [World.cell?_setCell_other _ _ _ _ (by simp [h9])]
  exact hc i c hci
theorem isSl_mk (a : Option Addr) (n c : Nat) : IsSl (.slice a n c) := ⟨_, _, _, rfl⟩
/-- What 'short' leaves. -/
def shortN (cs : List Cel) (n : Nat) : Prop := n ≤ cs.length ∧ (∀ i, n ≤ i → ∀ c, cs[i]? = some c → c.l = []) ∧ ∀ c, 0 < n → cs[n - 1]? = some c → c.l ≠ []
/-- The first stacks of a bed. -/
def Bed.take (d : Bed) (n : Nat) : Bed := ⟨d.ao, d.cs.take n, d.cap⟩
theorem Bed.ok.take {B : Nat} {w : World} {d : Bed} (h : d.ok B w) (n : Nat) : (d.take n).ok B w := by
  refine ⟨?_, fun c hc => h.2.1 c (List.mem_of_mem_take hc), ?_⟩
  · simp only [Bed.take, List.length_take]; have := h.1; omega
  · rcases h.2.2 with h0 | ⟨b, o, h1, h2, h3⟩
    · exact .inl (by simp [Bed.take, h0])
    · refine .inr ⟨b, o, h1, h2, fun i c hc => h3 i c ?_⟩
      simp only [Bed.take] at hc
      rw [List.getElem?_take] at hc
      split at hc
      · exact hc
      · cases hc

set_option maxHeartbeats 1000000 in
theorem short_any (d : Bed) (B : Nat) (w : World) (hB : B ≤ w.heap.size) (h : d.ok B w) (hcap : d.cs.length ≤ d.cap) (hcm : d.cap ≤ 100) :
    Calls Try.prog 38 #[d.v] w fun e w' => ∃ n, Hid (shortN d.cs n) ∧ NewBed (d.cs.take n) w e w' := by
  have HT := Lib.hid (h.mono hB)
  obtain ⟨ao, ps, cap⟩ := d
  have hm : ps.length ≤ 100 := h.1
  have HL : Hid (Bed.ok w.heap.size w ⟨ao, ps, cap⟩) := HT
  simp only at hcap hcm
  clear h HT
  simp only [Bed.v]
  obtain ⟨N, hN⟩ : ∃ N, N = ps.length := ⟨_, rfl⟩
  rw [← hN] at hm hcap ⊢
  have HN := Lib.hid hN
  clear hN
  go_enter Try.func38, Try.ntmps38
  go_wp2_with fail
  go_loopg [3] (N + 1) (fun g i wr => ∃ n : Nat, n ≤ N ∧ g = n + 1 ∧ i = .int .i64 n ∧ Hid (∀ i, n ≤ i → ∀ c, ps[i]? = some c → c.l = []) ∧ wr = w)
  case atStart => exact ⟨N, Nat.le_refl _, rfl, rfl, Lib.hid (fun i hi c hc => (by
    rw [List.getElem?_eq_none (by rw [← HN.out]; exact hi)] at hc; cases hc)), rfl⟩
  case round =>
    obtain ⟨n, hn, hg, rfl, HG, rfl⟩ := hrel
    have HM := Lib.hid hg
    clear hg
    have fin : ∀ wx, Below wr.heap.size wr wx → True := fun _ _ => trivial
    clear fin
    by_cases h0 : 0 < n
    · have hlt : n - 1 < ps.length := by rw [← HN.out]; omega
      obtain ⟨b, o, he, hbb, hcc⟩ := HL.out.at (i := n - 1) hlt
      obtain rfl : ao = some ⟨b, o, none⟩ := he
      obtain ⟨k, rfl⟩ : ∃ k, n = k + 1 := ⟨n - 1, by omega⟩
      have hlt2 : k < ps.length := hlt
      have hcc2 : wr.cell? ⟨b, o + k, none⟩ = some (ps[k]'hlt2).v := hcc
      clear hcc
      have hcc := hcc2
      clear hcc2
      obtain ⟨ca, cl, cc, hce⟩ : ∃ ca cl cc, ps[k] = ⟨ca, cl, cc⟩ := ⟨_, _, _, rfl⟩
      rw [hce] at hcc
      simp only [Cel.v] at hcc
      have HCE : Hid (ps[k]? = some ⟨ca, cl, cc⟩) := Lib.hid (by rw [List.getElem?_eq_getElem hlt2, hce])
      have hkN : k < N := by omega
      have hcl : cl.length ≤ 100 := (HL.out.2.1 ⟨ca, cl, cc⟩ (List.mem_of_getElem? HCE.out)).1
      clear hce
      by_cases hl0 : cl.length = 0
      · have HL0 := Lib.hid hl0
        have hq : ((cl.length : Int) == 0) = true := by simp; exact List.eq_nil_of_length_eq_zero hl0
        clear hl0
        go_wp2_with fail
        go_roundg (gk - 1)
        case measure => have := HM.out; omega
        case rel =>
          refine ⟨k, by omega, by have := HM.out; omega, by simp, Lib.hid fun i hi c hc => ?_, rfl⟩
          by_cases e : i = k
          · subst e
            rw [HCE.out] at hc
            cases hc
            exact List.eq_nil_of_length_eq_zero HL0.out
          · exact HG.out i (by omega) c hc
      · have HL0 := Lib.hid hl0
        have hq : ((cl.length : Int) == 0) = false := by simp; exact fun h => hl0 (by rw [h]; rfl)
        clear hl0
        have HTK := Lib.hid (copiedL_any (Bed.take ⟨some ⟨b, o, none⟩, ps, cap⟩ (k + 1)) wr.heap.size wr (Nat.le_refl _) (HL.out.take _))
        have hcall : Calls Try.prog 41 #[.slice (some ⟨b, o, none⟩) (k + 1) cap] wr (NewBed (ps.take (k + 1)) wr) := by
          have := HTK.out
          simp only [Bed.take, Bed.v, List.length_take] at this
          rwa [Nat.min_eq_left (by omega)] at this
        have HC := Lib.hid hcall
        clear hcall HTK
        go_wp2_with (go_at_call 41; refine HC.out.mono ?_; rintro e w1 ⟨d2, rfl, hd2, hb1⟩)
        go_ret
        refine ⟨k + 1, Lib.hid ⟨by rw [← HN.out]; omega, HG.out, fun c _ hc => ?_⟩, d2, rfl, hd2, hb1⟩
        simp only [Nat.add_sub_cancel] at hc
        rw [HCE.out] at hc
        cases hc
        exact fun h => HL0.out (by have h9 : cl = [] := h; rw [h9]; rfl)
    · obtain rfl : n = 0 := by omega
      have HTK := Lib.hid (copiedL_any (Bed.take ⟨ao, ps, cap⟩ 0) wr.heap.size wr (Nat.le_refl _) (HL.out.take _))
      have hcall : Calls Try.prog 41 #[.slice ao 0 cap] wr (NewBed (ps.take 0) wr) := HTK.out
      have HC := Lib.hid hcall
      clear hcall HTK
      go_wp2_with (go_at_call 41; refine HC.out.mono ?_; rintro e w1 ⟨d2, rfl, hd2, hb1⟩)
      go_ret
      exact ⟨0, Lib.hid ⟨Nat.zero_le _, HG.out, fun c h => absurd h (by omega)⟩, d2, rfl, hd2, hb1⟩
end Go.Proofs.Ytjjnhmbgffdenaa
