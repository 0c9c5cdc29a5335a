import Derived.Test.YtjjnhmbgffdenaaSmall1
import Derived.Test.YtjjnhmbgffdenaaEq
import Derived.Deep.QuietTactic
namespace Go.Proofs.Ytjjnhmbgffdenaa
open Go.RowKit Go.Sort

theorem index_any (c : Cel) (p : Nm) (B : Nat) (w : World) (hB : B ≤ w.heap.size) (h : c.ok B w) :
    Calls Try.prog 37 #[c.v, .agg #[.int .u8 p.y, .int .i64 p.n]] w fun e w' => (∃ r : Int, e = .returned (.int .i64 r) ∧ Hid (decide (0 ≤ r) = decide (p ∈ c.l))) ∧ Below w.heap.size w w' := by
  obtain ⟨ao, l, cap⟩ := c
  obtain ⟨y, n⟩ := p
  have hm : l.length ≤ 100 := h.1
  have HL := Lib.hid (h.mono hB)
  clear h
  simp only [Cel.v]
  obtain ⟨N, hN⟩ : ∃ N, N = l.length := ⟨_, rfl⟩
  rw [← hN] at hm ⊢
  have HN := Lib.hid hN
  clear hN
  go_enter Try.func37, Try.ntmps37
  go_wp2_with fail
  go_loopg [8] (N + 1) (fun g i wr => ∃ k : Nat, k ≤ N ∧ g = N + 1 - k ∧ i = .int .i64 k ∧ Hid (∀ q ∈ l.take k, q ≠ ⟨y, n⟩) ∧ Below w.heap.size w wr ∧ Hid (wr.cell? ⟨w.heap.size, 0, none⟩ = some (.int .u8 y) ∧ wr.cell? ⟨w.heap.size, 1, none⟩ = some (.int .i64 n)))
  case atStart => exact ⟨0, by omega, rfl, rfl, Lib.hid (fun _ h => by simp at h), below1 _ _, Lib.hid (by constructor <;> go_simp)⟩
  case round =>
    obtain ⟨k, hk, hg, rfl, HG, hb, HC⟩ := hrel
    have HM := Lib.hid hg
    clear hg
    have hsz := hb.size
    obtain ⟨p0, p1⟩ := HC.out
    by_cases hlt : k < N
    · have hlt' : k < l.length := by rw [← HN.out]; exact hlt
      obtain ⟨b, o, he, hbb, hf⟩ := (HL.out.below hb).at (i := k) hlt'
      obtain rfl : ao = some ⟨b, o, none⟩ := he
      obtain ⟨q, hq⟩ : ∃ q, q = l[k] := ⟨_, rfl⟩
      simp only at hf
      rw [← hq] at hf
      have HQ := Lib.hid hq
      clear hq
      obtain ⟨y', n'⟩ := q
      obtain ⟨c0, c1⟩ := hf
      simp only at c0 c1
      have hq : sameNm y n y' n' = true ∨ sameNm y n y' n' = false := by cases sameNm y n y' n' <;> simp
      rcases hq with hq | hq
      · have heq := fun w => eql28 hq w
        have HS := Lib.hid (sameNm_iff.1 hq)
        clear hq
        go_wp2_with fail
        go_quiet (fail)
        go_wp2
        go_ret
        refine ⟨⟨k, rfl, Lib.hid ?_⟩, below_drewN hb _⟩
        have h1 : (⟨y, n⟩ : Nm) ∈ l := by rw [HS.out, HQ.out]; exact List.getElem_mem hlt'
        simp [h1]
      · have heq := fun w => eql28 hq w
        have HS := Lib.hid (sameNm_no hq)
        clear hq
        go_wp2_with fail
        go_quiet (fail)
        go_wp2
        go_roundg (gk - 1)
        case measure => have := HM.out; omega
        case rel =>
          refine ⟨k + 1, by omega, by have := HM.out; omega, by go_num, Lib.hid ?_, below_drewN hb _, Lib.hid ⟨p0, p1⟩⟩
          rw [List.take_succ_eq_append_getElem hlt']
          intro q hq
          rcases List.mem_append.1 hq with h | h
          · exact HG.out q h
          · rw [List.mem_singleton.1 h, ← HQ.out]; exact fun e => HS.out e.symm
    · obtain rfl : k = N := by omega
      go_wp2
      go_ret
      refine ⟨⟨-1, rfl, Lib.hid ?_⟩, hb⟩
      have := HG.out
      rw [HN.out, List.take_length] at this
      have h2 : ¬ (⟨y, n⟩ : Nm) ∈ l := fun h => this _ h rfl
      simp [h2]

theorem contains_any (c : Cel) (p : Nm) (B : Nat) (w : World) (hB : B ≤ w.heap.size) (h : c.ok B w) :
    Calls Try.prog 28 #[c.v, .agg #[.int .u8 p.y, .int .i64 p.n]] w fun e w' => e = .returned (.bool (decide (p ∈ c.l))) ∧ Below w.heap.size w w' := by
  have HL := Lib.hid (h.mono hB)
  clear h
  go_enter Try.func28, Try.ntmps28
  go_wp2_with (go_at_call 37; refine (index_any c p w.heap.size _ (by simp) (HL.out.below (below1 _ _))).mono ?_; rintro e w1 ⟨⟨r, rfl, hr⟩, hb1⟩)
  go_ret
  exact ⟨ret_bool hr.out, (below1 _ _).trans (hb1.mono (by simp))⟩

theorem equal_any (c d : Cel) (B : Nat) (w : World) (hB : B ≤ w.heap.size) (h : c.ok B w) (h' : d.ok B w) :
    Calls Try.prog 39 #[c.v, d.v] w fun e w' => e = .returned (.bool (decide (c.l = d.l))) ∧ Below w.heap.size w w' := by
  obtain ⟨ao, l, cap⟩ := c
  obtain ⟨ao', l', cap'⟩ := d
  have hm : l.length ≤ 100 := h.1
  have hm' : l'.length ≤ 100 := h'.1
  have HL := Lib.hid (h.mono hB)
  have HL' := Lib.hid (h'.mono hB)
  clear h h'
  simp only [Cel.v]
  obtain ⟨N, hN⟩ : ∃ N, N = l.length := ⟨_, rfl⟩
  obtain ⟨N', hN'⟩ : ∃ N', N' = l'.length := ⟨_, rfl⟩
  rw [← hN] at hm ⊢
  rw [← hN'] at hm' ⊢
  have HN := Lib.hid hN
  have HN' := Lib.hid hN'
  clear hN hN'
  by_cases hne : N = N'
  · subst hne
    go_enter Try.func39, Try.ntmps39
    go_wp2_with fail
    go_loopg [13] (N + 1) (fun g i wr => ∃ k : Nat, k ≤ N ∧ g = N + 1 - k ∧ i = .int .i64 k ∧ Hid (l.take k = l'.take k) ∧ Below w.heap.size w wr)
    case atStart => exact ⟨0, by omega, rfl, rfl, Lib.hid rfl, Below.refl _ _⟩
    case round =>
      obtain ⟨k, hk, hg, rfl, HG, hb⟩ := hrel
      have HM := Lib.hid hg
      clear hg
      have hsz := hb.size
      by_cases hlt : k < N
      · have hlt' : k < l.length := by rw [← HN.out]; exact hlt
        have hlt2 : k < l'.length := by rw [← HN'.out]; exact hlt
        obtain ⟨b, o, he, hbb, hf⟩ := (HL.out.below hb).at (i := k) hlt'
        obtain rfl : ao = some ⟨b, o, none⟩ := he
        obtain ⟨b', o', he', hbb', hf'⟩ := (HL'.out.below hb).at (i := k) hlt2
        obtain rfl : ao' = some ⟨b', o', none⟩ := he'
        obtain ⟨q, hq⟩ : ∃ q, q = l[k] := ⟨_, rfl⟩
        obtain ⟨q', hq'⟩ : ∃ q, q = l'[k] := ⟨_, rfl⟩
        simp only at hf hf'
        rw [← hq] at hf
        rw [← hq'] at hf'
        have HQ := Lib.hid hq
        have HQ' := Lib.hid hq'
        clear hq hq'
        obtain ⟨y, n⟩ := q
        obtain ⟨y', n'⟩ := q'
        obtain ⟨c0, c1⟩ := hf
        obtain ⟨c0', c1'⟩ := hf'
        simp only at c0 c1 c0' c1'
        have hq : sameNm y n y' n' = true ∨ sameNm y n y' n' = false := by cases sameNm y n y' n' <;> simp
        rcases hq with hq | hq
        · have heq := fun w => neq28 hq w
          have HS := Lib.hid (sameNm_iff.1 hq)
          clear hq
          go_wp2_with fail
          go_quiet (fail)
          go_wp2
          go_roundg (gk - 1)
          case measure => have := HM.out; omega
          case rel =>
            refine ⟨k + 1, by omega, by have := HM.out; omega, by go_num, Lib.hid ?_, below_drewN hb _⟩
            rw [List.take_succ_eq_append_getElem hlt', List.take_succ_eq_append_getElem hlt2, HG.out, ← HQ.out, ← HQ'.out, HS.out]
        · have heq := fun w => neq28 hq w
          have HS := Lib.hid (sameNm_no hq)
          clear hq
          go_wp2_with fail
          go_quiet (fail)
          go_wp2
          go_ret
          refine ⟨ret_bool ?_, below_drewN hb _⟩
          have h1 : l ≠ l' := fun e => by
            subst e
            exact HS.out (by rw [HQ.out, HQ'.out])
          simp [h1]
      · obtain rfl : k = N := by omega
        go_wp2
        go_ret
        refine ⟨ret_bool ?_, hb⟩
        have := HG.out
        rw [List.take_of_length_le (by rw [HN.out]; exact Nat.le_refl _), List.take_of_length_le (by rw [HN'.out]; exact Nat.le_refl _)] at this
        simp [this]
  · have h1 : l ≠ l' := fun e => hne (by rw [HN.out, HN'.out, e])
    have h2 : ((N : Int) != (N' : Int)) = true := by simp; omega
    have H1 := Lib.hid h1
    clear h1 hne
    go_enter Try.func39, Try.ntmps39
    go_wp2_with fail
    go_ret
    refine ⟨ret_bool ?_, Below.refl _ _⟩
    have := H1.out
    simp [this]

/-- 'same' of the statements: 1 if the lists are equal, and the first one has no spare room. -/
def sameR (c d : Cel) : Int := if c.l = d.l ∧ c.cap = c.l.length then 1 else 0
theorem same_any (c d : Cel) (B : Nat) (w : World) (hB : B ≤ w.heap.size) (h : c.ok B w) (h' : d.ok B w) :
    Calls Try.prog 20 #[c.v, d.v] w fun e w' => e = .returned (.int .i64 (sameR c d)) ∧ Below w.heap.size w w' := by
  obtain ⟨ao, l, cap⟩ := c
  obtain ⟨ao', l', cap'⟩ := d
  have hm : l.length ≤ 100 := h.1
  have hm' : l'.length ≤ 100 := h'.1
  have HL := Lib.hid (h.mono hB)
  have HL' := Lib.hid (h'.mono hB)
  clear h h'
  simp only [Cel.v]
  obtain ⟨R, hR⟩ : ∃ R, R = sameR ⟨ao, l, cap⟩ ⟨ao', l', cap'⟩ := ⟨_, rfl⟩
  rw [← hR]
  have HR := Lib.hid hR
  clear hR
  obtain ⟨N, hN⟩ : ∃ N, N = l.length := ⟨_, rfl⟩
  obtain ⟨N', hN'⟩ : ∃ N', N' = l'.length := ⟨_, rfl⟩
  rw [← hN] at hm ⊢
  rw [← hN'] at hm' ⊢
  have HN := Lib.hid hN
  have HN' := Lib.hid hN'
  clear hN hN'
  by_cases hne : N = N'
  · subst hne
    by_cases hcap : cap = N
    · subst hcap
      go_enter Try.func20, Try.ntmps20
      go_wp2_with fail
      go_loopg [5] (cap + 1) (fun g i wr => ∃ k : Nat, k ≤ cap ∧ g = cap + 1 - k ∧ i = .int .i64 k ∧ Hid (l.take k = l'.take k) ∧ Below w.heap.size w wr)
      case atStart => exact ⟨0, by omega, rfl, rfl, Lib.hid rfl, Below.refl _ _⟩
      case round =>
        obtain ⟨k, hk, hg, rfl, HG, hb⟩ := hrel
        have HM := Lib.hid hg
        clear hg
        have hsz := hb.size
        by_cases hlt : k < cap
        · have hlt' : k < l.length := by rw [← HN.out]; exact hlt
          have hlt2 : k < l'.length := by rw [← HN'.out]; exact hlt
          obtain ⟨b, o, he, hbb, hf⟩ := (HL.out.below hb).at (i := k) hlt'
          obtain rfl : ao = some ⟨b, o, none⟩ := he
          obtain ⟨b', o', he', hbb', hf'⟩ := (HL'.out.below hb).at (i := k) hlt2
          obtain rfl : ao' = some ⟨b', o', none⟩ := he'
          obtain ⟨q, hq⟩ : ∃ q, q = l[k] := ⟨_, rfl⟩
          obtain ⟨q', hq'⟩ : ∃ q, q = l'[k] := ⟨_, rfl⟩
          simp only at hf hf'
          rw [← hq] at hf
          rw [← hq'] at hf'
          have HQ := Lib.hid hq
          have HQ' := Lib.hid hq'
          clear hq hq'
          obtain ⟨y, n⟩ := q
          obtain ⟨y', n'⟩ := q'
          obtain ⟨c0, c1⟩ := hf
          obtain ⟨c0', c1'⟩ := hf'
          simp only at c0 c1 c0' c1'
          have hq : sameNm y n y' n' = true ∨ sameNm y n y' n' = false := by cases sameNm y n y' n' <;> simp
          rcases hq with hq | hq
          · have heq := fun w => neq28 hq w
            have HS := Lib.hid (sameNm_iff.1 hq)
            clear hq
            go_wp2_with fail
            go_quiet (fail)
            go_wp2
            go_roundg (gk - 1)
            case measure => have := HM.out; omega
            case rel =>
              refine ⟨k + 1, by omega, by have := HM.out; omega, by go_num, Lib.hid ?_, below_drewN hb _⟩
              rw [List.take_succ_eq_append_getElem hlt', List.take_succ_eq_append_getElem hlt2, HG.out, ← HQ.out, ← HQ'.out, HS.out]
          · have heq := fun w => neq28 hq w
            have HS := Lib.hid (sameNm_no hq)
            clear hq
            go_wp2_with fail
            go_quiet (fail)
            go_wp2
            go_ret
            refine ⟨ret_int ?_, below_drewN hb _⟩
            have h1 : l ≠ l' := fun e => by
              subst e
              exact HS.out (by rw [HQ.out, HQ'.out])
            rw [HR.out]; simp [sameR, h1]
        · obtain rfl : k = cap := by omega
          go_wp2
          go_ret
          refine ⟨ret_int ?_, hb⟩
          have := HG.out
          rw [List.take_of_length_le (by rw [HN.out]; exact Nat.le_refl _), List.take_of_length_le (by rw [HN'.out]; exact Nat.le_refl _)] at this
          rw [HR.out]; simp [sameR, this, ← HN'.out]
    · have h2 : ((cap : Int) != (N : Int)) = true := by simp; omega
      have HC := Lib.hid hcap
      clear hcap
      go_enter Try.func20, Try.ntmps20
      go_wp2_with fail
      go_ret
      refine ⟨ret_int ?_, Below.refl _ _⟩
      have := HC.out
      rw [HR.out]; simp [sameR, ← HN.out, this]
  · have h1 : l ≠ l' := fun e => hne (by rw [HN.out, HN'.out, e])
    have h2 : ((N : Int) != (N' : Int)) = true := by simp; omega
    have H1 := Lib.hid h1
    clear h1 hne
    go_enter Try.func20, Try.ntmps20
    go_wp2_with fail
    go_ret
    refine ⟨ret_int ?_, Below.refl _ _⟩
    have := H1.out
    rw [HR.out]; simp [sameR, this]
end Go.Proofs.Ytjjnhmbgffdenaa
