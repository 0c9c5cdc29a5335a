import Derived.Test.YtjjnhmbgffdenaaSmall1
namespace Go.Proofs.Ytjjnhmbgffdenaa
open Go.RowKit

def allNamed (l : List Nm) : Bool := l.all namedB
theorem allNamed_take {l : List Nm} {k : Nat} (h : allNamed (l.take k) = true) (hk : k < l.length) (h1 : namedB l[k] = true) : allNamed (l.take (k + 1)) = true := by
  unfold allNamed at h ⊢
  rw [List.take_succ_eq_append_getElem hk, List.all_append, h]
  simp [h1]
theorem allNamed_no {l : List Nm} {k : Nat} (hk : k < l.length) (h1 : namedB l[k] = false) : allNamed l = false := by
  simp only [allNamed, List.all_eq_false]
  exact ⟨l[k], List.getElem_mem hk, by simp [h1]⟩

theorem areNamed_any (c : Cel) (B : Nat) (w : World) (hB : B ≤ w.heap.size) (h : c.ok B w) :
    Calls Try.prog 24 #[c.v] w fun e w' => e = .returned (.bool (allNamed c.l)) ∧ Below w.heap.size w w' := by
  obtain ⟨ao, l, cap⟩ := c
  have hm : l.length ≤ 100 := h.1
  have HL := Lib.hid (h.mono hB)
  clear h
  obtain ⟨n, hn⟩ : ∃ n, n = l.length := ⟨_, rfl⟩
  simp only [Cel.v]
  rw [← hn] at hm ⊢
  have HN := Lib.hid hn
  clear hn
  go_enter Try.func24, Try.ntmps24
  go_wp2_with fail
  go_loopg [7] (n + 1) (fun g i wr => ∃ k : Nat, k ≤ n ∧ g = n + 1 - k ∧ i = .int .i64 k ∧ allNamed (l.take k) = true ∧ Below w.heap.size w wr)
  case atStart => exact ⟨0, by omega, rfl, rfl, rfl, Below.refl _ _⟩
  case round =>
    obtain ⟨k, hk, hg, rfl, hgs, hb⟩ := hrel
    have HM := Lib.hid hg
    have HGS := Lib.hid hgs
    clear hg hgs
    have hsz := hb.size
    by_cases hlt : k < n
    · have hlt' : k < l.length := by rw [← HN.out]; exact hlt
      obtain ⟨b, o, he, hbb, hf⟩ := (HL.out.below hb).at (i := k) hlt'
      obtain rfl : ao = some ⟨b, o, none⟩ := he
      have hq : namedB l[k] = true ∨ namedB l[k] = false := by cases namedB l[k] <;> simp
      obtain ⟨p, hp⟩ : ∃ p, p = l[k] := ⟨_, rfl⟩
      simp only at hf
      rw [← hp] at hf hq
      have HP := Lib.hid hp
      clear hp
      obtain ⟨y, m⟩ := p
      obtain ⟨c0, c1⟩ := hf
      simp only at c0 c1
      rcases hq with hq | hq
      · have HQ := Lib.hid hq
        clear hq
        go_wp2_with (go_at_call 36; refine (named_any ⟨y, m⟩ _ _ HQ.out).mono ?_; rintro e w1 ⟨rfl, hb1⟩; obtain ⟨hc, hf⟩ := bcell hb1; have hz1 := hb1.size)
        go_roundg (gk - 1)
        case measure => have := HM.out; omega
        case rel =>
          exact ⟨k + 1, by omega, by have := HM.out; omega, by go_num, allNamed_take HGS.out hlt' (by rw [← HP.out]; exact HQ.out), (hb.alloc (by omega) _).trans (hb1.mono (by simp; omega))⟩
      · have HQ := Lib.hid hq
        clear hq
        go_wp2_with (go_at_call 36; refine (named_any ⟨y, m⟩ _ _ HQ.out).mono ?_; rintro e w1 ⟨rfl, hb1⟩; obtain ⟨hc, hf⟩ := bcell hb1; have hz1 := hb1.size)
        go_ret
        exact ⟨ret_bool (allNamed_no hlt' (by rw [← HP.out]; exact HQ.out)).symm, (hb.alloc (by omega) _).trans (hb1.mono (by simp; omega))⟩
    · obtain rfl : k = n := by omega
      go_wp2
      go_ret
      refine ⟨ret_bool ?_, hb⟩
      have := HGS.out
      rw [HN.out, List.take_length] at this
      exact this.symm
end Go.Proofs.Ytjjnhmbgffdenaa
