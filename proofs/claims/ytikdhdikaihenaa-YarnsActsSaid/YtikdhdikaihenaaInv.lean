import Derived.Test.YtikdhdikaihenaaBehind
namespace Go.Proofs.Ytikdhdikaihenaa
open Go.RowKit Go.Sort

theorem cellsOf_set (ps : List Ps) : ∀ (i : Nat) (p : Ps), i < ps.length →
    ((((cellsOf ps).set (i * 4) (.int .u8 p.y)).set (i * 4 + 1) (.int .i64 p.n)).set (i * 4 + 2) (.bool p.f)).set (i * 4 + 3) (.int .u8 p.d) = cellsOf (ps.set i p) := by
  induction ps with
  | nil => intro i p h; simp at h
  | cons q ps ih =>
    intro i p h
    cases i with
    | zero => simp [cellsOf_cons]
    | succ i =>
      have := ih i p (by simpa using h)
      rw [show (i + 1) * 4 = i * 4 + 4 by omega, List.set_cons_succ, cellsOf_cons, cellsOf_cons, ← this]
      simp [Nat.add_right_comm]

set_option maxHeartbeats 1000000 in
theorem inverse_any (ao : Option Addr) (ps : List Ps) (n cap : Nat) (w : World) (hn : n = ps.length) (hm : 24 * n ≤ 281474976710656) (h : Lie w ao ps) :
    Calls Try.prog 16 #[.slice ao n cap] w fun e w' => Made w.heap.size w w' e (inv ps) := by
  have HN := Lib.hid hn
  have HL := Lib.hid h
  have K := Lib.hid (copied_any ao ps n cap w hn hm h)
  clear hn h
  have hm2 : n ≤ 11728124029610 := by omega
  go_enter Try.func16, Try.ntmps16
  go_wp2_with (go_at_call 24; refine K.out.mono ?_; rintro e w3 ⟨bo, rfl, ho, hb3⟩; refine Hid.out ?_)
  rw [← HN.out] at ho ⊢
  have HO := Lib.hid ho
  clear ho K
  refine Lib.hid ?_
  go_wp2_with fail
  go_loopg [10] (n + 1) (fun g i wr => ∃ k : Nat, k ≤ n ∧ g = n + 1 - k ∧ i = .int .i64 k ∧ (∃ cur : List Ps, Hid (cur.length = n ∧ (∀ i, i < k → cur[n - 1 - i]? = some (bck (ps.getD i Ps.nil))) ∧ wr.ownsRow w.heap.size 33 4 (.slice bo n n) n (cellsOf cur))) ∧ Below w.heap.size w wr)
  case atStart => exact ⟨0, by omega, rfl, rfl, ⟨ps, HN.out.symm, fun i hi => absurd hi (by omega), HO.out⟩, hb3⟩
  case round =>
    obtain ⟨k, hk, hg, rfl, ⟨cur, HC⟩, hb⟩ := hrel
    have HM := Lib.hid hg
    clear hg
    have hsz := hb.size
    by_cases hlt : k < n
    · obtain ⟨b, o, rfl, hbb, hf⟩ := Lie.at (HL.out.below hb) (i := k) (by rw [← HN.out]; exact hlt)
      obtain ⟨g, rfl, hgB, hgz⟩ : ∃ g, bo = some ⟨g, 0, none⟩ ∧ w.heap.size ≤ g ∧ g < wr.heap.size := by
        rcases HC.out.2.2.2 with ⟨_, h0⟩ | ⟨g, cap, cr, hv, hb, hg, _⟩
        · omega
        · exact ⟨g, by simpa using (Value.slice.inj hv).1, hb, (Array.getElem?_eq_some_iff.1 hg).1⟩
      obtain ⟨p, hp⟩ : ∃ p, p = ps.getD k Ps.nil := ⟨_, rfl⟩
      rw [← hp] at hf
      have HP := Lib.hid hp
      clear hp
      obtain ⟨y, m, f, d⟩ := p
      obtain ⟨c0, c1, c2, c3⟩ := hf
      simp only at c0 c1 c2 c3
      go_wp2_with (go_at_call 25; refine (back_any _ _ _ _ _).mono ?_; rintro e w4 ⟨rfl, hb4⟩; refine Hid.out ?_)
      have hb5 : Below wr.heap.size wr w4 := (below1 _ _).trans (hb4.mono (by simp))
      have hO4 := owns_below HC.out.2.2 hb5
      have hb6 : Below w.heap.size w w4 := hb.trans (hb5.mono hsz)
      clear hb4 hb5 c0 c1 c2 c3
      have x0 := hO4.cellAt ((n - 1 - k) * 4) (by omega)
      have x1 := hO4.cellAt ((n - 1 - k) * 4 + 1) (by omega)
      have x2 := hO4.cellAt ((n - 1 - k) * 4 + 2) (by omega)
      have x3 := hO4.cellAt ((n - 1 - k) * 4 + 3) (by omega)
      obtain ⟨r, hr⟩ : ∃ r, cur[n - 1 - k]? = some r := ⟨_, List.getElem?_eq_getElem (by have := HC.out.1; omega)⟩
      obtain ⟨a0, a1, a2, a3⟩ := cellsOf_at cur _ r hr
      rw [a0] at x0
      rw [a1] at x1
      rw [a2] at x2
      rw [a3] at x3
      have f0 := hO4.frozenAt
      have HO4 := Lib.hid hO4
      clear a0 a1 a2 a3 hr hO4
      refine Lib.hid ?_
      go_wp2_with fail
      obtain ⟨d', hd'⟩ : ∃ d', d' = (bck ⟨y, m, f, d⟩).d := ⟨_, rfl⟩
      rw [← hd']
      have s1 := (HO4.out.stored ((n - 1 - k) * 4) (.int .u8 y)).1
      have s2 := (s1.stored ((n - 1 - k) * 4 + 1) (.int .i64 m)).1
      have s3 := (s2.stored ((n - 1 - k) * 4 + 2) (.bool f)).1
      have s4 := (s3.stored ((n - 1 - k) * 4 + 3) (.int .u8 d')).1
      rw [cellsOf_set cur (n - 1 - k) ⟨y, m, f, d'⟩ (by have := HC.out.1; omega)] at s4
      have hb7 := (((hb6.setCell (p := ⟨g, (n - 1 - k) * 4, none⟩) hgB (.int .u8 y)).setCell (p := ⟨g, (n - 1 - k) * 4 + 1, none⟩) hgB (.int .i64 m)).setCell (p := ⟨g, (n - 1 - k) * 4 + 2, none⟩) hgB (.bool f)).setCell (p := ⟨g, (n - 1 - k) * 4 + 3, none⟩) hgB (.int .u8 d')
      go_roundg (gk - 1)
      case measure => have := HM.out; omega
      case rel =>
        refine ⟨k + 1, by omega, by have := HM.out; omega, by go_num, ⟨cur.set (n - 1 - k) ⟨y, m, f, d'⟩, by simpa using HC.out.1, fun i hi => ?_, s4⟩, hb7⟩
        by_cases e : i = k
        · subst e
          rw [List.getElem?_set_self (by have := HC.out.1; omega), ← HP.out, hd']
          rfl
        · rw [List.getElem?_set_ne (by omega)]
          exact HC.out.2.1 i (by omega)
    · obtain rfl : k = n := by omega
      go_wp2
      go_ret
      obtain ⟨c1, c2, c3⟩ := HC.out
      have e : cur = inv ps := by
        apply List.ext_getElem?
        intro i
        by_cases hi : i < k
        · have := c2 (k - 1 - i) (by omega)
          rw [show k - 1 - (k - 1 - i) = i by omega] at this
          rw [this, inv, List.getElem?_reverse (by simp; rw [← HN.out]; exact hi), List.getElem?_map, List.length_map, ← HN.out]
          rw [List.getElem?_eq_getElem (show k - 1 - i < ps.length by rw [← HN.out]; omega)]
          simp [List.getD, List.getElem?_eq_getElem (show k - 1 - i < ps.length by rw [← HN.out]; omega)]
        · rw [List.getElem?_eq_none (by omega), List.getElem?_eq_none (by simp [inv, ← HN.out]; omega)]
      have e2 : (inv ps).length = k := by rw [← e]; exact c1
      refine ⟨bo, by rw [e2]; rfl, by rw [e2, ← e]; exact c3, hb⟩

end Go.Proofs.Ytikdhdikaihenaa
