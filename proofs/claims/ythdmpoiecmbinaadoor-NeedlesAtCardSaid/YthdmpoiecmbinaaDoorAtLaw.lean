import Derived.Test.YthdmpoiecmbinaaDoorSpots
import Derived.Test.YthdmpoiecmbinaaDoorOrder
import Derived.Deep.LoopGhost
namespace Go.Proofs.YthdmpoiecmbinaaDoor
open Go.RowKit

theorem atlaw_rack (s r : Int) (h : r < -4 ∨ 4 < r) (w : World) :
    Calls Tryd.prog 4 #[.int .i64 s, .int .i64 r] w fun e w' => e = .returned (.bool true) ∧ Below w.heap.size w w' := by
  have HV := Lib.hid (show ¬ (-4 ≤ r ∧ r ≤ 4) by omega)
  rcases h with h | h
  · go_enter Tryd.func4, Tryd.ntmps4
    go_wp2_with (go_at_call 13; refine (at_rack s r _ HV.out).mono ?_; rintro e w1 ⟨rfl, hb⟩; refine Hid.out ?_)
    have z1 := hb.size
    have B1 := hb
    clear hb
    refine Lib.hid ?_
    go_wp2_with (go_at_call 12; refine (lives _).mono ?_; rintro e w2 ⟨rfl, hb⟩; refine Hid.out ?_)
    have B2 : Below w.heap.size w w2 := (B1.alloc (by omega) _).trans (hb.mono (by simp <;> omega))
    clear hb
    refine Lib.hid ?_
    go_wp2
    go_ret
    exact ⟨rfl, B2⟩
  · have h' : -4 ≤ r := by omega
    go_enter Tryd.func4, Tryd.ntmps4
    go_wp2_with (go_at_call 13; refine (at_rack s r _ HV.out).mono ?_; rintro e w1 ⟨rfl, hb⟩; refine Hid.out ?_)
    have z1 := hb.size
    have B1 := hb
    clear hb
    refine Lib.hid ?_
    go_wp2_with (go_at_call 12; refine (lives _).mono ?_; rintro e w2 ⟨rfl, hb⟩; refine Hid.out ?_)
    have B2 : Below w.heap.size w w2 := (B1.alloc (by omega) _).trans (hb.mono (by simp <;> omega))
    clear hb
    refine Lib.hid ?_
    go_wp2
    go_ret
    exact ⟨rfl, B2⟩

set_option maxHeartbeats 2000000 in
theorem atlaw_found (s r b a : Int) (J : Nat) (hJ : (J : Int) % 80 / 40 = b ∧ 1 + (J : Int) % 40 = a) (hJ80 : J < 80) (hb0 : b = 0 ∨ b = 1) (h1 : 1 ≤ a) (h2 : a ≤ 40) (h3 : -4 ≤ r) (h4 : r ≤ 4) (hs : spt b a r = s) (w : World) :
    Calls Tryd.prog 4 #[.int .i64 s, .int .i64 r] w fun e w' => e = .returned (.bool true) ∧ Below w.heap.size w w' := by
  have HB := Lib.hid hb0
  have HS := Lib.hid hs
  have HJ := Lib.hid hJ
  clear hb0 hs hJ
  have hd1 : decide (r < -4) = false := by simp; omega
  have hd2 : decide (4 < r) = false := by simp; omega
  go_enter Tryd.func4, Tryd.ntmps4
  go_wp2_with (go_at_call 13; refine (at_found s b a r _ HB.out h1 h2 h3 h4 HS.out).mono ?_; rintro e w1 ⟨rfl, hb⟩; refine Hid.out ?_)
  have z1 := hb.size
  have B1 := hb
  clear hb
  refine Lib.hid ?_
  go_wp2_with fail
  go_loopg [7, 9] 81 (fun g many i wr => ∃ (k : Nat) (m wb wa : Int), k ≤ 80 ∧ g = 81 - k ∧ many = .int .i64 m ∧ i = .int .i64 k ∧ ((m = 0 ∧ wb = 0 ∧ wa = 0 ∧ k ≤ J) ∨ (m = 1 ∧ wb = b ∧ wa = a ∧ J < k)) ∧
    Own wr w1.heap.size b a ∧ Own wr (w1.heap.size + 1) wb wa ∧ Below w.heap.size w wr)
  case atStart => exact ⟨0, 0, 0, 0, by omega, rfl, rfl, rfl, Or.inl ⟨rfl, rfl, rfl, by omega⟩, Own.alloc (Own.new b a rfl) _, Own.new 0 0 (by simp), (B1.alloc (by omega) _).alloc (by simp; omega) _⟩
  case round =>
    obtain ⟨k, m, wb, wa, hk, hg, rfl, rfl, hm, o5, o8, hB⟩ := hrel
    have HG := Lib.hid hg
    have HM := Lib.hid hm
    clear hg hm
    have zr : w1.heap.size + 1 < wr.heap.size := o8.2.2.2.2
    by_cases hk80 : k < 80
    · obtain ⟨nb, hnb⟩ : ∃ nb : Int, (k : Int) % 80 / 40 = nb := ⟨_, rfl⟩
      obtain ⟨na, hna⟩ : ∃ na : Int, 1 + (k : Int) % 40 = na := ⟨_, rfl⟩
      obtain ⟨p1, p2, p3⟩ := needle_parts k
      obtain ⟨ns, hns⟩ : ∃ ns : Int, spt nb na r = ns := ⟨_, rfl⟩
      have hp : nb = 0 ∨ nb = 1 := by rw [← hnb]; exact p1
      rw [hna] at p2 p3
      have HNB := Lib.hid hnb
      have HNA := Lib.hid hna
      have HNS := Lib.hid hns
      have HP := Lib.hid hp
      clear hnb hna hns hp p1
      by_cases he : k = J
      · have hn : nb = b ∧ na = a := by rw [← HNB.out, ← HNA.out, he]; exact HJ.out
        obtain ⟨rfl, rfl⟩ := hn
        obtain rfl : ns = s := HNS.out.symm.trans HS.out
        have hm : m = 0 ∧ wb = 0 ∧ wa = 0 := by rcases HM.out with h | h <;> omega
        obtain ⟨rfl, rfl, rfl⟩ := hm
        have HE := Lib.hid he
        clear he
        go_wp2_with (go_at_call 15; refine (lneedle_is k nb na _ (by omega) (by omega) HNB.out HNA.out).mono ?_; rintro e v1 ⟨rfl, hb⟩; refine Hid.out ?_)
        have y1 := hb.size
        replace o5 := Own.below hb o5
        replace o8 := Own.below hb o8
        have C1 : Below w.heap.size w v1 := hB.trans (hb.mono (by omega))
        clear hb
        refine Lib.hid ?_
        go_wp2_with (go_at_call 14; refine (lspot_is nb na r ns _ HP.out p2 p3 h3 h4 HNS.out).mono ?_; rintro e v2 ⟨rfl, hb⟩; refine Hid.out ?_)
        have y2 := hb.size
        simp at y2
        replace o5 := Own.below hb (o5.alloc _)
        replace o8 := Own.below hb (o8.alloc _)
        have o10 : Own v2 v1.heap.size nb na := Own.below hb (Own.new nb na rfl)
        have C2 : Below w.heap.size w v2 := (C1.alloc (by omega) _).trans (hb.mono (by simp <;> omega))
        clear hb
        obtain ⟨c0, c1, -, -, -, -⟩ := o10.facts
        obtain ⟨d0, d1, f0, f1, -, -⟩ := o8.facts
        refine Lib.hid ?_
        go_wp2
        go_roundg (gk - 1)
        case measure => have := HG.out; omega
        case rel => exact ⟨k + 1, 1, nb, na, by omega, by have := HG.out; omega, rfl, by go_num, Or.inr ⟨rfl, rfl, rfl, by have := HE.out; omega⟩, o5.set (by omega) _ _, o8.store nb na, (C2.setCell (by simp; omega) _).setCell (by simp; omega) _⟩
      · have hn : ns ≠ s := fun h => by
          obtain ⟨g1, g2⟩ := spt_inj HP.out HB.out (HNS.out.trans (h.trans HS.out.symm))
          have := HNB.out; have := HNA.out; have := HJ.out; omega
        have hb : (ns == s) = false := by simpa using hn
        clear hn
        go_wp2_with (go_at_call 15; refine (lneedle_is k nb na _ (by omega) (by omega) HNB.out HNA.out).mono ?_; rintro e v1 ⟨rfl, hb⟩; refine Hid.out ?_)
        have y1 := hb.size
        replace o5 := Own.below hb o5
        replace o8 := Own.below hb o8
        have C1 : Below w.heap.size w v1 := hB.trans (hb.mono (by omega))
        clear hb
        refine Lib.hid ?_
        go_wp2_with (go_at_call 14; refine (lspot_is nb na r ns _ HP.out p2 p3 h3 h4 HNS.out).mono ?_; rintro e v2 ⟨rfl, hb⟩; refine Hid.out ?_)
        have y2 := hb.size
        simp at y2
        replace o5 := Own.below hb (o5.alloc _)
        replace o8 := Own.below hb (o8.alloc _)
        have o10 : Own v2 v1.heap.size nb na := Own.below hb (Own.new nb na rfl)
        have C2 : Below w.heap.size w v2 := (C1.alloc (by omega) _).trans (hb.mono (by simp <;> omega))
        clear hb
        refine Lib.hid ?_
        go_wp2
        go_roundg (gk - 1)
        case measure => have := HG.out; omega
        case rel => exact ⟨k + 1, m, wb, wa, by omega, by have := HG.out; omega, rfl, by go_num, by have := HM.out; omega, o5, o8, C2⟩
    · obtain rfl : k = 80 := by omega
      have hm : m = 1 ∧ wb = b ∧ wa = a := by rcases HM.out with h | h <;> omega
      obtain ⟨rfl, rfl, rfl⟩ := hm
      obtain ⟨c0, c1, -, -, -, -⟩ := o5.facts
      obtain ⟨d0, d1, -, -, -, -⟩ := o8.facts
      go_wp2_with (go_at_call 12; refine (lives _).mono ?_; rintro e w2 ⟨rfl, hb⟩; refine Hid.out ?_)
      have B2 : Below w.heap.size w w2 := hB.trans (hb.mono (by omega))
      clear hb
      refine Lib.hid ?_
      go_wp2
      go_ret
      exact ⟨rfl, B2⟩

set_option maxHeartbeats 1000000 in
theorem atlaw_none (s r : Int) (n0 : NoBed 0 r s) (n1 : NoBed 1 r s) (h3 : -4 ≤ r) (h4 : r ≤ 4) (w : World) :
    Calls Tryd.prog 4 #[.int .i64 s, .int .i64 r] w fun e w' => e = .returned (.bool true) ∧ Below w.heap.size w w' := by
  have hd1 : decide (r < -4) = false := by simp; omega
  have hd2 : decide (4 < r) = false := by simp; omega
  go_enter Tryd.func4, Tryd.ntmps4
  go_wp2_with (go_at_call 13; refine (at_none s r _ h3 h4 n0 n1).mono ?_; rintro e w1 ⟨rfl, hb⟩; refine Hid.out ?_)
  have z1 := hb.size
  have B1 := hb
  clear hb
  refine Lib.hid ?_
  go_wp2_with fail
  go_loopg [7, 9] 81 (fun g many i wr => ∃ k : Nat, k ≤ 80 ∧ g = 81 - k ∧ many = .int .i64 0 ∧ i = .int .i64 k ∧ Own wr w1.heap.size 0 0 ∧ Below w.heap.size w wr)
  case atStart => exact ⟨0, by omega, rfl, rfl, rfl, Own.alloc (Own.new 0 0 rfl) _, (B1.alloc (by omega) _).alloc (by simp; omega) _⟩
  case round =>
    obtain ⟨k, hk, hg, rfl, rfl, o5, hB⟩ := hrel
    have HG := Lib.hid hg
    clear hg
    have zr : w1.heap.size < wr.heap.size := o5.2.2.2.2
    by_cases hk80 : k < 80
    · obtain ⟨nb, hnb⟩ : ∃ nb : Int, (k : Int) % 80 / 40 = nb := ⟨_, rfl⟩
      obtain ⟨na, hna⟩ : ∃ na : Int, 1 + (k : Int) % 40 = na := ⟨_, rfl⟩
      obtain ⟨p1, p2, p3⟩ := needle_parts k
      obtain ⟨ns, hns⟩ : ∃ ns : Int, spt nb na r = ns := ⟨_, rfl⟩
      have hp : nb = 0 ∨ nb = 1 := by rw [← hnb]; exact p1
      rw [hna] at p2 p3
      have hn : ns ≠ s := by
        rw [← hns]
        rcases hp with rfl | rfl
        · exact n0 na p2 p3
        · exact n1 na p2 p3
      have hb : (ns == s) = false := by simpa using hn
      have HNB := Lib.hid hnb
      have HNA := Lib.hid hna
      have HNS := Lib.hid hns
      have HP := Lib.hid hp
      clear hnb hna hns hp p1 hn
      go_wp2_with (go_at_call 15; refine (lneedle_is k nb na _ (by omega) (by omega) HNB.out HNA.out).mono ?_; rintro e v1 ⟨rfl, hb⟩; refine Hid.out ?_)
      have y1 := hb.size
      replace o5 := Own.below hb o5
      have C1 : Below w.heap.size w v1 := hB.trans (hb.mono (by omega))
      clear hb
      refine Lib.hid ?_
      go_wp2_with (go_at_call 14; refine (lspot_is nb na r ns _ HP.out p2 p3 h3 h4 HNS.out).mono ?_; rintro e v2 ⟨rfl, hb⟩; refine Hid.out ?_)
      replace o5 := Own.below hb (o5.alloc _)
      have C2 : Below w.heap.size w v2 := (C1.alloc (by omega) _).trans (hb.mono (by simp <;> omega))
      clear hb
      refine Lib.hid ?_
      go_wp2
      go_roundg (gk - 1)
      case measure => have := HG.out; omega
      case rel => exact ⟨k + 1, by omega, by have := HG.out; omega, rfl, by go_num, o5, C2⟩
    · obtain rfl : k = 80 := by omega
      obtain ⟨c0, c1, -, -, -, -⟩ := o5.facts
      go_wp2_with (go_at_call 12; refine (lives _).mono ?_; rintro e w2 ⟨rfl, hb⟩; refine Hid.out ?_)
      have B2 : Below w.heap.size w w2 := hB.trans (hb.mono (by omega))
      clear hb
      refine Lib.hid ?_
      go_wp2
      go_ret
      exact ⟨rfl, B2⟩

theorem atlaw_all (s r : Int) (w : World) :
    Calls Tryd.prog 4 #[.int .i64 s, .int .i64 r] w fun e w' => e = .returned (.bool true) ∧ Below w.heap.size w w' := by
  by_cases hr : -4 ≤ r ∧ r ≤ 4
  · by_cases hf : ∃ b a : Int, (b = 0 ∨ b = 1) ∧ 1 ≤ a ∧ a ≤ 40 ∧ spt b a r = s
    · obtain ⟨b, a, g1, g2, g3, g4⟩ := hf
      exact atlaw_found s r b a (40 * b + a - 1).toNat (by omega) (by omega) g1 g2 g3 hr.1 hr.2 g4 w
    · exact atlaw_none s r (fun a h1 h2 h => hf ⟨0, a, by omega, h1, h2, h⟩) (fun a h1 h2 h => hf ⟨1, a, by omega, h1, h2, h⟩) hr.1 hr.2 w
  · exact atlaw_rack s r (by omega) w

end Go.Proofs.YthdmpoiecmbinaaDoor
