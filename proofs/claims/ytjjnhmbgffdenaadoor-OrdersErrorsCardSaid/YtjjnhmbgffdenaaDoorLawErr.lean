import Derived.Test.YtjjnhmbgffdenaaDoorGan
import Derived.Test.YtjjnhmbgffdenaaDoorGar
namespace Go.Proofs.YtjjnhmbgffdenaaDoor
open Go.RowKit Go.Sort
set_option maxRecDepth 100000 in
set_option maxHeartbeats 8000000 in
/-- OrdersErrors: true. -/
theorem errors_law (d : Bds) (r : Int) (w : World) (hd : d.lie w) (hs : Stp w) :
    Calls Tryd.prog 8 #[d.v, .int .i64 r] w fun e w' => e = .returned (.bool true) ∧ Below w.heap.size w w' := by
  have HST := Lib.hid (fun (W : World) (hb : RowKit.Below w.heap.size w W) => lives_any W (hs.below hb hs.lt))
  obtain ⟨⟨fa, fs, fc⟩, ⟨ba, bs, bc⟩⟩ := d
  obtain ⟨hf, hbk⟩ := hd
  have HF := Lib.hid hf
  have HK := Lib.hid hbk
  simp only [Bds.v, Bed.v]
  clear hf hbk hs
  have bx := Boxed2.new w 26 (.slice fa fs.length fc) (.slice ba bs.length bc)
  have hb0 := below1 w (.cells #[.slice fa fs.length fc, .slice ba bs.length bc] 26)
  obtain ⟨w2, hw2⟩ : ∃ w2, w.alloc (.cells #[.slice fa fs.length fc, .slice ba bs.length bc] 26) = w2 := ⟨_, rfl⟩
  rw [hw2] at bx hb0
  have x0 := bx.cell0
  have x1 := bx.cell1
  have HB0 := Lib.hid hb0
  have HBX := Lib.hid (fun (W : World) (hb : RowKit.Below w2.heap.size w2 W) => bx.below hb bx.lt)
  have HLV := Lib.hid (HST.out w2 hb0)
  clear bx hb0
  by_cases hn1 : 45 < fs.length
  · have hz1 : (45 : Int) < (fs.length : Int) := by omega
    go_enter Tryd.func8, Tryd.ntmps8
    go_wp2_with (go_at_call 11; refine HLV.out.mono ?_; rintro e w3 ⟨rfl, hb⟩)
    go_ret
    exact ⟨rfl, HB0.out.trans (hb.mono HB0.out.size)⟩
  have hz1 : ¬ ((45 : Int) < (fs.length : Int)) := by omega
  by_cases hn2 : 45 < bs.length
  · have hz2 : (45 : Int) < (bs.length : Int) := by omega
    go_enter Tryd.func8, Tryd.ntmps8
    go_wp2_with (go_at_call 11; refine HLV.out.mono ?_; rintro e w3 ⟨rfl, hb⟩)
    go_ret
    exact ⟨rfl, HB0.out.trans (hb.mono HB0.out.size)⟩
  have hz2 : ¬ ((45 : Int) < (bs.length : Int)) := by omega
  obtain ⟨n1, hfn⟩ : ∃ n, fs.length = n := ⟨_, rfl⟩
  obtain ⟨n2, hbn⟩ : ∃ n, bs.length = n := ⟨_, rfl⟩
  have hl1 : n1 ≤ 45 := by omega
  have hl2 : n2 ≤ 45 := by omega
  rw [hfn, hbn] at hw2
  rw [hfn] at hz1 x0
  rw [hbn] at hz2 x1
  simp only [hfn, hbn] at HBX ⊢
  have HFN := Lib.hid hfn
  have HBN := Lib.hid hbn
  clear hn1 hn2 hfn hbn
  go_enter Tryd.func8, Tryd.ntmps8
  go_wp2_with fail
  (try rw [hw2])
  clear hw2
  go_loopg [5] (n1 + 1) (fun g s5 wr => ∃ i : Nat, s5 = .int .i64 i ∧ i ≤ n1 ∧ g = n1 + 1 - i ∧ w2 = wr ∧ Hid (∀ k c, k < i → fs[k]? = some c → c.l.length ≤ 6))
  case atStart => exact ⟨0, rfl, by omega, by omega, rfl, Lib.hid (fun k c hk => by omega)⟩
  case round =>
    obtain ⟨i, rfl, hi, hg, rfl, hAL⟩ := hrel
    have HG := Lib.hid hg
    clear hg
    by_cases hlt : i < n1
    · have hiz : (i : Int) < (n1 : Int) := by omega
      obtain ⟨c, hc⟩ : ∃ c, fs[i]? = some c := ⟨fs[i]'(by rw [HFN.out]; exact hlt), List.getElem?_eq_getElem _⟩
      obtain ⟨b, o, hao, hce⟩ := HF.out.at HB0.out hc
      obtain rfl : fa = some ⟨b, o, none⟩ := hao
      obtain ⟨ca, cl, cc⟩ := c
      simp only [Cel.v] at hce
      have HCI := Lib.hid hc
      clear hc
      by_cases h6 : 6 < cl.length
      · have h6z : (6 : Int) < (cl.length : Int) := by omega
        go_wp2_with (go_at_call 11; refine HLV.out.mono ?_; rintro e w3 ⟨rfl, hb⟩)
        go_ret
        exact ⟨rfl, HB0.out.trans (hb.mono HB0.out.size)⟩
      · have h6z : ¬ ((6 : Int) < (cl.length : Int)) := by omega
        go_wp2_with fail
        go_roundg (n1 + 1 - (i + 1))
        case measure => have := HG.out; omega
        case rel => exact ⟨i + 1, by go_num, by omega, by omega, rfl, Lib.hid (fun k c hk hkc => by
          by_cases e : k = i
          · subst e; rw [HCI.out] at hkc; cases hkc; simp only; omega
          · exact hAL.out k c (by omega) hkc)⟩
    · obtain rfl : i = n1 := by omega
      have hiz : ¬ ((i : Int) < (i : Int)) := by omega
      go_wp2_with fail
      go_loopg [6] (n2 + 1) (fun g s6 wr => ∃ j : Nat, s6 = .int .i64 j ∧ j ≤ n2 ∧ g = n2 + 1 - j ∧ w2 = wr ∧ Hid (∀ k c, k < j → bs[k]? = some c → c.l.length ≤ 6))
      case atStart => exact ⟨0, rfl, by omega, by omega, rfl, Lib.hid (fun k c hk => by omega)⟩
      case round =>
        obtain ⟨j, rfl, hj, hg, rfl, hAM⟩ := hrel
        have HG2 := Lib.hid hg
        clear hg
        by_cases hlt2 : j < n2
        · have hjz : (j : Int) < (n2 : Int) := by omega
          obtain ⟨c, hc⟩ : ∃ c, bs[j]? = some c := ⟨bs[j]'(by rw [HBN.out]; exact hlt2), List.getElem?_eq_getElem _⟩
          obtain ⟨b, o, hao, hce⟩ := HK.out.at HB0.out hc
          obtain rfl : ba = some ⟨b, o, none⟩ := hao
          obtain ⟨ca, cl, cc⟩ := c
          simp only [Cel.v] at hce
          have HCI := Lib.hid hc
          clear hc
          by_cases h6 : 6 < cl.length
          · have h6z : (6 : Int) < (cl.length : Int) := by omega
            go_wp2_with (go_at_call 11; refine HLV.out.mono ?_; rintro e w3 ⟨rfl, hb⟩)
            go_ret
            exact ⟨rfl, HB0.out.trans (hb.mono HB0.out.size)⟩
          · have h6z : ¬ ((6 : Int) < (cl.length : Int)) := by omega
            go_wp2_with fail
            go_roundg (n2 + 1 - (j + 1))
            case measure => have := HG2.out; omega
            case rel => exact ⟨j + 1, by go_num, by omega, by omega, rfl, Lib.hid (fun k c hk hkc => by
              by_cases e : k = j
              · subst e; rw [HCI.out] at hkc; cases hkc; simp only; omega
              · exact hAM.out k c (by omega) hkc)⟩
        · obtain rfl : j = n2 := by omega
          have hjz : ¬ ((j : Int) < (j : Int)) := by omega
          have hsix : ∀ (n : Nat) (cs : List Cel), cs.length = n → (∀ k c, k < n → cs[k]? = some c → c.l.length ≤ 6) → ∀ c ∈ cs, c.l.length ≤ 100 := fun n cs hn h c hc => by
            obtain ⟨k, hk, rfl⟩ := List.getElem_of_mem hc
            have := h k _ (by omega) (List.getElem?_eq_getElem hk)
            omega
          have hok : Bds.ok w.heap.size w ⟨⟨fa, fs, fc⟩, ⟨ba, bs, bc⟩⟩ := ⟨HF.out.ok (by simp only; rw [HFN.out]; omega) (hsix i fs HFN.out hAL.out), HK.out.ok (by simp only; rw [HBN.out]; omega) (hsix j bs HBN.out hAM.out)⟩
          have HOK := Lib.hid (fun (W : World) (hb : RowKit.Below w2.heap.size w2 W) => hok.below (HB0.out.trans (hb.mono HB0.out.size)))
          have hws := fun (W : World) (hb : RowKit.Below w2.heap.size w2 W) => Nat.le_trans HB0.out.size hb.size
          obtain ⟨c, hc⟩ : ∃ c, chkM ⟨⟨fa, fs, fc⟩, ⟨ba, bs, bc⟩⟩ = c := ⟨_, rfl⟩
          have hk1 := fun (W : World) (hb : RowKit.Below w2.heap.size w2 W) => check_all ⟨⟨fa, fs, fc⟩, ⟨ba, bs, bc⟩⟩ w.heap.size W (hws W hb) (HOK.out W hb)
          rw [hc] at hk1
          simp only [Bds.v, Bed.v, HFN.out, HBN.out] at hk1
          have HK1 := Lib.hid hk1
          have HB := Lib.hid (Below.refl w2.heap.size w2)
          clear hsix hok hk1
          by_cases h0 : c = 0
          · subst h0
            clear hc
            go_wp2_with (first
              | (go_at_call 19; refine (HK1.out _ HB.out).mono ?_; rintro e w3 ⟨rfl, hb⟩; replace HB := Lib.hid (HB.out.trans (hb.mono HB.out.size)); clear hb)
              | (go_at_call 11; refine (HST.out _ (HB0.out.trans (HB.out.mono HB0.out.size))).mono ?_; rintro e w4 ⟨rfl, hb⟩; replace HB := Lib.hid (HB.out.trans (hb.mono HB.out.size)); clear hb))
            go_ret
            exact ⟨rfl, HB0.out.trans (HB.out.mono HB0.out.size)⟩
          · have hcz : (c == 0) = false := by simp [h0]
            have hk2 := fun (W : World) (hb : RowKit.Below w2.heap.size w2 W) => list_err ⟨⟨fa, fs, fc⟩, ⟨ba, bs, bc⟩⟩ r w.heap.size W (hws W hb) (HOK.out W hb) c hc h0
            have hk3 := fun (W : World) (hb : RowKit.Below w2.heap.size w2 W) => step_err ⟨⟨fa, fs, fc⟩, ⟨ba, bs, bc⟩⟩ r 0 w.heap.size W (hws W hb) (HOK.out W hb) c hc h0
            have hk4 := fun (W : World) (hb : RowKit.Below w2.heap.size w2 W) => meets_err ⟨⟨fa, fs, fc⟩, ⟨ba, bs, bc⟩⟩ r 1 8 w.heap.size W (hws W hb) (HOK.out W hb) c hc h0
            simp only [Bds.v, Bed.v, HFN.out, HBN.out] at hk2 hk3 hk4
            have HK2 := Lib.hid hk2
            have HK3 := Lib.hid hk3
            have HK4 := Lib.hid hk4
            clear hk2 hk3 hk4 hc h0
            go_wp2_with (first
              | (go_at_call 19; refine (HK1.out _ HB.out).mono ?_; rintro e w3 ⟨rfl, hb⟩; replace HB := Lib.hid (HB.out.trans (hb.mono HB.out.size)); clear x0 x1; have x0 := (HBX.out _ HB.out).cell0; have x1 := (HBX.out _ HB.out).cell1; clear hb)
              | (go_at_call 10; refine (HK2.out _ HB.out).mono ?_; rintro e w4 ⟨rfl, hb⟩; replace HB := Lib.hid (HB.out.trans (hb.mono HB.out.size)); clear x0 x1; have x0 := (HBX.out _ HB.out).cell0; have x1 := (HBX.out _ HB.out).cell1; clear hb)
              | (go_at_call 16; refine (HK3.out _ HB.out).mono ?_; rintro e w5 ⟨rfl, hb⟩; replace HB := Lib.hid (HB.out.trans (hb.mono HB.out.size)); clear x0 x1; have x0 := (HBX.out _ HB.out).cell0; have x1 := (HBX.out _ HB.out).cell1; clear hb)
              | (go_at_call 17; refine (HK4.out _ HB.out).mono ?_; rintro e w6 ⟨rfl, hb⟩; replace HB := Lib.hid (HB.out.trans (hb.mono HB.out.size)); clear x0 x1; have x0 := (HBX.out _ HB.out).cell0; have x1 := (HBX.out _ HB.out).cell1; clear hb)
              | (go_at_call 11; refine (HST.out _ (HB0.out.trans (HB.out.mono HB0.out.size))).mono ?_; rintro e w7 ⟨rfl, hb⟩; replace HB := Lib.hid (HB.out.trans (hb.mono HB.out.size)); clear x0 x1; have x0 := (HBX.out _ HB.out).cell0; have x1 := (HBX.out _ HB.out).cell1; clear hb))
            go_ret
            exact ⟨rfl, HB0.out.trans (HB.out.mono HB0.out.size)⟩
end Go.Proofs.YtjjnhmbgffdenaaDoor
