import Derived.Test.YtgaofkbmnapogaaGae
import Derived.Test.YtgaofkbmnapogaaGad
namespace Go.Proofs.Ytgaofkbmnapogaa
open Go.RowKit Go.Sort
def toPs (p : Pa) : Ya.Ps := ⟨p.id.y, p.id.n, p.f, p.d⟩
def redL (l : List Pa) : List Ya.Ps := Ya.red (l.map toPs)
theorem lie_ps {N : Nat} {w : World} {s : Sl Pa} (h : s.lie Pa.enc N w) (hN : N ≤ w.heap.size) : Ya.Lie w s.ao (s.l.map toPs) := by
  rcases h with h | ⟨b, o, h1, h2, h3⟩
  · exact .inl (by rw [h]; rfl)
  · refine .inr ⟨b, o, h1, by omega, fun i p hp => ?_⟩
    rw [List.getElem?_map] at hp
    cases hx : s.l[i]? with
    | none => rw [hx] at hp; simp at hp
    | some x =>
      rw [hx] at hp
      obtain rfl : toPs x = p := by simpa using hp
      obtain ⟨b', o', e1, _, c0, c1, c2, c3⟩ := Sl.lie.pa (.inr ⟨b, o, h1, h2, h3⟩) hx
      rw [h1] at e1
      obtain ⟨rfl, rfl⟩ : b = b' ∧ o = o' := by simpa using e1
      exact ⟨c0, c1, c2, c3⟩
def rightM (T : List (List Lq)) (q : Lq) : Bool := decide (q.bed = 0 ∨ q.bed = 1) && decide (q.th.length ≤ 4) && decide (q.pa.length ≤ 4096) && q.th.all (there T) && (q.pa.all fun p => there T p.id && decide (p.d = 0 ∨ p.d = 1)) && decide ((redL q.pa).length = q.pa.length)
set_option maxRecDepth 100000 in
set_option maxHeartbeats 4000000 in
theorem isRight_any (t : Tb) (x : Lp) (N : Nat) (w : World) (hN : N ≤ w.heap.size) (ht : Tb.ok N w t) (hx : x.ok N w) :
    Calls Try.prog 36 #[t.v, x.v] w fun e w' => e = .returned (.bool (rightM t.sem x.q)) ∧ Below w.heap.size w w' := by
  have hk26 := fun (p : Nm) (W : World) (hb : Below w.heap.size w W) (hp : p.byte) => isThere_any t p w.heap.size W hb.size ((ht.mono hN).below hb) hp
  obtain ⟨c, hc⟩ : ∃ c, rightM t.sem x.q = c := ⟨_, rfl⟩
  rw [hc]
  obtain ⟨T, hT⟩ : ∃ T, t.sem = T := ⟨_, rfl⟩
  rw [hT] at hc hk26
  have HC := Lib.hid hc
  have HX := Lib.hid (hx.mono hN)
  obtain ⟨bed, nw, ⟨ta, tl, tc⟩, ⟨pa, pl, pc⟩⟩ := x
  obtain ⟨ao, ls, cap⟩ := t
  simp only [Sl.v, Lp.v, Nm.v] at hk26 ⊢
  have K26 := Lib.hid hk26
  have htl : tl.length ≤ 100 := HX.out.lt
  have hpl : pl.length ≤ 100 := HX.out.lp
  obtain ⟨n, hn⟩ : ∃ n, ls.length = n := ⟨_, rfl⟩
  rw [hn] at K26 ⊢
  clear hk26 hx ht hc hT hn
  have hb0 := below1 w (.cells #[.int .u8 bed, .bool nw, .slice ta tl.length tc, .slice pa pl.length pc] 45)
  obtain ⟨w0, hw0⟩ : ∃ w0, w.alloc (.cells #[.int .u8 bed, .bool nw, .slice ta tl.length tc, .slice pa pl.length pc] 45) = w0 := ⟨_, rfl⟩
  have ho1 : w0.heap[w.heap.size]? = some (.cells #[.int .u8 bed, .bool nw, .slice ta tl.length tc, .slice pa pl.length pc] 45 (0, 0)) := by
    rw [← hw0]; exact heap_alloc_new w _
  rw [hw0] at hb0
  have hz0 : w.heap.size + 1 ≤ w0.heap.size := by have := (Array.getElem?_eq_some_iff.1 ho1).1; omega
  have HB0 := Lib.hid hb0
  have HZ := Lib.hid hz0
  have HL := Lib.hid (fun (W : World) (hb : Below w0.heap.size w0 W) => (hb.block w.heap.size (by omega)).trans ho1)
  have x0 : w0.cell? ⟨w.heap.size, 0, none⟩ = some (.int .u8 bed) := by simp [World.cell?, ho1]
  have x2 : w0.cell? ⟨w.heap.size, 2, none⟩ = some (.slice ta tl.length tc) := by simp [World.cell?, ho1]
  have x3 : w0.cell? ⟨w.heap.size, 3, none⟩ = some (.slice pa pl.length pc) := by simp [World.cell?, ho1]
  clear ho1 hb0 hz0
  by_cases hbed : bed = 0 ∨ bed = 1
  · have hbz : bed = 0 ∨ ((bed == 0) = false ∧ bed = 1) := by
      rcases hbed with h | h
      · exact .inl h
      · exact .inr ⟨by simp [h], h⟩
    have HBED := Lib.hid hbed
    by_cases h4 : tl.length ≤ 4
    · have h4z : ¬ ((4 : Int) < (tl.length : Int)) := by omega
      have h5z : ¬ ((4096 : Int) < (pl.length : Int)) := by omega
      have HM4 : Hid (rightM T ⟨bed, nw, tl, pl⟩ = (tl.all (there T) && (pl.all fun p => there T p.id && decide (p.d = 0 ∨ p.d = 1)) && decide ((redL pl).length = pl.length))) := Lib.hid (by
        unfold rightM
        simp only
        rw [decide_eq_true HBED.out, decide_eq_true h4, decide_eq_true (by omega : pl.length ≤ 4096)]
        simp)
      have HC2 := Lib.hid (HM4.out.symm.trans HC.out)
      clear HC HM4
      rcases hbz with rfl | ⟨hbz, rfl⟩
      · go_enter Try.func36, Try.ntmps36
        go_wp2_with fail
        clear x0 x2 x3
        (try rw [hw0])
        clear hw0
        go_loopg [32] (tl.length + 1) (fun g s32 wr => ∃ i : Nat, s32 = .int .i64 i ∧ i ≤ tl.length ∧ g = tl.length + 1 - i ∧ Hid ((tl.take i).all (there T) = true) ∧ RowKit.Below w0.heap.size w0 wr)
        case atStart => exact ⟨0, rfl, by omega, by omega, Lib.hid rfl, Below.refl _ _⟩
        case round =>
          obtain ⟨i, rfl, hi, hg, HAL, hbr⟩ := hrel
          have HG := Lib.hid hg
          clear hg
          by_cases hlt : i < tl.length
          · have hiz : (i : Int) < (tl.length : Int) := by omega
            obtain ⟨p, hp⟩ : ∃ p, tl[i]? = some p := ⟨tl[i], List.getElem?_eq_getElem hlt⟩
            obtain ⟨b, o, hta, hbl, c0, c1⟩ := ((HX.out.th.below HB0.out).below (hbr.mono HB0.out.size)).nm hp
            obtain rfl : ta = some ⟨b, o, none⟩ := hta
            have hpy := HX.out.bt p (List.mem_of_getElem? hp)
            obtain ⟨d, hd⟩ : ∃ d, there T p = d := ⟨_, rfl⟩
            have hsz := hbr.size
            have hbn := below1 wr (.cells #[.int .u8 p.y, .int .i64 p.n] 36)
            have hk := fun (W : World) (hb : Below wr.heap.size wr W) => K26.out p W (HB0.out.trans ((hbr.trans (hb.mono hsz)).mono HB0.out.size)) hpy
            rw [hd] at hk
            have HD := Lib.hid hd
            have HP := Lib.hid hp
            obtain ⟨y, m⟩ := p
            simp only at c0 c1 hk hbn
            have HK := Lib.hid (hk _ hbn)
            clear hd hp hk hpy
            cases d with
            | true =>
              go_wp2_with (go_at_call 26; refine HK.out.mono ?_; rintro e w2 ⟨rfl, hb2⟩)
              go_roundg (tl.length + 1 - (i + 1))
              case measure => have := HG.out; omega
              case rel => exact ⟨i + 1, by go_num, by omega, by omega, Lib.hid (by rw [all_snoc HP.out, HAL.out, HD.out]; rfl), (hbr.trans (hbn.mono hsz)).trans (hb2.mono (Nat.le_trans hsz hbn.size))⟩
            | false =>
              have hcf : c = false := by rw [← HC2.out, all_false HP.out HD.out]; rfl
              subst hcf
              go_wp2_with (go_at_call 26; refine HK.out.mono ?_; rintro e w2 ⟨rfl, hb2⟩)
              go_ret
              exact ⟨rfl, HB0.out.trans (((hbr.trans (hbn.mono hsz)).trans (hb2.mono (Nat.le_trans hsz hbn.size))).mono HB0.out.size)⟩
          · obtain rfl : i = tl.length := by omega
            rw [List.take_length] at HAL
            have hiz : ¬ ((tl.length : Int) < (tl.length : Int)) := by omega
            have hq2 := HL.out wr hbr
            have x3 : wr.cell? ⟨w.heap.size, 3, none⟩ = some (.slice pa pl.length pc) := by simp [World.cell?, hq2]
            clear hq2
            go_wp2_with fail
            clear x3
            obtain ⟨wo, hwo⟩ : ∃ wo, wr = wo := ⟨_, rfl⟩
            rw [hwo] at hbr
            go_loopg [44] (pl.length + 1) (fun g s44 wx => ∃ j : Nat, s44 = .int .i64 j ∧ j ≤ pl.length ∧ g = pl.length + 1 - j ∧ Hid ((pl.take j).all (fun p => there T p.id && decide (p.d = 0 ∨ p.d = 1)) = true) ∧ RowKit.Below w0.heap.size w0 wx)
            case atStart => exact ⟨0, rfl, by omega, by omega, Lib.hid rfl, by rw [hwo]; exact hbr⟩
            case round =>
              clear hbr
              obtain ⟨j, rfl, hj, hg, HAP, hbr⟩ := hrel
              have HG2 := Lib.hid hg
              clear hg
              by_cases hlt2 : j < pl.length
              · have hjz : (j : Int) < (pl.length : Int) := by omega
                obtain ⟨p, hp⟩ : ∃ p, pl[j]? = some p := ⟨pl[j], List.getElem?_eq_getElem hlt2⟩
                obtain ⟨b, o, hpa, hbl, c0, c1, c2, c3⟩ := ((HX.out.pa.below HB0.out).below (hbr.mono HB0.out.size)).pa hp
                obtain rfl : pa = some ⟨b, o, none⟩ := hpa
                have hpy := HX.out.bp p (List.mem_of_getElem? hp)
                obtain ⟨d, hd⟩ : ∃ d, there T p.id = d := ⟨_, rfl⟩
                have hsz := hbr.size
                have hbn := below1 wr (.cells #[.int .u8 p.id.y, .int .i64 p.id.n, .bool p.f, .int .u8 p.d] 56)
                have hk := fun (W : World) (hb : Below wr.heap.size wr W) => K26.out p.id W (HB0.out.trans ((hbr.trans (hb.mono hsz)).mono HB0.out.size)) hpy.1
                rw [hd] at hk
                have HD := Lib.hid hd
                have HP := Lib.hid hp
                obtain ⟨⟨y, m⟩, f, dr⟩ := p
                simp only at c0 c1 c2 c3 hk hbn hpy
                have HK := Lib.hid (hk _ hbn)
                have HDR := Lib.hid hpy.2
                obtain ⟨wn, hwn⟩ : ∃ wn, wr.alloc (.cells #[.int .u8 y, .int .i64 m, .bool f, .int .u8 dr] 56) = wn := ⟨_, rfl⟩
                have p0 : wn.cell? ⟨wr.heap.size, 0, none⟩ = some (.int .u8 y) := by rw [← hwn]; simp
                have p1 : wn.cell? ⟨wr.heap.size, 1, none⟩ = some (.int .i64 m) := by rw [← hwn]; simp
                have p2 : wn.cell? ⟨wr.heap.size, 2, none⟩ = some (.bool f) := by rw [← hwn]; simp
                have p3 : wn.cell? ⟨wr.heap.size, 3, none⟩ = some (.int .u8 dr) := by rw [← hwn]; simp
                have hlw : wr.heap.size < wn.heap.size := by rw [← hwn]; simp
                rw [hwn] at hbn HK
                have HP3 := Lib.hid (And.intro p3 hlw)
                clear hd hp hk hpy
                have hend : Hid (∀ W, Below wn.heap.size wn W → RowKit.Below w0.heap.size w0 W) := Lib.hid (fun W hb => (hbr.trans (hbn.mono hsz)).trans (hb.mono (Nat.le_trans hsz hbn.size)))
                cases d with
                | true =>
                  by_cases hdr : dr = 0 ∨ dr = 1
                  · have HDT : Hid ((there T (⟨⟨y, m⟩, f, dr⟩ : Pa).id && decide (dr = 0 ∨ dr = 1)) = true) := Lib.hid (by rw [HD.out, decide_eq_true hdr]; rfl)
                    rcases hdr with hdr | hdr
                    · have hq0 : (dr != 0) = false := by simp [hdr]
                      clear hdr
                      go_wp2_with (go_at_call 26; refine HK.out.mono ?_; rintro e w2 ⟨rfl, hb2⟩; have p3' := (hb2.cell (p := ⟨wr.heap.size, 3, none⟩) HP3.out.2).trans HP3.out.1)
                      go_roundg (pl.length + 1 - (j + 1))
                      case measure => have := HG2.out; omega
                      case rel => exact ⟨j + 1, by go_num, by omega, by omega, Lib.hid (by rw [all_snoc HP.out, HAP.out]; exact HDT.out), hend.out _ hb2⟩
                    · have hq0 : (dr != 0) = true := by simp [hdr]
                      have hq1 : (dr != 1) = false := by simp [hdr]
                      have hq2 : ¬ dr = 0 := by omega
                      clear hdr
                      go_wp2_with (go_at_call 26; refine HK.out.mono ?_; rintro e w2 ⟨rfl, hb2⟩; have p3' := (hb2.cell (p := ⟨wr.heap.size, 3, none⟩) HP3.out.2).trans HP3.out.1)
                      go_roundg (pl.length + 1 - (j + 1))
                      case measure => have := HG2.out; omega
                      case rel => exact ⟨j + 1, by go_num, by omega, by omega, Lib.hid (by rw [all_snoc HP.out, HAP.out]; exact HDT.out), hend.out _ hb2⟩
                  · have hn0 : (dr != 0) = true := by simp; omega
                    have hn1 : (dr != 1) = true := by simp; omega
                    have hn2 : ¬ dr = 0 := by omega
                    have hn3 : ¬ dr = 1 := by omega
                    have hcf : c = false := by
                      have h1 := all_false (f := fun p : Pa => there T p.id && decide (p.d = 0 ∨ p.d = 1)) HP.out (by simp only; rw [decide_eq_false hdr, Bool.and_false])
                      rw [← HC2.out, h1, Bool.and_false, Bool.false_and]
                    subst hcf
                    go_wp2_with (go_at_call 26; refine HK.out.mono ?_; rintro e w2 ⟨rfl, hb2⟩; have p3' := (hb2.cell (p := ⟨wr.heap.size, 3, none⟩) HP3.out.2).trans HP3.out.1)
                    go_ret
                    exact ⟨rfl, HB0.out.trans ((hend.out _ hb2).mono HB0.out.size)⟩
                | false =>
                  have hcf : c = false := by
                    have h1 := all_false (f := fun p : Pa => there T p.id && decide (p.d = 0 ∨ p.d = 1)) HP.out (by simp only; rw [HD.out, Bool.false_and])
                    rw [← HC2.out, h1, Bool.and_false, Bool.false_and]
                  subst hcf
                  go_wp2_with (go_at_call 26; refine HK.out.mono ?_; rintro e w2 ⟨rfl, hb2⟩)
                  go_ret
                  exact ⟨rfl, HB0.out.trans ((hend.out _ hb2).mono HB0.out.size)⟩
              · obtain rfl : j = pl.length := by omega
                rw [List.take_length] at HAP
                have hjz : ¬ ((pl.length : Int) < (pl.length : Int)) := by omega
                have hq2 := HL.out _ hbr
                have x3 : wr.cell? ⟨w.heap.size, 3, none⟩ = some (.slice pa pl.length pc) := by simp [World.cell?, hq2]
                have hcd : c = decide ((redL pl).length = pl.length) := by rw [← HC2.out, HAL.out, HAP.out]; rfl
                subst hcd
                clear hq2
                go_upto_region 15 with fail
                have hld := (HX.out.pa.below HB0.out).below (hbr.mono HB0.out.size)
                have HRD := Lib.hid (Ya.reduce_any pa (pl.map toPs) pl.length pc wr.drew (by simp) (by omega) (lie_ps (w := wr.drew) (hld.below (below_drewN (Below.refl _ _) 1)) (Nat.le_trans HB0.out.size hbr.size)))
                have hrd0 : (redL pl).length = (Ya.red (pl.map toPs)).length := rfl
                obtain ⟨rn, hrn⟩ : ∃ rn, (Ya.red (pl.map toPs)).length = rn := ⟨_, rfl⟩
                rw [hrn] at hrd0
                unfold Ya.Made at HRD
                rw [hrn] at HRD
                have HR0 := Lib.hid hrd0
                have x3d : wr.drew.cell? ⟨w.heap.size, 3, none⟩ = some (.slice pa pl.length pc) := x3
                have hbd : RowKit.Below w0.heap.size w0 wr.drew := below_drewN hbr 1
                obtain ⟨wd, hwd⟩ : ∃ wd, wr.drew = wd := ⟨_, rfl⟩
                rw [hwd] at HRD x3d hbd
                clear hrd0 hrn hld x3
                go_region_with (go_at_call 45; refine HRD.out.mono ?_; rintro e w2 ⟨bo, rfl, _, hb2⟩; have x3e := (hb2.cell (p := ⟨w.heap.size, 3, none⟩) (Nat.lt_of_lt_of_le HZ.out hbd.size)).trans x3d)
                all_goals (
                  go_wp2_with fail
                  go_ret
                  refine ⟨ret_bool ?_, HB0.out.trans ((hbd.trans (hb2.mono hbd.size)).mono HB0.out.size)⟩
                  rw [HR0.out, Bool.eq_iff_iff]
                  simp
                  try omega)
      · go_enter Try.func36, Try.ntmps36
        go_wp2_with fail
        clear x0 x2 x3
        (try rw [hw0])
        clear hw0
        go_loopg [32] (tl.length + 1) (fun g s32 wr => ∃ i : Nat, s32 = .int .i64 i ∧ i ≤ tl.length ∧ g = tl.length + 1 - i ∧ Hid ((tl.take i).all (there T) = true) ∧ RowKit.Below w0.heap.size w0 wr)
        case atStart => exact ⟨0, rfl, by omega, by omega, Lib.hid rfl, Below.refl _ _⟩
        case round =>
          obtain ⟨i, rfl, hi, hg, HAL, hbr⟩ := hrel
          have HG := Lib.hid hg
          clear hg
          by_cases hlt : i < tl.length
          · have hiz : (i : Int) < (tl.length : Int) := by omega
            obtain ⟨p, hp⟩ : ∃ p, tl[i]? = some p := ⟨tl[i], List.getElem?_eq_getElem hlt⟩
            obtain ⟨b, o, hta, hbl, c0, c1⟩ := ((HX.out.th.below HB0.out).below (hbr.mono HB0.out.size)).nm hp
            obtain rfl : ta = some ⟨b, o, none⟩ := hta
            have hpy := HX.out.bt p (List.mem_of_getElem? hp)
            obtain ⟨d, hd⟩ : ∃ d, there T p = d := ⟨_, rfl⟩
            have hsz := hbr.size
            have hbn := below1 wr (.cells #[.int .u8 p.y, .int .i64 p.n] 36)
            have hk := fun (W : World) (hb : Below wr.heap.size wr W) => K26.out p W (HB0.out.trans ((hbr.trans (hb.mono hsz)).mono HB0.out.size)) hpy
            rw [hd] at hk
            have HD := Lib.hid hd
            have HP := Lib.hid hp
            obtain ⟨y, m⟩ := p
            simp only at c0 c1 hk hbn
            have HK := Lib.hid (hk _ hbn)
            clear hd hp hk hpy
            cases d with
            | true =>
              go_wp2_with (go_at_call 26; refine HK.out.mono ?_; rintro e w2 ⟨rfl, hb2⟩)
              go_roundg (tl.length + 1 - (i + 1))
              case measure => have := HG.out; omega
              case rel => exact ⟨i + 1, by go_num, by omega, by omega, Lib.hid (by rw [all_snoc HP.out, HAL.out, HD.out]; rfl), (hbr.trans (hbn.mono hsz)).trans (hb2.mono (Nat.le_trans hsz hbn.size))⟩
            | false =>
              have hcf : c = false := by rw [← HC2.out, all_false HP.out HD.out]; rfl
              subst hcf
              go_wp2_with (go_at_call 26; refine HK.out.mono ?_; rintro e w2 ⟨rfl, hb2⟩)
              go_ret
              exact ⟨rfl, HB0.out.trans (((hbr.trans (hbn.mono hsz)).trans (hb2.mono (Nat.le_trans hsz hbn.size))).mono HB0.out.size)⟩
          · obtain rfl : i = tl.length := by omega
            rw [List.take_length] at HAL
            have hiz : ¬ ((tl.length : Int) < (tl.length : Int)) := by omega
            have hq2 := HL.out wr hbr
            have x3 : wr.cell? ⟨w.heap.size, 3, none⟩ = some (.slice pa pl.length pc) := by simp [World.cell?, hq2]
            clear hq2
            go_wp2_with fail
            clear x3
            obtain ⟨wo, hwo⟩ : ∃ wo, wr = wo := ⟨_, rfl⟩
            rw [hwo] at hbr
            go_loopg [44] (pl.length + 1) (fun g s44 wx => ∃ j : Nat, s44 = .int .i64 j ∧ j ≤ pl.length ∧ g = pl.length + 1 - j ∧ Hid ((pl.take j).all (fun p => there T p.id && decide (p.d = 0 ∨ p.d = 1)) = true) ∧ RowKit.Below w0.heap.size w0 wx)
            case atStart => exact ⟨0, rfl, by omega, by omega, Lib.hid rfl, by rw [hwo]; exact hbr⟩
            case round =>
              clear hbr
              obtain ⟨j, rfl, hj, hg, HAP, hbr⟩ := hrel
              have HG2 := Lib.hid hg
              clear hg
              by_cases hlt2 : j < pl.length
              · have hjz : (j : Int) < (pl.length : Int) := by omega
                obtain ⟨p, hp⟩ : ∃ p, pl[j]? = some p := ⟨pl[j], List.getElem?_eq_getElem hlt2⟩
                obtain ⟨b, o, hpa, hbl, c0, c1, c2, c3⟩ := ((HX.out.pa.below HB0.out).below (hbr.mono HB0.out.size)).pa hp
                obtain rfl : pa = some ⟨b, o, none⟩ := hpa
                have hpy := HX.out.bp p (List.mem_of_getElem? hp)
                obtain ⟨d, hd⟩ : ∃ d, there T p.id = d := ⟨_, rfl⟩
                have hsz := hbr.size
                have hbn := below1 wr (.cells #[.int .u8 p.id.y, .int .i64 p.id.n, .bool p.f, .int .u8 p.d] 56)
                have hk := fun (W : World) (hb : Below wr.heap.size wr W) => K26.out p.id W (HB0.out.trans ((hbr.trans (hb.mono hsz)).mono HB0.out.size)) hpy.1
                rw [hd] at hk
                have HD := Lib.hid hd
                have HP := Lib.hid hp
                obtain ⟨⟨y, m⟩, f, dr⟩ := p
                simp only at c0 c1 c2 c3 hk hbn hpy
                have HK := Lib.hid (hk _ hbn)
                have HDR := Lib.hid hpy.2
                obtain ⟨wn, hwn⟩ : ∃ wn, wr.alloc (.cells #[.int .u8 y, .int .i64 m, .bool f, .int .u8 dr] 56) = wn := ⟨_, rfl⟩
                have p0 : wn.cell? ⟨wr.heap.size, 0, none⟩ = some (.int .u8 y) := by rw [← hwn]; simp
                have p1 : wn.cell? ⟨wr.heap.size, 1, none⟩ = some (.int .i64 m) := by rw [← hwn]; simp
                have p2 : wn.cell? ⟨wr.heap.size, 2, none⟩ = some (.bool f) := by rw [← hwn]; simp
                have p3 : wn.cell? ⟨wr.heap.size, 3, none⟩ = some (.int .u8 dr) := by rw [← hwn]; simp
                have hlw : wr.heap.size < wn.heap.size := by rw [← hwn]; simp
                rw [hwn] at hbn HK
                have HP3 := Lib.hid (And.intro p3 hlw)
                clear hd hp hk hpy
                have hend : Hid (∀ W, Below wn.heap.size wn W → RowKit.Below w0.heap.size w0 W) := Lib.hid (fun W hb => (hbr.trans (hbn.mono hsz)).trans (hb.mono (Nat.le_trans hsz hbn.size)))
                cases d with
                | true =>
                  by_cases hdr : dr = 0 ∨ dr = 1
                  · have HDT : Hid ((there T (⟨⟨y, m⟩, f, dr⟩ : Pa).id && decide (dr = 0 ∨ dr = 1)) = true) := Lib.hid (by rw [HD.out, decide_eq_true hdr]; rfl)
                    rcases hdr with hdr | hdr
                    · have hq0 : (dr != 0) = false := by simp [hdr]
                      clear hdr
                      go_wp2_with (go_at_call 26; refine HK.out.mono ?_; rintro e w2 ⟨rfl, hb2⟩; have p3' := (hb2.cell (p := ⟨wr.heap.size, 3, none⟩) HP3.out.2).trans HP3.out.1)
                      go_roundg (pl.length + 1 - (j + 1))
                      case measure => have := HG2.out; omega
                      case rel => exact ⟨j + 1, by go_num, by omega, by omega, Lib.hid (by rw [all_snoc HP.out, HAP.out]; exact HDT.out), hend.out _ hb2⟩
                    · have hq0 : (dr != 0) = true := by simp [hdr]
                      have hq1 : (dr != 1) = false := by simp [hdr]
                      have hq2 : ¬ dr = 0 := by omega
                      clear hdr
                      go_wp2_with (go_at_call 26; refine HK.out.mono ?_; rintro e w2 ⟨rfl, hb2⟩; have p3' := (hb2.cell (p := ⟨wr.heap.size, 3, none⟩) HP3.out.2).trans HP3.out.1)
                      go_roundg (pl.length + 1 - (j + 1))
                      case measure => have := HG2.out; omega
                      case rel => exact ⟨j + 1, by go_num, by omega, by omega, Lib.hid (by rw [all_snoc HP.out, HAP.out]; exact HDT.out), hend.out _ hb2⟩
                  · have hn0 : (dr != 0) = true := by simp; omega
                    have hn1 : (dr != 1) = true := by simp; omega
                    have hn2 : ¬ dr = 0 := by omega
                    have hn3 : ¬ dr = 1 := by omega
                    have hcf : c = false := by
                      have h1 := all_false (f := fun p : Pa => there T p.id && decide (p.d = 0 ∨ p.d = 1)) HP.out (by simp only; rw [decide_eq_false hdr, Bool.and_false])
                      rw [← HC2.out, h1, Bool.and_false, Bool.false_and]
                    subst hcf
                    go_wp2_with (go_at_call 26; refine HK.out.mono ?_; rintro e w2 ⟨rfl, hb2⟩; have p3' := (hb2.cell (p := ⟨wr.heap.size, 3, none⟩) HP3.out.2).trans HP3.out.1)
                    go_ret
                    exact ⟨rfl, HB0.out.trans ((hend.out _ hb2).mono HB0.out.size)⟩
                | false =>
                  have hcf : c = false := by
                    have h1 := all_false (f := fun p : Pa => there T p.id && decide (p.d = 0 ∨ p.d = 1)) HP.out (by simp only; rw [HD.out, Bool.false_and])
                    rw [← HC2.out, h1, Bool.and_false, Bool.false_and]
                  subst hcf
                  go_wp2_with (go_at_call 26; refine HK.out.mono ?_; rintro e w2 ⟨rfl, hb2⟩)
                  go_ret
                  exact ⟨rfl, HB0.out.trans ((hend.out _ hb2).mono HB0.out.size)⟩
              · obtain rfl : j = pl.length := by omega
                rw [List.take_length] at HAP
                have hjz : ¬ ((pl.length : Int) < (pl.length : Int)) := by omega
                have hq2 := HL.out _ hbr
                have x3 : wr.cell? ⟨w.heap.size, 3, none⟩ = some (.slice pa pl.length pc) := by simp [World.cell?, hq2]
                have hcd : c = decide ((redL pl).length = pl.length) := by rw [← HC2.out, HAL.out, HAP.out]; rfl
                subst hcd
                clear hq2
                go_upto_region 15 with fail
                have hld := (HX.out.pa.below HB0.out).below (hbr.mono HB0.out.size)
                have HRD := Lib.hid (Ya.reduce_any pa (pl.map toPs) pl.length pc wr.drew (by simp) (by omega) (lie_ps (w := wr.drew) (hld.below (below_drewN (Below.refl _ _) 1)) (Nat.le_trans HB0.out.size hbr.size)))
                have hrd0 : (redL pl).length = (Ya.red (pl.map toPs)).length := rfl
                obtain ⟨rn, hrn⟩ : ∃ rn, (Ya.red (pl.map toPs)).length = rn := ⟨_, rfl⟩
                rw [hrn] at hrd0
                unfold Ya.Made at HRD
                rw [hrn] at HRD
                have HR0 := Lib.hid hrd0
                have x3d : wr.drew.cell? ⟨w.heap.size, 3, none⟩ = some (.slice pa pl.length pc) := x3
                have hbd : RowKit.Below w0.heap.size w0 wr.drew := below_drewN hbr 1
                obtain ⟨wd, hwd⟩ : ∃ wd, wr.drew = wd := ⟨_, rfl⟩
                rw [hwd] at HRD x3d hbd
                clear hrd0 hrn hld x3
                go_region_with (go_at_call 45; refine HRD.out.mono ?_; rintro e w2 ⟨bo, rfl, _, hb2⟩; have x3e := (hb2.cell (p := ⟨w.heap.size, 3, none⟩) (Nat.lt_of_lt_of_le HZ.out hbd.size)).trans x3d)
                all_goals (
                  go_wp2_with fail
                  go_ret
                  refine ⟨ret_bool ?_, HB0.out.trans ((hbd.trans (hb2.mono hbd.size)).mono HB0.out.size)⟩
                  rw [HR0.out, Bool.eq_iff_iff]
                  simp
                  try omega)
    · have h4z : (4 : Int) < (tl.length : Int) := by omega
      have hcf : c = false := by
        rw [← HC.out]
        show rightM T ⟨bed, nw, tl, pl⟩ = false
        unfold rightM
        simp only
        rw [decide_eq_false h4]
        simp
      subst hcf
      rcases hbz with rfl | ⟨hbz, rfl⟩
      · go_enter Try.func36, Try.ntmps36
        go_wp2_with fail
        go_ret
        exact ⟨rfl, HB0.out⟩
      · go_enter Try.func36, Try.ntmps36
        go_wp2_with fail
        go_ret
        exact ⟨rfl, HB0.out⟩
  · have hcf : c = false := by
      rw [← HC.out]
      show rightM T ⟨bed, nw, tl, pl⟩ = false
      unfold rightM
      simp only
      rw [decide_eq_false hbed]
      simp
    subst hcf
    have hn0 : (bed != 0) = true := by simp; omega
    have hn1 : (bed != 1) = true := by simp; omega
    have hn2 : ¬ bed = 0 := by omega
    have hn3 : ¬ bed = 1 := by omega
    go_enter Try.func36, Try.ntmps36
    go_wp2_with fail
    go_ret
    exact ⟨rfl, HB0.out⟩
end Go.Proofs.Ytgaofkbmnapogaa
namespace Go.Proofs.Ytgaofkbmnapogaa
open Go.RowKit Go.Sort
/-- Whether the loops of a yarn are right, and the first one is new. -/
def rowM (T : List (List Lq)) (row : List Lq) : Bool := row.all (rightM T) && row.head?.all fun q => q.nw
def rightT (T : List (List Lq)) : Bool := T.all (rowM T)
theorem all_snocD {α : Type} {f : α → Bool} {l : List α} {i : Nat} (h : i < l.length) : (l.take (i + 1)).all f = ((l.take i).all f && f l[i]) := all_snoc (List.getElem?_eq_getElem h)
set_option maxRecDepth 100000 in
set_option maxHeartbeats 4000000 in
theorem areRight_any (t : Tb) (N : Nat) (w : World) (hN : N ≤ w.heap.size) (ht : Tb.ok N w t) :
    Calls Try.prog 22 #[t.v] w fun e w' => e = .returned (.bool (rightT t.sem)) ∧ Below w.heap.size w w' := by
  have hk36 := fun (x : Lp) (W : World) (hb : Below w.heap.size w W) (hx : x.ok w.heap.size W) => isRight_any t x w.heap.size W hb.size ((ht.mono hN).below hb) hx
  obtain ⟨c, hc⟩ : ∃ c, rightT t.sem = c := ⟨_, rfl⟩
  rw [hc]
  have HSL := Lib.hid t.sem_len
  have HSA := Lib.hid (fun (i : Nat) (r : Sl Lp) (h : t.l[i]? = some r) => (show t.sem[i]? = some (r.l.map Lp.q) by unfold Tb.sem; rw [List.getElem?_map, h]; rfl))
  obtain ⟨T, hT⟩ : ∃ T, t.sem = T := ⟨_, rfl⟩
  rw [hT] at hc hk36 HSL HSA
  have HC := Lib.hid hc
  have HT := Lib.hid (ht.mono hN)
  obtain ⟨ao, ls, cap⟩ := t
  simp only [Sl.v, Lp.v] at hk36 HSL HSA ⊢
  have K36 := Lib.hid hk36
  have hlen : ls.length ≤ 100 := HT.out.len
  clear hk36 ht hc hT
  go_enter Try.func22, Try.ntmps22
  go_wp2_with fail
  go_loopg [9] (ls.length + 1) (fun g s9 wr => ∃ k : Nat, s9 = .int .i64 k ∧ k ≤ ls.length ∧ g = ls.length + 1 - k ∧ Hid ((T.take k).all (rowM T) = true) ∧ RowKit.Below w.heap.size w wr)
  case atStart => exact ⟨0, rfl, by omega, by omega, Lib.hid rfl, Below.refl _ _⟩
  case round =>
    obtain ⟨k, rfl, hk, hg, HAL, hbr⟩ := hrel
    have HG := Lib.hid hg
    clear hg
    by_cases hlt : k < ls.length
    · have hkz : (k : Int) < (ls.length : Int) := by omega
      obtain ⟨r, hr⟩ : ∃ r, ls[k]? = some r := ⟨ls[k], List.getElem?_eq_getElem hlt⟩
      have hTk := HSA.out k r hr
      obtain ⟨b, o, hao, hbl, hcell, hro⟩ := (HT.out.below hbr).row hr
      obtain rfl : ao = some ⟨b, o, none⟩ := hao
      obtain ⟨ra, rl, rc⟩ := r
      have hrl : rl.length ≤ 100 := hro.len
      simp only [Sl.v] at hcell hTk
      have HRO : Hid (RowOk w.heap.size w ⟨ra, rl, rc⟩) := Lib.hid (HT.out.el _ (List.mem_of_getElem? hr))
      have HTK := Lib.hid hTk
      clear hr hro hTk
      go_wp2_with fail
      obtain ⟨wo, hwo⟩ : ∃ wo, wr = wo := ⟨_, rfl⟩
      rw [hwo] at hbr
      go_loopg [15] (rl.length + 1) (fun g s15 wx => ∃ i : Nat, s15 = .int .i64 i ∧ i ≤ rl.length ∧ g = rl.length + 1 - i ∧ Hid (((rl.take i).all fun x => rightM T x.q) = true ∧ (0 < i → (rl.head?.all fun x => x.nw) = true)) ∧ RowKit.Below w.heap.size w wx)
      case atStart => exact ⟨0, rfl, by omega, by omega, Lib.hid ⟨rfl, fun h => absurd h (by omega)⟩, by rw [hwo]; exact hbr⟩
      case round =>
        clear hbr
        obtain ⟨i, rfl, hi, hg, HRI, hbr⟩ := hrel
        have HG2 := Lib.hid hg
        clear hg
        by_cases hlt2 : i < rl.length
        · have hiz : (i : Int) < (rl.length : Int) := by omega
          obtain ⟨x, hx⟩ : ∃ x, rl[i]? = some x := ⟨rl[i], List.getElem?_eq_getElem hlt2⟩
          obtain ⟨b2, o2, hra, hb2, c0, c1, c2, c3, hxo⟩ := (HRO.out.below hbr).loop hx
          obtain rfl : ra = some ⟨b2, o2, none⟩ := hra
          obtain ⟨d, hd⟩ : ∃ d, rightM T x.q = d := ⟨_, rfl⟩
          have hxw := (HRO.out.el x (List.mem_of_getElem? hx))
          have hk := fun (W : World) (hb : Below w.heap.size w W) => K36.out x W hb (hxw.below hb)
          rw [hd] at hk
          have HD := Lib.hid hd
          have HXI := Lib.hid hx
          have hrow : rowM T (rl.map Lp.q) = false → c = false := fun h => by
            rw [← HC.out]; unfold rightT; exact all_false HTK.out h
          have HROW := Lib.hid hrow
          obtain ⟨bed, nw, ⟨ta, tl, tc⟩, ⟨pa, pl, pc⟩⟩ := x
          simp only [Sl.v] at c0 c1 c2 c3 hk
          have hsz := hbr.size
          have hbn := below1 wr (.cells #[.int .u8 bed, .bool nw, .slice ta tl.length tc, .slice pa pl.length pc] 45)
          have hob := heap_alloc_new wr (.cells #[.int .u8 bed, .bool nw, .slice ta tl.length tc, .slice pa pl.length pc] 45)
          obtain ⟨wn, hwn⟩ : ∃ wn, wr.alloc (.cells #[.int .u8 bed, .bool nw, .slice ta tl.length tc, .slice pa pl.length pc] 45) = wn := ⟨_, rfl⟩
          rw [hwn] at hbn hob
          have p0 : wn.cell? ⟨wr.heap.size, 0, none⟩ = some (.int .u8 bed) := by simp [World.cell?, hob]
          have p1 : wn.cell? ⟨wr.heap.size, 1, none⟩ = some (.bool nw) := by simp [World.cell?, hob]
          have p2 : wn.cell? ⟨wr.heap.size, 2, none⟩ = some (.slice ta tl.length tc) := by simp [World.cell?, hob]
          have p3 : wn.cell? ⟨wr.heap.size, 3, none⟩ = some (.slice pa pl.length pc) := by simp [World.cell?, hob]
          have HP1 := Lib.hid (And.intro p1 (Array.getElem?_eq_some_iff.1 hob).1)
          have hbwn := hbr.trans (hbn.mono hsz)
          have HKC := Lib.hid (hk wn hbwn)
          have HBWN := Lib.hid hbwn
          clear hx hd hxo hxw hk hrow hob hbwn
          cases d with
          | false =>
            have hcf : c = false := HROW.out (by unfold rowM; rw [List.all_map, all_false (f := rightM T ∘ Lp.q) HXI.out HD.out]; rfl)
            subst hcf
            go_wp2_with (go_at_call 36; refine HKC.out.mono ?_; rintro e w2 ⟨rfl, hb3⟩)
            go_ret
            exact ⟨rfl, HBWN.out.trans (hb3.mono HBWN.out.size)⟩
          | true =>
            by_cases hi0 : i = 0
            · subst hi0
              simp only [Nat.zero_mul, Nat.add_zero] at c0 c1 c2 c3
              cases nw with
              | false =>
                have hcf : c = false := HROW.out (by
                  unfold rowM
                  have : (rl.map Lp.q).head?.all (fun q => q.nw) = false := by
                    cases rl with
                    | nil => simp at hlt2
                    | cons y ys =>
                      have := HXI.out
                      simp only [List.getElem?_cons_zero, Option.some.injEq] at this
                      rw [this]; rfl
                  rw [this, Bool.and_false])
                subst hcf
                go_wp2_with (go_at_call 36; refine HKC.out.mono ?_; rintro e w2 ⟨rfl, hb3⟩; have p1' := (hb3.cell (p := ⟨wr.heap.size, 1, none⟩) HP1.out.2).trans HP1.out.1)
                go_ret
                exact ⟨rfl, HBWN.out.trans (hb3.mono HBWN.out.size)⟩
              | true =>
                go_wp2_with (go_at_call 36; refine HKC.out.mono ?_; rintro e w2 ⟨rfl, hb3⟩; have p1' := (hb3.cell (p := ⟨wr.heap.size, 1, none⟩) HP1.out.2).trans HP1.out.1)
                go_roundg (rl.length + 1 - (0 + 1))
                case measure => have := HG2.out; omega
                case rel => exact ⟨0 + 1, by go_num, by omega, by omega, Lib.hid ⟨by rw [all_snoc HXI.out, HRI.out.1, HD.out]; rfl, fun _ => by
                    cases rl with
                    | nil => simp at hlt2
                    | cons y ys =>
                      have := HXI.out
                      simp only [List.getElem?_cons_zero, Option.some.injEq] at this
                      rw [this]; rfl⟩, HBWN.out.trans (hb3.mono HBWN.out.size)⟩
            · have hiz0 : ((i : Int) == 0) = false := by simp; omega
              have hiz1 : ¬ ((i : Int) = 0) := by omega
              have HI0 := Lib.hid hi0
              clear hi0
              go_wp2_with (go_at_call 36; refine HKC.out.mono ?_; rintro e w2 ⟨rfl, hb3⟩)
              go_roundg (rl.length + 1 - (i + 1))
              case measure => have := HG2.out; omega
              case rel => exact ⟨i + 1, by go_num, by omega, by omega, Lib.hid ⟨by rw [all_snoc HXI.out, HRI.out.1, HD.out]; rfl, fun _ => HRI.out.2 (by have := HI0.out; omega)⟩, HBWN.out.trans (hb3.mono HBWN.out.size)⟩
        · obtain rfl : i = rl.length := by omega
          have hiz : ¬ ((rl.length : Int) < (rl.length : Int)) := by omega
          have hrow : rowM T (rl.map Lp.q) = true := by
            have h := HRI.out
            rw [List.take_length] at h
            unfold rowM
            rw [List.all_map]
            have h2 : (rl.map Lp.q).head?.all (fun q => q.nw) = true := by
              cases rl with
              | nil => rfl
              | cons y ys => exact h.2 (by simp)
            rw [h2, Bool.and_true]
            exact h.1
          have HROW := Lib.hid hrow
          clear hrow
          go_wp2_with fail
          go_roundg (ls.length + 1 - (k + 1))
          case measure => have := HG.out; omega
          case rel => exact ⟨k + 1, by go_num, by omega, by omega, Lib.hid (by rw [all_snoc HTK.out, HAL.out, HROW.out]; rfl), hbr⟩
    · obtain rfl : k = ls.length := by omega
      have hkz : ¬ ((ls.length : Int) < (ls.length : Int)) := by omega
      have hct : c = true := by
        rw [← HC.out]; unfold rightT
        have h := HAL.out
        rw [List.take_of_length_le (by rw [HSL.out]; exact Nat.le_refl _)] at h
        exact h
      subst hct
      go_wp2_with fail
      go_ret
      exact ⟨rfl, hbr⟩
end Go.Proofs.Ytgaofkbmnapogaa
namespace Go.Proofs.Ytgaofkbmnapogaa
open Go.RowKit Go.Sort Go.WideMaps
/-- The names that loops are pulled through. -/
def thR (rl : List Lp) : List Nm := rl.flatMap fun x => x.th.l
def thT (ls : List (Sl Lp)) : List Nm := ls.flatMap fun r => thR r.l
def throughs (T : List (List Lq)) : List Nm := T.flatMap fun r => r.flatMap Lq.th
def twiceM (T : List (List Lq)) : Bool := decide (¬ (throughs T).Nodup)
theorem throughs_sem (t : Tb) : throughs t.sem = thT t.l := by
  unfold throughs thT thR Tb.sem
  rw [List.flatMap_map]
  congr 1
  funext r
  rw [List.flatMap_map]
  rfl
theorem thR_snoc {rl : List Lp} {i : Nat} {x : Lp} (h : rl[i]? = some x) : thR (rl.take (i + 1)) = thR (rl.take i) ++ x.th.l := by
  rw [List.take_add_one, h]; simp [thR]
theorem thT_snoc {ls : List (Sl Lp)} {k : Nat} {r : Sl Lp} (h : ls[k]? = some r) : thT (ls.take (k + 1)) = thT (ls.take k) ++ thR r.l := by
  rw [List.take_add_one, h]; simp [thT]
theorem thT_split (ls : List (Sl Lp)) (k : Nat) : thT ls = thT (ls.take k) ++ thT (ls.drop k) := by
  unfold thT
  rw [← List.flatMap_append, List.take_append_drop]
theorem thR_split (rl : List Lp) (k : Nat) : thR rl = thR (rl.take k) ++ thR (rl.drop k) := by
  unfold thR
  rw [← List.flatMap_append, List.take_append_drop]
theorem len_flatMap_le {α β : Type} (f : α → List β) (m : Nat) : ∀ l : List α, (∀ x ∈ l, (f x).length ≤ m) → (l.flatMap f).length ≤ l.length * m
  | [], _ => by simp
  | x :: l, h => by
    have h1 := h x (List.mem_cons_self ..)
    have h2 := len_flatMap_le f m l (fun y hy => h y (List.mem_cons_of_mem _ hy))
    simp only [List.flatMap_cons, List.length_append, List.length_cons, Nat.add_mul]
    omega
theorem pre_nodup {α : Type} {f : α → List Nm} {l : List α} {k : Nat} (h : (l.flatMap f).Nodup) : ((l.take k).flatMap f).Nodup := by
  have e : l.flatMap f = (l.take k).flatMap f ++ (l.drop k).flatMap f := by rw [← List.flatMap_append, List.take_append_drop]
  rw [e, List.nodup_append] at h
  exact h.1
set_option maxRecDepth 100000 in
set_option maxHeartbeats 4000000 in
theorem twice_any (t : Tb) (N : Nat) (w : World) (hN : N ≤ w.heap.size) (ht : Tb.ok N w t) (hnm : ∀ p ∈ thT t.l, p.wf) :
    Calls Try.prog 23 #[t.v] w fun e w' => e = .returned (.bool (twiceM t.sem)) ∧ Below w.heap.size w w' := by
  obtain ⟨c, hc⟩ : ∃ c, twiceM t.sem = c := ⟨_, rfl⟩
  rw [hc]
  unfold twiceM at hc
  rw [throughs_sem] at hc
  have HT := Lib.hid (ht.mono hN)
  have HNM := Lib.hid hnm
  have HLEN : Hid ((thT t.l).length ≤ 1000000) := Lib.hid (by
    have h := len_flatMap_le (fun r : Sl Lp => thR r.l) 10000 t.l (fun r hr => by
      have h1 := len_flatMap_le (fun x : Lp => x.th.l) 100 r.l (fun x hx => ((ht.el r hr).el x hx).lt)
      have h2 := (ht.el r hr).len
      show (thR r.l).length ≤ _
      unfold thR; omega)
    have h3 := ht.len
    show (thT t.l).length ≤ _
    unfold thT; omega)
  obtain ⟨ao, ls, cap⟩ := t
  simp only [Sl.v] at hc HNM HLEN ⊢
  have HC := Lib.hid hc
  have hlen : ls.length ≤ 100 := HT.out.len
  clear ht hc hnm
  have hmm := @run_makeMap Try.prog
  go_enter Try.func23, Try.ntmps23
  go_wp2_with fail
  clear hmm
  go_loopg [13] (ls.length + 1) (fun g s13 wr => ∃ k : Nat, s13 = .int .i64 k ∧ k ≤ ls.length ∧ g = ls.length + 1 - k ∧ Hid ((thT (ls.take k)).Nodup ∧ wr.ownsMap Try.prog 36 (plainElem (H := Unit) Try.prog 3) w.heap.size (thT (ls.take k)).length (seenI (thT (ls.take k)))) ∧ RowKit.Below w.heap.size w wr)
  case atStart => exact ⟨0, rfl, by omega, by omega, Lib.hid ⟨by simp [thT], World.ownsMap_made w _ _ _⟩, below1 w _⟩
  case round =>
    obtain ⟨k, rfl, hk, hg, HAL, hbr⟩ := hrel
    have HG := Lib.hid hg
    clear hg
    by_cases hlt : k < ls.length
    · have hkz : (k : Int) < (ls.length : Int) := by omega
      obtain ⟨r, hr⟩ : ∃ r, ls[k]? = some r := ⟨ls[k], List.getElem?_eq_getElem hlt⟩
      obtain ⟨b, o, hao, hbl, hcell, hro⟩ := (HT.out.below hbr).row hr
      obtain rfl : ao = some ⟨b, o, none⟩ := hao
      have HSN := Lib.hid (thT_snoc hr)
      obtain ⟨ra, rl, rc⟩ := r
      have hrl : rl.length ≤ 100 := hro.len
      simp only [Sl.v] at hcell HSN
      have HRO : Hid (RowOk w.heap.size w ⟨ra, rl, rc⟩) := Lib.hid (HT.out.el _ (List.mem_of_getElem? hr))
      have HR := Lib.hid hr
      obtain ⟨ns, hns⟩ : ∃ ns, thT (ls.take k) = ns := ⟨_, rfl⟩
      rw [hns] at HAL HSN
      have HPRE : Hid (thT ls = ns ++ (thR rl ++ thT (ls.drop (k + 1)))) := Lib.hid (by
        rw [← List.append_assoc, ← HSN.out, ← thT_split])
      clear hr hro hns
      go_wp2_with fail
      obtain ⟨wo, hwo⟩ : ∃ wo, wr = wo := ⟨_, rfl⟩
      rw [hwo] at hbr HAL
      go_loopg [19] (rl.length + 1) (fun g s19 wx => ∃ i : Nat, s19 = .int .i64 i ∧ i ≤ rl.length ∧ g = rl.length + 1 - i ∧ Hid ((ns ++ thR (rl.take i)).Nodup ∧ wx.ownsMap Try.prog 36 (plainElem (H := Unit) Try.prog 3) w.heap.size (ns ++ thR (rl.take i)).length (seenI (ns ++ thR (rl.take i)))) ∧ RowKit.Below w.heap.size w wx)
      case atStart => exact ⟨0, rfl, by omega, by omega, Lib.hid (by rw [hwo]; simpa [thR] using HAL.out), by rw [hwo]; exact hbr⟩
      case round =>
        clear hbr
        obtain ⟨i, rfl, hi, hg, HRI, hbr⟩ := hrel
        have HG2 := Lib.hid hg
        clear hg
        by_cases hlt2 : i < rl.length
        · have hiz : (i : Int) < (rl.length : Int) := by omega
          obtain ⟨x, hx⟩ : ∃ x, rl[i]? = some x := ⟨rl[i], List.getElem?_eq_getElem hlt2⟩
          obtain ⟨b2, o2, hra, hb2, c0, c1, c2, c3, hxo⟩ := (HRO.out.below hbr).loop hx
          obtain rfl : ra = some ⟨b2, o2, none⟩ := hra
          have HSX := Lib.hid (thR_snoc hx)
          have HXW := Lib.hid (HRO.out.el x (List.mem_of_getElem? hx))
          obtain ⟨bed, nw, ⟨ta, tl, tc⟩, ⟨pa, pl, pc⟩⟩ := x
          simp only [Sl.v] at c0 c1 c2 c3 HSX
          obtain ⟨ms, hms⟩ : ∃ ms, ns ++ thR (rl.take i) = ms := ⟨_, rfl⟩
          rw [hms] at HRI
          have HPR2 : Hid (∃ rest, thT ls = ms ++ (tl ++ rest)) := Lib.hid ⟨thR (rl.drop (i + 1)) ++ thT (ls.drop (k + 1)), by
            rw [HPRE.out, ← hms]
            rw [thR_split rl (i + 1), HSX.out]
            simp⟩
          have HSX2 : Hid (ns ++ thR (rl.take (i + 1)) = ms ++ tl) := Lib.hid (by rw [HSX.out, ← List.append_assoc, hms])
          have htl : tl.length ≤ 100 := HXW.out.lt
          have hsz := hbr.size
          have hbn := below1 wr (.cells #[.int .u8 bed, .bool nw, .slice ta tl.length tc, .slice pa pl.length pc] 45)
          have hob := heap_alloc_new wr (.cells #[.int .u8 bed, .bool nw, .slice ta tl.length tc, .slice pa pl.length pc] 45)
          have hon := HRI.out.2.alloc (.cells #[.int .u8 bed, .bool nw, .slice ta tl.length tc, .slice pa pl.length pc] 45)
          obtain ⟨wn, hwn⟩ : ∃ wn, wr.alloc (.cells #[.int .u8 bed, .bool nw, .slice ta tl.length tc, .slice pa pl.length pc] 45) = wn := ⟨_, rfl⟩
          rw [hwn] at hbn hob hon
          have p2 : wn.cell? ⟨wr.heap.size, 2, none⟩ = some (.slice ta tl.length tc) := by simp [World.cell?, hob]
          have HHB : Hid (Below w.heap.size w wn) := Lib.hid (hbr.trans (hbn.mono hsz))
          have HON := Lib.hid hon
          clear hob hbn hon hms hx
          go_wp2_with fail
          obtain ⟨wi, hwi⟩ : ∃ wi, wn = wi := ⟨_, rfl⟩
          go_loopg [26] (tl.length + 1) (fun g s26 wx => ∃ j : Nat, s26 = .int .i64 j ∧ j ≤ tl.length ∧ g = tl.length + 1 - j ∧ Hid ((ms ++ tl.take j).Nodup ∧ wx.ownsMap Try.prog 36 (plainElem (H := Unit) Try.prog 3) w.heap.size (ms.length + j) (seenI (ms ++ tl.take j))) ∧ RowKit.Below w.heap.size w wx)
          case atStart => exact ⟨0, rfl, by omega, by omega, Lib.hid ⟨by simpa using HRI.out.1, by simpa using HON.out⟩, HHB.out⟩
          case round =>
            clear hbr HHB HON hxo c0 c1 c2 c3 p2
            obtain ⟨j, rfl, hj, hg, HRJ, hbr⟩ := hrel
            have HG3 := Lib.hid hg
            clear hg
            by_cases hlt3 : j < tl.length
            · have hjz : (j : Int) < (tl.length : Int) := by omega
              obtain ⟨q, hq⟩ : ∃ q, tl[j]? = some q := ⟨tl[j], List.getElem?_eq_getElem hlt3⟩
              obtain ⟨b3, o3, hta, hb3, c0, c1⟩ := Sl.lie.nm (HXW.out.th.below hbr) hq
              obtain rfl : ta = some ⟨b3, o3, none⟩ := hta
              have hmem : ∀ p ∈ ms ++ tl, p ∈ thT ls := fun p hp => by
                obtain ⟨rest, e⟩ := HPR2.out
                rw [e]
                simp only [List.mem_append] at hp ⊢
                rcases hp with h | h
                · exact .inl h
                · exact .inr (.inl h)
              have hqw : q.wf := HNM.out q (hmem q (List.mem_append_right _ (List.mem_of_getElem? hq)))
              have hat := seenI_at hqw (ns := ms ++ tl.take j) fun p hp => HNM.out p (hmem p (by
                simp only [List.mem_append] at hp ⊢
                rcases hp with h | h
                · exact .inl h
                · exact .inr (List.mem_of_mem_take h)))
              have hkey := kl_of hqw
              have hroom : ms.length + j < maxLen := by
                obtain ⟨rest, e⟩ := HPR2.out
                have h := HLEN.out
                rw [e] at h
                simp only [List.length_append] at h
                unfold maxLen; omega
              have hts : tl.take (j + 1) = tl.take j ++ [q] := by rw [List.take_add_one, hq]; rfl
              have hbn := below1 wr (.cells #[.int .u8 q.y, .int .i64 q.n] 36)
              have hob := heap_alloc_new wr (.cells #[.int .u8 q.y, .int .i64 q.n] 36)
              have hon := (HRJ.out.2.alloc (.cells #[.int .u8 q.y, .int .i64 q.n] 36)).drew
              obtain ⟨wo2, hwo2⟩ : ∃ wo2, wr.alloc (.cells #[.int .u8 q.y, .int .i64 q.n] 36) = wo2 := ⟨_, rfl⟩
              rw [hwo2] at hbn hob hon
              obtain ⟨wd, hwd⟩ : ∃ wd, wo2.drew = wd := ⟨_, rfl⟩
              have hobd : wd.heap[wr.heap.size]? = some (.cells #[.int .u8 q.y, .int .i64 q.n] 36 (0, 0)) := by rw [← hwd]; exact hob
              have hbd : Below wr.heap.size wr wd := by rw [← hwd]; exact below_drewN hbn 1
              rw [hwd] at hon
              obtain ⟨d, st, w1, hL, hD, hE, hL1, hg1, hS⟩ := entry_own hon law36 klaw36 Try.underlying77 Try.underlying3 zeroI hroom hkey
              rw [hat] at hD
              have n0 : wd.cell? ⟨wr.heap.size, 0, none⟩ = some (.int .u8 q.y) := by simp [World.cell?, hobd]
              have n1 : wd.cell? ⟨wr.heap.size, 1, none⟩ = some (.int .i64 q.n) := by simp [World.cell?, hobd]
              have hsz2 := hbr.size
              have hmlt : w.heap.size < wr.heap.size := HRJ.out.2.lt
              have hszd := (Array.getElem?_eq_some_iff.1 hobd).1
              have hto : ∀ w2 : World, wd.grownBy w2 (some w.heap.size) → w2.heap[wr.heap.size]? = some (.cells #[.int .u8 q.y, .int .i64 q.n] 36 (0, 0)) ∧ Below w.heap.size w w2 := fun w2 hg => by
                refine ⟨(hg.block wr.heap.size hszd (by simp; omega)).trans hobd, ?_⟩
                exact (hbr.trans (hbd.mono hsz2)).grown hg (Nat.le_trans hsz2 (Nat.le_of_lt hszd)) (fun k e => by cases e; exact Nat.le_refl _)
              have HTO := Lib.hid hto
              have HATT := Lib.hid hat
              have HOND := Lib.hid hon
              have HKEY := Lib.hid hkey
              have HTS := Lib.hid hts
              clear hto hat hob hobd hbn hbd hon hts
              by_cases hin : q ∈ ms ++ tl.take j
              · rw [if_pos hin] at hD
                obtain rfl : d = 1 := by simpa using hD.symm
                obtain ⟨w2, hSt, hown2, hg2⟩ := hS 2 (by decide)
                obtain ⟨d2, hL2, hat2, _⟩ := hown2.lookup_int law36 Try.underlying77 Try.underlying3 (zeroI w2) HKEY.out
                have hm2 : (seenI (ms ++ tl.take j)).atKey (kl q) (.lit (.int .i64 0)) = .lit (.int .i64 1) := by rw [HATT.out, if_pos hin]
                have hd2 : d2 = 2 := by
                  rw [Maps.atKey_put_same HOND.out.isMap (law36.key HKEY.out)] at hat2
                  simpa using hat2.symm
                subst hd2
                obtain ⟨hob2, hb2'⟩ := HTO.out w2 hg2
                have m0 : w2.cell? ⟨wr.heap.size, 0, none⟩ = some (.int .u8 q.y) := by simp [World.cell?, hob2]
                have m1 : w2.cell? ⟨wr.heap.size, 1, none⟩ = some (.int .i64 q.n) := by simp [World.cell?, hob2]
                have HOW := Lib.hid hown2
                have HB2 := Lib.hid hb2'
                clear hob2 hg2 hg1 hS hD hat2 hown2 hb2' hm2
                have hE' : (Instr.mapEntry 77 (.map (some w.heap.size)) (.agg #[.int .u8 q.y, .int .i64 q.n])).run Try.prog wd = .ok (.tuple #[.int .i64 1, .int .i64 st]) w1 := hE
                have hSt' : (Instr.entryStore 77 (.map (some w.heap.size)) (.int .i64 st) (.int .i64 2)).run Try.prog w1 = .ok () w2 := hSt
                clear hE hSt
                go_upto_region 11 with fail
                go_region
                have hct : c = true := by
                  rw [← HC.out]
                  have hn : ¬ (thT ls).Nodup := fun h => by
                    obtain ⟨rest, e⟩ := HPR2.out
                    have e2 : ms ++ (tl ++ rest) = (ms ++ tl.take (j + 1)) ++ (tl.drop (j + 1) ++ rest) := by
                      rw [List.append_assoc, ← List.append_assoc (tl.take (j + 1)), List.take_append_drop]
                    rw [e, e2, List.nodup_append, HTS.out, ← List.append_assoc, List.nodup_append] at h
                    exact h.1.2.2 q hin q (List.mem_singleton.2 rfl) rfl
                  simp [hn]
                subst hct
                go_wp2_with fail
                go_ret
                exact ⟨rfl, HB2.out⟩
              · rw [if_neg hin] at hD
                obtain rfl : d = 0 := by simpa using hD.symm
                obtain ⟨w2, hSt, hown2, hg2⟩ := hS 1 (by decide)
                obtain ⟨d2, hL2, hat2, _⟩ := hown2.lookup_int law36 Try.underlying77 Try.underlying3 (zeroI w2) HKEY.out
                have hm2 : (seenI (ms ++ tl.take j)).atKey (kl q) (.lit (.int .i64 0)) = .lit (.int .i64 0) := by rw [HATT.out, if_neg hin]
                have hd2 : d2 = 1 := by
                  rw [Maps.atKey_put_same HOND.out.isMap (law36.key HKEY.out)] at hat2
                  simpa using hat2.symm
                subst hd2
                obtain ⟨hob2, hb2'⟩ := HTO.out w2 hg2
                have m0 : w2.cell? ⟨wr.heap.size, 0, none⟩ = some (.int .u8 q.y) := by simp [World.cell?, hob2]
                have m1 : w2.cell? ⟨wr.heap.size, 1, none⟩ = some (.int .i64 q.n) := by simp [World.cell?, hob2]
                have HOW := Lib.hid hown2
                have HB2 := Lib.hid hb2'
                clear hob2 hg2 hg1 hS hD hat2 hown2 hb2' hm2
                have hE' : (Instr.mapEntry 77 (.map (some w.heap.size)) (.agg #[.int .u8 q.y, .int .i64 q.n])).run Try.prog wd = .ok (.tuple #[.int .i64 0, .int .i64 st]) w1 := hE
                have hSt' : (Instr.entryStore 77 (.map (some w.heap.size)) (.int .i64 st) (.int .i64 1)).run Try.prog w1 = .ok () w2 := hSt
                clear hE hSt
                go_upto_region 11 with fail
                go_region
                go_wp2_with fail
                go_roundg (tl.length + 1 - (j + 1))
                case measure => have := HG3.out; omega
                case rel => exact ⟨j + 1, by go_num, by omega, by omega, Lib.hid ⟨by
                    rw [HTS.out, ← List.append_assoc, List.nodup_append]
                    exact ⟨HRJ.out.1, by simp, fun a ha b hb e => by
                      rw [List.mem_singleton] at hb
                      rw [e, hb] at ha
                      exact hin ha⟩, by
                    rw [HTS.out, ← List.append_assoc, seenI_snoc]
                    exact HOW.out⟩, HB2.out⟩
            · obtain rfl : j = tl.length := by omega
              have hjz : ¬ ((tl.length : Int) < (tl.length : Int)) := by omega
              go_wp2_with fail
              go_roundg (rl.length + 1 - (i + 1))
              case measure => have := HG2.out; omega
              case rel => exact ⟨i + 1, by go_num, by omega, by omega, Lib.hid (by have h := HRJ.out; rw [List.take_length] at h; rw [HSX2.out, List.length_append]; exact h), hbr⟩
        · obtain rfl : i = rl.length := by omega
          have hiz : ¬ ((rl.length : Int) < (rl.length : Int)) := by omega
          go_wp2_with fail
          go_roundg (ls.length + 1 - (k + 1))
          case measure => have := HG.out; omega
          case rel => exact ⟨k + 1, by go_num, by omega, by omega, Lib.hid (by have h := HRI.out; rw [List.take_length, ← HSN.out] at h; exact h), hbr⟩
    · obtain rfl : k = ls.length := by omega
      have hkz : ¬ ((ls.length : Int) < (ls.length : Int)) := by omega
      have hct : c = false := by
        rw [← HC.out]
        have h := HAL.out.1
        rw [List.take_length] at h
        simp [h]
      subst hct
      go_wp2_with fail
      go_ret
      exact ⟨rfl, hbr⟩
end Go.Proofs.Ytgaofkbmnapogaa
namespace Go.Proofs.Ytgaofkbmnapogaa
open Go.RowKit Go.Sort
variable {α : Type}
/-- A record lies in the first cells of a block. -/
def Rec (enc : α → List Value) (w : World) (b : Nat) (x : α) : Prop := ∀ j u, (enc x)[j]? = some u → w.cell? ⟨b, j, none⟩ = some u
theorem rec_new (enc : α → List Value) (w : World) (t : Nat) (x : α) : Rec enc (w.alloc (.cells (enc x).toArray t)) w.heap.size x := fun j u h => by
  rw [cell_of_row _ _ j _ t (0, 0) (heap_alloc_new w _)]
  simpa using h
theorem run_app_rec {enc : α → List Value} {T e k bytes : Nat} {zero : Value} (K : Kd enc T e k bytes zero) (w : World) (N ty : Nat) (v : Value) (l : List α) (hown : w.ownsRow N e k v l.length (rcells enc l)) (x : α) (b : Nat) (hx : Rec enc w b x) (hl : l.length ≤ 100000) (hN : N ≤ w.heap.size) :
    ∃ v' w', (Builtin.append_ #[T, T] ty #[v, .slice (some ⟨b, 0, none⟩) 1 1]).run Try.prog w = .ok v' w' ∧ w'.ownsRow N e k v' (l ++ [x]).length (rcells enc (l ++ [x])) ∧ w.grownBy w' v.ownBlock ∧ (v'.ownBlock = v.ownBlock ∨ v'.ownBlock = some w.heap.size) := by
  obtain ⟨i0, hi, hz0, hz1, hz2⟩ := info_parts' K.hi
  have hr : rcells enc [x] = enc x := by simp [rcells]
  obtain ⟨v', w', g1, g2, g3, _, g5⟩ := run_append_own_at (P := Try.prog) w N T ty e i0 zero k bytes K.hT hi hz0 hz1 hz2 K.hz K.k0 v l.length (rcells enc l) hown ⟨b, 0, none⟩ 1 1 (rcells enc [x]) (by rw [hr, K.hk]; omega)
    (fun j u h => by rw [hr] at h; rw [show (⟨b, 0, none⟩ : Addr).add j = ⟨b, j, none⟩ by rw [Addr.add_lit]; simp]; exact hx j u h) (rcells_one enc K.h1 _) (by unfold maxLen; omega) (by have := K.hb; have := Nat.mul_le_mul (show l.length + 1 ≤ 100001 by omega) K.hb; omega) hN
  exact ⟨v', w', g1, by rw [rcells_append, List.length_append]; exact g2, g3, g5⟩
theorem wpList_app_rec {enc : α → List Value} {T e k bytes : Nat} {zero : Value} (K : Kd enc T e k bytes zero) {w : World} {ops : Array Oper} {rest : List Oper} {o : Oper} {a : Act} {Q : Exit → Act → World → Prop} {s t : Tmp} {N b : Nat} {v : Value} {l : List α} {x : α} (hg0 : o.guard = none)
    (hop : o.op = Op.call { callee := Callee.builtin Builtin.append, args := #[.tmp s, .tmp t], argTypes := #[T, T] }) (hs : a.eval (.tmp s) = v) (ht : a.eval (.tmp t) = .slice (some ⟨b, 0, none⟩) 1 1) (hown : w.ownsRow N e k v l.length (rcells enc l)) (hx : Rec enc w b x) (hl : l.length ≤ 100000) (hN : N ≤ w.heap.size)
    (hK : ∀ v' w', w'.ownsRow N e k v' (l ++ [x]).length (rcells enc (l ++ [x])) → w.grownBy w' v.ownBlock → (v'.ownBlock = v.ownBlock ∨ v'.ownBlock = some w.heap.size) → wpList Try.prog ops Q rest (a.put o.dst v') w') : wpList Try.prog ops Q (o :: rest) a w := by
  refine wpList_plain hg0 fun K' hK' => ?_
  obtain ⟨v', w', hr, h1, h2, h3⟩ := run_app_rec K w N o.type v l hown x b hx hl hN
  unfold Oper.wp execOp
  simp only [hop, resolve, invoke, builtin, Sem.run_bind, Sem.run_pure, Result.andThen_ok, List.map_toArray, List.map_cons, List.map_nil, hs, ht, hr]
  exact hK' _ _ (hK v' w' h1 h2 h3)
end Go.Proofs.Ytgaofkbmnapogaa
namespace Go.Proofs.Ytgaofkbmnapogaa
open Go.RowKit Go.Sort
/-- The loop that a yarn makes next can be made. -/
def canM (T : List (List Lq)) (m : Nat → Nat) (y : Nat) : Bool := decide (m y < (T.getD y []).length) && allowsM (fun k => (m k : Int)) ((T.getD y []).getD (m y) ⟨0, false, [], []⟩)
def nextM (T : List (List Lq)) (m : Nat → Nat) : Option Nat := (List.range 6).find? (canM T m)
def upM (m : Nat → Nat) (y : Nat) : Nat → Nat := fun k => if k = y then m k + 1 else m k
def runM (T : List (List Lq)) : Nat → (Nat → Nat) → List Nm → List Nm
  | 0, _, acc => acc
  | f + 1, m, acc => match nextM T m with
    | none => acc
    | some y => runM T f (upM m y) (acc ++ [⟨(y : Int) + 1, m y⟩])
def totM (T : List (List Lq)) : Nat := (T.map List.length).sum
def ordM (T : List (List Lq)) : List Nm := runM T (totM T + 1) (fun _ => 0) []
def sumM (m : Nat → Nat) : Nat := m 0 + m 1 + m 2 + m 3 + m 4 + m 5
theorem sum_up (m : Nat → Nat) {y : Nat} (hy : y < 6) : sumM (upM m y) = sumM m + 1 := by
  obtain rfl | rfl | rfl | rfl | rfl | rfl : y = 0 ∨ y = 1 ∨ y = 2 ∨ y = 3 ∨ y = 4 ∨ y = 5 := by omega
  all_goals (unfold sumM upM; simp; try omega)
theorem find_none_iff {T : List (List Lq)} {m : Nat → Nat} (h : ∀ y, y < 6 → canM T m y = false) : nextM T m = none := by
  unfold nextM
  rw [List.find?_eq_none]
  intro y hy
  rw [h y (List.mem_range.1 hy)]
  decide
theorem find_first {T : List (List Lq)} {m : Nat → Nat} {y : Nat} (hy : y < 6) (h : ∀ k, k < y → canM T m k = false) (h1 : canM T m y = true) : nextM T m = some y := by
  unfold nextM
  rw [List.find?_range_eq_some]
  exact ⟨h1, List.mem_range.2 hy, fun k hk => by simp [h k hk]⟩
end Go.Proofs.Ytgaofkbmnapogaa
namespace Go.Proofs.Ytgaofkbmnapogaa
open Go.RowKit Go.Sort
theorem clip_any33 (ao : Option Addr) (n c : Nat) (h : n ≤ c) (h0 : ao = none → c = 0) (hp : ∀ a, ao = some a → ∃ b, a = ⟨b, 0, none⟩) (w : World) : Calls Try.prog 33 #[.slice ao n c] w fun e w' => e = .returned (.slice ao n n) ∧ w' = w := by
  cases ao with
  | none =>
    obtain rfl := h0 rfl
    obtain rfl : n = 0 := by omega
    go_enter Try.func33, Try.ntmps33
    go_wp2
    go_ret
    exact ⟨rfl, rfl⟩
  | some a =>
    obtain ⟨b, rfl⟩ := hp a rfl
    have hz : (n : Int) ≤ (c : Int) := by omega
    go_enter Try.func33, Try.ntmps33
    go_wp2
    go_ret
    exact ⟨rfl, rfl⟩
theorem clip_any29 (ao : Option Addr) (n c : Nat) (h : n ≤ c) (h0 : ao = none → c = 0) (hp : ∀ a, ao = some a → ∃ b, a = ⟨b, 0, none⟩) (w : World) : Calls Try.prog 29 #[.slice ao n c] w fun e w' => e = .returned (.slice ao n n) ∧ w' = w := by
  cases ao with
  | none =>
    obtain rfl := h0 rfl
    obtain rfl : n = 0 := by omega
    go_enter Try.func29, Try.ntmps29
    go_wp2
    go_ret
    exact ⟨rfl, rfl⟩
  | some a =>
    obtain ⟨b, rfl⟩ := hp a rfl
    have hz : (n : Int) ≤ (c : Int) := by omega
    go_enter Try.func29, Try.ntmps29
    go_wp2
    go_ret
    exact ⟨rfl, rfl⟩
end Go.Proofs.Ytgaofkbmnapogaa
