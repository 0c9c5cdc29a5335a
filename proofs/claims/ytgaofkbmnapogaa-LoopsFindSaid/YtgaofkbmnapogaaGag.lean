import Derived.Test.YtgaofkbmnapogaaGaf
import Derived.WalkMore
namespace Go.Proofs.Ytgaofkbmnapogaa
open Go.RowKit Go.Sort
/-- The call returns a list in new memory that has no room for more, to read. -/
def NewLi {α : Type} (enc : α → List Value) (l : List α) (w : World) (x : Ending) (w' : World) : Prop := ∃ s : Sl α, x = .returned s.v ∧ Hid (s.l = l ∧ s.cap = l.length ∧ s.lie enc w'.heap.size w') ∧ Below w.heap.size w w'
/-- The names in a table's loops are of the six yarns. -/
def Yok (t : Tb) : Prop := ∀ r ∈ t.l, ∀ x ∈ r.l, (∀ p ∈ x.th.l, okY p) ∧ ∀ p ∈ x.pa.l, okY p.id
def mb (m : Nat → Nat) : Array Value := #[.int .i64 (m 0), .int .i64 (m 1), .int .i64 (m 2), .int .i64 (m 3), .int .i64 (m 4), .int .i64 (m 5)]
theorem mb_cell {w : World} {B : Nat} {m : Nat → Nat} (h : w.heap[B]? = some (.cells (mb m) 79 (0, 0))) {k : Nat} (hk : k < 6) : w.cell? ⟨B, k, none⟩ = some (.int .i64 (m k : Int)) := by
  obtain rfl | rfl | rfl | rfl | rfl | rfl : k = 0 ∨ k = 1 ∨ k = 2 ∨ k = 3 ∨ k = 4 ∨ k = 5 := by omega
  all_goals simp [World.cell?, h, mb]
theorem mb_up (m : Nat → Nat) {y : Nat} (hy : y < 6) : (mb m).setIfInBounds y (.int .i64 ((m y : Int) + 1)) = mb (upM m y) := by
  obtain rfl | rfl | rfl | rfl | rfl | rfl : y = 0 ∨ y = 1 ∨ y = 2 ∨ y = 3 ∨ y = 4 ∨ y = 5 := by omega
  all_goals simp [mb, upM]
theorem sum_le {T : List (List Lq)} (h6 : T.length = 6) {m : Nat → Nat} (h : ∀ y, y < 6 → m y ≤ (T.getD y []).length) : sumM m ≤ totM T := by
  match T, h6 with
  | [a, b, c, d, e, f], _ =>
    have h0 := h 0 (by decide)
    have h1 := h 1 (by decide)
    have h2 := h 2 (by decide)
    have h3 := h 3 (by decide)
    have h4 := h 4 (by decide)
    have h5 := h 5 (by decide)
    unfold sumM totM
    simp at h0 h1 h2 h3 h4 h5 ⊢
    omega
theorem tot_le {t : Tb} {N : Nat} {w : World} (h : Tb.ok N w t) : totM t.sem ≤ 100 * t.l.length := by
  unfold totM Tb.sem
  have : ∀ l : List (Sl Lp), (∀ r ∈ l, r.l.length ≤ 100) → (((l.map fun r => r.l.map Lp.q)).map List.length).sum ≤ 100 * l.length := fun l => by
    induction l with
    | nil => simp
    | cons a l ih =>
      intro h
      have h1 := ih fun r hr => h r (by simp [hr])
      have h2 := h a (by simp)
      simp only [List.map_cons, List.sum_cons, List.length_cons, List.length_map] at h1 ⊢
      omega
  exact this t.l fun r hr => (h.el r hr).len
set_option maxRecDepth 100000 in
set_option maxHeartbeats 8000000 in
theorem ordered_any (t : Tb) (N : Nat) (w : World) (hN : N ≤ w.heap.size) (ht : Tb.ok N w t) (h6 : t.l.length = 6) (hy : Yok t) :
    Calls Try.prog 24 #[t.v] w (NewLi Nm.enc (ordM t.sem) w) := by
  have hk37 := fun (m : Nat → Nat) (x : Lp) (W : World) (hb : Below w.heap.size w W) (r : Sl Lp) (hr : r ∈ t.l) (hx : x ∈ r.l) => allows_any (fun k => (m k : Int)) x w.heap.size W hb.size (((ht.mono hN).below hb).el r hr |>.el x hx) (hy r hr x hx)
  have htot := tot_le ht
  have HSL := Lib.hid t.sem_len
  have HSD := Lib.hid (fun (i : Nat) (r : Sl Lp) (h : t.l[i]? = some r) => Tb.sem_at h)
  obtain ⟨T, hT⟩ : ∃ T, t.sem = T := ⟨_, rfl⟩
  rw [hT] at htot HSL HSD ⊢
  rw [h6] at htot
  have HT := Lib.hid (ht.mono hN)
  obtain ⟨ao, ls, cap⟩ := t
  simp only [Sl.v, Lp.v, mv] at hk37 HSL HSD h6 ⊢
  have K37 := Lib.hid hk37
  rw [h6]
  have H6 := Lib.hid h6
  obtain ⟨F, hF⟩ : ∃ F, totM T + 1 = F := ⟨_, rfl⟩
  have hF9 : F ≤ 601 := by omega
  have HFF : Hid (totM T + 1 = F) := Lib.hid hF
  have HORD : Hid (runM T F (fun _ => 0) [] = ordM T) := Lib.hid (by rw [← hF]; rfl)
  have hb0 := below1 w (.cells (mb fun _ => 0) 79)
  have hm0 := heap_alloc_new w (.cells (mb fun _ => 0) 79)
  clear hk37 ht hT hF htot h6 hy
  go_enter Try.func24, Try.ntmps24
  go_wp2
  go_step3
  go_wp2
  go_step3
  go_wp2_with fail
  go_loopg [3] (F + 1) (fun g s3 wr => ∃ (f : Nat) (m : Nat → Nat) (acc : List Nm), g = f + 1 ∧ Hid (runM T f m acc = ordM T) ∧ f ≤ F ∧ Hid (sumM m + f = F ∧ acc.length = sumM m ∧ ∀ y, y < 6 → m y ≤ (T.getD y []).length) ∧ Hid (wr.heap[w.heap.size]? = some (.cells (mb m) 79 (0, 0))) ∧ Hid (wr.ownsRow (w.heap.size + 1) 36 2 s3 acc.length (rcells Nm.enc acc)) ∧ RowKit.Below w.heap.size w wr)
  case atStart => exact ⟨F, fun _ => 0, [], rfl, HORD, Nat.le_refl _, Lib.hid ⟨by simp [sumM], rfl, fun y _ => Nat.zero_le _⟩, Lib.hid hm0, Lib.hid (World.ownsRow_nil _ _ _ _), hb0⟩
  case round =>
    clear hm0 hb0
    obtain ⟨f, m, acc, hg, HRUN, hfF, HSUM, HM, HOW, hbr⟩ := hrel
    have HG := Lib.hid hg
    clear hg
    go_wp2_with fail
    obtain ⟨wo, hwo⟩ : ∃ wo, wr = wo := ⟨_, rfl⟩
    rw [hwo] at hbr HM HOW
    go_loopg [3, 9] (6 + 1) (fun g s3 s9 wx => ∃ k : Nat, s3 = u3 ∧ s9 = .int .i64 k ∧ k ≤ 6 ∧ g = 6 + 1 - k ∧ Hid (∀ y, y < k → canM T m y = false) ∧ RowKit.Below wo.heap.size wo wx)
    case atStart => exact ⟨0, rfl, rfl, by omega, by omega, Lib.hid (fun y hy => by omega), by rw [hwo]; exact Below.refl _ _⟩
    case round =>
      obtain ⟨k, rfl, rfl, hk, hg, HNO, hbx⟩ := hrel
      have HG2 := Lib.hid hg
      clear hg
      have hsz := hbr.size
      have hlw : w.heap.size < wo.heap.size := (Array.getElem?_eq_some_iff.1 HM.out).1
      by_cases hlt : k < 6
      · have hkz : (k : Int) < 6 := by omega
        have hkl : k < ls.length := by rw [H6.out]; exact hlt
        obtain ⟨r, hr⟩ : ∃ r, ls[k]? = some r := ⟨ls[k], List.getElem?_eq_getElem hkl⟩
        have hbw : Below w.heap.size w _ := hbr.trans (hbx.mono hsz)
        obtain ⟨b, o, hao, hbl, hcell, hro⟩ := (HT.out.below hbw).row hr
        obtain rfl : ao = some ⟨b, o, none⟩ := hao
        have hrm := List.mem_of_getElem? hr
        have hTD := HSD.out k r hr
        obtain ⟨ra, rl, rc⟩ := r
        have hrl : rl.length ≤ 100 := hro.len
        simp only [Sl.v] at hcell
        simp only at hTD
        have hmx : wr.heap[w.heap.size]? = some (.cells (mb m) 79 (0, 0)) := (hbx.block w.heap.size hlw).trans HM.out
        have mk := mb_cell hmx hlt
        obtain ⟨mk0, hmk0⟩ : ∃ q, m k = q := ⟨_, rfl⟩
        have hmle : mk0 ≤ rl.length := by have := HSUM.out.2.2 k hlt; rw [hTD, List.length_map, hmk0] at this; exact this
        rw [hmk0] at mk
        by_cases hml : mk0 < rl.length
        · have hmz : (mk0 : Int) < (rl.length : Int) := by omega
          obtain ⟨x, hx⟩ : ∃ x, rl[mk0]? = some x := ⟨rl[mk0], List.getElem?_eq_getElem hml⟩
          have hxm := List.mem_of_getElem? hx
          obtain ⟨b2, o2, hra, hb2, c0, c1, c2, c3, _⟩ := hro.loop hx
          obtain rfl : ra = some ⟨b2, o2, none⟩ := hra
          have hK := fun (W : World) (hb : Below w.heap.size w W) => K37.out m x W hb _ hrm hxm
          obtain ⟨d, hd⟩ : ∃ d, allowsM (fun k => (m k : Int)) x.q = d := ⟨_, rfl⟩
          rw [hd] at hK
          have hcan : canM T m k = d := by
            unfold canM
            rw [hTD, hmk0, List.length_map, decide_eq_true hml, List.getD_eq_getElem?_getD, List.getElem?_map, hx]
            simpa using hd
          have HCAN := Lib.hid hcan
          obtain ⟨bed, nw, ⟨ta, tl, tc⟩, ⟨pa, pl, pc⟩⟩ := x
          simp only [Sl.v] at c0 c1 c2 c3 hK
          have q0 := mb_cell hmx (k := 0) (by decide)
          have q1 := mb_cell hmx (k := 1) (by decide)
          have q2 := mb_cell hmx (k := 2) (by decide)
          have q3 := mb_cell hmx (k := 3) (by decide)
          have q4 := mb_cell hmx (k := 4) (by decide)
          have q5 := mb_cell hmx (k := 5) (by decide)
          have hbd : RowKit.Below wo.heap.size wo wr.drew := below_drewN hbx 1
          have HK := Lib.hid (hK _ (hbr.trans (hbd.mono hsz)))
          clear hd hcan hx hxm hK hro hr hrm hbw
          go_upto_region 6 with fail
          obtain ⟨wd, hwd⟩ : ∃ wd, wr.drew = wd := ⟨_, rfl⟩
          have q0' : wd.cell? ⟨w.heap.size, 0, none⟩ = some (.int .i64 (m 0 : Int)) := by rw [← hwd]; exact q0
          have q1' : wd.cell? ⟨w.heap.size, 1, none⟩ = some (.int .i64 (m 1 : Int)) := by rw [← hwd]; exact q1
          have q2' : wd.cell? ⟨w.heap.size, 2, none⟩ = some (.int .i64 (m 2 : Int)) := by rw [← hwd]; exact q2
          have q3' : wd.cell? ⟨w.heap.size, 3, none⟩ = some (.int .i64 (m 3 : Int)) := by rw [← hwd]; exact q3
          have q4' : wd.cell? ⟨w.heap.size, 4, none⟩ = some (.int .i64 (m 4 : Int)) := by rw [← hwd]; exact q4
          have q5' : wd.cell? ⟨w.heap.size, 5, none⟩ = some (.int .i64 (m 5 : Int)) := by rw [← hwd]; exact q5
          have mk' : wd.cell? ⟨w.heap.size, k, none⟩ = some (.int .i64 (mk0 : Int)) := by rw [← hwd]; exact mk
          have c0' : wd.cell? ⟨b2, o2 + mk0 * 4, none⟩ = some (.int .u8 bed) := by rw [← hwd]; exact c0
          have c1' : wd.cell? ⟨b2, o2 + mk0 * 4 + 1, none⟩ = some (.bool nw) := by rw [← hwd]; exact c1
          have c2' : wd.cell? ⟨b2, o2 + mk0 * 4 + 2, none⟩ = some (.slice ta tl.length tc) := by rw [← hwd]; exact c2
          have c3' : wd.cell? ⟨b2, o2 + mk0 * 4 + 3, none⟩ = some (.slice pa pl.length pc) := by rw [← hwd]; exact c3
          rw [hwd] at HK hbd
          have HBD := Lib.hid hbd
          have HMD : Hid (wd.heap[w.heap.size]? = some (.cells (mb m) 79 (0, 0))) := Lib.hid (by rw [← hwd]; exact hmx)
          clear q0 q1 q2 q3 q4 q5 mk c0 c1 c2 c3 hcell hbd
          go_region_with (go_at_call 37; refine HK.out.mono ?_; rintro e w2 ⟨rfl, hb3⟩)
          all_goals (
            have HB3 := Lib.hid (HBD.out.trans (hb3.mono HBD.out.size))
            have hm2 := (hb3.block w.heap.size (Nat.lt_of_lt_of_le hlw HBD.out.size)).trans HMD.out
            have ho2 := below_owns HOW.out HB3.out
            have hsz2 := HB3.out.size
            have mk2 : w2.cell? ⟨w.heap.size, k, none⟩ = some (.int .i64 (mk0 : Int)) := by have := mb_cell hm2 hlt; rw [hmk0] at this; exact this
            have HM2 := Lib.hid hm2
            have HO2 := Lib.hid ho2
            clear hm2 ho2 hb3 q0' q1' q2' q3' q4' q5' mk' c0' c1' c2' c3' hwd
            cases d with
            | false =>
              go_wp2_with fail
              go_roundg (6 + 1 - (k + 1))
              case measure => have := HG2.out; omega
              case rel => exact ⟨k + 1, rfl, by go_num, by omega, by omega, Lib.hid (fun y hy => by
                by_cases e : y = k
                · subst e; exact HCAN.out
                · exact HNO.out y (by omega)), HB3.out⟩
            | true =>
              have hfp : ∃ f', f = f' + 1 := by
                have h1 := HSUM.out.1
                have h2 := sum_le (by rw [HSL.out]; exact H6.out) HSUM.out.2.2
                exact ⟨f - 1, by have := HFF.out; omega⟩
              obtain ⟨f', rfl⟩ := hfp
              have hrun : runM T f' (upM m k) (acc ++ [⟨(k : Int) + 1, (mk0 : Int)⟩]) = ordM T := by
                rw [← HRUN.out]
                show _ = runM T (f' + 1) m acc
                rw [runM, find_first hlt HNO.out HCAN.out]
                simp only
                rw [hmk0]
              have HRN := Lib.hid hrun
              have hll : acc.length ≤ 100000 := by have := HSUM.out.1; have := HSUM.out.2.1; omega
              have HLL := Lib.hid hll
              clear hrun hll
              go_upto_region 7 with fail
              iterate 28 go_step
              have hal := below1 w2 (.cells #[.int .u8 ((k : Int) + 1), .int .i64 (mk0 : Int)] 36)
              refine wpList_app_rec kdNm (v := u3) (l := acc) (x := ⟨(k : Int) + 1, (mk0 : Int)⟩) rfl rfl rfl rfl (HO2.out.alloc _) (rec_new Nm.enc _ 36 ⟨(k : Int) + 1, (mk0 : Int)⟩) HLL.out (by have := hal.size; omega) ?_
              intro v4 w4 ho4 hg4 _
              have hb4 : RowKit.Below (w.heap.size + 1) w2 w4 := (hal.mono (by omega)).grown hg4 (by have := hal.size; omega) (fun g e => (HO2.out.lt g e).1)
              have hm4 := (hb4.block w.heap.size (by omega)).trans HM2.out
              have mk4 : w4.cell? ⟨w.heap.size, k, none⟩ = some (.int .i64 (mk0 : Int)) := by have := mb_cell hm4 hlt; rw [hmk0] at this; exact this
              have fz4 : w4.frozen? ⟨w.heap.size, k, none⟩ = false := by simp [World.frozen?, hm4]
              have hm5 := setCell_block w4 w.heap.size k (.int .i64 ((m k : Int) + 1)) hm4
              rw [mb_up m hlt, hmk0] at hm5
              have ho5 := ownsRow_setCell_below ho4 (a := ⟨w.heap.size, k, none⟩) (by simp) (.int .i64 ((mk0 : Int) + 1))
              have hb5 : RowKit.Below w.heap.size w (w4.setCell ⟨w.heap.size, k, none⟩ (.int .i64 ((mk0 : Int) + 1))) := ((hbr.trans (HB3.out.mono hsz)).trans (hb4.mono (Nat.le_succ _))).setCell (p := ⟨w.heap.size, k, none⟩) (Nat.le_refl _) _
              have HM5 := Lib.hid hm5
              have HO5 := Lib.hid ho5
              have HB5 := Lib.hid hb5
              have HSU : Hid (sumM (upM m k) + f' = F ∧ (acc ++ [(⟨(k : Int) + 1, (mk0 : Int)⟩ : Nm)]).length = sumM (upM m k) ∧ ∀ y, y < 6 → upM m k y ≤ (T.getD y []).length) := Lib.hid (by
                obtain ⟨h1, h2, h3⟩ := HSUM.out
                have h4 := sum_up m hlt
                refine ⟨by omega, by rw [List.length_append, h2, h4]; rfl, fun y hy => ?_⟩
                unfold upM
                split
                · rename_i e; subst e
                  rw [hTD, List.length_map, hmk0]; omega
                · exact h3 y hy)
              have HG3 := HG
              clear hm4 hm5 ho4 ho5 hb4 hb5 hg4 hal mk2
              go_wp2_with fail
              go_roundg (f' + 1)
              case measure => have := HG3.out; omega
              case rel => exact ⟨f', upM m k, acc ++ [⟨(k : Int) + 1, (mk0 : Int)⟩], rfl, HRN, by omega, HSU, HM5, HO5, HB5.out⟩)
        · have hmz : ¬ ((mk0 : Int) < (rl.length : Int)) := by omega
          have HCAN : Hid (canM T m k = false) := Lib.hid (by unfold canM; rw [hTD, hmk0, List.length_map, decide_eq_false hml, Bool.false_and])
          clear hro hr hrm hbw
          go_upto_region 6 with fail
          go_quiet (fail)
          go_wp2_with fail
          go_roundg (6 + 1 - (k + 1))
          case measure => have := HG2.out; omega
          case rel => exact ⟨k + 1, rfl, by go_num, by omega, by omega, Lib.hid (fun y hy => by
            by_cases e : y = k
            · subst e; exact HCAN.out
            · exact HNO.out y (by omega)), below_drewN hbx _⟩
      · obtain rfl : k = 6 := by omega
        have hkz : ¬ ((6 : Int) < 6) := by omega
        have hacc : acc = ordM T := by
          have h1 := HSUM.out.1
          have h2 := sum_le (by rw [HSL.out]; exact H6.out) HSUM.out.2.2
          obtain ⟨f', rfl⟩ : ∃ f', f = f' + 1 := ⟨f - 1, by have := HFF.out; omega⟩
          rw [← HRUN.out, runM, find_none_iff HNO.out]
        have HACC := Lib.hid hacc
        clear hacc
        have hbw : Below w.heap.size w _ := hbr.trans (hbx.mono hsz)
        have hox := below_owns HOW.out hbx
        obtain ⟨s, rfl, hs, hl, hc, h0, hp⟩ := own_lie Nm.enc_len hox rfl
        obtain ⟨sa, sl, sc⟩ := s
        simp only at hs hc h0 hp
        subst hs
        have HCL := Lib.hid (clip_any33 sa sl.length sc hc h0 (fun a ha => by obtain ⟨b, h, _⟩ := hp a ha; exact ⟨b, h⟩))
        have HLI := Lib.hid hl
        have HOX := Lib.hid hox
        simp only [Sl.v]
        clear hox hl hc h0 hp
        go_wp2_with (go_at_call 33; refine (HCL.out _).mono ?_; rintro e w9 ⟨rfl, rfl⟩)
        (try rw [Exit.noGoto_ret])
        go_ret
        refine ⟨⟨sa, sl, sl.length⟩, rfl, Lib.hid ⟨HACC.out, by rw [HACC.out], ?_⟩, hbw⟩
        exact HLI.out
end Go.Proofs.Ytgaofkbmnapogaa
namespace Go.Proofs.Ytgaofkbmnapogaa
open Go.RowKit Go.Sort
/-- Why a table is not valid, or 0. -/
def checkM (T : List (List Lq)) : Int := if T.length ≠ 6 then 5 else if totM T > 2048 then 3 else if rightT T = false then 1 else if twiceM T = true then 8 else if (ordM T).length < totM T then 6 else 0
theorem right_names {t : Tb} (h : rightT t.sem = true) {r : Sl Lp} (hr : r ∈ t.l) {x : Lp} (hx : x ∈ r.l) : (∀ p ∈ x.th.l, there t.sem p = true) ∧ ∀ p ∈ x.pa.l, there t.sem p.id = true := by
  have h1 : rowM t.sem (r.l.map Lp.q) = true := List.all_eq_true.1 h _ (by unfold Tb.sem; exact List.mem_map.2 ⟨r, hr, rfl⟩)
  unfold rowM at h1
  rw [Bool.and_eq_true] at h1
  have h2 := List.all_eq_true.1 h1.1 x.q (List.mem_map.2 ⟨x, hx, rfl⟩)
  unfold rightM at h2
  simp only [Bool.and_eq_true, List.all_eq_true] at h2
  exact ⟨h2.1.1.2, fun p hp => (h2.1.2 p hp).1⟩
theorem there_bounds {t : Tb} {N : Nat} {w : World} (ht : Tb.ok N w t) {p : Nm} (h : there t.sem p = true) : 1 ≤ p.y ∧ p.y ≤ t.l.length ∧ 0 ≤ p.n ∧ p.n < 100 := by
  obtain ⟨k, i, r, x, rfl, hr, hx, _⟩ := there_get h
  have h1 := (List.getElem?_eq_some_iff.1 hr).1
  have h2 := (List.getElem?_eq_some_iff.1 hx).1
  have h3 := (ht.el r (List.mem_of_getElem? hr)).len
  simp only
  omega
theorem there_wf {t : Tb} {N : Nat} {w : World} (ht : Tb.ok N w t) {p : Nm} (h : there t.sem p = true) : p.wf := by
  have h1 := there_bounds ht h
  have h2 := ht.len
  exact ⟨⟨by omega, by omega⟩, by omega, by omega⟩
theorem tot_sum (t : Tb) : (t.l.map fun r => r.l.length).sum = totM t.sem := by
  unfold totM Tb.sem
  rw [List.map_map]
  congr 2
  funext r
  simp
theorem hnil (W : World) (l : List Nm) (h : l = []) : Hid ((⟨none, [], 0⟩ : Sl Nm).l = l ∧ (⟨none, [], 0⟩ : Sl Nm).cap = (⟨none, [], 0⟩ : Sl Nm).l.length ∧ (⟨none, [], 0⟩ : Sl Nm).lie Nm.enc W.heap.size W) := Lib.hid ⟨h.symm, rfl, .inl rfl⟩
set_option maxRecDepth 100000 in
set_option maxHeartbeats 4000000 in
theorem order_any (t : Tb) (N : Nat) (w : World) (hN : N ≤ w.heap.size) (ht : Tb.ok N w t) :
    Calls Try.prog 9 #[t.v] w fun e w' => ∃ s : Sl Nm, e = .returned (.tuple #[s.v, .int .i64 (checkM t.sem)]) ∧ Hid (s.l = (if checkM t.sem = 0 then ordM t.sem else []) ∧ s.cap = s.l.length ∧ s.lie Nm.enc w'.heap.size w') ∧ Below w.heap.size w w' := by
  have htM := ht.mono hN
  have K11 := Lib.hid (count_any t w.heap.size w (Nat.le_refl _) htM)
  have K22 := Lib.hid (areRight_any t w.heap.size w (Nat.le_refl _) htM)
  have K23 := Lib.hid (fun (W : World) (hb : Below w.heap.size w W) (h : rightT t.sem = true) => twice_any t w.heap.size W hb.size (htM.below hb) (fun p hp => by
    unfold thT thR at hp
    simp only [List.mem_flatMap] at hp
    obtain ⟨r, hr, x, hx, hp⟩ := hp
    exact there_wf ht ((right_names h hr hx).1 p hp)))
  have K24 := Lib.hid (fun (W : World) (hb : Below w.heap.size w W) (h6 : t.l.length = 6) (h : rightT t.sem = true) => ordered_any t w.heap.size W hb.size (htM.below hb) h6 (fun r hr x hx => by
    have hy : ∀ p : Nm, there t.sem p = true → okY p := fun p hp => by
      have h1 := there_bounds ht hp
      unfold okY
      omega
    exact ⟨fun p hp => hy p ((right_names h hr hx).1 p hp), fun p hp => hy p.id ((right_names h hr hx).2 p hp)⟩))
  rw [tot_sum] at K11
  have htot := tot_le ht
  have hsl : t.sem.length = t.l.length := t.sem_len
  obtain ⟨T, hT⟩ : ∃ T, t.sem = T := ⟨_, rfl⟩
  rw [hT] at K11 K22 K23 K24 htot hsl ⊢
  have HLN := Lib.hid ht.len
  obtain ⟨ao, ls, cap⟩ := t
  simp only [Sl.v] at K11 K22 K23 K24 htot hsl HLN ⊢
  clear ht htM hT
  obtain ⟨n, hn⟩ : ∃ n, ls.length = n := ⟨_, rfl⟩
  rw [hn] at K11 K22 K23 K24 htot hsl HLN ⊢
  have HSL := Lib.hid hsl
  by_cases h6 : n = 6
  · subst h6
    have htot2 : totM T ≤ 600 := by omega
    obtain ⟨S, hS⟩ : ∃ S, totM T = S := ⟨_, rfl⟩
    rw [hS] at K11 htot2
    have HS := Lib.hid hS
    have hS1 : ¬ (S : Int) > 2048 := by omega
    have hS2 : ¬ (2048 : Int) < S := by omega
    clear htot hsl hS hn
    cases hr : rightT T with
    | false =>
      have hcm : checkM T = 1 := by unfold checkM; rw [HSL.out, HS.out, hr]; simp; omega
      rw [hr] at K22
      rw [hcm]
      clear hr hcm
      go_enter Try.func9, Try.ntmps9
      go_wp2_with (first
        | (go_at_call 11; refine K11.out.mono ?_; rintro e w1 ⟨rfl, rfl⟩)
        | (go_at_call 22; refine K22.out.mono ?_; rintro e w2 ⟨rfl, hb2⟩))
      (try simp only [Exit.inBlock, Exit.then]); refine bodyPost_ret (results_tmp2 rfl _ _ _) rfl ?_
      exact ⟨⟨none, [], 0⟩, rfl, hnil _ _ rfl, hb2⟩
    | true =>
      have K23' := Lib.hid fun W hb => K23.out W hb hr
      have K24' := Lib.hid fun W hb => K24.out W hb rfl hr
      rw [hr] at K22
      have HR := Lib.hid hr
      clear hr K23 K24
      cases htw : twiceM T with
      | true =>
        have hcm : checkM T = 8 := by unfold checkM; rw [HSL.out, HS.out, HR.out, htw]; simp; omega
        rw [hcm]
        rw [htw] at K23'
        clear htw hcm
        go_enter Try.func9, Try.ntmps9
        go_wp2_with (first
          | (go_at_call 11; refine K11.out.mono ?_; rintro e w1 ⟨rfl, rfl⟩)
          | (go_at_call 22; refine K22.out.mono ?_; rintro e w2 ⟨rfl, hb2⟩; have HB2 := Lib.hid hb2)
          | (go_at_call 23; refine (K23'.out _ HB2.out).mono ?_; rintro e w3 ⟨rfl, hb3⟩))
        (try simp only [Exit.inBlock, Exit.then]); refine bodyPost_ret (results_tmp2 rfl _ _ _) rfl ?_
        exact ⟨⟨none, [], 0⟩, rfl, hnil _ _ rfl, HB2.out.trans (hb3.mono HB2.out.size)⟩
      | false =>
        rw [htw] at K23'
        have HTW := Lib.hid htw
        clear htw
        by_cases hfull : (ordM T).length < S
        · have hcm : checkM T = 6 := by unfold checkM; rw [HSL.out, HS.out, HR.out, HTW.out]; simp; omega
          rw [hcm]
          have hlz : ((ordM T).length : Int) < (S : Int) := by omega
          clear hcm
          go_enter Try.func9, Try.ntmps9
          go_wp2_with (first
            | (go_at_call 11; refine K11.out.mono ?_; rintro e w1 ⟨rfl, rfl⟩)
            | (go_at_call 22; refine K22.out.mono ?_; rintro e w2 ⟨rfl, hb2⟩; have HB2 := Lib.hid hb2)
            | (go_at_call 23; refine (K23'.out _ HB2.out).mono ?_; rintro e w3 ⟨rfl, hb3⟩; have HB3 := Lib.hid (HB2.out.trans (hb3.mono HB2.out.size)))
            | (go_at_call 24; refine (K24'.out _ HB3.out).mono ?_; rintro e w4 ⟨⟨sa, sl, sc⟩, rfl, HS4, hb4⟩; obtain rfl : sl = ordM T := HS4.out.1; simp only [Sl.v]))
          (try simp only [Exit.inBlock, Exit.then]); refine bodyPost_ret (results_tmp2 rfl _ _ _) rfl ?_
          exact ⟨⟨none, [], 0⟩, rfl, hnil _ _ rfl, HB3.out.trans (hb4.mono HB3.out.size)⟩
        · have hcm : checkM T = 0 := by unfold checkM; rw [HSL.out, HS.out, HR.out, HTW.out]; simp; omega
          rw [hcm]
          have hlz : ¬ ((ordM T).length : Int) < (S : Int) := by omega
          clear hcm
          go_enter Try.func9, Try.ntmps9
          go_wp2_with (first
            | (go_at_call 11; refine K11.out.mono ?_; rintro e w1 ⟨rfl, rfl⟩)
            | (go_at_call 22; refine K22.out.mono ?_; rintro e w2 ⟨rfl, hb2⟩; have HB2 := Lib.hid hb2)
            | (go_at_call 23; refine (K23'.out _ HB2.out).mono ?_; rintro e w3 ⟨rfl, hb3⟩; have HB3 := Lib.hid (HB2.out.trans (hb3.mono HB2.out.size)))
            | (go_at_call 24; refine (K24'.out _ HB3.out).mono ?_; rintro e w4 ⟨⟨sa, sl, sc⟩, rfl, HS4, hb4⟩; obtain rfl : sl = ordM T := HS4.out.1; simp only [Sl.v]))
          (try simp only [Exit.inBlock, Exit.then]); refine bodyPost_ret (results_tmp2 rfl _ _ _) rfl ?_
          exact ⟨⟨sa, ordM T, sc⟩, rfl, Lib.hid ⟨rfl, HS4.out.2.1, HS4.out.2.2⟩, HB3.out.trans (hb4.mono HB3.out.size)⟩
  · have hcm : checkM T = 5 := by unfold checkM; rw [HSL.out, if_pos h6]
    rw [hcm]
    have h6z : ¬ (n : Int) = 6 := by omega
    have h6b : ((n : Int) != 6) = true := by simp; omega
    clear hcm htot hsl hn
    go_enter Try.func9, Try.ntmps9
    go_wp2_with fail
    (try simp only [Exit.inBlock, Exit.then]); refine bodyPost_ret (results_tmp2 rfl _ _ _) rfl ?_
    exact ⟨⟨none, [], 0⟩, rfl, hnil _ _ rfl, Below.refl _ _⟩
end Go.Proofs.Ytgaofkbmnapogaa
namespace Go.Proofs.Ytgaofkbmnapogaa
open Go.RowKit Go.Sort
set_option maxRecDepth 100000 in
set_option maxHeartbeats 4000000 in
/-- Check. -/
theorem check_any (t : Tb) (N : Nat) (w : World) (hN : N ≤ w.heap.size) (ht : Tb.ok N w t) :
    Calls Try.prog 10 #[t.v] w fun e w' => e = .returned (.int .i64 (checkM t.sem)) ∧ Below w.heap.size w w' := by
  have K9 := Lib.hid (order_any t N w hN ht)
  obtain ⟨c, hc⟩ : ∃ c, checkM t.sem = c := ⟨_, rfl⟩
  rw [hc] at K9 ⊢
  obtain ⟨ao, ls, cap⟩ := t
  simp only [Sl.v] at K9 ⊢
  clear ht hc
  go_enter Try.func10, Try.ntmps10
  go_wp2_with (go_at_call 9; refine K9.out.mono ?_; rintro e w1 ⟨⟨sa, sl, sc⟩, rfl, _, hb1⟩; simp only [Sl.v])
  go_ret
  exact ⟨rfl, hb1⟩
/-- A list of nothing. -/
def nilSl {α : Type} : Sl α := ⟨none, [], 0⟩
theorem zrow6 : newRow (.slice none 0 0) (6 * 1) = (rcells rowEnc (List.replicate 6 nilSl)).toArray := by kernel_rfl
set_option maxRecDepth 100000 in
set_option maxHeartbeats 4000000 in
/-- Empty: six yarns without loops, in memory of its own. -/
theorem empty_any (w : World) :
    Calls Try.prog 14 #[] w fun e w' => e = .returned (.slice (some ⟨w.heap.size, 0, none⟩) 6 6) ∧ w' = w.alloc (.cells (rcells rowEnc (List.replicate 6 nilSl)).toArray 37) := by
  have hm := kdRow.make 6 6 rfl (by omega) w
  rw [zrow6] at hm
  obtain ⟨O, hO⟩ : ∃ O, (rcells rowEnc (List.replicate 6 nilSl)).toArray = O := ⟨_, rfl⟩
  rw [hO] at hm ⊢
  clear hO
  go_enter Try.func14, Try.ntmps14
  go_wp2_with fail
  go_ret
  exact ⟨rfl, rfl⟩
end Go.Proofs.Ytgaofkbmnapogaa
namespace Go.Proofs.Ytgaofkbmnapogaa
open Go.RowKit Go.Sort
theorem mem_take_succ {α : Type} {l : List α} {i : Nat} {x p : α} (h : l[i]? = some x) : p ∈ l.take (i + 1) ↔ p ∈ l.take i ∨ p = x := by
  rw [List.take_add_one, h]; simp
set_option maxRecDepth 100000 in
set_option maxHeartbeats 4000000 in
/-- slices.Index of names: 0 or more exactly if the name is there. -/
theorem index_any (s : Sl Nm) (p : Nm) (N : Nat) (w : World) (hN : N ≤ w.heap.size) (hs : s.lie Nm.enc N w) (hl : s.l.length ≤ 100000) :
    Calls Try.prog 44 #[s.v, p.v] w fun e w' => (∃ r : Int, e = .returned (.int .i64 r) ∧ decide (0 ≤ r) = decide (p ∈ s.l)) ∧ Below w.heap.size w w' := by
  have HS := Lib.hid (hs.mono hN)
  have hb0 := below1 w (.cells #[.int .u8 p.y, .int .i64 p.n] 36)
  have ho0 := heap_alloc_new w (.cells #[.int .u8 p.y, .int .i64 p.n] 36)
  obtain ⟨w0, hw0⟩ : ∃ w0, w.alloc (.cells #[.int .u8 p.y, .int .i64 p.n] 36) = w0 := ⟨_, rfl⟩
  rw [hw0] at hb0 ho0
  have HB0 := Lib.hid hb0
  have hz0 : w.heap.size + 1 ≤ w0.heap.size := (Array.getElem?_eq_some_iff.1 ho0).1
  have HZ := Lib.hid hz0
  have HL := Lib.hid (fun (W : World) (hb : Below w0.heap.size w0 W) => (hb.block w.heap.size (by omega)).trans ho0)
  obtain ⟨ao, l, cap⟩ := s
  simp only [Sl.v, Nm.v] at hl ⊢
  clear hb0 ho0 hz0 hs
  go_enter Try.func44, Try.ntmps44
  go_wp2_with fail
  go_loopg [8] (l.length + 1) (fun g s8 wr => ∃ i : Nat, s8 = .int .i64 i ∧ i ≤ l.length ∧ g = l.length + 1 - i ∧ Hid (p ∉ l.take i) ∧ Below w0.heap.size w0 wr)
  case atStart => exact ⟨0, rfl, by omega, by omega, Lib.hid (by simp), Below.refl _ _⟩
  case round =>
    obtain ⟨i, rfl, hi, hg, HNO, hbr⟩ := hrel
    have HG := Lib.hid hg
    clear hg
    have ho := HL.out _ hbr
    have n0 : wr.cell? ⟨w.heap.size, 0, none⟩ = some (.int .u8 p.y) := by simp [World.cell?, ho]
    have n1 : wr.cell? ⟨w.heap.size, 1, none⟩ = some (.int .i64 p.n) := by simp [World.cell?, ho]
    have hbw : Below w.heap.size w wr := HB0.out.trans (hbr.mono (by have := HZ.out; omega))
    clear ho
    by_cases hlt : i < l.length
    · have hiz : (i : Int) < (l.length : Int) := by omega
      obtain ⟨q, hq⟩ : ∃ q, l[i]? = some q := ⟨l[i], List.getElem?_eq_getElem hlt⟩
      obtain ⟨b, o, hao, hbl, c0, c1⟩ := Sl.lie.nm (HS.out.below hbw) hq
      obtain rfl : ao = some ⟨b, o, none⟩ := hao
      have HQ := Lib.hid hq
      have HBW := Lib.hid hbw
      clear hq hbw
      obtain ⟨r, hr⟩ : ∃ r, sameNm p.y p.n q.y q.n = r := ⟨_, rfl⟩
      have heq := fun W => eql28 hr W
      have HR := Lib.hid hr
      clear hr
      cases r with
      | true =>
        have hmem : p ∈ l := by
          rw [show p = q from sameNm_iff.1 HR.out]
          exact List.mem_of_getElem? HQ.out
        go_upto_region 4 with fail
        go_quiet (fail)
        rename_i nq
        go_wp2_with fail
        go_ret
        exact ⟨⟨_, rfl, decide_eq_decide.2 ⟨fun _ => hmem, fun _ => by omega⟩⟩, below_drewN HBW.out _⟩
      | false =>
        have hne : p ≠ q := sameNm_no HR.out
        go_upto_region 4 with fail
        go_quiet (fail)
        rename_i nq
        go_wp2_with fail
        go_roundg (l.length + 1 - (i + 1))
        case measure => have := HG.out; omega
        case rel => exact ⟨i + 1, by go_num, by omega, by omega, Lib.hid (by rw [mem_take_succ HQ.out]; exact fun h => h.elim HNO.out hne), below_drewN hbr _⟩
    · obtain rfl : i = l.length := by omega
      have hiz : ¬ ((l.length : Int) < (l.length : Int)) := by omega
      go_wp2_with fail
      go_ret
      have hn := HNO.out
      rw [List.take_length] at hn
      exact ⟨⟨_, rfl, ⟨fun h => absurd h (by decide), fun h => absurd h hn⟩⟩, hbw⟩
set_option maxRecDepth 100000 in
set_option maxHeartbeats 4000000 in
/-- slices.Contains of names. -/
theorem contains_any (s : Sl Nm) (p : Nm) (N : Nat) (w : World) (hN : N ≤ w.heap.size) (hs : s.lie Nm.enc N w) (hl : s.l.length ≤ 100000) :
    Calls Try.prog 35 #[s.v, p.v] w fun e w' => e = .returned (.bool (decide (p ∈ s.l))) ∧ Below w.heap.size w w' := by
  have hk := fun (W : World) (hb : Below w.heap.size w W) => index_any s p w.heap.size W hb.size ((hs.mono hN).below hb) hl
  have hb0 := below1 w (.cells #[.int .u8 p.y, .int .i64 p.n] 36)
  have ho0 := heap_alloc_new w (.cells #[.int .u8 p.y, .int .i64 p.n] 36)
  obtain ⟨w0, hw0⟩ : ∃ w0, w.alloc (.cells #[.int .u8 p.y, .int .i64 p.n] 36) = w0 := ⟨_, rfl⟩
  rw [hw0] at hb0 ho0
  have n0 : w0.cell? ⟨w.heap.size, 0, none⟩ = some (.int .u8 p.y) := by simp [World.cell?, ho0]
  have n1 : w0.cell? ⟨w.heap.size, 1, none⟩ = some (.int .i64 p.n) := by simp [World.cell?, ho0]
  obtain ⟨c, hc⟩ : ∃ c, decide (p ∈ s.l) = c := ⟨_, rfl⟩
  rw [hc] at hk ⊢
  have K := Lib.hid (hk w0 hb0)
  have HB0 := Lib.hid hb0
  obtain ⟨ao, l, cap⟩ := s
  simp only [Sl.v, Nm.v] at K ⊢
  clear hk hb0 ho0 hs hc
  go_enter Try.func35, Try.ntmps35
  go_wp2_with (go_at_call 44; refine K.out.mono ?_; rintro e w1 ⟨⟨r, rfl, hr⟩, hb1⟩)
  go_ret
  exact ⟨by first | rfl | rw [← hr] | simp [hr] | (rw [← hr]; simp), HB0.out.trans (hb1.mono HB0.out.size)⟩
end Go.Proofs.Ytgaofkbmnapogaa
namespace Go.Proofs.Ytgaofkbmnapogaa
open Go.RowKit Go.Sort
theorem results_nm2 {fn : Func} {p u : Tmp} (h : fn.results = #[.cell p 36, .tmp u]) (tmps : Array Value) (w : World) (B : Nat) (v0 v1 : Value) (hp : tmps.getD p undef = .pointer (some ⟨B, 0, none⟩)) (ho : w.heap[B]? = some (.cells #[v0, v1] 36 (0, 0))) :
    (results fn tmps).run Try.prog w = .ok (.tuple #[.agg #[v0, v1], tmps.getD u undef]) w := by
  have e0 : w.cell? ⟨B, 0, none⟩ = some v0 := by simp [World.cell?, ho]
  have e1 : w.cell? ⟨B, 1, none⟩ = some v1 := by simp [World.cell?, ho]
  have hp' : tmps[p]?.getD undef = .pointer (some ⟨B, 0, none⟩) := by simpa using hp
  simp [results, h, hp', go_sem, e0, e1]
theorem put2 {w : World} {B : Nat} {u0 u1 : Value} (v0 v1 : Value) (ho : w.heap[B]? = some (.cells #[u0, u1] 36 (0, 0))) :
    ((w.setCell ⟨B, 0, none⟩ v0).setCell ⟨B, 1, none⟩ v1).heap[B]? = some (.cells #[v0, v1] 36 (0, 0)) := by
  exact setCell_block _ _ _ _ (setCell_block _ _ _ _ ho)
theorem put2_below {w w0 : World} {B N : Nat} (a' b' : Value) (h : Below N w w0) (hB : N ≤ B) : Below N w ((w0.setCell ⟨B, 0, none⟩ a').setCell ⟨B, 1, none⟩ b') :=
  (h.setCell (p := ⟨B, 0, none⟩) hB _).setCell (p := ⟨B, 1, none⟩) hB _
set_option maxRecDepth 100000 in
set_option maxHeartbeats 4000000 in
/-- Above: the name of a loop that goes through a loop. -/
theorem above_any (t : Tb) (p : Nm) (N : Nat) (w : World) (hN : N ≤ w.heap.size) (ht : Tb.ok N w t) (hc : t.l.length ≤ t.cap) (ha : ∃ b o, t.ao = some ⟨b, o, none⟩) :
    Calls Try.prog 19 #[t.v, p.v] w fun e w' => ((∃ (k i : Nat) (r : Sl Lp) (x : Lp), t.l[k]? = some r ∧ r.l[i]? = some x ∧ p ∈ x.th.l ∧ e = .returned (.tuple #[.agg #[.int .u8 ((k : Int) + 1), .int .i64 i], .bool true])) ∨
      ((∀ r ∈ t.l, ∀ x ∈ r.l, p ∉ x.th.l) ∧ e = .returned (.tuple #[.agg #[.int .u8 0, .int .i64 0], .bool false]))) ∧ Below w.heap.size w w' := by
  have HT := Lib.hid (ht.mono hN)
  have hb0 := below2 w (.cells #[.int .u8 p.y, .int .i64 p.n] 36) (.cells #[.int .u8 0, .int .i64 0] 36)
  obtain ⟨w0, hw0⟩ : ∃ w0, (w.alloc (.cells #[.int .u8 p.y, .int .i64 p.n] 36)).alloc (.cells #[.int .u8 0, .int .i64 0] 36) = w0 := ⟨_, rfl⟩
  have ho1 : w0.heap[w.heap.size]? = some (.cells #[.int .u8 p.y, .int .i64 p.n] 36 (0, 0)) := by
    rw [← hw0]; have := heap_alloc_new w (.cells #[.int .u8 p.y, .int .i64 p.n] 36); exact ((below1 _ _).block w.heap.size (by simp)).trans this
  have ho2 : w0.heap[w.heap.size + 1]? = some (.cells #[.int .u8 0, .int .i64 0] 36 (0, 0)) := by
    rw [← hw0]; have := heap_alloc_new (w.alloc (.cells #[.int .u8 p.y, .int .i64 p.n] 36)) (.cells #[.int .u8 0, .int .i64 0] 36); simpa using this
  rw [hw0] at hb0
  have hz0 : w.heap.size + 2 ≤ w0.heap.size := by have := (Array.getElem?_eq_some_iff.1 ho2).1; omega
  have HB0 := Lib.hid hb0
  have HZ := Lib.hid hz0
  have HL1 := Lib.hid (fun (W : World) (hb : Below w0.heap.size w0 W) => (hb.block w.heap.size (by omega)).trans ho1)
  have HL2 := Lib.hid (fun (W : World) (hb : Below w0.heap.size w0 W) => (hb.block (w.heap.size + 1) (by omega)).trans ho2)
  obtain ⟨ao, ls, cap⟩ := t
  obtain ⟨B, O, hao⟩ := ha
  obtain rfl : ao = some ⟨B, O, none⟩ := hao
  simp only [Sl.v, Nm.v] at hc ⊢
  have hlen : ls.length ≤ 100 := HT.out.len
  have hmin : min (ls.length : Int) 255 = ls.length := by omega
  have hml : ¬ (255 : Int) < (ls.length : Int) := by omega
  have hcz : (ls.length : Int) ≤ (cap : Int) := by omega
  clear ht hb0 ho1 ho2 hz0
  go_enter Try.func19, Try.ntmps19
  go_wp2_with fail
  go_loopg [16] (ls.length + 1) (fun g s16 wr => ∃ k : Nat, s16 = .int .i64 k ∧ k ≤ ls.length ∧ g = ls.length + 1 - k ∧ Hid (∀ r ∈ ls.take k, ∀ x ∈ r.l, p ∉ x.th.l) ∧ Below w0.heap.size w0 wr)
  case atStart => exact ⟨0, rfl, by omega, by omega, Lib.hid (by simp), Below.refl _ _⟩
  case round =>
    obtain ⟨k, rfl, hk, hg, HNO, hbr⟩ := hrel
    have HG := Lib.hid hg
    clear hg
    have hbw : Below w.heap.size w wr := HB0.out.trans (hbr.mono (by have := HZ.out; omega))
    by_cases hlt : k < ls.length
    · have hkz : (k : Int) < (ls.length : Int) := by omega
      obtain ⟨r, hr⟩ : ∃ r, ls[k]? = some r := ⟨ls[k], List.getElem?_eq_getElem hlt⟩
      obtain ⟨b, o, hao, hbl, hcell, hro⟩ := (HT.out.below hbw).row hr
      obtain ⟨rfl, rfl⟩ : B = b ∧ O = o := by simpa using hao
      have HR := Lib.hid hr
      obtain ⟨ra, rl, rc⟩ := r
      have hrl : rl.length ≤ 100 := hro.len
      simp only [Sl.v] at hcell
      have HRO : Hid (RowOk w.heap.size w ⟨ra, rl, rc⟩) := Lib.hid (HT.out.el _ (List.mem_of_getElem? hr))
      clear hr hro hbw hao
      go_wp2_with fail
      obtain ⟨wo, hwo⟩ : ∃ wo, wr = wo := ⟨_, rfl⟩
      rw [hwo] at hbr
      go_loopg [23] (rl.length + 1) (fun g s23 wx => ∃ i : Nat, s23 = .int .i64 i ∧ i ≤ rl.length ∧ g = rl.length + 1 - i ∧ Hid (∀ x ∈ rl.take i, p ∉ x.th.l) ∧ Below w0.heap.size w0 wx)
      case atStart => exact ⟨0, rfl, by omega, by omega, Lib.hid (by simp), by rw [hwo]; exact hbr⟩
      case round =>
        clear hbr hcell
        obtain ⟨i, rfl, hi, hg, HNI, hbr⟩ := hrel
        have HG2 := Lib.hid hg
        clear hg
        have hsz := hbr.size
        have hbw : Below w.heap.size w wr := HB0.out.trans (hbr.mono (by have := HZ.out; omega))
        by_cases hlt2 : i < rl.length
        · have hiz : (i : Int) < (rl.length : Int) := by omega
          obtain ⟨x, hx⟩ : ∃ x, rl[i]? = some x := ⟨rl[i], List.getElem?_eq_getElem hlt2⟩
          obtain ⟨b2, o2, hra, hb2, c0, c1, c2, c3, hxo⟩ := (HRO.out.below hbw).loop hx
          obtain rfl : ra = some ⟨b2, o2, none⟩ := hra
          have HX := Lib.hid hx
          obtain ⟨bed, nw, ⟨ta, tl, tc⟩, ⟨pa, pl, pc⟩⟩ := x
          have K35 := Lib.hid (fun (W : World) (hb : Below wr.heap.size wr W) => contains_any ⟨ta, tl, tc⟩ p w.heap.size W (Nat.le_trans hbw.size hb.size) (hxo.th.below (hb.mono hbw.size)) (by have := hxo.lt; simp only at this ⊢; omega))
          simp only [Sl.v, Nm.v] at c0 c1 c2 c3 K35
          have hbn := below1 wr (.cells #[.int .u8 bed, .bool nw, .slice ta tl.length tc, .slice pa pl.length pc] 45)
          have hob := heap_alloc_new wr (.cells #[.int .u8 bed, .bool nw, .slice ta tl.length tc, .slice pa pl.length pc] 45)
          obtain ⟨wn, hwn⟩ : ∃ wn, wr.alloc (.cells #[.int .u8 bed, .bool nw, .slice ta tl.length tc, .slice pa pl.length pc] 45) = wn := ⟨_, rfl⟩
          rw [hwn] at hbn hob
          have p2 : wn.cell? ⟨wr.heap.size, 2, none⟩ = some (.slice ta tl.length tc) := by simp [World.cell?, hob]
          have HBN : Hid (Below w0.heap.size w0 wn) := Lib.hid (hbr.trans (hbn.mono hsz))
          have ho1 := HL1.out _ HBN.out
          have n0 : wn.cell? ⟨w.heap.size, 0, none⟩ = some (.int .u8 p.y) := by simp [World.cell?, ho1]
          have n1 : wn.cell? ⟨w.heap.size, 1, none⟩ = some (.int .i64 p.n) := by simp [World.cell?, ho1]
          have K := Lib.hid (K35.out wn hbn)
          obtain ⟨c, hcm⟩ : ∃ c, decide (p ∈ tl) = c := ⟨_, rfl⟩
          rw [hcm] at K
          have HCM := Lib.hid hcm
          clear hob hbn ho1 hx hxo hbw hbr hcm K35
          cases c with
          | true =>
            go_wp2_with (go_at_call 35; refine K.out.mono ?_; rintro e w2 ⟨rfl, hb2⟩; have HB2 := Lib.hid (HBN.out.trans (hb2.mono HBN.out.size)); have HQ := Lib.hid (HL2.out _ HB2.out); have z0 : w2.cell? ⟨w.heap.size + 1, 0, none⟩ = some (.int .u8 0) := (by simp [World.cell?, HQ.out]); have z1 : w2.cell? ⟨w.heap.size + 1, 1, none⟩ = some (.int .i64 0) := (by simp [World.cell?, HQ.out]); have zf : ∀ o, w2.frozen? ⟨w.heap.size + 1, o, none⟩ = false := (fun o => by simp [World.frozen?, HQ.out]); have g0 := zf 0; have g1 := zf 1; clear zf hb2)
            have hp2 := put2 (.int .u8 ((k : Int) + 1)) (.int .i64 i) HQ.out
            refine bodyPost_ret (results_nm2 rfl _ _ _ _ _ rfl hp2) rfl ?_
            exact ⟨.inl ⟨k, i, _, _, HR.out, HX.out, of_decide_eq_true HCM.out, rfl⟩, put2_below _ _ (HB0.out.trans (HB2.out.mono (by have := HZ.out; omega))) (Nat.le_add_right _ 1)⟩
          | false =>
            go_wp2_with (go_at_call 35; refine K.out.mono ?_; rintro e w2 ⟨rfl, hb2⟩)
            go_roundg (rl.length + 1 - (i + 1))
            case measure => have := HG2.out; omega
            case rel => exact ⟨i + 1, by go_num, by omega, by omega, Lib.hid (fun y hy => by
                rw [mem_take_succ HX.out] at hy
                rcases hy with hy | rfl
                · exact HNI.out y hy
                · exact of_decide_eq_false HCM.out), HBN.out.trans (hb2.mono HBN.out.size)⟩
        · obtain rfl : i = rl.length := by omega
          have hiz : ¬ ((rl.length : Int) < (rl.length : Int)) := by omega
          clear hbw
          go_wp2_with fail
          go_roundg (ls.length + 1 - (k + 1))
          case measure => have := HG.out; omega
          case rel => exact ⟨k + 1, by go_num, by omega, by omega, Lib.hid (fun r hr => by
              rw [mem_take_succ HR.out] at hr
              rcases hr with hr | rfl
              · exact HNO.out r hr
              · have h := HNI.out
                rw [List.take_length] at h
                exact h), hbr⟩
    · obtain rfl : k = ls.length := by omega
      have hkz : ¬ ((ls.length : Int) < (ls.length : Int)) := by omega
      have HQ := Lib.hid (HL2.out _ hbr)
      have z0 : wr.cell? ⟨w.heap.size + 1, 0, none⟩ = some (.int .u8 0) := by simp [World.cell?, HQ.out]
      have z1 : wr.cell? ⟨w.heap.size + 1, 1, none⟩ = some (.int .i64 0) := by simp [World.cell?, HQ.out]
      have zf : ∀ o, wr.frozen? ⟨w.heap.size + 1, o, none⟩ = false := fun o => by simp [World.frozen?, HQ.out]
      have g0 := zf 0
      have g1 := zf 1
      have HBW := Lib.hid hbw
      clear zf hbw
      go_wp2_with fail
      have hp2 := put2 (.int .u8 0) (.int .i64 0) HQ.out
      refine bodyPost_ret (results_nm2 rfl _ _ _ _ _ rfl hp2) rfl ?_
      exact ⟨.inr ⟨by have h := HNO.out; rw [List.take_length] at h; exact h, rfl⟩, put2_below _ _ HBW.out (Nat.le_add_right _ 1)⟩
end Go.Proofs.Ytgaofkbmnapogaa
