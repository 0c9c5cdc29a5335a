import Derived.Test.YtikdhdikaihenaaCopied
import Derived.Test.YtikdhdikaihenaaPend
namespace Go.Proofs.Ytikdhdikaihenaa
open Go.RowKit Go.Sort

theorem grown_of_below {w w' : World} (h : Below w.heap.size w w') : w.grownBy w' none := ⟨h.os, h.tape, h.output, h.size, fun k hk _ => h.block k hk⟩
theorem owns_below {w w' : World} {B e n : Nat} {v : Value} {xs : List Value} (h : w.ownsRow B e 4 v n xs) (hb : Below w.heap.size w w') : w'.ownsRow B e 4 v n xs :=
  h.kept (grown_of_below hb) (by cases hv : v.ownBlock <;> simp)

theorem owns_pop {w : World} {B e g cap n : Nat} {t : List Ps} {x : Ps} (h : w.ownsRow B e 4 (.slice (some ⟨g, 0, none⟩) (n + 1) cap) (n + 1) (cellsOf (t ++ [x]))) : w.ownsRow B e 4 (.slice (some ⟨g, 0, none⟩) n cap) n (cellsOf t) := by
  have hn : n = t.length := by have := h.1; rw [cellsOf_length, List.length_append] at this; simp at this; omega
  rcases h.2 with ⟨h', _⟩ | ⟨g', cap', cur, h', hb, hg, hnc, hcm, hcs, htake⟩
  · simp at h'
  · simp only [Value.slice.injEq, Option.some.injEq, Addr.mk.injEq, and_true, true_and] at h'
    obtain ⟨rfl, rfl⟩ := h'
    refine ⟨by rw [cellsOf_length, hn], .inr ⟨g, cap, cur, rfl, hb, hg, by omega, hcm, hcs, ?_⟩⟩
    have hx : (cellsOf (t ++ [x])).take (n * 4) = cellsOf t := by
      rw [cellsOf_append, List.take_append_of_le_length (by rw [cellsOf_length, hn]; exact Nat.le_refl _), List.take_of_length_le (by rw [cellsOf_length, hn]; exact Nat.le_refl _)]
    rw [← hx, ← htake, List.take_take]; congr 1; omega

/-- The last pass of a row of one's own. -/
theorem owns_last {w : World} {B e g cap n : Nat} {t : List Ps} {x : Ps} (h : w.ownsRow B e 4 (.slice (some ⟨g, 0, none⟩) (n + 1) cap) (n + 1) (cellsOf (t ++ [x]))) : g < w.heap.size ∧ Four w g (n * 4) x := by
  obtain ⟨hn, ao, cap', hv, -, -, hl⟩ := lie_of_owns h
  obtain ⟨rfl, -⟩ : some ⟨g, 0, none⟩ = ao ∧ cap = cap' := by simpa using hv
  obtain ⟨b, o, hbo, hb, hf⟩ := hl.at (i := n) (by omega)
  obtain ⟨rfl, rfl⟩ : g = b ∧ 0 = o := by simpa using hbo
  have e2 : (t ++ [x]).getD n Ps.nil = x := by
    have : n = t.length := by simp at hn; omega
    subst this; simp [List.getD]
  rw [e2, Nat.zero_add] at hf
  exact ⟨hb, hf⟩

theorem owns_add {w : World} {B e n : Nat} {v : Value} {t : List Ps} {x : Ps} (h : w.ownsRow B e 4 v n (cellsOf t ++ [.int .u8 x.y, .int .i64 x.n, .bool x.f, .int .u8 x.d])) : w.ownsRow B e 4 v n (cellsOf (t ++ [x])) := by
  rw [cellsOf_append]; exact h

theorem four_new (w : World) (y m : Int) (f : Bool) (d : Int) : Four (w.alloc (.cells #[.int .u8 y, .int .i64 m, .bool f, .int .u8 d] 33)) w.heap.size 0 ⟨y, m, f, d⟩ := by
  refine ⟨?_, ?_, ?_, ?_⟩ <;> go_simp

theorem owns_mono {w : World} {B B' e n : Nat} {v : Value} {xs : List Value} (h : w.ownsRow B e 4 v n xs) (hB : B' ≤ B) : w.ownsRow B' e 4 v n xs := by
  refine ⟨h.1, ?_⟩
  rcases h.2 with h' | ⟨g, cap, cur, hv, hb, hx⟩
  · exact .inl h'
  · exact .inr ⟨g, cap, cur, hv, Nat.le_trans hB hb, hx⟩

theorem new4 (w : World) (y m : Int) (f : Bool) (d : Int) : ∀ j u, [Value.int .u8 y, .int .i64 m, .bool f, .int .u8 d][j]? = some u → (w.alloc (.cells #[.int .u8 y, .int .i64 m, .bool f, .int .u8 d] 33)).cell? ((⟨w.heap.size, 0, none⟩ : Addr).add j) = some u := by
  intro j u hj
  obtain ⟨c0, c1, c2, c3⟩ := four_new w y m f d
  have e : (⟨w.heap.size, 0, none⟩ : Addr).add j = ⟨w.heap.size, 0 + j, none⟩ := Addr.add_lit ..
  rw [e, Nat.zero_add]
  match j, hj with
  | 0, hj => simp at hj; subst hj; exact c0
  | 1, hj => simp at hj; subst hj; exact c1
  | 2, hj => simp at hj; subst hj; exact c2
  | 3, hj => simp at hj; subst hj; exact c3
  | j + 4, hj => simp at hj
theorem one4 (y m : Int) (f : Bool) (d : Int) : ∀ u ∈ [Value.int .u8 y, .int .i64 m, .bool f, .int .u8 d], u.oneCell' = true := by
  intro u hu
  simp at hu
  rcases hu with rfl | rfl | rfl | rfl <;> rfl
theorem fold_take (ps s0 : List Ps) (k : Nat) (hk : k < ps.length) : (ps.take (k + 1)).foldl psh s0 = psh ((ps.take k).foldl psh s0) (ps.getD k Ps.nil) := by
  have e : ps.take (k + 1) = ps.take k ++ [ps.getD k Ps.nil] := by
    rw [List.take_succ_eq_append_getElem hk]; simp [List.getD, List.getElem?_eq_getElem hk]
  rw [e, List.foldl_append]; rfl

set_option maxRecDepth 10000 in
set_option maxHeartbeats 2000000 in
theorem behind_any (ao1 ao2 : Option Addr) (ps1 ps2 : List Ps) (n1 n2 cap1 cap2 : Nat) (w : World) (hn1 : n1 = ps1.length) (hn2 : n2 = ps2.length) (hm : 24 * (n1 + n2) ≤ 281474976710656) (h1 : Lie w ao1 ps1) (h2 : Lie w ao2 ps2) :
    Calls Try.prog 23 #[.slice ao1 n1 cap1, .slice ao2 n2 cap2] w fun e w' => Made w.heap.size w w' e (red (ps1 ++ ps2)) := by
  have HN1 := Lib.hid hn1
  have HN2 := Lib.hid hn2
  have HL1 := Lib.hid h1
  have HL2 := Lib.hid h2
  clear hn1 hn2 h1 h2
  have hmk := fun w => run_mk0 ((n1 : Int) + n2) (n1 + n2) (by omega) hm w
  obtain ⟨i0, hi, hz0, hz1, hz2⟩ := info_parts info33
  have HI := Lib.hid (And.intro hi hz1)
  clear hi hz0 hz1 hz2
  go_enter Try.func23, Try.ntmps23
  go_wp2_with fail
  clear hmk
  have own0 := World.ownsRow_made (base := w.heap.size) (e := 33) (size := 4) w (rowNew (n1 + n2)) (n1 + n2) (Nat.le_refl _) (by simp [maxLen]; omega) (rowNew_size _)
  obtain ⟨W0, hW0⟩ : ∃ W0 : World, W0 = w.alloc (.cells (rowNew (n1 + n2)) 33) := ⟨_, rfl⟩
  rw [← hW0] at own0 ⊢
  have B0 : Below w.heap.size w W0 := by rw [hW0]; exact below1 _ _
  clear hW0
  have hrm : n1 + n2 ≤ 11728124029610 := by omega
  go_loopg [6, 22] 3 (fun g v i wr => ∃ j : Nat, j ≤ 2 ∧ g = 3 - j ∧ i = .int .i64 j ∧ ∃ s : List Ps, ∃ k : Nat, v = .slice (some ⟨w.heap.size, 0, none⟩) k (n1 + n2) ∧ Hid (k = s.length ∧ k ≤ (if j = 0 then 0 else if j = 1 then n1 else n1 + n2) ∧
    s = red (if j = 0 then [] else if j = 1 then ps1 else ps1 ++ ps2) ∧ wr.ownsRow w.heap.size 33 4 (.slice (some ⟨w.heap.size, 0, none⟩) k (n1 + n2)) k (cellsOf s)) ∧ Below w.heap.size w wr)
  case atStart => exact ⟨0, by omega, rfl, rfl, [], 0, rfl, ⟨rfl, Nat.le_refl _, rfl, own0⟩, B0⟩
  case round =>
    obtain ⟨j, hj, hg, rfl, s0, k0, rfl, HS, hb⟩ := hrel
    have HM := Lib.hid hg
    clear hg own0
    obtain ⟨go, rfl⟩ : ∃ go : Nat, go = gk := ⟨_, rfl⟩
    obtain ⟨wo, rfl⟩ : ∃ wo : World, wo = wr := ⟨_, rfl⟩
    by_cases hlt : j < 2
    · have hjd : decide ((j : Int) < 2) = true := by simp; omega
      obtain ⟨ao, n, cap, ps, pj, hij, hx⟩ : ∃ ao n cap ps pj, (∀ w, (Instr.index 63 (.agg #[.slice ao1 n1 cap1, .slice ao2 n2 cap2]) (.int .i64 j)).run Try.prog w = .ok (.slice ao n cap) w) ∧
          (n = ps.length ∧ Lie w ao ps ∧ k0 ≤ pj ∧ pj + n ≤ n1 + n2 ∧ pj + n = (if j + 1 = 0 then 0 else if j + 1 = 1 then n1 else n1 + n2) ∧ ps.foldl psh s0 = red (if j + 1 = 0 then [] else if j + 1 = 1 then ps1 else ps1 ++ ps2)) := by
        have hs := HS.out
        obtain rfl | rfl : j = 0 ∨ j = 1 := by omega
        · refine ⟨ao1, n1, cap1, ps1, 0, fun _ => by kernel_rfl, HN1.out, HL1.out, by simpa using hs.2.1, by omega, by simp, ?_⟩
          rw [hs.2.2.1]; simp [red]
        · refine ⟨ao2, n2, cap2, ps2, n1, fun _ => by kernel_rfl, HN2.out, HL2.out, by simpa using hs.2.1, by omega, by simp, ?_⟩
          rw [hs.2.2.1]; simp [red]
      have HX := Lib.hid hx
      have hnr : n ≤ n1 + n2 := by omega
      clear hx
      go_wp2_with fail
      clear hij
      go_loopg [6, 27] (n + 1) (fun g v i wr => ∃ k : Nat, k ≤ n ∧ g = n + 1 - k ∧ i = .int .i64 k ∧ ∃ s : List Ps, ∃ q : Nat, v = .slice (some ⟨w.heap.size, 0, none⟩) q (n1 + n2) ∧ Hid (q = s.length ∧ q ≤ pj + k ∧
        s = (ps.take k).foldl psh s0 ∧ wr.ownsRow w.heap.size 33 4 (.slice (some ⟨w.heap.size, 0, none⟩) q (n1 + n2)) q (cellsOf s)) ∧ Below w.heap.size w wr)
      case atStart => exact ⟨0, by omega, rfl, rfl, s0, k0, rfl, ⟨HS.out.1, HX.out.2.2.1, by simp, HS.out.2.2.2⟩, hb⟩
      case round =>
        obtain ⟨k, hk, hg, rfl, s, q, rfl, HT, hb2⟩ := hrel
        have HM2 := Lib.hid hg
        clear hg
        have hsz := hb2.size
        obtain ⟨q1, q2, q3, hown⟩ := HT.out
        have HQ := Lib.hid (And.intro q1 q3)
        have HO := Lib.hid hown
        have hql : q ≤ n1 + n2 := by have := HX.out.2.2.2.1; omega
        have hqk : k < n → q + 1 ≤ n1 + n2 := fun _ => by have := HX.out.2.2.2.1; omega
        have HPJ := Lib.hid q2
        clear q1 q2 q3 hown HT
        by_cases hlt2 : k < n
        · have hqr := hqk hlt2
          clear hqk
          obtain ⟨b, o, rfl, hbb, hf⟩ := Lie.at (HX.out.2.1.below hb2) (i := k) (by rw [← HX.out.1]; exact hlt2)
          obtain ⟨p, hp⟩ : ∃ p, p = ps.getD k Ps.nil := ⟨_, rfl⟩
          rw [← hp] at hf
          have HP := Lib.hid hp
          clear hp
          obtain ⟨y, m, f, d⟩ := p
          have hfw := hf
          obtain ⟨c0, c1, c2, c3⟩ := hf
          simp only at c0 c1 c2 c3
          rcases list_last s with rfl | ⟨t, x, rfl⟩
          · obtain rfl : q = 0 := HQ.out.1
            go_wp2_with fail
            obtain ⟨W1, hW1⟩ : ∃ W1 : World, W1 = wr.alloc (.cells #[.int .u8 y, .int .i64 m, .bool f, .int .u8 d] 33) := ⟨_, rfl⟩
            rw [← hW1]
            have hf1 : Four W1 wr.heap.size 0 ⟨y, m, f, d⟩ := by rw [hW1]; exact four_new _ _ _ _ _
            have hO1 : W1.ownsRow w.heap.size 33 4 (.slice (some ⟨w.heap.size, 0, none⟩) 0 (n1 + n2)) 0 (cellsOf []) := by rw [hW1]; exact HO.out.alloc _
            have hbW : Below w.heap.size w W1 := by rw [hW1]; exact hb2.alloc hsz _
            have hz1 : W1.heap.size = wr.heap.size + 1 := by rw [hW1]; simp
            clear hW1
            refine wp_region_quiet_below (by kernel_rfl) (by kernel_rfl) ?_
            repeat (quiet_step (fail))
            rintro w2 ⟨⟨dq, osq⟩, rfl⟩
            have hbV : Below w.heap.size w (grow (redrawn W1 dq) osq) := hbW.trans ((below_regrown W1 dq osq).mono (by omega))
            have hOV := owns_below hO1 (below_regrown W1 dq osq)
            have hfV := hf1.below (below_regrown W1 dq osq) (by omega)
            obtain ⟨V, hV⟩ : ∃ V : World, V = grow (redrawn W1 dq) osq := ⟨_, rfl⟩
            rw [← hV] at hbV hOV hfV ⊢
            have HOV := Lib.hid hOV
            have hzV := hbV.size
            obtain ⟨v0, v1, v2, v3⟩ := hfV
            simp only [Nat.zero_add] at v0 v1 v2 v3
            clear hV hOV hO1 hf1 hbW hz1 
            go_wp2_with (at_builtin; refine wpList_append_fits _ rfl _ _ 23 rfl w.heap.size 33 i0 4 Try.underlying23 HI.out.1 HI.out.2 w.heap.size 0 (n1 + n2) (cellsOf []) rfl (HOV.out.alloc _) ⟨V.heap.size, 0, none⟩ 1 1 [.int .u8 y, .int .i64 m, .bool f, .int .u8 d] rfl rfl (new4 _ _ _ _ _) (one4 _ _ _ _) (by omega) ?_)
            intro w4 hown4 hgrow4
            have HO4 := Lib.hid hown4
            have hb4 : Below w.heap.size w w4 := (hbV.alloc (by omega) _).grown hgrow4 (by simp; omega) (by rintro _ ⟨⟩; exact Nat.le_refl _)
            clear hown4 hgrow4
            go_wp2
            go_roundg (gk - 1)
            case measure => have := HM2.out; omega
            case rel =>
              refine ⟨k + 1, by omega, by have := HM2.out; omega, by go_num, [] ++ [⟨y, m, f, d⟩], 0 + 1, rfl, ⟨by rw [HQ.out.1]; simp, by have := HPJ.out; omega, ?_, owns_add HO4.out⟩, hb4⟩
              rw [fold_take _ _ _ (by rw [← HX.out.1]; exact hlt2), ← HQ.out.2, ← HP.out]
              exact (psh_nil _).symm
          · obtain ⟨q', rfl⟩ : ∃ q', q = q' + 1 := ⟨t.length, by rw [HQ.out.1]; simp⟩
            obtain ⟨yx, mx, fx, dx⟩ := x
            go_wp2_with fail
            obtain ⟨W1, hW1⟩ : ∃ W1 : World, W1 = wr.alloc (.cells #[.int .u8 y, .int .i64 m, .bool f, .int .u8 d] 33) := ⟨_, rfl⟩
            rw [← hW1]
            have hf1 : Four W1 wr.heap.size 0 ⟨y, m, f, d⟩ := by rw [hW1]; exact four_new _ _ _ _ _
            have hO1 : W1.ownsRow w.heap.size 33 4 (.slice (some ⟨w.heap.size, 0, none⟩) (q' + 1) (n1 + n2)) (q' + 1) (cellsOf (t ++ [⟨yx, mx, fx, dx⟩])) := by rw [hW1]; exact HO.out.alloc _
            have hbW : Below w.heap.size w W1 := by rw [hW1]; exact hb2.alloc hsz _
            have hz1 : W1.heap.size = wr.heap.size + 1 := by rw [hW1]; simp
            clear hW1
            obtain ⟨hgz, hfx⟩ := owns_last hO1
            obtain ⟨g0, g1, g2, g3⟩ := hfx.regrown
            obtain ⟨g4, g5, g6, g7⟩ := hf1.regrown
            simp only [Nat.zero_add] at g4 g5 g6 g7
            have gd : decide ((0 : Int) ≤ (q' : Int)) = true := by simp
            have gn : (0 : Int) ≤ (q' : Int) := by omega
            have gl : (q' : Int) < (q' : Int) + 1 := by omega
            obtain ⟨c, hc⟩ : ∃ c, canc ⟨yx, mx, fx, dx⟩ ⟨y, m, f, d⟩ = c := ⟨_, rfl⟩
            have K1 := Lib.hid (cancel_regrown hc W1)
            have HC := Lib.hid hc
            clear hc hfx
            refine wp_region_quiet_below (by kernel_rfl) (by kernel_rfl) ?_
            repeat (quiet_step (exact K1.out _ _))
            rintro w2 ⟨⟨dq, osq⟩, rfl⟩
            have hbV : Below w.heap.size w (grow (redrawn W1 dq) osq) := hbW.trans ((below_regrown W1 dq osq).mono (by omega))
            have hOV := owns_below hO1 (below_regrown W1 dq osq)
            have hfV := hf1.below (below_regrown W1 dq osq) (by omega)
            obtain ⟨V, hV⟩ : ∃ V : World, V = grow (redrawn W1 dq) osq := ⟨_, rfl⟩
            rw [← hV] at hbV hOV hfV ⊢
            have HOV := Lib.hid hOV
            have hzV := hbV.size
            obtain ⟨v0, v1, v2, v3⟩ := hfV
            simp only [Nat.zero_add] at v0 v1 v2 v3
            clear hV hOV hO1 hf1 hbW hz1 g0 g1 g2 g3 g4 g5 g6 g7 gd gn gl K1
            cases c
            · go_wp2_with (at_builtin; refine wpList_append_fits _ rfl _ _ 23 rfl w.heap.size 33 i0 4 Try.underlying23 HI.out.1 HI.out.2 w.heap.size (q' + 1) (n1 + n2) (cellsOf (t ++ [⟨yx, mx, fx, dx⟩])) rfl (HOV.out.alloc _) ⟨V.heap.size, 0, none⟩ 1 1 [.int .u8 y, .int .i64 m, .bool f, .int .u8 d] rfl rfl (new4 _ _ _ _ _) (one4 _ _ _ _) (by omega) ?_)
              intro w4 hown4 hgrow4
              have HO4 := Lib.hid hown4
              have hb4 : Below w.heap.size w w4 := (hbV.alloc (by omega) _).grown hgrow4 (by simp; omega) (by rintro _ ⟨⟩; exact Nat.le_refl _)
              clear hown4 hgrow4
              go_wp2
              go_roundg (gk - 1)
              case measure => have := HM2.out; omega
              case rel =>
                refine ⟨k + 1, by omega, by have := HM2.out; omega, by go_num, (t ++ [⟨yx, mx, fx, dx⟩]) ++ [⟨y, m, f, d⟩], (q' + 1) + 1, rfl, ⟨by rw [HQ.out.1]; simp, by have := HPJ.out; omega, ?_, owns_add HO4.out⟩, hb4⟩
                rw [fold_take _ _ _ (by rw [← HX.out.1]; exact hlt2), ← HQ.out.2, ← HP.out]
                exact (psh_no HC.out).symm
            · have gm : ¬ (n1 + n2 = 0) := by omega
              go_wp2
              go_roundg (gk - 1)
              case measure => have := HM2.out; omega
              case rel =>
                refine ⟨k + 1, by omega, by have := HM2.out; omega, by go_num, t, q', rfl, ⟨by have := HQ.out.1; simp at this; omega, by have := HPJ.out; omega, ?_, owns_pop HOV.out⟩, hbV⟩
                rw [fold_take _ _ _ (by rw [← HX.out.1]; exact hlt2), ← HQ.out.2, ← HP.out]
                exact (psh_yes HC.out).symm
        · obtain rfl : k = n := by omega
          clear hqk
          go_wp2
          go_roundg (go - 1)
          case measure => have := HM.out; omega
          case rel =>
            refine ⟨j + 1, by omega, by have := HM.out; omega, by go_num, s, q, rfl, ⟨HQ.out.1, ?_, ?_, HO.out⟩, hb2⟩
            · rw [← HX.out.2.2.2.2.1]; exact HPJ.out
            · rw [← HX.out.2.2.2.2.2, HQ.out.2, HX.out.1, List.take_length]
    · have e2 : j = 2 := by omega
      subst e2
      have hs := HS.out
      simp only [if_neg (show ¬ (2 : Nat) = 0 by omega), if_neg (show ¬ (2 : Nat) = 1 by omega)] at hs
      obtain ⟨r1, r2, r3, r4⟩ := hs
      have HR := Lib.hid r3
      obtain ⟨hn, ao, cp, hv, -, -, hl⟩ := lie_of_owns r4
      obtain ⟨rfl, rfl⟩ : some ⟨w.heap.size, 0, none⟩ = ao ∧ n1 + n2 = cp := by simpa using hv
      have HF := Lib.hid (copied_any (some ⟨w.heap.size, 0, none⟩) s0 k0 (n1 + n2) wo r1 (by omega) hl)
      have hsz := hb.size
      clear r1 r2 r4 hn hv hl
      go_wp2_with (go_at_call 24; refine HF.out.mono ?_; rintro e w3 ⟨bo, rfl, ho, hb3⟩; refine Hid.out ?_)
      have HO := Lib.hid ho
      clear ho
      refine Lib.hid ?_
      go_wp2_with fail
      go_ret
      subst r3
      exact ⟨bo, rfl, owns_mono HO.out hsz, hb.trans (hb3.mono hsz)⟩

end Go.Proofs.Ytikdhdikaihenaa
