import Derived.Test.YtjjnhmbgffdenaaDoorGak
import Derived.Test.YtjjnhmbgffdenaaDoorRows
import Derived.WalkKit
import Derived.WalkSpells
import Derived.WalkLawsBesides
import Derived.Lib.Hide
import Derived.Deep.LoopGhost
import Derived.Outline
namespace Go.Proofs.YtjjnhmbgffdenaaDoor
open Go.RowKit Go.Sort

theorem isBack_any (h : Hd) (w : World) : Calls Tryd.prog 63 #[h.v] w fun e w' => e = .returned (.bool (decide (h.b = 1))) ∧ Below w.heap.size w w' := by
  obtain ⟨id, b, a, s⟩ := h
  unfold Hd.v
  simp only
  by_cases hb : b = 1
  · subst hb
    go_enter Tryd.func63, Tryd.ntmps63
    go_wp2
    go_ret
    exact ⟨rfl, below1 _ _⟩
  · have hz : (b == 1) = false := by simp [hb]
    rw [decide_eq_false hb]
    go_enter Tryd.func63, Tryd.ntmps63
    go_wp2
    go_ret
    exact ⟨rfl, below1 _ _⟩
theorem btw1_any (h : Hd) (x y : Int) (b1 b2 : Nat) (w : World) (h1 : w.cell? ⟨b1, 0, none⟩ = some (.int .i64 x)) (h2 : w.cell? ⟨b2, 0, none⟩ = some (.int .i64 y)) (l1 : b1 < w.heap.size) (l2 : b2 < w.heap.size) :
    Calls Tryd.prog 33 #[h.v, .pointer (some ⟨b1, 0, none⟩), .pointer (some ⟨b2, 0, none⟩)] w fun e w' => e = .returned (.bool (betw h.s x y)) ∧ Below w.heap.size w w' := by
  obtain ⟨id, b, a, s⟩ := h
  unfold Hd.v
  simp only
  have hc := fun W => betw_any s x y W
  obtain ⟨r, hr⟩ : ∃ r, betw s x y = r := ⟨_, rfl⟩
  rw [hr] at hc ⊢
  have k1 := ((below1 w (.cells #[.int .u8 id.y, .int .i64 id.n, .int .u8 b, .int .i64 a, .int .i64 s] 40)).cell (p := ⟨b1, 0, none⟩) l1).trans h1
  have k2 := ((below1 w (.cells #[.int .u8 id.y, .int .i64 id.n, .int .u8 b, .int .i64 a, .int .i64 s] 40)).cell (p := ⟨b2, 0, none⟩) l2).trans h2
  go_enter Tryd.func33, Tryd.ntmps33
  go_wp2_with (go_at_call 34; refine (hc _).mono ?_; rintro e w1 ⟨rfl, rfl⟩)
  go_ret
  exact ⟨rfl, below1 _ _⟩
/-- What a step in a direction adds to the rack. -/
def stepD (d : Int) : Int := if d = 0 then -1 else 1
/-- The table of steps lies in its variable. -/
structure Stp (w : World) : Prop where
  c0 : w.cell? ⟨0, 0, none⟩ = some (.int .i64 (-1))
  c1 : w.cell? ⟨0, 1, none⟩ = some (.int .i64 1)
  lt : 0 < w.heap.size
theorem Stp.below {n : Nat} {w w' : World} (h : Stp w) (hb : Below n w w') (hn : 0 < n) : Stp w' :=
  ⟨(hb.cell (p := ⟨0, 0, none⟩) hn).trans h.c0, (hb.cell (p := ⟨0, 1, none⟩) hn).trans h.c1, Nat.lt_of_lt_of_le h.lt hb.size⟩
theorem Stp.at {w : World} (h : Stp w) {d : Int} (hd : d = 0 ∨ d = 1) : ∃ k : Nat, d = k ∧ k < 2 ∧ w.cell? ⟨0, k, none⟩ = some (.int .i64 (stepD d)) := by
  rcases hd with rfl | rfl
  · exact ⟨0, rfl, by decide, h.c0⟩
  · exact ⟨1, rfl, by decide, h.c1⟩
set_option maxRecDepth 100000 in
set_option maxHeartbeats 4000000 in
theorem only_any (ao : Option Addr) (l : List Hd) (cap : Nat) (w : World) (hl : Lies Hd.enc 0 w ao l) (hlen : l.length ≤ 1000) (g : Nat) (cb : Array Value) (Pf : Hd → Bool) (eg : ∀ args w, (callFunc g args).run Tryd.prog w = .ok (.enter g args) w)
    (hf : ∀ (h : Hd), h ∈ l → ∀ (W : World), Below w.heap.size w W → Calls Tryd.prog g (#[h.v] ++ cb) W fun e w' => e = .returned (.bool (Pf h)) ∧ Below W.heap.size W w') :
    Calls Tryd.prog 32 #[.slice ao l.length cap, .func (.func g) #[] cb] w fun e w' => ∃ v, e = .returned v ∧ w'.ownsRow w.heap.size 40 5 v (l.filter Pf).length (rcells Hd.enc (l.filter Pf)) ∧ Below w.heap.size w w' := by
  have HL := Lib.hid hl
  have HF := Lib.hid hf
  obtain ⟨n, hn⟩ : ∃ n, l.length = n := ⟨_, rfl⟩
  rw [hn] at hlen ⊢
  have HN := Lib.hid hn
  clear hl hf hn
  go_enter Tryd.func32, Tryd.ntmps32
  go_wp2
  go_loopg [5, 10] (n + 1) (fun g1 v s10 wr => ∃ i : Nat, s10 = .int .i64 i ∧ i ≤ n ∧ g1 = n + 1 - i ∧ Hid (wr.ownsRow w.heap.size 40 5 v ((l.take i).filter Pf).length (rcells Hd.enc ((l.take i).filter Pf))) ∧ Below w.heap.size w wr)
  case atStart => exact ⟨0, rfl, by omega, by omega, Lib.hid (World.ownsRow_nil _ _ _ _), Below.refl _ _⟩
  case round =>
    obtain ⟨i, rfl, hi, hg, HO, hbr⟩ := hrel
    have HG := Lib.hid hg
    clear hg
    by_cases hlt : i < n
    · have hiz : (i : Int) < (n : Int) := by omega
      obtain ⟨b, rfl, hbl, c0, c1, c2, c3, c4⟩ := (HL.out.below hbr).five (i := i) (by rw [HN.out]; exact hlt)
      obtain ⟨x, hx⟩ : ∃ x, l[i]'(by rw [HN.out]; exact hlt) = x := ⟨_, rfl⟩
      rw [hx] at c0 c1 c2 c3 c4
      have htk : l.take (i + 1) = l.take i ++ [x] := by rw [List.take_succ_eq_append_getElem (by rw [HN.out]; exact hlt), hx]
      have HTK := Lib.hid htk
      have hmem : x ∈ l := by rw [← hx]; exact List.getElem_mem _
      clear htk hx
      obtain ⟨id, xb, xa, xs⟩ := x
      have hal : Below w.heap.size w (wr.alloc (.cells #[.int .u8 id.y, .int .i64 id.n, .int .u8 xb, .int .i64 xa, .int .i64 xs] 40)) := hbr.alloc hbr.size _
      have hcl := HF.out ⟨id, xb, xa, xs⟩ hmem _ hal
      clear hmem
      unfold Hd.v at hcl
      simp only at hcl c0 c1 c2 c3 c4
      have HO1 := Lib.hid (HO.out.alloc (.cells #[.int .u8 id.y, .int .i64 id.n, .int .u8 xb, .int .i64 xa, .int .i64 xs] 40))
      have hll : ((l.take i).filter Pf).length ≤ 100000 := by
        have h1 := List.length_filter_le Pf (l.take i)
        have h2 : (l.take i).length ≤ i := by rw [List.length_take]; exact Nat.min_le_left _ _
        omega
      cases hP : Pf ⟨id, xb, xa, xs⟩ with
      | true =>
        rw [hP] at hcl
        have HC := Lib.hid hcl
        have HP := Lib.hid hP
        clear hcl hP HO
        go_upto_region 6 with (go_at_fn g; refine HC.out.mono ?_; rintro e w2 ⟨rfl, hb2⟩; obtain ⟨hc2, hf2⟩ := bcell hb2; have k0 := hc2 wr.heap.size 0 (by simp); have k1 := hc2 wr.heap.size 1 (by simp); have k2 := hc2 wr.heap.size 2 (by simp); have k3 := hc2 wr.heap.size 3 (by simp); have k4 := hc2 wr.heap.size 4 (by simp); simp at k0 k1 k2 k3 k4; clear hc2 hf2 c0 c1 c2 c3 c4)
        have HO2 := Lib.hid (below_owns HO1.out hb2)
        have hb3 : Below w.heap.size w w2 := hal.trans (hb2.mono hal.size)
        clear HO1 hal hb2
        iterate 10 go_step
        refine wpList_app_rec kdHd (v := u5) (l := (l.take i).filter Pf) (x := ⟨id, xb, xa, xs⟩) rfl rfl rfl rfl (HO2.out.alloc _) (rec_new Hd.enc w2 40 ⟨id, xb, xa, xs⟩) hll (by have := hb3.size; simp; omega) ?_
        intro v4 w4 hw4 hg4 hat4
        have HW4 := Lib.hid hw4
        have hb4 : Below w.heap.size w w4 := (hb3.alloc hb3.size _).grown hg4 (by have := hb3.size; simp; omega) (fun g e => (HO2.out.lt g e).1)
        clear hw4 hg4 hat4 hb3 HO2 k0 k1 k2 k3 k4
        go_wp2_with fail
        go_roundg (n + 1 - (i + 1))
        case measure => have := HG.out; omega
        case rel => exact ⟨i + 1, by go_num, by omega, by omega, Lib.hid (by
          rw [HTK.out, List.filter_append, List.filter_cons_of_pos HP.out, List.filter_nil]; exact HW4.out), hb4⟩
      | false =>
        rw [hP] at hcl
        have HC := Lib.hid hcl
        have HP := Lib.hid hP
        clear hcl hP HO
        go_wp2_with (go_at_fn g; refine HC.out.mono ?_; rintro e w2 ⟨rfl, hb2⟩)
        have HO2 := Lib.hid (below_owns HO1.out hb2)
        have hb3 : Below w.heap.size w w2 := hal.trans (hb2.mono hal.size)
        clear HO1 hal hb2
        go_roundg (n + 1 - (i + 1))
        case measure => have := HG.out; omega
        case rel => exact ⟨i + 1, by go_num, by omega, by omega, Lib.hid (by
          rw [HTK.out, List.filter_append, List.filter_cons_of_neg (by rw [HP.out]; exact Bool.false_ne_true), List.filter_nil, List.append_nil]; exact HO2.out), hb3⟩
    · obtain rfl : i = n := by omega
      have hiz : ¬ ((i : Int) < (i : Int)) := by omega
      have h1 : l.take i = l := List.take_of_length_le (by rw [HN.out]; exact Nat.le_refl _)
      have HO2 := HO.out
      rw [h1] at HO2
      have HO3 := Lib.hid HO2
      clear h1 HO2 HO
      go_wp2_with fail
      go_ret
      exact ⟨_, rfl, HO3.out, hbr⟩
end Go.Proofs.YtjjnhmbgffdenaaDoor
namespace Go.Proofs.YtjjnhmbgffdenaaDoor
open Go.RowKit Go.Sort

def paOf (d : Int) (h : Hd) : Pa := ⟨h.id, h.b == 1, d⟩
/-- What a carrier passes. -/
def pastM (l : List Hd) (d : Int) : List Pa := if d = 0 then (l.map (paOf d)).reverse else l.map (paOf d)
theorem pastM_len (l : List Hd) (d : Int) : (pastM l d).length = l.length := by
  unfold pastM; split <;> simp
/-- A slice of records that the call made, without room. -/
def NewRec {α : Type} (enc : α → List Value) (l : List α) (w : World) (v : Value) (w' : World) : Prop := ∃ ao, v = .slice ao l.length l.length ∧ Hid (Lies enc w.heap.size w' ao l) ∧ Below w.heap.size w w'
theorem own_cap {N e k n m c : Nat} {w : World} {ao : Option Addr} {xs : List Value} (h : w.ownsRow N e k (.slice ao m c) n xs) : ao = none → c = 0 := by
  rintro rfl
  rcases h.2 with ⟨h1, _⟩ | ⟨g, cap, cur, h1, _⟩
  · simp only [Value.slice.injEq] at h1; exact h1.2.2
  · simp at h1
theorem own_off {N e k n m c : Nat} {w : World} {ao : Option Addr} {xs : List Value} (h : w.ownsRow N e k (.slice ao m c) n xs) : ∀ a, ao = some a → ∃ b, a = ⟨b, 0, none⟩ := by
  rintro a rfl
  rcases h.2 with ⟨h1, _⟩ | ⟨g, cap, cur, h1, _⟩
  · simp at h1
  · simp only [Value.slice.injEq, Option.some.injEq] at h1; exact ⟨g, h1.1⟩
set_option maxRecDepth 100000 in
set_option maxHeartbeats 4000000 in
theorem past_any (ao : Option Addr) (l : List Hd) (cap : Nat) (d : Int) (w : World) (hl : Lies Hd.enc 0 w ao l) (hlen : l.length ≤ 1000) :
    Calls Tryd.prog 31 #[.slice ao l.length cap, .int .u8 d] w fun e w' => ∃ v, e = .returned v ∧ NewRec Pa.enc (pastM l d) w v w' := by
  have HL := Lib.hid hl
  obtain ⟨n, hn⟩ : ∃ n, l.length = n := ⟨_, rfl⟩
  rw [hn] at hlen ⊢
  have HN := Lib.hid hn
  clear hl hn
  go_enter Tryd.func31, Tryd.ntmps31
  go_wp2
  go_loopg [5, 10] (n + 1) (fun g1 v s10 wr => ∃ i : Nat, s10 = .int .i64 i ∧ i ≤ n ∧ g1 = n + 1 - i ∧ Hid (wr.ownsRow w.heap.size 47 4 v ((l.take i).map (paOf d)).length (rcells Pa.enc ((l.take i).map (paOf d)))) ∧ Below w.heap.size w wr)
  case atStart => exact ⟨0, rfl, by omega, by omega, Lib.hid (World.ownsRow_nil _ _ _ _), Below.refl _ _⟩
  case round =>
    obtain ⟨i, rfl, hi, hg, HO, hbr⟩ := hrel
    have HG := Lib.hid hg
    clear hg
    by_cases hlt : i < n
    · have hiz : (i : Int) < (n : Int) := by omega
      obtain ⟨b, rfl, hbl, c0, c1, c2, c3, c4⟩ := (HL.out.below hbr).five (i := i) (by rw [HN.out]; exact hlt)
      obtain ⟨x, hx⟩ : ∃ x, l[i]'(by rw [HN.out]; exact hlt) = x := ⟨_, rfl⟩
      rw [hx] at c0 c1 c2 c3 c4
      have htk : l.take (i + 1) = l.take i ++ [x] := by rw [List.take_succ_eq_append_getElem (by rw [HN.out]; exact hlt), hx]
      have HTK := Lib.hid htk
      clear htk hx
      obtain ⟨id, xb, xa, xs⟩ := x
      have hal : Below w.heap.size w (wr.alloc (.cells #[.int .u8 id.y, .int .i64 id.n, .int .u8 xb, .int .i64 xa, .int .i64 xs] 40)) := hbr.alloc hbr.size _
      simp only at c0 c1 c2 c3 c4
      have HO1 := Lib.hid (HO.out.alloc (.cells #[.int .u8 id.y, .int .i64 id.n, .int .u8 xb, .int .i64 xa, .int .i64 xs] 40))
      have hll : ((l.take i).map (paOf d)).length ≤ 100000 := by rw [List.length_map, List.length_take]; omega
      obtain ⟨f, hf⟩ : ∃ f, (xb == 1) = f := ⟨_, rfl⟩
      have HF := Lib.hid hf
      obtain ⟨w2, hw2⟩ : ∃ w2, wr.alloc (.cells #[.int .u8 id.y, .int .i64 id.n, .int .u8 xb, .int .i64 xa, .int .i64 xs] 40) = w2 := ⟨_, rfl⟩
      rw [hw2] at HO1 hal
      have k0 : w2.cell? ⟨wr.heap.size, 0, none⟩ = some (.int .u8 id.y) := by rw [← hw2]; simp
      have k1 : w2.cell? ⟨wr.heap.size, 1, none⟩ = some (.int .i64 id.n) := by rw [← hw2]; simp
      have k2 : w2.cell? ⟨wr.heap.size, 2, none⟩ = some (.int .u8 xb) := by rw [← hw2]; simp
      go_upto_region 5 with fail
      clear hw2 c0 c1 c2 c3 c4
      iterate 31 go_step
      refine wpList_app_rec kdPa (v := u5) (l := (l.take i).map (paOf d)) (x := ⟨id, f, d⟩) rfl rfl rfl rfl (HO1.out.alloc _) (rec_new Pa.enc w2 47 ⟨id, f, d⟩) hll (by have := hal.size; simp; omega) ?_
      intro v4 w4 hw4 hg4 hat4
      have HW4 := Lib.hid hw4
      have hb4 : Below w.heap.size w w4 := (hal.alloc hal.size _).grown hg4 (by have := hal.size; simp; omega) (fun g e => (HO1.out.lt g e).1)
      clear hw4 hg4 hat4 hal HO1 k0 k1 k2 hf
      go_wp2_with fail
      go_roundg (n + 1 - (i + 1))
      case measure => have := HG.out; omega
      case rel => exact ⟨i + 1, by go_num, by omega, by omega, Lib.hid (by
        have e : paOf d ⟨id, xb, xa, xs⟩ = ⟨id, f, d⟩ := by unfold paOf; rw [← HF.out]
        rw [HTK.out, List.map_append, List.map_cons, List.map_nil, e]; exact HW4.out), hb4⟩
    · obtain rfl : i = n := by omega
      have hiz : ¬ ((i : Int) < (i : Int)) := by omega
      have h1 : l.take i = l := List.take_of_length_le (by rw [HN.out]; exact Nat.le_refl _)
      have HO2 := HO.out
      rw [h1] at HO2
      have HAL := Lib.hid (along_own60 w.heap.size u5 (l.map (paOf d)) d wr HO2 (by rw [List.length_map, HN.out]; omega))
      clear h1 HO2 HO
      go_upto_region 7 with fail
      go_wp2_with (first
        | (go_at_call 60; refine HAL.out.mono ?_; rintro e w5 ⟨rfl, ho5, hb5⟩; obtain ⟨ao5, cap5, rfl, hL5, hc5⟩ := lies_of_own Pa.enc_len ho5 rfl; have hP5 : (if d = 0 then (l.map (paOf d)).reverse else l.map (paOf d)) = pastM l d := rfl; rw [hP5] at hL5 hc5 ho5; have HCL := Lib.hid (clip_any59 ao5 (pastM l d).length cap5 hc5 (own_cap ho5) (own_off ho5)); have hn5 : (if d = 0 then (l.map (paOf d)).reverse else l.map (paOf d)).length = (pastM l d).length := rfl; rw [hn5]; clear HAL hn5 hP5)
        | (go_at_call 59; refine (HCL.out _).mono ?_; rintro e w6 ⟨rfl, rfl⟩))
      go_ret
      exact ⟨_, rfl, ao5, rfl, Lib.hid hL5, hbr.trans hb5⟩
end Go.Proofs.YtjjnhmbgffdenaaDoor
namespace Go.Proofs.YtjjnhmbgffdenaaDoor
open Go.RowKit Go.Sort

theorem enter63 (args : Array Value) (w : World) : (callFunc 63 args).run Tryd.prog w = .ok (.enter 63 args) w := by kernel_rfl
theorem enter33 (args : Array Value) (w : World) : (callFunc 33 args).run Tryd.prog w = .ok (.enter 33 args) w := by kernel_rfl
theorem enter44 (args : Array Value) (w : World) : (callFunc 44 args).run Tryd.prog w = .ok (.enter 44 args) w := by kernel_rfl
/-- All loops in order, by definition a list that 'Mrg' gives; what depends on it is said of any such. -/
def OrdOk (T : List (List Nm)) (r : Int) (l : List Hd) : Prop := Mrg Hd.s (upH T r 80) l ∧ l.length ≤ 320
/-- The loops of the back bed. -/
def backs (l : List Hd) : List Hd := l.filter fun h => decide (h.b = 1)
theorem moved_any (d : Bds) (T : List (List Nm)) (r : Int) (B : Nat) (w : World) (hB : B ≤ w.heap.size) (hd : d.ok B w) (hr : Reads T d) (hT : TOk T) :
    Calls Tryd.prog 38 #[d.v, .int .i64 r] w fun e w' => ∃ v l, e = .returned v ∧ Hid (OrdOk T r l) ∧ w'.ownsRow w.heap.size 40 5 v (backs l).length (rcells Hd.enc (backs l)) ∧ Below w.heap.size w w' := by
  have HO := Lib.hid (fun (W : World) (hb : Below w.heap.size w W) => ordered_any d T r w.heap.size W hb.size ((hd.mono hB).below hb) hr hT)
  obtain ⟨⟨fa, fs, fc⟩, ⟨ba, bs, bc⟩⟩ := d
  simp only [Bds.v, Bed.v] at HO ⊢
  have HFF := Lib.hid (fun (w1 : World) (h : Hd) (W : World) (_ : Below w1.heap.size w1 W) => isBack_any h W)
  clear hd hr hT
  go_enter Tryd.func38, Tryd.ntmps38
  go_wp2_with (first
    | (go_at_call 24; refine (HO.out _ (below1 _ _)).mono ?_; rintro e w1 ⟨v1, l1, rfl, h1, h2, h3, hb1⟩; obtain ⟨ao1, cap1, rfl, hL1, hc1⟩ := lies_of_own Hd.enc_len h3 rfl; have H1 := Lib.hid (And.intro h1 h2); have HLL := Lib.hid hL1; clear h1 h3 hL1)
    | (go_at_call 32; refine (only_any ao1 l1 cap1 w1 (HLL.out.mono (Nat.zero_le _)) (by omega) 63 #[] (fun h => decide (h.b = 1)) enter63 (fun h _ W hW => HFF.out w1 h W hW)).mono ?_; rintro e w2 ⟨v2, rfl, ho2, hb2⟩))
  go_ret
  have hb0 : Below w.heap.size w w1 := (below1 _ _).trans (hb1.mono (by simp))
  exact ⟨_, l1, rfl, Lib.hid H1.out, ownsRow_mono ho2 hb0.size, hb0.trans (hb2.mono hb0.size)⟩
theorem list_any (d : Bds) (T : List (List Nm)) (r : Int) (B : Nat) (w : World) (hB : B ≤ w.heap.size) (hd : d.ok B w) (hr : Reads T d) (hT : TOk T) :
    Calls Tryd.prog 10 #[d.v, .int .i64 r] w fun e w' => (okR r = false ∧ e = .returned (.tuple #[.slice none 0 0, .int .i64 11]) ∧ Below w.heap.size w w') ∨
      (okR r = true ∧ ∃ v l, e = .returned (.tuple #[v, .int .i64 0]) ∧ Hid (OrdOk T r l) ∧ NewRec Hd.enc l w v w') := by
  have HO := Lib.hid (fun (W : World) (hb : Below w.heap.size w W) => ordered_any d T r w.heap.size W hb.size ((hd.mono hB).below hb) hr hT)
  have HC := Lib.hid (fun (W : World) (hb : Below w.heap.size w W) => check_any d r w.heap.size W hb.size ((hd.mono hB).below hb) (hr.good hT))
  obtain ⟨⟨fa, fs, fc⟩, ⟨ba, bs, bc⟩⟩ := d
  simp only [Bds.v, Bed.v] at HO HC ⊢
  clear hd hr hT
  cases hk : okR r with
  | false =>
    rw [hk] at HC
    simp only [if_neg Bool.false_ne_true] at HC
    have HCC := Lib.hid (HC.out _ (below1 w (.cells #[.slice fa fs.length fc, .slice ba bs.length bc] 26)))
    clear hk HC HO
    go_enter Tryd.func10, Tryd.ntmps10
    go_wp2_with (go_at_call 22; refine HCC.out.mono ?_; rintro e w1 ⟨rfl, hb1⟩)
    (try simp only [Exit.inBlock, Exit.then]); refine bodyPost_ret (results_tmp2 rfl _ _ _) rfl ?_
    exact .inl ⟨by first | rfl | trivial, rfl, (below1 _ _).trans (hb1.mono (by simp))⟩
  | true =>
    rw [hk] at HC
    simp only [if_pos rfl] at HC
    have bx := Boxed2.new w 26 (.slice fa fs.length fc) (.slice ba bs.length bc)
    have hb0 := below1 w (.cells #[.slice fa fs.length fc, .slice ba bs.length bc] 26)
    have x0 := bx.cell0
    have x1 := bx.cell1
    obtain ⟨w0, hw0⟩ : ∃ w0, w.alloc (.cells #[.slice fa fs.length fc, .slice ba bs.length bc] 26) = w0 := ⟨_, rfl⟩
    have HCC := Lib.hid (HC.out _ hb0)
    have HB0 := Lib.hid hb0
    have HBX := Lib.hid bx
    rw [hw0] at HCC HB0 HBX x0 x1
    clear hk HC bx hb0
    go_enter Tryd.func10, Tryd.ntmps10
    go_wp2_with (first
      | (go_at_call 22; refine HCC.out.mono ?_; rintro e w1 ⟨rfl, hb1⟩; have HBX1 := Lib.hid (HBX.out.below hb1 HBX.out.lt); clear x0 x1; have x0 := HBX1.out.cell0; have x1 := HBX1.out.cell1; have HB1 := Lib.hid (HB0.out.trans (hb1.mono HB0.out.size)))
      | (go_at_call 24; refine (HO.out _ HB1.out).mono ?_; rintro e w2 ⟨v2, l2, rfl, h1, h2, h3, hb2⟩; obtain ⟨ao2, cap2, rfl, hL2, hc2⟩ := lies_of_own Hd.enc_len h3 rfl; have H1 := Lib.hid (And.intro h1 h2); have HLL := Lib.hid hL2; have HCL := Lib.hid (clip_any23 ao2 l2.length cap2 hc2 (own_cap h3) (own_off h3)); clear h1 h3 hL2)
      | (go_at_call 23; refine (HCL.out _).mono ?_; rintro e w3 ⟨rfl, rfl⟩))
    (try simp only [Exit.inBlock, Exit.then]); refine bodyPost_ret (results_tmp2 rfl _ _ _) rfl ?_
    exact .inr ⟨by first | rfl | trivial, _, l2, rfl, Lib.hid H1.out, ao2, rfl, Lib.hid (HLL.out.mono HB1.out.size), HB1.out.trans (hb2.mono HB1.out.size)⟩
def checkStepM (r d : Int) : Int := if okR r = true then (if 2 ≤ d then 1 else if okR (r + stepD d) = true then 0 else 11) else 11
theorem checkStep_any (d : Bds) (r dd : Int) (B : Nat) (w : World) (hdd : 0 ≤ dd ∧ dd ≤ 255) (hB : B ≤ w.heap.size) (hd : d.ok B w) (hg : d.good) (hs : Stp w) :
    Calls Tryd.prog 36 #[d.v, .int .i64 r, .int .u8 dd] w fun e w' => e = .returned (.int .i64 (checkStepM r dd)) ∧ Below w.heap.size w w' := by
  have HC := Lib.hid (fun (W : World) (hb : Below w.heap.size w W) => check_any d r w.heap.size W hb.size ((hd.mono hB).below hb) hg)
  obtain ⟨⟨fa, fs, fc⟩, ⟨ba, bs, bc⟩⟩ := d
  simp only [Bds.v, Bed.v] at HC ⊢
  have HCC := Lib.hid (HC.out _ (below1 w (.cells #[.slice fa fs.length fc, .slice ba bs.length bc] 26)))
  clear hd hg HC
  cases hk : okR r with
  | false =>
    have e : checkStepM r dd = 11 := by unfold checkStepM; rw [if_neg (by rw [hk]; exact Bool.false_ne_true)]
    rw [e]
    rw [hk] at HCC
    simp only [if_neg Bool.false_ne_true] at HCC
    clear hk e
    go_enter Tryd.func36, Tryd.ntmps36
    go_wp2_with (go_at_call 22; refine HCC.out.mono ?_; rintro e w1 ⟨rfl, hb1⟩)
    go_ret
    exact ⟨rfl, (below1 _ _).trans (hb1.mono (by simp))⟩
  | true =>
    rw [hk] at HCC
    simp only [if_pos rfl] at HCC
    by_cases h2 : 2 ≤ dd
    · have e : checkStepM r dd = 1 := by unfold checkStepM; rw [if_pos hk, if_pos h2]
      rw [e]
      clear hk e
      go_enter Tryd.func36, Tryd.ntmps36
      go_wp2_with (go_at_call 22; refine HCC.out.mono ?_; rintro e w1 ⟨rfl, hb1⟩)
      go_ret
      exact ⟨rfl, (below1 _ _).trans (hb1.mono (by simp))⟩
    · have hr : -4 ≤ r ∧ r ≤ 4 := of_decide_eq_true hk
      obtain ⟨k, rfl, hk2, hck⟩ := hs.at (d := dd) (by omega)
      have hst : stepD (k : Int) = -1 ∨ stepD (k : Int) = 1 := by unfold stepD; split <;> simp
      obtain ⟨st, hste⟩ : ∃ st, stepD (k : Int) = st := ⟨_, rfl⟩
      have e : checkStepM r k = if okR (r + st) = true then 0 else 11 := by unfold checkStepM; rw [if_pos hk, if_neg h2, hste]
      rw [e]
      rw [hste] at hck hst
      have rw1 : IntKind.i64.wrap (r + st) = r + st := by rw [IntKind.wrap_i64]; omega
      have hcr := fun W => canRack_any (r + st) W
      have hkz : (k : Int) < 2 := by omega
      have h0k : (0 : Int) ≤ (k : Int) := by omega
      have hlt0 := hs.lt
      cases hq : okR (r + st) with
      | true =>
        rw [hq] at hcr
        simp only [if_pos rfl]
        clear hk e hq hste hs hst hr
        go_enter Tryd.func36, Tryd.ntmps36
        go_wp2_with (first
          | (go_at_call 22; refine HCC.out.mono ?_; rintro e w1 ⟨rfl, hb1⟩; have kk := (hb1.cell (p := ⟨0, k, none⟩) (by simp)).trans (((below1 w _).cell (p := ⟨0, k, none⟩) hlt0).trans hck))
          | (go_at_call 51; refine (hcr _).mono ?_; rintro e w2 ⟨rfl, rfl⟩))
        go_ret
        exact ⟨rfl, (below1 _ _).trans (hb1.mono (by simp))⟩
      | false =>
        rw [hq] at hcr
        simp only [if_neg Bool.false_ne_true]
        clear hk e hq hste hs hst hr
        go_enter Tryd.func36, Tryd.ntmps36
        go_wp2_with (first
          | (go_at_call 22; refine HCC.out.mono ?_; rintro e w1 ⟨rfl, hb1⟩; have kk := (hb1.cell (p := ⟨0, k, none⟩) (by simp)).trans (((below1 w _).cell (p := ⟨0, k, none⟩) hlt0).trans hck))
          | (go_at_call 51; refine (hcr _).mono ?_; rintro e w2 ⟨rfl, rfl⟩))
        go_ret
        exact ⟨rfl, (below1 _ _).trans (hb1.mono (by simp))⟩
/-- How a loop of the back bed crosses one of the front bed. -/
def crossM (b f : Nm) (d : Int) : Cx := if d = 1 then ⟨b, f, -1⟩ else ⟨f, b, 1⟩
theorem cross_any (b f : Nm) (d : Int) (w : World) : Calls Tryd.prog 42 #[b.v, f.v, .int .u8 d] w fun e w' => e = .returned (crossM b f d).v ∧ Below w.heap.size w w' := by
  obtain ⟨by', bn⟩ := b
  obtain ⟨fy, fn⟩ := f
  unfold Nm.v
  by_cases h : d = 1
  · subst h
    go_enter Tryd.func42, Tryd.ntmps42
    go_wp2
    refine bodyPost_ret (v := .agg #[.int .u8 by', .int .i64 bn, .int .u8 fy, .int .i64 fn, .int .i64 (-1)]) (by simp [results, Tryd.results42, go_sem]) rfl ⟨rfl, ?_⟩
    exact below3 _ _ _ _
  · have hz : (d == 1) = false := by simp [h]
    have e : crossM ⟨by', bn⟩ ⟨fy, fn⟩ d = ⟨⟨fy, fn⟩, ⟨by', bn⟩, 1⟩ := by unfold crossM; rw [if_neg h]
    rw [e]
    go_enter Tryd.func42, Tryd.ntmps42
    go_wp2
    refine bodyPost_ret (v := .agg #[.int .u8 fy, .int .i64 fn, .int .u8 by', .int .i64 bn, .int .i64 1]) (by simp [results, Tryd.results42, go_sem]) rfl ⟨rfl, ?_⟩
    exact below3 _ _ _ _
def betwD (x y : Int) : Int := if y > x then 1 else 0
def betweenM (l : List Hd) (x y : Int) : List Pa := pastM (l.filter fun h => betw h.s x y) (betwD x y)
theorem between_any (ao : Option Addr) (l : List Hd) (cap : Nat) (x y : Int) (w : World) (hl : Lies Hd.enc 0 w ao l) (hlen : l.length ≤ 1000) :
    Calls Tryd.prog 13 #[.slice ao l.length cap, .int .i64 x, .int .i64 y] w fun e w' => ∃ v, e = .returned v ∧ NewRec Pa.enc (betweenM l x y) w v w' := by
  have HB2 := Lib.hid (below2 w (.cells #[.int .i64 x] 3) (.cells #[.int .i64 y] 3))
  have hw1 := (Lies.below hl HB2.out)
  have HON := Lib.hid (only_any ao l cap _ hw1 hlen 33 #[.pointer (some ⟨w.heap.size, 0, none⟩), .pointer (some ⟨w.heap.size + 1, 0, none⟩)] (fun h => betw h.s x y) enter33 (fun h _ W hW => by
    have := btw1_any h x y w.heap.size (w.heap.size + 1) W ((hW.cell (p := ⟨w.heap.size, 0, none⟩) (by simp; omega)).trans (by simp)) ((hW.cell (p := ⟨w.heap.size + 1, 0, none⟩) (by simp)).trans (by simp)) (by have := hW.size; simp at this; omega) (by have := hW.size; simp at this; omega)
    exact this))
  have hfl := List.length_filter_le (fun h : Hd => betw h.s x y) l
  obtain ⟨fl, hfe⟩ : ∃ fl, l.filter (fun h => betw h.s x y) = fl := ⟨_, rfl⟩
  have hM : betweenM l x y = pastM fl (betwD x y) := by unfold betweenM; rw [hfe]
  rw [hM]
  rw [hfe] at HON hfl
  clear hw1 hl hfe hM
  by_cases hxy : y > x
  · have e : betwD x y = 1 := if_pos hxy
    rw [e]
    clear e
    go_enter Tryd.func13, Tryd.ntmps13
    go_wp2_with (first
      | (go_at_call 32; refine HON.out.mono ?_; rintro e w2 ⟨v2, rfl, ho2, hb2⟩; obtain ⟨ao2, cap2, rfl, hL2, hc2⟩ := lies_of_own Hd.enc_len ho2 rfl; have HLL := Lib.hid hL2; clear ho2 hL2)
      | (go_at_call 31; refine (past_any ao2 fl cap2 1 w2 (HLL.out.mono (Nat.zero_le _)) (by omega)).mono ?_; rintro e w3 ⟨v3, rfl, ao3, rfl, hL3, hb3⟩))
    go_ret
    have hb0 : Below w.heap.size w w2 := HB2.out.trans (hb2.mono (by simp; omega))
    exact ⟨_, rfl, ao3, rfl, Lib.hid (hL3.out.mono hb0.size), hb0.trans (hb3.mono hb0.size)⟩
  · have e : betwD x y = 0 := if_neg hxy
    rw [e]
    have hxz : ¬ (x < y) := by omega
    clear e
    go_enter Tryd.func13, Tryd.ntmps13
    go_wp2_with (first
      | (go_at_call 32; refine HON.out.mono ?_; rintro e w2 ⟨v2, rfl, ho2, hb2⟩; obtain ⟨ao2, cap2, rfl, hL2, hc2⟩ := lies_of_own Hd.enc_len ho2 rfl; have HLL := Lib.hid hL2; clear ho2 hL2)
      | (go_at_call 31; refine (past_any ao2 fl cap2 0 w2 (HLL.out.mono (Nat.zero_le _)) (by omega)).mono ?_; rintro e w3 ⟨v3, rfl, ao3, rfl, hL3, hb3⟩))
    go_ret
    have hb0 : Below w.heap.size w w2 := HB2.out.trans (hb2.mono (by simp; omega))
    exact ⟨_, rfl, ao3, rfl, Lib.hid (hL3.out.mono hb0.size), hb0.trans (hb3.mono hb0.size)⟩
end Go.Proofs.YtjjnhmbgffdenaaDoor
namespace Go.Proofs.YtjjnhmbgffdenaaDoor
open Go.RowKit Go.Sort
set_option maxRecDepth 100000 in
theorem meets1_any (h : Hd) (p d : Int) (b1 b2 : Nat) (w : World) (hd : d = 0 ∨ d = 1) (hs : Stp w) (h1 : w.cell? ⟨b1, 0, none⟩ = some (.int .i64 p)) (h2 : w.cell? ⟨b2, 0, none⟩ = some (.int .u8 d)) (l1 : b1 < w.heap.size) (l2 : b2 < w.heap.size) (hb : -1000 ≤ h.s ∧ h.s ≤ 1000) :
    Calls Tryd.prog 44 #[h.v, .pointer (some ⟨b1, 0, none⟩), .pointer (some ⟨b2, 0, none⟩)] w fun e w' => e = .returned (.bool (betw p h.s (h.s + 4 * stepD d))) ∧ Below w.heap.size w w' := by
  obtain ⟨id, b, a, s⟩ := h
  unfold Hd.v
  simp only at hb ⊢
  obtain ⟨k, rfl, hk2, hck⟩ := hs.at hd
  have hst : stepD (k : Int) = -1 ∨ stepD (k : Int) = 1 := by unfold stepD; split <;> simp
  obtain ⟨st, hste⟩ : ∃ st, stepD (k : Int) = st := ⟨_, rfl⟩
  rw [hste] at hck hst ⊢
  have hc := fun W => betw_any p s (s + 4 * st) W
  obtain ⟨r, hr⟩ : ∃ r, betw p s (s + 4 * st) = r := ⟨_, rfl⟩
  rw [hr] at hc ⊢
  have kb := below1 w (.cells #[.int .u8 id.y, .int .i64 id.n, .int .u8 b, .int .i64 a, .int .i64 s] 40)
  have k1 := (kb.cell (p := ⟨b1, 0, none⟩) l1).trans h1
  have k2 := (kb.cell (p := ⟨b2, 0, none⟩) l2).trans h2
  have k3 := (kb.cell (p := ⟨0, k, none⟩) hs.lt).trans hck
  have r1 : IntKind.i64.wrap (4 * st) = 4 * st := by rw [IntKind.wrap_i64]; omega
  have r2 : IntKind.i64.wrap (s + 4 * st) = s + 4 * st := by rw [IntKind.wrap_i64]; omega
  have hkz : (k : Int) < 2 := by omega
  have k4 : (w.alloc (.cells #[.int .u8 id.y, .int .i64 id.n, .int .u8 b, .int .i64 a, .int .i64 s] 40)).cell? ⟨w.heap.size, 4, none⟩ = some (.int .i64 s) := by simp
  obtain ⟨w1, hw1⟩ : ∃ w1, w.alloc (.cells #[.int .u8 id.y, .int .i64 id.n, .int .u8 b, .int .i64 a, .int .i64 s] 40) = w1 := ⟨_, rfl⟩
  rw [hw1] at kb k1 k2 k3 k4
  clear hs hck h1 h2 hste hr hst
  go_enter Tryd.func44, Tryd.ntmps44
  go_upto_region 1 with fail
  clear hw1
  go_quiet (first | (go_at_call 34; refine Calls.quiet_of_same (hc _)))
  go_wp2
  go_ret
  exact ⟨rfl, below_drewN kb _⟩
/-- What passes a carrier in a step. -/
def meetsM (l : List Hd) (p d : Int) : List Pa := pastM ((backs l).filter fun h => betw p h.s (h.s + 4 * stepD d)) (oppM d)
theorem backs_len (l : List Hd) : (backs l).length ≤ l.length := List.length_filter_le _ _
theorem spotM_le (b a r : Int) : -1000 ≤ spotM b a r ∧ spotM b a r ≤ 1000 := by
  unfold spotM
  split
  · rename_i h
    have h1 := isN_true h.1
    have h2 : -4 ≤ r ∧ r ≤ 4 := of_decide_eq_true h.2
    split <;> omega
  · omega
theorem mem_upH {T : List (List Nm)} {r : Int} {n : Nat} {h : Hd} (hh : h ∈ upH T r n) : ∃ j p, j < n ∧ p ∈ T.getD j [] ∧ h = ⟨p, ((j / 40 : Nat) : Int), ((j % 40 : Nat) : Int) + 1, spotM ((j / 40 : Nat) : Int) (((j % 40 : Nat) : Int) + 1) r⟩ := by
  unfold upH at hh
  obtain ⟨j, hj, hh⟩ := List.mem_flatMap.1 hh
  unfold elH at hh
  obtain ⟨p, hp, rfl⟩ := List.mem_map.1 hh
  exact ⟨j, p, List.mem_range.1 hj, hp, rfl⟩
theorem OrdOk.mem {T : List (List Nm)} {r : Int} {l : List Hd} (h : OrdOk T r l) {x : Hd} (hx : x ∈ l) : ∃ j p, j < 80 ∧ p ∈ T.getD j [] ∧ x = ⟨p, ((j / 40 : Nat) : Int), ((j % 40 : Nat) : Int) + 1, spotM ((j / 40 : Nat) : Int) (((j % 40 : Nat) : Int) + 1) r⟩ := mem_upH ((h.1.sam.mem x).1 hx)
theorem OrdOk.spot {T : List (List Nm)} {r : Int} {l : List Hd} (h : OrdOk T r l) {x : Hd} (hx : x ∈ l) : -1000 ≤ x.s ∧ x.s ≤ 1000 := by
  obtain ⟨j, p, _, _, rfl⟩ := h.mem hx
  exact spotM_le _ _ _
theorem lt_of_le3 {a b : Nat} (h : a + 3 ≤ b) (_ : 1 < 3) : a + 1 < b := by omega
theorem lt_of_le3' {a b : Nat} (h : a + 3 ≤ b) (_ : 1 < 3) : a + 1 + 1 < b := by omega
theorem checkStepM_ok {r d : Int} (h : checkStepM r d = 0) (h0 : 0 ≤ d) : (d = 0 ∨ d = 1) ∧ -4 ≤ r ∧ r ≤ 4 ∧ okR (r + stepD d) = true := by
  unfold checkStepM at h
  by_cases h1 : okR r = true
  · rw [if_pos h1] at h
    have hr : -4 ≤ r ∧ r ≤ 4 := of_decide_eq_true h1
    by_cases h2 : 2 ≤ d
    · rw [if_pos h2] at h; cases h
    · rw [if_neg h2] at h
      by_cases h3 : okR (r + stepD d) = true
      · exact ⟨by omega, hr.1, hr.2, h3⟩
      · rw [if_neg h3] at h; cases h
  · rw [if_neg h1] at h; cases h
set_option maxRecDepth 100000 in
set_option maxHeartbeats 4000000 in
theorem meets_any (d : Bds) (T : List (List Nm)) (r dd p : Int) (B : Nat) (w : World) (hdd : 0 ≤ dd ∧ dd ≤ 255) (hB : B ≤ w.heap.size) (hd : d.ok B w) (hr : Reads T d) (hT : TOk T) (hs : Stp w) :
    Calls Tryd.prog 17 #[d.v, .int .i64 r, .int .u8 dd, .int .i64 p] w fun e w' =>
      (checkStepM r dd ≠ 0 ∧ e = .returned (.tuple #[.slice none 0 0, .int .i64 (checkStepM r dd)]) ∧ Below w.heap.size w w') ∨
      (checkStepM r dd = 0 ∧ Int.tmod p 2 = 0 ∧ e = .returned (.tuple #[.slice none 0 0, .int .i64 1]) ∧ Below w.heap.size w w') ∨
      (checkStepM r dd = 0 ∧ Int.tmod p 2 ≠ 0 ∧ ∃ v l, e = .returned (.tuple #[v, .int .i64 0]) ∧ Hid (OrdOk T r l) ∧ NewRec Pa.enc (meetsM l p dd) w v w') := by
  have HC := Lib.hid (fun (W : World) (hb : Below w.heap.size w W) => checkStep_any d r dd w.heap.size W hdd hb.size ((hd.mono hB).below hb) (hr.good hT) (hs.below hb hs.lt))
  have HM := Lib.hid (fun (W : World) (hb : Below w.heap.size w W) => moved_any d T r w.heap.size W hb.size ((hd.mono hB).below hb) hr hT)
  have HS := Lib.hid hs
  obtain ⟨⟨fa, fs, fc⟩, ⟨ba, bs, bc⟩⟩ := d
  simp only [Bds.v, Bed.v] at HC HM ⊢
  obtain ⟨c, hc⟩ : ∃ c, checkStepM r dd = c := ⟨_, rfl⟩
  have HCM := Lib.hid hc
  rw [hc] at HC ⊢
  clear hc hd hr hT hs
  have bx := ((Boxed2.new w 26 (.slice fa fs.length fc) (.slice ba bs.length bc)).alloc (.cells #[.int .u8 dd] 45)).alloc (.cells #[.int .i64 p] 3)
  have hb0 := below3 w (.cells #[.slice fa fs.length fc, .slice ba bs.length bc] 26) (.cells #[.int .u8 dd] 45) (.cells #[.int .i64 p] 3)
  have x0 := bx.cell0
  have x1 := bx.cell1
  obtain ⟨w0, hw0⟩ : ∃ w0, ((w.alloc (.cells #[.slice fa fs.length fc, .slice ba bs.length bc] 26)).alloc (.cells #[.int .u8 dd] 45)).alloc (.cells #[.int .i64 p] 3) = w0 := ⟨_, rfl⟩
  have y0 : w0.cell? ⟨w.heap.size + 1, 0, none⟩ = some (.int .u8 dd) := by
    have h := ((Boxed.new (w.alloc (.cells #[.slice fa fs.length fc, .slice ba bs.length bc] 26)) 45 (.int .u8 dd)).alloc (.cells #[.int .i64 p] 3)).cell
    rw [hw0, World.size_alloc] at h
    exact h
  have y1 : w0.cell? ⟨w.heap.size + 1 + 1, 0, none⟩ = some (.int .i64 p) := by
    have h := (Boxed.new ((w.alloc (.cells #[.slice fa fs.length fc, .slice ba bs.length bc] 26)).alloc (.cells #[.int .u8 dd] 45)) 3 (.int .i64 p)).cell
    rw [hw0, World.size_alloc, World.size_alloc] at h
    exact h
  have hz0 : w0.heap.size = w.heap.size + 3 := by rw [← hw0]; simp
  have HCC := Lib.hid (HC.out _ hb0)
  have HB0 := Lib.hid hb0
  have HBX := Lib.hid bx
  rw [hw0] at HCC HB0 HBX x0 x1
  have HZ := Lib.hid hz0
  have HY := Lib.hid (And.intro y0 y1)
  clear HC bx hb0 hz0
  by_cases hc0 : c = 0
  · subst hc0
    have hnc := checkStepM_ok HCM.out hdd.1
    have HNC := Lib.hid hnc
    obtain ⟨t, ht⟩ : ∃ t, Int.tmod p 2 = t := ⟨_, rfl⟩
    have HT2 := Lib.hid ht
    by_cases ht0 : t = 0
    · subst ht0
      clear hnc
      go_enter Tryd.func17, Tryd.ntmps17
      go_wp2_with (go_at_call 36; refine HCC.out.mono ?_; rintro e w1 ⟨rfl, hb1⟩; have z1 := (hb1.cell (p := ⟨w.heap.size + 1 + 1, 0, none⟩) (lt_of_le3' (Nat.le_of_eq HZ.out.symm) (by decide))).trans HY.out.2; clear x0 x1 y0 y1)
      (try simp only [Exit.inBlock, Exit.then]); refine bodyPost_ret (results_tmp2 rfl _ _ _) rfl ?_
      exact .inr (.inl ⟨by first | rfl | trivial, by first | exact HT2.out | trivial, rfl, HB0.out.trans (hb1.mono HB0.out.size)⟩)
    · have htz : (t == 0) = false := by simp [ht0]
      have HTN := Lib.hid ht0
      clear hnc ht0
      go_enter Tryd.func17, Tryd.ntmps17
      go_wp2_with (first
        | (go_at_call 36; refine HCC.out.mono ?_; rintro e w1 ⟨rfl, hb1⟩; have HBX1 := Lib.hid (HBX.out.below hb1 HBX.out.lt); clear x0 x1 y0 y1; have x0 := HBX1.out.cell0; have x1 := HBX1.out.cell1; have z1 := (hb1.cell (p := ⟨w.heap.size + 1 + 1, 0, none⟩) (lt_of_le3' (Nat.le_of_eq HZ.out.symm) (by decide))).trans HY.out.2; have z0 := (hb1.cell (p := ⟨w.heap.size + 1, 0, none⟩) (lt_of_le3 (Nat.le_of_eq HZ.out.symm) (by decide))).trans HY.out.1; have HB1 := Lib.hid (HB0.out.trans (hb1.mono HB0.out.size)); have HZ1 : Hid (w.heap.size + 3 ≤ w1.heap.size) := Lib.hid (by have := hb1.size; have := HZ.out; omega))
        | (go_at_call 38; refine (HM.out _ HB1.out).mono ?_; rintro e w2 ⟨v2, l2, rfl, ho, h3, hb2⟩; obtain ⟨ao2, cap2, rfl, hL2, hc2⟩ := lies_of_own Hd.enc_len h3 rfl; have HLL := Lib.hid hL2; have y1 := (hb2.cell (p := ⟨w.heap.size + 1 + 1, 0, none⟩) (lt_of_le3' HZ1.out (by decide))).trans z1; have y0 := (hb2.cell (p := ⟨w.heap.size + 1, 0, none⟩) (lt_of_le3 HZ1.out (by decide))).trans z0; clear x0 x1 z0 z1 h3 hL2; have HB2 := Lib.hid (HB1.out.trans (hb2.mono HB1.out.size)); have HYY := Lib.hid (And.intro y0 y1); have HZ2 : Hid (w.heap.size + 3 ≤ w2.heap.size) := Lib.hid (by have := hb2.size; have := HZ1.out; omega))
        | (go_at_call 32; (refine (only_any ao2 (backs l2) cap2 w2 (HLL.out.mono (Nat.zero_le _)) (by have := backs_len l2; have := ho.out.2; omega) 44 #[.pointer (some ⟨w.heap.size + 1 + 1, 0, none⟩), .pointer (some ⟨w.heap.size + 1, 0, none⟩)] (fun h => betw p h.s (h.s + 4 * stepD dd)) enter44 (fun h hm W hW => meets1_any h p dd (w.heap.size + 1 + 1) (w.heap.size + 1) W HNC.out.1 (HS.out.below (HB2.out.trans (hW.mono HB2.out.size)) HS.out.lt) ((hW.cell (p := ⟨w.heap.size + 1 + 1, 0, none⟩) (lt_of_le3' HZ2.out (by decide))).trans HYY.out.2) ((hW.cell (p := ⟨w.heap.size + 1, 0, none⟩) (lt_of_le3 HZ2.out (by decide))).trans HYY.out.1) (by have := hW.size; have := HZ2.out; omega) (by have := hW.size; have := HZ2.out; omega) (ho.out.spot ((List.mem_filter.1 hm).1)))).mono ?_); rintro e w3 ⟨v3, rfl, h4, hb3⟩; obtain ⟨ao3, cap3, rfl, hL3, hc3⟩ := lies_of_own Hd.enc_len h4 rfl; have HL3 := Lib.hid hL3; clear h4 hL3 y1; have y2 := (hb3.cell (p := ⟨w.heap.size + 1, 0, none⟩) (lt_of_le3 HZ2.out (by decide))).trans y0; clear y0)
        | (go_at_call 39; refine (opp_any _ _).mono ?_; rintro e w4 ⟨rfl, rfl⟩)
        | (go_at_call 31; refine (past_any ao3 _ cap3 (oppM dd) _ (HL3.out.mono (Nat.zero_le _)) (by have := List.length_filter_le (fun h : Hd => betw p h.s (h.s + 4 * stepD dd)) (backs l2); have := backs_len l2; have := ho.out.2; omega)).mono ?_; rintro e w5 ⟨v5, rfl, ao5, rfl, hL5, hb5⟩))
      (try simp only [Exit.inBlock, Exit.then]); refine bodyPost_ret (results_tmp2 rfl _ _ _) rfl ?_
      have hB3 := HB2.out.trans (hb3.mono HB2.out.size)
      refine .inr (.inr ⟨by first | rfl | trivial, by rw [HT2.out]; exact HTN.out, _, l2, rfl, ho, ao5, rfl, Lib.hid (hL5.out.mono hB3.size), hB3.trans (hb5.mono hB3.size)⟩)
  · have hcz : (c == 0) = false := by simp [hc0]
    have HC0 := Lib.hid hc0
    clear hc0
    go_enter Tryd.func17, Tryd.ntmps17
    go_wp2_with (go_at_call 36; refine HCC.out.mono ?_; rintro e w1 ⟨rfl, hb1⟩)
    (try simp only [Exit.inBlock, Exit.then]); refine bodyPost_ret (results_tmp2 rfl _ _ _) rfl ?_
    exact .inl ⟨HC0.out, rfl, HB0.out.trans (hb1.mono HB0.out.size)⟩
end Go.Proofs.YtjjnhmbgffdenaaDoor
namespace Go.Proofs.YtjjnhmbgffdenaaDoor.Nd
open Go.RowKit

theorem bcell {W w1 : World} (hb : Below W.heap.size W w1) : (∀ b o, b < W.heap.size → w1.cell? ⟨b, o, none⟩ = W.cell? ⟨b, o, none⟩) ∧ (∀ b o, b < W.heap.size → w1.frozen? ⟨b, o, none⟩ = W.frozen? ⟨b, o, none⟩) :=
  ⟨fun b o h => hb.cell (p := ⟨b, o, none⟩) h, fun b o h => hb.frozen (p := ⟨b, o, none⟩) h⟩

/-- A needle as a value. -/
def nd (b a : Int) : Value := .agg #[.int .u8 b, .int .i64 a]

theorem check_ok (b a : Int) (w : World) (h : b ≤ 1) (h1 : 1 ≤ a) (h2 : a ≤ 40) :
    Calls Tryd.prog 55 #[.agg #[.int .u8 b, .int .i64 a]] w fun e w' => e = .returned (.int .i64 0) ∧ Below w.heap.size w w' := by
  go_enter Tryd.func55, Tryd.ntmps55
  go_wp2
  go_ret
  exact ⟨rfl, (Below.refl _ _).alloc (Nat.le_refl _) _⟩

theorem check_bad (b a : Int) (w : World) (h : ¬ (b ≤ 1 ∧ 1 ≤ a ∧ a ≤ 40)) :
    Calls Tryd.prog 55 #[.agg #[.int .u8 b, .int .i64 a]] w fun e w' => e = .returned (.int .i64 1) ∧ Below w.heap.size w w' := by
  by_cases hb : b ≤ 1
  · by_cases h1 : 1 ≤ a
    · have h2 : 40 < a := by omega
      clear h
      go_enter Tryd.func55, Tryd.ntmps55
      go_wp2
      go_ret
      exact ⟨rfl, (Below.refl _ _).alloc (Nat.le_refl _) _⟩
    · have h2 : a < 1 := by omega
      clear h
      go_enter Tryd.func55, Tryd.ntmps55
      go_wp2
      go_ret
      exact ⟨rfl, (Below.refl _ _).alloc (Nat.le_refl _) _⟩
  · have h2 : 1 < b := by omega
    clear h
    go_enter Tryd.func55, Tryd.ntmps55
    go_wp2
    go_ret
    exact ⟨rfl, (Below.refl _ _).alloc (Nat.le_refl _) _⟩

theorem rack_ok (r : Int) (w : World) (h1 : -4 ≤ r) (h2 : r ≤ 4) :
    Calls Tryd.prog 56 #[.int .i64 r] w fun e w' => e = .returned (.bool true) ∧ w' = w := by
  go_enter Tryd.func56, Tryd.ntmps56
  go_wp2
  go_ret
  exact ⟨rfl, rfl⟩

theorem rack_bad (r : Int) (w : World) (h : ¬ (-4 ≤ r ∧ r ≤ 4)) :
    Calls Tryd.prog 56 #[.int .i64 r] w fun e w' => e = .returned (.bool false) ∧ w' = w := by
  by_cases h1 : -4 ≤ r
  · have h2 : 4 < r := by omega
    have hd : decide (r ≤ 4) = false := by simp; omega
    clear h
    go_enter Tryd.func56, Tryd.ntmps56
    go_wp2
    go_ret
    exact ⟨rfl, rfl⟩
  · have h2 : r < -4 := by omega
    clear h
    go_enter Tryd.func56, Tryd.ntmps56
    go_wp2
    go_ret
    exact ⟨rfl, rfl⟩

theorem ret_int {k : IntKind} {a b : Int} (h : a = b) : Ending.returned (.int k a) = .returned (.int k b) := by rw [h]

/-- The spot of a valid needle for a valid rack. -/
def spt (b a r : Int) : Int := if b = 1 then 4 * (a + r) else 4 * a + 2

theorem spot_back (a r : Int) (w : World) (h1 : 1 ≤ a) (h2 : a ≤ 40) (h3 : -4 ≤ r) (h4 : r ≤ 4) :
    Calls Tryd.prog 29 #[.agg #[.int .u8 1, .int .i64 a], .int .i64 r] w fun e w' => e = .returned (.int .i64 (4 * (a + r))) ∧ Below w.heap.size w w' := by
  go_enter Tryd.func29, Tryd.ntmps29
  go_wp2_with (first
    | (go_at_call 55; refine (check_ok _ _ _ (by omega) (by omega) (by omega)).mono ?_; rintro e w' ⟨rfl, hb⟩; obtain ⟨hc, hf⟩ := bcell hb; have hz := hb.size)
    | (go_at_call 56; refine (rack_ok _ _ (by omega) (by omega)).mono ?_; rintro e w' ⟨rfl, rfl⟩))
  go_ret
  exact ⟨rfl, ((Below.refl _ _).alloc (Nat.le_refl _) _).trans (hb.mono (by simp))⟩

theorem spot_front (a r : Int) (w : World) (h1 : 1 ≤ a) (h2 : a ≤ 40) (h3 : -4 ≤ r) (h4 : r ≤ 4) :
    Calls Tryd.prog 29 #[.agg #[.int .u8 0, .int .i64 a], .int .i64 r] w fun e w' => e = .returned (.int .i64 (4 * a + 2)) ∧ Below w.heap.size w w' := by
  go_enter Tryd.func29, Tryd.ntmps29
  go_wp2_with (first
    | (go_at_call 55; refine (check_ok _ _ _ (by omega) (by omega) (by omega)).mono ?_; rintro e w' ⟨rfl, hb⟩; obtain ⟨hc, hf⟩ := bcell hb; have hz := hb.size)
    | (go_at_call 56; refine (rack_ok _ _ (by omega) (by omega)).mono ?_; rintro e w' ⟨rfl, rfl⟩))
  go_ret
  exact ⟨rfl, ((Below.refl _ _).alloc (Nat.le_refl _) _).trans (hb.mono (by simp))⟩

theorem spot_ok (b a r : Int) (w : World) (h0 : b = 0 ∨ b = 1) (h1 : 1 ≤ a) (h2 : a ≤ 40) (h3 : -4 ≤ r) (h4 : r ≤ 4) :
    Calls Tryd.prog 29 #[.agg #[.int .u8 b, .int .i64 a], .int .i64 r] w fun e w' => e = .returned (.int .i64 (spt b a r)) ∧ Below w.heap.size w w' := by
  rcases h0 with rfl | rfl
  · exact spot_front a r w h1 h2 h3 h4
  · exact spot_back a r w h1 h2 h3 h4

theorem spot_bad (b a r : Int) (w : World) (h : ¬ ((b ≤ 1 ∧ 1 ≤ a ∧ a ≤ 40) ∧ (-4 ≤ r ∧ r ≤ 4))) :
    Calls Tryd.prog 29 #[.agg #[.int .u8 b, .int .i64 a], .int .i64 r] w fun e w' => e = .returned (.int .i64 0) ∧ Below w.heap.size w w' := by
  by_cases hv : b ≤ 1 ∧ 1 ≤ a ∧ a ≤ 40
  · have hr : ¬ (-4 ≤ r ∧ r ≤ 4) := fun h' => h ⟨hv, h'⟩
    clear h
    obtain ⟨v1, v2, v3⟩ := hv
    have HR := Lib.hid hr
    clear hr
    go_enter Tryd.func29, Tryd.ntmps29
    go_wp2_with (first
      | (go_at_call 55; refine (check_ok _ _ _ (by omega) (by omega) (by omega)).mono ?_; rintro e w' ⟨rfl, hb⟩; obtain ⟨hc, hf⟩ := bcell hb; have hz := hb.size)
      | (go_at_call 56; refine (rack_bad _ _ HR.out).mono ?_; rintro e w' ⟨rfl, rfl⟩))
    go_ret
    exact ⟨rfl, ((Below.refl _ _).alloc (Nat.le_refl _) _).trans (hb.mono (by simp))⟩
  · clear h
    have HV := Lib.hid hv
    clear hv
    go_enter Tryd.func29, Tryd.ntmps29
    go_wp2_with (go_at_call 55; refine (check_bad _ _ _ HV.out).mono ?_; rintro e w' ⟨rfl, hb⟩; obtain ⟨hc, hf⟩ := bcell hb; have hz := hb.size)
    go_ret
    exact ⟨rfl, ((Below.refl _ _).alloc (Nat.le_refl _) _).trans (hb.mono (by simp))⟩

end Go.Proofs.YtjjnhmbgffdenaaDoor.Nd
namespace Go.Proofs.YtjjnhmbgffdenaaDoor.Nd
open Go.RowKit

theorem at_rack (s r : Int) (w : World) (h : ¬ (-4 ≤ r ∧ r ≤ 4)) :
    Calls Tryd.prog 40 #[.int .i64 s, .int .i64 r] w fun e w' => e = .returned (.tuple #[.agg #[.int .u8 0, .int .i64 0], .int .i64 11]) ∧ Below w.heap.size w w' := by
  have HR := Lib.hid h
  clear h
  go_enter Tryd.func40, Tryd.ntmps40
  go_wp2_with fail
  go_step3
  go_wp2_with (go_at_call 56; refine (rack_bad _ _ HR.out).mono ?_; rintro e w' ⟨rfl, rfl⟩)
  rw [Exit.noGoto_ret]
  exact bodyPost_ret (v := .tuple #[.agg #[.int .u8 0, .int .i64 0], .int .i64 11]) (by simp [results, Tryd.results40, go_sem]) rfl ⟨rfl, ((Below.refl _ _).alloc (Nat.le_refl _) _)⟩

/-- No needle of the bed up to k has a spot from s on. -/
def Low (b r s k : Int) : Prop := ∀ a : Int, 1 ≤ a → a ≤ k → spt b a r < s
/-- No needle of the bed has the spot. -/
def NoBed (b r s : Int) : Prop := ∀ a : Int, 1 ≤ a → a ≤ 40 → spt b a r ≠ s

theorem low_zero (b r s : Int) : Low b r s 0 := fun a h1 h2 => absurd h1 (by omega)
theorem low_succ {b r s : Int} {k : Nat} (h : Low b r s k) (h1 : spt b (k + 1) r < s) : Low b r s ((k + 1 : Nat) : Int) := fun a h2 h3 => by
  by_cases e : a = k + 1
  · subst e; exact h1
  · exact h a h2 (by omega)
theorem spt_mono (b r a a' : Int) (h : a ≤ a') : spt b a r ≤ spt b a' r := by unfold spt; split <;> omega
theorem low_all {b r s : Int} (h : Low b r s 40) : NoBed b r s := fun a h1 h2 => by have := h a h1 h2; omega
theorem low_stop {b r s : Int} {k : Nat} (h : Low b r s k) (h1 : s < spt b (k + 1) r) : NoBed b r s := fun a h2 _ => by
  by_cases e : a ≤ k
  · have := h a h2 e; omega
  · have := spt_mono b r (k + 1) a (by omega); omega

def AtPost (s r : Int) (w : World) (e : Ending) (w' : World) : Prop :=
  ((∃ b a : Int, (b = 0 ∨ b = 1) ∧ 1 ≤ a ∧ a ≤ 40 ∧ spt b a r = s ∧ e = .returned (.tuple #[.agg #[.int .u8 b, .int .i64 a], .int .i64 0])) ∨
    (NoBed 0 r s ∧ NoBed 1 r s ∧ e = .returned (.tuple #[.agg #[.int .u8 0, .int .i64 0], .int .i64 7]))) ∧ Below w.heap.size w w'

/-- What the rounds have shown of the beds before. -/
def Done (r s : Int) (j : Nat) : Prop := (1 ≤ j → NoBed 0 r s) ∧ (2 ≤ j → NoBed 1 r s)

theorem done_succ {r s : Int} {j : Nat} (hd : Done r s j) (hj : j < 2) (h : NoBed j r s) : Done r s (j + 1) := by
  obtain rfl | rfl : j = 0 ∨ j = 1 := by omega
  · exact ⟨fun _ => h, fun h' => absurd h' (by omega)⟩
  · exact ⟨fun _ => hd.1 (by omega), fun _ => h⟩

theorem held {w W0 wr : World} (h0 : W0 = (w.alloc (Obj.cells #[Value.int IntKind.u8 0, Value.int IntKind.i64 0] 38)).alloc (Obj.cells #[Value.int IntKind.u8 0, Value.int IntKind.i64 0] 38)) (hb : Below (w.heap.size + 2) W0 wr) :
    wr.cell? ⟨w.heap.size, 0, none⟩ = some (.int .u8 0) ∧ wr.cell? ⟨w.heap.size, 1, none⟩ = some (.int .i64 0) ∧
    wr.cell? ⟨w.heap.size + 1, 0, none⟩ = some (.int .u8 0) ∧ wr.cell? ⟨w.heap.size + 1, 1, none⟩ = some (.int .i64 0) ∧
    wr.frozen? ⟨w.heap.size, 0, none⟩ = false ∧ wr.frozen? ⟨w.heap.size, 1, none⟩ = false ∧
    wr.frozen? ⟨w.heap.size + 1, 0, none⟩ = false ∧ wr.frozen? ⟨w.heap.size + 1, 1, none⟩ = false ∧ w.heap.size + 2 ≤ wr.heap.size := by
  have hz := hb.size
  rw [hb.cell (p := ⟨w.heap.size, 0, none⟩) (by simp), hb.cell (p := ⟨w.heap.size, 1, none⟩) (by simp), hb.cell (p := ⟨w.heap.size + 1, 0, none⟩) (by simp), hb.cell (p := ⟨w.heap.size + 1, 1, none⟩) (by simp),
    hb.frozen (p := ⟨w.heap.size, 0, none⟩) (by simp), hb.frozen (p := ⟨w.heap.size, 1, none⟩) (by simp), hb.frozen (p := ⟨w.heap.size + 1, 0, none⟩) (by simp), hb.frozen (p := ⟨w.heap.size + 1, 1, none⟩) (by simp)]
  subst h0
  simp at hz
  refine ⟨?_, ?_, ?_, ?_, ?_, ?_, ?_, ?_, by omega⟩ <;> go_simp

theorem below0 {w W0 : World} (h0 : W0 = (w.alloc (Obj.cells #[Value.int IntKind.u8 0, Value.int IntKind.i64 0] 38)).alloc (Obj.cells #[Value.int IntKind.u8 0, Value.int IntKind.i64 0] 38)) : Below w.heap.size w W0 := by
  subst h0
  exact ((Below.refl _ _).alloc (Nat.le_refl _) _).alloc (by simp) _

set_option maxRecDepth 100000 in
set_option maxHeartbeats 4000000 in
theorem at_ok (s r : Int) (w : World) (h3 : -4 ≤ r) (h4 : r ≤ 4) :
    Calls Tryd.prog 40 #[.int .i64 s, .int .i64 r] w (AtPost s r w) := by
  obtain ⟨W0, hW0⟩ : ∃ W0 : World, W0 = (w.alloc (Obj.cells #[Value.int IntKind.u8 0, Value.int IntKind.i64 0] 38)).alloc (Obj.cells #[Value.int IntKind.u8 0, Value.int IntKind.i64 0] 38) := ⟨_, rfl⟩
  have H0 := Lib.hid hW0
  clear hW0
  go_enter Tryd.func40, Tryd.ntmps40
  go_wp2_with fail
  go_step3
  go_wp2_with (go_at_call 56; refine (rack_ok _ _ (by omega) (by omega)).mono ?_; rintro e w' ⟨rfl, rfl⟩)
  go_step3
  go_wp2
  rw [← H0.out]
  go_loopg [7, 19] 3 (fun g e i wr => ∃ j : Nat, j ≤ 2 ∧ g = 3 - j ∧ e = .int .i64 7 ∧ i = .int .i64 j ∧ Done r s j ∧ Below (w.heap.size + 2) W0 wr)
  case atStart => exact ⟨0, by omega, rfl, rfl, rfl, ⟨fun h => absurd h (by omega), fun h => absurd h (by omega)⟩, Below.refl _ _⟩
  case round =>
    obtain ⟨j, hj, hg, rfl, rfl, hd, hb⟩ := hrel
    have HG := Lib.hid hg
    clear hg
    obtain ⟨wo, rfl⟩ : ∃ wo : World, wo = wr := ⟨_, rfl⟩
    obtain ⟨go, rfl⟩ : ∃ go : Nat, go = gk := ⟨_, rfl⟩
    obtain ⟨c00, c01, c10, c11, f00, f01, f10, f11, hz⟩ := held H0.out hb
    by_cases hlt : j < 2
    · have ij : ∀ w, (Instr.index 99 (.agg #[.int .u8 0, .int .u8 1]) (.int .i64 j)).run Tryd.prog w = .ok (.int .u8 j) w := by
        obtain rfl | rfl : j = 0 ∨ j = 1 := by omega
        · exact fun _ => by kernel_rfl
        · exact fun _ => by kernel_rfl
      have hjd : decide ((j : Int) < 2) = true := by simp; omega
      have HJ := Lib.hid (show (j : Int) = 0 ∨ (j : Int) = 1 by omega)
      go_wp2_with fail
      clear ij
      go_loopg [7, 22] 41 (fun g e i wr => ∃ k : Nat, k ≤ 40 ∧ g = 41 - k ∧ e = .int .i64 7 ∧ i = .int .i64 k ∧ Low j r s k ∧ Below (w.heap.size + 2) W0 wr)
      case atStart => exact ⟨0, by omega, rfl, rfl, rfl, low_zero _ _ _, hb⟩
      case round =>
        obtain ⟨k, hk, hg, rfl, rfl, hl, hb'⟩ := hrel
        have HG' := Lib.hid hg
        clear hg c00 c01 c10 c11 f00 f01 f10 f11 hz
        obtain ⟨c00, c01, c10, c11, f00, f01, f10, f11, hz⟩ := held H0.out hb'
        by_cases hk40 : k < 40
        · rcases Int.lt_trichotomy (spt j (k + 1) r) s with hx | hx | hx
          · go_wp2_with (go_at_call 29; refine (spot_ok _ _ _ _ HJ.out (by omega) (by omega) (by omega) (by omega)).mono ?_; rintro e w' ⟨rfl, hbs⟩; obtain ⟨hc, hf⟩ := bcell hbs; have hzs := hbs.size)
            go_roundg (gk - 1)
            case measure => have := HG'.out; omega
            case rel => exact ⟨k + 1, by omega, by have := HG'.out; omega, rfl, by go_num, low_succ hl hx, (hb'.alloc (by omega) _).trans (hbs.mono (by simp; omega))⟩
          · go_wp2_with (go_at_call 29; refine (spot_ok _ _ _ _ HJ.out (by omega) (by omega) (by omega) (by omega)).mono ?_; rintro e w' ⟨rfl, hbs⟩; obtain ⟨hc, hf⟩ := bcell hbs; have hzs := hbs.size; have hb2 : Below (w.heap.size + 2) W0 w' := (hb'.alloc (by omega) _).trans (hbs.mono (by simp; omega)); obtain ⟨d00, d01, d10, d11, e00, e01, e10, e11, hz2⟩ := held H0.out hb2)
            rw [Exit.noGoto_ret]
            refine bodyPost_ret (v := .tuple #[.agg #[.int .u8 j, .int .i64 (k + 1)], .int .i64 0]) (by simp [results, Tryd.results40, go_sem, d00, d01]) rfl ⟨?_, ?_⟩
            · left; exact ⟨j, k + 1, HJ.out, by omega, by omega, hx, rfl⟩
            · exact (((((below0 H0.out).trans (hb2.mono (by omega))).setCell (Nat.le_succ _) _).setCell (Nat.le_succ _) _).setCell (Nat.le_refl _) _).setCell (Nat.le_refl _) _
          · go_wp2_with (go_at_call 29; refine (spot_ok _ _ _ _ HJ.out (by omega) (by omega) (by omega) (by omega)).mono ?_; rintro e w' ⟨rfl, hbs⟩; obtain ⟨hc, hf⟩ := bcell hbs; have hzs := hbs.size)
            go_roundg (go - 1)
            case measure => have := HG.out; omega
            case rel => exact ⟨j + 1, by omega, by have := HG.out; omega, rfl, by go_num, done_succ hd hlt (low_stop hl hx), (hb'.alloc (by omega) _).trans (hbs.mono (by simp; omega))⟩
        · obtain rfl : k = 40 := by omega
          go_wp2
          go_roundg (go - 1)
          case measure => have := HG.out; omega
          case rel => exact ⟨j + 1, by omega, by have := HG.out; omega, rfl, by go_num, done_succ hd hlt (low_all hl), hb'⟩
    · obtain rfl : j = 2 := by omega
      go_wp2
      rw [Exit.noGoto_ret]
      refine bodyPost_ret (v := .tuple #[.agg #[.int .u8 0, .int .i64 0], .int .i64 7]) (by simp [results, Tryd.results40, go_sem, c00, c01]) rfl ⟨?_, ?_⟩
      · right; exact ⟨hd.1 (by omega), hd.2 (by omega), rfl⟩
      · exact (((below0 H0.out).trans (hb.mono (by omega))).setCell (Nat.le_refl _) _).setCell (Nat.le_refl _) _

theorem spt_inj {b a b' a' r : Int} (hb : b = 0 ∨ b = 1) (hb' : b' = 0 ∨ b' = 1) (h : spt b a r = spt b' a' r) : b = b' ∧ a = a' := by
  rcases hb with rfl | rfl <;> rcases hb' with rfl | rfl <;> simp [spt] at h ⊢ <;> omega

theorem at_found (s b a r : Int) (w : World) (hb : b = 0 ∨ b = 1) (h1 : 1 ≤ a) (h2 : a ≤ 40) (h3 : -4 ≤ r) (h4 : r ≤ 4) (h : spt b a r = s) :
    Calls Tryd.prog 40 #[.int .i64 s, .int .i64 r] w fun e w' => e = .returned (.tuple #[.agg #[.int .u8 b, .int .i64 a], .int .i64 0]) ∧ Below w.heap.size w w' := by
  refine (at_ok s r w h3 h4).mono fun e w' hp => ?_
  obtain ⟨⟨b', a', g1, g2, g3, g4, rfl⟩ | ⟨n0, n1, _⟩, hbl⟩ := hp
  · obtain ⟨rfl, rfl⟩ := spt_inj g1 hb (g4.trans h.symm)
    exact ⟨rfl, hbl⟩
  · rcases hb with rfl | rfl
    · exact absurd h (n0 a h1 h2)
    · exact absurd h (n1 a h1 h2)

theorem at_none (s r : Int) (w : World) (h3 : -4 ≤ r) (h4 : r ≤ 4) (n0 : NoBed 0 r s) (n1 : NoBed 1 r s) :
    Calls Tryd.prog 40 #[.int .i64 s, .int .i64 r] w fun e w' => e = .returned (.tuple #[.agg #[.int .u8 0, .int .i64 0], .int .i64 7]) ∧ Below w.heap.size w w' := by
  refine (at_ok s r w h3 h4).mono fun e w' hp => ?_
  obtain ⟨⟨b', a', g1, g2, g3, g4, rfl⟩ | ⟨_, _, rfl⟩, hbl⟩ := hp
  · rcases g1 with rfl | rfl
    · exact absurd g4 (n0 a' g2 g3)
    · exact absurd g4 (n1 a' g2 g3)
  · exact ⟨rfl, hbl⟩

end Go.Proofs.YtjjnhmbgffdenaaDoor.Nd
