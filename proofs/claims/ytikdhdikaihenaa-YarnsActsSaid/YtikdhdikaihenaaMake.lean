import Derived.Test.YtikdhdikaihenaaActs
import Derived.Test.YtikdhdikaihenaaCopied
import Derived.Deep.RegionHeld
namespace Go.Proofs.Ytikdhdikaihenaa
open Go.RowKit Go.Sort

def ThreeC (w : World) (b : Nat) (v0 v1 v2 : Value) : Prop :=
  (w.cell? ⟨b, 0, none⟩ = some v0 ∧ w.cell? ⟨b, 1, none⟩ = some v1 ∧ w.cell? ⟨b, 2, none⟩ = some v2) ∧
  (w.frozen? ⟨b, 0, none⟩ = false ∧ w.frozen? ⟨b, 1, none⟩ = false ∧ w.frozen? ⟨b, 2, none⟩ = false)
theorem ThreeC.below {w w' : World} {B b : Nat} {v0 v1 v2 : Value} (h : ThreeC w b v0 v1 v2) (hb : Below B w w') (hB : b < B) : ThreeC w' b v0 v1 v2 := by
  obtain ⟨⟨c0, c1, c2⟩, ⟨f0, f1, f2⟩⟩ := h
  have hc : ∀ o, w'.cell? ⟨b, o, none⟩ = w.cell? ⟨b, o, none⟩ := fun o => hb.cell (p := ⟨b, o, none⟩) hB
  have hf : ∀ o, w'.frozen? ⟨b, o, none⟩ = w.frozen? ⟨b, o, none⟩ := fun o => hb.frozen (p := ⟨b, o, none⟩) hB
  exact ⟨⟨(hc 0).trans c0, (hc 1).trans c1, (hc 2).trans c2⟩, ⟨(hf 0).trans f0, (hf 1).trans f1, (hf 2).trans f2⟩⟩
theorem below_sets3 {w W : World} {B g : Nat} (h : Below B w W) (hg : B ≤ g) (v0 v1 v2 : Value) :
    Below B w (((W.setCell ⟨g, 0, none⟩ v0).setCell ⟨g, 1, none⟩ v1).setCell ⟨g, 2, none⟩ v2) :=
  ((h.setCell (p := ⟨g, 0, none⟩) hg _).setCell (p := ⟨g, 1, none⟩) hg _).setCell (p := ⟨g, 2, none⟩) hg _
theorem owns_sets3 {W : World} {B e n g : Nat} {v : Value} {xs : List Value} (h : W.ownsRow B e 4 v n xs) (hg : g < B) (v0 v1 v2 : Value) :
    (((W.setCell ⟨g, 0, none⟩ v0).setCell ⟨g, 1, none⟩ v1).setCell ⟨g, 2, none⟩ v2).ownsRow B e 4 v n xs :=
  ownsRow_setCell_below (a := ⟨g, 2, none⟩) (ownsRow_setCell_below (a := ⟨g, 1, none⟩) (ownsRow_setCell_below (a := ⟨g, 0, none⟩) h hg _) hg _) hg _
def w3of (w : World) (i : Bool) (p c : Int) (nw : Bool) (v : Value) : World :=
  ((w.alloc (.cells #[.bool i, .int .i64 p, .int .i64 c, .bool nw, v] 38)).alloc (.cells #[.bool false, .int .i64 0, .int .i64 0, .bool false, .slice none 0 0] 38)).alloc (.cells #[.int .i64 0, .bool false, .slice none 0 0] 47)
theorem Five.alloc {w : World} {b : Nat} {v0 v1 v2 v3 v4 : Value} (h : Five w b v0 v1 v2 v3 v4) (hb : b < w.heap.size) (o : Obj) : Five (w.alloc o) b v0 v1 v2 v3 v4 := h.below (below1 w o) hb
theorem three_new (w : World) : ThreeC (w.alloc (.cells #[.int .i64 0, .bool false, .slice none 0 0] 47)) w.heap.size (.int .i64 0) (.bool false) (.slice none 0 0) := by
  refine ⟨⟨?_, ?_, ?_⟩, ⟨?_, ?_, ?_⟩⟩ <;> go_simp
theorem three_any (w : World) (c : Int) (nw : Bool) (v : Value) : ThreeC (w.alloc (.cells #[.int .i64 c, .bool nw, v] 47)) w.heap.size (.int .i64 c) (.bool nw) v := by
  refine ⟨⟨?_, ?_, ?_⟩, ⟨?_, ?_, ?_⟩⟩ <;> go_simp
theorem three_set {w : World} {b : Nat} {u0 u1 u2 : Value} (h : ThreeC w b u0 u1 u2) (v0 v1 v2 : Value) : ThreeC (((w.setCell ⟨b, 0, none⟩ v0).setCell ⟨b, 1, none⟩ v1).setCell ⟨b, 2, none⟩ v2) b v0 v1 v2 := by
  obtain ⟨⟨c0, c1, c2⟩, ⟨f0, f1, f2⟩⟩ := h
  refine ⟨⟨?_, ?_, ?_⟩, ⟨?_, ?_, ?_⟩⟩ <;> go_simp
theorem below3 (w : World) (o p q : Obj) : Below w.heap.size w (((w.alloc o).alloc p).alloc q) := (below2 w o p).alloc (by simp; omega) _
theorem blocks3 (w : World) (i : Bool) (p c : Int) (nw : Bool) (v : Value) :
    (Five (w3of w i p c nw v) w.heap.size (.bool i) (.int .i64 p) (.int .i64 c) (.bool nw) v ∧ Five (w3of w i p c nw v) (w.heap.size + 1) (.bool false) (.int .i64 0) (.int .i64 0) (.bool false) (.slice none 0 0)) ∧
    ThreeC (w3of w i p c nw v) (w.heap.size + 2) (.int .i64 0) (.bool false) (.slice none 0 0) := by
  obtain ⟨h0, h1⟩ := five2 w i p c nw v false 0 0 false (.slice none 0 0)
  have hb : Below ((w.alloc (.cells #[.bool i, .int .i64 p, .int .i64 c, .bool nw, v] 38)).alloc (.cells #[.bool false, .int .i64 0, .int .i64 0, .bool false, .slice none 0 0] 38)).heap.size _ (w3of w i p c nw v) := below1 _ _
  refine ⟨⟨h0.below hb (by simp; omega), h1.below hb (by simp)⟩, ⟨⟨?_, ?_, ?_⟩, ⟨?_, ?_, ?_⟩⟩⟩ <;> unfold w3of <;> go_simp

theorem make_bad (i : Bool) (p c : Int) (nw : Bool) (ao : Option Addr) (ps : List Ps) (n cap : Nat) (w : World) (hn : n = ps.length) (hm : n ≤ 9223372036854775807) (hl : Lie w ao ps) (h : ¬ VY i p c nw ps) :
    Calls Try.prog 20 #[.agg #[.bool i, .int .i64 p, .int .i64 c, .bool nw, .slice ao n cap]] w fun e w' => e = .returned (.tuple #[.agg #[.bool false, .int .i64 0, .int .i64 0, .bool false, .slice none 0 0], .agg #[.int .i64 0, .bool false, .slice none 0 0], .int .i64 1]) ∧ Below w.heap.size w w' := by
  have HN := Lib.hid hn
  have HL := Lib.hid hl
  have HV := Lib.hid h
  clear hn hl h
  go_enter Try.func20, Try.ntmps20
  go_wp2_with (go_at_call 27; refine (checkin_bad _ _ _ _ _ ps _ _ _ HN.out hm (HL.out.below (below3 _ _ _ _)) HV.out).mono ?_; rintro e w1 ⟨rfl, hb⟩; refine Hid.out ?_)
  obtain ⟨⟨F0, F1⟩, F2⟩ := blocks3 w i p c nw (.slice ao n cap)
  have hb1 : Below w.heap.size w w1 := (below3 _ _ _ _).trans (hb.mono (by simp; omega))
  have hz1 := hb.size
  simp at hz1
  have G0 := F0.below hb (by simp; omega)
  have G1 := F1.below hb (by simp)
  have G2 := F2.below hb (by simp)
  clear hb F0 F1 F2
  obtain ⟨⟨c0, c1, c2, c3, c4⟩, ⟨f0, f1, f2, f3, f4⟩⟩ := G0
  obtain ⟨⟨d0, d1, d2, d3, d4⟩, ⟨e0, e1, e2, e3, e4⟩⟩ := G1
  obtain ⟨⟨k0, k1, k2⟩, ⟨l0, l1, l2⟩⟩ := G2
  refine Lib.hid ?_
  go_wp2_with fail
  exact bodyPost_ret (v := .tuple #[.agg #[.bool false, .int .i64 0, .int .i64 0, .bool false, .slice none 0 0], .agg #[.int .i64 0, .bool false, .slice none 0 0], .int .i64 1]) (by simp [results, Try.results20, go_sem, d0, d1, d2, d3, d4, k0, k1, k2]) rfl ⟨rfl, below_sets3 (below_sets5 hb1 (by omega) _ _ _ _ _) (by omega) _ _ _⟩

theorem make_out (p c : Int) (nw : Bool) (ao : Option Addr) (ps : List Ps) (n cap : Nat) (w : World) (hn : n = ps.length) (hm : n ≤ 9223372036854775807) (hl : Lie w ao ps) (h : VY false p c nw ps) :
    Calls Try.prog 20 #[.agg #[.bool false, .int .i64 p, .int .i64 c, .bool nw, .slice ao n cap]] w fun e w' => e = .returned (.tuple #[.agg #[.bool false, .int .i64 0, .int .i64 0, .bool false, .slice none 0 0], .agg #[.int .i64 0, .bool false, .slice none 0 0], .int .i64 12]) ∧ Below w.heap.size w w' := by
  have HN := Lib.hid hn
  have HL := Lib.hid hl
  have HV := Lib.hid h
  clear hn hl h
  go_enter Try.func20, Try.ntmps20
  go_wp2_with (go_at_call 27; refine (checkin_out _ _ _ _ ps _ _ _ HN.out hm (HL.out.below (below3 _ _ _ _)) HV.out).mono ?_; rintro e w1 ⟨rfl, hb⟩; refine Hid.out ?_)
  obtain ⟨⟨F0, F1⟩, F2⟩ := blocks3 w false p c nw (.slice ao n cap)
  have hb1 : Below w.heap.size w w1 := (below3 _ _ _ _).trans (hb.mono (by simp; omega))
  have hz1 := hb.size
  simp at hz1
  have G0 := F0.below hb (by simp; omega)
  have G1 := F1.below hb (by simp)
  have G2 := F2.below hb (by simp)
  clear hb F0 F1 F2
  obtain ⟨⟨c0, c1, c2, c3, c4⟩, ⟨f0, f1, f2, f3, f4⟩⟩ := G0
  obtain ⟨⟨d0, d1, d2, d3, d4⟩, ⟨e0, e1, e2, e3, e4⟩⟩ := G1
  obtain ⟨⟨k0, k1, k2⟩, ⟨l0, l1, l2⟩⟩ := G2
  refine Lib.hid ?_
  go_wp2_with fail
  exact bodyPost_ret (v := .tuple #[.agg #[.bool false, .int .i64 0, .int .i64 0, .bool false, .slice none 0 0], .agg #[.int .i64 0, .bool false, .slice none 0 0], .int .i64 12]) (by simp [results, Try.results20, go_sem, d0, d1, d2, d3, d4, k0, k1, k2]) rfl ⟨rfl, below_sets3 (below_sets5 hb1 (by omega) _ _ _ _ _) (by omega) _ _ _⟩

theorem make_full (p : Int) (nw : Bool) (ao : Option Addr) (ps : List Ps) (n cap : Nat) (w : World) (hn : n = ps.length) (hm : n ≤ 9223372036854775807) (hl : Lie w ao ps) (h : VY true p 2048 nw ps) :
    Calls Try.prog 20 #[.agg #[.bool true, .int .i64 p, .int .i64 2048, .bool nw, .slice ao n cap]] w fun e w' => e = .returned (.tuple #[.agg #[.bool false, .int .i64 0, .int .i64 0, .bool false, .slice none 0 0], .agg #[.int .i64 0, .bool false, .slice none 0 0], .int .i64 3]) ∧ Below w.heap.size w w' := by
  have HN := Lib.hid hn
  have HL := Lib.hid hl
  have HV := Lib.hid h
  clear hn hl h
  go_enter Try.func20, Try.ntmps20
  go_wp2_with (go_at_call 27; refine (checkin_ok _ _ _ _ ps _ _ _ HN.out hm (HL.out.below (below3 _ _ _ _)) HV.out).mono ?_; rintro e w1 ⟨rfl, hb⟩; refine Hid.out ?_)
  obtain ⟨⟨F0, F1⟩, F2⟩ := blocks3 w true p 2048 nw (.slice ao n cap)
  have hb1 : Below w.heap.size w w1 := (below3 _ _ _ _).trans (hb.mono (by simp; omega))
  have hz1 := hb.size
  simp at hz1
  have G0 := F0.below hb (by simp; omega)
  have G1 := F1.below hb (by simp)
  have G2 := F2.below hb (by simp)
  clear hb F0 F1 F2
  obtain ⟨⟨c0, c1, c2, c3, c4⟩, ⟨f0, f1, f2, f3, f4⟩⟩ := G0
  obtain ⟨⟨d0, d1, d2, d3, d4⟩, ⟨e0, e1, e2, e3, e4⟩⟩ := G1
  obtain ⟨⟨k0, k1, k2⟩, ⟨l0, l1, l2⟩⟩ := G2
  refine Lib.hid ?_
  go_wp2_with fail
  exact bodyPost_ret (v := .tuple #[.agg #[.bool false, .int .i64 0, .int .i64 0, .bool false, .slice none 0 0], .agg #[.int .i64 0, .bool false, .slice none 0 0], .int .i64 3]) (by simp [results, Try.results20, go_sem, d0, d1, d2, d3, d4, k0, k1, k2]) rfl ⟨rfl, below_sets3 (below_sets5 hb1 (by omega) _ _ _ _ _) (by omega) _ _ _⟩

set_option maxHeartbeats 1000000 in
theorem make_ok (p c : Int) (nw : Bool) (ao : Option Addr) (ps : List Ps) (n cap : Nat) (w : World) (hn : n = ps.length) (hm : n ≤ 9223372036854775807) (hl : Lie w ao ps) (h : VY true p c nw ps) (h48 : c < 2048) :
    Calls Try.prog 20 #[.agg #[.bool true, .int .i64 p, .int .i64 c, .bool nw, .slice ao n cap]] w fun e w' => ∃ bo, e = .returned (.tuple #[.agg #[.bool true, .int .i64 p, .int .i64 (c + 1), .bool false, .slice none 0 0], .agg #[.int .i64 c, .bool nw, .slice bo ps.length ps.length], .int .i64 0]) ∧ w'.ownsRow w.heap.size 33 4 (.slice bo ps.length ps.length) ps.length (cellsOf ps) ∧ Below w.heap.size w w' := by
  have HN := Lib.hid hn
  have HL := Lib.hid hl
  have HV := Lib.hid h
  clear hn hl h
  go_enter Try.func20, Try.ntmps20
  go_wp2_with (go_at_call 27; refine (checkin_ok _ _ _ _ ps _ _ _ HN.out hm (HL.out.below (below3 _ _ _ _)) HV.out).mono ?_; rintro e w1 ⟨rfl, hb⟩; refine Hid.out ?_)
  obtain ⟨⟨F0, F1⟩, F2⟩ := blocks3 w true p c nw (.slice ao n cap)
  have hb1 : Below w.heap.size w w1 := (below3 _ _ _ _).trans (hb.mono (by simp; omega))
  have hz1 := hb.size
  simp at hz1
  have G0 := F0.below hb (by simp; omega)
  have G1 := F1.below hb (by simp)
  have G2 := F2.below hb (by simp)
  clear hb F0 F1 F2
  obtain ⟨⟨c0, c1, c2, c3, c4⟩, ⟨f0, f1, f2, f3, f4⟩⟩ := G0
  obtain ⟨⟨d0, d1, d2, d3, d4⟩, ⟨e0, e1, e2, e3, e4⟩⟩ := G1
  obtain ⟨⟨k0, k1, k2⟩, ⟨l0, l1, l2⟩⟩ := G2
  refine Lib.hid ?_
  have hcc : 0 ≤ c := HV.out.1.1
  have hne : (c == 2048) = false := by simp; omega
  have hlz := HV.out.len
  have hn24 : 24 * n ≤ 281474976710656 := by have := HN.out; omega
  have K1 : ∀ W : World, Lie W ao ps → Calls Try.prog 24 #[.slice ao n cap] W fun e w' => Made W.heap.size W w' e ps := fun W h => copied_any ao ps n cap W HN.out hn24 h
  have KK := Lib.hid K1
  clear K1
  go_wp2_with fail
  have HLW := Lib.hid (HL.out.below hb1)
  have HF0 := Lib.hid (show Five w1 w.heap.size (.bool true) (.int .i64 p) (.int .i64 c) (.bool nw) (.slice ao n cap) from ⟨⟨c0, c1, c2, c3, c4⟩, ⟨f0, f1, f2, f3, f4⟩⟩)
  have HF1 := Lib.hid (show Five w1 (w.heap.size + 1) (.bool false) (.int .i64 0) (.int .i64 0) (.bool false) (.slice none 0 0) from ⟨⟨d0, d1, d2, d3, d4⟩, ⟨e0, e1, e2, e3, e4⟩⟩)
  have HF2 := Lib.hid (show ThreeC w1 (w.heap.size + 2) (.int .i64 0) (.bool false) (.slice none 0 0) from ⟨⟨k0, k1, k2⟩, ⟨l0, l1, l2⟩⟩)
  have nn1 : ¬ (w.heap.size = w1.heap.size) := by omega
  have nn2 : ¬ (w1.heap.size = w.heap.size) := by omega
  go_region_held (fun w' => w'.cell? ⟨w.heap.size, 2, none⟩ = some (.int .i64 c) ∧ w'.cell? ⟨w.heap.size, 3, none⟩ = some (.bool nw) ∧ w'.cell? ⟨w.heap.size, 4, none⟩ = some (.slice ao n cap)) (first | (refine ⟨?_, ?_, ?_⟩ <;> assumption) | go_keep)
    (first | (go_at_call 24; refine (KK.out _ (by refine HLW.out.below ?_; first | exact (Below.refl _ _).drew | exact ((Below.refl _ _).drew).alloc (Nat.le_refl _) _)).mono ?_; rintro e w4 ⟨bo, rfl, ho, hb⟩; (first | (have hb4 : Below w1.heap.size w1 w4 := (Below.refl _ _).drew.trans hb) | (have hb4 : Below w1.heap.size w1 w4 := (((Below.refl _ _).drew).alloc (Nat.le_refl _) _).trans (hb.mono (by simp)); obtain ⟨⟨y0, y1, y2⟩, ⟨z0, z1, z2⟩⟩ : ThreeC w4 w1.heap.size (.int .i64 0) (.bool false) (.slice none 0 0) := (three_new w1.drew).below hb (by simp))); have hz4 := hb4.size; have nn3 : ¬ (w.heap.size = w4.heap.size) := (by omega); have nn4 : ¬ (w4.heap.size = w.heap.size) := (by omega); obtain ⟨⟨x0, x1, x2, x3, x4⟩, -⟩ := HF0.out.below hb4 (by omega); have HO := Lib.hid ho; clear ho hb))
  · have hb5 : Below w1.heap.size w1 (w4.alloc (.cells #[.int .i64 c, .bool nw, .slice bo ps.length ps.length] 47)) := hb4.alloc (by omega) _
    have T := three_any w4 c nw (.slice bo ps.length ps.length)
    have HO5 := Lib.hid (HO.out.alloc (.cells #[.int .i64 c, .bool nw, .slice bo ps.length ps.length] 47))
    obtain ⟨K, hK⟩ : ∃ K, K = w4.heap.size := ⟨_, rfl⟩
    obtain ⟨V, hV⟩ : ∃ V : World, V = w4.alloc (.cells #[.int .i64 c, .bool nw, .slice bo ps.length ps.length] 47) := ⟨_, rfl⟩
    rw [← hV] at hb5 HO5 T ⊢
    rw [← hK] at T ⊢
    have hKK : w.heap.size + 2 < K := by omega
    have hOB : w.heap.size + 2 < (w1.drew).heap.size := by show w.heap.size + 2 < w1.heap.size; omega
    have hbV : Below w.heap.size w V := hb1.trans (hb5.mono (by omega))
    have V0 := HF0.out.below hb5 (by omega)
    have V1 := HF1.out.below hb5 (by omega)
    have V2 := HF2.out.below hb5 (by omega)
    have hzV := hb5.size
    clear hV hK hb4 hz4 nn1 nn2 nn3 nn4 x0 x1 x2 x3 x4 c0 c1 c2 c3 c4 d0 d1 d2 d3 d4 k0 k1 k2 f0 f1 f2 f3 f4 e0 e1 e2 e3 e4 l0 l1 l2 HF0 HF1 HF2 hb5 hb1 KK HLW 
    obtain ⟨⟨c0, c1, c2, c3, c4⟩, -⟩ := V0
    obtain ⟨⟨d0, d1, d2, d3, d4⟩, ⟨e0, e1, e2, e3, e4⟩⟩ := V1
    obtain ⟨⟨k0, k1, k2⟩, ⟨l0, l1, l2⟩⟩ := V2
    obtain ⟨⟨t0, t1, t2⟩, -⟩ := T
    have m1 : ¬ (w.heap.size = K) := by omega
    have m2 : ¬ (w.heap.size + 1 = K) := by omega
    have m3 : ¬ (w.heap.size + 1 + 1 = K) := by omega
    have hca : IntKind.i64.wrap (c + 1) = c + 1 := by rw [IntKind.wrap_i64]; omega
    go_wp2_with fail
    go_region
    go_wp2_with fail
    refine bodyPost_ret (v := .tuple #[.agg #[.bool true, .int .i64 p, .int .i64 (c + 1), .bool false, .slice none 0 0], .agg #[.int .i64 c, .bool nw, .slice bo ps.length ps.length], .int .i64 0]) (by simp [results, Try.results20, go_sem, d0, d1, d2, d3, d4, k0, k1, k2]) rfl ⟨bo, rfl, ?_, ?_⟩
    · exact owns_mono (owns_sets3 (owns_sets5 HO5.out (by omega) _ _ _ _ _) (by omega) _ _ _).drew (by omega)
    · exact (below_sets3 (below_sets5 hbV (by omega) _ _ _ _ _) (by omega) _ _ _).drew
  · have hb5 : Below w1.heap.size w1 (((w4.setCell ⟨w1.heap.size, 0, none⟩ (.int .i64 c)).setCell ⟨w1.heap.size, 1, none⟩ (.bool nw)).setCell ⟨w1.heap.size, 2, none⟩ (.slice bo ps.length ps.length)) := below_sets3 hb4 (Nat.le_refl _) _ _ _
    have T := three_set (show ThreeC w4 w1.heap.size _ _ _ from ⟨⟨y0, y1, y2⟩, ⟨z0, z1, z2⟩⟩) (.int .i64 c) (.bool nw) (.slice bo ps.length ps.length)
    have HO5 := Lib.hid (owns_sets3 HO.out (g := w1.heap.size) (by simp) (.int .i64 c) (.bool nw) (.slice bo ps.length ps.length))
    obtain ⟨K, hK⟩ : ∃ K, K = w1.heap.size := ⟨_, rfl⟩
    obtain ⟨V, hV⟩ : ∃ V : World, V = (((w4.setCell ⟨w1.heap.size, 0, none⟩ (.int .i64 c)).setCell ⟨w1.heap.size, 1, none⟩ (.bool nw)).setCell ⟨w1.heap.size, 2, none⟩ (.slice bo ps.length ps.length)) := ⟨_, rfl⟩
    rw [← hV] at hb5 HO5 T ⊢
    rw [← hK] at T ⊢
    have hKK : w.heap.size + 2 < K := by omega
    have hOB : w.heap.size + 2 < (w1.alloc (.cells #[.int .i64 0, .bool false, .slice none 0 0] 47)).drew.heap.size := by show w.heap.size + 2 < (w1.alloc (.cells #[.int .i64 0, .bool false, .slice none 0 0] 47)).heap.size; simp; omega
    have hbV : Below w.heap.size w V := hb1.trans (hb5.mono (by omega))
    have V0 := HF0.out.below hb5 (by omega)
    have V1 := HF1.out.below hb5 (by omega)
    have V2 := HF2.out.below hb5 (by omega)
    have hzV := hb5.size
    clear hV hK hb4 hz4 nn1 nn2 nn3 nn4 x0 x1 x2 x3 x4 c0 c1 c2 c3 c4 d0 d1 d2 d3 d4 k0 k1 k2 f0 f1 f2 f3 f4 e0 e1 e2 e3 e4 l0 l1 l2 HF0 HF1 HF2 hb5 hb1 KK HLW 
    obtain ⟨⟨c0, c1, c2, c3, c4⟩, -⟩ := V0
    obtain ⟨⟨d0, d1, d2, d3, d4⟩, ⟨e0, e1, e2, e3, e4⟩⟩ := V1
    obtain ⟨⟨k0, k1, k2⟩, ⟨l0, l1, l2⟩⟩ := V2
    obtain ⟨⟨t0, t1, t2⟩, -⟩ := T
    have m1 : ¬ (w.heap.size = K) := by omega
    have m2 : ¬ (w.heap.size + 1 = K) := by omega
    have m3 : ¬ (w.heap.size + 1 + 1 = K) := by omega
    have hca : IntKind.i64.wrap (c + 1) = c + 1 := by rw [IntKind.wrap_i64]; omega
    go_wp2_with fail
    go_region
    go_wp2_with fail
    refine bodyPost_ret (v := .tuple #[.agg #[.bool true, .int .i64 p, .int .i64 (c + 1), .bool false, .slice none 0 0], .agg #[.int .i64 c, .bool nw, .slice bo ps.length ps.length], .int .i64 0]) (by simp [results, Try.results20, go_sem, d0, d1, d2, d3, d4, k0, k1, k2]) rfl ⟨bo, rfl, ?_, ?_⟩
    · exact owns_mono (owns_sets3 (owns_sets5 HO5.out (by omega) _ _ _ _ _) (by omega) _ _ _).drew (by omega)
    · exact (below_sets3 (below_sets5 hbV (by omega) _ _ _ _ _) (by omega) _ _ _).drew

end Go.Proofs.Ytikdhdikaihenaa
