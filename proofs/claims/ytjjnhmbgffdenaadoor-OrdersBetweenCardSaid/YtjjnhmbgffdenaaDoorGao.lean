import Derived.Test.YtjjnhmbgffdenaaDoorGan
namespace Go.Proofs.YtjjnhmbgffdenaaDoor
open Go.RowKit Go.Sort
theorem Lies.cx {N : Nat} {w : World} {b : Nat} {l : List Cx} (h : Lies Cx.enc N w (some ⟨b, 0, none⟩) l) {i : Nat} (hi : i < l.length) : b < w.heap.size ∧ w.cell? ⟨b, 0 + i * 5, none⟩ = some (.int .u8 l[i].p.y) ∧ w.cell? ⟨b, 0 + i * 5 + 1, none⟩ = some (.int .i64 l[i].p.n) ∧ w.cell? ⟨b, 0 + i * 5 + 2, none⟩ = some (.int .u8 l[i].q.y) ∧ w.cell? ⟨b, 0 + i * 5 + 2 + 1, none⟩ = some (.int .i64 l[i].q.n) ∧ w.cell? ⟨b, 0 + i * 5 + 4, none⟩ = some (.int .i64 l[i].s) := by
  obtain ⟨b', h1, h2, h3⟩ := h.at Cx.enc_len hi
  obtain rfl : b = b' := by simpa using h1
  rw [Nat.zero_add]
  exact ⟨h2, h3 0 _ (by decide) rfl, h3 1 _ (by decide) rfl, h3 2 _ (by decide) rfl, h3 3 _ (by decide) rfl, h3 4 _ (by decide) rfl⟩
/-- The names of the first crossings. -/
def xsT (l : List Cx) (i : Nat) : List Nm := (l.take i).flatMap fun c => [c.p, c.q]
theorem xsT_succ (l : List Cx) (i : Nat) (h : i < l.length) : xsT l (i + 1) = xsT l i ++ [l[i].p, l[i].q] := by
  unfold xsT
  rw [List.take_succ_eq_append_getElem h, List.flatMap_append]
  rfl
theorem xsT_len (l : List Cx) (i : Nat) : (xsT l i).length ≤ 2 * l.length := by
  unfold xsT
  rw [List.length_flatMap]
  have h : ∀ m : List Cx, (m.map fun c => [c.p, c.q].length).sum = 2 * m.length := fun m => by
    induction m with
    | nil => rfl
    | cons c m ih => rw [List.map_cons, List.sum_cons, ih, List.length_cons]; simp only [List.length_cons, List.length_nil]; omega
  rw [h, List.length_take]; omega
theorem Lies.cxs {N : Nat} {w : World} {b : Nat} {l : List Cx} (h : Lies Cx.enc N w (some ⟨b, 0, none⟩) l) {i : Nat} (hi : i < l.length) : ∃ x ∈ l, xsT l (i + 1) = xsT l i ++ [x.p, x.q] ∧ b < w.heap.size ∧ w.cell? ⟨b, 0 + i * 5, none⟩ = some (.int .u8 x.p.y) ∧ w.cell? ⟨b, 0 + i * 5 + 1, none⟩ = some (.int .i64 x.p.n) ∧ w.cell? ⟨b, 0 + i * 5 + 2, none⟩ = some (.int .u8 x.q.y) ∧ w.cell? ⟨b, 0 + i * 5 + 2 + 1, none⟩ = some (.int .i64 x.q.n) ∧ w.cell? ⟨b, 0 + i * 5 + 4, none⟩ = some (.int .i64 x.s) :=
  ⟨l[i], List.getElem_mem _, xsT_succ l i hi, h.cx hi⟩
theorem ids_row {w : World} {b : Nat} {x y : Nm} (h : w.heap[b]? = some (.cells #[.int .u8 x.y, .int .i64 x.n, .int .u8 y.y, .int .i64 y.n] 35 (0, 0))) : ∀ j u, (rcells Nm.enc [x, y])[j]? = some u → w.cell? ⟨b, j, none⟩ = some u := fun j u hj => by
  rw [cell_of_row w b j _ 35 (0, 0) h]
  simpa [rcells, Nm.enc] using hj
theorem exC0_s : ∀ c ∈ exC0, c.s = -1 := by decide
theorem exC1_s : ∀ c ∈ exC1, c.s = 1 := by decide
def Apart (v u : Value) : Prop := v.ownBlock = none ∨ u.ownBlock = none ∨ v.ownBlock ≠ u.ownBlock
theorem Apart.kept {v u : Value} (h : Apart v u) : u.ownBlock = none ∨ u.ownBlock ≠ v.ownBlock := by
  unfold Apart at h
  cases hu : u.ownBlock with
  | none => exact .inl rfl
  | some b =>
    rw [hu] at h
    rcases h with h | h | h
    · rw [h]; exact .inr (by simp)
    · cases h
    · exact .inr (Ne.symm h)
theorem Apart.symm {v u : Value} (h : Apart v u) : Apart u v := by
  rcases h with h | h | h
  · exact .inr (.inl h)
  · exact .inl h
  · exact .inr (.inr (Ne.symm h))
theorem Apart.grown {w : World} {v v' u : Value} {N e k n : Nat} {xs : List Value} (h : Apart v u) (ha : v'.ownBlock = v.ownBlock ∨ v'.ownBlock = some w.heap.size) (hu : w.ownsRow N e k u n xs) : Apart v' u := by
  rcases ha with ha | ha
  · unfold Apart; rw [ha]; exact h
  · cases hb : u.ownBlock with
    | none => exact .inr (.inl hb)
    | some b =>
      refine .inr (.inr ?_)
      rw [ha, hb]
      intro e1
      injection e1 with e1
      have := (hu.lt b hb).2
      omega
def psiLv13 (b : Nat) (q : Nat) (n : Nat) (c : Nat) (kq : Nat) (sv : Value) (py : Int) (pn : Int) (qy : Int) (qn : Int) : Nat → Value → World → Prop
  | 0, v9, _ => v9 = sv
  | 1, v9, _ => v9 = .slice (some ⟨b, q, none⟩) n c
  | 2, v9, _ => v9 = .int .i64 (kq : Int)
  | 3, v9, _ => v9 = .pointer (some ⟨b, q + kq * 5, none⟩)
  | 4, v9, _ => v9 = .pointer (some ⟨b, q + kq * 5, none⟩)
  | 5, v9, _ => v9 = .agg #[.int .u8 py, .int .i64 pn]
  | 6, v9, _ => v9 = .slice (some ⟨b, q, none⟩) n c
  | 7, v9, _ => v9 = .int .i64 (kq : Int)
  | 8, v9, _ => v9 = .pointer (some ⟨b, q + kq * 5, none⟩)
  | 9, v9, _ => v9 = .pointer (some ⟨b, q + kq * 5 + 2, none⟩)
  | 10, v9, _ => v9 = .agg #[.int .u8 qy, .int .i64 qn]
  | 11, v9, w9 => ∃ g, v9 = .slice (some ⟨g, 0, none⟩) 2 2 ∧ g < w9.heap.size ∧ w9.heap[g]? = some (.cells #[.int .u8 py, .int .i64 pn, .int .u8 qy, .int .i64 qn] 35 (0, 0))
  | _, _, _ => True
theorem psiLv13_stab (b : Nat) (q : Nat) (n : Nat) (c : Nat) (kq : Nat) (sv : Value) (py : Int) (pn : Int) (qy : Int) (qn : Int) (i9 : Nat) (v9 : Value) (w9 w9' : World) (h : psiLv13 b q n c kq sv py pn qy qn i9 v9 w9) (_hb : Below w9.heap.size w9 w9') : psiLv13 b q n c kq sv py pn qy qn i9 v9 w9' := by
  match i9, h with
  | 0, h => exact h
  | 1, h => exact h
  | 2, h => exact h
  | 3, h => exact h
  | 4, h => exact h
  | 5, h => exact h
  | 6, h => exact h
  | 7, h => exact h
  | 8, h => exact h
  | 9, h => exact h
  | 10, h => exact h
  | 11, h => exact (by obtain ⟨g, h1, h2, h3⟩ := h; exact ⟨g, h1, Nat.lt_of_lt_of_le h2 _hb.size, (_hb.block g h2).trans h3⟩)
  | i9 + 12, _ => exact trivial
def psiLv14 (b : Nat) (q : Nat) (n : Nat) (c : Nat) (kq : Nat) (sv : Value) (py : Int) (pn : Int) (qy : Int) (qn : Int) : Nat → Value → World → Prop
  | 0, v9, _ => v9 = sv
  | 1, v9, _ => v9 = .slice (some ⟨b, q, none⟩) n c
  | 2, v9, _ => v9 = .int .i64 (kq : Int)
  | 3, v9, _ => v9 = .pointer (some ⟨b, q + kq * 5, none⟩)
  | 4, v9, _ => v9 = .pointer (some ⟨b, q + kq * 5, none⟩)
  | 5, v9, _ => v9 = .agg #[.int .u8 py, .int .i64 pn]
  | 6, v9, _ => v9 = .slice (some ⟨b, q, none⟩) n c
  | 7, v9, _ => v9 = .int .i64 (kq : Int)
  | 8, v9, _ => v9 = .pointer (some ⟨b, q + kq * 5, none⟩)
  | 9, v9, _ => v9 = .pointer (some ⟨b, q + kq * 5 + 2, none⟩)
  | 10, v9, _ => v9 = .agg #[.int .u8 qy, .int .i64 qn]
  | 11, v9, w9 => ∃ g, v9 = .slice (some ⟨g, 0, none⟩) 2 2 ∧ g < w9.heap.size ∧ w9.heap[g]? = some (.cells #[.int .u8 py, .int .i64 pn, .int .u8 qy, .int .i64 qn] 35 (0, 0))
  | _, _, _ => True
theorem psiLv14_stab (b : Nat) (q : Nat) (n : Nat) (c : Nat) (kq : Nat) (sv : Value) (py : Int) (pn : Int) (qy : Int) (qn : Int) (i9 : Nat) (v9 : Value) (w9 w9' : World) (h : psiLv14 b q n c kq sv py pn qy qn i9 v9 w9) (_hb : Below w9.heap.size w9 w9') : psiLv14 b q n c kq sv py pn qy qn i9 v9 w9' := by
  match i9, h with
  | 0, h => exact h
  | 1, h => exact h
  | 2, h => exact h
  | 3, h => exact h
  | 4, h => exact h
  | 5, h => exact h
  | 6, h => exact h
  | 7, h => exact h
  | 8, h => exact h
  | 9, h => exact h
  | 10, h => exact h
  | 11, h => exact (by obtain ⟨g, h1, h2, h3⟩ := h; exact ⟨g, h1, Nat.lt_of_lt_of_le h2 _hb.size, (_hb.block g h2).trans h3⟩)
  | i9 + 12, _ => exact trivial
set_option maxRecDepth 100000 in
set_option maxHeartbeats 4000000 in
theorem lives_any (w : World) (hs : Stp w) : Calls Tryd.prog 11 #[] w fun e w' => e = .returned (.bool true) ∧ Below w.heap.size w w' := by
  go_enter Tryd.func11, Tryd.ntmps11
  go_upto_region 9 with (first
    | (go_at_call 25; refine (example_any _).mono ?_; rintro e w1 ⟨d, rfl, hr, hd, hb1⟩; have HL0 := Lib.hid (fun (W : World) (hb : Below w1.heap.size w1 W) => ex_list0 d w1.heap.size W hb.size (hd.below hb) hr); have HL1 := Lib.hid (fun (W : World) (hb : Below w1.heap.size w1 W) => ex_list1 d w1.heap.size W hb.size (hd.below hb) hr); have HS := Lib.hid (fun (W : World) (hb : Below w1.heap.size w1 W) => hs.below (hb1.trans (hb.mono hb1.size)) hs.lt); have HS0 := Lib.hid (fun (W : World) (hb : Below w1.heap.size w1 W) => ex_step0 d w1.heap.size W hb.size (hd.below hb) hr (HS.out W hb)); have HS1 := Lib.hid (fun (W : World) (hb : Below w1.heap.size w1 W) => ex_step1 d w1.heap.size W hb.size (hd.below hb) hr (HS.out W hb)); have HS4 := Lib.hid (fun (W : World) (hb : Below w1.heap.size w1 W) => ex_step4 d w1.heap.size W hb.size (hd.below hb) hr (HS.out W hb)); have HM := Lib.hid (fun (p : Int) (m : List Pa) (n : Nat) (hp : Int.tmod p 2 ≠ 0) (hm : meetsM exL0 p 1 = m) (hn : m.length = n) (W : World) (hb : Below w1.heap.size w1 W) => ex_meets d w1.heap.size W hb.size (hd.below hb) hr (HS.out W hb) p m n hp hm hn); have HB1 := Lib.hid hb1; clear hr hd hb1 hs HS; obtain ⟨⟨fa, fs, fc⟩, ⟨ba, bs, bc⟩⟩ := d; simp only [Bds.v, Bed.v] at HL0 HL1 HS0 HS1 HS4 HM ⊢; have bx := Boxed2.new w1 26 (.slice fa fs.length fc) (.slice ba bs.length bc); have hb0 := below1 w1 (.cells #[.slice fa fs.length fc, .slice ba bs.length bc] 26); obtain ⟨w2, hw2⟩ : ∃ w2, w1.alloc (.cells #[.slice fa fs.length fc, .slice ba bs.length bc] 26) = w2 := ⟨_, rfl⟩; rw [hw2] at bx hb0; have HBX := Lib.hid (fun (W : World) (hb : Below w2.heap.size w2 W) => bx.below hb bx.lt); have HB := Lib.hid (Below.refl w2.heap.size w2); have HB0 := Lib.hid hb0; have x0 := bx.cell0; have x1 := bx.cell1; have HUP := Lib.hid (fun (W : World) (hb : Below w2.heap.size w2 W) => HB0.out.trans (hb.mono HB0.out.size)); clear bx hb0)
    | (go_at_call 10; refine (HL0.out _ (HUP.out _ HB.out)).mono ?_; rintro e w3 ⟨al, rfl, HLa, hb⟩; clear HL0; replace HB := Lib.hid (HB.out.trans (hb.mono HB.out.size)); clear x0 x1; have x0 := (HBX.out _ HB.out).cell0; have x1 := (HBX.out _ HB.out).cell1; (try replace HLa := Lib.hid (HLa.out.below hb)); (try replace HLb := Lib.hid (HLb.out.below hb)); (try replace HLr := Lib.hid (HLr.out.below hb)); (try replace HLs := Lib.hid (HLs.out.below hb)); clear hb)
    | (go_at_call 10; refine (HL1.out _ (HUP.out _ HB.out)).mono ?_; rintro e w3 ⟨am, rfl, HLb, hb⟩; clear HL1; replace HB := Lib.hid (HB.out.trans (hb.mono HB.out.size)); clear x0 x1; have x0 := (HBX.out _ HB.out).cell0; have x1 := (HBX.out _ HB.out).cell1; (try replace HLa := Lib.hid (HLa.out.below hb)); (try replace HLb := Lib.hid (HLb.out.below hb)); (try replace HLr := Lib.hid (HLr.out.below hb)); (try replace HLs := Lib.hid (HLs.out.below hb)); clear hb)
    | (go_at_call 16; refine (HS0.out _ (HUP.out _ HB.out)).mono ?_; rintro e w3 ⟨br, rfl, HLr, hb⟩; clear HS0; replace HB := Lib.hid (HB.out.trans (hb.mono HB.out.size)); clear x0 x1; have x0 := (HBX.out _ HB.out).cell0; have x1 := (HBX.out _ HB.out).cell1; (try replace HLa := Lib.hid (HLa.out.below hb)); (try replace HLb := Lib.hid (HLb.out.below hb)); (try replace HLr := Lib.hid (HLr.out.below hb)); (try replace HLs := Lib.hid (HLs.out.below hb)); clear hb)
    | (go_at_call 16; refine (HS1.out _ (HUP.out _ HB.out)).mono ?_; rintro e w3 ⟨bq, rfl, HLs, hb⟩; clear HS1; replace HB := Lib.hid (HB.out.trans (hb.mono HB.out.size)); clear x0 x1; have x0 := (HBX.out _ HB.out).cell0; have x1 := (HBX.out _ HB.out).cell1; (try replace HLa := Lib.hid (HLa.out.below hb)); (try replace HLb := Lib.hid (HLb.out.below hb)); (try replace HLr := Lib.hid (HLr.out.below hb)); (try replace HLs := Lib.hid (HLs.out.below hb)); clear hb)
    | (go_at_call 16; refine (HS4.out _ (HUP.out _ HB.out)).mono ?_; rintro e w3 ⟨rfl, hb⟩; clear HS4; have HT0 := Lib.hid True.intro; replace HB := Lib.hid (HB.out.trans (hb.mono HB.out.size)); clear x0 x1; have x0 := (HBX.out _ HB.out).cell0; have x1 := (HBX.out _ HB.out).cell1; (try replace HLa := Lib.hid (HLa.out.below hb)); (try replace HLb := Lib.hid (HLb.out.below hb)); (try replace HLr := Lib.hid (HLr.out.below hb)); (try replace HLs := Lib.hid (HLs.out.below hb)); clear hb)
    | (go_at_call 27; have HQ := HT0; refine (ex_ids exL0 5 rfl (by decide) al 5 _ HLa.out).mono ?_; rintro e w3 ⟨ai, ci, rfl, HI, hb⟩; clear HT0 HQ; have HT1 := Lib.hid True.intro; replace HB := Lib.hid (HB.out.trans (hb.mono HB.out.size)); clear x0 x1; have x0 := (HBX.out _ HB.out).cell0; have x1 := (HBX.out _ HB.out).cell1; (try replace HLa := Lib.hid (HLa.out.below hb)); (try replace HLb := Lib.hid (HLb.out.below hb)); (try replace HLr := Lib.hid (HLr.out.below hb)); (try replace HLs := Lib.hid (HLs.out.below hb)); clear hb)
    | (go_at_call 26; have HQ := HT1; refine (ex_text (exL0.map (·.id)) 5 _ rfl tx_ex0 ai ci _ HI.out).mono ?_; rintro e w3 ⟨rfl, hb⟩; clear HT1 HQ HI; have HT2 := Lib.hid True.intro; replace HB := Lib.hid (HB.out.trans (hb.mono HB.out.size)); clear x0 x1; have x0 := (HBX.out _ HB.out).cell0; have x1 := (HBX.out _ HB.out).cell1; (try replace HLa := Lib.hid (HLa.out.below hb)); (try replace HLb := Lib.hid (HLb.out.below hb)); (try replace HLr := Lib.hid (HLr.out.below hb)); (try replace HLs := Lib.hid (HLs.out.below hb)); clear hb)
    | (go_at_call 27; have HQ := HT2; refine (ex_ids exL1 5 rfl (by decide) am 5 _ HLb.out).mono ?_; rintro e w3 ⟨aj, cj, rfl, HI, hb⟩; clear HT2 HQ; have HT3 := Lib.hid True.intro; replace HB := Lib.hid (HB.out.trans (hb.mono HB.out.size)); clear x0 x1; have x0 := (HBX.out _ HB.out).cell0; have x1 := (HBX.out _ HB.out).cell1; (try replace HLa := Lib.hid (HLa.out.below hb)); (try replace HLb := Lib.hid (HLb.out.below hb)); (try replace HLr := Lib.hid (HLr.out.below hb)); (try replace HLs := Lib.hid (HLs.out.below hb)); clear hb)
    | (go_at_call 26; have HQ := HT3; refine (ex_text (exL1.map (·.id)) 5 _ rfl tx_ex1 aj cj _ HI.out).mono ?_; rintro e w5 ⟨rfl, hb⟩; clear HT3 HQ HI; replace HB := Lib.hid (HB.out.trans (hb.mono HB.out.size)); clear x0 x1; have x0 := (HBX.out _ HB.out).cell0; have x1 := (HBX.out _ HB.out).cell1; (try replace HLa := Lib.hid (HLa.out.below hb)); (try replace HLb := Lib.hid (HLb.out.below hb)); (try replace HLr := Lib.hid (HLr.out.below hb)); (try replace HLs := Lib.hid (HLs.out.below hb)); clear hb))
  go_wp2_with fail
  go_loopg [12, 13, 14] 5 (fun g v12 v13 s14 wr => ∃ i : Nat, s14 = .int .i64 i ∧ i ≤ 4 ∧ g = 5 - i ∧ Hid (wr.ownsRow w5.heap.size 35 2 v12 (xsT exC0 i).length (rcells Nm.enc (xsT exC0 i))) ∧ Hid (wr.ownsRow w5.heap.size 35 2 v13 (xsT exC1 i).length (rcells Nm.enc (xsT exC1 i))) ∧ Hid (Apart v12 v13) ∧ RowKit.Below w5.heap.size w5 wr)
  case atStart => exact ⟨0, rfl, by omega, by omega, Lib.hid (World.ownsRow_nil _ _ _ _), Lib.hid (World.ownsRow_nil _ _ _ _), Lib.hid (.inl rfl), Below.refl _ _⟩
  case round =>
    clear x0 x1
    obtain ⟨i, rfl, hi, hg, HOx, HOy, HNE, hbr⟩ := hrel
    have HG := Lib.hid hg
    clear hg
    by_cases hlt : i < 4
    · have hiz : (i : Int) < 4 := by omega
      have hlt0 : i < exC0.length := hlt
      have hlt1 : i < exC1.length := hlt
      obtain ⟨x, hx, hst, hbl, c0, c1, c2, c3, c4⟩ := (HLr.out.below hbr).cxs hlt0
      have hsx : x.s = -1 := exC0_s x hx
      obtain ⟨⟨py, pn⟩, ⟨qy, qn⟩, sg⟩ := x
      simp only at c0 c1 c2 c3 c4 hst hsx
      subst hsx
      have HST := Lib.hid hst
      have HP0 : Hid (∀ {W : World}, RowKit.Below wr.heap.size wr W → W.cell? ⟨br, 0 + i * 5, none⟩ = some (.int .u8 py)) := Lib.hid fun h => (h.cell (p := ⟨br, 0 + i * 5, none⟩) hbl).trans c0
      have HP1 : Hid (∀ {W : World}, RowKit.Below wr.heap.size wr W → W.cell? ⟨br, 0 + i * 5 + 1, none⟩ = some (.int .i64 pn)) := Lib.hid fun h => (h.cell (p := ⟨br, 0 + i * 5 + 1, none⟩) hbl).trans c1
      have HP2 : Hid (∀ {W : World}, RowKit.Below wr.heap.size wr W → W.cell? ⟨br, 0 + i * 5 + 2, none⟩ = some (.int .u8 qy)) := Lib.hid fun h => (h.cell (p := ⟨br, 0 + i * 5 + 2, none⟩) hbl).trans c2
      have HP3 : Hid (∀ {W : World}, RowKit.Below wr.heap.size wr W → W.cell? ⟨br, 0 + i * 5 + 2 + 1, none⟩ = some (.int .i64 qn)) := Lib.hid fun h => (h.cell (p := ⟨br, 0 + i * 5 + 2 + 1, none⟩) hbl).trans c3
      have HKN := Lib.hid hlt
      have hls := Lib.hid (xsT_len exC0 i)
      clear hst hx c0 c1 c2 c3 c4
      go_upto_region 13 with fail
      refine rgT2s 12 12 [some 88, some 89, some 90, some 91, some 92, some 93, some 94, some 95, some 96, some 97, some 98, some 99, some 100, some 12] (psiLv13 br 0 4 4 i u12 py pn qy qn) (fun w' => RowKit.Below wr.heap.size wr w') (by kernel_rfl) (by kernel_rfl) (by kernel_rfl) (by kernel_rfl) (by kernel_rfl) (psiLv13_stab br 0 4 4 i u12 py pn qy qn) (fun _ _ h hb => h.trans (hb.mono h.size)) (fun i9 o9 hi9 ho9 aq9 w1 hs hout hold hI hdep => ?_) ?_ ((Below.refl _ _).drew)
      · skip
        match i9, hi9, ho9 with
        | 0, _, ho9 =>
          obtain rfl := Option.some.inj ho9
          refine .inl ⟨rfl, fun K hK => ?_⟩
          exact st_move rfl (hold.trans rfl) (hK _ _ (Below.refl _ _) rfl)
        | 1, _, ho9 =>
          obtain rfl := Option.some.inj ho9
          refine .inl ⟨rfl, fun K hK => ?_⟩
          exact st_move rfl ((hout 6 rfl).trans rfl) (hK _ _ (Below.refl _ _) rfl)
        | 2, _, ho9 =>
          obtain rfl := Option.some.inj ho9
          refine .inl ⟨rfl, fun K hK => ?_⟩
          exact st_move rfl ((hout 14 rfl).trans rfl) (hK _ _ (Below.refl _ _) rfl)
        | 3, _, ho9 =>
          obtain rfl := Option.some.inj ho9
          have dq1 : (aq9.tmps.getD 89 undef) = .slice (some ⟨br, 0, none⟩) 4 4 := hdep ⟨1, .data⟩ (by simp) rfl _ rfl
          have dq2 : (aq9.tmps.getD 90 undef) = .int .i64 (i : Int) := hdep ⟨2, .data⟩ (by simp) rfl _ rfl
          refine .inl ⟨rfl, fun K hK => ?_⟩
          exact st_idx51 (k := i) rfl dq1 dq2 HKN.out (hK _ _ (Below.refl _ _) rfl)
        | 4, _, ho9 =>
          obtain rfl := Option.some.inj ho9
          have dq3 : (aq9.tmps.getD 91 undef) = .pointer (some ⟨br, 0 + i * 5, none⟩) := hdep ⟨3, .data⟩ (by simp) rfl _ rfl
          refine .inl ⟨rfl, fun K hK => ?_⟩
          exact fa55_0 rfl dq3 (hK _ _ (Below.refl _ _) rfl)
        | 5, _, ho9 =>
          obtain rfl := Option.some.inj ho9
          have dq4 : (aq9.tmps.getD 92 undef) = .pointer (some ⟨br, 0 + i * 5, none⟩) := hdep ⟨4, .data⟩ (by simp) rfl _ rfl
          refine .inl ⟨rfl, fun K hK => ?_⟩
          exact ld28 rfl dq4 (HP0.out hI) (HP1.out hI) (hK _ _ (Below.refl _ _) rfl)
        | 6, _, ho9 =>
          obtain rfl := Option.some.inj ho9
          refine .inl ⟨rfl, fun K hK => ?_⟩
          exact st_move rfl ((hout 6 rfl).trans rfl) (hK _ _ (Below.refl _ _) rfl)
        | 7, _, ho9 =>
          obtain rfl := Option.some.inj ho9
          refine .inl ⟨rfl, fun K hK => ?_⟩
          exact st_move rfl ((hout 14 rfl).trans rfl) (hK _ _ (Below.refl _ _) rfl)
        | 8, _, ho9 =>
          obtain rfl := Option.some.inj ho9
          have dq6 : (aq9.tmps.getD 94 undef) = .slice (some ⟨br, 0, none⟩) 4 4 := hdep ⟨6, .data⟩ (by simp) rfl _ rfl
          have dq7 : (aq9.tmps.getD 95 undef) = .int .i64 (i : Int) := hdep ⟨7, .data⟩ (by simp) rfl _ rfl
          refine .inl ⟨rfl, fun K hK => ?_⟩
          exact st_idx51 (k := i) rfl dq6 dq7 HKN.out (hK _ _ (Below.refl _ _) rfl)
        | 9, _, ho9 =>
          obtain rfl := Option.some.inj ho9
          have dq8 : (aq9.tmps.getD 96 undef) = .pointer (some ⟨br, 0 + i * 5, none⟩) := hdep ⟨8, .data⟩ (by simp) rfl _ rfl
          refine .inl ⟨rfl, fun K hK => ?_⟩
          exact fa55_1 rfl dq8 (hK _ _ (Below.refl _ _) rfl)
        | 10, _, ho9 =>
          obtain rfl := Option.some.inj ho9
          have dq9 : (aq9.tmps.getD 97 undef) = .pointer (some ⟨br, 0 + i * 5 + 2, none⟩) := hdep ⟨9, .data⟩ (by simp) rfl _ rfl
          refine .inl ⟨rfl, fun K hK => ?_⟩
          exact ld28 rfl dq9 (HP2.out hI) (HP3.out hI) (hK _ _ (Below.refl _ _) rfl)
        | 11, _, ho9 =>
          obtain rfl := Option.some.inj ho9
          have dq5 : (aq9.tmps.getD 93 undef) = .agg #[.int .u8 py, .int .i64 pn] := hdep ⟨5, .data⟩ (by simp) rfl _ rfl
          have dq10 : (aq9.tmps.getD 98 undef) = .agg #[.int .u8 qy, .int .i64 qn] := hdep ⟨10, .data⟩ (by simp) rfl _ rfl
          refine .inl ⟨rfl, fun K hK => ?_⟩
          exact st_bsI2 ⟨py, pn⟩ ⟨qy, qn⟩ rfl dq5 dq10 (hK _ _ (below1 _ _) ⟨_, rfl, by simp, heap_alloc_new _ _⟩)
        | i9 + 12, hi9, _ => exact absurd hi9 (by omega)
      · intro a2 w2 hs hd hout hold hI hall
        obtain ⟨tmps, defers⟩ := a2
        have e_88 : (tmps.getD 88 undef) = u12 := hall 0 _ (by decide) rfl
        have e_99 : ∃ g, (tmps.getD 99 undef) = .slice (some ⟨g, 0, none⟩) 2 2 ∧ g < w2.heap.size ∧ w2.heap[g]? = some (.cells #[.int .u8 py, .int .i64 pn, .int .u8 qy, .int .i64 qn] 35 (0, 0)) := hall 11 _ (by decide) rfl
        obtain ⟨gq99, e_99, hgq1, hgq2⟩ := e_99
        simp only at hs hd hout
        have ef := frameAt [some 88, some 89, some 90, some 91, some 92, some 93, some 94, some 95, some 96, some 97, some 98, some 99, some 100, some 12] _ tmps hs hout
        obtain ⟨sv13, hu⟩ : ∃ u : Nat → Value, u = fun s => tmps.getD s undef := ⟨_, rfl⟩
        have eu_88 : sv13 88 = u12 := by rw [hu]; exact e_88
        have eu_99 : sv13 99 = .slice (some ⟨gq99, 0, none⟩) 2 2 := by rw [hu]; exact e_99
        rw [← hu] at ef
        have ef2 : tmps = #[u0, Value.pointer (some { block := w1.heap.size, off := 0 }), Value.slice al 5 5, Value.int IntKind.i64 0, Value.slice am 5 5, Value.int IntKind.i64 0, Value.slice (some { block := br, off := 0 }) 4 4, Value.int IntKind.i64 0, Value.slice (some { block := bq, off := 0 }) 4 4, Value.int IntKind.i64 0, Value.slice none 0 0, Value.int IntKind.i64 11, (sv13 12), u13, Value.int IntKind.i64 i, undef, undef, undef, Value.agg #[Value.slice fa fs.length fc, Value.slice ba bs.length bc], Value.tuple #[Value.slice al 5 5, Value.int IntKind.i64 0], Value.agg #[Value.slice fa fs.length fc, Value.slice ba bs.length bc], Value.tuple #[Value.slice al 5 5, Value.int IntKind.i64 0], Value.slice al 5 5, Value.int IntKind.i64 0, Value.tuple #[Value.slice am 5 5, Value.int IntKind.i64 0], Value.agg #[Value.slice fa fs.length fc, Value.slice ba bs.length bc], Value.tuple #[Value.slice am 5 5, Value.int IntKind.i64 0], Value.slice am 5 5, Value.int IntKind.i64 0, Value.tuple #[Value.slice (some { block := br, off := 0 }) 4 4, Value.int IntKind.i64 0], Value.agg #[Value.slice fa fs.length fc, Value.slice ba bs.length bc], Value.tuple #[Value.slice (some { block := br, off := 0 }) 4 4, Value.int IntKind.i64 0], Value.slice (some { block := br, off := 0 }) 4 4, Value.int IntKind.i64 0, Value.tuple #[Value.slice (some { block := bq, off := 0 }) 4 4, Value.int IntKind.i64 0], Value.agg #[Value.slice fa fs.length fc, Value.slice ba bs.length bc], Value.tuple #[Value.slice (some { block := bq, off := 0 }) 4 4, Value.int IntKind.i64 0], Value.slice (some { block := bq, off := 0 }) 4 4, Value.int IntKind.i64 0, Value.tuple #[Value.slice none 0 0, Value.int IntKind.i64 11], Value.agg #[Value.slice fa fs.length fc, Value.slice ba bs.length bc], Value.tuple #[Value.slice none 0 0, Value.int IntKind.i64 11], Value.slice none 0 0, Value.int IntKind.i64 11, Value.int IntKind.i64 0, Value.bool false, Value.bool false, Value.int IntKind.i64 0, Value.bool false, Value.bool false, Value.bool false, Value.int IntKind.i64 0, Value.bool false, Value.bool false, Value.bool false, Value.int IntKind.i64 0, Value.bool false, Value.bool false, Value.bool false, Value.int IntKind.i64 11, Value.bool false, Value.bool false, Value.bool false, Value.slice al 5 5, Value.slice ai 5 ci, Value.string { data := #[50, 46, 48, 32, 50, 46, 49, 32, 49, 46, 48, 32, 49, 46, 49, 32, 50, 46, 50, 32] }, Value.bool false, Value.bool false, Value.bool false, Value.slice am 5 5, Value.slice aj 5 cj, Value.string { data := #[49, 46, 48, 32, 49, 46, 49, 32, 50, 46, 48, 32, 50, 46, 49, 32, 50, 46, 50, 32] }, Value.bool false, Value.bool false, Value.bool false, Value.slice (some { block := br, off := 0 }) 4 4, Value.int IntKind.i64 4, Value.bool false, Value.bool false, Value.bool false, Value.slice (some { block := bq, off := 0 }) 4 4, Value.int IntKind.i64 4, Value.bool false, Value.bool false, Value.int IntKind.i64 i, Value.bool true, u86, u87, (sv13 88), (sv13 89), (sv13 90), (sv13 91), (sv13 92), (sv13 93), (sv13 94), (sv13 95), (sv13 96), (sv13 97), (sv13 98), (sv13 99), (sv13 100), u101, u102, u103, u104, u105, u106, u107, u108, u109, u110, u111, u112, u113, u114, u115, u116, u117, u118, u119, u120, u121, u122, u123, u124, u125, u126, u127, undef, undef, undef, undef, undef, undef, undef, undef, undef, undef, undef, undef, undef, undef, undef, undef, undef, undef, undef, undef, undef, undef, undef, undef, undef, undef, undef, undef, undef, undef, undef, undef, undef, undef, undef, undef, undef, undef, undef, undef, undef, undef, undef, undef, undef, undef, undef, undef, undef, undef, undef, undef, undef, undef, undef, undef, undef, undef, undef, undef, undef, undef] := ef
        subst hd
        rw [eu_88, eu_99] at ef2
        rw [ef2]
        clear ef ef2 hu hs hout hall e_88 eu_88 e_99 eu_99
        simp only [List.drop_succ_cons, List.drop_zero]
        have hbi := hbr.trans (hI.mono hbr.size)
        refine wpList_app_rec2 kdNm (v := u12) (l := xsT exC0 i) (x := ⟨py, pn⟩) (y := ⟨qy, qn⟩) rfl rfl rfl rfl (below_owns HOx.out hI) (ids_row hgq2) (by have := hls.out; have : exC0.length = 4 := rfl; omega) hbi.size ?_
        intro v4 w4 hw4 hg4 hat4
        have hOy4 := (below_owns HOy.out hI).kept hg4 HNE.out.kept
        have HNE4 := Lib.hid (HNE.out.grown hat4 (below_owns HOy.out hI))
        have hb4 : RowKit.Below w5.heap.size w5 w4 := hbi.grown hg4 hbi.size (fun g e => (HOx.out.lt g e).1)
        have HOx4 := Lib.hid hw4
        have HOy4 := Lib.hid hOy4
        rw [← HST.out] at HOx4
        obtain ⟨x, hx, hst, hbl, c0, c1, c2, c3, c4⟩ := (HLs.out.below hb4).cxs hlt1
        have hsx : x.s = 1 := exC1_s x hx
        obtain ⟨⟨ey, en⟩, ⟨fy, fn⟩, sg⟩ := x
        simp only at c0 c1 c2 c3 c4 hst hsx
        subst hsx
        clear HP0 HP1 HP2 HP3 HST hw4 hg4 hat4 hOy4 hgq1 hgq2 hI HOx HOy HNE hls
        have HST := Lib.hid hst
        have HP0 : Hid (∀ {W : World}, RowKit.Below w4.heap.size w4 W → W.cell? ⟨bq, 0 + i * 5, none⟩ = some (.int .u8 ey)) := Lib.hid fun h => (h.cell (p := ⟨bq, 0 + i * 5, none⟩) hbl).trans c0
        have HP1 : Hid (∀ {W : World}, RowKit.Below w4.heap.size w4 W → W.cell? ⟨bq, 0 + i * 5 + 1, none⟩ = some (.int .i64 en)) := Lib.hid fun h => (h.cell (p := ⟨bq, 0 + i * 5 + 1, none⟩) hbl).trans c1
        have HP2 : Hid (∀ {W : World}, RowKit.Below w4.heap.size w4 W → W.cell? ⟨bq, 0 + i * 5 + 2, none⟩ = some (.int .u8 fy)) := Lib.hid fun h => (h.cell (p := ⟨bq, 0 + i * 5 + 2, none⟩) hbl).trans c2
        have HP3 : Hid (∀ {W : World}, RowKit.Below w4.heap.size w4 W → W.cell? ⟨bq, 0 + i * 5 + 2 + 1, none⟩ = some (.int .i64 fn)) := Lib.hid fun h => (h.cell (p := ⟨bq, 0 + i * 5 + 2 + 1, none⟩) hbl).trans c3
        have hls := Lib.hid (xsT_len exC1 i)
        clear hst hx c0 c1 c2 c3 c4
        go_upto_region 14 with fail
        refine rgT2s 13 12 [some 101, some 102, some 103, some 104, some 105, some 106, some 107, some 108, some 109, some 110, some 111, some 112, some 113, some 13] (psiLv14 bq 0 4 4 i u13 ey en fy fn) (fun w' => RowKit.Below w4.heap.size w4 w') (by kernel_rfl) (by kernel_rfl) (by kernel_rfl) (by kernel_rfl) (by kernel_rfl) (psiLv14_stab bq 0 4 4 i u13 ey en fy fn) (fun _ _ h hb => h.trans (hb.mono h.size)) (fun i9 o9 hi9 ho9 aq9 w1 hs hout hold hI hdep => ?_) ?_ ((Below.refl _ _).drew)
        · skip
          match i9, hi9, ho9 with
          | 0, _, ho9 =>
            obtain rfl := Option.some.inj ho9
            refine .inl ⟨rfl, fun K hK => ?_⟩
            exact st_move rfl (hold.trans rfl) (hK _ _ (Below.refl _ _) rfl)
          | 1, _, ho9 =>
            obtain rfl := Option.some.inj ho9
            refine .inl ⟨rfl, fun K hK => ?_⟩
            exact st_move rfl ((hout 8 rfl).trans rfl) (hK _ _ (Below.refl _ _) rfl)
          | 2, _, ho9 =>
            obtain rfl := Option.some.inj ho9
            refine .inl ⟨rfl, fun K hK => ?_⟩
            exact st_move rfl ((hout 14 rfl).trans rfl) (hK _ _ (Below.refl _ _) rfl)
          | 3, _, ho9 =>
            obtain rfl := Option.some.inj ho9
            have dq1 : (aq9.tmps.getD 102 undef) = .slice (some ⟨bq, 0, none⟩) 4 4 := hdep ⟨1, .data⟩ (by simp) rfl _ rfl
            have dq2 : (aq9.tmps.getD 103 undef) = .int .i64 (i : Int) := hdep ⟨2, .data⟩ (by simp) rfl _ rfl
            refine .inl ⟨rfl, fun K hK => ?_⟩
            exact st_idx51 (k := i) rfl dq1 dq2 HKN.out (hK _ _ (Below.refl _ _) rfl)
          | 4, _, ho9 =>
            obtain rfl := Option.some.inj ho9
            have dq3 : (aq9.tmps.getD 104 undef) = .pointer (some ⟨bq, 0 + i * 5, none⟩) := hdep ⟨3, .data⟩ (by simp) rfl _ rfl
            refine .inl ⟨rfl, fun K hK => ?_⟩
            exact fa55_0 rfl dq3 (hK _ _ (Below.refl _ _) rfl)
          | 5, _, ho9 =>
            obtain rfl := Option.some.inj ho9
            have dq4 : (aq9.tmps.getD 105 undef) = .pointer (some ⟨bq, 0 + i * 5, none⟩) := hdep ⟨4, .data⟩ (by simp) rfl _ rfl
            refine .inl ⟨rfl, fun K hK => ?_⟩
            exact ld28 rfl dq4 (HP0.out hI) (HP1.out hI) (hK _ _ (Below.refl _ _) rfl)
          | 6, _, ho9 =>
            obtain rfl := Option.some.inj ho9
            refine .inl ⟨rfl, fun K hK => ?_⟩
            exact st_move rfl ((hout 8 rfl).trans rfl) (hK _ _ (Below.refl _ _) rfl)
          | 7, _, ho9 =>
            obtain rfl := Option.some.inj ho9
            refine .inl ⟨rfl, fun K hK => ?_⟩
            exact st_move rfl ((hout 14 rfl).trans rfl) (hK _ _ (Below.refl _ _) rfl)
          | 8, _, ho9 =>
            obtain rfl := Option.some.inj ho9
            have dq6 : (aq9.tmps.getD 107 undef) = .slice (some ⟨bq, 0, none⟩) 4 4 := hdep ⟨6, .data⟩ (by simp) rfl _ rfl
            have dq7 : (aq9.tmps.getD 108 undef) = .int .i64 (i : Int) := hdep ⟨7, .data⟩ (by simp) rfl _ rfl
            refine .inl ⟨rfl, fun K hK => ?_⟩
            exact st_idx51 (k := i) rfl dq6 dq7 HKN.out (hK _ _ (Below.refl _ _) rfl)
          | 9, _, ho9 =>
            obtain rfl := Option.some.inj ho9
            have dq8 : (aq9.tmps.getD 109 undef) = .pointer (some ⟨bq, 0 + i * 5, none⟩) := hdep ⟨8, .data⟩ (by simp) rfl _ rfl
            refine .inl ⟨rfl, fun K hK => ?_⟩
            exact fa55_1 rfl dq8 (hK _ _ (Below.refl _ _) rfl)
          | 10, _, ho9 =>
            obtain rfl := Option.some.inj ho9
            have dq9 : (aq9.tmps.getD 110 undef) = .pointer (some ⟨bq, 0 + i * 5 + 2, none⟩) := hdep ⟨9, .data⟩ (by simp) rfl _ rfl
            refine .inl ⟨rfl, fun K hK => ?_⟩
            exact ld28 rfl dq9 (HP2.out hI) (HP3.out hI) (hK _ _ (Below.refl _ _) rfl)
          | 11, _, ho9 =>
            obtain rfl := Option.some.inj ho9
            have dq5 : (aq9.tmps.getD 106 undef) = .agg #[.int .u8 ey, .int .i64 en] := hdep ⟨5, .data⟩ (by simp) rfl _ rfl
            have dq10 : (aq9.tmps.getD 111 undef) = .agg #[.int .u8 fy, .int .i64 fn] := hdep ⟨10, .data⟩ (by simp) rfl _ rfl
            refine .inl ⟨rfl, fun K hK => ?_⟩
            exact st_bsI2 ⟨ey, en⟩ ⟨fy, fn⟩ rfl dq5 dq10 (hK _ _ (below1 _ _) ⟨_, rfl, by simp, heap_alloc_new _ _⟩)
          | i9 + 12, hi9, _ => exact absurd hi9 (by omega)
        · intro a2 w2 hs hd hout hold hI hall
          obtain ⟨tmps, defers⟩ := a2
          have e_101 : (tmps.getD 101 undef) = u13 := hall 0 _ (by decide) rfl
          have e_112 : ∃ g, (tmps.getD 112 undef) = .slice (some ⟨g, 0, none⟩) 2 2 ∧ g < w2.heap.size ∧ w2.heap[g]? = some (.cells #[.int .u8 ey, .int .i64 en, .int .u8 fy, .int .i64 fn] 35 (0, 0)) := hall 11 _ (by decide) rfl
          obtain ⟨gq112, e_112, hgq1, hgq2⟩ := e_112
          simp only at hs hd hout
          have ef := frameAt [some 101, some 102, some 103, some 104, some 105, some 106, some 107, some 108, some 109, some 110, some 111, some 112, some 113, some 13] _ tmps hs hout
          obtain ⟨sv14, hu⟩ : ∃ u : Nat → Value, u = fun s => tmps.getD s undef := ⟨_, rfl⟩
          have eu_101 : sv14 101 = u13 := by rw [hu]; exact e_101
          have eu_112 : sv14 112 = .slice (some ⟨gq112, 0, none⟩) 2 2 := by rw [hu]; exact e_112
          rw [← hu] at ef
          have ef2 : tmps = #[u0, Value.pointer (some { block := w1.heap.size, off := 0 }), Value.slice al 5 5, Value.int IntKind.i64 0, Value.slice am 5 5, Value.int IntKind.i64 0, Value.slice (some { block := br, off := 0 }) 4 4, Value.int IntKind.i64 0, Value.slice (some { block := bq, off := 0 }) 4 4, Value.int IntKind.i64 0, Value.slice none 0 0, Value.int IntKind.i64 11, v4, (sv14 13), Value.int IntKind.i64 i, undef, undef, undef, Value.agg #[Value.slice fa fs.length fc, Value.slice ba bs.length bc], Value.tuple #[Value.slice al 5 5, Value.int IntKind.i64 0], Value.agg #[Value.slice fa fs.length fc, Value.slice ba bs.length bc], Value.tuple #[Value.slice al 5 5, Value.int IntKind.i64 0], Value.slice al 5 5, Value.int IntKind.i64 0, Value.tuple #[Value.slice am 5 5, Value.int IntKind.i64 0], Value.agg #[Value.slice fa fs.length fc, Value.slice ba bs.length bc], Value.tuple #[Value.slice am 5 5, Value.int IntKind.i64 0], Value.slice am 5 5, Value.int IntKind.i64 0, Value.tuple #[Value.slice (some { block := br, off := 0 }) 4 4, Value.int IntKind.i64 0], Value.agg #[Value.slice fa fs.length fc, Value.slice ba bs.length bc], Value.tuple #[Value.slice (some { block := br, off := 0 }) 4 4, Value.int IntKind.i64 0], Value.slice (some { block := br, off := 0 }) 4 4, Value.int IntKind.i64 0, Value.tuple #[Value.slice (some { block := bq, off := 0 }) 4 4, Value.int IntKind.i64 0], Value.agg #[Value.slice fa fs.length fc, Value.slice ba bs.length bc], Value.tuple #[Value.slice (some { block := bq, off := 0 }) 4 4, Value.int IntKind.i64 0], Value.slice (some { block := bq, off := 0 }) 4 4, Value.int IntKind.i64 0, Value.tuple #[Value.slice none 0 0, Value.int IntKind.i64 11], Value.agg #[Value.slice fa fs.length fc, Value.slice ba bs.length bc], Value.tuple #[Value.slice none 0 0, Value.int IntKind.i64 11], Value.slice none 0 0, Value.int IntKind.i64 11, Value.int IntKind.i64 0, Value.bool false, Value.bool false, Value.int IntKind.i64 0, Value.bool false, Value.bool false, Value.bool false, Value.int IntKind.i64 0, Value.bool false, Value.bool false, Value.bool false, Value.int IntKind.i64 0, Value.bool false, Value.bool false, Value.bool false, Value.int IntKind.i64 11, Value.bool false, Value.bool false, Value.bool false, Value.slice al 5 5, Value.slice ai 5 ci, Value.string { data := #[50, 46, 48, 32, 50, 46, 49, 32, 49, 46, 48, 32, 49, 46, 49, 32, 50, 46, 50, 32] }, Value.bool false, Value.bool false, Value.bool false, Value.slice am 5 5, Value.slice aj 5 cj, Value.string { data := #[49, 46, 48, 32, 49, 46, 49, 32, 50, 46, 48, 32, 50, 46, 49, 32, 50, 46, 50, 32] }, Value.bool false, Value.bool false, Value.bool false, Value.slice (some { block := br, off := 0 }) 4 4, Value.int IntKind.i64 4, Value.bool false, Value.bool false, Value.bool false, Value.slice (some { block := bq, off := 0 }) 4 4, Value.int IntKind.i64 4, Value.bool false, Value.bool false, Value.int IntKind.i64 i, Value.bool true, u86, u87, u12, sv13 89, sv13 90, sv13 91, sv13 92, sv13 93, sv13 94, sv13 95, sv13 96, sv13 97, sv13 98, Value.slice (some { block := gq99, off := 0 }) 2 2, v4, (sv14 101), (sv14 102), (sv14 103), (sv14 104), (sv14 105), (sv14 106), (sv14 107), (sv14 108), (sv14 109), (sv14 110), (sv14 111), (sv14 112), (sv14 113), u114, u115, u116, u117, u118, u119, u120, u121, u122, u123, u124, u125, u126, u127, undef, undef, undef, undef, undef, undef, undef, undef, undef, undef, undef, undef, undef, undef, undef, undef, undef, undef, undef, undef, undef, undef, undef, undef, undef, undef, undef, undef, undef, undef, undef, undef, undef, undef, undef, undef, undef, undef, undef, undef, undef, undef, undef, undef, undef, undef, undef, undef, undef, undef, undef, undef, undef, undef, undef, undef, undef, undef, undef, undef, undef, undef] := ef
          subst hd
          rw [eu_101, eu_112] at ef2
          rw [ef2]
          clear ef ef2 hu hs hout hall e_101 eu_101 e_112 eu_112
          simp only [List.drop_succ_cons, List.drop_zero]
          have hbj := hb4.trans (hI.mono hb4.size)
          refine wpList_app_rec2 kdNm (v := u13) (l := xsT exC1 i) (x := ⟨ey, en⟩) (y := ⟨fy, fn⟩) rfl rfl rfl rfl (below_owns HOy4.out hI) (ids_row hgq2) (by have := hls.out; have : exC1.length = 4 := rfl; omega) hbj.size ?_
          intro v6 w6 hw6 hg6 hat6
          have hOx6 := (below_owns HOx4.out hI).kept hg6 HNE4.out.symm.kept
          have HNE6 := Lib.hid (HNE4.out.symm.grown hat6 (below_owns HOx4.out hI)).symm
          have hb6 : RowKit.Below w5.heap.size w5 w6 := hbj.grown hg6 hbj.size (fun g e => (HOy4.out.lt g e).1)
          have HOy6 := Lib.hid hw6
          have HOx6 := Lib.hid hOx6
          rw [← HST.out] at HOy6
          obtain ⟨x1, hx1, -, -, -, -, -, -, k4⟩ := (HLr.out.below hb6).cxs hlt0
          obtain ⟨x2, hx2, -, -, -, -, -, -, j4⟩ := (HLs.out.below hb6).cxs hlt1
          rw [exC0_s _ hx1, Nat.zero_add] at k4
          rw [exC1_s _ hx2, Nat.zero_add] at j4
          clear hx1 hx2
          clear HP0 HP1 HP2 HP3 HST hw6 hg6 hat6 hOx6 hgq1 hgq2 hI
          go_wp2_with fail
          go_roundg (5 - (i + 1))
          case measure => have := HG.out; omega
          case rel => exact ⟨i + 1, by go_num, by omega, by omega, HOx6, HOy6, HNE6, hb6⟩
    · obtain rfl : i = 4 := by omega
      obtain ⟨cx, rfl, ex1, -, HX⟩ := ok_of_owns HOx.out (by decide)
      obtain ⟨cy, rfl, ey1, -, HY⟩ := ok_of_owns HOy.out (by decide)
      obtain ⟨xa, xl, xc⟩ := cx
      obtain ⟨ya, yl, yc⟩ := cy
      simp only at ex1 ey1
      subst ex1 ey1
      have HX2 := Lib.hid HX
      have HY2 := Lib.hid HY
      replace HLa := Lib.hid (HLa.out.below hbr)
      replace HB := Lib.hid (HB.out.trans (hbr.mono HB.out.size))
      have HLX := Lib.hid (show (xsT exC0 4).length = 8 from rfl)
      have HLY := Lib.hid (show (xsT exC1 4).length = 8 from rfl)
      have x0 := (HBX.out _ HB.out).cell0
      have x1 := (HBX.out _ HB.out).cell1
      have HT0 := Lib.hid True.intro
      clear HX HY HOx HOy HNE hbr HG HLb HLr HLs
      simp only [Cel.v, HLX.out, HLY.out]
      go_wp2_with (first
        | (go_at_call 26; have HQ := HT0; refine (ex_text (xsT exC0 4) 8 _ HLX.out tx_x xa xc _ HX2.out).mono ?_; rintro e w7 ⟨rfl, hb⟩; clear HT0 HQ HX2; have HT1 := Lib.hid True.intro; replace HY2 := Lib.hid ((HY2.out.below hb).mono hb.size); replace HB := Lib.hid (HB.out.trans (hb.mono HB.out.size)); clear x0 x1; have x0 := (HBX.out _ HB.out).cell0; have x1 := (HBX.out _ HB.out).cell1; (try replace HLa := Lib.hid (HLa.out.below hb)); (try replace HLb := Lib.hid (HLb.out.below hb)); (try replace HLr := Lib.hid (HLr.out.below hb)); (try replace HLs := Lib.hid (HLs.out.below hb)); (try replace HLp := Lib.hid (HLp.out.below hb)); (try replace HLq := Lib.hid (HLq.out.below hb)); clear hb)
        | (go_at_call 26; have HQ := HT1; refine (ex_text (xsT exC1 4) 8 _ HLY.out tx_y ya yc _ HY2.out).mono ?_; rintro e w7 ⟨rfl, hb⟩; clear HT1 HQ HY2; have HT2 := Lib.hid True.intro; replace HB := Lib.hid (HB.out.trans (hb.mono HB.out.size)); clear x0 x1; have x0 := (HBX.out _ HB.out).cell0; have x1 := (HBX.out _ HB.out).cell1; (try replace HLa := Lib.hid (HLa.out.below hb)); (try replace HLb := Lib.hid (HLb.out.below hb)); (try replace HLr := Lib.hid (HLr.out.below hb)); (try replace HLs := Lib.hid (HLs.out.below hb)); (try replace HLp := Lib.hid (HLp.out.below hb)); (try replace HLq := Lib.hid (HLq.out.below hb)); clear hb)
        | (go_at_call 13; have HQ := HT2; refine (ex_btw al 5 (-13) 11 _ HLa.out exP1 4 btw_ex1 rfl).mono ?_; rintro e w7 ⟨ap, rfl, HLp, hb⟩; clear HT2 HQ; have HT3 := Lib.hid True.intro; replace HB := Lib.hid (HB.out.trans (hb.mono HB.out.size)); clear x0 x1; have x0 := (HBX.out _ HB.out).cell0; have x1 := (HBX.out _ HB.out).cell1; (try replace HLa := Lib.hid (HLa.out.below hb)); (try replace HLb := Lib.hid (HLb.out.below hb)); (try replace HLr := Lib.hid (HLr.out.below hb)); (try replace HLs := Lib.hid (HLs.out.below hb)); (try replace HLp := Lib.hid (HLp.out.below hb)); (try replace HLq := Lib.hid (HLq.out.below hb)); clear hb)
        | (go_at_call 13; have HQ := HT3; refine (ex_btw al 5 11 9 _ HLa.out exP2 2 btw_ex2 rfl).mono ?_; rintro e w7 ⟨aq, rfl, HLq, hb⟩; clear HT3 HQ; have HT4 := Lib.hid True.intro; replace HB := Lib.hid (HB.out.trans (hb.mono HB.out.size)); clear x0 x1; have x0 := (HBX.out _ HB.out).cell0; have x1 := (HBX.out _ HB.out).cell1; (try replace HLa := Lib.hid (HLa.out.below hb)); (try replace HLb := Lib.hid (HLb.out.below hb)); (try replace HLr := Lib.hid (HLr.out.below hb)); (try replace HLs := Lib.hid (HLs.out.below hb)); (try replace HLp := Lib.hid (HLp.out.below hb)); (try replace HLq := Lib.hid (HLq.out.below hb)); clear hb)
        | (go_at_call 14; have HQ := HT4; refine (ex_passed exP1 4 _ rfl ps_ex1 (by decide) (by decide) ap 4 _ HLp.out).mono ?_; rintro e w7 ⟨rfl, hb⟩; clear HT4 HQ HLp; have HT5 := Lib.hid True.intro; replace HB := Lib.hid (HB.out.trans (hb.mono HB.out.size)); clear x0 x1; have x0 := (HBX.out _ HB.out).cell0; have x1 := (HBX.out _ HB.out).cell1; (try replace HLa := Lib.hid (HLa.out.below hb)); (try replace HLb := Lib.hid (HLb.out.below hb)); (try replace HLr := Lib.hid (HLr.out.below hb)); (try replace HLs := Lib.hid (HLs.out.below hb)); (try replace HLp := Lib.hid (HLp.out.below hb)); (try replace HLq := Lib.hid (HLq.out.below hb)); clear hb)
        | (go_at_call 14; have HQ := HT5; refine (ex_passed exP2 2 _ rfl ps_ex2 (by decide) (by decide) aq 2 _ HLq.out).mono ?_; rintro e w7 ⟨rfl, hb⟩; clear HT5 HQ HLq; have HT6 := Lib.hid True.intro; replace HB := Lib.hid (HB.out.trans (hb.mono HB.out.size)); clear x0 x1; have x0 := (HBX.out _ HB.out).cell0; have x1 := (HBX.out _ HB.out).cell1; (try replace HLa := Lib.hid (HLa.out.below hb)); (try replace HLb := Lib.hid (HLb.out.below hb)); (try replace HLr := Lib.hid (HLr.out.below hb)); (try replace HLs := Lib.hid (HLs.out.below hb)); (try replace HLp := Lib.hid (HLp.out.below hb)); (try replace HLq := Lib.hid (HLq.out.below hb)); clear hb)
        | (go_at_call 17; have HQ := HT6; refine (HM.out 9 exP3 2 (by decide) meet_ex1 rfl _ (HUP.out _ HB.out)).mono ?_; rintro e w7 ⟨ar, rfl, HLp, hb⟩; clear HT6 HQ; have HT7 := Lib.hid True.intro; replace HB := Lib.hid (HB.out.trans (hb.mono HB.out.size)); clear x0 x1; have x0 := (HBX.out _ HB.out).cell0; have x1 := (HBX.out _ HB.out).cell1; (try replace HLa := Lib.hid (HLa.out.below hb)); (try replace HLb := Lib.hid (HLb.out.below hb)); (try replace HLr := Lib.hid (HLr.out.below hb)); (try replace HLs := Lib.hid (HLs.out.below hb)); (try replace HLp := Lib.hid (HLp.out.below hb)); (try replace HLq := Lib.hid (HLq.out.below hb)); clear hb)
        | (go_at_call 17; have HQ := HT7; refine (HM.out 11 exP3 2 (by decide) meet_ex2 rfl _ (HUP.out _ HB.out)).mono ?_; rintro e w7 ⟨at9, rfl, HLq, hb⟩; clear HT7 HQ; have HT8 := Lib.hid True.intro; replace HB := Lib.hid (HB.out.trans (hb.mono HB.out.size)); clear x0 x1; have x0 := (HBX.out _ HB.out).cell0; have x1 := (HBX.out _ HB.out).cell1; (try replace HLa := Lib.hid (HLa.out.below hb)); (try replace HLb := Lib.hid (HLb.out.below hb)); (try replace HLr := Lib.hid (HLr.out.below hb)); (try replace HLs := Lib.hid (HLs.out.below hb)); (try replace HLp := Lib.hid (HLp.out.below hb)); (try replace HLq := Lib.hid (HLq.out.below hb)); clear hb)
        | (go_at_call 17; have HQ := HT8; refine (HM.out 13 [] 0 (by decide) meet_ex3 rfl _ (HUP.out _ HB.out)).mono ?_; rintro e w7 ⟨au, rfl, _, hb⟩; clear HT8 HQ; have HT9 := Lib.hid True.intro; replace HB := Lib.hid (HB.out.trans (hb.mono HB.out.size)); clear x0 x1; have x0 := (HBX.out _ HB.out).cell0; have x1 := (HBX.out _ HB.out).cell1; (try replace HLa := Lib.hid (HLa.out.below hb)); (try replace HLb := Lib.hid (HLb.out.below hb)); (try replace HLr := Lib.hid (HLr.out.below hb)); (try replace HLs := Lib.hid (HLs.out.below hb)); (try replace HLp := Lib.hid (HLp.out.below hb)); (try replace HLq := Lib.hid (HLq.out.below hb)); clear hb)
        | (go_at_call 14; have HQ := HT9; refine (ex_passed exP3 2 _ rfl ps_ex3 (by decide) (by decide) ar 2 _ HLp.out).mono ?_; rintro e w7 ⟨rfl, hb⟩; clear HT9 HQ; have HT10 := Lib.hid True.intro; replace HB := Lib.hid (HB.out.trans (hb.mono HB.out.size)); clear x0 x1; have x0 := (HBX.out _ HB.out).cell0; have x1 := (HBX.out _ HB.out).cell1; (try replace HLa := Lib.hid (HLa.out.below hb)); (try replace HLb := Lib.hid (HLb.out.below hb)); (try replace HLr := Lib.hid (HLr.out.below hb)); (try replace HLs := Lib.hid (HLs.out.below hb)); (try replace HLp := Lib.hid (HLp.out.below hb)); (try replace HLq := Lib.hid (HLq.out.below hb)); clear hb)
        | (go_at_call 14; have HQ := HT10; refine (ex_passed exP3 2 _ rfl ps_ex3 (by decide) (by decide) at9 2 _ HLq.out).mono ?_; rintro e w7 ⟨rfl, hb⟩; clear HT10 HQ; have HT11 := Lib.hid True.intro; replace HB := Lib.hid (HB.out.trans (hb.mono HB.out.size)); clear x0 x1; have x0 := (HBX.out _ HB.out).cell0; have x1 := (HBX.out _ HB.out).cell1; (try replace HLa := Lib.hid (HLa.out.below hb)); (try replace HLb := Lib.hid (HLb.out.below hb)); (try replace HLr := Lib.hid (HLr.out.below hb)); (try replace HLs := Lib.hid (HLs.out.below hb)); (try replace HLp := Lib.hid (HLp.out.below hb)); (try replace HLq := Lib.hid (HLq.out.below hb)); clear hb)
        | (go_at_call 14; have HQ := HT11; refine (ex_passed exP3 2 _ rfl ps_ex3 (by decide) (by decide) ar 2 _ HLp.out).mono ?_; rintro e w7 ⟨rfl, hb⟩; clear HT11 HQ; replace HB := Lib.hid (HB.out.trans (hb.mono HB.out.size)); clear x0 x1; have x0 := (HBX.out _ HB.out).cell0; have x1 := (HBX.out _ HB.out).cell1; (try replace HLa := Lib.hid (HLa.out.below hb)); (try replace HLb := Lib.hid (HLb.out.below hb)); (try replace HLr := Lib.hid (HLr.out.below hb)); (try replace HLs := Lib.hid (HLs.out.below hb)); (try replace HLp := Lib.hid (HLp.out.below hb)); (try replace HLq := Lib.hid (HLq.out.below hb)); clear hb))
      go_ret
      exact ⟨rfl, HB1.out.trans ((HUP.out _ HB.out).mono HB1.out.size)⟩
end Go.Proofs.YtjjnhmbgffdenaaDoor
