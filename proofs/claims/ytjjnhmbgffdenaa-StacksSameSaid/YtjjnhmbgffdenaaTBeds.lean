import Derived.Test.YtjjnhmbgffdenaaShort
namespace Go.Proofs.Ytjjnhmbgffdenaa
open Go.RowKit Go.Sort

/-- Beds that are short, of a table. -/
def ShortOf (cs : List Cel) (bd : Bds) : Prop := ∃ nf nb, shortN (cs.take 40) nf ∧ shortN (cs.drop 40) nb ∧ bd.f.cs = (cs.take 40).take nf ∧ bd.b.cs = (cs.drop 40).take nb ∧ bd.f.cap = bd.f.cs.length ∧ bd.b.cap = bd.b.cs.length
/-- The call returns the short beds of a table. -/
def NewBeds (cs : List Cel) (w : World) (e : Ending) (w' : World) : Prop := ∃ bd : Bds, e = .returned bd.v ∧ Hid (ShortOf cs bd ∧ bd.ok w'.heap.size w' ∧ (∀ b o, bd.f.ao = some ⟨b, o, none⟩ → w.heap.size ≤ b) ∧ ∀ b o, bd.b.ao = some ⟨b, o, none⟩ → w.heap.size ≤ b) ∧ Below w.heap.size w w'
/-- Half of a table as a bed. -/
theorem half_ok {w : World} {BT t : Nat} {cs : List Cel} (hT : Tab w BT t cs) (hF : Fine w cs) (k : Nat) (hk : k < 2) : Bed.ok w.heap.size w ⟨some ⟨BT, k * 40, none⟩, (cs.drop (k * 40)).take 40, 40⟩ := by
  refine ⟨by simp only [List.length_take, List.length_drop]; omega, fun c hc => (hF c (List.mem_of_mem_drop (List.mem_of_mem_take hc))).2, .inr ⟨BT, k * 40, rfl, hT.lt, fun i c hc => ?_⟩⟩
  simp only at hc
  rw [List.getElem?_take] at hc
  split at hc
  · rename_i hi
    rw [List.getElem?_drop] at hc
    obtain ⟨h1, rfl⟩ := List.getElem?_eq_some_iff.1 hc
    exact hT.cell (by omega)
  · cases hc

def psiTB (BT : Nat) (BR : Nat) (cs : List Cel) : Nat → Value → World → Prop
  | 0, v9, _ => v9 = .pointer (some ⟨BT, 0, none⟩)
  | 1, v9, _ => v9 = .pointer (some ⟨BT, 0, none⟩)
  | 2, v9, _ => v9 = .pointer (some ⟨BT, 0, none⟩)
  | 3, v9, _ => v9 = .slice (some ⟨BT, 0, none⟩) 40 40
  | 4, v9, w9 => ∃ (n : Nat) (d2 : Bed), v9 = d2.v ∧ shortN (cs.take 40) n ∧ d2.cs = (cs.take 40).take n ∧ d2.cap = d2.cs.length ∧ d2.ok w9.heap.size w9 ∧ ∀ b o, d2.ao = some ⟨b, o, none⟩ → BR < b
  | 5, v9, _ => v9 = .pointer (some ⟨BT, 0, none⟩)
  | 6, v9, _ => v9 = .pointer (some ⟨BT, 0, none⟩)
  | 7, v9, _ => v9 = .pointer (some ⟨BT, 40, none⟩)
  | 8, v9, _ => v9 = .slice (some ⟨BT, 40, none⟩) 40 40
  | _, _, _ => True
theorem psiTB_stab (BT : Nat) (BR : Nat) (cs : List Cel) (i9 : Nat) (v9 : Value) (w9 w9' : World) (h : psiTB BT BR cs i9 v9 w9) (_hb : Below w9.heap.size w9 w9') : psiTB BT BR cs i9 v9 w9' := by
  match i9, h with
  | 0, h => exact h
  | 1, h => exact h
  | 2, h => exact h
  | 3, h => exact h
  | 4, h => exact (by obtain ⟨n, d2, h1, h2, h3, h4, h5, h6⟩ := h; exact ⟨n, d2, h1, h2, h3, h4, (h5.below _hb).mono _hb.size, h6⟩)
  | 5, h => exact h
  | 6, h => exact h
  | 7, h => exact h
  | 8, h => exact h
  | i9 + 9, _ => exact trivial

set_option maxRecDepth 100000 in
set_option maxHeartbeats 1000000 in
theorem tbeds_any (BT : Nat) (cs : List Cel) (w : World) (hT : Tab w BT 68 cs) (hF : Fine w cs) :
    Calls Try.prog 31 #[.pointer (some ⟨BT, 0, none⟩)] w (NewBeds cs w) := by
  have HT := Lib.hid hT
  have HF := Lib.hid hF
  have lT := hT.lt
  clear hT hF
  go_enter Try.func31, Try.ntmps31
  go_wp2_with fail
  obtain ⟨W0, hW0⟩ : ∃ W0, W0 = w.alloc (.cells #[.slice none 0 0, .slice none 0 0] 35) := ⟨_, rfl⟩
  have bR : Boxed2 W0 w.heap.size 35 (.slice none 0 0) (.slice none 0 0) := by rw [hW0]; exact Boxed2.new _ _ _ _
  have lR9 : Hid (w.heap.size < W0.heap.size) := Lib.hid bR.lt
  have hb0 : Below w.heap.size w W0 := by rw [hW0]; exact below1 _ _
  have HT0 : Hid (Tab W0 BT 68 cs) := Lib.hid (HT.out.below hb0 lT)
  have HF0 : Hid (Fine W0 cs) := Lib.hid (HF.out.below hb0)
  have HLc : Hid (cs.length = 80) := Lib.hid HT.out.2
  rw [← hW0]
  clear hW0
  have HS : Hid (∀ w1, Below W0.heap.size W0 w1 → ∀ k, k < 2 → Calls Try.prog 38 #[.slice (some ⟨BT, k * 40, none⟩) 40 40] w1 fun e w' => ∃ n, Hid (shortN ((cs.drop (k * 40)).take 40) n) ∧ NewBed (((cs.drop (k * 40)).take 40).take n) w1 e w') := Lib.hid fun w1 hI k hk => by
    have hlen : ((cs.drop (k * 40)).take 40).length = 40 := by rw [List.length_take, List.length_drop, HLc.out]; omega
    have := short_any ⟨some ⟨BT, k * 40, none⟩, (cs.drop (k * 40)).take 40, 40⟩ w1.heap.size w1 (Nat.le_refl _) (half_ok (HT0.out.below hI HT0.out.lt) (HF0.out.below hI) k hk) (by simp only [hlen]; omega) (by simp)
    simp only [Bed.v, hlen] at this
    exact this
  refine rgT2 9 [some 3, some 4, some 5, some 6, some 7, some 8, some 9, some 10, some 11, some 12, some 13, none] (psiTB BT w.heap.size cs) (fun w' => Below W0.heap.size W0 w') (by kernel_rfl) (by kernel_rfl) (by kernel_rfl) (by kernel_rfl) (psiTB_stab BT w.heap.size cs) (fun _ _ h hb => h.trans (hb.mono h.size)) (fun i9 o9 hi9 ho9 fa w1 hs hout hI hdep => ?_) ?_ ((Below.refl _ _).drew)
  · skip
    match i9, hi9, ho9 with
    | 0, _, ho9 =>
      obtain rfl := Option.some.inj ho9
      refine .inl ⟨rfl, fun K hK => ?_⟩
      exact st_move rfl ((hout 0 rfl).trans rfl) (hK _ _ (Below.refl _ _) rfl)
    | 1, _, ho9 =>
      obtain rfl := Option.some.inj ho9
      have q0 : (fa.tmps.getD 3 undef) = .pointer (some ⟨BT, 0, none⟩) := hdep ⟨0, .data⟩ (by simp) rfl _ rfl
      refine .inl ⟨rfl, fun K hK => ?_⟩
      exact st_nilCheck rfl q0 (hK _ _ (Below.refl _ _) rfl)
    | 2, _, ho9 =>
      obtain rfl := Option.some.inj ho9
      have q1 : (fa.tmps.getD 4 undef) = .pointer (some ⟨BT, 0, none⟩) := hdep ⟨1, .data⟩ (by simp) rfl _ rfl
      refine .inl ⟨rfl, fun K hK => ?_⟩
      exact st_idx68 (k := 0) rfl q1 rfl (by decide) (hK _ _ (Below.refl _ _) rfl)
    | 3, _, ho9 =>
      obtain rfl := Option.some.inj ho9
      have q2 : (fa.tmps.getD 5 undef) = .pointer (some ⟨BT, 0, none⟩) := hdep ⟨2, .data⟩ (by simp) rfl _ rfl
      refine .inl ⟨rfl, fun K hK => ?_⟩
      exact st_slice66 rfl q2 (hK _ _ (Below.refl _ _) rfl)
    | 4, _, ho9 =>
      obtain rfl := Option.some.inj ho9
      have q3 : (fa.tmps.getD 6 undef) = .slice (some ⟨BT, 0, none⟩) 40 40 := hdep ⟨3, .data⟩ (by simp) rfl _ rfl
      refine .inl ⟨rfl, fun K hK => ?_⟩
      exact step_calls rfl enter38 (vs := #[.slice (some ⟨BT, 0, none⟩) 40 40]) (vals1 q3) ((HS.out w1 hI 0 (by omega)).mono fun e w' hh => by
        obtain ⟨n, hn, d2, rfl, hd2, hb⟩ := hh
        exact ⟨_, rfl, hK _ _ hb ⟨n, d2, rfl, hn.out, hd2.out.1, by rw [hd2.out.2.1, hd2.out.1], hd2.out.2.2.1, fun b o h => by have := hd2.out.2.2.2 b o h; have := hI.size; have := lR9.out; omega⟩⟩)
    | 5, _, ho9 =>
      obtain rfl := Option.some.inj ho9
      refine .inl ⟨rfl, fun K hK => ?_⟩
      exact st_move rfl ((hout 0 rfl).trans rfl) (hK _ _ (Below.refl _ _) rfl)
    | 6, _, ho9 =>
      obtain rfl := Option.some.inj ho9
      have q5 : (fa.tmps.getD 8 undef) = .pointer (some ⟨BT, 0, none⟩) := hdep ⟨5, .data⟩ (by simp) rfl _ rfl
      refine .inl ⟨rfl, fun K hK => ?_⟩
      exact st_nilCheck rfl q5 (hK _ _ (Below.refl _ _) rfl)
    | 7, _, ho9 =>
      obtain rfl := Option.some.inj ho9
      have q6 : (fa.tmps.getD 9 undef) = .pointer (some ⟨BT, 0, none⟩) := hdep ⟨6, .data⟩ (by simp) rfl _ rfl
      refine .inl ⟨rfl, fun K hK => ?_⟩
      exact st_idx68 (k := 1) rfl q6 rfl (by decide) (hK _ _ (Below.refl _ _) rfl)
    | 8, _, ho9 =>
      obtain rfl := Option.some.inj ho9
      have q7 : (fa.tmps.getD 10 undef) = .pointer (some ⟨BT, 40, none⟩) := hdep ⟨7, .data⟩ (by simp) rfl _ rfl
      refine .inl ⟨rfl, fun K hK => ?_⟩
      exact st_slice66 rfl q7 (hK _ _ (Below.refl _ _) rfl)
    | i9 + 9, hi9, _ => exact absurd hi9 (by omega)
  · intro a2 w2 hs hd hout hI hall
    obtain ⟨tmps, defers⟩ := a2
    have e_7 : ∃ (n : Nat) (d2 : Bed), (tmps.getD 7 undef) = d2.v ∧ shortN (cs.take 40) n ∧ d2.cs = (cs.take 40).take n ∧ d2.cap = d2.cs.length ∧ d2.ok w2.heap.size w2 ∧ ∀ b o, d2.ao = some ⟨b, o, none⟩ → w.heap.size < b := hall 4 _ (by decide) rfl
    obtain ⟨n2, d2, e_7, hn2, hd2, hcap2, hok2, hnew2⟩ := e_7
    have e_11 : (tmps.getD 11 undef) = .slice (some ⟨BT, 40, none⟩) 40 40 := hall 8 _ (by decide) rfl
    simp only at hs hd hout
    have ef := frameAt [some 3, some 4, some 5, some 6, some 7, some 8, some 9, some 10, some 11, some 12, some 13, none] _ tmps hs hout
    obtain ⟨sv1, hu⟩ : ∃ u : Nat → Value, u = fun s => tmps.getD s undef := ⟨_, rfl⟩
    have eu_7 : sv1 7 = d2.v := by rw [hu]; exact e_7
    have eu_11 : sv1 11 = .slice (some ⟨BT, 40, none⟩) 40 40 := by rw [hu]; exact e_11
    rw [← hu] at ef
    have ef2 : tmps = #[.pointer (some ⟨BT, 0, none⟩), undef, .pointer (some ⟨w.heap.size, 0, none⟩), (sv1 3), (sv1 4), (sv1 5), (sv1 6), (sv1 7), (sv1 8), (sv1 9), (sv1 10), (sv1 11), (sv1 12), (sv1 13)] := ef
    subst hd
    rw [eu_7, eu_11] at ef2
    rw [ef2]
    clear ef ef2 hu hs hout hall e_7 eu_7 e_11 eu_11
    simp only [List.drop_succ_cons, List.drop_zero]
    have HN2 := Lib.hid hn2
    have HD2 := Lib.hid hd2
    have HC2 := Lib.hid hcap2
    clear hn2 hd2 hcap2
    obtain ⟨fa, fs, fc⟩ := d2
    have HS2 := Lib.hid (HS.out w2 hI 1 (by omega))
    have lR : w.heap.size < W0.heap.size := bR.lt
    have hI' := hI.size
    simp only [Bed.v]
    go_wp2_with (go_at_call 38; refine HS2.out.mono ?_; rintro e w3 ⟨n3, hn3, ⟨ba, bs, bc⟩, rfl, hd3, hb3⟩; simp only [Bed.v]; have bR3 := (bR.below hI lR).below hb3 (by omega); have hR3 := Lib.hid bR3; have r0 := bR3.cell0; have r1 := bR3.cell1; have fR := bR3.frozen)
    have bR4 := (bR3.set0 (.slice fa fs.length fc)).set1 (.slice ba bs.length bc)
    have r0' := bR4.cell0
    have r1' := bR4.cell1
    have hw2 : Below w.heap.size w w2 := hb0.trans (hI.mono hb0.size)
    have hw3 : Below w.heap.size w w3 := hw2.trans (hb3.mono hw2.size)
    have okF : Bed.ok w3.heap.size w3 ⟨fa, fs, fc⟩ := (hok2.below hb3).mono hb3.size
    have okB : Bed.ok w3.heap.size w3 ⟨ba, bs, bc⟩ := hd3.out.2.2.1
    have newF : ∀ b o, fa = some ⟨b, o, none⟩ → b ≠ w.heap.size := fun b o e => Nat.ne_of_gt (hnew2 b o e)
    have newB : ∀ b o, ba = some ⟨b, o, none⟩ → b ≠ w.heap.size := fun b o e => by
      have := hd3.out.2.2.2 b o e; omega
    have bR5 := bR3.set0 (.slice fa fs.length fc)
    have okF4 := (okF.set_box bR3 (isSl_mk _ _ _) (isSl_mk _ _ _) newF 0 (.slice fa fs.length fc)).set_box bR5 (isSl_mk _ _ _) (isSl_mk _ _ _) newF 1 (.slice ba bs.length bc)
    have okB4 := (okB.set_box bR3 (isSl_mk _ _ _) (isSl_mk _ _ _) newB 0 (.slice fa fs.length fc)).set_box bR5 (isSl_mk _ _ _) (isSl_mk _ _ _) newB 1 (.slice ba bs.length bc)
    refine bodyPost_ret (v := .agg #[.slice fa fs.length fc, .slice ba bs.length bc]) (by simp [results, Try.results31, go_sem, r0', r1']) rfl ⟨⟨⟨fa, fs, fc⟩, ⟨ba, bs, bc⟩⟩, rfl, Lib.hid ⟨⟨n2, n3, HN2.out, ?_, HD2.out, ?_, HC2.out, ?_⟩, ⟨okF4.mono (by simp), okB4.mono (by simp)⟩, fun b o e => Nat.le_of_lt (hnew2 b o e), fun b o e => by have := hd3.out.2.2.2 b o e; have := hw2.size; omega⟩, ?_⟩
    · have := hn3.out
      rwa [List.take_of_length_le (by rw [List.length_drop, HLc.out]; omega)] at this
    · have := hd3.out.1
      rwa [List.take_of_length_le (i := 40) (by rw [List.length_drop, HLc.out]; omega)] at this
    · have h1 := hd3.out.1
      have h2 := hd3.out.2.1
      simp only at h1 h2 ⊢
      rw [h2, ← h1]
    · exact (hw3.setCell (p := ⟨w.heap.size, 0, none⟩) (by simp) _).setCell (p := ⟨w.heap.size, 1, none⟩) (by simp) _
end Go.Proofs.Ytjjnhmbgffdenaa
