import Derived.Test.YtjjnhmbgffdenaaDoorGah
namespace Go.Proofs.YtjjnhmbgffdenaaDoor
open Go.RowKit Go.Sort


section
variable {o : Oper} {a : Act} {w : World} {K : Act → World → Prop} {Q : Exit → Act → World → Prop}
theorem step_append0 {s t : Tmp} {g : Nat} (hop : o.op = Op.call { callee := Callee.builtin Builtin.append, args := #[.tmp s, .tmp t], argTypes := #[61, 61] }) (hs : a.eval (.tmp s) = .slice (some ⟨g, 0, none⟩) 0 0)
    (hg : w.heap[g]? = some (.cells #[] 35 (0, 0))) (c : Cel) (hx : a.eval (.tmp t) = c.v) (hl : c.ok w.heap.size w) (hK : ∀ (c' : Cel) (w' : World), c'.l = c.l → c'.ok w'.heap.size w' → Below w.heap.size w w' → K (a.put o.dst c'.v) w') : o.wp Tryd.prog a w K Q := by
  obtain ⟨c', w', hr, h1, h2, h3⟩ := run_append_zero w o.type g hg c hl
  unfold Oper.wp execOp
  simp only [hop, resolve, invoke, builtin, Sem.run_bind, Sem.run_pure, Result.andThen_ok, List.map_toArray, List.map_cons, List.map_nil, hs, hx, hr]
  exact hK c' w' h1 h2 h3
end
theorem BedAt.bed {N : Nat} {w : World} {a : Option Addr} {ds : List Cel} (h : BedAt N w a ds) (hl : ds.length ≤ 40) (hok : ∀ c ∈ ds, c.ok w.heap.size w) (cap : Nat) : Bed.ok w.heap.size w ⟨a, ds, cap⟩ := by
  refine ⟨by simp only; omega, hok, ?_⟩
  rcases h with ⟨_, h⟩ | ⟨g, h1, h2, h3⟩
  · exact .inl h
  · refine .inr ⟨g, 0, h1, h3.lt, fun i c hc => ?_⟩
    obtain ⟨hi, rfl⟩ := List.getElem?_eq_some_iff.1 hc
    rw [Nat.zero_add]
    exact h3.cell hi
def Part (l : Nat → List Nm) (k n : Nat) : Prop := n ≤ 40 ∧ (∀ i, k ≤ i → n ≤ i → i < 40 → l i = []) ∧ (0 < n → k < n ∧ l (n - 1) ≠ [])
theorem Part.zero (l : Nat → List Nm) : Part l 40 0 := ⟨by omega, fun i h1 _ h2 => by omega, fun h => by omega⟩
theorem Part.new {l : Nat → List Nm} {i n : Nat} (h : Part l (i + 1) n) (hi : i < 40) (hn : n = 0) (hl : l i ≠ []) : Part l i (i + 1) := ⟨by omega, fun j h1 h2 h3 => h.2.1 j (by omega) (by omega) h3, fun _ => ⟨by omega, hl⟩⟩
theorem Part.skip {l : Nat → List Nm} {i n : Nat} (h : Part l (i + 1) n) (hn : n = 0) (hl : l i = []) : Part l i 0 := ⟨by omega, fun j h1 h2 h3 => by
  by_cases e : j = i
  · rw [e]; exact hl
  · exact h.2.1 j (by omega) (by omega) h3, fun h => by omega⟩
theorem Part.pos {l : Nat → List Nm} {i n : Nat} (h : Part l (i + 1) n) (hn : 0 < n) : Part l i n := ⟨h.1, fun j h1 h2 h3 => by
  have h4 := h.2.2 hn
  exact h.2.1 j (by omega) h2 h3, fun hn => ⟨by have := (h.2.2 hn).1; omega, (h.2.2 hn).2⟩⟩
/-- The call returns beds with these stacks. -/
def BdOf (T : List (List Nm)) (w : World) (e : Ending) (w' : World) : Prop := ∃ bd : Bds, e = .returned bd.v ∧ Hid (Reads T bd ∧ Tight bd ∧ bd.ok w'.heap.size w' ∧ (∀ b o, bd.f.ao = some ⟨b, o, none⟩ → w.heap.size ≤ b) ∧ ∀ b o, bd.b.ao = some ⟨b, o, none⟩ → w.heap.size ≤ b) ∧ Below w.heap.size w w'

def psiBd12 (N : Nat) (g9 : Nat) (j : Nat) (n9 : Nat) (xa : Option Addr) (xl : List Nm) (xc : Nat) : Nat → Value → World → Prop
  | 0, v9, _ => v9 = .pointer (some ⟨N + 1 + 1, 0, none⟩)
  | 1, v9, _ => v9 = .slice (some ⟨g9, 0, none⟩) n9 n9
  | 2, v9, _ => v9 = .int .i64 j
  | 3, v9, w9 => ∃ b, v9 = .slice (some ⟨b, 0, none⟩) 0 0 ∧ w9.heap[b]? = some (.cells #[] 35 (0, 0))
  | 4, v9, _ => v9 = .int .i64 j
  | 5, v9, _ => v9 = .pointer (some ⟨N, j, none⟩)
  | 6, v9, _ => v9 = .slice xa xl.length xc
  | 7, v9, w9 => ∃ c2 : Cel, v9 = c2.v ∧ c2.l = xl ∧ c2.ok w9.heap.size w9
  | _, _, _ => True
theorem psiBd12_stab (N : Nat) (g9 : Nat) (j : Nat) (n9 : Nat) (xa : Option Addr) (xl : List Nm) (xc : Nat) (i9 : Nat) (v9 : Value) (w9 w9' : World) (h : psiBd12 N g9 j n9 xa xl xc i9 v9 w9) (_hb : Below w9.heap.size w9 w9') : psiBd12 N g9 j n9 xa xl xc i9 v9 w9' := by
  match i9, h with
  | 0, h => exact h
  | 1, h => exact h
  | 2, h => exact h
  | 3, h => exact (by obtain ⟨b, h1, h2⟩ := h; exact ⟨b, h1, (_hb.block b (Array.getElem?_eq_some_iff.1 h2).1).trans h2⟩)
  | 4, h => exact h
  | 5, h => exact h
  | 6, h => exact h
  | 7, h => exact (by obtain ⟨c2, h1, h2, h3⟩ := h; exact ⟨c2, h1, h2, (h3.below _hb).mono _hb.size⟩)
  | i9 + 8, _ => exact trivial
def psiBd16 (N : Nat) (g9 : Nat) (j : Nat) (n9 : Nat) (xa : Option Addr) (xl : List Nm) (xc : Nat) (q9 : Nat) : Nat → Value → World → Prop
  | 0, v9, _ => v9 = .pointer (some ⟨N + 1 + 1, 1, none⟩)
  | 1, v9, _ => v9 = .slice (some ⟨g9, 0, none⟩) n9 n9
  | 2, v9, _ => v9 = .int .i64 j
  | 3, v9, w9 => ∃ b, v9 = .slice (some ⟨b, 0, none⟩) 0 0 ∧ w9.heap[b]? = some (.cells #[] 35 (0, 0))
  | 4, v9, _ => v9 = .int .i64 j
  | 5, v9, _ => v9 = .int .i64 q9
  | 6, v9, _ => v9 = .pointer (some ⟨N, q9, none⟩)
  | 7, v9, _ => v9 = .slice xa xl.length xc
  | 8, v9, w9 => ∃ c2 : Cel, v9 = c2.v ∧ c2.l = xl ∧ c2.ok w9.heap.size w9
  | _, _, _ => True
theorem psiBd16_stab (N : Nat) (g9 : Nat) (j : Nat) (n9 : Nat) (xa : Option Addr) (xl : List Nm) (xc : Nat) (q9 : Nat) (i9 : Nat) (v9 : Value) (w9 w9' : World) (h : psiBd16 N g9 j n9 xa xl xc q9 i9 v9 w9) (_hb : Below w9.heap.size w9 w9') : psiBd16 N g9 j n9 xa xl xc q9 i9 v9 w9' := by
  match i9, h with
  | 0, h => exact h
  | 1, h => exact h
  | 2, h => exact h
  | 3, h => exact (by obtain ⟨b, h1, h2⟩ := h; exact ⟨b, h1, (_hb.block b (Array.getElem?_eq_some_iff.1 h2).1).trans h2⟩)
  | 4, h => exact h
  | 5, h => exact h
  | 6, h => exact h
  | 7, h => exact h
  | 8, h => exact (by obtain ⟨c2, h1, h2, h3⟩ := h; exact ⟨c2, h1, h2, (h3.below _hb).mono _hb.size⟩)
  | i9 + 9, _ => exact trivial
set_option maxRecDepth 100000 in
set_option maxHeartbeats 4000000 in
theorem beds_any (cs : List Cel) (w : World) (hl : cs.length = 80) (hok : ∀ c ∈ cs, c.ok w.heap.size w) :
    Calls Tryd.prog 21 #[tabV cs] w (BdOf (cs.map fun c => c.l) w) := by
  have HLC := Lib.hid hl
  have HOK := Lib.hid hok
  obtain ⟨lF, hlF⟩ : ∃ lF : Nat → List Nm, lF = fun i => (cs.getD i Cel.nil).l := ⟨_, rfl⟩
  obtain ⟨lB, hlB⟩ : ∃ lB : Nat → List Nm, lB = fun i => (cs.getD (40 + i) Cel.nil).l := ⟨_, rfl⟩
  have HLF := Lib.hid hlF
  have HLB := Lib.hid hlB
  obtain ⟨T9, hT9⟩ : ∃ T9, T9 = cs.map fun c => c.l := ⟨_, rfl⟩
  rw [← hT9]
  have HT9 := Lib.hid hT9
  clear hl hok hlF hlB hT9
  obtain ⟨arr, harr⟩ : ∃ arr : Array Value, arr = (cs.map Cel.v).toArray := ⟨_, rfl⟩
  have HARR := Lib.hid harr
  rw [show tabV cs = .agg arr by rw [harr]; rfl]
  clear harr
  go_enter Tryd.func21, Tryd.ntmps21
  go_wp2_with fail
  obtain ⟨W0, hW0⟩ : ∃ W0, (((w.alloc (.cells arr 65)).alloc (.cells #[.slice none 0 0, .slice none 0 0] 26)).alloc (.cells #[.slice none 0 0, .slice none 0 0] 26)) = W0 := ⟨_, rfl⟩
  have hB0 : Below w.heap.size w W0 := by rw [← hW0]; exact below3 _ _ _ _
  have hM0 : Mk w.heap.size W0 cs none none [] [] := by
    have t : Tab (w.alloc (.cells arr 65)) w.heap.size 65 cs := ⟨by rw [HARR.out]; exact heap_alloc_new w _, HLC.out⟩
    have r := Boxed2.new (w.alloc (.cells arr 65)) 26 (.slice none 0 0) (.slice none 0 0)
    have b := Boxed2.new ((w.alloc (.cells arr 65)).alloc (.cells #[.slice none 0 0, .slice none 0 0] 26)) 26 (.slice none 0 0) (.slice none 0 0)
    have r2 := r.alloc (.cells #[.slice none 0 0, .slice none 0 0] 26)
    have t2 := (t.alloc (.cells #[.slice none 0 0, .slice none 0 0] 26)).alloc (.cells #[.slice none 0 0, .slice none 0 0] 26)
    rw [hW0] at b r2 t2
    simp only [World.size_alloc] at b r2
    exact ⟨t2, r2, b, .inl ⟨rfl, rfl⟩, .inl ⟨rfl, rfl⟩, (fun g g' e => by cases e), (fun c hc => ((HOK.out c hc).below hB0).mono hB0.size), (fun c hc => by cases hc), (fun c hc => by cases hc), by rw [← hW0]; simp⟩
  rw [hW0]
  clear hW0
  have HM0 := Lib.hid hM0
  clear hM0
  go_loopg [4] 40 (fun g i wr => ∃ (k nf nb : Nat) (fa ba : Option Addr), g = k ∧ k ≤ 40 ∧ i = .int .i64 ((k : Int) - 1) ∧ Hid (Mk w.heap.size wr cs fa ba (List.replicate nf Cel.nil) (List.replicate nb Cel.nil) ∧ Part lF k nf ∧ Part lB k nb) ∧ Below w.heap.size w wr)
  case atStart => exact ⟨40, 0, 0, none, none, rfl, by omega, rfl, Lib.hid ⟨HM0.out, Part.zero _, Part.zero _⟩, hB0⟩
  case round =>
    obtain ⟨k, nf, nb, fa, ba, hg, hk, rfl, hmk, hB1⟩ := hrel
    have HM := Lib.hid hg
    clear hg
    rcases Nat.eq_zero_or_pos k with hk0 | hk0
    · subst hk0
      go_wp2_with fail
      have HMK1 := Lib.hid hmk.out.1
      have HPF := Lib.hid hmk.out.2.1
      have HPB := Lib.hid hmk.out.2.2
      clear hmk HM hk
      go_loopg [5] (nf + 1) (fun g i wr => ∃ (j : Nat) (fs : List Cel), g = nf + 1 - j ∧ j ≤ nf ∧ i = .int .i64 j ∧ Hid (Mk w.heap.size wr cs fa ba fs (List.replicate nb Cel.nil) ∧ fs.length = nf ∧ ∀ j', j' < j → (fs.getD j' Cel.nil).l = lF j') ∧ Below w.heap.size w wr)
      case atStart => exact ⟨0, _, by omega, by omega, rfl, Lib.hid ⟨HMK1.out, by simp, fun j' h => by omega⟩, hB1⟩
      case round =>
        clear HMK1 hB1
        obtain ⟨j, fs, hg, hj, rfl, hmk, hB1⟩ := hrel
        have HM := Lib.hid hg
        clear hg
        have hm3 := hmk.out.1
        have b0 := hm3.box.cell0
        have b1 := hm3.box.cell1
        have hlen := hmk.out.2.1
        have bfz := hm3.box.frozen
        simp only [List.length_replicate] at b0 b1
        rw [hlen] at b0
        by_cases hlt : j < nf
        · obtain ⟨g9, rfl, hg9, hr9⟩ : ∃ g, fa = some ⟨g, 0, none⟩ ∧ w.heap.size + 3 ≤ g ∧ Row wr g fs := by
            rcases hm3.f with ⟨_, h⟩ | h
            · rw [h] at hlen; simp at hlen; omega
            · exact h
          have HJ := Lib.hid hmk.out.2.2
          have hj40 : j < 40 := by have := HPF.out.1; omega
          have hj80 : j < 80 := by omega
          obtain ⟨⟨xa, xl, xc⟩, hx⟩ : ∃ c : Cel, cs[j]? = some c := ⟨_, List.getElem?_eq_getElem (by rw [HLC.out]; exact hj80)⟩
          have HXL : Hid (lF j = xl) := Lib.hid (by rw [HLF.out]; simp only [List.getD_eq_getElem?_getD, hx]; rfl)
          have HTX : Hid (∀ {W : World}, Tab W w.heap.size 65 cs → W.cell? ⟨w.heap.size, j, none⟩ = some (.slice xa xl.length xc)) := Lib.hid fun h => by
            have := h.cell hj80
            rw [(List.getElem?_eq_some_iff.1 hx).2] at this
            exact this
          have HOX : Hid (Cel.ok wr.heap.size wr ⟨xa, xl, xc⟩) := Lib.hid (hm3.ok _ (List.mem_of_getElem? hx))
          clear hx
          have HBX : Hid (∀ {W : World}, Below wr.heap.size wr W → W.cell? ⟨w.heap.size + 1 + 1, 0, none⟩ = some (.slice (some ⟨g9, 0, none⟩) nf nf)) := Lib.hid fun h => by
            have := (hm3.below h).box.cell0
            rw [hlen] at this
            exact this
          have HMB : Hid (∀ {W : World}, Below wr.heap.size wr W → Tab W w.heap.size 65 cs) := Lib.hid fun h => (hm3.below h).tab
          have gj : (j : Int) < (nf : Int) := by omega
          go_wp2_with fail
          have hI8 : Below wr.heap.size wr { wr with drawn := wr.drawn + 1 } := (Below.refl _ _).drew
          refine rgT2 8 [some 49, some 50, some 51, some 52, some 53, some 54, some 55, some 56, some 57, none] (psiBd12 w.heap.size g9 j nf xa xl xc) (fun w' => Below wr.heap.size wr w') (by kernel_rfl) (by kernel_rfl) (by kernel_rfl) (by kernel_rfl) (psiBd12_stab w.heap.size g9 j nf xa xl xc) (fun _ _ h hb => h.trans (hb.mono h.size)) (fun i9 o9 hi9 ho9 aq9 w1 hs hout hI hdep => ?_) ?_ hI8
          · skip
            match i9, hi9, ho9 with
            | 0, _, ho9 =>
              obtain rfl := Option.some.inj ho9
              refine .inl ⟨rfl, fun K hK => ?_⟩
              exact fa35_0 rfl ((hout 3 rfl).trans rfl) (hK _ _ (Below.refl _ _) rfl)
            | 1, _, ho9 =>
              obtain rfl := Option.some.inj ho9
              have dq0 : (aq9.tmps.getD 49 undef) = .pointer (some ⟨w.heap.size + 1 + 1, 0, none⟩) := hdep ⟨0, .data⟩ (by simp) rfl _ rfl
              refine .inl ⟨rfl, fun K hK => ?_⟩
              exact ld33 rfl dq0 (HBX.out hI) (hK _ _ (Below.refl _ _) rfl)
            | 2, _, ho9 =>
              obtain rfl := Option.some.inj ho9
              refine .inl ⟨rfl, fun K hK => ?_⟩
              exact st_move rfl ((hout 5 rfl).trans rfl) (hK _ _ (Below.refl _ _) rfl)
            | 3, _, ho9 =>
              obtain rfl := Option.some.inj ho9
              refine .inl ⟨rfl, fun K hK => ?_⟩
              exact st_bs0 rfl (hK _ _ (below1 _ _) ⟨_, rfl, heap_alloc_new _ _⟩)
            | 4, _, ho9 =>
              obtain rfl := Option.some.inj ho9
              refine .inl ⟨rfl, fun K hK => ?_⟩
              exact st_move rfl ((hout 5 rfl).trans rfl) (hK _ _ (Below.refl _ _) rfl)
            | 5, _, ho9 =>
              obtain rfl := Option.some.inj ho9
              have dq4 : (aq9.tmps.getD 53 undef) = .int .i64 j := hdep ⟨4, .data⟩ (by simp) rfl _ rfl
              refine .inl ⟨rfl, fun K hK => ?_⟩
              exact st_idx31 (k := j) rfl ((hout 1 rfl).trans rfl) dq4 (by omega) (hK _ _ (Below.refl _ _) rfl)
            | 6, _, ho9 =>
              obtain rfl := Option.some.inj ho9
              have dq5 : (aq9.tmps.getD 54 undef) = .pointer (some ⟨w.heap.size, j, none⟩) := hdep ⟨5, .data⟩ (by simp) rfl _ rfl
              refine .inl ⟨rfl, fun K hK => ?_⟩
              exact ld29 rfl dq5 (HTX.out (HMB.out hI)) (hK _ _ (Below.refl _ _) rfl)
            | 7, _, ho9 =>
              obtain rfl := Option.some.inj ho9
              have dq3 : ∃ b, (aq9.tmps.getD 52 undef) = .slice (some ⟨b, 0, none⟩) 0 0 ∧ w1.heap[b]? = some (.cells #[] 35 (0, 0)) := hdep ⟨3, .data⟩ (by simp) rfl _ rfl
              have dq6 : (aq9.tmps.getD 55 undef) = .slice xa xl.length xc := hdep ⟨6, .data⟩ (by simp) rfl _ rfl
              refine .inl ⟨rfl, fun K hK => ?_⟩
              obtain ⟨b9, hv9, hb9⟩ := dq3
              exact step_append0 rfl hv9 hb9 ⟨xa, xl, xc⟩ dq6 (((HOX.out).below hI).mono hI.size) (fun c' w' h1 h2 h3 => hK _ _ h3 ⟨c', rfl, h1, h2⟩)
            | i9 + 8, hi9, _ => exact absurd hi9 (by omega)
          · intro a2 w2 hs hd hout hI hall
            obtain ⟨tmps, defers⟩ := a2
            have e_50 : (tmps.getD 50 undef) = .slice (some ⟨g9, 0, none⟩) nf nf := hall 1 _ (by decide) rfl
            have e_51 : (tmps.getD 51 undef) = .int .i64 j := hall 2 _ (by decide) rfl
            have e_56 : ∃ c2 : Cel, (tmps.getD 56 undef) = c2.v ∧ c2.l = xl ∧ c2.ok w2.heap.size w2 := hall 7 _ (by decide) rfl
            obtain ⟨c2, e_56, hl2, hok2⟩ := e_56
            simp only at hs hd hout
            have ef := frameAt [some 49, some 50, some 51, some 52, some 53, some 54, some 55, some 56, some 57, none] _ tmps hs hout
            obtain ⟨sv12, hu⟩ : ∃ u : Nat → Value, u = fun s => tmps.getD s undef := ⟨_, rfl⟩
            have eu_50 : sv12 50 = .slice (some ⟨g9, 0, none⟩) nf nf := by rw [hu]; exact e_50
            have eu_51 : sv12 51 = .int .i64 j := by rw [hu]; exact e_51
            have eu_56 : sv12 56 = c2.v := by rw [hu]; exact e_56
            rw [← hu] at ef
            have ef2 : tmps = #[Value.agg arr, Value.pointer (some { block := w.heap.size, off := 0 }), Value.pointer (some { block := w.heap.size + 1, off := 0 }), Value.pointer (some { block := w.heap.size + 1 + 1, off := 0 }), Value.int IntKind.i64 (0 - 1), Value.int IntKind.i64 j, undef, Value.int IntKind.i64 (0 - 1), Value.bool false, u9, u10, u11, u12, u13, u14, u15, u16, u17, u18, u19, u20, u21, u22, u23, u24, u25, u26, u27, u28, u29, u30, u31, u32, u33, u34, u35, u36, u37, u38, u39, u40, u41, Value.int IntKind.i64 j, Value.pointer (some { block := w.heap.size + 1 + 1, off := 0 }), Value.slice (some { block := g9, off := 0 }) nf nf, Value.int IntKind.i64 nf, Value.bool true, u47, u48, (sv12 49), (sv12 50), (sv12 51), (sv12 52), (sv12 53), (sv12 54), (sv12 55), (sv12 56), (sv12 57), undef, undef, undef, undef, undef, undef, undef, undef, undef, undef, undef, undef, undef, undef, undef, undef, undef, undef] := ef
            subst hd
            rw [eu_50, eu_51, eu_56] at ef2
            rw [ef2]
            clear ef ef2 hu hs hout hall e_50 eu_50 e_51 eu_51 e_56 eu_56
            simp only [List.drop_succ_cons, List.drop_zero]
            obtain ⟨ca, cl, cc⟩ := c2
            have HL2 := Lib.hid hl2
            have HO2 := Lib.hid hok2
            have hm4 := hm3.below hI
            have hr4 := hr9.below hI hr9.lt
            clear hl2 hok2
            have rc : ∃ a n c, w2.cell? ⟨g9, j, none⟩ = some (.slice a n c) := ⟨_, _, _, hr4.cell (k := j) (by rw [hlen]; exact hlt)⟩
            obtain ⟨ra, rn, rcc, rc⟩ := rc
            have rf := hr4.frozen
            have hI9 := hI.size
            simp only [Cel.v]
            have HM4 := Lib.hid hm4
            clear hm4 hm3 hmk
            go_wp2_with fail
            go_roundg (gk - 1)
            case measure => have := HM.out; omega
            case rel => exact ⟨j + 1, fs.set j ⟨ca, cl, cc⟩, by have := HM.out; omega, by omega, by go_num, Lib.hid ⟨HM4.out.row0 j HO2.out, by rw [List.length_set]; exact hlen, fun j' hj' => by
              rw [List.getD_eq_getElem?_getD, List.getElem?_set]
              by_cases e : j = j'
              · subst e
                rw [if_pos rfl, if_pos (by rw [hlen]; exact hlt)]
                rw [HXL.out]; exact HL2.out
              · rw [if_neg e, ← List.getD_eq_getElem?_getD]
                exact HJ.out j' (by omega)⟩, (hB1.trans (hI.mono hB1.size)).setCell (p := ⟨g9, j, none⟩) (by simp; omega) _⟩
        · obtain rfl : nf = j := by omega
          have gj : ¬ ((nf : Int) < (nf : Int)) := by omega
          go_wp2_with fail
          have HMK1 := Lib.hid hm3
          have HFS := Lib.hid hmk.out.2.2
          have HLFS := Lib.hid hlen
          clear hm3 hmk hlen HM b0 b1 bfz hlt gj hj
          go_loopg [6] (nb + 1) (fun g i wr => ∃ (j : Nat) (bs : List Cel), g = nb + 1 - j ∧ j ≤ nb ∧ i = .int .i64 j ∧ Hid (Mk w.heap.size wr cs fa ba fs bs ∧ bs.length = nb ∧ ∀ j', j' < j → (bs.getD j' Cel.nil).l = lB j') ∧ Below w.heap.size w wr)
          case atStart => exact ⟨0, _, by omega, by omega, rfl, Lib.hid ⟨HMK1.out, by simp, fun j' h => by omega⟩, hB1⟩
          case round =>
            clear HMK1 hB1
            obtain ⟨j, bs, hg, hj, rfl, hmk, hB1⟩ := hrel
            have HM := Lib.hid hg
            clear hg
            have hm3 := hmk.out.1
            have b0 := hm3.box.cell0
            have b1 := hm3.box.cell1
            have hlen := hmk.out.2.1
            have bfz := hm3.box.frozen
            rw [hlen] at b1
            rw [HLFS.out] at b0
            by_cases hlt : j < nb
            · obtain ⟨g9, rfl, hg9, hr9⟩ : ∃ g, ba = some ⟨g, 0, none⟩ ∧ w.heap.size + 3 ≤ g ∧ Row wr g bs := by
                rcases hm3.b with ⟨_, h⟩ | h
                · rw [h] at hlen; simp at hlen; omega
                · exact h
              have HJ := Lib.hid hmk.out.2.2
              have hj40 : j < 40 := by have := HPB.out.1; omega
              have hj80 : j < 80 := by omega
              obtain ⟨q9, hq9⟩ : ∃ q : Nat, q = 40 + j := ⟨_, rfl⟩
              have hwq : IntKind.i64.wrap (40 + (j : Int)) = (q9 : Int) := by rw [hq9]; exact IntWalk.i64_in _ (by omega)
              have hq80 : q9 < 80 := by omega
              obtain ⟨⟨xa, xl, xc⟩, hx⟩ : ∃ c : Cel, cs[q9]? = some c := ⟨_, List.getElem?_eq_getElem (by rw [HLC.out]; exact hq80)⟩
              have HXL : Hid (lB j = xl) := Lib.hid (by rw [HLB.out]; simp only [List.getD_eq_getElem?_getD, ← hq9, hx]; rfl)
              have HTX : Hid (∀ {W : World}, Tab W w.heap.size 65 cs → W.cell? ⟨w.heap.size, q9, none⟩ = some (.slice xa xl.length xc)) := Lib.hid fun h => by
                have := h.cell hq80
                rw [(List.getElem?_eq_some_iff.1 hx).2] at this
                exact this
              have HOX : Hid (Cel.ok wr.heap.size wr ⟨xa, xl, xc⟩) := Lib.hid (hm3.ok _ (List.mem_of_getElem? hx))
              clear hx
              have HBX : Hid (∀ {W : World}, Below wr.heap.size wr W → W.cell? ⟨w.heap.size + 1 + 1, 1, none⟩ = some (.slice (some ⟨g9, 0, none⟩) nb nb)) := Lib.hid fun h => by
                have := (hm3.below h).box.cell1
                rw [hlen] at this
                exact this
              have HMB : Hid (∀ {W : World}, Below wr.heap.size wr W → Tab W w.heap.size 65 cs) := Lib.hid fun h => (hm3.below h).tab
              have gj : (j : Int) < (nb : Int) := by omega
              go_wp2_with fail
              have hI8 : Below wr.heap.size wr { wr with drawn := wr.drawn + 1 } := (Below.refl _ _).drew
              refine rgT2 9 [some 65, some 66, some 67, some 68, some 69, some 70, some 71, some 72, some 73, some 74, none] (psiBd16 w.heap.size g9 j nb xa xl xc q9) (fun w' => Below wr.heap.size wr w') (by kernel_rfl) (by kernel_rfl) (by kernel_rfl) (by kernel_rfl) (psiBd16_stab w.heap.size g9 j nb xa xl xc q9) (fun _ _ h hb => h.trans (hb.mono h.size)) (fun i9 o9 hi9 ho9 aq9 w1 hs hout hI hdep => ?_) ?_ hI8
              · skip
                match i9, hi9, ho9 with
                | 0, _, ho9 =>
                  obtain rfl := Option.some.inj ho9
                  refine .inl ⟨rfl, fun K hK => ?_⟩
                  exact fa35_1 rfl ((hout 3 rfl).trans rfl) (hK _ _ (Below.refl _ _) rfl)
                | 1, _, ho9 =>
                  obtain rfl := Option.some.inj ho9
                  have dq0 : (aq9.tmps.getD 65 undef) = .pointer (some ⟨w.heap.size + 1 + 1, 1, none⟩) := hdep ⟨0, .data⟩ (by simp) rfl _ rfl
                  refine .inl ⟨rfl, fun K hK => ?_⟩
                  exact ld33 rfl dq0 (HBX.out hI) (hK _ _ (Below.refl _ _) rfl)
                | 2, _, ho9 =>
                  obtain rfl := Option.some.inj ho9
                  refine .inl ⟨rfl, fun K hK => ?_⟩
                  exact st_move rfl ((hout 6 rfl).trans rfl) (hK _ _ (Below.refl _ _) rfl)
                | 3, _, ho9 =>
                  obtain rfl := Option.some.inj ho9
                  refine .inl ⟨rfl, fun K hK => ?_⟩
                  exact st_bs0 rfl (hK _ _ (below1 _ _) ⟨_, rfl, heap_alloc_new _ _⟩)
                | 4, _, ho9 =>
                  obtain rfl := Option.some.inj ho9
                  refine .inl ⟨rfl, fun K hK => ?_⟩
                  exact st_move rfl ((hout 6 rfl).trans rfl) (hK _ _ (Below.refl _ _) rfl)
                | 5, _, ho9 =>
                  obtain rfl := Option.some.inj ho9
                  have dq4 : (aq9.tmps.getD 69 undef) = .int .i64 j := hdep ⟨4, .data⟩ (by simp) rfl _ rfl
                  refine .inl ⟨rfl, fun K hK => ?_⟩
                  exact st_add_3 rfl rfl dq4 hwq (hK _ _ (Below.refl _ _) rfl)
                | 6, _, ho9 =>
                  obtain rfl := Option.some.inj ho9
                  have dq5 : (aq9.tmps.getD 70 undef) = .int .i64 q9 := hdep ⟨5, .data⟩ (by simp) rfl _ rfl
                  refine .inl ⟨rfl, fun K hK => ?_⟩
                  exact st_idx31 (k := q9) rfl ((hout 1 rfl).trans rfl) dq5 (by omega) (hK _ _ (Below.refl _ _) rfl)
                | 7, _, ho9 =>
                  obtain rfl := Option.some.inj ho9
                  have dq6 : (aq9.tmps.getD 71 undef) = .pointer (some ⟨w.heap.size, q9, none⟩) := hdep ⟨6, .data⟩ (by simp) rfl _ rfl
                  refine .inl ⟨rfl, fun K hK => ?_⟩
                  exact ld29 rfl dq6 (HTX.out (HMB.out hI)) (hK _ _ (Below.refl _ _) rfl)
                | 8, _, ho9 =>
                  obtain rfl := Option.some.inj ho9
                  have dq3 : ∃ b, (aq9.tmps.getD 68 undef) = .slice (some ⟨b, 0, none⟩) 0 0 ∧ w1.heap[b]? = some (.cells #[] 35 (0, 0)) := hdep ⟨3, .data⟩ (by simp) rfl _ rfl
                  have dq7 : (aq9.tmps.getD 72 undef) = .slice xa xl.length xc := hdep ⟨7, .data⟩ (by simp) rfl _ rfl
                  refine .inl ⟨rfl, fun K hK => ?_⟩
                  obtain ⟨b9, hv9, hb9⟩ := dq3
                  exact step_append0 rfl hv9 hb9 ⟨xa, xl, xc⟩ dq7 (((HOX.out).below hI).mono hI.size) (fun c' w' h1 h2 h3 => hK _ _ h3 ⟨c', rfl, h1, h2⟩)
                | i9 + 9, hi9, _ => exact absurd hi9 (by omega)
              · intro a2 w2 hs hd hout hI hall
                obtain ⟨tmps, defers⟩ := a2
                have e_66 : (tmps.getD 66 undef) = .slice (some ⟨g9, 0, none⟩) nb nb := hall 1 _ (by decide) rfl
                have e_67 : (tmps.getD 67 undef) = .int .i64 j := hall 2 _ (by decide) rfl
                have e_73 : ∃ c2 : Cel, (tmps.getD 73 undef) = c2.v ∧ c2.l = xl ∧ c2.ok w2.heap.size w2 := hall 8 _ (by decide) rfl
                obtain ⟨c2, e_73, hl2, hok2⟩ := e_73
                simp only at hs hd hout
                have ef := frameAt [some 65, some 66, some 67, some 68, some 69, some 70, some 71, some 72, some 73, some 74, none] _ tmps hs hout
                obtain ⟨sv16, hu⟩ : ∃ u : Nat → Value, u = fun s => tmps.getD s undef := ⟨_, rfl⟩
                have eu_66 : sv16 66 = .slice (some ⟨g9, 0, none⟩) nb nb := by rw [hu]; exact e_66
                have eu_67 : sv16 67 = .int .i64 j := by rw [hu]; exact e_67
                have eu_73 : sv16 73 = c2.v := by rw [hu]; exact e_73
                rw [← hu] at ef
                have ef2 : tmps = #[Value.agg arr, Value.pointer (some { block := w.heap.size, off := 0 }), Value.pointer (some { block := w.heap.size + 1, off := 0 }), Value.pointer (some { block := w.heap.size + 1 + 1, off := 0 }), Value.int IntKind.i64 (-1), Value.int IntKind.i64 nf, Value.int IntKind.i64 j, Value.int IntKind.i64 (-1), Value.bool false, u9, u10, u11, u12, u13, u14, u15, u16, u17, u18, u19, u20, u21, u22, u23, u24, u25, u26, u27, u28, u29, u30, u31, u32, u33, u34, u35, u36, u37, u38, u39, u40, u41, Value.int IntKind.i64 nf, Value.pointer (some { block := w.heap.size + 1 + 1, off := 0 }), Value.slice fa nf nf, Value.int IntKind.i64 nf, Value.bool false, u47, u48, u49, u50, u51, u52, u53, u54, u55, u56, u57, Value.int IntKind.i64 j, Value.pointer (some { block := w.heap.size + 1 + 1, off := 1 }), Value.slice (some { block := g9, off := 0 }) nb nb, Value.int IntKind.i64 nb, Value.bool true, u63, u64, (sv16 65), (sv16 66), (sv16 67), (sv16 68), (sv16 69), (sv16 70), (sv16 71), (sv16 72), (sv16 73), (sv16 74), undef] := ef
                subst hd
                rw [eu_66, eu_67, eu_73] at ef2
                rw [ef2]
                clear ef ef2 hu hs hout hall e_66 eu_66 e_67 eu_67 e_73 eu_73
                simp only [List.drop_succ_cons, List.drop_zero]
                obtain ⟨ca, cl, cc⟩ := c2
                have HL2 := Lib.hid hl2
                have HO2 := Lib.hid hok2
                have hm4 := hm3.below hI
                have hr4 := hr9.below hI hr9.lt
                clear hl2 hok2
                have rc : ∃ a n c, w2.cell? ⟨g9, j, none⟩ = some (.slice a n c) := ⟨_, _, _, hr4.cell (k := j) (by rw [hlen]; exact hlt)⟩
                obtain ⟨ra, rn, rcc, rc⟩ := rc
                have rf := hr4.frozen
                have hI9 := hI.size
                simp only [Cel.v]
                have HM4 := Lib.hid hm4
                clear hm4 hm3 hmk
                go_wp2_with fail
                go_roundg (gk - 1)
                case measure => have := HM.out; omega
                case rel => exact ⟨j + 1, bs.set j ⟨ca, cl, cc⟩, by have := HM.out; omega, by omega, by go_num, Lib.hid ⟨HM4.out.row1 j HO2.out, by rw [List.length_set]; exact hlen, fun j' hj' => by
                  rw [List.getD_eq_getElem?_getD, List.getElem?_set]
                  by_cases e : j = j'
                  · subst e
                    rw [if_pos rfl, if_pos (by rw [hlen]; exact hlt)]
                    rw [HXL.out]; exact HL2.out
                  · rw [if_neg e, ← List.getD_eq_getElem?_getD]
                    exact HJ.out j' (by omega)⟩, (hB1.trans (hI.mono hB1.size)).setCell (p := ⟨g9, j, none⟩) (by simp; omega) _⟩
            · obtain rfl : nb = j := by omega
              have gj : ¬ ((nb : Int) < (nb : Int)) := by omega
              have hr0 := hm3.res
              have r0 := hr0.cell0
              have r1 := hr0.cell1
              have rf := hr0.frozen
              have HM3 := Lib.hid hm3
              have HLN := Lib.hid hlen
              have HJ := Lib.hid hmk.out.2.2
              clear hm3 hmk HM
              go_wp2_with fail
              have b2 := (hr0.set0 (.slice fa nf nf)).set1 (.slice ba nb nb)
              have b20 := b2.cell0
              have b21 := b2.cell1
              have lf40 : nf ≤ 40 := HPF.out.1
              have lb40 : nb ≤ 40 := HPB.out.1
              have hlF := HLF.out
              have hlB := HLB.out
              have okF := ((HM3.out.f.bed (by rw [HLFS.out]; exact lf40) HM3.out.okf nf).set_box hr0 (isSl_mk _ _ _) (isSl_mk _ _ _) (fun b o e => by
                rcases HM3.out.f with ⟨h, _⟩ | ⟨g, h1, h2, _⟩
                · rw [h] at e; cases e
                · rw [h1] at e; cases e; omega) 0 (.slice fa nf nf)).set_box (hr0.set0 (.slice fa nf nf)) (isSl_mk _ _ _) (isSl_mk _ _ _) (fun b o e => by
                rcases HM3.out.f with ⟨h, _⟩ | ⟨g, h1, h2, _⟩
                · rw [h] at e; cases e
                · rw [h1] at e; cases e; omega) 1 (.slice ba nb nb)
              have okB := ((HM3.out.b.bed (by rw [HLN.out]; exact lb40) HM3.out.okb nb).set_box hr0 (isSl_mk _ _ _) (isSl_mk _ _ _) (fun b o e => by
                rcases HM3.out.b with ⟨h, _⟩ | ⟨g, h1, h2, _⟩
                · rw [h] at e; cases e
                · rw [h1] at e; cases e; omega) 0 (.slice fa nf nf)).set_box (hr0.set0 (.slice fa nf nf)) (isSl_mk _ _ _) (isSl_mk _ _ _) (fun b o e => by
                rcases HM3.out.b with ⟨h, _⟩ | ⟨g, h1, h2, _⟩
                · rw [h] at e; cases e
                · rw [h1] at e; cases e; omega) 1 (.slice ba nb nb)
              have hrd := reads_fill (fa := fa) (ba := ba) (fs := fs) (bs := bs) HLC.out (by rw [HLFS.out]; exact lf40) (by rw [HLN.out]; exact lb40)
                (fun i hi => by have h := HFS.out i (by rw [← HLFS.out]; exact hi); rw [hlF] at h; exact h) (fun i hi => by have h := HJ.out i (by rw [← HLN.out]; exact hi); rw [hlB] at h; exact h)
                (fun i h1 h2 => by have h := HPF.out.2.1 i (Nat.zero_le _) (by rw [← HLFS.out]; exact h1) h2; rw [hlF] at h; exact h) (fun i h1 h2 => by have h := HPB.out.2.1 i (Nat.zero_le _) (by rw [← HLN.out]; exact h1) h2; rw [hlB] at h; exact h)
                (fun h0 => by have h := (HPF.out.2.2 (by rw [← HLFS.out]; exact h0)).2; rw [hlF] at h; rw [HLFS.out]; exact h) (fun h0 => by have h := (HPB.out.2.2 (by rw [← HLN.out]; exact h0)).2; rw [hlB] at h; rw [HLN.out]; exact h)
              rw [← HT9.out, HLFS.out, HLN.out] at hrd
              refine bodyPost_ret (v := .agg #[.slice fa nf nf, .slice ba nb nb]) (by simp [results, Tryd.results21, go_sem, b20, b21]) rfl ⟨⟨⟨fa, fs, nf⟩, ⟨ba, bs, nb⟩⟩, by simp only [Bds.v, Bed.v]; rw [HLFS.out, HLN.out], Lib.hid ⟨hrd.1, hrd.2, ⟨okF.mono (by simp), okB.mono (by simp)⟩, fun b o e => by
                  rcases HM3.out.f with ⟨h, _⟩ | ⟨g, h1, h2, _⟩
                  · simp only at e; rw [h] at e; cases e
                  · simp only at e; rw [h1] at e; cases e; omega, fun b o e => by
                  rcases HM3.out.b with ⟨h, _⟩ | ⟨g, h1, h2, _⟩
                  · simp only at e; rw [h] at e; cases e
                  · simp only at e; rw [h1] at e; cases e; omega⟩, ?_⟩
              exact (hB1.setCell (p := ⟨w.heap.size + 1, 0, none⟩) (by simp) _).setCell (p := ⟨w.heap.size + 1, 1, none⟩) (by simp) _
    · obtain ⟨i, rfl⟩ : ∃ i, k = i + 1 := ⟨k - 1, by omega⟩
      have hz : ((i + 1 : Nat) : Int) - 1 = (i : Int) := by omega
      rw [hz]
      clear hz hk0
      have hi40 : i < 40 := by omega
      have hi80 : i < 80 := by omega
      have hm := hmk.out.1
      obtain ⟨q, hq⟩ : ∃ q : Nat, q = 40 + i := ⟨_, rfl⟩
      have hwq : IntKind.i64.wrap (40 + (i : Int)) = (q : Int) := by rw [hq]; exact IntWalk.i64_in _ (by omega)
      have hq80 : q < 80 := by omega
      have hmkL := fun w => run_mkL ((i : Int) + 1) (i + 1) (by omega) (by omega) w
      obtain ⟨⟨xa, xl, xc⟩, hx⟩ : ∃ c : Cel, cs[i]? = some c := ⟨_, List.getElem?_eq_getElem (by rw [HLC.out]; exact hi80)⟩
      obtain ⟨⟨ya, yl, yc⟩, hy⟩ : ∃ c : Cel, cs[q]? = some c := ⟨_, List.getElem?_eq_getElem (by rw [HLC.out]; exact hq80)⟩
      have HXL : Hid (lF i = xl) := Lib.hid (by rw [HLF.out]; simp only [List.getD_eq_getElem?_getD, hx]; rfl)
      have HYL : Hid (lB i = yl) := Lib.hid (by rw [HLB.out]; simp only [List.getD_eq_getElem?_getD, ← hq, hy]; rfl)
      have HTX : Hid (∀ {W : World}, Tab W w.heap.size 65 cs → W.cell? ⟨w.heap.size, i, none⟩ = some (.slice xa xl.length xc)) := Lib.hid fun h => by
        have := h.cell hi80
        rw [(List.getElem?_eq_some_iff.1 hx).2] at this
        exact this
      have HTY : Hid (∀ {W : World}, Tab W w.heap.size 65 cs → W.cell? ⟨w.heap.size, q, none⟩ = some (.slice ya yl.length yc)) := Lib.hid fun h => by
        have := h.cell hq80
        rw [(List.getElem?_eq_some_iff.1 hy).2] at this
        exact this
      have HP := Lib.hid hmk.out.2
      clear hx hy hq
      rcases Nat.eq_zero_or_pos nf with hnf | hnf
      · subst hnf
        simp only [List.replicate_zero] at hm
        by_cases hx0 : 0 < xl.length
        · rcases Nat.eq_zero_or_pos nb with hnb | hnb
          · subst hnb
            simp only [List.replicate_zero] at hm
            by_cases hy0 : 0 < yl.length
            · have HMK := Lib.hid hm
              clear hm hmk
              have gx : (0 : Int) < (xl.length : Int) := by omega
              have gy : (0 : Int) < (yl.length : Int) := by omega
              have HPF : Hid (Part lF i (i + 1)) := Lib.hid (HP.out.1.new hi40 rfl (by rw [HXL.out]; intro e; rw [e] at gx; simp at gx))
              have HPB : Hid (Part lB i (i + 1)) := Lib.hid (HP.out.2.new hi40 rfl (by rw [HYL.out]; intro e; rw [e] at gy; simp at gy))
              clear HP
              have tx := HTX.out (HMK.out).tab
              have ty := HTY.out (HMK.out).tab
              have b0 := (HMK.out).box.cell0
              have b1 := (HMK.out).box.cell1
              have bf := (HMK.out).box.frozen
              have tf := (HMK.out).tab.frozen
              have HMKA := Lib.hid (HMK.out.below (below1 _ (.cells (madeCells #[.slice none 0 0] (i + 1)) 61)))
              have txA := HTX.out (HMKA.out).tab
              have tyA := HTY.out (HMKA.out).tab
              have b0A := (HMKA.out).box.cell0
              have b1A := (HMKA.out).box.cell1
              have bfA := (HMKA.out).box.frozen
              have tfA := (HMKA.out).tab.frozen
              have HMKF := Lib.hid (HMK.out.new0 (i + 1))
              have txF := HTX.out (HMKF.out).tab
              have tyF := HTY.out (HMKF.out).tab
              have b0F := (HMKF.out).box.cell0
              have b1F := (HMKF.out).box.cell1
              have bfF := (HMKF.out).box.frozen
              have tfF := (HMKF.out).tab.frozen
              have HMKC := Lib.hid (HMKF.out.below (below1 _ (.cells (madeCells #[.slice none 0 0] (i + 1)) 61)))
              have txC := HTX.out (HMKC.out).tab
              have tyC := HTY.out (HMKC.out).tab
              have b0C := (HMKC.out).box.cell0
              have b1C := (HMKC.out).box.cell1
              have bfC := (HMKC.out).box.frozen
              have tfC := (HMKC.out).tab.frozen
              have HMKB := Lib.hid (HMKF.out.new1 (i + 1))
              have txB := HTX.out (HMKB.out).tab
              have tyB := HTY.out (HMKB.out).tab
              have b0B := (HMKB.out).box.cell0
              have b1B := (HMKB.out).box.cell1
              have bfB := (HMKB.out).box.frozen
              have tfB := (HMKB.out).tab.frozen
              simp only [List.length_replicate, List.length_nil] at b0 b1 b0A b1A b0F b1F b0C b1C b0B b1B
              go_wp2_with fail
              go_roundg (gk - 1)
              case measure => have := HM.out; omega
              case rel => exact ⟨i, i + 1, i + 1, _, _, by have := HM.out; omega, by omega, rfl, Lib.hid ⟨(by have h := HMKB.out; simp only [World.size_setCell, World.size_alloc] at h; exact h), HPF.out, HPB.out⟩, ((((hB1.alloc hB1.size _).setCell (p := ⟨w.heap.size + 1 + 1, 0, none⟩) (by simp; omega) _).alloc (by have := hB1.size; simp; omega) _).setCell (p := ⟨w.heap.size + 1 + 1, 1, none⟩) (by simp; omega) _)⟩
            · have HMK := Lib.hid hm
              clear hm hmk
              have gx : (0 : Int) < (xl.length : Int) := by omega
              have gy : ¬ ((0 : Int) < (yl.length : Int)) := by omega
              have HPF : Hid (Part lF i (i + 1)) := Lib.hid (HP.out.1.new hi40 rfl (by rw [HXL.out]; intro e; rw [e] at gx; simp at gx))
              have HPB : Hid (Part lB i 0) := Lib.hid (HP.out.2.skip rfl (by rw [HYL.out]; exact List.eq_nil_of_length_eq_zero (by omega)))
              clear HP
              have tx := HTX.out (HMK.out).tab
              have ty := HTY.out (HMK.out).tab
              have b0 := (HMK.out).box.cell0
              have b1 := (HMK.out).box.cell1
              have bf := (HMK.out).box.frozen
              have tf := (HMK.out).tab.frozen
              have HMKA := Lib.hid (HMK.out.below (below1 _ (.cells (madeCells #[.slice none 0 0] (i + 1)) 61)))
              have txA := HTX.out (HMKA.out).tab
              have tyA := HTY.out (HMKA.out).tab
              have b0A := (HMKA.out).box.cell0
              have b1A := (HMKA.out).box.cell1
              have bfA := (HMKA.out).box.frozen
              have tfA := (HMKA.out).tab.frozen
              have HMKF := Lib.hid (HMK.out.new0 (i + 1))
              have txF := HTX.out (HMKF.out).tab
              have tyF := HTY.out (HMKF.out).tab
              have b0F := (HMKF.out).box.cell0
              have b1F := (HMKF.out).box.cell1
              have bfF := (HMKF.out).box.frozen
              have tfF := (HMKF.out).tab.frozen
              simp only [List.length_replicate, List.length_nil] at b0 b1 b0A b1A b0F b1F
              go_wp2_with fail
              go_roundg (gk - 1)
              case measure => have := HM.out; omega
              case rel => exact ⟨i, i + 1, 0, _, _, by have := HM.out; omega, by omega, rfl, Lib.hid ⟨HMKF.out, HPF.out, HPB.out⟩, ((hB1.alloc hB1.size _).setCell (p := ⟨w.heap.size + 1 + 1, 0, none⟩) (by simp; omega) _)⟩
          · have HMK := Lib.hid hm
            clear hm hmk
            have gx : (0 : Int) < (xl.length : Int) := by omega
            have gb : ((nb : Int) == 0) = false := by simp; omega
            have HPF : Hid (Part lF i (i + 1)) := Lib.hid (HP.out.1.new hi40 rfl (by rw [HXL.out]; intro e; rw [e] at gx; simp at gx))
            have HPB : Hid (Part lB i nb) := Lib.hid (HP.out.2.pos hnb)
            clear HP hnb
            have tx := HTX.out (HMK.out).tab
            have ty := HTY.out (HMK.out).tab
            have b0 := (HMK.out).box.cell0
            have b1 := (HMK.out).box.cell1
            have bf := (HMK.out).box.frozen
            have tf := (HMK.out).tab.frozen
            have HMKA := Lib.hid (HMK.out.below (below1 _ (.cells (madeCells #[.slice none 0 0] (i + 1)) 61)))
            have txA := HTX.out (HMKA.out).tab
            have tyA := HTY.out (HMKA.out).tab
            have b0A := (HMKA.out).box.cell0
            have b1A := (HMKA.out).box.cell1
            have bfA := (HMKA.out).box.frozen
            have tfA := (HMKA.out).tab.frozen
            have HMKF := Lib.hid (HMK.out.new0 (i + 1))
            have txF := HTX.out (HMKF.out).tab
            have tyF := HTY.out (HMKF.out).tab
            have b0F := (HMKF.out).box.cell0
            have b1F := (HMKF.out).box.cell1
            have bfF := (HMKF.out).box.frozen
            have tfF := (HMKF.out).tab.frozen
            simp only [List.length_replicate, List.length_nil] at b0 b1 b0A b1A b0F b1F
            go_wp2_with fail
            go_roundg (gk - 1)
            case measure => have := HM.out; omega
            case rel => exact ⟨i, i + 1, nb, _, _, by have := HM.out; omega, by omega, rfl, Lib.hid ⟨HMKF.out, HPF.out, HPB.out⟩, ((hB1.alloc hB1.size _).setCell (p := ⟨w.heap.size + 1 + 1, 0, none⟩) (by simp; omega) _)⟩
        · rcases Nat.eq_zero_or_pos nb with hnb | hnb
          · subst hnb
            simp only [List.replicate_zero] at hm
            by_cases hy0 : 0 < yl.length
            · have HMK := Lib.hid hm
              clear hm hmk
              have gx : ¬ ((0 : Int) < (xl.length : Int)) := by omega
              have gy : (0 : Int) < (yl.length : Int) := by omega
              have HPF : Hid (Part lF i 0) := Lib.hid (HP.out.1.skip rfl (by rw [HXL.out]; exact List.eq_nil_of_length_eq_zero (by omega)))
              have HPB : Hid (Part lB i (i + 1)) := Lib.hid (HP.out.2.new hi40 rfl (by rw [HYL.out]; intro e; rw [e] at gy; simp at gy))
              clear HP
              have tx := HTX.out (HMK.out).tab
              have ty := HTY.out (HMK.out).tab
              have b0 := (HMK.out).box.cell0
              have b1 := (HMK.out).box.cell1
              have bf := (HMK.out).box.frozen
              have tf := (HMK.out).tab.frozen
              have HMKC := Lib.hid (HMK.out.below (below1 _ (.cells (madeCells #[.slice none 0 0] (i + 1)) 61)))
              have txC := HTX.out (HMKC.out).tab
              have tyC := HTY.out (HMKC.out).tab
              have b0C := (HMKC.out).box.cell0
              have b1C := (HMKC.out).box.cell1
              have bfC := (HMKC.out).box.frozen
              have tfC := (HMKC.out).tab.frozen
              have HMKB := Lib.hid (HMK.out.new1 (i + 1))
              have txB := HTX.out (HMKB.out).tab
              have tyB := HTY.out (HMKB.out).tab
              have b0B := (HMKB.out).box.cell0
              have b1B := (HMKB.out).box.cell1
              have bfB := (HMKB.out).box.frozen
              have tfB := (HMKB.out).tab.frozen
              simp only [List.length_replicate, List.length_nil] at b0 b1 b0C b1C b0B b1B
              go_wp2_with fail
              go_roundg (gk - 1)
              case measure => have := HM.out; omega
              case rel => exact ⟨i, 0, i + 1, _, _, by have := HM.out; omega, by omega, rfl, Lib.hid ⟨HMKB.out, HPF.out, HPB.out⟩, ((hB1.alloc (by have := hB1.size; simp; omega) _).setCell (p := ⟨w.heap.size + 1 + 1, 1, none⟩) (by simp; omega) _)⟩
            · have HMK := Lib.hid hm
              clear hm hmk
              have gx : ¬ ((0 : Int) < (xl.length : Int)) := by omega
              have gy : ¬ ((0 : Int) < (yl.length : Int)) := by omega
              have HPF : Hid (Part lF i 0) := Lib.hid (HP.out.1.skip rfl (by rw [HXL.out]; exact List.eq_nil_of_length_eq_zero (by omega)))
              have HPB : Hid (Part lB i 0) := Lib.hid (HP.out.2.skip rfl (by rw [HYL.out]; exact List.eq_nil_of_length_eq_zero (by omega)))
              clear HP
              have tx := HTX.out (HMK.out).tab
              have ty := HTY.out (HMK.out).tab
              have b0 := (HMK.out).box.cell0
              have b1 := (HMK.out).box.cell1
              have bf := (HMK.out).box.frozen
              have tf := (HMK.out).tab.frozen
              simp only [List.length_replicate, List.length_nil] at b0 b1
              go_wp2_with fail
              go_roundg (gk - 1)
              case measure => have := HM.out; omega
              case rel => exact ⟨i, 0, 0, _, _, by have := HM.out; omega, by omega, rfl, Lib.hid ⟨HMK.out, HPF.out, HPB.out⟩, hB1⟩
          · have HMK := Lib.hid hm
            clear hm hmk
            have gx : ¬ ((0 : Int) < (xl.length : Int)) := by omega
            have gb : ((nb : Int) == 0) = false := by simp; omega
            have HPF : Hid (Part lF i 0) := Lib.hid (HP.out.1.skip rfl (by rw [HXL.out]; exact List.eq_nil_of_length_eq_zero (by omega)))
            have HPB : Hid (Part lB i nb) := Lib.hid (HP.out.2.pos hnb)
            clear HP hnb
            have tx := HTX.out (HMK.out).tab
            have ty := HTY.out (HMK.out).tab
            have b0 := (HMK.out).box.cell0
            have b1 := (HMK.out).box.cell1
            have bf := (HMK.out).box.frozen
            have tf := (HMK.out).tab.frozen
            simp only [List.length_replicate, List.length_nil] at b0 b1
            go_wp2_with fail
            go_roundg (gk - 1)
            case measure => have := HM.out; omega
            case rel => exact ⟨i, 0, nb, _, _, by have := HM.out; omega, by omega, rfl, Lib.hid ⟨HMK.out, HPF.out, HPB.out⟩, hB1⟩
      · rcases Nat.eq_zero_or_pos nb with hnb | hnb
        · subst hnb
          simp only [List.replicate_zero] at hm
          by_cases hy0 : 0 < yl.length
          · have HMK := Lib.hid hm
            clear hm hmk
            have gf : ((nf : Int) == 0) = false := by simp; omega
            have gy : (0 : Int) < (yl.length : Int) := by omega
            have HPF : Hid (Part lF i nf) := Lib.hid (HP.out.1.pos hnf)
            have HPB : Hid (Part lB i (i + 1)) := Lib.hid (HP.out.2.new hi40 rfl (by rw [HYL.out]; intro e; rw [e] at gy; simp at gy))
            clear HP hnf
            have tx := HTX.out (HMK.out).tab
            have ty := HTY.out (HMK.out).tab
            have b0 := (HMK.out).box.cell0
            have b1 := (HMK.out).box.cell1
            have bf := (HMK.out).box.frozen
            have tf := (HMK.out).tab.frozen
            have HMKC := Lib.hid (HMK.out.below (below1 _ (.cells (madeCells #[.slice none 0 0] (i + 1)) 61)))
            have txC := HTX.out (HMKC.out).tab
            have tyC := HTY.out (HMKC.out).tab
            have b0C := (HMKC.out).box.cell0
            have b1C := (HMKC.out).box.cell1
            have bfC := (HMKC.out).box.frozen
            have tfC := (HMKC.out).tab.frozen
            have HMKB := Lib.hid (HMK.out.new1 (i + 1))
            have txB := HTX.out (HMKB.out).tab
            have tyB := HTY.out (HMKB.out).tab
            have b0B := (HMKB.out).box.cell0
            have b1B := (HMKB.out).box.cell1
            have bfB := (HMKB.out).box.frozen
            have tfB := (HMKB.out).tab.frozen
            simp only [List.length_replicate, List.length_nil] at b0 b1 b0C b1C b0B b1B
            go_wp2_with fail
            go_roundg (gk - 1)
            case measure => have := HM.out; omega
            case rel => exact ⟨i, nf, i + 1, _, _, by have := HM.out; omega, by omega, rfl, Lib.hid ⟨HMKB.out, HPF.out, HPB.out⟩, ((hB1.alloc (by have := hB1.size; simp; omega) _).setCell (p := ⟨w.heap.size + 1 + 1, 1, none⟩) (by simp; omega) _)⟩
          · have HMK := Lib.hid hm
            clear hm hmk
            have gf : ((nf : Int) == 0) = false := by simp; omega
            have gy : ¬ ((0 : Int) < (yl.length : Int)) := by omega
            have HPF : Hid (Part lF i nf) := Lib.hid (HP.out.1.pos hnf)
            have HPB : Hid (Part lB i 0) := Lib.hid (HP.out.2.skip rfl (by rw [HYL.out]; exact List.eq_nil_of_length_eq_zero (by omega)))
            clear HP hnf
            have tx := HTX.out (HMK.out).tab
            have ty := HTY.out (HMK.out).tab
            have b0 := (HMK.out).box.cell0
            have b1 := (HMK.out).box.cell1
            have bf := (HMK.out).box.frozen
            have tf := (HMK.out).tab.frozen
            simp only [List.length_replicate, List.length_nil] at b0 b1
            go_wp2_with fail
            go_roundg (gk - 1)
            case measure => have := HM.out; omega
            case rel => exact ⟨i, nf, 0, _, _, by have := HM.out; omega, by omega, rfl, Lib.hid ⟨HMK.out, HPF.out, HPB.out⟩, hB1⟩
        · have HMK := Lib.hid hm
          clear hm hmk
          have gf : ((nf : Int) == 0) = false := by simp; omega
          have gb : ((nb : Int) == 0) = false := by simp; omega
          have HPF : Hid (Part lF i nf) := Lib.hid (HP.out.1.pos hnf)
          have HPB : Hid (Part lB i nb) := Lib.hid (HP.out.2.pos hnb)
          clear HP hnf hnb
          have tx := HTX.out (HMK.out).tab
          have ty := HTY.out (HMK.out).tab
          have b0 := (HMK.out).box.cell0
          have b1 := (HMK.out).box.cell1
          have bf := (HMK.out).box.frozen
          have tf := (HMK.out).tab.frozen
          simp only [List.length_replicate, List.length_nil] at b0 b1
          go_wp2_with fail
          go_roundg (gk - 1)
          case measure => have := HM.out; omega
          case rel => exact ⟨i, nf, nb, _, _, by have := HM.out; omega, by omega, rfl, Lib.hid ⟨HMK.out, HPF.out, HPB.out⟩, hB1⟩
end Go.Proofs.YtjjnhmbgffdenaaDoor
namespace Go.Proofs.YtjjnhmbgffdenaaDoor
open Go.RowKit Go.Sort
section
variable {P : Program} {ops : Array Oper} {Q : Exit → Act → World → Prop}
/-- As rgT3, with a fact over the whole frame that each operation keeps. -/
theorem rgT4 {id : Nat} {a0 : Act} {w0 : World} (m : Nat) (dsts : List (Option Tmp)) (Psi : Nat → Array Bool → Value → World → Prop) (I : World → Prop) (R : Nat → World → World → Prop) (X : Array Bool → Act → World → Prop) (hm : P.follows .mixedOrders = true)
    (htidy : tidy ops dsts = true)
    (hbound : (dsts.all fun x => match x with | some d => decide (d < a0.tmps.size) | none => true) = true)
    (ht : tailed ops m = true)
    (stab : ∀ (i : Nat) (o : Oper), i < m → ops[i]? = some o → ∀ (L : Array Bool), i < L.size → (∀ e ∈ o.after, Region.binds .any e = true → L.getD e.on false = true) → ∀ j v w w', j ≠ i → I w → Psi j L v w → (w' = w ∨ R i w w') → Psi j (L.setIfInBounds i true) v w')
    (istab : ∀ i w w', I w → R i w w' → I w')
    (step : ∀ (i : Nat) (o : Oper), i < m → ops[i]? = some o → ∀ (L : Array Bool), i < L.size → L.getD i false = false → (∀ (j : Nat) (o' : Oper), L.getD j false = true → ops[j]? = some o' → ∀ e ∈ o'.after, Region.binds .any e = true → L.getD e.on false = true) → ∀ (a : Act) (w : World), a.tmps.size = a0.tmps.size → (∀ s, dsts.contains (some s) = false → a.tmps.getD s undef = a0.tmps.getD s undef) → I w → X L a w →
      (∀ e ∈ o.after, Region.binds .any e = true → ∀ (o' : Oper), ops[e.on]? = some o' → Psi e.on L (slotOf o' a) w) →
      (Region.wanted o (yielded ops a.tmps) = true ∧ ∀ K : Act → World → Prop, (∀ v w', R i w w' → Psi i (L.setIfInBounds i true) (valOf o v) w' → X (L.setIfInBounds i true) (a.put o.dst v) w' → K (a.put o.dst v) w') → o.wp P a w K Q) ∨
      (Region.wanted o (yielded ops a.tmps) = false ∧ Psi i (L.setIfInBounds i true) undef w ∧ ∀ v, X (L.setIfInBounds i true) (a.put o.dst v) w))
    (fin : ∀ (a : Act) (w : World), a.tmps.size = a0.tmps.size → a.defers = a0.defers → (∀ s, dsts.contains (some s) = false → a.tmps.getD s undef = a0.tmps.getD s undef) →
      I w → (∃ L : Array Bool, (∀ j, L.getD j false = decide (j < m)) ∧ X L a w) → (∀ (i : Nat) (o : Oper), i < m → ops[i]? = some o → ∃ L : Array Bool, (∀ j, L.getD j false = decide (j < m)) ∧ Psi i L (slotOf o a) w) → wpList P ops Q (ops.toList.drop m) a w)
    (h0 : I { w0 with drawn := w0.drawn + 1 }) (hx0 : ∀ L : Array Bool, (∀ j, L.getD j false = false) → X L a0 { w0 with drawn := w0.drawn + 1 }) : (Code.region id ops true).wp P Q a0 w0 := by
  have hdom := dom_of htidy hbound
  have ht' := ht
  simp only [tailed, Bool.and_eq_true, decide_eq_true_eq] at ht'
  obtain ⟨⟨hmlt, hh⟩, htt⟩ := ht'
  have main : ∀ (fuel : Nat) (listed : Array Bool) (a : Act) (w : World), (List.range ops.size).countP (fun i => !listed.getD i true) ≤ fuel → (∀ j, m ≤ j → listed.getD j false = false) →
      MidL ops (fun s => dsts.contains (some s)) Psi I a0 listed a w → X listed a w → wpAny P .any ops Q fuel listed a w := by
    intro fuel
    induction fuel with
    | zero =>
      intro listed a w hc hmj hJ hX
      exfalso
      have h1 := (List.countP_eq_zero.1 (Nat.le_zero.1 hc)) m (List.mem_range.2 hmlt)
      have h2 := hmj m (Nat.le_refl _)
      have h3 : m < listed.size := by have := hJ.lsize; omega
      simp [h3] at h1 h2
      rw [h2] at h1; cases h1
    | succ fuel ih =>
      intro listed a w hc hmj hJ hX
      -- are all of the head listed?
      by_cases hall : ∀ j, j < m → listed.getD j false = true
      · have hl : ∀ j, listed.getD j false = decide (j < m) := fun j => by
          by_cases h : j < m
          · rw [hall j h, decide_eq_true h]
          · rw [hmj j (by omega), decide_eq_false h]
        have hfin := fin a w hJ.asize hJ.defers hJ.outside hJ.inv ⟨listed, hl, hX⟩ fun i o hi ho => ⟨listed, hl, hJ.psi i o (hall i hi) ho⟩
        have hcount : ops.size - m ≤ fuel + 1 := by
          refine Nat.le_trans ?_ hc
          have e : (List.range ops.size).countP (fun i => !listed.getD i true) = (List.range ops.size).countP (fun i => decide (m ≤ i)) := by
            refine List.countP_congr fun i hi => ?_
            have hi' : i < listed.size := by have := hJ.lsize; have := List.mem_range.1 hi; omega
            have := hl i
            simp [hi'] at this ⊢
            rw [this]
            simp
          rw [e]
          have hsplit : List.range ops.size = List.range m ++ List.range' m (ops.size - m) := by
            rw [List.range_eq_range', List.range_eq_range', show ops.size = m + (ops.size - m) by omega, ← List.range'_append]
            simp
          rw [hsplit, List.countP_append]
          have h2 : (List.range' m (ops.size - m)).countP (fun i => decide (m ≤ i)) = ops.size - m := by
            rw [List.countP_eq_length.2 (fun x hx => by
              simp only [List.mem_range'_1] at hx
              exact decide_eq_true hx.1)]
            simp
          omega
        refine tail_main htidy ht (ops.size - m) m (fuel + 1) listed a w (Nat.le_refl _) (by omega) hJ.lsize hl hcount ?_
        have e := wpOps_eq_wpList (P := P) (ops := ops) (Q := Q) (ops.toList.drop m) m (fun j => by rw [List.getElem?_drop]; simp)
        have hlen : (ops.toList.drop m).length = ops.size - m := by simp
        rw [hlen] at e
        rw [e]
        exact hfin
      · have hnr : ∀ i ∈ Region.ready .any ops listed, i < m := by
          intro i hi
          obtain ⟨h1, o, ho, hdep⟩ := mem_ready.1 hi
          have hlt : i < ops.size := (Array.getElem?_eq_some_iff.1 ho).1
          by_cases him : i < m
          · exact him
          · exfalso
            by_cases e : i = m
            · subst e
              refine hall ?_
              -- from the last of the head down
              have down : ∀ d j, j + d + 1 = i → listed.getD j false = true := by
                intro d
                induction d using Nat.strongRecOn with
                | _ d ihd =>
                  intro j hj
                  have h3 := List.all_eq_true.1 hh j (List.mem_range.2 (by omega))
                  obtain ⟨k, hk, h4⟩ := List.any_eq_true.1 h3
                  have hk' := List.mem_range.1 hk
                  simp only [Bool.and_eq_true, decide_eq_true_eq] at h4
                  obtain ⟨o', ho', e', he', hon, hb⟩ := waits_spec h4.2
                  by_cases hki : k = i
                  · subst hki
                    rw [ho] at ho'
                    obtain rfl := Option.some.inj ho'
                    rw [← hon]; exact hdep e' he' hb
                  · have hkl := ihd (i - k - 1) (by omega) k (by omega)
                    rw [← hon]; exact hJ.closed k o' hkl ho' e' he' hb
              exact fun j hj => down (i - j - 1) j (by omega)
            · have h3 := List.all_eq_true.1 htt i (List.mem_range.2 hlt)
              simp only [Bool.or_eq_true, decide_eq_true_eq] at h3
              rcases h3 with h3 | h3
              · omega
              · obtain ⟨o', ho', e', he', hon, hb⟩ := waits_spec h3
                rw [ho] at ho'
                obtain rfl := Option.some.inj ho'
                have h5 := hdep e' he' hb
                rw [hon, hmj (i - 1) (by omega)] at h5
                cases h5
        have all_listed : Region.ready .any ops listed = [] → ∀ i, i < ops.size → listed.getD i false = true := by
          intro hr i
          induction i using Nat.strongRecOn with
          | _ i ihi =>
            intro hi
            cases hb : listed.getD i true with
            | true =>
              have hlt : i < listed.size := by have := hJ.lsize; omega
              simp only [Array.getD_eq_getD_getElem?, Array.getElem?_eq_getElem hlt, Option.getD_some] at hb ⊢
              exact hb
            | false =>
              exfalso
              have : i ∈ Region.ready .any ops listed := mem_ready.2 ⟨hb, ops[i], Array.getElem?_eq_getElem hi, fun e he hb2 => by
                have hlt := (tidy_spec htidy (Array.getElem?_eq_getElem hi)).2.1 e he hb2
                exact ihi e.on hlt (by omega)⟩
              rw [hr] at this
              cases this
        refine ⟨fun hr => absurd (fun j hj => all_listed hr j (by omega)) hall, fun i hi => ?_⟩
        have him := hnr i hi
        obtain ⟨h1, o, ho, hdep⟩ := mem_ready.1 hi
        have hlt : i < ops.size := (Array.getElem?_eq_some_iff.1 ho).1
        have hcount : (List.range ops.size).countP (fun j => !(listed.setIfInBounds i true).getD j true) ≤ fuel := by
          have := countP_lt (f := fun i => !listed.getD i true) (f' := fun j => !(listed.setIfInBounds i true).getD j true) (fun j hj => by
            by_cases e : i = j
            · subst e; simpa using h1
            · simpa [getD_set_ne true e] using hj) (i := i) (by simpa using h1) (by
              have : i < listed.size := by have := hJ.lsize; omega
              simp [this]) (List.range ops.size) (List.mem_range.2 hlt)
          omega
        have hmj' : ∀ j, m ≤ j → (listed.setIfInBounds i true).getD j false = false := fun j hj => by
          rw [getD_set_ne false (by omega)]; exact hmj j hj
        have hil : i < listed.size := by have := hJ.lsize; omega
        have hs := step i o him ho listed hil (getD_false_of h1) hJ.closed a w hJ.asize hJ.outside hJ.inv hX (fun e he hb o' ho' => hJ.psi e.on o' (hdep e he hb) ho')
        unfold wpOp
        rw [ho]
        rcases hs with ⟨hw, hs⟩ | ⟨hw, hv, hXn⟩
        · simp only [hw, if_true]
          exact .inl (hs _ fun v w' hR hpsi hX' => ih _ _ _ hcount hmj' (hJ.next htidy hdom (fun j x hji h => stab i o him ho listed hil hdep j x w w' hji hJ.inv h (.inr hR)) (istab i _ _ hJ.inv hR) ho hdep hpsi) hX')
        · simp only [hw]
          refine ih _ _ _ hcount hmj' (hJ.next htidy hdom (fun j x hji h => stab i o him ho listed hil hdep j x w w hji hJ.inv h (.inl rfl)) hJ.inv ho hdep ?_) (hXn _)
          have : valOf o undef = undef := by unfold valOf; cases o.dst <;> rfl
          rw [this]; exact hv
  refine wp_region_any hm (main _ _ _ _ ?_ (fun j hj => ?_) ⟨by simp, rfl, rfl, fun _ _ => rfl, h0, fun i o hl _ => ?_, fun i o hl _ => ?_⟩ (hx0 _ fun j => ?_))
  · exact Nat.le_trans List.countP_le_length (by simp)
  · by_cases e : j < ops.size <;> simp [e]
  · by_cases e : i < ops.size <;> simp [e] at hl
  · by_cases e : i < ops.size <;> simp [e] at hl
  · by_cases e : j < ops.size <;> simp [e]
end
end Go.Proofs.YtjjnhmbgffdenaaDoor
