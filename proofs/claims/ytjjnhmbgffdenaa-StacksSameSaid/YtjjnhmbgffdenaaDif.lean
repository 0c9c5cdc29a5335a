import Derived.Test.YtjjnhmbgffdenaaDifA
namespace Go.Proofs.Ytjjnhmbgffdenaa
open Go.RowKit Go.Sort
section
variable {o : Oper} {a : Act} {w : World} {K : Act → World → Prop} {Q : Exit → Act → World → Prop} {x y : Operand}
theorem wpList_append_c {ops : Array Oper} {rest : List Oper} {s t : Tmp} {B m : Nat} {v : Value} {xs : List Nm} (hg : o.guard = none) (hop : o.op = Op.call { callee := Callee.builtin Builtin.append, args := #[.tmp s, .tmp t], argTypes := #[29, 29] })
    (hs : a.eval (.tmp s) = v) (hown : w.ownsRow B 28 2 v m (cellsOf xs)) (c : Cel) (hx : a.eval (.tmp t) = c.v) (hl : c.ok w.heap.size w) (h1 : m + c.l.length ≤ 100) (hbase : B ≤ w.heap.size)
    (hK : ∀ (c' : Cel) (w' : World), c'.l = xs ++ c.l → c'.ok w'.heap.size w' → w'.ownsRow B 28 2 c'.v c'.l.length (cellsOf c'.l) → w.grownBy w' v.ownBlock → wpList Try.prog ops Q rest (a.put o.dst c'.v) w') : wpList Try.prog ops Q (o :: rest) a w := by
  refine wpList_plain hg fun K' hK' => ?_
  obtain ⟨v', w', hr, h2, h3⟩ := run_append_cel w B w.heap.size o.type v m xs hown c hl (by omega) hbase
  have hm : xs.length = m := by have := hown.1; rw [cellsOf_length] at this; omega
  obtain ⟨c', rfl, h4, h5, h6⟩ := ok_of_owns h2 (by rw [List.length_append]; omega)
  unfold Oper.wp execOp
  simp only [hop, resolve, invoke, builtin, Sem.run_bind, Sem.run_pure, Result.andThen_ok, List.map_toArray, List.map_cons, List.map_nil, hs, hx, hr]
  refine hK' _ _ (hK c' w' h4 h6 ?_ h3)
  rw [h4, List.length_append, hm]
  exact h2
end
def psiDf5 (N : Nat) (j : Nat) (k1 : Nat) (i1 : Nat) (fa : Option Addr) (fn : Nat) (fc : Nat) (ba : Option Addr) (bn : Nat) (bc : Nat) (xa : Option Addr) (xl : List Nm) (xc : Nat) : Nat → Value → World → Prop
  | 0, v9, _ => v9 = .agg #[.slice fa fn fc, .slice ba bn bc]
  | 1, v9, _ => v9 = .int .i64 j
  | 2, v9, _ => v9 = .int .u8 j
  | 3, v9, _ => v9 = .agg #[.int .u8 k1, .int .i64 ((i1 : Int) + 1)]
  | 4, v9, w9 => ∃ c2 : Cel, v9 = c2.v ∧ c2.l = xl ∧ c2.cap = c2.l.length ∧ c2.ok w9.heap.size w9
  | 5, v9, _ => v9 = .int .i64 j
  | 6, v9, _ => v9 = .pointer (some ⟨N, j, none⟩)
  | 7, v9, _ => v9 = .slice xa xl.length xc
  | 8, v9, _ => v9 = .int .i64 xl.length
  | 9, v9, w9 => ∃ g, v9 = .slice (some ⟨g, 0, none⟩) 0 xl.length ∧ N + 2 ≤ g ∧ w9.heap[g]? = some (.cells (rowNew xl.length) 28 (0, 0))
  | 10, v9, _ => v9 = .int .i64 j
  | 11, v9, _ => v9 = .pointer (some ⟨N, j, none⟩)
  | 12, v9, _ => v9 = .slice xa xl.length xc
  | _, _, _ => True
theorem psiDf5_stab (N : Nat) (j : Nat) (k1 : Nat) (i1 : Nat) (fa : Option Addr) (fn : Nat) (fc : Nat) (ba : Option Addr) (bn : Nat) (bc : Nat) (xa : Option Addr) (xl : List Nm) (xc : Nat) (i9 : Nat) (v9 : Value) (w9 w9' : World) (h : psiDf5 N j k1 i1 fa fn fc ba bn bc xa xl xc i9 v9 w9) (_hb : Below w9.heap.size w9 w9') : psiDf5 N j k1 i1 fa fn fc ba bn bc xa xl xc i9 v9 w9' := by
  match i9, h with
  | 0, h => exact h
  | 1, h => exact h
  | 2, h => exact h
  | 3, h => exact h
  | 4, h => exact (by obtain ⟨c2, h1, h2, h3, h4⟩ := h; exact ⟨c2, h1, h2, h3, (h4.below _hb).mono _hb.size⟩)
  | 5, h => exact h
  | 6, h => exact h
  | 7, h => exact h
  | 8, h => exact h
  | 9, h => exact (by obtain ⟨g, h1, h2, h3⟩ := h; exact ⟨g, h1, h2, (_hb.block g (Array.getElem?_eq_some_iff.1 h3).1).trans h3⟩)
  | 10, h => exact h
  | 11, h => exact h
  | 12, h => exact h
  | i9 + 13, _ => exact trivial
set_option maxRecDepth 100000 in
set_option maxHeartbeats 4000000 in
theorem differs_any (cs : List Cel) (d : Bds) (T : List (List Nm)) (w : World) (hl : cs.length = 80) (hT : cs.map (fun c => c.l) = T) (hok : ∀ c ∈ cs, c.ok w.heap.size w) (hd : d.ok w.heap.size w) (hr : Reads T d) (ht : Tight d) (h4 : TOk T) :
    Calls Try.prog 11 #[tabV cs, d.v] w fun e w' => e = .returned (.int .i64 0) ∧ Below w.heap.size w w' := by
  have HLC := Lib.hid hl
  have HOK := Lib.hid hok
  have HT := Lib.hid hT
  have HD := Lib.hid hd
  have HRD := Lib.hid hr
  have HTI := Lib.hid ht
  have HTO := Lib.hid h4
  clear hl hok hT hd hr ht h4
  obtain ⟨arr, harr⟩ : ∃ arr : Array Value, arr = (cs.map Cel.v).toArray := ⟨_, rfl⟩
  have HARR := Lib.hid harr
  rw [show tabV cs = .agg arr by rw [harr]; rfl]
  clear harr
  obtain ⟨⟨fa, fs, fc⟩, ⟨ba, bs, bc⟩⟩ := d
  obtain ⟨fn, hfn⟩ : ∃ n, n = fs.length := ⟨_, rfl⟩
  obtain ⟨bn, hbn⟩ : ∃ n, n = bs.length := ⟨_, rfl⟩
  simp only [Bds.v, Bed.v]
  rw [← hfn, ← hbn]
  have HFN := Lib.hid hfn
  have HBN := Lib.hid hbn
  clear hfn hbn
  go_enter Try.func11, Try.ntmps11
  go_wp2_with fail
  obtain ⟨W0, hW0⟩ : ∃ W0, ((w.alloc (.cells arr 31)).alloc (.cells #[.slice fa fn fc, .slice ba bn bc] 35)) = W0 := ⟨_, rfl⟩
  have hB0 : Below w.heap.size w W0 := by rw [← hW0]; exact below2 _ _ _
  have hM0 : Tab W0 w.heap.size 31 cs ∧ Boxed2 W0 (w.heap.size + 1) 35 (.slice fa fn fc) (.slice ba bn bc) := by
    have t : Tab (w.alloc (.cells arr 31)) w.heap.size 31 cs := ⟨by rw [HARR.out]; exact heap_alloc_new w _, HLC.out⟩
    have b := Boxed2.new (w.alloc (.cells arr 31)) 35 (.slice fa fn fc) (.slice ba bn bc)
    have t2 := t.alloc (.cells #[.slice fa fn fc, .slice ba bn bc] 35)
    rw [hW0] at b t2
    simp only [World.size_alloc] at b
    exact ⟨t2, b⟩
  rw [hW0]
  clear hW0
  have HM0 := Lib.hid hM0
  clear hM0
  go_loopg [5, 6] 81 (fun g n i wr => ∃ k : Nat, g = 81 - k ∧ k ≤ 80 ∧ n = .int .i64 0 ∧ i = .int .i64 k ∧ Hid (Tab wr w.heap.size 31 cs ∧ Boxed2 wr (w.heap.size + 1) 35 (.slice fa fn fc) (.slice ba bn bc)) ∧ Below w.heap.size w wr)
  case atStart => exact ⟨0, by omega, by omega, rfl, rfl, Lib.hid HM0.out, hB0⟩
  case round =>
    clear HM0 hB0 W0
    obtain ⟨j, hg, hj, rfl, rfl, hm, hB1⟩ := hrel
    have HM := Lib.hid hg
    clear hg
    by_cases hlt : j < 80
    · have gj : (j : Int) < 80 := by omega
      obtain ⟨⟨xa, xl, xc⟩, hx⟩ : ∃ c : Cel, cs[j]? = some c := ⟨_, List.getElem?_eq_getElem (by rw [HLC.out]; exact hlt)⟩
      have hTj : T.getD j [] = xl := by
        rw [← HT.out, List.getD_eq_getElem?_getD, List.getElem?_map, hx]; rfl
      have HTX : Hid (∀ {W : World}, Tab W w.heap.size 31 cs → W.cell? ⟨w.heap.size, j, none⟩ = some (.slice xa xl.length xc)) := Lib.hid fun h => by
        have := h.cell hlt
        rw [(List.getElem?_eq_some_iff.1 hx).2] at this
        exact this
      have HXS : Hid (xl.length ≤ 4 ∧ ∀ p ∈ xl, Named p) := Lib.hid (by
        have : xl ∈ T := by rw [← HT.out]; exact List.mem_map.2 ⟨_, List.mem_of_getElem? hx, rfl⟩
        exact HTO.out.st _ this)
      have HOX : Hid (Cel.ok wr.heap.size wr ⟨xa, xl, xc⟩) := Lib.hid (((HOK.out _ (List.mem_of_getElem? hx)).below hB1).mono hB1.size)
      obtain ⟨k1, hk1⟩ : ∃ k : Nat, k = j / 40 := ⟨_, rfl⟩
      obtain ⟨i1, hi1⟩ : ∃ i : Nat, i = j % 40 := ⟨_, rfl⟩
      have HND : Hid (Value.agg #[.int .u8 ((j / 40 : Nat) : Int), .int .i64 ((j % 40 : Nat) + 1 : Int)] = .agg #[.int .u8 k1, .int .i64 ((i1 : Int) + 1)]) := Lib.hid (by rw [hk1, hi1])
      have HU : Hid (IntKind.u8.wrap (j : Int) = (j : Int)) := Lib.hid (IntWalk.u8_in _ (by omega))
      have HJ80 : Hid (j < 80) := Lib.hid hlt
      have HX4 : Hid (xl.length ≤ 4) := Lib.hid HXS.out.1
      have HNB : Hid (w.heap.size + 2 ≤ wr.heap.size) := Lib.hid (by have := hm.out.2.lt; omega)
      have HAT : Hid (∀ w1, Below wr.heap.size wr w1 → Calls Try.prog 12 #[.agg #[.slice fa fn fc, .slice ba bn bc], .agg #[.int .u8 k1, .int .i64 ((i1 : Int) + 1)]] w1 (NewCel xl w1)) := Lib.hid fun w1 h1 => by
        have hb2 := hB1.trans (h1.mono hB1.size)
        have h := at_any ⟨⟨fa, fs, fc⟩, ⟨ba, bs, bc⟩⟩ (k1 : Int) ((i1 : Int) + 1) (by omega) _ w1 (Nat.le_refl _) ((HD.out.below hb2).mono hb2.size)
        have e : Bds.atM ⟨⟨fa, fs, fc⟩, ⟨ba, bs, bc⟩⟩ (k1 : Int) ((i1 : Int) + 1) = xl := by
          rw [HRD.out.atM (k := k1) (i := i1) (by omega) (by omega), show k1 * 40 + i1 = j by omega, hTj]
        rw [e] at h
        simp only [Bds.v, Bed.v] at h
        rw [← HFN.out, ← HBN.out] at h
        exact h
      have HBX : Hid (∀ {W : World}, Below wr.heap.size wr W → W.cell? ⟨w.heap.size + 1, 0, none⟩ = some (.slice fa fn fc) ∧ W.cell? ⟨w.heap.size + 1, 0 + 1, none⟩ = some (.slice ba bn bc)) := Lib.hid fun h => by
        have := hm.out.2.below h hm.out.2.lt
        exact ⟨this.cell0, this.cell1⟩
      have HMB : Hid (∀ {W : World}, Below wr.heap.size wr W → Tab W w.heap.size 31 cs) := Lib.hid fun h => hm.out.1.below h hm.out.1.lt
      clear hx hTj hk1 hi1
      go_wp2_with fail
      refine rgT2 13 [some 13, some 14, some 15, some 16, some 17, some 18, some 19, some 20, some 21, some 22, some 23, some 24, some 25, some 26, some 27, some 28] (psiDf5 w.heap.size j k1 i1 fa fn fc ba bn bc xa xl xc) (fun w' => Below wr.heap.size wr w') (by kernel_rfl) (by kernel_rfl) (by kernel_rfl) (by kernel_rfl) (psiDf5_stab w.heap.size j k1 i1 fa fn fc ba bn bc xa xl xc) (fun _ _ h hb => h.trans (hb.mono h.size)) (fun i9 o9 hi9 ho9 aq9 w1 hs hout hI hdep => ?_) ?_ ((Below.refl _ _).drew)
      · skip
        match i9, hi9, ho9 with
        | 0, _, ho9 =>
          obtain rfl := Option.some.inj ho9
          refine .inl ⟨rfl, fun K hK => ?_⟩
          exact ld35 rfl ((hout 3 rfl).trans rfl) (HBX.out hI).1 (HBX.out hI).2 (hK _ _ (Below.refl _ _) rfl)
        | 1, _, ho9 =>
          obtain rfl := Option.some.inj ho9
          refine .inl ⟨rfl, fun K hK => ?_⟩
          exact st_move rfl ((hout 6 rfl).trans rfl) (hK _ _ (Below.refl _ _) rfl)
        | 2, _, ho9 =>
          obtain rfl := Option.some.inj ho9
          have dq1 : (aq9.tmps.getD 14 undef) = .int .i64 j := hdep ⟨1, .data⟩ (by simp) rfl _ rfl
          refine .inl ⟨rfl, fun K hK => ?_⟩
          exact st_conv35 rfl dq1 HU.out (hK _ _ (Below.refl _ _) rfl)
        | 3, _, ho9 =>
          obtain rfl := Option.some.inj ho9
          have dq2 : (aq9.tmps.getD 15 undef) = .int .u8 j := hdep ⟨2, .data⟩ (by simp) rfl _ rfl
          refine .inl ⟨rfl, fun K hK => ?_⟩
          exact step_calls rfl enter13 (vs := #[.int .u8 j]) (vals1 dq2) ((needle_any j w1 HJ80.out).mono fun e w' hh => by
            obtain ⟨rfl, hb⟩ := hh
            exact ⟨_, rfl, hK _ _ hb HND.out⟩)
        | 4, _, ho9 =>
          obtain rfl := Option.some.inj ho9
          have dq0 : (aq9.tmps.getD 13 undef) = .agg #[.slice fa fn fc, .slice ba bn bc] := hdep ⟨0, .data⟩ (by simp) rfl _ rfl
          have dq3 : (aq9.tmps.getD 16 undef) = .agg #[.int .u8 k1, .int .i64 ((i1 : Int) + 1)] := hdep ⟨3, .data⟩ (by simp) rfl _ rfl
          refine .inl ⟨rfl, fun K hK => ?_⟩
          exact step_calls rfl enter12 (vs := #[.agg #[.slice fa fn fc, .slice ba bn bc], .agg #[.int .u8 k1, .int .i64 ((i1 : Int) + 1)]]) (vals2 dq0 dq3) ((HAT.out w1 hI).mono fun e w' hh => by
            obtain ⟨c2, rfl, hc, hb⟩ := hh
            exact ⟨_, rfl, hK _ _ hb ⟨c2, rfl, hc.out.1, by rw [hc.out.2.1, hc.out.1], hc.out.2.2⟩⟩)
        | 5, _, ho9 =>
          obtain rfl := Option.some.inj ho9
          refine .inl ⟨rfl, fun K hK => ?_⟩
          exact st_move rfl ((hout 6 rfl).trans rfl) (hK _ _ (Below.refl _ _) rfl)
        | 6, _, ho9 =>
          obtain rfl := Option.some.inj ho9
          have dq5 : (aq9.tmps.getD 18 undef) = .int .i64 j := hdep ⟨5, .data⟩ (by simp) rfl _ rfl
          refine .inl ⟨rfl, fun K hK => ?_⟩
          exact st_idx31 (k := j) rfl ((hout 2 rfl).trans rfl) dq5 (by omega) (hK _ _ (Below.refl _ _) rfl)
        | 7, _, ho9 =>
          obtain rfl := Option.some.inj ho9
          have dq6 : (aq9.tmps.getD 19 undef) = .pointer (some ⟨w.heap.size, j, none⟩) := hdep ⟨6, .data⟩ (by simp) rfl _ rfl
          refine .inl ⟨rfl, fun K hK => ?_⟩
          exact ld29 rfl dq6 (HTX.out (HMB.out hI)) (hK _ _ (Below.refl _ _) rfl)
        | 8, _, ho9 =>
          obtain rfl := Option.some.inj ho9
          have dq7 : (aq9.tmps.getD 20 undef) = .slice xa xl.length xc := hdep ⟨7, .data⟩ (by simp) rfl _ rfl
          refine .inl ⟨rfl, fun K hK => ?_⟩
          exact len29 rfl dq7 (hK _ _ (Below.refl _ _) rfl)
        | 9, _, ho9 =>
          obtain rfl := Option.some.inj ho9
          have dq8 : (aq9.tmps.getD 21 undef) = .int .i64 xl.length := hdep ⟨8, .data⟩ (by simp) rfl _ rfl
          refine .inl ⟨rfl, fun K hK => ?_⟩
          exact st_mk0 rfl dq8 (by have := HX4.out; omega) (hK _ _ (below1 _ _) ⟨_, rfl, by have := hI.size; have := HNB.out; omega, heap_alloc_new _ _⟩)
        | 10, _, ho9 =>
          obtain rfl := Option.some.inj ho9
          refine .inl ⟨rfl, fun K hK => ?_⟩
          exact st_move rfl ((hout 6 rfl).trans rfl) (hK _ _ (Below.refl _ _) rfl)
        | 11, _, ho9 =>
          obtain rfl := Option.some.inj ho9
          have dq10 : (aq9.tmps.getD 23 undef) = .int .i64 j := hdep ⟨10, .data⟩ (by simp) rfl _ rfl
          refine .inl ⟨rfl, fun K hK => ?_⟩
          exact st_idx31 (k := j) rfl ((hout 2 rfl).trans rfl) dq10 (by omega) (hK _ _ (Below.refl _ _) rfl)
        | 12, _, ho9 =>
          obtain rfl := Option.some.inj ho9
          have dq11 : (aq9.tmps.getD 24 undef) = .pointer (some ⟨w.heap.size, j, none⟩) := hdep ⟨11, .data⟩ (by simp) rfl _ rfl
          refine .inl ⟨rfl, fun K hK => ?_⟩
          exact ld29 rfl dq11 (HTX.out (HMB.out hI)) (hK _ _ (Below.refl _ _) rfl)
        | i9 + 13, hi9, _ => exact absurd hi9 (by omega)
      · intro a2 w2 hs hd hout hI hall
        obtain ⟨tmps, defers⟩ := a2
        have e_17 : ∃ c2 : Cel, (tmps.getD 17 undef) = c2.v ∧ c2.l = xl ∧ c2.cap = c2.l.length ∧ c2.ok w2.heap.size w2 := hall 4 _ (by decide) rfl
        obtain ⟨c2, e_17, hl2, hcap2, hok2⟩ := e_17
        have e_22 : ∃ g, (tmps.getD 22 undef) = .slice (some ⟨g, 0, none⟩) 0 xl.length ∧ w.heap.size + 2 ≤ g ∧ w2.heap[g]? = some (.cells (rowNew xl.length) 28 (0, 0)) := hall 9 _ (by decide) rfl
        obtain ⟨g9, e_22, hg9, hz9⟩ := e_22
        have e_25 : (tmps.getD 25 undef) = .slice xa xl.length xc := hall 12 _ (by decide) rfl
        simp only at hs hd hout
        have ef := frameAt [some 13, some 14, some 15, some 16, some 17, some 18, some 19, some 20, some 21, some 22, some 23, some 24, some 25, some 26, some 27, some 28] _ tmps hs hout
        obtain ⟨sv5, hu⟩ : ∃ u : Nat → Value, u = fun s => tmps.getD s undef := ⟨_, rfl⟩
        have eu_17 : sv5 17 = c2.v := by rw [hu]; exact e_17
        have eu_22 : sv5 22 = .slice (some ⟨g9, 0, none⟩) 0 xl.length := by rw [hu]; exact e_22
        have eu_25 : sv5 25 = .slice xa xl.length xc := by rw [hu]; exact e_25
        rw [← hu] at ef
        have ef2 : tmps = #[Value.agg arr, Value.agg #[Value.slice fa fn fc, Value.slice ba bn bc], Value.pointer (some { block := w.heap.size, off := 0 }), Value.pointer (some { block := w.heap.size + 1, off := 0 }), Value.int IntKind.i64 0, Value.int IntKind.i64 0, Value.int IntKind.i64 j, undef, undef, Value.int IntKind.i64 j, Value.bool true, u11, u12, (sv5 13), (sv5 14), (sv5 15), (sv5 16), (sv5 17), (sv5 18), (sv5 19), (sv5 20), (sv5 21), (sv5 22), (sv5 23), (sv5 24), (sv5 25), (sv5 26), (sv5 27), (sv5 28), u29, u30, undef, undef, undef, undef, undef, undef, undef, undef, undef, undef, undef, undef, undef, undef, undef, undef, undef, undef, undef, undef, undef, undef, undef, undef, undef, undef, undef, undef, undef, undef, undef, undef, undef, undef, undef, undef, undef, undef, undef, undef, undef, undef, undef, undef, undef, undef, undef, undef, undef] := ef
        subst hd
        rw [eu_17, eu_22, eu_25] at ef2
        rw [ef2]
        clear ef ef2 hu hs hout hall e_17 eu_17 e_22 eu_22 e_25 eu_25
        simp only [List.drop_succ_cons, List.drop_zero]
        have hown : w2.ownsRow (w.heap.size + 2) 28 2 (.slice (some ⟨g9, 0, none⟩) 0 xl.length) 0 (cellsOf []) := ⟨by simp [cellsOf], .inr ⟨g9, xl.length, rowNew xl.length, rfl, hg9, hz9, Nat.zero_le _, by have := HX4.out; unfold maxLen; omega, rowNew_size _, by simp [cellsOf]⟩⟩
        have HNZ := Lib.hid (hok2.ne_zero (by rw [hl2]; exact HXS.out.2) hz9)
        have HB2 : Hid (RowKit.Below w.heap.size w w2) := Lib.hid (hB1.trans (hI.mono hB1.size))
        have HT2 := Lib.hid (HMB.out hI)
        have HX2 := Lib.hid (hm.out.2.below hI hm.out.2.lt)
        have HOX2 := Lib.hid (((HOX.out).below hI).mono hI.size)
        have HOK2 := Lib.hid hok2
        have HL2 := Lib.hid hl2
        have HCAP2 := Lib.hid hcap2
        have HOW := Lib.hid hown
        have HN2 : Hid (w.heap.size + 2 ≤ w2.heap.size) := Lib.hid (by have := HNB.out; have := hI.size; omega)
        have HG9 := Lib.hid hg9
        clear hown hok2 hl2 hcap2 hz9 hI hm hB1 HTX HOX HND HU HNB HAT HBX HMB hg9
        go_wp2_with (refine wpList_append_c (B := w.heap.size + 2) (m := 0) (xs := []) rfl rfl rfl HOW.out ⟨xa, xl, xc⟩ rfl HOX2.out (by have := HX4.out; simp only; omega) HN2.out ?_; intro c3 w3 hl3 hok3 _ hgr)
        have hgr9 : w2.grownBy w3 (some g9) := hgr
        have HT3 := Lib.hid (HT2.out.kept hgr9 (by have := HG9.out; simp; omega))
        have HX3 := Lib.hid (HX2.out.kept hgr9 (by have := HG9.out; simp; omega))
        have HB3 : Hid (RowKit.Below w.heap.size w w3) := Lib.hid (HB2.out.grown hgr9 (by have := HB2.out.size; omega) (fun r e => by have := HG9.out; cases e; omega))
        have HO3 := Lib.hid ((HOK2.out.kept hgr9 (Nat.le_refl _) HNZ.out).mono hgr9.size)
        have HOK3 := Lib.hid hok3
        have HL3 : Hid (c2.l = c3.l) := Lib.hid (by rw [hl3, HL2.out]; rfl)
        clear hgr hgr9 hl3 hok3 HOK2 HOW HT2 HX2 HB2 HOX2 HNZ
        go_wp2_with (go_at_call 20; refine (same_any1 (c := c2) (d := c3) w3.heap.size w3 (Nat.le_refl _) HO3.out HOK3.out HL3.out HCAP2.out).mono ?_; rintro e w4 ⟨rfl, hb4⟩)
        go_roundg (gk - 1)
        case measure => have := HM.out; omega
        case rel => exact ⟨j + 1, by have := HM.out; omega, by omega, rfl, by go_num, Lib.hid ⟨HT3.out.below hb4 HT3.out.lt, HX3.out.below hb4 HX3.out.lt⟩, HB3.out.trans (hb4.mono HB3.out.size)⟩
    · obtain rfl : j = 80 := by omega
      have gj : ¬ ((80 : Int) < 80) := by omega
      have hx := hm.out.2
      have c0 := hx.cell0
      have c1 := hx.cell1
      have hbf := (HD.out.1.below hB1)
      have hbb := (HD.out.2.below hB1)
      obtain rfl : fc = fn := by have := HTI.out.f; simp only at this; rw [HFN.out, this]
      obtain rfl : bc = bn := by have := HTI.out.b; simp only at this; rw [HBN.out, this]
      have HBFF : Hid (fc = 0 ∨ ∃ (m b o : Nat) (xa : Option Addr) (xl : List Nm) (xc : Nat), fc = m + 1 ∧ fa = some ⟨b, o, none⟩ ∧ wr.cell? ⟨b, o + m, none⟩ = some (.slice xa xl.length xc) ∧ xl ≠ []) := Lib.hid (by
        rcases Nat.eq_zero_or_pos fc with h0 | h0
        · exact .inl h0
        · obtain ⟨m, hm⟩ : ∃ m, fc = m + 1 := ⟨fc - 1, by omega⟩
          have hl : fs.length = m + 1 := by rw [← HFN.out, hm]
          obtain ⟨b, o, e, _, hc⟩ := Bed.ok.last hbf hl
          refine .inr ⟨m, b, o, _, _, _, hm, e, hc, ?_⟩
          exact HTI.out.fl _ (by simp only; omega) (by simp only [hl, Nat.add_sub_cancel]; exact List.getElem?_eq_getElem (by omega)))
      have HBBB : Hid (bc = 0 ∨ ∃ (m b o : Nat) (xa : Option Addr) (xl : List Nm) (xc : Nat), bc = m + 1 ∧ ba = some ⟨b, o, none⟩ ∧ wr.cell? ⟨b, o + m, none⟩ = some (.slice xa xl.length xc) ∧ xl ≠ []) := Lib.hid (by
        rcases Nat.eq_zero_or_pos bc with h0 | h0
        · exact .inl h0
        · obtain ⟨m, hm⟩ : ∃ m, bc = m + 1 := ⟨bc - 1, by omega⟩
          have hl : bs.length = m + 1 := by rw [← HBN.out, hm]
          obtain ⟨b, o, e, _, hc⟩ := Bed.ok.last hbb hl
          refine .inr ⟨m, b, o, _, _, _, hm, e, hc, ?_⟩
          exact HTI.out.bl _ (by simp only; omega) (by simp only [hl, Nat.add_sub_cancel]; exact List.getElem?_eq_getElem (by omega)))
      have HFIN := Lib.hid hB1
      have HD40 : Hid (fc ≤ 40 ∧ bc ≤ 40) := Lib.hid ⟨by rw [HFN.out]; exact HRD.out.f40, by rw [HBN.out]; exact HRD.out.b40⟩
      clear hm hx hbf hbb HD HRD HTI HFN HBN HM HTO HOK HT HLC HARR hj hlt
      rcases HBFF.out with rfl | ⟨m, b, o, xa, xl, xc, rfl, rfl, hc, hne⟩ <;> rcases HBBB.out with rfl | ⟨m', b', o', xa', xl', xc', rfl, rfl, hc', hne'⟩ <;> clear HBFF HBBB
      · go_wp2_with fail
        go_ret
        exact ⟨rfl, HFIN.out⟩
      · have hq' : ((xl'.length : Int) == 0) = false := by simp; exact hne'
        have hm40 : m' < 40 := by have := HD40.out; omega
        clear hne'
        go_wp2_with fail
        go_ret
        exact ⟨rfl, HFIN.out⟩
      · have hq : ((xl.length : Int) == 0) = false := by simp; exact hne
        have hm40 : m < 40 := by have := HD40.out; omega
        clear hne
        go_wp2_with fail
        go_ret
        exact ⟨rfl, HFIN.out⟩
      · have hq : ((xl.length : Int) == 0) = false := by simp; exact hne
        have hq' : ((xl'.length : Int) == 0) = false := by simp; exact hne'
        have hm40 : m < 40 := by have := HD40.out; omega
        have hm40' : m' < 40 := by have := HD40.out; omega
        clear hne hne'
        go_wp2_with fail
        go_ret
        exact ⟨rfl, HFIN.out⟩
end Go.Proofs.Ytjjnhmbgffdenaa
