import Derived.Test.YtjjnhmbgffdenaaDoorGaj
namespace Go.Proofs.YtjjnhmbgffdenaaDoor
open Go.RowKit Go.Sort
theorem below_owns {w w' : World} {N e k n : Nat} {v : Value} {xs : List Value} (h : w.ownsRow N e k v n xs) (hb : Below w.heap.size w w') : w'.ownsRow N e k v n xs := by
  refine ⟨h.1, h.2.imp id ?_⟩
  rintro ⟨g, cap, cur, h1, h2, h3, h4⟩
  exact ⟨g, cap, cur, h1, h2, (hb.block g (Array.getElem?_eq_some_iff.1 h3).1).trans h3, h4⟩
theorem enter29 (args : Array Value) (w : World) : (callFunc 29 args).run Tryd.prog w = .ok (.enter 29 args) w := by kernel_rfl
theorem none_or (x : Option Nat) : x = none ∨ x ≠ none := by cases x <;> simp
theorem own_ok {w : World} {B e n : Nat} {c : Cel} (h : w.ownsRow B e 2 c.v n (cellsOf c.l)) (hl : c.l.length ≤ 100) : c.ok w.heap.size w := by
  obtain ⟨c2, e1, e2, _, e4⟩ := ok_of_owns h hl
  obtain ⟨a, l, cap⟩ := c2
  obtain ⟨a', l', cap'⟩ := c
  simp only [Cel.v, Value.slice.injEq] at e1
  simp only at e2
  obtain ⟨rfl, -, rfl⟩ := e1
  subst e2
  exact e4
section
variable {o : Oper} {a : Act} {w : World} {K : Act → World → Prop} {Q : Exit → Act → World → Prop}
theorem st_build40 {x y z : Operand} {py pn nb na sp : Int} (hop : o.op = .build 40 #[(0, x), (1, y), (2, z)]) (hx : a.eval x = .agg #[.int .u8 py, .int .i64 pn]) (hy : a.eval y = .agg #[.int .u8 nb, .int .i64 na]) (hz : a.eval z = .int .i64 sp)
    (hK : K (a.put o.dst (.agg #[.int .u8 py, .int .i64 pn, .int .u8 nb, .int .i64 na, .int .i64 sp])) w) : o.wp Tryd.prog a w K Q := by
  refine step_val (v := .agg #[.int .u8 py, .int .i64 pn, .int .u8 nb, .int .i64 na, .int .i64 sp]) ?_ hK
  simp only [execOp, hop]
  simp [hx, hy, hz]
  go_simp
theorem st_bs40 {x : Operand} (h : Hd) (hop : o.op = .buildSlice 28 1 #[(0, x)]) (hx : a.eval x = h.v)
    (hK : K (a.put o.dst (.slice (some ⟨w.heap.size, 0, none⟩) 1 1)) (w.alloc (.cells h.enc.toArray 40))) : o.wp Tryd.prog a w K Q := by
  refine step_valw (v := .slice (some ⟨w.heap.size, 0, none⟩) 1 1) (w' := w.alloc (.cells h.enc.toArray 40)) ?_ hK
  unfold Hd.v at hx
  simp only [execOp, hop]
  simp [hx]
  go_simp
  rfl
end
/-- What a place of the beds holds, with its needle and spot. -/
def elH (T : List (List Nm)) (r : Int) (j : Nat) : List Hd := (T.getD j []).map fun p => ⟨p, ((j / 40 : Nat) : Int), ((j % 40 : Nat) : Int) + 1, spotM ((j / 40 : Nat) : Int) (((j % 40 : Nat) : Int) + 1) r⟩
def upH (T : List (List Nm)) (r : Int) (n : Nat) : List Hd := (List.range n).flatMap (elH T r)
theorem upH_succ (T : List (List Nm)) (r : Int) (n : Nat) : upH T r (n + 1) = upH T r n ++ elH T r n := by
  unfold upH
  rw [List.range_succ, List.flatMap_append]
  simp
theorem elH_len (T : List (List Nm)) (hT : TOk T) (r : Int) (n : Nat) : (elH T r n).length ≤ 4 := by
  unfold elH
  rw [List.length_map]
  rcases getD_mem_or (l := T) n with h | h
  · exact (hT.st _ h).1
  · rw [h]; simp
theorem upH_len (T : List (List Nm)) (hT : TOk T) (r : Int) : ∀ n, (upH T r n).length ≤ 4 * n
  | 0 => by simp [upH]
  | n + 1 => by
    rw [upH_succ, List.length_append]
    have := upH_len T hT r n
    have := elH_len T hT r n
    omega
theorem reads_at {T : List (List Nm)} {d : Bds} (h : Reads T d) {k i : Nat} (hk : k < 2) (hi : i < 40) : d.atM k ((i : Int) + 1) = T.getD (k * 40 + i) [] := by
  unfold Bds.atM
  rw [if_pos (isN_mk (by omega))]
  have := h.cel k hk i hi
  simpa using this
def psiOr12 (PB : Nat) (PN : Nat) (v : Value) (r : Int) (py : Int) (pn : Int) (nb : Int) (na : Int) : Nat → Value → World → Prop
  | 0, v9, _ => v9 = v
  | 1, v9, _ => v9 = .agg #[.int .u8 py, .int .i64 pn]
  | 2, v9, _ => v9 = .agg #[.int .u8 nb, .int .i64 na]
  | 3, v9, _ => v9 = .agg #[.int .u8 nb, .int .i64 na]
  | 4, v9, _ => v9 = .int .i64 r
  | 5, v9, _ => v9 = .int .i64 (spotM nb na r)
  | 6, v9, _ => v9 = .agg #[.int .u8 py, .int .i64 pn, .int .u8 nb, .int .i64 na, .int .i64 (spotM nb na r)]
  | 7, v9, w9 => ∃ b, v9 = .slice (some ⟨b, 0, none⟩) 1 1 ∧ b < w9.heap.size ∧ w9.heap[b]? = some (.cells (Hd.enc ⟨⟨py, pn⟩, nb, na, spotM nb na r⟩).toArray 40 (0, 0))
  | _, _, _ => True
theorem psiOr12_stab (PB : Nat) (PN : Nat) (v : Value) (r : Int) (py : Int) (pn : Int) (nb : Int) (na : Int) (i9 : Nat) (v9 : Value) (w9 w9' : World) (h : psiOr12 PB PN v r py pn nb na i9 v9 w9) (_hb : Below w9.heap.size w9 w9') : psiOr12 PB PN v r py pn nb na i9 v9 w9' := by
  match i9, h with
  | 0, h => exact h
  | 1, h => exact h
  | 2, h => exact h
  | 3, h => exact h
  | 4, h => exact h
  | 5, h => exact h
  | 6, h => exact h
  | 7, h => exact (by obtain ⟨b, h1, h2, h3⟩ := h; exact ⟨b, h1, Nat.lt_of_lt_of_le h2 _hb.size, (_hb.block b h2).trans h3⟩)
  | i9 + 8, _ => exact trivial
set_option maxRecDepth 100000 in
set_option maxHeartbeats 8000000 in
/-- All loops, place by place, before they are sorted; then sorted. -/
theorem ordered_any (d : Bds) (T : List (List Nm)) (r : Int) (B : Nat) (w : World) (hB : B ≤ w.heap.size) (hd : d.ok B w) (hr : Reads T d) (hT : TOk T) :
    Calls Tryd.prog 24 #[d.v, .int .i64 r] w fun e w' => ∃ v l, e = .returned v ∧ Mrg Hd.s (upH T r 80) l ∧ l.length ≤ 320 ∧ w'.ownsRow w.heap.size 40 5 v l.length (rcells Hd.enc l) ∧ Below w.heap.size w w' := by
  have HD := Lib.hid (hd.mono hB)
  have HR := Lib.hid hr
  have HT := Lib.hid hT
  obtain ⟨V, hV⟩ : ∃ V, d.v = V := ⟨_, rfl⟩
  have hat : ∀ (W : World), Below w.heap.size w W → ∀ (k i : Nat), k < 2 → i < 40 → Calls Tryd.prog 30 #[d.v, .agg #[.int .u8 k, .int .i64 ((i : Int) + 1)]] W (NewAt (T.getD (k * 40 + i) []) W) := fun W hb k i hk hi => by
    have h := at_own d k ((i : Int) + 1) (by omega) w.heap.size W hb.size (HD.out.below hb)
    rw [reads_at HR.out hk hi] at h
    exact h
  obtain ⟨⟨fa, fs, fc⟩, ⟨ba, bs, bc⟩⟩ := d
  simp only [Bds.v, Bed.v] at hat hV ⊢
  have HAT := Lib.hid hat
  clear hat hd hr hT HD HR hV V
  go_enter Tryd.func24, Tryd.ntmps24
  go_wp2
  have hbx := Boxed2.new w 26 (.slice fa fs.length fc) (.slice ba bs.length bc)
  have hb0 := below1 w (.cells #[.slice fa fs.length fc, .slice ba bs.length bc] 26)
  obtain ⟨W0, hW0⟩ : ∃ W, w.alloc (.cells #[.slice fa fs.length fc, .slice ba bs.length bc] 26) = W := ⟨_, rfl⟩
  rw [hW0] at hbx hb0 ⊢
  have HBX := Lib.hid hbx
  have hsz0 : w.heap.size < W0.heap.size := hbx.lt
  clear hW0 hbx
  go_loopg [5, 13] 3 (fun g v s13 wr => ∃ k : Nat, s13 = .int .i64 k ∧ k ≤ 2 ∧ g = 3 - k ∧ Hid (wr.ownsRow (w.heap.size + 1) 40 5 v (upH T r (k * 40)).length (rcells Hd.enc (upH T r (k * 40)))) ∧ RowKit.Below (w.heap.size + 1) W0 wr)
  case atStart => exact ⟨0, rfl, by omega, rfl, Lib.hid (World.ownsRow_nil _ _ _ _), Below.refl _ _⟩
  case round =>
    obtain ⟨k, rfl, hk, hg, HO, hbr⟩ := hrel
    have HG := Lib.hid hg
    clear hg
    by_cases hk2 : k < 2
    · have hkz : (k : Int) < 2 := by omega
      have hix : ∀ w, (Instr.index 99 (.agg #[.int .u8 0, .int .u8 1]) (.int .i64 k)).run Tryd.prog w = .ok (.int .u8 k) w := by
        intro w
        obtain rfl | rfl : k = 0 ∨ k = 1 := by omega
        · kernel_rfl
        · kernel_rfl
      go_wp2_with fail
      go_loopg [5, 16] 41 (fun g v s16 wr => ∃ i : Nat, s16 = .int .i64 i ∧ i ≤ 40 ∧ g = 41 - i ∧ Hid (wr.ownsRow (w.heap.size + 1) 40 5 v (upH T r (k * 40 + i)).length (rcells Hd.enc (upH T r (k * 40 + i)))) ∧ RowKit.Below (w.heap.size + 1) W0 wr)
      case atStart => exact ⟨0, rfl, by omega, rfl, HO, hbr⟩
      case round =>
        clear HO hbr
        obtain ⟨i, rfl, hi, hg, HO, hbr⟩ := hrel
        have HG2 := Lib.hid hg
        clear hg
        by_cases hi2 : i < 40
        · have hiz : (i : Int) < 40 := by omega
          have hbx := HBX.out.below hbr (Nat.lt_succ_self _)
          have x0 := (hbx.alloc (.cells #[.int .u8 k, .int .i64 ((i : Int) + 1)] 38)).cell0
          have x1 := (hbx.alloc (.cells #[.int .u8 k, .int .i64 ((i : Int) + 1)] 38)).cell1
          have bN := Boxed2.new wr 38 (.int .u8 k) (.int .i64 ((i : Int) + 1))
          have hb9 : RowKit.Below (w.heap.size + 1) W0 (wr.alloc (.cells #[.int .u8 k, .int .i64 ((i : Int) + 1)] 38)) := hbr.alloc (by have := hbr.size; omega) _
          have HC := Lib.hid (HAT.out (wr.alloc (.cells #[.int .u8 k, .int .i64 ((i : Int) + 1)] 38)) (hb0.trans (hb9.mono (by omega))) k i hk2 hi2)
          have HOa := Lib.hid (HO.out.alloc (.cells #[.int .u8 k, .int .i64 ((i : Int) + 1)] 38))
          have hlt9 : wr.heap.size < (wr.alloc (.cells #[.int .u8 k, .int .i64 ((i : Int) + 1)] 38)).heap.size := by simp
          have hsep : ∀ g, u5.ownBlock = some g → g ≠ wr.heap.size := fun g hg => by have := (HO.out.lt g hg).2; omega
          have HSP := Lib.hid hsep
          obtain ⟨xl, hxl⟩ : ∃ xl, T.getD (k * 40 + i) [] = xl := ⟨_, rfl⟩
          have hl4 : xl.length ≤ 4 := by
            rw [← hxl]
            rcases getD_mem_or (l := T) (k * 40 + i) with h | h
            · exact (HT.out.st _ h).1
            · rw [h]; simp
          have HXL := Lib.hid hxl
          obtain ⟨w9, hw9⟩ : ∃ w9, wr.alloc (.cells #[.int .u8 k, .int .i64 ((i : Int) + 1)] 38) = w9 := ⟨_, rfl⟩
          rw [hxl] at HC
          clear hbx HO hsep hxl
          rw [hw9] at x0 x1 bN hb9 HC HOa hlt9
          go_upto_region 9 with fail
          clear hw9
          have n0 := bN.cell0
          have n1 := bN.cell1
          have x2 := x0
          go_wp2_with (go_at_call 30; refine HC.out.mono ?_; rintro e w3 ⟨⟨ca, cl, cc⟩, rfl, hc3, hb3⟩; clear x0 x1 x2 n0 n1; simp only [Cel.v])
          obtain ⟨rfl, hcc, hok, hown⟩ := hc3.out
          (try dsimp only at hcc); (try dsimp only at hl4); (try dsimp only at HXL); (try dsimp only at hown)
          have hb3' : RowKit.Below (w.heap.size + 1) W0 w3 := hb9.trans (hb3.mono (by have := hb9.size; omega))
          have HBN := Lib.hid (bN.below hb3 hlt9)
          have HOb := Lib.hid (below_owns HOa.out hb3)
          have HCL := Lib.hid hown
          have h93 : wr.heap.size < w3.heap.size := Nat.lt_of_lt_of_le hlt9 hb3.size
          have hsp0 : Hid (∀ g, u5.ownBlock = some g → g ≠ wr.heap.size ∧ (Cel.v ⟨ca, cl, cc⟩).ownBlock ≠ some g) := Lib.hid (fun g hg => ⟨HSP.out g hg, fun e => by
            have e1 := (HOa.out.lt g hg).2
            have e2 := (hown.lt g e).1
            omega⟩)
          clear hc3 hcc hok hown HC HOa HSP hb9 bN hb3 hlt9
          generalize wr.heap.size = B9 at HBN hsp0 h93 ⊢
          obtain ⟨nl, hnl⟩ : ∃ n, cl.length = n := ⟨_, rfl⟩
          have HNL := Lib.hid hnl
          rw [hnl] at hl4 ⊢
          clear hnl
          go_loopg [5, 27] 5 (fun g v s27 wx => ∃ m : Nat, s27 = .int .i64 m ∧ m ≤ nl ∧ g = 5 - m ∧ Hid (wx.ownsRow (w.heap.size + 1) 40 5 v (upH T r (k * 40 + i) ++ (elH T r (k * 40 + i)).take m).length (rcells Hd.enc (upH T r (k * 40 + i) ++ (elH T r (k * 40 + i)).take m))) ∧ Hid (Boxed2 wx B9 38 (.int .u8 k) (.int .i64 ((i : Int) + 1))) ∧ Hid (wx.ownsRow w9.heap.size 35 2 (Cel.v ⟨ca, cl, cc⟩) cl.length (cellsOf cl)) ∧ Hid (∀ g, v.ownBlock = some g → g ≠ B9 ∧ (Cel.v ⟨ca, cl, cc⟩).ownBlock ≠ some g) ∧ RowKit.Below (w.heap.size + 1) W0 wx)
          case atStart => exact ⟨0, rfl, by omega, rfl, by simpa using HOb, HBN, HCL, hsp0, hb3'⟩
          case round =>
            clear HOb HBN HCL hsp0 hb3'
            obtain ⟨m, rfl, hm, hg, HO, HBN, HCL, HSP, hbr3⟩ := hrel
            have HG3 := Lib.hid hg
            clear hg
            by_cases hm2 : m < nl
            · have hmz : (m : Int) < (nl : Int) := by omega
              have hcl := own_ok HCL.out (by simp only; rw [HNL.out]; omega)
              obtain ⟨b, o, ha, hb, t0, t1⟩ := hcl.at (i := m) (by simp only; rw [HNL.out]; exact hm2)
              obtain rfl : ca = some ⟨b, o, none⟩ := ha
              obtain ⟨p, hp⟩ : ∃ p, cl[m]'(by rw [HNL.out]; exact hm2) = p := ⟨_, rfl⟩
              simp only [hp] at t0 t1
              have hst : (elH T r (k * 40 + i)).take (m + 1) = (elH T r (k * 40 + i)).take m ++ [⟨p, k, (i : Int) + 1, spotM k ((i : Int) + 1) r⟩] := by
                have hlen : m < (elH T r (k * 40 + i)).length := by unfold elH; rw [List.length_map, HXL.out, HNL.out]; exact hm2
                rw [List.take_succ_eq_append_getElem hlen]
                congr 2
                simp only [elH, List.getElem_map, HXL.out, hp]
                rw [show (k * 40 + i) / 40 = k by omega, show (k * 40 + i) % 40 = i by omega]
              have HST := Lib.hid hst
              have hb11 : ∀ {W : World}, RowKit.Below (wr.alloc (.cells #[.int .u8 p.y, .int .i64 p.n] 35)).heap.size (wr.alloc (.cells #[.int .u8 p.y, .int .i64 p.n] 35)) W → Boxed2 W wr.heap.size 35 (.int .u8 p.y) (.int .i64 p.n) := fun h => (Boxed2.new wr 35 _ _).below h (by simp)
              have HI0 : Hid (∀ {W : World}, RowKit.Below (wr.alloc (.cells #[.int .u8 p.y, .int .i64 p.n] 35)).heap.size (wr.alloc (.cells #[.int .u8 p.y, .int .i64 p.n] 35)) W → W.cell? ⟨wr.heap.size, 0, none⟩ = some (.int .u8 p.y)) := Lib.hid fun h => (hb11 h).cell0
              have HI1 : Hid (∀ {W : World}, RowKit.Below (wr.alloc (.cells #[.int .u8 p.y, .int .i64 p.n] 35)).heap.size (wr.alloc (.cells #[.int .u8 p.y, .int .i64 p.n] 35)) W → W.cell? ⟨wr.heap.size, 0 + 1, none⟩ = some (.int .i64 p.n)) := Lib.hid fun h => (hb11 h).cell1
              have hbn : ∀ {W : World}, RowKit.Below (wr.alloc (.cells #[.int .u8 p.y, .int .i64 p.n] 35)).heap.size (wr.alloc (.cells #[.int .u8 p.y, .int .i64 p.n] 35)) W → Boxed2 W B9 38 (.int .u8 k) (.int .i64 ((i : Int) + 1)) := fun h => (HBN.out.alloc (.cells #[.int .u8 p.y, .int .i64 p.n] 35)).below h (by have := HBN.out.lt; simp; omega)
              have HN0 : Hid (∀ {W : World}, RowKit.Below (wr.alloc (.cells #[.int .u8 p.y, .int .i64 p.n] 35)).heap.size (wr.alloc (.cells #[.int .u8 p.y, .int .i64 p.n] 35)) W → W.cell? ⟨B9, 0, none⟩ = some (.int .u8 k)) := Lib.hid fun h => (hbn h).cell0
              have HN1 : Hid (∀ {W : World}, RowKit.Below (wr.alloc (.cells #[.int .u8 p.y, .int .i64 p.n] 35)).heap.size (wr.alloc (.cells #[.int .u8 p.y, .int .i64 p.n] 35)) W → W.cell? ⟨B9, 0 + 1, none⟩ = some (.int .i64 ((i : Int) + 1))) := Lib.hid fun h => (hbn h).cell1
              have HNB : Hid ((0 : Int) ≤ (k : Int)) := Lib.hid (by omega)
              clear hb11 hbn hst hp hcl
              go_upto_region 12 with fail
              refine rgT2s 5 8 [some 31, some 32, some 33, some 34, some 35, some 36, some 37, some 38, some 39, some 5] (psiOr12 wr.heap.size B9 u5 r p.y p.n (k : Int) ((i : Int) + 1)) (fun w' => RowKit.Below (wr.alloc (.cells #[.int .u8 p.y, .int .i64 p.n] 35)).heap.size (wr.alloc (.cells #[.int .u8 p.y, .int .i64 p.n] 35)) w') (by kernel_rfl) (by kernel_rfl) (by kernel_rfl) (by kernel_rfl) (by kernel_rfl) (psiOr12_stab wr.heap.size B9 u5 r p.y p.n (k : Int) ((i : Int) + 1)) (fun _ _ h hb => h.trans (hb.mono h.size)) (fun i9 o9 hi9 ho9 aq9 w1 hs hout hold hI hdep => ?_) ?_ ((Below.refl _ _).drew)
              · skip
                match i9, hi9, ho9 with
                | 0, _, ho9 =>
                  obtain rfl := Option.some.inj ho9
                  refine .inl ⟨rfl, fun K hK => ?_⟩
                  exact st_move rfl (hold.trans rfl) (hK _ _ (Below.refl _ _) rfl)
                | 1, _, ho9 =>
                  obtain rfl := Option.some.inj ho9
                  refine .inl ⟨rfl, fun K hK => ?_⟩
                  exact ld28 rfl ((hout 11 rfl).trans rfl) (HI0.out hI) (HI1.out hI) (hK _ _ (Below.refl _ _) rfl)
                | 2, _, ho9 =>
                  obtain rfl := Option.some.inj ho9
                  refine .inl ⟨rfl, fun K hK => ?_⟩
                  exact ld26 rfl ((hout 9 rfl).trans rfl) (HN0.out hI) (HN1.out hI) (hK _ _ (Below.refl _ _) rfl)
                | 3, _, ho9 =>
                  obtain rfl := Option.some.inj ho9
                  refine .inl ⟨rfl, fun K hK => ?_⟩
                  exact ld26 rfl ((hout 9 rfl).trans rfl) (HN0.out hI) (HN1.out hI) (hK _ _ (Below.refl _ _) rfl)
                | 4, _, ho9 =>
                  obtain rfl := Option.some.inj ho9
                  refine .inl ⟨rfl, fun K hK => ?_⟩
                  exact st_move rfl ((hout 1 rfl).trans rfl) (hK _ _ (Below.refl _ _) rfl)
                | 5, _, ho9 =>
                  obtain rfl := Option.some.inj ho9
                  have dq3 : (aq9.tmps.getD 34 undef) = .agg #[.int .u8 (k : Int), .int .i64 ((i : Int) + 1)] := hdep ⟨3, .data⟩ (by simp) rfl _ rfl
                  have dq4 : (aq9.tmps.getD 35 undef) = .int .i64 r := hdep ⟨4, .data⟩ (by simp) rfl _ rfl
                  refine .inl ⟨rfl, fun K hK => ?_⟩
                  exact step_calls rfl enter29 (vals2 dq3 dq4) ((spot_any (k : Int) ((i : Int) + 1) r w1 HNB.out).mono fun e w' hh => by
                    obtain ⟨rfl, hb⟩ := hh
                    exact ⟨_, rfl, hK _ _ hb rfl⟩)
                | 6, _, ho9 =>
                  obtain rfl := Option.some.inj ho9
                  have dq1 : (aq9.tmps.getD 32 undef) = .agg #[.int .u8 p.y, .int .i64 p.n] := hdep ⟨1, .data⟩ (by simp) rfl _ rfl
                  have dq2 : (aq9.tmps.getD 33 undef) = .agg #[.int .u8 (k : Int), .int .i64 ((i : Int) + 1)] := hdep ⟨2, .data⟩ (by simp) rfl _ rfl
                  have dq5 : (aq9.tmps.getD 36 undef) = .int .i64 (spotM (k : Int) ((i : Int) + 1) r) := hdep ⟨5, .data⟩ (by simp) rfl _ rfl
                  refine .inl ⟨rfl, fun K hK => ?_⟩
                  exact st_build40 rfl dq1 dq2 dq5 (hK _ _ (Below.refl _ _) rfl)
                | 7, _, ho9 =>
                  obtain rfl := Option.some.inj ho9
                  have dq6 : (aq9.tmps.getD 37 undef) = .agg #[.int .u8 p.y, .int .i64 p.n, .int .u8 (k : Int), .int .i64 ((i : Int) + 1), .int .i64 (spotM (k : Int) ((i : Int) + 1) r)] := hdep ⟨6, .data⟩ (by simp) rfl _ rfl
                  refine .inl ⟨rfl, fun K hK => ?_⟩
                  exact st_bs40 ⟨⟨p.y, p.n⟩, (k : Int), ((i : Int) + 1), spotM (k : Int) ((i : Int) + 1) r⟩ rfl dq6 (hK _ _ (below1 _ _) ⟨_, rfl, by simp, heap_alloc_new _ _⟩)
                | i9 + 8, hi9, _ => exact absurd hi9 (by omega)
              · intro a2 w2 hs hd hout hold hI hall
                obtain ⟨tmps, defers⟩ := a2
                have e_31 : (tmps.getD 31 undef) = u5 := hall 0 _ (by decide) rfl
                have e_38 : ∃ b, (tmps.getD 38 undef) = .slice (some ⟨b, 0, none⟩) 1 1 ∧ b < w2.heap.size ∧ w2.heap[b]? = some (.cells (Hd.enc ⟨⟨p.y, p.n⟩, (k : Int), ((i : Int) + 1), spotM (k : Int) ((i : Int) + 1) r⟩).toArray 40 (0, 0)) := hall 7 _ (by decide) rfl
                obtain ⟨b12, e_38, hlb12, hrb12⟩ := e_38
                simp only at hs hd hout
                have ef := frameAt [some 31, some 32, some 33, some 34, some 35, some 36, some 37, some 38, some 39, some 5] _ tmps hs hout
                obtain ⟨sv12, hu⟩ : ∃ u : Nat → Value, u = fun s => tmps.getD s undef := ⟨_, rfl⟩
                have eu_31 : sv12 31 = u5 := by rw [hu]; exact e_31
                have eu_38 : sv12 38 = .slice (some ⟨b12, 0, none⟩) 1 1 := by rw [hu]; exact e_38
                rw [← hu] at ef
                have ef2 : tmps = #[Value.agg #[Value.slice fa fs.length fc, Value.slice ba bs.length bc], Value.int IntKind.i64 r, Value.pointer (some { block := w.heap.size, off := 0 }), undef, Value.slice none 0 0, (sv12 5), undef, Value.int IntKind.u8 k, Value.int IntKind.i64 i, Value.pointer (some { block := B9, off := 0 }), undef, Value.pointer (some { block := wr.heap.size, off := 0 }), Value.agg #[Value.int IntKind.u8 0, Value.int IntKind.u8 1], Value.int IntKind.i64 k, Value.bool true, Value.int IntKind.u8 k, Value.int IntKind.i64 i, Value.bool true, Value.int IntKind.i64 i, Value.int IntKind.u8 k, Value.int IntKind.i64 i, Value.int IntKind.i64 (i + 1), Value.agg #[Value.int IntKind.u8 k, Value.int IntKind.i64 (i + 1)], Value.agg #[Value.slice fa fs.length fc, Value.slice ba bs.length bc], Value.agg #[Value.int IntKind.u8 k, Value.int IntKind.i64 (i + 1)], Value.slice (some { block := b, off := o }) nl cc, Value.int IntKind.i64 nl, Value.int IntKind.i64 m, Value.bool true, Value.pointer (some { block := b, off := o + m * 2 }), Value.agg #[Value.int IntKind.u8 p.y, Value.int IntKind.i64 p.n], (sv12 31), (sv12 32), (sv12 33), (sv12 34), (sv12 35), (sv12 36), (sv12 37), (sv12 38), (sv12 39), u40, u41, u42, undef, undef, undef] := ef
                subst hd
                rw [eu_31, eu_38] at ef2
                rw [ef2]
                clear ef ef2 hu hs hout hall e_31 eu_31 e_38 eu_38
                simp only [List.drop_succ_cons, List.drop_zero]
                have hO2 := Lib.hid (below_owns (HO.out.alloc (.cells #[.int .u8 p.y, .int .i64 p.n] 35)) hI)
                have hrc : Rec Hd.enc w2 b12 ⟨⟨p.y, p.n⟩, k, (i : Int) + 1, spotM k ((i : Int) + 1) r⟩ := fun j u hj => by
                  rw [cell_of_row w2 b12 j _ 40 (0, 0) hrb12]
                  simpa using hj
                have hbr4 : RowKit.Below (w.heap.size + 1) W0 w2 := (hbr3.alloc (by have := hbr3.size; omega) _).trans (hI.mono (by have := hbr3.size; simp; omega))
                have HBN2 := Lib.hid ((HBN.out.alloc (.cells #[.int .u8 p.y, .int .i64 p.n] 35)).below hI (by have := HBN.out.lt; simp; omega))
                have HCL2 := Lib.hid (below_owns (HCL.out.alloc (.cells #[.int .u8 p.y, .int .i64 p.n] 35)) hI)
                have hlen := upH_len T HT.out r (k * 40 + i)
                have hsz2 : wr.heap.size < w2.heap.size := by have := hI.size; simp at this; omega
                have hl3 : (upH T r (k * 40 + i) ++ (elH T r (k * 40 + i)).take m).length ≤ 100000 := by rw [List.length_append, List.length_take]; omega
                clear hlen HI0 HI1 HN0 HN1 HNB hI hrb12 hlb12
                refine wpList_app_rec kdHd (v := u5) (x := ⟨⟨p.y, p.n⟩, k, (i : Int) + 1, spotM k ((i : Int) + 1) r⟩) rfl rfl rfl rfl hO2.out hrc hl3 (by have := hbr4.size; omega) ?_
                intro v4 w4 hw4 hg4 hat4
                have HW4 := Lib.hid hw4
                have HB4 := Lib.hid (HBN2.out.kept hg4 (fun e => (HSP.out _ e.symm).1 rfl))
                have HC4 := Lib.hid (HCL2.out.kept hg4 (by
                  cases h : u5.ownBlock with
                  | none => exact none_or _
                  | some g => exact .inr (HSP.out g h).2))
                have hbr5 := hbr4.grown hg4 (by have := hbr4.size; omega) (fun g e => (hO2.out.lt g e).1)
                have HS4 : Hid (∀ g, v4.ownBlock = some g → g ≠ B9 ∧ (Cel.v ⟨some ⟨b, o, none⟩, cl, cc⟩).ownBlock ≠ some g) := Lib.hid (fun g hg => by
                  rcases hat4 with e | e
                  · exact HSP.out g (by rw [← e]; exact hg)
                  · obtain rfl : w2.heap.size = g := Option.some.inj (e.symm.trans hg)
                    refine ⟨by have := HBN2.out.lt; omega, fun e2 => ?_⟩
                    have := (HCL2.out.lt _ e2).2
                    omega)
                clear hw4 hg4 hat4 hrc HBN2 HCL2 hO2 hbr4 hsz2
                go_wp2_with fail
                go_roundg (5 - (m + 1))
                case measure => have := HG3.out; omega
                case rel => exact ⟨m + 1, by go_num, by omega, by omega, Lib.hid (by
                  rw [HST.out, ← List.append_assoc]; exact HW4.out), HB4, HC4, HS4, hbr5⟩
            · obtain rfl : m = nl := by omega
              have hmz : ¬ ((m : Int) < (m : Int)) := by omega
              have HO2 : Hid (wr.ownsRow (w.heap.size + 1) 40 5 u5 (upH T r (k * 40 + (i + 1))).length (rcells Hd.enc (upH T r (k * 40 + (i + 1))))) := Lib.hid (by
                have h1 : (elH T r (k * 40 + i)).take m = elH T r (k * 40 + i) := List.take_of_length_le (by unfold elH; rw [List.length_map, HXL.out, HNL.out]; exact Nat.le_refl _)
                have h2 := HO.out
                rw [h1, ← upH_succ] at h2
                exact h2)
              clear HO
              go_wp2_with fail
              go_roundg (41 - (i + 1))
              case measure => have := HG2.out; omega
              case rel => exact ⟨i + 1, by go_num, by omega, by omega, HO2, hbr3⟩
        · obtain rfl : i = 40 := by omega
          have hiz : ¬ (((40 : Nat) : Int) < 40) := by omega
          have hiz2 : ¬ ((40 : Int) < 40) := by omega
          have HO2 : Hid (wr.ownsRow (w.heap.size + 1) 40 5 u5 (upH T r ((k + 1) * 40)).length (rcells Hd.enc (upH T r ((k + 1) * 40)))) := Lib.hid (by
            rw [show (k + 1) * 40 = k * 40 + 40 by omega]; exact HO.out)
          clear HO
          go_wp2_with fail
          go_roundg (3 - (k + 1))
          case measure => have := HG.out; omega
          case rel => exact ⟨k + 1, by go_num, by omega, by omega, HO2, hbr⟩
    · obtain rfl : k = 2 := by omega
      have hkz : ¬ (((2 : Nat) : Int) < 2) := by omega
      have hkz2 : ¬ ((2 : Int) < 2) := by omega
      have hlen := upH_len T HT.out r 80
      have hs := sortStable_own (w.heap.size + 1) u5 (upH T r 80) wr HO.out (by omega)
      have HSRT := Lib.hid hs
      clear hs HO
      go_wp2_with (go_at_call 52; refine HSRT.out.mono ?_; rintro e w5 ⟨rfl, l', h1, h2, h3, h4⟩)
      go_ret
      exact ⟨_, l', rfl, h1, by omega, ownsRow_mono h3 (by omega), hb0.trans ((hbr.trans (h4.mono (by have := hbr.size; omega))).mono (by omega))⟩
end Go.Proofs.YtjjnhmbgffdenaaDoor
namespace Go.Proofs.YtjjnhmbgffdenaaDoor
open Go.Shelf Go.RowKit Go.Lib Go.Sort Go.Proofs
variable {α : Type} [Inhabited α]
set_option maxHeartbeats 4000000 in
set_option maxRecDepth 1000000 in
theorem rev_k62 (k : Nat) (zE : ∀ w, (Go.sizeOf 40).run Tryd.prog w = .ok k w) (enc : α → List Value) (blk cap n : Nat) (d : Array α) (w : World) (R : RowK enc k w blk 0 d) (hn : d.size = n) (hsz : n < 4611686018427387904) :
    Calls Tryd.prog 62 #[.slice (some ⟨blk, 0, none⟩) n cap] w fun e w' => e = .returned (.tuple #[]) ∧ ∃ d' : Array α, d'.toList = d.toList.reverse ∧ d'.size = n ∧ SWK enc k w blk 0 d' w' := by
  have aE := aE40
  have mixed := mix40
  have S0 : Aside (SWK enc k w blk 0 d w) := SWK.start R.hH
  have HN := Lib.hid hn
  clear hn
  go_enter Tryd.func62, Tryd.ntmps62
  go_wp2
  go_loopg [2, 3] (n + 1) (fun g1 s2 s3 wr => ∃ (i : Nat) (jz : Int) (P M S : List α) (dk : Array α), s2 = .int .i64 i ∧ s3 = .int .i64 jz ∧ jz = (n : Int) - 1 - i ∧ i + i ≤ n ∧ n - i ≤ g1 ∧ Hid (d.toList = P ++ (M ++ S) ∧ P.length = i ∧ S.length = i ∧ dk.toList = S.reverse ++ (M ++ P.reverse)) ∧ dk.size = n ∧ Aside (SWK enc k w blk 0 dk wr))
  case atStart => exact ⟨0, _, [], d.toList, [], d, rfl, by go_num, by omega, by omega, by omega, Lib.hid ⟨by simp, rfl, rfl, by simp⟩, HN.out, S0⟩
  case round =>
    clear S0
    obtain ⟨i, jz, P, M, S, dk, rfl, rfl, hjz, hi, hg, H, hdk, S1⟩ := hrel
    have hML : Hid (M.length = n - i - i) := Lib.hid (by
      have e1 := congrArg List.length H.out.1
      have e2 := HN.out
      have e3 := H.out.2.1
      have e4 := H.out.2.2.1
      simp only [Array.length_toList, List.length_append] at e1
      omega)
    by_cases hlt : (i : Int) < jz
    · obtain ⟨j, hj⟩ : ∃ j : Nat, jz = j := ⟨jz.toNat, by omega⟩
      subst hj
      have hij : i < j := by omega
      have hjn : j = n - 1 - i := by omega
      obtain ⟨u, M1, rfl⟩ : ∃ u M1, M = u :: M1 := by
        cases M with
        | nil => have := hML.out; simp at this; omega
        | cons a b => exact ⟨a, b, rfl⟩
      obtain ⟨M2, v, rfl⟩ := snoc_of (l := M1) (fun e => by have := hML.out; rw [e] at this; simp at this; omega)
      have HL2 : Hid (M2.length = n - i - i - 2) := Lib.hid (by have := hML.out; simp at this; omega)
      have hlz := hlt
      have hjn2 : j < n := by omega
      have hdd : dk.size = d.size := by rw [hdk, HN.out]
      have rj1 : IntKind.i64.wrap ((j : Int) - 1) = (j : Int) - 1 := by rw [IntKind.wrap_i64]; omega
      have ri1 : IntKind.i64.wrap ((i : Int) + 1) = (i : Int) + 1 := by rw [IntKind.wrap_i64]; omega
      have HJN := Lib.hid hjn
      have HIJ := Lib.hid hij
      clear hjz hjn hML
      have ea2a : ((i : Int)).toNat = i := by omega
      have pa2a : (0 : Int) ≤ (i : Int) := by omega
      have ba2a : (i : Int) < (n : Int) := by omega
      have ra2a : IntKind.i64.wrap ((i : Int)) = (i : Int) := by rw [IntKind.wrap_i64]; omega
      have ea2b : ((j : Int)).toNat = j := by omega
      have pa2b : (0 : Int) ≤ (j : Int) := by omega
      have ba2b : (j : Int) < (n : Int) := by omega
      have ra2b : IntKind.i64.wrap ((j : Int)) = (j : Int) := by rw [IntKind.wrap_i64]; omega
      have S3 : Aside (SWK enc k w blk 0 (swp dk (i) (j)) ((wr.drew.setCells blk (0 + (i) * k) (enc dk[j]!)).setCells blk (0 + (j) * k) (enc dk[i]!))) := S1.out.swapped R (i) (j) (by omega) (by omega)
      have l2a := S1.out.ld1 R (by omega) Tryd.prog (i) (by omega)
      have l2b := S1.out.ld1 R (by omega) Tryd.prog (j) (by omega)
      have s2a := S1.out.st1 R (by omega) Tryd.prog (i) (by omega) dk[j]!
      have s2b := S1.out.st2 R (by omega) Tryd.prog (i) (j) (by omega) (by omega) dk[j]! dk[i]!
      have n2a : (enc dk[i]!).length = k := R.hk _
      have n2b : (enc dk[j]!).length = k := R.hk _
      simp only [Nat.zero_add] at S3 l2a l2b s2a s2b
      generalize enc dk[i]! = cI2 at S3 l2a s2b n2a
      generalize enc dk[j]! = cJ2 at S3 l2b s2a s2b n2b
      clear S1
      go_wp2_with fail
      go_big_region_o
      clear l2a l2b s2a s2b
      generalize (wr.drew.setCells blk (i * k) cJ2).setCells blk (j * k) cI2 = w3 at S3 ⊢
      go_wp2_with fail
      go_roundg (n - (i + 1))
      case measure => have := HJN.out; have := HIJ.out; omega
      case rel =>
        refine ⟨i + 1, _, P ++ [u], M2, v :: S, swp dk i j, by go_num, rfl, by have := HJN.out; omega, by have := HJN.out; have := HIJ.out; omega, by omega, Lib.hid ⟨by rw [H.out.1]; simp, by simp [H.out.2.1], by simp [H.out.2.2.1], ?_⟩, by rw [swp_size]; exact hdk, S3⟩
        have := swp_list (d := dk) (P := S.reverse) (Q := M2) (R := P.reverse) (u := u) (v := v) (by rw [H.out.2.2.2]; simp) (i := i) (j := j) (by simp [H.out.2.2.1]) (by have := HL2.out; have := HJN.out; have := HIJ.out; have := H.out.2.2.1; simp; omega)
        rw [this]; simp
    · have hlz : ¬ ((i : Int) < jz) := hlt
      go_wp2
      go_end0
      refine ⟨rfl, dk, ?_, hdk, S1.out⟩
      rw [H.out.2.2.2, H.out.1]
      have hM : M.reverse = M := by
        have h1 := hML.out
        match M, h1 with
        | [], _ => rfl
        | [x], _ => rfl
        | x :: y :: M, h1 => simp only [List.length_cons] at h1; omega
      simp [hM]
theorem aE47 : ∀ w, (isAgg 47).run Tryd.prog w = .ok true w := fun _ => by kernel_rfl
set_option maxHeartbeats 4000000 in
set_option maxRecDepth 1000000 in
theorem rev_k69 (k : Nat) (zE : ∀ w, (Go.sizeOf 47).run Tryd.prog w = .ok k w) (enc : α → List Value) (blk cap n : Nat) (d : Array α) (w : World) (R : RowK enc k w blk 0 d) (hn : d.size = n) (hsz : n < 4611686018427387904) :
    Calls Tryd.prog 69 #[.slice (some ⟨blk, 0, none⟩) n cap] w fun e w' => e = .returned (.tuple #[]) ∧ ∃ d' : Array α, d'.toList = d.toList.reverse ∧ d'.size = n ∧ SWK enc k w blk 0 d' w' := by
  have aE := aE47
  have mixed := mix40
  have S0 : Aside (SWK enc k w blk 0 d w) := SWK.start R.hH
  have HN := Lib.hid hn
  clear hn
  go_enter Tryd.func69, Tryd.ntmps69
  go_wp2
  go_loopg [2, 3] (n + 1) (fun g1 s2 s3 wr => ∃ (i : Nat) (jz : Int) (P M S : List α) (dk : Array α), s2 = .int .i64 i ∧ s3 = .int .i64 jz ∧ jz = (n : Int) - 1 - i ∧ i + i ≤ n ∧ n - i ≤ g1 ∧ Hid (d.toList = P ++ (M ++ S) ∧ P.length = i ∧ S.length = i ∧ dk.toList = S.reverse ++ (M ++ P.reverse)) ∧ dk.size = n ∧ Aside (SWK enc k w blk 0 dk wr))
  case atStart => exact ⟨0, _, [], d.toList, [], d, rfl, by go_num, by omega, by omega, by omega, Lib.hid ⟨by simp, rfl, rfl, by simp⟩, HN.out, S0⟩
  case round =>
    clear S0
    obtain ⟨i, jz, P, M, S, dk, rfl, rfl, hjz, hi, hg, H, hdk, S1⟩ := hrel
    have hML : Hid (M.length = n - i - i) := Lib.hid (by
      have e1 := congrArg List.length H.out.1
      have e2 := HN.out
      have e3 := H.out.2.1
      have e4 := H.out.2.2.1
      simp only [Array.length_toList, List.length_append] at e1
      omega)
    by_cases hlt : (i : Int) < jz
    · obtain ⟨j, hj⟩ : ∃ j : Nat, jz = j := ⟨jz.toNat, by omega⟩
      subst hj
      have hij : i < j := by omega
      have hjn : j = n - 1 - i := by omega
      obtain ⟨u, M1, rfl⟩ : ∃ u M1, M = u :: M1 := by
        cases M with
        | nil => have := hML.out; simp at this; omega
        | cons a b => exact ⟨a, b, rfl⟩
      obtain ⟨M2, v, rfl⟩ := snoc_of (l := M1) (fun e => by have := hML.out; rw [e] at this; simp at this; omega)
      have HL2 : Hid (M2.length = n - i - i - 2) := Lib.hid (by have := hML.out; simp at this; omega)
      have hlz := hlt
      have hjn2 : j < n := by omega
      have hdd : dk.size = d.size := by rw [hdk, HN.out]
      have rj1 : IntKind.i64.wrap ((j : Int) - 1) = (j : Int) - 1 := by rw [IntKind.wrap_i64]; omega
      have ri1 : IntKind.i64.wrap ((i : Int) + 1) = (i : Int) + 1 := by rw [IntKind.wrap_i64]; omega
      have HJN := Lib.hid hjn
      have HIJ := Lib.hid hij
      clear hjz hjn hML
      have ea2a : ((i : Int)).toNat = i := by omega
      have pa2a : (0 : Int) ≤ (i : Int) := by omega
      have ba2a : (i : Int) < (n : Int) := by omega
      have ra2a : IntKind.i64.wrap ((i : Int)) = (i : Int) := by rw [IntKind.wrap_i64]; omega
      have ea2b : ((j : Int)).toNat = j := by omega
      have pa2b : (0 : Int) ≤ (j : Int) := by omega
      have ba2b : (j : Int) < (n : Int) := by omega
      have ra2b : IntKind.i64.wrap ((j : Int)) = (j : Int) := by rw [IntKind.wrap_i64]; omega
      have S3 : Aside (SWK enc k w blk 0 (swp dk (i) (j)) ((wr.drew.setCells blk (0 + (i) * k) (enc dk[j]!)).setCells blk (0 + (j) * k) (enc dk[i]!))) := S1.out.swapped R (i) (j) (by omega) (by omega)
      have l2a := S1.out.ld1 R (by omega) Tryd.prog (i) (by omega)
      have l2b := S1.out.ld1 R (by omega) Tryd.prog (j) (by omega)
      have s2a := S1.out.st1 R (by omega) Tryd.prog (i) (by omega) dk[j]!
      have s2b := S1.out.st2 R (by omega) Tryd.prog (i) (j) (by omega) (by omega) dk[j]! dk[i]!
      have n2a : (enc dk[i]!).length = k := R.hk _
      have n2b : (enc dk[j]!).length = k := R.hk _
      simp only [Nat.zero_add] at S3 l2a l2b s2a s2b
      generalize enc dk[i]! = cI2 at S3 l2a s2b n2a
      generalize enc dk[j]! = cJ2 at S3 l2b s2a s2b n2b
      clear S1
      go_wp2_with fail
      go_big_region_o
      clear l2a l2b s2a s2b
      generalize (wr.drew.setCells blk (i * k) cJ2).setCells blk (j * k) cI2 = w3 at S3 ⊢
      go_wp2_with fail
      go_roundg (n - (i + 1))
      case measure => have := HJN.out; have := HIJ.out; omega
      case rel =>
        refine ⟨i + 1, _, P ++ [u], M2, v :: S, swp dk i j, by go_num, rfl, by have := HJN.out; omega, by have := HJN.out; have := HIJ.out; omega, by omega, Lib.hid ⟨by rw [H.out.1]; simp, by simp [H.out.2.1], by simp [H.out.2.2.1], ?_⟩, by rw [swp_size]; exact hdk, S3⟩
        have := swp_list (d := dk) (P := S.reverse) (Q := M2) (R := P.reverse) (u := u) (v := v) (by rw [H.out.2.2.2]; simp) (i := i) (j := j) (by simp [H.out.2.2.1]) (by have := HL2.out; have := HJN.out; have := HIJ.out; have := H.out.2.2.1; simp; omega)
        rw [this]; simp
    · have hlz : ¬ ((i : Int) < jz) := hlt
      go_wp2
      go_end0
      refine ⟨rfl, dk, ?_, hdk, S1.out⟩
      rw [H.out.2.2.2, H.out.1]
      have hM : M.reverse = M := by
        have h1 := hML.out
        match M, h1 with
        | [], _ => rfl
        | [x], _ => rfl
        | x :: y :: M, h1 => simp only [List.length_cons] at h1; omega
      simp [hM]
theorem aE35 : ∀ w, (isAgg 35).run Tryd.prog w = .ok true w := fun _ => by kernel_rfl
set_option maxHeartbeats 4000000 in
set_option maxRecDepth 1000000 in
theorem rev_k64 (k : Nat) (zE : ∀ w, (Go.sizeOf 35).run Tryd.prog w = .ok k w) (enc : α → List Value) (blk cap n : Nat) (d : Array α) (w : World) (R : RowK enc k w blk 0 d) (hn : d.size = n) (hsz : n < 4611686018427387904) :
    Calls Tryd.prog 64 #[.slice (some ⟨blk, 0, none⟩) n cap] w fun e w' => e = .returned (.tuple #[]) ∧ ∃ d' : Array α, d'.toList = d.toList.reverse ∧ d'.size = n ∧ SWK enc k w blk 0 d' w' := by
  have aE := aE35
  have mixed := mix40
  have S0 : Aside (SWK enc k w blk 0 d w) := SWK.start R.hH
  have HN := Lib.hid hn
  clear hn
  go_enter Tryd.func64, Tryd.ntmps64
  go_wp2
  go_loopg [2, 3] (n + 1) (fun g1 s2 s3 wr => ∃ (i : Nat) (jz : Int) (P M S : List α) (dk : Array α), s2 = .int .i64 i ∧ s3 = .int .i64 jz ∧ jz = (n : Int) - 1 - i ∧ i + i ≤ n ∧ n - i ≤ g1 ∧ Hid (d.toList = P ++ (M ++ S) ∧ P.length = i ∧ S.length = i ∧ dk.toList = S.reverse ++ (M ++ P.reverse)) ∧ dk.size = n ∧ Aside (SWK enc k w blk 0 dk wr))
  case atStart => exact ⟨0, _, [], d.toList, [], d, rfl, by go_num, by omega, by omega, by omega, Lib.hid ⟨by simp, rfl, rfl, by simp⟩, HN.out, S0⟩
  case round =>
    clear S0
    obtain ⟨i, jz, P, M, S, dk, rfl, rfl, hjz, hi, hg, H, hdk, S1⟩ := hrel
    have hML : Hid (M.length = n - i - i) := Lib.hid (by
      have e1 := congrArg List.length H.out.1
      have e2 := HN.out
      have e3 := H.out.2.1
      have e4 := H.out.2.2.1
      simp only [Array.length_toList, List.length_append] at e1
      omega)
    by_cases hlt : (i : Int) < jz
    · obtain ⟨j, hj⟩ : ∃ j : Nat, jz = j := ⟨jz.toNat, by omega⟩
      subst hj
      have hij : i < j := by omega
      have hjn : j = n - 1 - i := by omega
      obtain ⟨u, M1, rfl⟩ : ∃ u M1, M = u :: M1 := by
        cases M with
        | nil => have := hML.out; simp at this; omega
        | cons a b => exact ⟨a, b, rfl⟩
      obtain ⟨M2, v, rfl⟩ := snoc_of (l := M1) (fun e => by have := hML.out; rw [e] at this; simp at this; omega)
      have HL2 : Hid (M2.length = n - i - i - 2) := Lib.hid (by have := hML.out; simp at this; omega)
      have hlz := hlt
      have hjn2 : j < n := by omega
      have hdd : dk.size = d.size := by rw [hdk, HN.out]
      have rj1 : IntKind.i64.wrap ((j : Int) - 1) = (j : Int) - 1 := by rw [IntKind.wrap_i64]; omega
      have ri1 : IntKind.i64.wrap ((i : Int) + 1) = (i : Int) + 1 := by rw [IntKind.wrap_i64]; omega
      have HJN := Lib.hid hjn
      have HIJ := Lib.hid hij
      clear hjz hjn hML
      have ea2a : ((i : Int)).toNat = i := by omega
      have pa2a : (0 : Int) ≤ (i : Int) := by omega
      have ba2a : (i : Int) < (n : Int) := by omega
      have ra2a : IntKind.i64.wrap ((i : Int)) = (i : Int) := by rw [IntKind.wrap_i64]; omega
      have ea2b : ((j : Int)).toNat = j := by omega
      have pa2b : (0 : Int) ≤ (j : Int) := by omega
      have ba2b : (j : Int) < (n : Int) := by omega
      have ra2b : IntKind.i64.wrap ((j : Int)) = (j : Int) := by rw [IntKind.wrap_i64]; omega
      have S3 : Aside (SWK enc k w blk 0 (swp dk (i) (j)) ((wr.drew.setCells blk (0 + (i) * k) (enc dk[j]!)).setCells blk (0 + (j) * k) (enc dk[i]!))) := S1.out.swapped R (i) (j) (by omega) (by omega)
      have l2a := S1.out.ld1 R (by omega) Tryd.prog (i) (by omega)
      have l2b := S1.out.ld1 R (by omega) Tryd.prog (j) (by omega)
      have s2a := S1.out.st1 R (by omega) Tryd.prog (i) (by omega) dk[j]!
      have s2b := S1.out.st2 R (by omega) Tryd.prog (i) (j) (by omega) (by omega) dk[j]! dk[i]!
      have n2a : (enc dk[i]!).length = k := R.hk _
      have n2b : (enc dk[j]!).length = k := R.hk _
      simp only [Nat.zero_add] at S3 l2a l2b s2a s2b
      generalize enc dk[i]! = cI2 at S3 l2a s2b n2a
      generalize enc dk[j]! = cJ2 at S3 l2b s2a s2b n2b
      clear S1
      go_wp2_with fail
      go_big_region_o
      clear l2a l2b s2a s2b
      generalize (wr.drew.setCells blk (i * k) cJ2).setCells blk (j * k) cI2 = w3 at S3 ⊢
      go_wp2_with fail
      go_roundg (n - (i + 1))
      case measure => have := HJN.out; have := HIJ.out; omega
      case rel =>
        refine ⟨i + 1, _, P ++ [u], M2, v :: S, swp dk i j, by go_num, rfl, by have := HJN.out; omega, by have := HJN.out; have := HIJ.out; omega, by omega, Lib.hid ⟨by rw [H.out.1]; simp, by simp [H.out.2.1], by simp [H.out.2.2.1], ?_⟩, by rw [swp_size]; exact hdk, S3⟩
        have := swp_list (d := dk) (P := S.reverse) (Q := M2) (R := P.reverse) (u := u) (v := v) (by rw [H.out.2.2.2]; simp) (i := i) (j := j) (by simp [H.out.2.2.1]) (by have := HL2.out; have := HJN.out; have := HIJ.out; have := H.out.2.2.1; simp; omega)
        rw [this]; simp
    · have hlz : ¬ ((i : Int) < jz) := hlt
      go_wp2
      go_end0
      refine ⟨rfl, dk, ?_, hdk, S1.out⟩
      rw [H.out.2.2.2, H.out.1]
      have hM : M.reverse = M := by
        have h1 := hML.out
        match M, h1 with
        | [], _ => rfl
        | [x], _ => rfl
        | x :: y :: M, h1 => simp only [List.length_cons] at h1; omega
      simp [hM]
theorem zE40' : ∀ w, (Go.sizeOf 40).run Tryd.prog w = .ok 5 w := fun _ => by kernel_rfl
/-- slices.Reverse on a row of one's own. -/
theorem rev_own62 (N : Nat) (v : Value) (l : List Hd) (w : World) (hown : w.ownsRow N 40 5 v l.length (rcells Hd.enc l)) (hl : l.length < 100000) :
    Calls Tryd.prog 62 #[v] w fun e w' => e = .returned (.tuple #[]) ∧ w'.ownsRow N 40 5 v l.reverse.length (rcells Hd.enc l.reverse) ∧ Below N w w' := by
  rcases hown.2 with ⟨rfl, h0⟩ | ⟨g, cap, cur, rfl, hb, hg, hn, hm, hs, ht⟩
  · obtain rfl : l = [] := List.eq_nil_of_length_eq_zero h0
    have hK : Calls Tryd.prog 62 #[.slice none 0 0] w fun e w' => e = .returned (.tuple #[]) ∧ w' = w := by
      clear hown h0 hl
      go_enter Tryd.func62, Tryd.ntmps62
      go_wp2
      refine wp_loop_rounds 1 ?_
      rw [rounds_succ]
      go_wp2
      go_end0
      exact ⟨rfl, rfl⟩
    refine hK.mono ?_
    rintro e w' ⟨rfl, rfl⟩
    exact ⟨rfl, hown, Below.refl _ _⟩
  · have hH := holdsK_of_own (N := N) (cap := cap) Hd.enc 5 Hd.enc_len hg ht
    have hlt : g < w.heap.size := (Array.getElem?_eq_some_iff.1 hg).1
    have R : RowK Hd.enc 5 w g 0 l.toArray := ⟨Hd.enc_len, Hd.enc_one, hH, hlt⟩
    refine (rev_k62 5 zE40' Hd.enc g cap l.length l.toArray w R (by simp) (by omega)).mono ?_
    rintro e w' ⟨rfl, d', h1, h2, h3⟩
    have h4 := SWK.own (cap := cap) Hd.enc_len h3 hb hg ht h2 hn hm hs
    have h5 : d'.toList = l.reverse := by rw [h1]
    rw [h5] at h4
    exact ⟨rfl, by rw [List.length_reverse]; exact h4, SWK.below h3 hb hlt⟩
theorem zE47' : ∀ w, (Go.sizeOf 47).run Tryd.prog w = .ok 4 w := fun _ => by kernel_rfl
/-- slices.Reverse on a row of one's own. -/
theorem rev_own69 (N : Nat) (v : Value) (l : List Pa) (w : World) (hown : w.ownsRow N 47 4 v l.length (rcells Pa.enc l)) (hl : l.length < 100000) :
    Calls Tryd.prog 69 #[v] w fun e w' => e = .returned (.tuple #[]) ∧ w'.ownsRow N 47 4 v l.reverse.length (rcells Pa.enc l.reverse) ∧ Below N w w' := by
  rcases hown.2 with ⟨rfl, h0⟩ | ⟨g, cap, cur, rfl, hb, hg, hn, hm, hs, ht⟩
  · obtain rfl : l = [] := List.eq_nil_of_length_eq_zero h0
    have hK : Calls Tryd.prog 69 #[.slice none 0 0] w fun e w' => e = .returned (.tuple #[]) ∧ w' = w := by
      clear hown h0 hl
      go_enter Tryd.func69, Tryd.ntmps69
      go_wp2
      refine wp_loop_rounds 1 ?_
      rw [rounds_succ]
      go_wp2
      go_end0
      exact ⟨rfl, rfl⟩
    refine hK.mono ?_
    rintro e w' ⟨rfl, rfl⟩
    exact ⟨rfl, hown, Below.refl _ _⟩
  · have hH := holdsK_of_own (N := N) (cap := cap) Pa.enc 4 Pa.enc_len hg ht
    have hlt : g < w.heap.size := (Array.getElem?_eq_some_iff.1 hg).1
    have R : RowK Pa.enc 4 w g 0 l.toArray := ⟨Pa.enc_len, Pa.enc_one, hH, hlt⟩
    refine (rev_k69 4 zE47' Pa.enc g cap l.length l.toArray w R (by simp) (by omega)).mono ?_
    rintro e w' ⟨rfl, d', h1, h2, h3⟩
    have h4 := SWK.own (cap := cap) Pa.enc_len h3 hb hg ht h2 hn hm hs
    have h5 : d'.toList = l.reverse := by rw [h1]
    rw [h5] at h4
    exact ⟨rfl, by rw [List.length_reverse]; exact h4, SWK.below h3 hb hlt⟩
/-- A name's cells. -/
def Nm.enc (p : Nm) : List Value := [.int .u8 p.y, .int .i64 p.n]
theorem Nm.enc_len (h : Nm) : h.enc.length = 2 := rfl
instance : Inhabited Nm := ⟨⟨0, 0⟩⟩
theorem Nm.enc_one (h : Nm) : ∀ v ∈ h.enc, v.oneCell' = true := by
  intro v hv
  simp only [Nm.enc, List.mem_cons, List.not_mem_nil, or_false] at hv
  rcases hv with rfl | rfl <;> rfl
theorem rcells_nm (l : List Nm) : rcells Nm.enc l = cellsOf l := rfl
theorem zE35' : ∀ w, (Go.sizeOf 35).run Tryd.prog w = .ok 2 w := fun _ => by kernel_rfl
theorem rev_own64 (N : Nat) (v : Value) (l : List Nm) (w : World) (hown : w.ownsRow N 35 2 v l.length (rcells Nm.enc l)) (hl : l.length < 100000) :
    Calls Tryd.prog 64 #[v] w fun e w' => e = .returned (.tuple #[]) ∧ w'.ownsRow N 35 2 v l.reverse.length (rcells Nm.enc l.reverse) ∧ Below N w w' := by
  rcases hown.2 with ⟨rfl, h0⟩ | ⟨g, cap, cur, rfl, hb, hg, hn, hm, hs, ht⟩
  · obtain rfl : l = [] := List.eq_nil_of_length_eq_zero h0
    have hK : Calls Tryd.prog 64 #[.slice none 0 0] w fun e w' => e = .returned (.tuple #[]) ∧ w' = w := by
      clear hown h0 hl
      go_enter Tryd.func64, Tryd.ntmps64
      go_wp2
      refine wp_loop_rounds 1 ?_
      rw [rounds_succ]
      go_wp2
      go_end0
      exact ⟨rfl, rfl⟩
    refine hK.mono ?_
    rintro e w' ⟨rfl, rfl⟩
    exact ⟨rfl, hown, Below.refl _ _⟩
  · have hH := holdsK_of_own (N := N) (cap := cap) Nm.enc 2 Nm.enc_len hg ht
    have hlt : g < w.heap.size := (Array.getElem?_eq_some_iff.1 hg).1
    have R : RowK Nm.enc 2 w g 0 l.toArray := ⟨Nm.enc_len, Nm.enc_one, hH, hlt⟩
    refine (rev_k64 2 zE35' Nm.enc g cap l.length l.toArray w R (by simp) (by omega)).mono ?_
    rintro e w' ⟨rfl, d', h1, h2, h3⟩
    have h4 := SWK.own (cap := cap) Nm.enc_len h3 hb hg ht h2 hn hm hs
    have h5 : d'.toList = l.reverse := by rw [h1]
    rw [h5] at h4
    exact ⟨rfl, by rw [List.length_reverse]; exact h4, SWK.below h3 hb hlt⟩
end Go.Proofs.YtjjnhmbgffdenaaDoor
namespace Go.Proofs.YtjjnhmbgffdenaaDoor
open Go.RowKit Go.Sort
variable {α : Type}
/-- A list of records lies in a block. -/
def Lies (enc : α → List Value) (N : Nat) (w : World) (ao : Option Addr) (l : List α) : Prop := l = [] ∨ ∃ b, ao = some ⟨b, 0, none⟩ ∧ N ≤ b ∧ b < w.heap.size ∧ ∀ j u, (rcells enc l)[j]? = some u → w.cell? ⟨b, j, none⟩ = some u
theorem Lies.below {enc : α → List Value} {N : Nat} {w w' : World} {ao : Option Addr} {l : List α} (h : Lies enc N w ao l) (hb : Below w.heap.size w w') : Lies enc N w' ao l :=
  h.imp id fun ⟨b, h1, h2, h3, h4⟩ => ⟨b, h1, h2, Nat.lt_of_lt_of_le h3 hb.size, fun j u hj => (hb.cell (p := ⟨b, j, none⟩) h3).trans (h4 j u hj)⟩
theorem Lies.mono {enc : α → List Value} {N M : Nat} {w : World} {ao : Option Addr} {l : List α} (h : Lies enc N w ao l) (hM : M ≤ N) : Lies enc M w ao l :=
  h.imp id fun ⟨b, h1, h2, h3⟩ => ⟨b, h1, Nat.le_trans hM h2, h3⟩
theorem lies_of_own {enc : α → List Value} {k : Nat} (hk : ∀ x, (enc x).length = k) {N e n : Nat} {w : World} {v : Value} {l : List α} (h : w.ownsRow N e k v n (rcells enc l)) (hn : n = l.length) : ∃ ao cap, v = .slice ao l.length cap ∧ Lies enc N w ao l ∧ l.length ≤ cap := by
  subst hn
  rcases h.2 with ⟨rfl, h0⟩ | ⟨g, cap, cur, rfl, hb, hg, hn, hm, hs, ht⟩
  · exact ⟨none, 0, by rw [h0], .inl (List.eq_nil_of_length_eq_zero h0), by omega⟩
  · refine ⟨some ⟨g, 0, none⟩, cap, rfl, .inr ⟨g, rfl, hb, (Array.getElem?_eq_some_iff.1 hg).1, fun j u hj => ?_⟩, hn⟩
    have hj2 : j < l.length * k := by
      have := (List.getElem?_eq_some_iff.1 hj).1
      rwa [rcells_length enc k hk] at this
    rw [cell_of_row w g j cur e (0, 0) hg]
    rw [← ht, List.getElem?_take, if_pos hj2] at hj
    simpa using hj
theorem Lies.at {enc : α → List Value} {k : Nat} (hk : ∀ x, (enc x).length = k) {N : Nat} {w : World} {ao : Option Addr} {l : List α} (h : Lies enc N w ao l) {i : Nat} (hi : i < l.length) : ∃ b, ao = some ⟨b, 0, none⟩ ∧ b < w.heap.size ∧ ∀ c u, c < k → (enc l[i])[c]? = some u → w.cell? ⟨b, i * k + c, none⟩ = some u := by
  rcases h with h | ⟨b, h1, _, h2, h3⟩
  · rw [h] at hi; simp at hi
  · exact ⟨b, h1, h2, fun c u hc hu => h3 _ _ (by rw [rcells_at enc k hk l i _ c (List.getElem?_eq_getElem hi) hc]; exact hu)⟩
/-- Five cells of a held loop. -/
def Five (w : World) (b o : Nat) (h : Hd) : Prop := w.cell? ⟨b, o, none⟩ = some (.int .u8 h.id.y) ∧ w.cell? ⟨b, o + 1, none⟩ = some (.int .i64 h.id.n) ∧ w.cell? ⟨b, o + 2, none⟩ = some (.int .u8 h.b) ∧ w.cell? ⟨b, o + 3, none⟩ = some (.int .i64 h.a) ∧ w.cell? ⟨b, o + 4, none⟩ = some (.int .i64 h.s)
theorem Lies.five {N : Nat} {w : World} {ao : Option Addr} {l : List Hd} (h : Lies Hd.enc N w ao l) {i : Nat} (hi : i < l.length) : ∃ b, ao = some ⟨b, 0, none⟩ ∧ b < w.heap.size ∧ Five w b (i * 5) l[i] := by
  obtain ⟨b, h1, h2, h3⟩ := h.at Hd.enc_len hi
  exact ⟨b, h1, h2, h3 0 _ (by decide) rfl, h3 1 _ (by decide) rfl, h3 2 _ (by decide) rfl, h3 3 _ (by decide) rfl, h3 4 _ (by decide) rfl⟩
theorem clip_any23 (ao : Option Addr) (n c : Nat) (h : n ≤ c) (h0 : ao = none → c = 0) (hp : ∀ a, ao = some a → ∃ b, a = ⟨b, 0, none⟩) (w : World) : Calls Tryd.prog 23 #[.slice ao n c] w fun e w' => e = .returned (.slice ao n n) ∧ w' = w := by
  cases ao with
  | none =>
    obtain rfl := h0 rfl
    obtain rfl : n = 0 := by omega
    go_enter Tryd.func23, Tryd.ntmps23
    go_wp2
    go_ret
    exact ⟨rfl, rfl⟩
  | some a =>
    obtain ⟨b, rfl⟩ := hp a rfl
    have hz : (n : Int) ≤ (c : Int) := by omega
    go_enter Tryd.func23, Tryd.ntmps23
    go_wp2
    go_ret
    exact ⟨rfl, rfl⟩
theorem clip_any43 (ao : Option Addr) (n c : Nat) (h : n ≤ c) (h0 : ao = none → c = 0) (hp : ∀ a, ao = some a → ∃ b, a = ⟨b, 0, none⟩) (w : World) : Calls Tryd.prog 43 #[.slice ao n c] w fun e w' => e = .returned (.slice ao n n) ∧ w' = w := by
  cases ao with
  | none =>
    obtain rfl := h0 rfl
    obtain rfl : n = 0 := by omega
    go_enter Tryd.func43, Tryd.ntmps43
    go_wp2
    go_ret
    exact ⟨rfl, rfl⟩
  | some a =>
    obtain ⟨b, rfl⟩ := hp a rfl
    have hz : (n : Int) ≤ (c : Int) := by omega
    go_enter Tryd.func43, Tryd.ntmps43
    go_wp2
    go_ret
    exact ⟨rfl, rfl⟩
theorem clip_any59 (ao : Option Addr) (n c : Nat) (h : n ≤ c) (h0 : ao = none → c = 0) (hp : ∀ a, ao = some a → ∃ b, a = ⟨b, 0, none⟩) (w : World) : Calls Tryd.prog 59 #[.slice ao n c] w fun e w' => e = .returned (.slice ao n n) ∧ w' = w := by
  cases ao with
  | none =>
    obtain rfl := h0 rfl
    obtain rfl : n = 0 := by omega
    go_enter Tryd.func59, Tryd.ntmps59
    go_wp2
    go_ret
    exact ⟨rfl, rfl⟩
  | some a =>
    obtain ⟨b, rfl⟩ := hp a rfl
    have hz : (n : Int) ≤ (c : Int) := by omega
    go_enter Tryd.func59, Tryd.ntmps59
    go_wp2
    go_ret
    exact ⟨rfl, rfl⟩
theorem along_own37 (N : Nat) (v : Value) (l : List Hd) (dd : Int) (w : World) (hown : w.ownsRow N 40 5 v l.length (rcells Hd.enc l)) (hl : l.length < 100000) :
    Calls Tryd.prog 37 #[v, .int .u8 dd] w fun e w' => e = .returned v ∧ w'.ownsRow N 40 5 v (if dd = 0 then l.reverse else l).length (rcells Hd.enc (if dd = 0 then l.reverse else l)) ∧ Below N w w' := by
  have HR := Lib.hid (rev_own62 N v l w hown hl)
  have HO := Lib.hid hown
  obtain ⟨a, c, rfl⟩ : ∃ a c, v = .slice a l.length c := by
    rcases hown.2 with ⟨rfl, h0⟩ | ⟨g, cap, cur, rfl, _⟩
    · exact ⟨none, 0, by rw [h0]⟩
    · exact ⟨_, _, rfl⟩
  clear hown
  by_cases hd : dd = 0
  · subst hd
    rw [if_pos rfl]
    go_enter Tryd.func37, Tryd.ntmps37
    go_wp2_with (go_at_call 62; refine HR.out.mono ?_; rintro e w' ⟨rfl, hh⟩)
    go_ret
    exact ⟨rfl, hh⟩
  · have hz : (dd == 0) = false := by simp [hd]
    rw [if_neg hd]
    go_enter Tryd.func37, Tryd.ntmps37
    go_wp2_with fail
    go_ret
    exact ⟨rfl, HO.out, Below.refl _ _⟩
theorem along_own60 (N : Nat) (v : Value) (l : List Pa) (dd : Int) (w : World) (hown : w.ownsRow N 47 4 v l.length (rcells Pa.enc l)) (hl : l.length < 100000) :
    Calls Tryd.prog 60 #[v, .int .u8 dd] w fun e w' => e = .returned v ∧ w'.ownsRow N 47 4 v (if dd = 0 then l.reverse else l).length (rcells Pa.enc (if dd = 0 then l.reverse else l)) ∧ Below N w w' := by
  have HR := Lib.hid (rev_own69 N v l w hown hl)
  have HO := Lib.hid hown
  obtain ⟨a, c, rfl⟩ : ∃ a c, v = .slice a l.length c := by
    rcases hown.2 with ⟨rfl, h0⟩ | ⟨g, cap, cur, rfl, _⟩
    · exact ⟨none, 0, by rw [h0]⟩
    · exact ⟨_, _, rfl⟩
  clear hown
  by_cases hd : dd = 0
  · subst hd
    rw [if_pos rfl]
    go_enter Tryd.func60, Tryd.ntmps60
    go_wp2_with (go_at_call 69; refine HR.out.mono ?_; rintro e w' ⟨rfl, hh⟩)
    go_ret
    exact ⟨rfl, hh⟩
  · have hz : (dd == 0) = false := by simp [hd]
    rw [if_neg hd]
    go_enter Tryd.func60, Tryd.ntmps60
    go_wp2_with fail
    go_ret
    exact ⟨rfl, HO.out, Below.refl _ _⟩
theorem along_own41 (N : Nat) (v : Value) (l : List Nm) (dd : Int) (w : World) (hown : w.ownsRow N 35 2 v l.length (rcells Nm.enc l)) (hl : l.length < 100000) :
    Calls Tryd.prog 41 #[v, .int .u8 dd] w fun e w' => e = .returned v ∧ w'.ownsRow N 35 2 v (if dd = 0 then l.reverse else l).length (rcells Nm.enc (if dd = 0 then l.reverse else l)) ∧ Below N w w' := by
  have HR := Lib.hid (rev_own64 N v l w hown hl)
  have HO := Lib.hid hown
  obtain ⟨a, c, rfl⟩ : ∃ a c, v = .slice a l.length c := by
    rcases hown.2 with ⟨rfl, h0⟩ | ⟨g, cap, cur, rfl, _⟩
    · exact ⟨none, 0, by rw [h0]⟩
    · exact ⟨_, _, rfl⟩
  clear hown
  by_cases hd : dd = 0
  · subst hd
    rw [if_pos rfl]
    go_enter Tryd.func41, Tryd.ntmps41
    go_wp2_with (go_at_call 64; refine HR.out.mono ?_; rintro e w' ⟨rfl, hh⟩)
    go_ret
    exact ⟨rfl, hh⟩
  · have hz : (dd == 0) = false := by simp [hd]
    rw [if_neg hd]
    go_enter Tryd.func41, Tryd.ntmps41
    go_wp2_with fail
    go_ret
    exact ⟨rfl, HO.out, Below.refl _ _⟩
end Go.Proofs.YtjjnhmbgffdenaaDoor
