import Derived.Test.YtjjnhmbgffdenaaDoorGao
namespace Go.Proofs.YtjjnhmbgffdenaaDoor
open Go.RowKit Go.Sort
/-- The spot of a place of the beds. -/
def spH (r : Int) (i : Nat) : Int := spotM ((i / 40 : Nat) : Int) (((i % 40 : Nat) : Int) + 1) r
def selH (T : List (List Nm)) (r s : Int) (i : Nat) : List Hd := if spH r i = s then elH T r i else []
def rowH (T : List (List Nm)) (r s : Int) (n : Nat) : List Hd := (List.range n).flatMap (selH T r s)
/-- What a law lists: spot by spot, place by place. -/
def lstH (T : List (List Nm)) (r : Int) (n : Nat) : List Hd := (List.range n).flatMap fun J : Nat => rowH T r (-12 + 2 * (J : Int)) 80
theorem rowH_succ (T : List (List Nm)) (r s : Int) (n : Nat) : rowH T r s (n + 1) = rowH T r s n ++ selH T r s n := by
  unfold rowH
  rw [List.range_succ, List.flatMap_append]
  simp
theorem lstH_succ (T : List (List Nm)) (r : Int) (n : Nat) : lstH T r (n + 1) = lstH T r n ++ rowH T r (-12 + 2 * (n : Int)) 80 := by
  unfold lstH
  rw [List.range_succ, List.flatMap_append]
  simp
theorem rowH_len (T : List (List Nm)) (hT : TOk T) (r s : Int) : ∀ n, (rowH T r s n).length ≤ 4 * n
  | 0 => by simp [rowH]
  | n + 1 => by
    rw [rowH_succ, List.length_append]
    have := rowH_len T hT r s n
    have := elH_len T hT r n
    unfold selH
    split
    · omega
    · simp only [List.length_nil]; omega
theorem lstH_len (T : List (List Nm)) (hT : TOk T) (r : Int) : ∀ n, (lstH T r n).length ≤ 320 * n
  | 0 => by simp [lstH]
  | n + 1 => by
    rw [lstH_succ, List.length_append]
    have := lstH_len T hT r n
    have := rowH_len T hT r (-12 + 2 * (n : Int)) 80
    omega
/-- The heads of a place have its spot. -/
theorem elH_s {T : List (List Nm)} {r : Int} {i : Nat} {h : Hd} (hh : h ∈ elH T r i) : h.s = spH r i := by
  unfold elH at hh
  obtain ⟨p, _, rfl⟩ := List.mem_map.1 hh
  rfl
theorem fl_el (T : List (List Nm)) (r k : Int) (i : Nat) : Fl Hd.s k (elH T r i) = selH T r k i := by
  unfold selH Fl
  split
  · rename_i h
    rw [List.filter_eq_self]
    intro x hx
    simp [elH_s hx, h]
  · rename_i h
    rw [List.filter_eq_nil_iff]
    intro x hx
    simp [elH_s hx, h]
theorem fl_up (T : List (List Nm)) (r k : Int) (n : Nat) : Fl Hd.s k (upH T r n) = rowH T r k n := by
  induction n with
  | zero => rfl
  | succ n ih =>
    rw [upH_succ, rowH_succ]
    have h1 : Fl Hd.s k (upH T r n ++ elH T r n) = Fl Hd.s k (upH T r n) ++ Fl Hd.s k (elH T r n) := by unfold Fl; rw [List.filter_append]
    rw [h1, ih, fl_el]
theorem row_s {T : List (List Nm)} {r s : Int} {n : Nat} {h : Hd} (hh : h ∈ rowH T r s n) : h.s = s := by
  unfold rowH at hh
  obtain ⟨i, _, hi⟩ := List.mem_flatMap.1 hh
  unfold selH at hi
  split at hi
  · rename_i he
    rw [elH_s hi, he]
  · cases hi
theorem fl_row (T : List (List Nm)) (r s k : Int) (n : Nat) : Fl Hd.s k (rowH T r s n) = if s = k then rowH T r s n else [] := by
  unfold Fl
  split
  · rename_i h
    rw [List.filter_eq_self]
    intro x hx
    simp [row_s hx, h]
  · rename_i h
    rw [List.filter_eq_nil_iff]
    intro x hx
    simp [row_s hx, h]
theorem fl_lst (T : List (List Nm)) (r k : Int) (n : Nat) : Fl Hd.s k (lstH T r n) = if ∃ J : Nat, J < n ∧ -12 + 2 * (J : Int) = k then rowH T r k 80 else [] := by
  induction n with
  | zero => simp [lstH, Fl]
  | succ n ih =>
    rw [lstH_succ]
    have h1 : Fl Hd.s k (lstH T r n ++ rowH T r (-12 + 2 * (n : Int)) 80) = Fl Hd.s k (lstH T r n) ++ Fl Hd.s k (rowH T r (-12 + 2 * (n : Int)) 80) := by unfold Fl; rw [List.filter_append]
    rw [h1, ih, fl_row]
    by_cases he : -12 + 2 * (n : Int) = k
    · rw [if_neg (by rintro ⟨J, hJ, hJ2⟩; omega), if_pos he, if_pos ⟨n, by omega, he⟩, List.nil_append, he]
    · rw [if_neg he, List.append_nil]
      by_cases hc : ∃ J : Nat, J < n ∧ -12 + 2 * (J : Int) = k
      · obtain ⟨J, h1, h2⟩ := hc
        rw [if_pos ⟨J, h1, h2⟩, if_pos ⟨J, by omega, h2⟩]
      · rw [if_neg hc, if_neg]
        rintro ⟨J, h1, h2⟩
        refine hc ⟨J, ?_, h2⟩
        have : J ≠ n := fun e => he (by rw [← e]; exact h2)
        omega
theorem spH_in {r : Int} (hr : okR r = true) (i : Nat) (hi : i < 80) : ∃ J : Nat, J < 95 ∧ -12 + 2 * (J : Int) = spH r i := by
  have hr2 : -4 ≤ r ∧ r ≤ 4 := by unfold okR at hr; simpa using hr
  unfold spH spotM
  rw [if_pos ⟨isN_mk (by omega), hr⟩]
  by_cases hb : (((i / 40 : Nat) : Int) = 1)
  · rw [if_pos hb]
    refine ⟨(4 * (((i % 40 : Nat) : Int) + 1 + r) + 12).toNat / 2, ?_, ?_⟩
    · omega
    · omega
  · rw [if_neg hb]
    refine ⟨(4 * (((i % 40 : Nat) : Int) + 1) + 2 + 12).toNat / 2, ?_, ?_⟩
    · omega
    · omega
theorem sam_lst (T : List (List Nm)) {r : Int} (hr : okR r = true) : Sam Hd.s (upH T r 80) (lstH T r 95) := fun k => by
  rw [fl_lst, fl_up]
  split
  · rfl
  · rename_i hc
    symm
    rw [List.eq_nil_iff_forall_not_mem]
    intro x hx
    have hs := row_s hx
    unfold rowH at hx
    obtain ⟨i, hi, hi2⟩ := List.mem_flatMap.1 hx
    unfold selH at hi2
    split at hi2
    · rename_i he
      obtain ⟨J, h1, h2⟩ := spH_in hr i (List.mem_range.1 hi)
      exact hc ⟨J, h1, h2.trans he⟩
    · cases hi2
theorem srt_lst (T : List (List Nm)) (r : Int) (n : Nat) : Srt Hd.s (lstH T r n) ∧ ∀ x ∈ lstH T r n, x.s < -12 + 2 * (n : Int) := by
  induction n with
  | zero => exact ⟨List.Pairwise.nil, fun x hx => by cases hx⟩
  | succ n ih =>
    rw [lstH_succ]
    refine ⟨?_, fun x hx => ?_⟩
    · unfold Srt
      rw [List.pairwise_append]
      refine ⟨ih.1, ?_, fun x hx y hy => ?_⟩
      · have h : ∀ l : List Hd, (∀ x ∈ l, x.s = -12 + 2 * (n : Int)) → l.Pairwise (fun x y => x.s ≤ y.s) := fun l => by
          induction l with
          | nil => intro _; exact List.Pairwise.nil
          | cons a l ih2 =>
            intro h
            refine List.Pairwise.cons (fun y hy => ?_) (ih2 fun x hx => h x (by simp [hx]))
            rw [h a (by simp), h y (by simp [hy])]
            exact Int.le_refl _
        exact h _ fun x hx => row_s hx
      · have h1 := ih.2 x hx
        have h2 := row_s hy
        omega
    · rcases List.mem_append.1 hx with hx | hx
      · have := ih.2 x hx; push_cast; omega
      · have := row_s hx; push_cast; omega
theorem mrg_lst (T : List (List Nm)) {r : Int} (hr : okR r = true) : Mrg Hd.s (upH T r 80) (lstH T r 95) := ⟨(srt_lst T r 95).1, sam_lst T hr⟩
theorem ord_lst {T : List (List Nm)} {r : Int} (hr : okR r = true) {l : List Hd} (h : OrdOk T r l) : l = lstH T r 95 := h.1.unique (mrg_lst T hr)
def psiLs14 (b : Nat) (q : Nat) (n : Nat) (c : Nat) (kq : Nat) (PN : Nat) (v : Value) (py : Int) (pn : Int) (nb : Int) (na : Int) (sp : Int) : Nat → Value → World → Prop
  | 0, v9, _ => v9 = v
  | 1, v9, _ => v9 = .slice (some ⟨b, q, none⟩) n c
  | 2, v9, _ => v9 = .int .i64 (kq : Int)
  | 3, v9, _ => v9 = .pointer (some ⟨b, q + kq * 2, none⟩)
  | 4, v9, _ => v9 = .agg #[.int .u8 py, .int .i64 pn]
  | 5, v9, _ => v9 = .agg #[.int .u8 nb, .int .i64 na]
  | 6, v9, _ => v9 = .int .i64 sp
  | 7, v9, _ => v9 = .agg #[.int .u8 py, .int .i64 pn, .int .u8 nb, .int .i64 na, .int .i64 sp]
  | 8, v9, w9 => ∃ b9, v9 = .slice (some ⟨b9, 0, none⟩) 1 1 ∧ b9 < w9.heap.size ∧ w9.heap[b9]? = some (.cells (Hd.enc ⟨⟨py, pn⟩, nb, na, sp⟩).toArray 40 (0, 0))
  | _, _, _ => True
theorem psiLs14_stab (b : Nat) (q : Nat) (n : Nat) (c : Nat) (kq : Nat) (PN : Nat) (v : Value) (py : Int) (pn : Int) (nb : Int) (na : Int) (sp : Int) (i9 : Nat) (v9 : Value) (w9 w9' : World) (h : psiLs14 b q n c kq PN v py pn nb na sp i9 v9 w9) (_hb : Below w9.heap.size w9 w9') : psiLs14 b q n c kq PN v py pn nb na sp i9 v9 w9' := by
  match i9, h with
  | 0, h => exact h
  | 1, h => exact h
  | 2, h => exact h
  | 3, h => exact h
  | 4, h => exact h
  | 5, h => exact h
  | 6, h => exact h
  | 7, h => exact h
  | 8, h => exact (by obtain ⟨b9, h1, h2, h3⟩ := h; exact ⟨b9, h1, Nat.lt_of_lt_of_le h2 _hb.size, (_hb.block b9 h2).trans h3⟩)
  | i9 + 9, _ => exact trivial
set_option maxRecDepth 100000 in
set_option maxHeartbeats 8000000 in
/-- What a law lists. -/
theorem listed_any (d : Bds) (T : List (List Nm)) (r : Int) (B : Nat) (w : World) (hB : B ≤ w.heap.size) (hd : d.ok B w) (hr : Reads T d) (hT : TOk T) :
    Calls Tryd.prog 12 #[d.v, .int .i64 r] w fun e w' => ∃ v, e = .returned v ∧ w'.ownsRow w.heap.size 40 5 v (lstH T r 95).length (rcells Hd.enc (lstH T r 95)) ∧ Below w.heap.size w w' := by
  have HD := Lib.hid (hd.mono hB)
  have HR := Lib.hid hr
  have HT := Lib.hid hT
  have hat : ∀ (W : World), Below w.heap.size w W → ∀ (k i : Nat), k < 2 → i < 40 → Calls Tryd.prog 30 #[d.v, .agg #[.int .u8 k, .int .i64 ((i : Int) + 1)]] W (NewAt (T.getD (k * 40 + i) []) W) := fun W hb k i hk hi => by
    have h := at_own d k ((i : Int) + 1) (by omega) w.heap.size W hb.size (HD.out.below hb)
    rw [reads_at HR.out hk hi] at h
    exact h
  obtain ⟨⟨fa, fs, fc⟩, ⟨ba, bs, bc⟩⟩ := d
  simp only [Bds.v, Bed.v] at hat ⊢
  have HAT := Lib.hid hat
  clear hat hd hr hT HD HR
  go_enter Tryd.func12, Tryd.ntmps12
  go_wp2
  have hbx := Boxed2.new w 26 (.slice fa fs.length fc) (.slice ba bs.length bc)
  have hb0 := below1 w (.cells #[.slice fa fs.length fc, .slice ba bs.length bc] 26)
  obtain ⟨W0, hW0⟩ : ∃ W, w.alloc (.cells #[.slice fa fs.length fc, .slice ba bs.length bc] 26) = W := ⟨_, rfl⟩
  rw [hW0] at hbx hb0 ⊢
  have HBX := Lib.hid hbx
  have HB0 := Lib.hid hb0
  have hsz0 : w.heap.size < W0.heap.size := hbx.lt
  clear hW0 hbx hb0
  go_loopg [5, 6] 96 (fun g v s6 wr => ∃ J : Nat, s6 = .int .i64 (-12 + 2 * (J : Int)) ∧ J ≤ 95 ∧ g = 96 - J ∧ Hid (wr.ownsRow (w.heap.size + 1) 40 5 v (lstH T r J).length (rcells Hd.enc (lstH T r J))) ∧ RowKit.Below (w.heap.size + 1) W0 wr)
  case atStart => exact ⟨0, rfl, by omega, rfl, Lib.hid (World.ownsRow_nil _ _ _ _), Below.refl _ _⟩
  case round =>
    obtain ⟨J, rfl, hJ, hg, HO, hbr⟩ := hrel
    have HG := Lib.hid hg
    clear hg
    obtain ⟨s, hs⟩ : ∃ s : Int, -12 + 2 * (J : Int) = s := ⟨_, rfl⟩
    have hsb : -12 ≤ s ∧ s ≤ 178 := by omega
    have HS := Lib.hid hs
    have HJ := Lib.hid hJ
    rw [hs]
    by_cases hJ2 : s ≤ 176
    · have hJ95 : Hid (J < 95) := Lib.hid (by omega)
      clear hs hJ
      go_wp2_with fail
      go_loopg [5, 7] 81 (fun g v s7 wr => ∃ i : Nat, s7 = .int .i64 i ∧ i ≤ 80 ∧ g = 81 - i ∧ Hid (wr.ownsRow (w.heap.size + 1) 40 5 v (lstH T r J ++ rowH T r s i).length (rcells Hd.enc (lstH T r J ++ rowH T r s i))) ∧ RowKit.Below (w.heap.size + 1) W0 wr)
      case atStart => exact ⟨0, rfl, by omega, rfl, by simpa [rowH] using HO, hbr⟩
      case round =>
        clear HO hbr
        obtain ⟨i, rfl, hi, hg, HO, hbr⟩ := hrel
        have HG2 := Lib.hid hg
        clear hg
        by_cases hi2 : i < 80
        · have hiz : (i : Int) < 80 := by omega
          have hw8 : IntKind.u8.wrap (i : Int) = (i : Int) := IntWalk.u8_in _ (by omega)
          have hnd := needle_any i wr hi2
          have hq : i / 40 < 2 ∧ i % 40 < 40 ∧ i / 40 * 40 + i % 40 = i := by omega
          have HSPH := Lib.hid (show spH r i = spotM ((i / 40 : Nat) : Int) (((i % 40 : Nat) : Int) + 1) r from rfl)
          have HEL := Lib.hid (show elH T r i = (T.getD i []).map fun p => ⟨p, ((i / 40 : Nat) : Int), ((i % 40 : Nat) : Int) + 1, spotM ((i / 40 : Nat) : Int) (((i % 40 : Nat) : Int) + 1) r⟩ from rfl)
          obtain ⟨nb, hnb⟩ : ∃ nb, i / 40 = nb := ⟨_, rfl⟩
          obtain ⟨na, hna⟩ : ∃ na, i % 40 = na := ⟨_, rfl⟩
          rw [hnb, hna] at hnd hq HSPH HEL
          have HQ := Lib.hid hq
          have HND := Lib.hid hnd
          have hzb : -1000 ≤ spotM (nb : Int) ((na : Int) + 1) r ∧ spotM (nb : Int) ((na : Int) + 1) r ≤ 1000 := by
            unfold spotM
            split
            · rename_i h
              have h2 : -4 ≤ r ∧ r ≤ 4 := by have := h.2; unfold okR at this; simpa using this
              split <;> omega
            · omega
          obtain ⟨z, hz⟩ : ∃ z, spotM (nb : Int) ((na : Int) + 1) r = z := ⟨_, rfl⟩
          have HZ := Lib.hid hz
          rw [hz] at HSPH HEL hzb
          clear hq hnd hnb hna hz
          by_cases hsp : z = s
          · subst hsp
            go_upto_region 9 with (go_at_call 28; refine HND.out.mono ?_; rintro e w1 ⟨rfl, hb1⟩)
            have HB1 := Lib.hid (hbr.trans (hb1.mono (by have := hbr.size; omega)))
            have HO1 := Lib.hid (below_owns HO.out hb1)
            have hbN := Boxed2.new w1 38 (.int .u8 nb) (.int .i64 ((na : Int) + 1))
            have hb9 := HB1.out.alloc (by have := HB1.out.size; omega) (.cells #[.int .u8 nb, .int .i64 ((na : Int) + 1)] 38)
            have hO9 := HO1.out.alloc (.cells #[.int .u8 nb, .int .i64 ((na : Int) + 1)] 38)
            have hlt9 : w1.heap.size < (w1.alloc (.cells #[.int .u8 nb, .int .i64 ((na : Int) + 1)] 38)).heap.size := by simp
            have hsep : ∀ g, u5.ownBlock = some g → g ≠ w1.heap.size := fun g hg => by have := (HO1.out.lt g hg).2; omega
            have HSP := Lib.hid hsep
            have hbx := HBX.out.below hb9 (Nat.lt_succ_self _)
            obtain ⟨w9, hw9⟩ : ∃ w9, w1.alloc (.cells #[.int .u8 nb, .int .i64 ((na : Int) + 1)] 38) = w9 := ⟨_, rfl⟩
            rw [hw9] at hbN hb9 hO9 hlt9 hbx
            rw [hw9]
            clear hw9 hsep hb1 hbr HND hw8
            have hlx : w.heap.size < w9.heap.size := hbx.lt
            have x0 := hbx.cell0
            have x1 := hbx.cell1
            have n0 := hbN.cell0
            have n1 := hbN.cell1
            obtain ⟨xl, hxl⟩ : ∃ xl, T.getD i [] = xl := ⟨_, rfl⟩
            have hl4 : xl.length ≤ 4 := by
              rw [← hxl]
              rcases getD_mem_or (l := T) i with h | h
              · exact (HT.out.st _ h).1
              · rw [h]; simp
            rw [hxl] at HEL
            have HC := Lib.hid (fun (W : World) (hb : RowKit.Below w9.heap.size w9 W) => HAT.out W (HB0.out.trans ((hb9.trans (hb.mono (by have := hb9.size; omega))).mono (by omega))) nb na HQ.out.1 HQ.out.2.1)
            rw [HQ.out.2.2, hxl] at HC
            clear hxl
            obtain ⟨L0, hL0⟩ : ∃ L0, lstH T r J ++ rowH T r z i = L0 := ⟨_, rfl⟩
            have hL0l : L0.length ≤ 40000 := by
              have h1 := lstH_len T HT.out r J
              have h2 := rowH_len T HT.out r z i
              have h3 := hJ95.out
              rw [← hL0, List.length_append]; omega
            have HL0 := Lib.hid hL0
            have HL0L := Lib.hid hL0l
            rw [hL0] at hO9
            have HO9 := Lib.hid hO9
            have HB9 := Lib.hid hb9
            have HBN9 := Lib.hid hbN
            have HBX9 := Lib.hid hbx
            have HLT9 := Lib.hid hlt9
            have HLX := Lib.hid hlx
            clear hL0 hL0l hO9 hb9 hbN hbx hlt9 hlx HO HO1 HB1
            go_wp2_with (first
              | (go_at_call 29; refine (spot_any (nb : Int) ((na : Int) + 1) r w9 (by omega)).mono ?_; rintro e w2 ⟨rfl, hb2⟩; rw [HZ.out]; clear x0 x1 n0 n1; have h2x := HBX9.out.below hb2 HLX.out; have h2n := HBN9.out.below hb2 HLT9.out; have x0 := h2x.cell0; have x1 := h2x.cell1; have n0 := h2n.cell0; have n1 := h2n.cell1; have HC2 := Lib.hid (HC.out w2 hb2); have HB2 := Lib.hid hb2; clear hb2 h2x h2n)
              | (go_at_call 30; refine HC2.out.mono ?_; rintro e w3 ⟨⟨ca, cl, cc⟩, rfl, hc3, hb3⟩; clear x0 x1 n0 n1; simp only [Cel.v]))
            obtain ⟨rfl, hcc, hok, hown⟩ := hc3.out
            (try dsimp only at hcc); (try dsimp only at hl4); (try dsimp only at HEL); (try dsimp only at hown)
            have hb92 : RowKit.Below w9.heap.size w9 w3 := HB2.out.trans (hb3.mono HB2.out.size)
            have hb3' : RowKit.Below (w.heap.size + 1) W0 w3 := HB9.out.trans (hb92.mono (by have := HB9.out.size; omega))
            have HBN := Lib.hid (HBN9.out.below hb92 HLT9.out)
            have HOb := Lib.hid (below_owns HO9.out hb92)
            have HCL := Lib.hid hown
            have hsp0 : Hid (∀ g, u5.ownBlock = some g → g ≠ w1.heap.size ∧ (Cel.v ⟨ca, cl, cc⟩).ownBlock ≠ some g) := Lib.hid (fun g hg => ⟨HSP.out g hg, fun e => by
              have e1 := (HO9.out.lt g hg).2
              have e2 := (hown.lt g e).1
              have e3 := HB2.out.size
              omega⟩)
            have h93 : w1.heap.size < w3.heap.size := HBN.out.lt
            have hN2 : w.heap.size + 1 ≤ w2.heap.size := by have := HB9.out.size; have := HB2.out.size; omega
            clear hc3 hcc hok hown HC HC2 HSP HB9 HBN9 HBX9 HLT9 HLX hb3 hb92 HB2
            generalize w1.heap.size = B9 at HBN hsp0 h93 ⊢
            obtain ⟨nl, hnl⟩ : ∃ n, cl.length = n := ⟨_, rfl⟩
            have HNL := Lib.hid hnl
            rw [hnl] at hl4 ⊢
            clear hnl
            go_loopg [5, 10] 5 (fun g v s27 wx => ∃ m : Nat, s27 = .int .i64 m ∧ m ≤ nl ∧ g = 5 - m ∧ Hid (wx.ownsRow (w.heap.size + 1) 40 5 v (L0 ++ (elH T r i).take m).length (rcells Hd.enc (L0 ++ (elH T r i).take m))) ∧ Hid (Boxed2 wx B9 38 (.int .u8 nb) (.int .i64 ((na : Int) + 1))) ∧ Hid (wx.ownsRow (w.heap.size + 1) 35 2 (Cel.v ⟨ca, cl, cc⟩) cl.length (cellsOf cl)) ∧ Hid (∀ g, v.ownBlock = some g → g ≠ B9 ∧ (Cel.v ⟨ca, cl, cc⟩).ownBlock ≠ some g) ∧ RowKit.Below (w.heap.size + 1) W0 wx)
            case atStart => exact ⟨0, rfl, by omega, rfl, by simpa using HOb, HBN, Lib.hid (ownsRow_mono HCL.out hN2), hsp0, hb3'⟩
            case round =>
              clear HOb HBN HCL hsp0 hb3' h93
              obtain ⟨m, rfl, hm, hg, HO, HBN, HCL, HSP, hbr3⟩ := hrel
              have HG3 := Lib.hid hg
              clear hg
              by_cases hm2 : m < nl
              · have hmz : (m : Int) < (nl : Int) := by omega
                have hcl := own_ok HCL.out (by simp only; rw [HNL.out]; omega)
                obtain ⟨b, o, ha, hb, t0, t1⟩ := hcl.at (i := m) (by simp only; rw [HNL.out]; exact hm2)
                obtain rfl : ca = some ⟨b, o, none⟩ := ha
                obtain ⟨p, hp⟩ : ∃ p, cl[m]'(by rw [HNL.out]; exact hm2) = p := ⟨_, rfl⟩
                simp only [hp] at t0 t1
                have hst : (elH T r i).take (m + 1) = (elH T r i).take m ++ [⟨p, nb, (na : Int) + 1, z⟩] := by
                  have hlen : m < (elH T r i).length := by rw [HEL.out, List.length_map, HNL.out]; exact hm2
                  rw [List.take_succ_eq_append_getElem hlen]
                  congr 2
                  simp only [HEL.out, List.getElem_map, hp]
                have HST := Lib.hid hst
                have HI0 : Hid (∀ {W : World}, RowKit.Below wr.heap.size wr W → W.cell? ⟨b, o + m * 2, none⟩ = some (.int .u8 p.y)) := Lib.hid fun h => (h.cell (p := ⟨b, o + m * 2, none⟩) hb).trans t0
                have HI1 : Hid (∀ {W : World}, RowKit.Below wr.heap.size wr W → W.cell? ⟨b, o + m * 2 + 1, none⟩ = some (.int .i64 p.n)) := Lib.hid fun h => (h.cell (p := ⟨b, o + m * 2 + 1, none⟩) hb).trans t1
                have HN0 : Hid (∀ {W : World}, RowKit.Below wr.heap.size wr W → W.cell? ⟨B9, 0, none⟩ = some (.int .u8 nb)) := Lib.hid fun h => (HBN.out.below h HBN.out.lt).cell0
                have HN1 : Hid (∀ {W : World}, RowKit.Below wr.heap.size wr W → W.cell? ⟨B9, 0 + 1, none⟩ = some (.int .i64 ((na : Int) + 1))) := Lib.hid fun h => (HBN.out.below h HBN.out.lt).cell1
                have HKN := Lib.hid hm2
                have HB3 := Lib.hid hbr3
                clear hst hp hcl t0 t1 hbr3
                go_upto_region 14 with fail
                refine rgT2s 5 9 [some 36, some 37, some 38, some 39, some 40, some 41, some 42, some 43, some 44, some 45, some 5] (psiLs14 b o nl cc m B9 u5 p.y p.n (nb : Int) ((na : Int) + 1) z) (fun w' => RowKit.Below wr.heap.size wr w') (by kernel_rfl) (by kernel_rfl) (by kernel_rfl) (by kernel_rfl) (by kernel_rfl) (psiLs14_stab b o nl cc m B9 u5 p.y p.n (nb : Int) ((na : Int) + 1) z) (fun _ _ h hb => h.trans (hb.mono h.size)) (fun i9 o9 hi9 ho9 aq9 w1 hs hout hold hI hdep => ?_) ?_ ((Below.refl _ _).drew)
                · skip
                  match i9, hi9, ho9 with
                  | 0, _, ho9 =>
                    obtain rfl := Option.some.inj ho9
                    refine .inl ⟨rfl, fun K hK => ?_⟩
                    exact st_move rfl (hold.trans rfl) (hK _ _ (Below.refl _ _) rfl)
                  | 1, _, ho9 =>
                    obtain rfl := Option.some.inj ho9
                    refine .inl ⟨rfl, fun K hK => ?_⟩
                    exact st_move rfl ((hout 9 rfl).trans rfl) (hK _ _ (Below.refl _ _) rfl)
                  | 2, _, ho9 =>
                    obtain rfl := Option.some.inj ho9
                    refine .inl ⟨rfl, fun K hK => ?_⟩
                    exact st_move rfl ((hout 10 rfl).trans rfl) (hK _ _ (Below.refl _ _) rfl)
                  | 3, _, ho9 =>
                    obtain rfl := Option.some.inj ho9
                    have dq1 : (aq9.tmps.getD 37 undef) = .slice (some ⟨b, o, none⟩) nl cc := hdep ⟨1, .data⟩ (by simp) rfl _ rfl
                    have dq2 : (aq9.tmps.getD 38 undef) = .int .i64 (m : Int) := hdep ⟨2, .data⟩ (by simp) rfl _ rfl
                    refine .inl ⟨rfl, fun K hK => ?_⟩
                    exact st_idx61 (k := m) rfl dq1 dq2 HKN.out (hK _ _ (Below.refl _ _) rfl)
                  | 4, _, ho9 =>
                    obtain rfl := Option.some.inj ho9
                    have dq3 : (aq9.tmps.getD 39 undef) = .pointer (some ⟨b, o + m * 2, none⟩) := hdep ⟨3, .data⟩ (by simp) rfl _ rfl
                    refine .inl ⟨rfl, fun K hK => ?_⟩
                    exact ld28 rfl dq3 (HI0.out hI) (HI1.out hI) (hK _ _ (Below.refl _ _) rfl)
                  | 5, _, ho9 =>
                    obtain rfl := Option.some.inj ho9
                    refine .inl ⟨rfl, fun K hK => ?_⟩
                    exact ld26 rfl ((hout 8 rfl).trans rfl) (HN0.out hI) (HN1.out hI) (hK _ _ (Below.refl _ _) rfl)
                  | 6, _, ho9 =>
                    obtain rfl := Option.some.inj ho9
                    refine .inl ⟨rfl, fun K hK => ?_⟩
                    exact st_move rfl ((hout 6 rfl).trans rfl) (hK _ _ (Below.refl _ _) rfl)
                  | 7, _, ho9 =>
                    obtain rfl := Option.some.inj ho9
                    have dq4 : (aq9.tmps.getD 40 undef) = .agg #[.int .u8 p.y, .int .i64 p.n] := hdep ⟨4, .data⟩ (by simp) rfl _ rfl
                    have dq5 : (aq9.tmps.getD 41 undef) = .agg #[.int .u8 (nb : Int), .int .i64 ((na : Int) + 1)] := hdep ⟨5, .data⟩ (by simp) rfl _ rfl
                    have dq6 : (aq9.tmps.getD 42 undef) = .int .i64 z := hdep ⟨6, .data⟩ (by simp) rfl _ rfl
                    refine .inl ⟨rfl, fun K hK => ?_⟩
                    exact st_build40 rfl dq4 dq5 dq6 (hK _ _ (Below.refl _ _) rfl)
                  | 8, _, ho9 =>
                    obtain rfl := Option.some.inj ho9
                    have dq7 : (aq9.tmps.getD 43 undef) = .agg #[.int .u8 p.y, .int .i64 p.n, .int .u8 (nb : Int), .int .i64 ((na : Int) + 1), .int .i64 z] := hdep ⟨7, .data⟩ (by simp) rfl _ rfl
                    refine .inl ⟨rfl, fun K hK => ?_⟩
                    exact st_bs40 ⟨⟨p.y, p.n⟩, (nb : Int), ((na : Int) + 1), z⟩ rfl dq7 (hK _ _ (below1 _ _) ⟨_, rfl, by simp, heap_alloc_new _ _⟩)
                  | i9 + 9, hi9, _ => exact absurd hi9 (by omega)
                · intro a2 w2 hs hd hout hold hI hall
                  obtain ⟨tmps, defers⟩ := a2
                  have e_36 : (tmps.getD 36 undef) = u5 := hall 0 _ (by decide) rfl
                  have e_44 : ∃ b9, (tmps.getD 44 undef) = .slice (some ⟨b9, 0, none⟩) 1 1 ∧ b9 < w2.heap.size ∧ w2.heap[b9]? = some (.cells (Hd.enc ⟨⟨p.y, p.n⟩, (nb : Int), ((na : Int) + 1), z⟩).toArray 40 (0, 0)) := hall 8 _ (by decide) rfl
                  obtain ⟨b12, e_44, hlb12, hrb12⟩ := e_44
                  simp only at hs hd hout
                  have ef := frameAt [some 36, some 37, some 38, some 39, some 40, some 41, some 42, some 43, some 44, some 45, some 5] _ tmps hs hout
                  obtain ⟨sv14, hu⟩ : ∃ u : Nat → Value, u = fun s => tmps.getD s undef := ⟨_, rfl⟩
                  have eu_36 : sv14 36 = u5 := by rw [hu]; exact e_36
                  have eu_44 : sv14 44 = .slice (some ⟨b12, 0, none⟩) 1 1 := by rw [hu]; exact e_44
                  rw [← hu] at ef
                  have ef2 : tmps = #[Value.agg #[Value.slice fa fs.length fc, Value.slice ba bs.length bc], Value.int IntKind.i64 r, Value.pointer (some { block := w.heap.size, off := 0 }), undef, Value.slice none 0 0, (sv14 5), Value.int IntKind.i64 z, Value.int IntKind.i64 i, Value.pointer (some { block := B9, off := 0 }), Value.slice (some { block := b, off := o }) nl cc, Value.int IntKind.i64 m, Value.int IntKind.i64 z, Value.bool true, u13, u14, Value.int IntKind.i64 i, Value.bool true, u17, u18, Value.int IntKind.i64 i, Value.int IntKind.u8 i, Value.agg #[Value.int IntKind.u8 nb, Value.int IntKind.i64 (na + 1)], Value.agg #[Value.int IntKind.u8 nb, Value.int IntKind.i64 (na + 1)], Value.int IntKind.i64 r, Value.int IntKind.i64 z, Value.int IntKind.i64 z, Value.bool false, Value.agg #[Value.slice fa fs.length fc, Value.slice ba bs.length bc], Value.agg #[Value.int IntKind.u8 nb, Value.int IntKind.i64 (na + 1)], Value.slice (some { block := b, off := o }) nl cc, Value.int IntKind.i64 m, Value.slice (some { block := b, off := o }) nl cc, Value.int IntKind.i64 nl, Value.bool true, u34, u35, (sv14 36), (sv14 37), (sv14 38), (sv14 39), (sv14 40), (sv14 41), (sv14 42), (sv14 43), (sv14 44), (sv14 45), undef] := ef
                  subst hd
                  rw [eu_36, eu_44] at ef2
                  rw [ef2]
                  clear ef ef2 hu hs hout hall e_36 eu_36 e_44 eu_44
                  simp only [List.drop_succ_cons, List.drop_zero]
                  have hO2 := Lib.hid (below_owns HO.out hI)
                  have hrc : Rec Hd.enc w2 b12 ⟨⟨p.y, p.n⟩, nb, (na : Int) + 1, z⟩ := fun j u hj => by
                    rw [cell_of_row w2 b12 j _ 40 (0, 0) hrb12]
                    simpa using hj
                  have hbr4 : RowKit.Below (w.heap.size + 1) W0 w2 := HB3.out.trans (hI.mono (by have := HB3.out.size; omega))
                  have HBN2 := Lib.hid (HBN.out.below hI HBN.out.lt)
                  have HCL2 := Lib.hid (below_owns HCL.out hI)
                  have hl3 : (L0 ++ (elH T r i).take m).length ≤ 100000 := by have := HL0L.out; rw [List.length_append, List.length_take]; omega
                  clear HI0 HI1 HN0 HN1 hI hrb12 hlb12
                  refine wpList_app_rec kdHd (v := u5) (x := ⟨⟨p.y, p.n⟩, nb, (na : Int) + 1, z⟩) rfl rfl rfl rfl hO2.out hrc hl3 (by have := hbr4.size; omega) ?_
                  intro v4 w4 hw4 hg4 hat4
                  have HW4 := Lib.hid hw4
                  have HB4 := Lib.hid (HBN2.out.kept hg4 (fun e => (HSP.out _ e.symm).1 rfl))
                  have HC4 := Lib.hid (HCL2.out.kept hg4 (by
                    cases h : u5.ownBlock with
                    | none => exact none_or _
                    | some g => exact .inr (HSP.out g h).2))
                  have hbr5 := hbr4.grown hg4 (by have := hbr4.size; omega) (fun g e => (hO2.out.lt g e).1)
                  have HS4 : Hid (∀ g, v4.ownBlock = some g → g ≠ B9 ∧ (Cel.v ⟨some ⟨b, o, none⟩, cl, cc⟩).ownBlock ≠ some g) := Lib.hid (fun g hg => by
                    rcases hat4 with e | e
                    · exact HSP.out g (by rw [← e]; exact hg)
                    · obtain rfl : w2.heap.size = g := Option.some.inj (e.symm.trans hg)
                      refine ⟨by have := HBN2.out.lt; omega, fun e2 => ?_⟩
                      have := (HCL2.out.lt _ e2).2
                      omega)
                  clear hw4 hg4 hat4 hrc HBN2 HCL2 hO2 hbr4
                  go_wp2_with fail
                  go_roundg (5 - (m + 1))
                  case measure => have := HG3.out; omega
                  case rel => exact ⟨m + 1, by go_num, by omega, by omega, Lib.hid (by
                    rw [HST.out, ← List.append_assoc]; exact HW4.out), HB4, HC4, HS4, hbr5⟩
              · obtain rfl : m = nl := by omega
                have hmz : ¬ ((m : Int) < (m : Int)) := by omega
                have HO2 : Hid (wr.ownsRow (w.heap.size + 1) 40 5 u5 (lstH T r J ++ rowH T r z (i + 1)).length (rcells Hd.enc (lstH T r J ++ rowH T r z (i + 1)))) := Lib.hid (by
                  have h1 : (elH T r i).take m = elH T r i := List.take_of_length_le (by rw [HEL.out, List.length_map, HNL.out]; exact Nat.le_refl _)
                  have h2 := HO.out
                  rw [rowH_succ, ← List.append_assoc, HL0.out]
                  unfold selH
                  rw [if_pos HSPH.out]
                  rw [h1] at h2
                  exact h2)
                clear HO
                go_wp2_with fail
                go_roundg (81 - (i + 1))
                case measure => have := HG2.out; omega
                case rel => exact ⟨i + 1, by go_num, by omega, by omega, HO2, hbr3⟩
          · have hzs : (z == s) = false := by simp [hsp]
            have HNS := Lib.hid hsp
            go_upto_region 9 with (go_at_call 28; refine HND.out.mono ?_; rintro e w1 ⟨rfl, hb1⟩)
            have HB1 := Lib.hid (hbr.trans (hb1.mono (by have := hbr.size; omega)))
            have HO1 := Lib.hid (below_owns HO.out hb1)
            have hbN := Boxed2.new w1 38 (.int .u8 nb) (.int .i64 ((na : Int) + 1))
            have hb9 := HB1.out.alloc (by have := HB1.out.size; omega) (.cells #[.int .u8 nb, .int .i64 ((na : Int) + 1)] 38)
            have hO9 := HO1.out.alloc (.cells #[.int .u8 nb, .int .i64 ((na : Int) + 1)] 38)
            have HW9 := Lib.hid (below1 w1 (.cells #[.int .u8 nb, .int .i64 ((na : Int) + 1)] 38))
            obtain ⟨w9, hw9⟩ : ∃ w9, w1.alloc (.cells #[.int .u8 nb, .int .i64 ((na : Int) + 1)] 38) = w9 := ⟨_, rfl⟩
            rw [hw9] at hbN hb9 hO9
            rw [hw9]
            clear hw9 hb1 hbr HND hw8
            have n0 := hbN.cell0
            have n1 := hbN.cell1
            have HO9 := Lib.hid hO9
            have HB9 := Lib.hid hb9
            clear hO9 hb9 hbN HO HO1 HB1
            go_wp2_with (go_at_call 29; refine (spot_any (nb : Int) ((na : Int) + 1) r w9 (by omega)).mono ?_; rintro e w2 ⟨rfl, hb2⟩; rw [HZ.out]; clear n0 n1)
            go_roundg (81 - (i + 1))
            case measure => have := HG2.out; omega
            case rel => exact ⟨i + 1, by go_num, by omega, by omega, Lib.hid (by
              rw [rowH_succ]
              unfold selH
              rw [if_neg (by rw [HSPH.out]; exact HNS.out), List.append_nil]
              exact below_owns HO9.out hb2), HB9.out.trans (hb2.mono (by have := HB9.out.size; omega))⟩
        · obtain rfl : i = 80 := by omega
          have hiz : ¬ (((80 : Nat) : Int) < 80) := by omega
          have hiz2 : ¬ ((80 : Int) < 80) := by omega
          have HO2 : Hid (wr.ownsRow (w.heap.size + 1) 40 5 u5 (lstH T r (J + 1)).length (rcells Hd.enc (lstH T r (J + 1)))) := Lib.hid (by
            rw [lstH_succ, HS.out]; exact HO.out)
          clear HO
          go_wp2_with fail
          go_roundg (96 - (J + 1))
          case measure => have := HG.out; have := hJ95.out; omega
          case rel => exact ⟨J + 1, by have := HS.out; rw [← this]; go_num, by have := hJ95.out; omega, by omega, HO2, hbr⟩
    · obtain rfl : J = 95 := by have := HS.out; have := HJ.out; omega
      go_wp2_with fail
      go_ret
      exact ⟨_, rfl, ownsRow_mono HO.out (by omega), HB0.out.trans (hbr.mono (by omega))⟩
end Go.Proofs.YtjjnhmbgffdenaaDoor
namespace Go.Proofs.YtjjnhmbgffdenaaDoor
open Go.RowKit Go.Sort
/-- A list with the same elements, those with one key in order, is a permutation. -/
theorem Sam.perm {α : Type} [DecidableEq α] {key : α → Int} {a b : List α} (h : Sam key a b) : a.Perm b := by
  rw [List.perm_iff_count]
  intro x
  have h1 := h (key x)
  unfold Fl at h1
  have e : ∀ l : List α, List.count x (l.filter fun y => key y == key x) = List.count x l := fun l => List.count_filter (by simp)
  rw [← e a, ← e b, h1]
/-- Where a loop is behind a step: a back loop has moved. -/
def mvH (st : Int) (h : Hd) : Hd := if h.b = 1 then ⟨h.id, h.b, h.a, h.s + 4 * st⟩ else h
theorem mvH_id (st : Int) (h : Hd) : (mvH st h).id = h.id := by unfold mvH; split <;> rfl
theorem elH_mv (T : List (List Nm)) {r st : Int} (hr : okR r = true) (hn : okR (r + st) = true) (j : Nat) (hj : j < 80) : elH T (r + st) j = (elH T r j).map (mvH st) := by
  unfold elH
  rw [List.map_map]
  refine List.map_congr_left fun p _ => ?_
  have hi : isN ((j / 40 : Nat) : Int) (((j % 40 : Nat) : Int) + 1) = true := isN_mk (by omega)
  have s1 : spotM ((j / 40 : Nat) : Int) (((j % 40 : Nat) : Int) + 1) (r + st) = if ((j / 40 : Nat) : Int) = 1 then 4 * (((j % 40 : Nat) : Int) + 1 + (r + st)) else 4 * (((j % 40 : Nat) : Int) + 1) + 2 := by unfold spotM; rw [if_pos ⟨hi, hn⟩]
  have s2 : spotM ((j / 40 : Nat) : Int) (((j % 40 : Nat) : Int) + 1) r = if ((j / 40 : Nat) : Int) = 1 then 4 * (((j % 40 : Nat) : Int) + 1 + r) else 4 * (((j % 40 : Nat) : Int) + 1) + 2 := by unfold spotM; rw [if_pos ⟨hi, hr⟩]
  simp only [Function.comp_apply, mvH]
  rw [s1, s2]
  by_cases hb : ((j / 40 : Nat) : Int) = 1
  · rw [if_pos hb, if_pos hb, if_pos hb]
    have : 4 * (((j % 40 : Nat) : Int) + 1 + (r + st)) = 4 * (((j % 40 : Nat) : Int) + 1 + r) + 4 * st := by omega
    rw [this]
  · rw [if_neg hb, if_neg hb, if_neg hb]
theorem upH_mv (T : List (List Nm)) {r st : Int} (hr : okR r = true) (hn : okR (r + st) = true) : ∀ n, n ≤ 80 → upH T (r + st) n = (upH T r n).map (mvH st)
  | 0, _ => rfl
  | n + 1, h => by rw [upH_succ, upH_succ, List.map_append, upH_mv T hr hn n (by omega), elH_mv T hr hn n (by omega)]
theorem upH_ids (T : List (List Nm)) (r : Int) : ∀ n, (upH T r n).map (·.id) = (T.take n).flatten
  | 0 => by simp [upH]
  | n + 1 => by
    rw [upH_succ, List.map_append, upH_ids T r n]
    have h1 : (elH T r n).map (·.id) = T.getD n [] := by
      unfold elH
      rw [List.map_map]
      have : (T.getD n []).map ((fun h : Hd => h.id) ∘ fun p => (⟨p, ((n / 40 : Nat) : Int), ((n % 40 : Nat) : Int) + 1, spotM ((n / 40 : Nat) : Int) (((n % 40 : Nat) : Int) + 1) r⟩ : Hd)) = (T.getD n []).map id := List.map_congr_left fun p _ => rfl
      rw [this, List.map_id]
    rw [h1, List.take_add_one, List.flatten_append, List.getD_eq_getElem?_getD]
    congr 1
    cases T[n]? <;> simp
theorem ids_once {T : List (List Nm)} (hT : TOk T) (r : Int) : ((upH T r 80).map (·.id)).Nodup := by
  rw [upH_ids, List.take_of_length_le (by rw [hT.len]; exact Nat.le_refl _)]
  exact hT.once
theorem lst_perm (T : List (List Nm)) {r : Int} (hr : okR r = true) : (upH T r 80).Perm (lstH T r 95) := (sam_lst T hr).perm
theorem lst_once {T : List (List Nm)} (hT : TOk T) {r : Int} (hr : okR r = true) : ((lstH T r 95).map (·.id)).Nodup :=
  ((lst_perm T hr).map _).nodup_iff.1 (ids_once hT r)
theorem lst_mv (T : List (List Nm)) {r st : Int} (hr : okR r = true) (hn : okR (r + st) = true) : ((lstH T r 95).map (mvH st)).Perm (lstH T (r + st) 95) := by
  have h := upH_mv T hr hn 80 (Nat.le_refl _)
  exact ((lst_perm T hr).symm.map _).trans (h ▸ lst_perm T hn)
/-- Of a list whose names are once at most one element has a name. -/
theorem once_inj {l : List Hd} (h : (l.map (·.id)).Nodup) {x y : Hd} (hx : x ∈ l) (hy : y ∈ l) (e : x.id = y.id) : x = y := by
  induction l with
  | nil => cases hx
  | cons a l ih =>
    rw [List.map_cons, List.nodup_cons] at h
    rcases List.mem_cons.1 hx with h1 | h1
    · rcases List.mem_cons.1 hy with h2 | h2
      · rw [h1, h2]
      · refine absurd ?_ h.1
        rw [← h1, e]
        exact List.mem_map_of_mem h2
    · rcases List.mem_cons.1 hy with h2 | h2
      · refine absurd ?_ h.1
        rw [← h2, ← e]
        exact List.mem_map_of_mem h1
      · exact ih h.2 h1 h2
theorem flat_one {α β : Type} {f : α → List β} : ∀ {l : List α} {a : α}, l.Nodup → a ∈ l → (∀ y ∈ l, y ≠ a → f y = []) → l.flatMap f = f a
  | [], _, _, h, _ => by cases h
  | b :: l, a, hn, h, hf => by
    rw [List.nodup_cons] at hn
    rw [List.flatMap_cons]
    by_cases e : b = a
    · subst e
      have : l.flatMap f = [] := by
        rw [List.flatMap_eq_nil_iff]
        intro y hy
        exact hf y (by simp [hy]) (fun e2 => hn.1 (e2 ▸ hy))
      rw [this, List.append_nil]
    · have hal : a ∈ l := by
        rcases List.mem_cons.1 h with h | h
        · exact absurd h.symm e
        · exact h
      rw [hf b (by simp) e, List.nil_append]
      exact flat_one hn.2 hal fun y hy => hf y (by simp [hy])
/-- What a law's inner loop adds for one loop of the order before: of all of the order behind. -/
def hitH (p d : Int) (x y : Hd) : List Pa := if y.id = x.id ∧ decide (x.s < p) ≠ decide (y.s < p) then [⟨x.id, true, d⟩] else []
theorem hit_all {T : List (List Nm)} (hT : TOk T) {r st : Int} (hr : okR r = true) (hn : okR (r + st) = true) (p d : Int) {x : Hd} (hx : x ∈ lstH T r 95) :
    (lstH T (r + st) 95).flatMap (hitH p d x) = hitH p d x (mvH st x) := by
  have h1 := lst_once hT hn
  have hm : mvH st x ∈ lstH T (r + st) 95 := (lst_mv T hr hn).mem_iff.1 (List.mem_map_of_mem hx)
  refine flat_one (List.Pairwise.of_map (fun h : Hd => h.id) (fun a b hne e => hne (congrArg _ e)) h1) hm fun y hy hne => ?_
  unfold hitH
  rw [if_neg]
  rintro ⟨e, _⟩
  exact hne (once_inj h1 hy hm (by rw [mvH_id]; exact e))
theorem lst_even {T : List (List Nm)} {r : Int} {n : Nat} {x : Hd} (hx : x ∈ lstH T r n) : ∃ J : Nat, x.s = -12 + 2 * (J : Int) := by
  unfold lstH at hx
  obtain ⟨J, _, h⟩ := List.mem_flatMap.1 hx
  exact ⟨J, row_s h⟩
/-- One loop: it is passed if it is of the back bed and the place lies between. -/
theorem hit_one {st p d : Int} (hp : Int.tmod p 2 ≠ 0) {x : Hd} (hs : ∃ J : Nat, x.s = -12 + 2 * (J : Int)) :
    hitH p d x (mvH st x) = if decide (x.b = 1) && betw p x.s (x.s + 4 * st) then [paOf d x] else [] := by
  obtain ⟨J, hJ⟩ := hs
  have hodd : p % 2 ≠ 0 := fun h => hp (by
    obtain ⟨k, hk⟩ := Int.dvd_of_emod_eq_zero h
    rw [hk]; exact Int.mul_tmod_right _ _)
  unfold hitH
  by_cases hb : x.b = 1
  · have e1 : (mvH st x).s = x.s + 4 * st := by unfold mvH; rw [if_pos hb]
    have e2 : paOf d x = ⟨x.id, true, d⟩ := by unfold paOf; rw [hb]; rfl
    have hc : (decide (x.s < p) ≠ decide (x.s + 4 * st < p)) ↔ betw p x.s (x.s + 4 * st) = true := by
      unfold betw
      by_cases h1 : x.s < p <;> by_cases h2 : x.s + 4 * st < p <;> simp [h1, h2] <;> omega
    rw [mvH_id, e1, e2]
    by_cases hq : betw p x.s (x.s + 4 * st) = true
    · rw [if_pos ⟨rfl, hc.2 hq⟩, if_pos (by simp [hb, hq])]
    · rw [if_neg (fun h => hq (hc.1 h.2)), if_neg (by simp [hb, hq])]
  · have e1 : mvH st x = x := by unfold mvH; rw [if_neg hb]
    rw [e1, if_neg (by simp), if_neg (by simp [hb])]
/-- What a law wants of a step. -/
def wantM (before behind : List Hd) (p d : Int) : List Pa := (if d = 0 then before.reverse else before).flatMap fun x => behind.flatMap (hitH p d x)
theorem flat_congr' {α β : Type} {f g : α → List β} : ∀ {l : List α}, (∀ x ∈ l, f x = g x) → l.flatMap f = l.flatMap g
  | [], _ => rfl
  | a :: l, h => by rw [List.flatMap_cons, List.flatMap_cons, h a (by simp), flat_congr' fun x hx => h x (by simp [hx])]
theorem flat_if {α β : Type} (c : α → Bool) (g : α → β) : ∀ l : List α, (l.flatMap fun x => if c x then [g x] else []) = (l.filter c).map g
  | [] => rfl
  | a :: l => by
    rw [List.flatMap_cons, List.filter_cons, flat_if c g l]
    cases c a <;> simp
theorem want_meets {T : List (List Nm)} (hT : TOk T) {r dd p : Int} (hr : okR r = true) (hn : okR (r + stepD dd) = true) (hp : Int.tmod p 2 ≠ 0) :
    wantM (lstH T r 95) (lstH T (r + stepD dd) 95) p (oppM dd) = meetsM (lstH T r 95) p dd := by
  have h1 : ∀ l : List Hd, (∀ x ∈ l, x ∈ lstH T r 95) → (l.flatMap fun x => (lstH T (r + stepD dd) 95).flatMap (hitH p (oppM dd) x)) = (l.filter fun x => decide (x.b = 1) && betw p x.s (x.s + 4 * stepD dd)).map (paOf (oppM dd)) := fun l hl => by
    rw [← flat_if]
    refine flat_congr' fun x hx => ?_
    rw [hit_all hT hr hn p (oppM dd) (hl x hx)]
    exact hit_one hp (lst_even (hl x hx))
  have h2 : ∀ l : List Hd, ((backs l).filter fun h => betw p h.s (h.s + 4 * stepD dd)) = l.filter fun x => decide (x.b = 1) && betw p x.s (x.s + 4 * stepD dd) := fun l => by
    unfold backs
    rw [List.filter_filter]
    refine List.filter_congr fun x _ => ?_
    rw [Bool.and_comm]
  unfold wantM meetsM pastM
  rw [h2]
  by_cases hd : oppM dd = 0
  · rw [if_pos hd, if_pos hd, h1 _ (fun x hx => List.mem_reverse.1 hx), ← List.map_reverse, List.filter_reverse]
  · rw [if_neg hd, if_neg hd, h1 _ (fun x hx => hx)]
end Go.Proofs.YtjjnhmbgffdenaaDoor
namespace Go.Proofs.YtjjnhmbgffdenaaDoor
open Go.RowKit Go.Sort
theorem mvH_b (st : Int) (h : Hd) : (mvH st h).b = h.b := by unfold mvH; split <;> rfl
theorem mvH_a (st : Int) (h : Hd) : (mvH st h).a = h.a := by unfold mvH; split <;> rfl
theorem mvH_s {st : Int} {h : Hd} (hb : h.b = 1) : (mvH st h).s = h.s + 4 * st := by unfold mvH; rw [if_pos hb]
theorem backs_mv (st : Int) : ∀ l : List Hd, backs (l.map (mvH st)) = (backs l).map (mvH st)
  | [] => rfl
  | a :: l => by
    have ih := backs_mv st l
    unfold backs at ih ⊢
    rw [List.map_cons, List.filter_cons, List.filter_cons, mvH_b, ih]
    split <;> rfl
theorem backs_b {l : List Hd} {x : Hd} (h : x ∈ backs l) : x.b = 1 := by
  unfold backs at h
  simpa using (List.mem_filter.1 h).2
theorem fl_backs (k : Int) (l : List Hd) : Fl Hd.s k (backs l) = backs (Fl Hd.s k l) := by
  unfold Fl backs
  rw [List.filter_filter, List.filter_filter]
  exact List.filter_congr fun x _ => Bool.and_comm _ _
theorem fl_mv (k st : Int) : ∀ l : List Hd, (∀ x ∈ l, x.b = 1) → Fl Hd.s k (l.map (mvH st)) = (Fl Hd.s (k - 4 * st) l).map (mvH st)
  | [], _ => rfl
  | a :: l, h => by
    have ih := fl_mv k st l fun x hx => h x (by simp [hx])
    have e : (mvH st a).s = a.s + 4 * st := mvH_s (h a (by simp))
    unfold Fl at ih ⊢
    rw [List.map_cons, List.filter_cons, List.filter_cons, ih, e]
    by_cases hk : a.s + 4 * st = k
    · rw [if_pos (by simp [hk]), if_pos (by simp; omega), List.map_cons]
    · rw [if_neg (by simp [hk]), if_neg (by simp; omega)]
/-- The back loops keep their order in a step. -/
theorem back_lst (T : List (List Nm)) {r st : Int} (hr : okR r = true) (hn : okR (r + st) = true) : backs (lstH T (r + st) 95) = (backs (lstH T r 95)).map (mvH st) := by
  refine srt_unique (key := Hd.s) ?_ ?_ ?_
  · exact List.Pairwise.filter _ (srt_lst T (r + st) 95).1
  · unfold Srt
    rw [List.pairwise_map]
    refine List.Pairwise.imp_of_mem ?_ (List.Pairwise.filter _ (srt_lst T r 95).1 : List.Pairwise (fun x y : Hd => x.s ≤ y.s) (backs (lstH T r 95)))
    intro a b ha hb h
    rw [mvH_s (backs_b ha), mvH_s (backs_b hb)]
    omega
  · intro k
    rw [fl_mv k st _ (fun x hx => backs_b hx), fl_backs, fl_backs, sam_lst T hr, sam_lst T hn, upH_mv T hr hn 80 (Nat.le_refl _), ← fl_backs, ← fl_backs, backs_mv, fl_mv k st _ (fun x hx => backs_b hx)]
/-- A crossing back. -/
def Cx.back (c : Cx) : Cx := ⟨c.q, c.p, -c.s⟩
theorem crs_back (T : List (List Nm)) (r : Int) (x : Hd) : crs T (r + 1) 0 (mvH 1 x) = ((crs T r 1 x).map Cx.back).reverse := by
  unfold crs
  rw [mvH_a, mvH_id, if_pos rfl, if_neg (by decide)]
  have e : toF x.a (r + 1) 0 = toF x.a r 1 := by unfold toF; rw [if_neg (by decide), if_pos rfl]; omega
  rw [e, List.map_map, ← List.map_reverse]
  exact List.map_congr_left fun p _ => rfl
theorem step_back (T : List (List Nm)) {r : Int} (hr : okR r = true) (hn : okR (r + 1) = true) : stepM T (r + 1) 0 (lstH T (r + 1) 95) = ((stepM T r 1 (lstH T r 95)).map Cx.back).reverse := by
  have e1 : stepM T (r + 1) 0 (lstH T (r + 1) 95) = (backs (lstH T (r + 1) 95)).flatMap (crs T (r + 1) 0) := rfl
  have e2 : stepM T r 1 (lstH T r 95) = (backs (lstH T r 95)).reverse.flatMap (crs T r 1) := rfl
  rw [e1, e2, back_lst T hr hn, List.flatMap_map, List.map_flatMap, List.reverse_flatMap, List.reverse_reverse]
  exact flat_congr' fun x _ => crs_back T r x
/-- A pass back. -/
def Pa.back (p : Pa) : Pa := ⟨p.id, p.f, oppM p.d⟩
theorem meets_back (T : List (List Nm)) {r : Int} (p : Int) (hr : okR r = true) (hn : okR (r + 1) = true) : meetsM (lstH T (r + 1) 95) p 0 = ((meetsM (lstH T r 95) p 1).map Pa.back).reverse := by
  have e1 : meetsM (lstH T (r + 1) 95) p 0 = ((backs (lstH T (r + 1) 95)).filter fun h => betw p h.s (h.s + 4 * stepD 0)).map (paOf 1) := rfl
  have e2 : meetsM (lstH T r 95) p 1 = (((backs (lstH T r 95)).filter fun h => betw p h.s (h.s + 4 * stepD 1)).map (paOf 0)).reverse := rfl
  rw [e1, e2, back_lst T hr hn, List.map_reverse, List.reverse_reverse, List.filter_map, List.map_map, List.map_map]
  have e3 : (backs (lstH T r 95)).filter ((fun h : Hd => betw p h.s (h.s + 4 * stepD 0)) ∘ mvH 1) = (backs (lstH T r 95)).filter fun h => betw p h.s (h.s + 4 * stepD 1) := by
    refine List.filter_congr fun x hx => ?_
    simp only [Function.comp_apply]
    rw [mvH_s (backs_b hx), show stepD 0 = -1 from rfl, show stepD 1 = 1 from rfl]
    unfold betw
    rw [show x.s + 4 * 1 + 4 * -1 = x.s by omega, Int.min_comm, Int.max_comm]
  rw [e3]
  refine List.map_congr_left fun x hx => ?_
  simp only [Function.comp_apply, paOf, Pa.back]
  rw [mvH_id, mvH_b]
  rfl
end Go.Proofs.YtjjnhmbgffdenaaDoor
