import Derived.Test.YtjjnhmbgffdenaaDoorGao
namespace Go.Proofs.YtjjnhmbgffdenaaDoor
open Go.RowKit Go.Sort
/-- The spot of a place of the beds. -/
def spH (r : Int) (i : Nat) : Int := spotM ((i / 40 : Nat) : Int) (((i % 40 : Nat) : Int) + 1) r
def selH (T : List (List Nm)) (r s : Int) (i : Nat) : List Hd := if spH r i = s then elH T r i else []
def rowH (T : List (List Nm)) (r s : Int) (n : Nat) : List Hd := (List.range n).flatMap (selH T r s)
/-- What a law lists: spot by spot, place by place. -/
def lstH (T : List (List Nm)) (r : Int) (n : Nat) : List Hd := (List.range n).flatMap fun J : Nat => rowH T r (-12 + 2 * (J : Int)) 80
theorem rowH_succ (T : List (List Nm)) (r s : Int) (n : Nat) : rowH T r s (n + 1) = rowH T r s n ++ selH T r s n := by
  unfold rowH
  rw [List.range_succ, List.flatMap_append]
  simp
theorem lstH_succ (T : List (List Nm)) (r : Int) (n : Nat) : lstH T r (n + 1) = lstH T r n ++ rowH T r (-12 + 2 * (n : Int)) 80 := by
  unfold lstH
  rw [List.range_succ, List.flatMap_append]
  simp
theorem rowH_len (T : List (List Nm)) (hT : TOk T) (r s : Int) : ∀ n, (rowH T r s n).length ≤ 4 * n
  | 0 => by simp [rowH]
  | n + 1 => by
    rw [rowH_succ, List.length_append]
    have := rowH_len T hT r s n
    have := elH_len T hT r n
    unfold selH
    split
    · omega
    · simp only [List.length_nil]; omega
theorem lstH_len (T : List (List Nm)) (hT : TOk T) (r : Int) : ∀ n, (lstH T r n).length ≤ 320 * n
  | 0 => by simp [lstH]
  | n + 1 => by
    rw [lstH_succ, List.length_append]
    have := lstH_len T hT r n
    have := rowH_len T hT r (-12 + 2 * (n : Int)) 80
    omega
/-- The heads of a place have its spot. -/
theorem elH_s {T : List (List Nm)} {r : Int} {i : Nat} {h : Hd} (hh : h ∈ elH T r i) : h.s = spH r i := by
  unfold elH at hh
  obtain ⟨p, _, rfl⟩ := List.mem_map.1 hh
  rfl
theorem fl_el (T : List (List Nm)) (r k : Int) (i : Nat) : Fl Hd.s k (elH T r i) = selH T r k i := by
  unfold selH Fl
  split
  · rename_i h
    rw [List.filter_eq_self]
    intro x hx
    simp [elH_s hx, h]
  · rename_i h
    rw [List.filter_eq_nil_iff]
    intro x hx
    simp [elH_s hx, h]
theorem fl_up (T : List (List Nm)) (r k : Int) (n : Nat) : Fl Hd.s k (upH T r n) = rowH T r k n := by
  induction n with
  | zero => rfl
  | succ n ih =>
    rw [upH_succ, rowH_succ]
    have h1 : Fl Hd.s k (upH T r n ++ elH T r n) = Fl Hd.s k (upH T r n) ++ Fl Hd.s k (elH T r n) := by unfold Fl; rw [List.filter_append]
    rw [h1, ih, fl_el]
theorem row_s {T : List (List Nm)} {r s : Int} {n : Nat} {h : Hd} (hh : h ∈ rowH T r s n) : h.s = s := by
  unfold rowH at hh
  obtain ⟨i, _, hi⟩ := List.mem_flatMap.1 hh
  unfold selH at hi
  split at hi
  · rename_i he
    rw [elH_s hi, he]
  · cases hi
theorem fl_row (T : List (List Nm)) (r s k : Int) (n : Nat) : Fl Hd.s k (rowH T r s n) = if s = k then rowH T r s n else [] := by
  unfold Fl
  split
  · rename_i h
    rw [List.filter_eq_self]
    intro x hx
    simp [row_s hx, h]
  · rename_i h
    rw [List.filter_eq_nil_iff]
    intro x hx
    simp [row_s hx, h]
theorem fl_lst (T : List (List Nm)) (r k : Int) (n : Nat) : Fl Hd.s k (lstH T r n) = if ∃ J : Nat, J < n ∧ -12 + 2 * (J : Int) = k then rowH T r k 80 else [] := by
  induction n with
  | zero => simp [lstH, Fl]
  | succ n ih =>
    rw [lstH_succ]
    have h1 : Fl Hd.s k (lstH T r n ++ rowH T r (-12 + 2 * (n : Int)) 80) = Fl Hd.s k (lstH T r n) ++ Fl Hd.s k (rowH T r (-12 + 2 * (n : Int)) 80) := by unfold Fl; rw [List.filter_append]
    rw [h1, ih, fl_row]
    by_cases he : -12 + 2 * (n : Int) = k
    · rw [if_neg (by rintro ⟨J, hJ, hJ2⟩; omega), if_pos he, if_pos ⟨n, by omega, he⟩, List.nil_append, he]
    · rw [if_neg he, List.append_nil]
      by_cases hc : ∃ J : Nat, J < n ∧ -12 + 2 * (J : Int) = k
      · obtain ⟨J, h1, h2⟩ := hc
        rw [if_pos ⟨J, h1, h2⟩, if_pos ⟨J, by omega, h2⟩]
      · rw [if_neg hc, if_neg]
        rintro ⟨J, h1, h2⟩
        refine hc ⟨J, ?_, h2⟩
        have : J ≠ n := fun e => he (by rw [← e]; exact h2)
        omega
theorem spH_in {r : Int} (hr : okR r = true) (i : Nat) (hi : i < 80) : ∃ J : Nat, J < 95 ∧ -12 + 2 * (J : Int) = spH r i := by
  have hr2 : -4 ≤ r ∧ r ≤ 4 := by unfold okR at hr; simpa using hr
  unfold spH spotM
  rw [if_pos ⟨isN_mk (by omega), hr⟩]
  by_cases hb : (((i / 40 : Nat) : Int) = 1)
  · rw [if_pos hb]
    refine ⟨(4 * (((i % 40 : Nat) : Int) + 1 + r) + 12).toNat / 2, ?_, ?_⟩
    · omega
    · omega
  · rw [if_neg hb]
    refine ⟨(4 * (((i % 40 : Nat) : Int) + 1) + 2 + 12).toNat / 2, ?_, ?_⟩
    · omega
    · omega
theorem sam_lst (T : List (List Nm)) {r : Int} (hr : okR r = true) : Sam Hd.s (upH T r 80) (lstH T r 95) := fun k => by
  rw [fl_lst, fl_up]
  split
  · rfl
  · rename_i hc
    symm
    rw [List.eq_nil_iff_forall_not_mem]
    intro x hx
    have hs := row_s hx
    unfold rowH at hx
    obtain ⟨i, hi, hi2⟩ := List.mem_flatMap.1 hx
    unfold selH at hi2
    split at hi2
    · rename_i he
      obtain ⟨J, h1, h2⟩ := spH_in hr i (List.mem_range.1 hi)
      exact hc ⟨J, h1, h2.trans he⟩
    · cases hi2
theorem srt_lst (T : List (List Nm)) (r : Int) (n : Nat) : Srt Hd.s (lstH T r n) ∧ ∀ x ∈ lstH T r n, x.s < -12 + 2 * (n : Int) := by
  induction n with
  | zero => exact ⟨List.Pairwise.nil, fun x hx => by cases hx⟩
  | succ n ih =>
    rw [lstH_succ]
    refine ⟨?_, fun x hx => ?_⟩
    · unfold Srt
      rw [List.pairwise_append]
      refine ⟨ih.1, ?_, fun x hx y hy => ?_⟩
      · have h : ∀ l : List Hd, (∀ x ∈ l, x.s = -12 + 2 * (n : Int)) → l.Pairwise (fun x y => x.s ≤ y.s) := fun l => by
          induction l with
          | nil => intro _; exact List.Pairwise.nil
          | cons a l ih2 =>
            intro h
            refine List.Pairwise.cons (fun y hy => ?_) (ih2 fun x hx => h x (by simp [hx]))
            rw [h a (by simp), h y (by simp [hy])]
            exact Int.le_refl _
        exact h _ fun x hx => row_s hx
      · have h1 := ih.2 x hx
        have h2 := row_s hy
        omega
    · rcases List.mem_append.1 hx with hx | hx
      · have := ih.2 x hx; push_cast; omega
      · have := row_s hx; push_cast; omega
theorem mrg_lst (T : List (List Nm)) {r : Int} (hr : okR r = true) : Mrg Hd.s (upH T r 80) (lstH T r 95) := ⟨(srt_lst T r 95).1, sam_lst T hr⟩
theorem ord_lst {T : List (List Nm)} {r : Int} (hr : okR r = true) {l : List Hd} (h : OrdOk T r l) : l = lstH T r 95 := h.1.unique (mrg_lst T hr)
def psiLs14 (b : Nat) (q : Nat) (n : Nat) (c : Nat) (kq : Nat) (PN : Nat) (v : Value) (py : Int) (pn : Int) (nb : Int) (na : Int) (sp : Int) : Nat → Value → World → Prop
  | 0, v9, _ => v9 = v
  | 1, v9, _ => v9 = .slice (some ⟨b, q, none⟩) n c
  | 2, v9, _ => v9 = .int .i64 (kq : Int)
  | 3, v9, _ => v9 = .pointer (some ⟨b, q + kq * 2, none⟩)
  | 4, v9, _ => v9 = .agg #[.int .u8 py, .int .i64 pn]
  | 5, v9, _ => v9 = .agg #[.int .u8 nb, .int .i64 na]
  | 6, v9, _ => v9 = .int .i64 sp
  | 7, v9, _ => v9 = .agg #[.int .u8 py, .int .i64 pn, .int .u8 nb, .int .i64 na, .int .i64 sp]
  | 8, v9, w9 => ∃ b9, v9 = .slice (some ⟨b9, 0, none⟩) 1 1 ∧ b9 < w9.heap.size ∧ w9.heap[b9]? = some (.cells (Hd.enc ⟨⟨py, pn⟩, nb, na, sp⟩).toArray 40 (0, 0))
  | _, _, _ => True
theorem psiLs14_stab (b : Nat) (q : Nat) (n : Nat) (c : Nat) (kq : Nat) (PN : Nat) (v : Value) (py : Int) (pn : Int) (nb : Int) (na : Int) (sp : Int) (i9 : Nat) (v9 : Value) (w9 w9' : World) (h : psiLs14 b q n c kq PN v py pn nb na sp i9 v9 w9) (_hb : Below w9.heap.size w9 w9') : psiLs14 b q n c kq PN v py pn nb na sp i9 v9 w9' := by
  match i9, h with
  | 0, h => exact h
  | 1, h => exact h
  | 2, h => exact h
  | 3, h => exact h
  | 4, h => exact h
  | 5, h => exact h
  | 6, h => exact h
  | 7, h => exact h
  | 8, h => exact (by obtain ⟨b9, h1, h2, h3⟩ := h; exact ⟨b9, h1, Nat.lt_of_lt_of_le h2 _hb.size, (_hb.block b9 h2).trans h3⟩)
  | i9 + 9, _ => exact trivial
set_option maxRecDepth 100000 in
set_option maxHeartbeats 8000000 in
/-- What a law lists. -/
theorem listed_any (d : Bds) (T : List (List Nm)) (r : Int) (B : Nat) (w : World) (hB : B ≤ w.heap.size) (hd : d.ok B w) (hr : Reads T d) (hT : TOk T) :
    Calls Tryd.prog 12 #[d.v, .int .i64 r] w fun e w' => ∃ v, e = .returned v ∧ w'.ownsRow w.heap.size 40 5 v (lstH T r 95).length (rcells Hd.enc (lstH T r 95)) ∧ Below w.heap.size w w' := by
  have HD := Lib.hid (hd.mono hB)
  have HR := Lib.hid hr
  have HT := Lib.hid hT
  have hat : ∀ (W : World), Below w.heap.size w W → ∀ (k i : Nat), k < 2 → i < 40 → Calls Tryd.prog 30 #[d.v, .agg #[.int .u8 k, .int .i64 ((i : Int) + 1)]] W (NewAt (T.getD (k * 40 + i) []) W) := fun W hb k i hk hi => by
    have h := at_own d k ((i : Int) + 1) (by omega) w.heap.size W hb.size (HD.out.below hb)
    rw [reads_at HR.out hk hi] at h
    exact h
  obtain ⟨⟨fa, fs, fc⟩, ⟨ba, bs, bc⟩⟩ := d
  simp only [Bds.v, Bed.v] at hat ⊢
  have HAT := Lib.hid hat
  clear hat hd hr hT HD HR
  go_enter Tryd.func12, Tryd.ntmps12
  go_wp2
  have hbx := Boxed2.new w 26 (.slice fa fs.length fc) (.slice ba bs.length bc)
  have hb0 := below1 w (.cells #[.slice fa fs.length fc, .slice ba bs.length bc] 26)
  obtain ⟨W0, hW0⟩ : ∃ W, w.alloc (.cells #[.slice fa fs.length fc, .slice ba bs.length bc] 26) = W := ⟨_, rfl⟩
  rw [hW0] at hbx hb0 ⊢
  have HBX := Lib.hid hbx
  have HB0 := Lib.hid hb0
  have hsz0 : w.heap.size < W0.heap.size := hbx.lt
  clear hW0 hbx hb0
  go_loopg [5, 6] 96 (fun g v s6 wr => ∃ J : Nat, s6 = .int .i64 (-12 + 2 * (J : Int)) ∧ J ≤ 95 ∧ g = 96 - J ∧ Hid (wr.ownsRow (w.heap.size + 1) 40 5 v (lstH T r J).length (rcells Hd.enc (lstH T r J))) ∧ RowKit.Below (w.heap.size + 1) W0 wr)
  case atStart => exact ⟨0, rfl, by omega, rfl, Lib.hid (World.ownsRow_nil _ _ _ _), Below.refl _ _⟩
  case round =>
    obtain ⟨J, rfl, hJ, hg, HO, hbr⟩ := hrel
    have HG := Lib.hid hg
    clear hg
    obtain ⟨s, hs⟩ : ∃ s : Int, -12 + 2 * (J : Int) = s := ⟨_, rfl⟩
    have hsb : -12 ≤ s ∧ s ≤ 178 := by omega
    have HS := Lib.hid hs
    have HJ := Lib.hid hJ
    rw [hs]
    by_cases hJ2 : s ≤ 176
    · have hJ95 : Hid (J < 95) := Lib.hid (by omega)
      clear hs hJ
      go_wp2_with fail
      go_loopg [5, 7] 81 (fun g v s7 wr => ∃ i : Nat, s7 = .int .i64 i ∧ i ≤ 80 ∧ g = 81 - i ∧ Hid (wr.ownsRow (w.heap.size + 1) 40 5 v (lstH T r J ++ rowH T r s i).length (rcells Hd.enc (lstH T r J ++ rowH T r s i))) ∧ RowKit.Below (w.heap.size + 1) W0 wr)
      case atStart => exact ⟨0, rfl, by omega, rfl, by simpa [rowH] using HO, hbr⟩
      case round =>
        clear HO hbr
        obtain ⟨i, rfl, hi, hg, HO, hbr⟩ := hrel
        have HG2 := Lib.hid hg
        clear hg
        by_cases hi2 : i < 80
        · have hiz : (i : Int) < 80 := by omega
          have hw8 : IntKind.u8.wrap (i : Int) = (i : Int) := IntWalk.u8_in _ (by omega)
          have hnd := needle_any i wr hi2
          have hq : i / 40 < 2 ∧ i % 40 < 40 ∧ i / 40 * 40 + i % 40 = i := by omega
          have HSPH := Lib.hid (show spH r i = spotM ((i / 40 : Nat) : Int) (((i % 40 : Nat) : Int) + 1) r from rfl)
          have HEL := Lib.hid (show elH T r i = (T.getD i []).map fun p => ⟨p, ((i / 40 : Nat) : Int), ((i % 40 : Nat) : Int) + 1, spotM ((i / 40 : Nat) : Int) (((i % 40 : Nat) : Int) + 1) r⟩ from rfl)
          obtain ⟨nb, hnb⟩ : ∃ nb, i / 40 = nb := ⟨_, rfl⟩
          obtain ⟨na, hna⟩ : ∃ na, i % 40 = na := ⟨_, rfl⟩
          rw [hnb, hna] at hnd hq HSPH HEL
          have HQ := Lib.hid hq
          have HND := Lib.hid hnd
          have hzb : -1000 ≤ spotM (nb : Int) ((na : Int) + 1) r ∧ spotM (nb : Int) ((na : Int) + 1) r ≤ 1000 := by
            unfold spotM
            split
            · rename_i h
              have h2 : -4 ≤ r ∧ r ≤ 4 := by have := h.2; unfold okR at this; simpa using this
              split <;> omega
            · omega
          obtain ⟨z, hz⟩ : ∃ z, spotM (nb : Int) ((na : Int) + 1) r = z := ⟨_, rfl⟩
          have HZ := Lib.hid hz
          rw [hz] at HSPH HEL hzb
          clear hq hnd hnb hna hz
          by_cases hsp : z = s
          · subst hsp
            go_upto_region 9 with (go_at_call 28; refine HND.out.mono ?_; rintro e w1 ⟨rfl, hb1⟩)
            have HB1 := Lib.hid (hbr.trans (hb1.mono (by have := hbr.size; omega)))
            have HO1 := Lib.hid (below_owns HO.out hb1)
            have hbN := Boxed2.new w1 38 (.int .u8 nb) (.int .i64 ((na : Int) + 1))
            have hb9 := HB1.out.alloc (by have := HB1.out.size; omega) (.cells #[.int .u8 nb, .int .i64 ((na : Int) + 1)] 38)
            have hO9 := HO1.out.alloc (.cells #[.int .u8 nb, .int .i64 ((na : Int) + 1)] 38)
            have hlt9 : w1.heap.size < (w1.alloc (.cells #[.int .u8 nb, .int .i64 ((na : Int) + 1)] 38)).heap.size := by simp
            have hsep : ∀ g, u5.ownBlock = some g → g ≠ w1.heap.size := fun g hg => by have := (HO1.out.lt g hg).2; omega
            have HSP := Lib.hid hsep
            have hbx := HBX.out.below hb9 (Nat.lt_succ_self _)
            obtain ⟨w9, hw9⟩ : ∃ w9, w1.alloc (.cells #[.int .u8 nb, .int .i64 ((na : Int) + 1)] 38) = w9 := ⟨_, rfl⟩
            rw [hw9] at hbN hb9 hO9 hlt9 hbx
            rw [hw9]
            clear hw9 hsep hb1 hbr HND hw8
            have hlx : w.heap.size < w9.heap.size := hbx.lt
            have x0 := hbx.cell0
            have x1 := hbx.cell1
            have n0 := hbN.cell0
            have n1 := hbN.cell1
            obtain ⟨xl, hxl⟩ : ∃ xl, T.getD i [] = xl := ⟨_, rfl⟩
            have hl4 : xl.length ≤ 4 := by
              rw [← hxl]
              rcases getD_mem_or (l := T) i with h | h
              · exact (HT.out.st _ h).1
              · rw [h]; simp
            rw [hxl] at HEL
            have HC := Lib.hid (fun (W : World) (hb : RowKit.Below w9.heap.size w9 W) => HAT.out W (HB0.out.trans ((hb9.trans (hb.mono (by have := hb9.size; omega))).mono (by omega))) nb na HQ.out.1 HQ.out.2.1)
            rw [HQ.out.2.2, hxl] at HC
            clear hxl
            obtain ⟨L0, hL0⟩ : ∃ L0, lstH T r J ++ rowH T r z i = L0 := ⟨_, rfl⟩
            have hL0l : L0.length ≤ 40000 := by
              have h1 := lstH_len T HT.out r J
              have h2 := rowH_len T HT.out r z i
              have h3 := hJ95.out
              rw [← hL0, List.length_append]; omega
            have HL0 := Lib.hid hL0
            have HL0L := Lib.hid hL0l
            rw [hL0] at hO9
            have HO9 := Lib.hid hO9
            have HB9 := Lib.hid hb9
            have HBN9 := Lib.hid hbN
            have HBX9 := Lib.hid hbx
            have HLT9 := Lib.hid hlt9
            have HLX := Lib.hid hlx
            clear hL0 hL0l hO9 hb9 hbN hbx hlt9 hlx HO HO1 HB1
            go_wp2_with (first
              | (go_at_call 29; refine (spot_any (nb : Int) ((na : Int) + 1) r w9 (by omega)).mono ?_; rintro e w2 ⟨rfl, hb2⟩; rw [HZ.out]; clear x0 x1 n0 n1; have h2x := HBX9.out.below hb2 HLX.out; have h2n := HBN9.out.below hb2 HLT9.out; have x0 := h2x.cell0; have x1 := h2x.cell1; have n0 := h2n.cell0; have n1 := h2n.cell1; have HC2 := Lib.hid (HC.out w2 hb2); have HB2 := Lib.hid hb2; clear hb2 h2x h2n)
              | (go_at_call 30; refine HC2.out.mono ?_; rintro e w3 ⟨⟨ca, cl, cc⟩, rfl, hc3, hb3⟩; clear x0 x1 n0 n1; simp only [Cel.v]))
            obtain ⟨rfl, hcc, hok, hown⟩ := hc3.out
            (try dsimp only at hcc); (try dsimp only at hl4); (try dsimp only at HEL); (try dsimp only at hown)
            have hb92 : RowKit.Below w9.heap.size w9 w3 := HB2.out.trans (hb3.mono HB2.out.size)
            have hb3' : RowKit.Below (w.heap.size + 1) W0 w3 := HB9.out.trans (hb92.mono (by have := HB9.out.size; omega))
            have HBN := Lib.hid (HBN9.out.below hb92 HLT9.out)
            have HOb := Lib.hid (below_owns HO9.out hb92)
            have HCL := Lib.hid hown
            have hsp0 : Hid (∀ g, u5.ownBlock = some g → g ≠ w1.heap.size ∧ (Cel.v ⟨ca, cl, cc⟩).ownBlock ≠ some g) := Lib.hid (fun g hg => ⟨HSP.out g hg, fun e => by
              have e1 := (HO9.out.lt g hg).2
              have e2 := (hown.lt g e).1
              have e3 := HB2.out.size
              omega⟩)
            have h93 : w1.heap.size < w3.heap.size := HBN.out.lt
            have hN2 : w.heap.size + 1 ≤ w2.heap.size := by have := HB9.out.size; have := HB2.out.size; omega
            clear hc3 hcc hok hown HC HC2 HSP HB9 HBN9 HBX9 HLT9 HLX hb3 hb92 HB2
            generalize w1.heap.size = B9 at HBN hsp0 h93 ⊢
            obtain ⟨nl, hnl⟩ : ∃ n, cl.length = n := ⟨_, rfl⟩
            have HNL := Lib.hid hnl
            rw [hnl] at hl4 ⊢
            clear hnl
            go_loopg [5, 10] 5 (fun g v s27 wx => ∃ m : Nat, s27 = .int .i64 m ∧ m ≤ nl ∧ g = 5 - m ∧ Hid (wx.ownsRow (w.heap.size + 1) 40 5 v (L0 ++ (elH T r i).take m).length (rcells Hd.enc (L0 ++ (elH T r i).take m))) ∧ Hid (Boxed2 wx B9 38 (.int .u8 nb) (.int .i64 ((na : Int) + 1))) ∧ Hid (wx.ownsRow (w.heap.size + 1) 35 2 (Cel.v ⟨ca, cl, cc⟩) cl.length (cellsOf cl)) ∧ Hid (∀ g, v.ownBlock = some g → g ≠ B9 ∧ (Cel.v ⟨ca, cl, cc⟩).ownBlock ≠ some g) ∧ RowKit.Below (w.heap.size + 1) W0 wx)
            case atStart => exact ⟨0, rfl, by omega, rfl, by simpa using HOb, HBN, Lib.hid (ownsRow_mono HCL.out hN2), hsp0, hb3'⟩
            case round =>
              clear HOb HBN HCL hsp0 hb3' h93
              obtain ⟨m, rfl, hm, hg, HO, HBN, HCL, HSP, hbr3⟩ := hrel
              have HG3 := Lib.hid hg
              clear hg
              by_cases hm2 : m < nl
              · have hmz : (m : Int) < (nl : Int) := by omega
                have hcl := own_ok HCL.out (by simp only; rw [HNL.out]; omega)
                obtain ⟨b, o, ha, hb, t0, t1⟩ := hcl.at (i := m) (by simp only; rw [HNL.out]; exact hm2)
                obtain rfl : ca = some ⟨b, o, none⟩ := ha
                obtain ⟨p, hp⟩ : ∃ p, cl[m]'(by rw [HNL.out]; exact hm2) = p := ⟨_, rfl⟩
                simp only [hp] at t0 t1
                have hst : (elH T r i).take (m + 1) = (elH T r i).take m ++ [⟨p, nb, (na : Int) + 1, z⟩] := by
                  have hlen : m < (elH T r i).length := by rw [HEL.out, List.length_map, HNL.out]; exact hm2
                  rw [List.take_succ_eq_append_getElem hlen]
                  congr 2
                  simp only [HEL.out, List.getElem_map, hp]
                have HST := Lib.hid hst
                have HI0 : Hid (∀ {W : World}, RowKit.Below wr.heap.size wr W → W.cell? ⟨b, o + m * 2, none⟩ = some (.int .u8 p.y)) := Lib.hid fun h => (h.cell (p := ⟨b, o + m * 2, none⟩) hb).trans t0
                have HI1 : Hid (∀ {W : World}, RowKit.Below wr.heap.size wr W → W.cell? ⟨b, o + m * 2 + 1, none⟩ = some (.int .i64 p.n)) := Lib.hid fun h => (h.cell (p := ⟨b, o + m * 2 + 1, none⟩) hb).trans t1
                have HN0 : Hid (∀ {W : World}, RowKit.Below wr.heap.size wr W → W.cell? ⟨B9, 0, none⟩ = some (.int .u8 nb)) := Lib.hid fun h => (HBN.out.below h HBN.out.lt).cell0
                have HN1 : Hid (∀ {W : World}, RowKit.Below wr.heap.size wr W → W.cell? ⟨B9, 0 + 1, none⟩ = some (.int .i64 ((na : Int) + 1))) := Lib.hid fun h => (HBN.out.below h HBN.out.lt).cell1
                have HKN := Lib.hid hm2
                have HB3 := Lib.hid hbr3
                clear hst hp hcl t0 t1 hbr3
                go_upto_region 14 with fail
                refine rgT2s 5 9 [some 36, some 37, some 38, some 39, some 40, some 41, some 42, some 43, some 44, some 45, some 5] (psiLs14 b o nl cc m B9 u5 p.y p.n (nb : Int) ((na : Int) + 1) z) (fun w' => RowKit.Below wr.heap.size wr w') (by kernel_rfl) (by kernel_rfl) (by kernel_rfl) (by kernel_rfl) (by kernel_rfl) (psiLs14_stab b o nl cc m B9 u5 p.y p.n (nb : Int) ((na : Int) + 1) z) (fun _ _ h hb => h.trans (hb.mono h.size)) (fun i9 o9 hi9 ho9 aq9 w1 hs hout hold hI hdep => ?_) ?_ ((Below.refl _ _).drew)
                · skip
                  match i9, hi9, ho9 with
                  | 0, _, ho9 =>
                    obtain rfl := Option.some.inj ho9
                    refine .inl ⟨rfl, fun K hK => ?_⟩
                    exact st_move rfl (hold.trans rfl) (hK _ _ (Below.refl _ _) rfl)
                  | 1, _, ho9 =>
                    obtain rfl := Option.some.inj ho9
                    refine .inl ⟨rfl, fun K hK => ?_⟩
                    exact st_move rfl ((hout 9 rfl).trans rfl) (hK _ _ (Below.refl _ _) rfl)
                  | 2, _, ho9 =>
                    obtain rfl := Option.some.inj ho9
                    refine .inl ⟨rfl, fun K hK => ?_⟩
                    exact st_move rfl ((hout 10 rfl).trans rfl) (hK _ _ (Below.refl _ _) rfl)
                  | 3, _, ho9 =>
                    obtain rfl := Option.some.inj ho9
                    have dq1 : (aq9.tmps.getD 37 undef) = .slice (some ⟨b, o, none⟩) nl cc := hdep ⟨1, .data⟩ (by simp) rfl _ rfl
                    have dq2 : (aq9.tmps.getD 38 undef) = .int .i64 (m : Int) := hdep ⟨2, .data⟩ (by simp) rfl _ rfl
                    refine .inl ⟨rfl, fun K hK => ?_⟩
                    exact st_idx61 (k := m) rfl dq1 dq2 HKN.out (hK _ _ (Below.refl _ _) rfl)
                  | 4, _, ho9 =>
                    obtain rfl := Option.some.inj ho9
                    have dq3 : (aq9.tmps.getD 39 undef) = .pointer (some ⟨b, o + m * 2, none⟩) := hdep ⟨3, .data⟩ (by simp) rfl _ rfl
                    refine .inl ⟨rfl, fun K hK => ?_⟩
                    exact ld28 rfl dq3 (HI0.out hI) (HI1.out hI) (hK _ _ (Below.refl _ _) rfl)
                  | 5, _, ho9 =>
                    obtain rfl := Option.some.inj ho9
                    refine .inl ⟨rfl, fun K hK => ?_⟩
                    exact ld26 rfl ((hout 8 rfl).trans rfl) (HN0.out hI) (HN1.out hI) (hK _ _ (Below.refl _ _) rfl)
                  | 6, _, ho9 =>
                    obtain rfl := Option.some.inj ho9
                    refine .inl ⟨rfl, fun K hK => ?_⟩
                    exact st_move rfl ((hout 6 rfl).trans rfl) (hK _ _ (Below.refl _ _) rfl)
                  | 7, _, ho9 =>
                    obtain rfl := Option.some.inj ho9
                    have dq4 : (aq9.tmps.getD 40 undef) = .agg #[.int .u8 p.y, .int .i64 p.n] := hdep ⟨4, .data⟩ (by simp) rfl _ rfl
                    have dq5 : (aq9.tmps.getD 41 undef) = .agg #[.int .u8 (nb : Int), .int .i64 ((na : Int) + 1)] := hdep ⟨5, .data⟩ (by simp) rfl _ rfl
                    have dq6 : (aq9.tmps.getD 42 undef) = .int .i64 z := hdep ⟨6, .data⟩ (by simp) rfl _ rfl
                    refine .inl ⟨rfl, fun K hK => ?_⟩
                    exact st_build40 rfl dq4 dq5 dq6 (hK _ _ (Below.refl _ _) rfl)
                  | 8, _, ho9 =>
                    obtain rfl := Option.some.inj ho9
                    have dq7 : (aq9.tmps.getD 43 undef) = .agg #[.int .u8 p.y, .int .i64 p.n, .int .u8 (nb : Int), .int .i64 ((na : Int) + 1), .int .i64 z] := hdep ⟨7, .data⟩ (by simp) rfl _ rfl
                    refine .inl ⟨rfl, fun K hK => ?_⟩
                    exact st_bs40 ⟨⟨p.y, p.n⟩, (nb : Int), ((na : Int) + 1), z⟩ rfl dq7 (hK _ _ (below1 _ _) ⟨_, rfl, by simp, heap_alloc_new _ _⟩)
                  | i9 + 9, hi9, _ => exact absurd hi9 (by omega)
                · intro a2 w2 hs hd hout hold hI hall
                  obtain ⟨tmps, defers⟩ := a2
                  have e_36 : (tmps.getD 36 undef) = u5 := hall 0 _ (by decide) rfl
                  have e_44 : ∃ b9, (tmps.getD 44 undef) = .slice (some ⟨b9, 0, none⟩) 1 1 ∧ b9 < w2.heap.size ∧ w2.heap[b9]? = some (.cells (Hd.enc ⟨⟨p.y, p.n⟩, (nb : Int), ((na : Int) + 1), z⟩).toArray 40 (0, 0)) := hall 8 _ (by decide) rfl
                  obtain ⟨b12, e_44, hlb12, hrb12⟩ := e_44
                  simp only at hs hd hout
                  have ef := frameAt [some 36, some 37, some 38, some 39, some 40, some 41, some 42, some 43, some 44, some 45, some 5] _ tmps hs hout
                  obtain ⟨sv14, hu⟩ : ∃ u : Nat → Value, u = fun s => tmps.getD s undef := ⟨_, rfl⟩
                  have eu_36 : sv14 36 = u5 := by rw [hu]; exact e_36
                  have eu_44 : sv14 44 = .slice (some ⟨b12, 0, none⟩) 1 1 := by rw [hu]; exact e_44
                  rw [← hu] at ef
                  have ef2 : tmps = #[Value.agg #[Value.slice fa fs.length fc, Value.slice ba bs.length bc], Value.int IntKind.i64 r, Value.pointer (some { block := w.heap.size, off := 0 }), undef, Value.slice none 0 0, (sv14 5), Value.int IntKind.i64 z, Value.int IntKind.i64 i, Value.pointer (some { block := B9, off := 0 }), Value.slice (some { block := b, off := o }) nl cc, Value.int IntKind.i64 m, Value.int IntKind.i64 z, Value.bool true, u13, u14, Value.int IntKind.i64 i, Value.bool true, u17, u18, Value.int IntKind.i64 i, Value.int IntKind.u8 i, Value.agg #[Value.int IntKind.u8 nb, Value.int IntKind.i64 (na + 1)], Value.agg #[Value.int IntKind.u8 nb, Value.int IntKind.i64 (na + 1)], Value.int IntKind.i64 r, Value.int IntKind.i64 z, Value.int IntKind.i64 z, Value.bool false, Value.agg #[Value.slice fa fs.length fc, Value.slice ba bs.length bc], Value.agg #[Value.int IntKind.u8 nb, Value.int IntKind.i64 (na + 1)], Value.slice (some { block := b, off := o }) nl cc, Value.int IntKind.i64 m, Value.slice (some { block := b, off := o }) nl cc, Value.int IntKind.i64 nl, Value.bool true, u34, u35, (sv14 36), (sv14 37), (sv14 38), (sv14 39), (sv14 40), (sv14 41), (sv14 42), (sv14 43), (sv14 44), (sv14 45), undef] := ef
                  subst hd
                  rw [eu_36, eu_44] at ef2
                  rw [ef2]
                  clear ef ef2 hu hs hout hall e_36 eu_36 e_44 eu_44
                  simp only [List.drop_succ_cons, List.drop_zero]
                  have hO2 := Lib.hid (below_owns HO.out hI)
                  have hrc : Rec Hd.enc w2 b12 ⟨⟨p.y, p.n⟩, nb, (na : Int) + 1, z⟩ := fun j u hj => by
                    rw [cell_of_row w2 b12 j _ 40 (0, 0) hrb12]
                    simpa using hj
                  have hbr4 : RowKit.Below (w.heap.size + 1) W0 w2 := HB3.out.trans (hI.mono (by have := HB3.out.size; omega))
                  have HBN2 := Lib.hid (HBN.out.below hI HBN.out.lt)
                  have HCL2 := Lib.hid (below_owns HCL.out hI)
                  have hl3 : (L0 ++ (elH T r i).take m).length ≤ 100000 := by have := HL0L.out; rw [List.length_append, List.length_take]; omega
                  clear HI0 HI1 HN0 HN1 hI hrb12 hlb12
                  refine wpList_app_rec kdHd (v := u5) (x := ⟨⟨p.y, p.n⟩, nb, (na : Int) + 1, z⟩) rfl rfl rfl rfl hO2.out hrc hl3 (by have := hbr4.size; omega) ?_
                  intro v4 w4 hw4 hg4 hat4
                  have HW4 := Lib.hid hw4
                  have HB4 := Lib.hid (HBN2.out.kept hg4 (fun e => (HSP.out _ e.symm).1 rfl))
                  have HC4 := Lib.hid (HCL2.out.kept hg4 (by
                    cases h : u5.ownBlock with
                    | none => exact none_or _
                    | some g => exact .inr (HSP.out g h).2))
                  have hbr5 := hbr4.grown hg4 (by have := hbr4.size; omega) (fun g e => (hO2.out.lt g e).1)
                  have HS4 : Hid (∀ g, v4.ownBlock = some g → g ≠ B9 ∧ (Cel.v ⟨some ⟨b, o, none⟩, cl, cc⟩).ownBlock ≠ some g) := Lib.hid (fun g hg => by
                    rcases hat4 with e | e
                    · exact HSP.out g (by rw [← e]; exact hg)
                    · obtain rfl : w2.heap.size = g := Option.some.inj (e.symm.trans hg)
                      refine ⟨by have := HBN2.out.lt; omega, fun e2 => ?_⟩
                      have := (HCL2.out.lt _ e2).2
                      omega)
                  clear hw4 hg4 hat4 hrc HBN2 HCL2 hO2 hbr4
                  go_wp2_with fail
                  go_roundg (5 - (m + 1))
                  case measure => have := HG3.out; omega
                  case rel => exact ⟨m + 1, by go_num, by omega, by omega, Lib.hid (by
                    rw [HST.out, ← List.append_assoc]; exact HW4.out), HB4, HC4, HS4, hbr5⟩
              · obtain rfl : m = nl := by omega
                have hmz : ¬ ((m : Int) < (m : Int)) := by omega
                have HO2 : Hid (wr.ownsRow (w.heap.size + 1) 40 5 u5 (lstH T r J ++ rowH T r z (i + 1)).length (rcells Hd.enc (lstH T r J ++ rowH T r z (i + 1)))) := Lib.hid (by
                  have h1 : (elH T r i).take m = elH T r i := List.take_of_length_le (by rw [HEL.out, List.length_map, HNL.out]; exact Nat.le_refl _)
                  have h2 := HO.out
                  rw [rowH_succ, ← List.append_assoc, HL0.out]
                  unfold selH
                  rw [if_pos HSPH.out]
                  rw [h1] at h2
                  exact h2)
                clear HO
                go_wp2_with fail
                go_roundg (81 - (i + 1))
                case measure => have := HG2.out; omega
                case rel => exact ⟨i + 1, by go_num, by omega, by omega, HO2, hbr3⟩
          · have hzs : (z == s) = false := by simp [hsp]
            have HNS := Lib.hid hsp
            go_upto_region 9 with (go_at_call 28; refine HND.out.mono ?_; rintro e w1 ⟨rfl, hb1⟩)
            have HB1 := Lib.hid (hbr.trans (hb1.mono (by have := hbr.size; omega)))
            have HO1 := Lib.hid (below_owns HO.out hb1)
            have hbN := Boxed2.new w1 38 (.int .u8 nb) (.int .i64 ((na : Int) + 1))
            have hb9 := HB1.out.alloc (by have := HB1.out.size; omega) (.cells #[.int .u8 nb, .int .i64 ((na : Int) + 1)] 38)
            have hO9 := HO1.out.alloc (.cells #[.int .u8 nb, .int .i64 ((na : Int) + 1)] 38)
            have HW9 := Lib.hid (below1 w1 (.cells #[.int .u8 nb, .int .i64 ((na : Int) + 1)] 38))
            obtain ⟨w9, hw9⟩ : ∃ w9, w1.alloc (.cells #[.int .u8 nb, .int .i64 ((na : Int) + 1)] 38) = w9 := ⟨_, rfl⟩
            rw [hw9] at hbN hb9 hO9
            rw [hw9]
            clear hw9 hb1 hbr HND hw8
            have n0 := hbN.cell0
            have n1 := hbN.cell1
            have HO9 := Lib.hid hO9
            have HB9 := Lib.hid hb9
            clear hO9 hb9 hbN HO HO1 HB1
            go_wp2_with (go_at_call 29; refine (spot_any (nb : Int) ((na : Int) + 1) r w9 (by omega)).mono ?_; rintro e w2 ⟨rfl, hb2⟩; rw [HZ.out]; clear n0 n1)
            go_roundg (81 - (i + 1))
            case measure => have := HG2.out; omega
            case rel => exact ⟨i + 1, by go_num, by omega, by omega, Lib.hid (by
              rw [rowH_succ]
              unfold selH
              rw [if_neg (by rw [HSPH.out]; exact HNS.out), List.append_nil]
              exact below_owns HO9.out hb2), HB9.out.trans (hb2.mono (by have := HB9.out.size; omega))⟩
        · obtain rfl : i = 80 := by omega
          have hiz : ¬ (((80 : Nat) : Int) < 80) := by omega
          have hiz2 : ¬ ((80 : Int) < 80) := by omega
          have HO2 : Hid (wr.ownsRow (w.heap.size + 1) 40 5 u5 (lstH T r (J + 1)).length (rcells Hd.enc (lstH T r (J + 1)))) := Lib.hid (by
            rw [lstH_succ, HS.out]; exact HO.out)
          clear HO
          go_wp2_with fail
          go_roundg (96 - (J + 1))
          case measure => have := HG.out; have := hJ95.out; omega
          case rel => exact ⟨J + 1, by have := HS.out; rw [← this]; go_num, by have := hJ95.out; omega, by omega, HO2, hbr⟩
    · obtain rfl : J = 95 := by have := HS.out; have := HJ.out; omega
      go_wp2_with fail
      go_ret
      exact ⟨_, rfl, ownsRow_mono HO.out (by omega), HB0.out.trans (hbr.mono (by omega))⟩
end Go.Proofs.YtjjnhmbgffdenaaDoor
namespace Go.Proofs.YtjjnhmbgffdenaaDoor
open Go.RowKit Go.Sort
set_option maxRecDepth 100000 in
set_option maxHeartbeats 1000000 in
theorem Of_any (ao : Option Addr) (xs : List (Nat × Nat)) (cap : Nat) (w : World) (h : LieP w ao xs) :
    Calls Tryd.prog 9 #[.slice ao xs.length cap] w (BdOf (ofM xs) w) := by
  have HL := Lib.hid h
  clear h
  obtain ⟨T9, hT9⟩ : ∃ T9, T9 = ofM xs := ⟨_, rfl⟩
  rw [← hT9]
  have HT9 := Lib.hid hT9
  clear hT9
  obtain ⟨N, hN⟩ : ∃ N, N = xs.length := ⟨_, rfl⟩
  rw [← hN]
  have HN := Lib.hid hN
  clear hN
  go_enter Tryd.func9, Tryd.ntmps9
  go_wp2_with fail
  obtain ⟨W0, hW0⟩ : ∃ W0, w.alloc (.cells #[.slice none 0 0, .slice none 0 0] 26) = W0 := ⟨_, rfl⟩
  have bR : Boxed2 W0 w.heap.size 26 (.slice none 0 0) (.slice none 0 0) := by rw [← hW0]; exact Boxed2.new _ _ _ _
  have hB0 : Below w.heap.size w W0 := by rw [← hW0]; exact below1 _ _
  have HOF : Hid (Calls Tryd.prog 20 #[.slice ao N cap] W0 (NewFul T9 W0)) := Lib.hid (by
    rw [HN.out, HT9.out]; exact of_any ao xs cap W0 (HL.out.below hB0))
  rw [hW0]
  clear hW0
  go_wp2_with (first
    | (go_at_call 20; refine HOF.out.mono ?_; rintro e w1 ⟨cs, rfl, hcs, hb1⟩; have hB1 : Below w.heap.size w w1 := hB0.trans (hb1.mono hB0.size); have bR1 := bR.below hb1 bR.lt)
    | (go_at_call 21; refine (beds_any cs w1 hcs.out.1 hcs.out.2.2).mono ?_; rw [hcs.out.2.1]; rintro e w2 ⟨⟨⟨ga, gs, gc⟩, ⟨ka, ks, kc⟩⟩, rfl, hbd, hb2⟩; simp only [Bds.v, Bed.v]; have hB2 : Below w.heap.size w w2 := hB1.trans (hb2.mono hB1.size); have bR2 := bR1.below hb2 bR1.lt; have r0 := bR2.cell0; have r1 := bR2.cell1; have fR := bR2.frozen))
  have nF : ∀ b o, ga = some ⟨b, o, none⟩ → b ≠ w.heap.size := fun b o e => by
    have h1 := hbd.out.2.2.2.1 b o e
    have h2 := bR1.lt
    omega
  have nB : ∀ b o, ka = some ⟨b, o, none⟩ → b ≠ w.heap.size := fun b o e => by
    have h1 := hbd.out.2.2.2.2 b o e
    have h2 := bR1.lt
    omega
  have b9 := bR2.set0 (.slice ga gs.length gc)
  have b4 := b9.set1 (.slice ka ks.length kc)
  have b40 := b4.cell0
  have b41 := b4.cell1
  have okF := ((hbd.out.2.2.1.1.set_box bR2 (isSl_mk _ _ _) (isSl_mk _ _ _) nF 0 (.slice ga gs.length gc)).set_box b9 (isSl_mk _ _ _) (isSl_mk _ _ _) nF 1 (.slice ka ks.length kc))
  have okB := ((hbd.out.2.2.1.2.set_box bR2 (isSl_mk _ _ _) (isSl_mk _ _ _) nB 0 (.slice ga gs.length gc)).set_box b9 (isSl_mk _ _ _) (isSl_mk _ _ _) nB 1 (.slice ka ks.length kc))
  refine bodyPost_ret (v := .agg #[.slice ga gs.length gc, .slice ka ks.length kc]) (by simp [results, Tryd.results9, go_sem, b40, b41]) rfl ⟨⟨⟨ga, gs, gc⟩, ⟨ka, ks, kc⟩⟩, rfl, Lib.hid ⟨hbd.out.1, hbd.out.2.1, ⟨okF.mono (by simp), okB.mono (by simp)⟩, fun b o e => ?_, fun b o e => ?_⟩, ?_⟩
  · have h1 := hbd.out.2.2.2.1 b o e
    have h2 := bR1.lt
    omega
  · have h1 := hbd.out.2.2.2.2 b o e
    have h2 := bR1.lt
    omega
  · exact (hB2.setCell (p := ⟨w.heap.size, 0, none⟩) (by simp) _).setCell (p := ⟨w.heap.size, 1, none⟩) (by simp) _
end Go.Proofs.YtjjnhmbgffdenaaDoor
namespace Go.Proofs.YtjjnhmbgffdenaaDoor
open Go.RowKit Go.Sort
section
variable {o : Oper} {a : Act} {w : World} {K : Act → World → Prop} {Q : Exit → Act → World → Prop} {x y : Operand}
theorem ld40 {b q : Nat} {v0 v1 v2 v3 v4 : Value} (hop : o.op = .load 40 x) (hx : a.eval x = .pointer (some ⟨b, q, none⟩)) (c0 : w.cell? ⟨b, q, none⟩ = some v0) (c1 : w.cell? ⟨b, q + 1, none⟩ = some v1) (c2 : w.cell? ⟨b, q + 2, none⟩ = some v2) (c3 : w.cell? ⟨b, q + 3, none⟩ = some v3) (c4 : w.cell? ⟨b, q + 4, none⟩ = some v4) (hK : K (a.put o.dst (.agg #[v0, v1, v2, v3, v4])) w) : o.wp Tryd.prog a w K Q := by
  exact step_val (by simp only [execOp, hop, hx]; go_simp) hK
end
/-- The cells of a head, in a later world. -/
theorem Lies.heads {N : Nat} {w : World} {ao : Option Addr} {l : List Hd} (h : Lies Hd.enc N w ao l) {i : Nat} (hi : i < l.length) : ∃ b, ao = some ⟨b, 0, none⟩ ∧ ∀ (W : World), Below w.heap.size w W → W.cell? ⟨b, 0 + i * 5, none⟩ = some (.int .u8 l[i].id.y) ∧ W.cell? ⟨b, 0 + i * 5 + 1, none⟩ = some (.int .i64 l[i].id.n) ∧ W.cell? ⟨b, 0 + i * 5 + 2, none⟩ = some (.int .u8 l[i].b) ∧ W.cell? ⟨b, 0 + i * 5 + 3, none⟩ = some (.int .i64 l[i].a) ∧ W.cell? ⟨b, 0 + i * 5 + 4, none⟩ = some (.int .i64 l[i].s) := by
  obtain ⟨b, h1, h2, h3⟩ := h.at Hd.enc_len hi
  refine ⟨b, h1, fun W hb => ?_⟩
  rw [Nat.zero_add]
  exact ⟨(hb.cell (p := ⟨b, i * 5, none⟩) h2).trans (h3 0 _ (by decide) rfl), (hb.cell (p := ⟨b, i * 5 + 1, none⟩) h2).trans (h3 1 _ (by decide) rfl), (hb.cell (p := ⟨b, i * 5 + 2, none⟩) h2).trans (h3 2 _ (by decide) rfl), (hb.cell (p := ⟨b, i * 5 + 3, none⟩) h2).trans (h3 3 _ (by decide) rfl), (hb.cell (p := ⟨b, i * 5 + 4, none⟩) h2).trans (h3 4 _ (by decide) rfl)⟩
theorem list_bad (d : Bds) (T : List (List Nm)) (r : Int) (B : Nat) (w : World) (hB : B ≤ w.heap.size) (hd : d.ok B w) (hr : Reads T d) (hT : TOk T) (h : okR r = false) :
    Calls Tryd.prog 10 #[d.v, .int .i64 r] w fun e w' => e = .returned (.tuple #[.slice none 0 0, .int .i64 11]) ∧ Below w.heap.size w w' := by
  refine (list_any d T r B w hB hd hr hT).mono ?_
  rintro e w' (⟨_, h1, h2⟩ | ⟨h1, _⟩)
  · exact ⟨h1, h2⟩
  · rw [h] at h1; cases h1
theorem list_good (d : Bds) (T : List (List Nm)) (r : Int) (B : Nat) (w : World) (hB : B ≤ w.heap.size) (hd : d.ok B w) (hr : Reads T d) (hT : TOk T) (h : okR r = true) (L : List Hd) (hL : lstH T r 95 = L) (n : Nat) (hn : L.length = n) :
    Calls Tryd.prog 10 #[d.v, .int .i64 r] w fun e w' => ∃ ao, e = .returned (.tuple #[.slice ao n n, .int .i64 0]) ∧ Hid (Lies Hd.enc w.heap.size w' ao L) ∧ Below w.heap.size w w' := by
  subst hn hL
  refine (list_any d T r B w hB hd hr hT).mono ?_
  rintro e w' (⟨h1, _⟩ | ⟨_, v, l, rfl, ho, ao, rfl, h2, hb⟩)
  · rw [h] at h1; cases h1
  · obtain rfl := ord_lst h ho.out
    exact ⟨ao, rfl, h2, hb⟩
theorem listed_L (d : Bds) (T : List (List Nm)) (r : Int) (B : Nat) (w : World) (hB : B ≤ w.heap.size) (hd : d.ok B w) (hr : Reads T d) (hT : TOk T) (L : List Hd) (hL : lstH T r 95 = L) (n : Nat) (hn : L.length = n) :
    Calls Tryd.prog 12 #[d.v, .int .i64 r] w fun e w' => ∃ ao cap, e = .returned (.slice ao n cap) ∧ Hid (Lies Hd.enc w.heap.size w' ao L) ∧ Below w.heap.size w w' := by
  subst hn hL
  refine (listed_any d T r B w hB hd hr hT).mono ?_
  rintro e w' ⟨v, rfl, h1, h2⟩
  obtain ⟨ao, cap, rfl, h3, h4⟩ := lies_of_own Hd.enc_len h1 rfl
  exact ⟨ao, cap, rfl, Lib.hid h3, h2⟩
def psiLl11 (b : Nat) (b2 : Nat) (n : Nat) (c2 : Nat) (kq : Nat) (py : Int) (pn : Int) (nb : Int) (na : Int) (sp : Int) : Nat → Value → World → Prop
  | 0, v9, _ => v9 = .slice (some ⟨b, 0, none⟩) n n
  | 1, v9, _ => v9 = .int .i64 (kq : Int)
  | 2, v9, _ => v9 = .pointer (some ⟨b, 0 + kq * 5, none⟩)
  | 3, v9, _ => v9 = .agg #[.int .u8 py, .int .i64 pn, .int .u8 nb, .int .i64 na, .int .i64 sp]
  | 4, v9, _ => v9 = .slice (some ⟨b2, 0, none⟩) n c2
  | 5, v9, _ => v9 = .int .i64 (kq : Int)
  | 6, v9, _ => v9 = .pointer (some ⟨b2, 0 + kq * 5, none⟩)
  | 7, v9, _ => v9 = .agg #[.int .u8 py, .int .i64 pn, .int .u8 nb, .int .i64 na, .int .i64 sp]
  | _, _, _ => True
theorem psiLl11_stab (b : Nat) (b2 : Nat) (n : Nat) (c2 : Nat) (kq : Nat) (py : Int) (pn : Int) (nb : Int) (na : Int) (sp : Int) (i9 : Nat) (v9 : Value) (w9 w9' : World) (h : psiLl11 b b2 n c2 kq py pn nb na sp i9 v9 w9) (_hb : Below w9.heap.size w9 w9') : psiLl11 b b2 n c2 kq py pn nb na sp i9 v9 w9' := by
  match i9, h with
  | 0, h => exact h
  | 1, h => exact h
  | 2, h => exact h
  | 3, h => exact h
  | 4, h => exact h
  | 5, h => exact h
  | 6, h => exact h
  | 7, h => exact h
  | i9 + 8, _ => exact trivial
set_option maxRecDepth 100000 in
set_option maxHeartbeats 8000000 in
/-- OrdersList: true. -/
theorem list_law (ao : Option Addr) (xs : List (Nat × Nat)) (cap : Nat) (r : Int) (w : World) (h : LieP w ao xs) (hs : Stp w) :
    Calls Tryd.prog 3 #[.slice ao xs.length cap, .int .i64 r] w fun e w' => e = .returned (.bool true) ∧ Below w.heap.size w w' := by
  have HOF := Lib.hid (Of_any ao xs cap w h)
  have HTO := Lib.hid (ofM_ok xs)
  have HST := Lib.hid (fun (W : World) (hb : RowKit.Below w.heap.size w W) => lives_any W (hs.below hb hs.lt))
  obtain ⟨T, hT⟩ : ∃ T, ofM xs = T := ⟨_, rfl⟩
  rw [hT] at HOF HTO
  obtain ⟨N, hN⟩ : ∃ N, xs.length = N := ⟨_, rfl⟩
  rw [hN] at HOF ⊢
  clear h hs hT hN
  by_cases hok : okR r = true
  · have HOK := Lib.hid hok
    obtain ⟨L, hL⟩ : ∃ L, lstH T r 95 = L := ⟨_, rfl⟩
    obtain ⟨n, hn⟩ : ∃ n, L.length = n := ⟨_, rfl⟩
    have hn9 : n ≤ 30400 := by rw [← hn, ← hL]; exact lstH_len T HTO.out r 95
    have HL := Lib.hid hL
    have HN := Lib.hid hn
    have hr4 : -4 ≤ r ∧ r ≤ 4 := by unfold okR at hok; simpa using hok
    clear hok hL hn
    go_enter Tryd.func3, Tryd.ntmps3
    go_wp2_with (first
      | (go_at_call 9; refine HOF.out.mono ?_; rintro e w1 ⟨⟨⟨ga, gs, gc⟩, ⟨ka, ks, kc⟩⟩, rfl, hbd, hb1⟩; have HB1 := Lib.hid hb1; have HBD := Lib.hid hbd.out; simp only [Bds.v, Bed.v]; have HLI := Lib.hid (fun (W : World) (hb : RowKit.Below w1.heap.size w1 W) => list_good ⟨⟨ga, gs, gc⟩, ⟨ka, ks, kc⟩⟩ T r w1.heap.size W hb.size (HBD.out.2.2.1.below hb) HBD.out.1 HTO.out HOK.out L HL.out n HN.out); have HLW := Lib.hid (fun (W : World) (hb : RowKit.Below w1.heap.size w1 W) => listed_L ⟨⟨ga, gs, gc⟩, ⟨ka, ks, kc⟩⟩ T r w1.heap.size W hb.size (HBD.out.2.2.1.below hb) HBD.out.1 HTO.out L HL.out n HN.out); simp only [Bds.v, Bed.v] at HLI HLW; have bx := Boxed2.new w1 26 (.slice ga gs.length gc) (.slice ka ks.length kc); have hb0 := below1 w1 (.cells #[.slice ga gs.length gc, .slice ka ks.length kc] 26); obtain ⟨w2, hw2⟩ : ∃ w2, w1.alloc (.cells #[.slice ga gs.length gc, .slice ka ks.length kc] 26) = w2 := ⟨_, rfl⟩; rw [hw2] at bx hb0; have HBX := Lib.hid (fun (W : World) (hb : RowKit.Below w2.heap.size w2 W) => bx.below hb bx.lt); have HB := Lib.hid (Below.refl w2.heap.size w2); have HB0 := Lib.hid hb0; have x0 := bx.cell0; have x1 := bx.cell1; have HUP := Lib.hid (fun (W : World) (hb : RowKit.Below w2.heap.size w2 W) => HB0.out.trans (hb.mono HB0.out.size)); clear bx hb0 hbd hb1)
      | (go_at_call 10; refine (HLI.out _ (HUP.out _ HB.out)).mono ?_; rintro e w3 ⟨al, rfl, HLa, hb⟩; replace HB := Lib.hid (HB.out.trans (hb.mono HB.out.size)); clear x0 x1; have x0 := (HBX.out _ HB.out).cell0; have x1 := (HBX.out _ HB.out).cell1; (try replace HLa := Lib.hid (HLa.out.below hb)); (try replace HLb := Lib.hid (HLb.out.below hb)); clear hb)
      | (go_at_call 12; refine (HLW.out _ (HUP.out _ HB.out)).mono ?_; rintro e w4 ⟨am, cm, rfl, HLb, hb⟩; replace HB := Lib.hid (HB.out.trans (hb.mono HB.out.size)); clear x0 x1; have x0 := (HBX.out _ HB.out).cell0; have x1 := (HBX.out _ HB.out).cell1; (try replace HLa := Lib.hid (HLa.out.below hb)); (try replace HLb := Lib.hid (HLb.out.below hb)); clear hb))
    clear x0 x1
    go_loopg [9] (n + 1) (fun g s9 wr => ∃ i : Nat, s9 = .int .i64 i ∧ i ≤ n ∧ g = n + 1 - i ∧ RowKit.Below w4.heap.size w4 wr)
    case atStart => exact ⟨0, rfl, by omega, by omega, Below.refl _ _⟩
    case round =>
      obtain ⟨i, rfl, hi, hg, hbr⟩ := hrel
      have HG := Lib.hid hg
      clear hg
      by_cases hlt : i < n
      · have hiz : (i : Int) < (n : Int) := by omega
        obtain ⟨b, rfl, hP⟩ := (HLa.out.below hbr).heads (i := i) (by rw [HN.out]; exact hlt)
        obtain ⟨b2, rfl, hQ⟩ := (HLb.out.below hbr).heads (i := i) (by rw [HN.out]; exact hlt)
        obtain ⟨x, hx⟩ : ∃ x, L[i]'(by rw [HN.out]; exact hlt) = x := ⟨_, rfl⟩
        simp only [hx] at hP hQ
        obtain ⟨⟨py, pn⟩, nb, na, sp⟩ := x
        simp only at hP hQ
        have HP := Lib.hid hP
        have HQ := Lib.hid hQ
        have HKN := Lib.hid hlt
        clear hP hQ hx
        go_upto_region 11 with fail
        refine rgT2 8 [some 59, some 60, some 61, some 62, some 63, some 64, some 65, some 66, some 67] (psiLl11 b b2 n cm i py pn nb na sp) (fun w' => RowKit.Below wr.heap.size wr w') (by kernel_rfl) (by kernel_rfl) (by kernel_rfl) (by kernel_rfl) (psiLl11_stab b b2 n cm i py pn nb na sp) (fun _ _ h hb => h.trans (hb.mono h.size)) (fun i9 o9 hi9 ho9 aq9 w1 hs hout hI hdep => ?_) ?_ ((Below.refl _ _).drew)
        · skip
          match i9, hi9, ho9 with
          | 0, _, ho9 =>
            obtain rfl := Option.some.inj ho9
            refine .inl ⟨rfl, fun K hK => ?_⟩
            exact st_move rfl ((hout 6 rfl).trans rfl) (hK _ _ (Below.refl _ _) rfl)
          | 1, _, ho9 =>
            obtain rfl := Option.some.inj ho9
            refine .inl ⟨rfl, fun K hK => ?_⟩
            exact st_move rfl ((hout 9 rfl).trans rfl) (hK _ _ (Below.refl _ _) rfl)
          | 2, _, ho9 =>
            obtain rfl := Option.some.inj ho9
            have dq0 : (aq9.tmps.getD 59 undef) = .slice (some ⟨b, 0, none⟩) n n := hdep ⟨0, .data⟩ (by simp) rfl _ rfl
            have dq1 : (aq9.tmps.getD 60 undef) = .int .i64 (i : Int) := hdep ⟨1, .data⟩ (by simp) rfl _ rfl
            refine .inl ⟨rfl, fun K hK => ?_⟩
            exact st_idx28 (k := i) rfl dq0 dq1 HKN.out (hK _ _ (Below.refl _ _) rfl)
          | 3, _, ho9 =>
            obtain rfl := Option.some.inj ho9
            have dq2 : (aq9.tmps.getD 61 undef) = .pointer (some ⟨b, 0 + i * 5, none⟩) := hdep ⟨2, .data⟩ (by simp) rfl _ rfl
            refine .inl ⟨rfl, fun K hK => ?_⟩
            exact ld40 rfl dq2 (HP.out _ hI).1 (HP.out _ hI).2.1 (HP.out _ hI).2.2.1 (HP.out _ hI).2.2.2.1 (HP.out _ hI).2.2.2.2 (hK _ _ (Below.refl _ _) rfl)
          | 4, _, ho9 =>
            obtain rfl := Option.some.inj ho9
            refine .inl ⟨rfl, fun K hK => ?_⟩
            exact st_move rfl ((hout 8 rfl).trans rfl) (hK _ _ (Below.refl _ _) rfl)
          | 5, _, ho9 =>
            obtain rfl := Option.some.inj ho9
            refine .inl ⟨rfl, fun K hK => ?_⟩
            exact st_move rfl ((hout 9 rfl).trans rfl) (hK _ _ (Below.refl _ _) rfl)
          | 6, _, ho9 =>
            obtain rfl := Option.some.inj ho9
            have dq4 : (aq9.tmps.getD 63 undef) = .slice (some ⟨b2, 0, none⟩) n cm := hdep ⟨4, .data⟩ (by simp) rfl _ rfl
            have dq5 : (aq9.tmps.getD 64 undef) = .int .i64 (i : Int) := hdep ⟨5, .data⟩ (by simp) rfl _ rfl
            refine .inl ⟨rfl, fun K hK => ?_⟩
            exact st_idx28 (k := i) rfl dq4 dq5 HKN.out (hK _ _ (Below.refl _ _) rfl)
          | 7, _, ho9 =>
            obtain rfl := Option.some.inj ho9
            have dq6 : (aq9.tmps.getD 65 undef) = .pointer (some ⟨b2, 0 + i * 5, none⟩) := hdep ⟨6, .data⟩ (by simp) rfl _ rfl
            refine .inl ⟨rfl, fun K hK => ?_⟩
            exact ld40 rfl dq6 (HQ.out _ hI).1 (HQ.out _ hI).2.1 (HQ.out _ hI).2.2.1 (HQ.out _ hI).2.2.2.1 (HQ.out _ hI).2.2.2.2 (hK _ _ (Below.refl _ _) rfl)
          | i9 + 8, hi9, _ => exact absurd hi9 (by omega)
        · intro a2 w2 hs hd hout hI hall
          obtain ⟨tmps, defers⟩ := a2
          have e_62 : (tmps.getD 62 undef) = .agg #[.int .u8 py, .int .i64 pn, .int .u8 nb, .int .i64 na, .int .i64 sp] := hall 3 _ (by decide) rfl
          have e_66 : (tmps.getD 66 undef) = .agg #[.int .u8 py, .int .i64 pn, .int .u8 nb, .int .i64 na, .int .i64 sp] := hall 7 _ (by decide) rfl
          simp only at hs hd hout
          have ef := frameAt [some 59, some 60, some 61, some 62, some 63, some 64, some 65, some 66, some 67] _ tmps hs hout
          obtain ⟨sv11, hu⟩ : ∃ u : Nat → Value, u = fun s => tmps.getD s undef := ⟨_, rfl⟩
          have eu_62 : sv11 62 = .agg #[.int .u8 py, .int .i64 pn, .int .u8 nb, .int .i64 na, .int .i64 sp] := by rw [hu]; exact e_62
          have eu_66 : sv11 66 = .agg #[.int .u8 py, .int .i64 pn, .int .u8 nb, .int .i64 na, .int .i64 sp] := by rw [hu]; exact e_66
          rw [← hu] at ef
          have ef2 : tmps = #[Value.slice ao N cap, Value.int IntKind.i64 r, undef, undef, u4, Value.pointer (some { block := w1.heap.size, off := 0 }), Value.slice (some { block := b, off := 0 }) n n, Value.int IntKind.i64 0, Value.slice (some { block := b2, off := 0 }) n cm, Value.int IntKind.i64 i, Value.slice ao N cap, Value.agg #[Value.slice ga gs.length gc, Value.slice ka ks.length kc], Value.tuple #[Value.slice (some { block := b, off := 0 }) n n, Value.int IntKind.i64 0], Value.agg #[Value.slice ga gs.length gc, Value.slice ka ks.length kc], Value.int IntKind.i64 r, Value.tuple #[Value.slice (some { block := b, off := 0 }) n n, Value.int IntKind.i64 0], Value.slice (some { block := b, off := 0 }) n n, Value.int IntKind.i64 0, Value.int IntKind.i64 r, Value.bool (decide (r < -4)), Value.bool (decide (r < -4)), Value.int IntKind.i64 r, Value.bool (decide (4 < r)), Value.bool (decide (r < -4) || decide (4 < r)), undef, undef, undef, undef, undef, undef, undef, undef, undef, undef, Value.agg #[Value.slice ga gs.length gc, Value.slice ka ks.length kc], Value.int IntKind.i64 r, Value.slice (some { block := b2, off := 0 }) n cm, Value.int IntKind.i64 0, Value.bool false, Value.bool false, Value.slice (some { block := b, off := 0 }) n n, Value.int IntKind.i64 n, Value.slice (some { block := b2, off := 0 }) n cm, Value.int IntKind.i64 n, Value.bool false, Value.bool false, Value.bool false, Value.slice (some { block := b, off := 0 }) n n, Value.int IntKind.i64 n, Value.slice (some { block := b, off := 0 }) n n, Value.int IntKind.i64 n, Value.bool false, Value.bool false, Value.int IntKind.i64 i, Value.slice (some { block := b, off := 0 }) n n, Value.int IntKind.i64 n, Value.bool true, u57, u58, (sv11 59), (sv11 60), (sv11 61), (sv11 62), (sv11 63), (sv11 64), (sv11 65), (sv11 66), (sv11 67), undef] := ef
          subst hd
          rw [eu_62, eu_66] at ef2
          rw [ef2]
          clear ef ef2 hu hs hout hall e_62 eu_62 e_66 eu_66
          simp only [List.drop_succ_cons, List.drop_zero]
          have hbr2 := hbr.trans (hI.mono hbr.size)
          clear HP HQ hI
          go_wp2_with fail
          go_roundg (n + 1 - (i + 1))
          case measure => have := HG.out; omega
          case rel => exact ⟨i + 1, by go_num, by omega, by omega, hbr2⟩
      · obtain rfl : i = n := by omega
        have hiz : ¬ ((i : Int) < (i : Int)) := by omega
        replace HB := Lib.hid (HB.out.trans (hbr.mono HB.out.size))
        have HLV := Lib.hid (HST.out _ (HB1.out.trans ((HUP.out _ HB.out).mono HB1.out.size)))
        clear HLa HLb HLI HLW
        go_wp2_with (go_at_call 11; refine HLV.out.mono ?_; rintro e w5 ⟨rfl, hb⟩; replace HB := Lib.hid (HB.out.trans (hb.mono HB.out.size)); clear hb)
        go_ret
        exact ⟨rfl, HB1.out.trans ((HUP.out _ HB.out).mono HB1.out.size)⟩
  · have HOK := Lib.hid (show okR r = false by simpa using hok)
    have hr4 : r < -4 ∨ 4 < r := by
      have := HOK.out
      unfold okR at this
      rcases Int.lt_or_le r (-4) with h1 | h1
      · exact .inl h1
      · refine .inr (Int.lt_of_not_ge fun h2 => ?_)
        simp at this
        omega
    clear hok
    rcases hr4 with hr4 | hr4
    all_goals (
      (try have hr5 : ¬ (r < -4) := by omega)
      go_enter Tryd.func3, Tryd.ntmps3
      go_wp2_with (first
        | (go_at_call 9; refine HOF.out.mono ?_; rintro e w1 ⟨⟨⟨ga, gs, gc⟩, ⟨ka, ks, kc⟩⟩, rfl, hbd, hb1⟩; have HB1 := Lib.hid hb1; have HBD := Lib.hid hbd.out; simp only [Bds.v, Bed.v]; have HLI := Lib.hid (fun (W : World) (hb : RowKit.Below w1.heap.size w1 W) => list_bad ⟨⟨ga, gs, gc⟩, ⟨ka, ks, kc⟩⟩ T r w1.heap.size W hb.size (HBD.out.2.2.1.below hb) HBD.out.1 HTO.out HOK.out); simp only [Bds.v, Bed.v] at HLI; have bx := Boxed2.new w1 26 (.slice ga gs.length gc) (.slice ka ks.length kc); have hb0 := below1 w1 (.cells #[.slice ga gs.length gc, .slice ka ks.length kc] 26); obtain ⟨w2, hw2⟩ : ∃ w2, w1.alloc (.cells #[.slice ga gs.length gc, .slice ka ks.length kc] 26) = w2 := ⟨_, rfl⟩; rw [hw2] at bx hb0; have HBX := Lib.hid (fun (W : World) (hb : RowKit.Below w2.heap.size w2 W) => bx.below hb bx.lt); have HB := Lib.hid (Below.refl w2.heap.size w2); have HB0 := Lib.hid hb0; have x0 := bx.cell0; have x1 := bx.cell1; have HUP := Lib.hid (fun (W : World) (hb : RowKit.Below w2.heap.size w2 W) => HB0.out.trans (hb.mono HB0.out.size)); clear bx hb0 hbd hb1)
        | (go_at_call 10; refine (HLI.out _ (HUP.out _ HB.out)).mono ?_; rintro e w3 ⟨rfl, hb⟩; replace HB := Lib.hid (HB.out.trans (hb.mono HB.out.size)); clear x0 x1; have x0 := (HBX.out _ HB.out).cell0; have x1 := (HBX.out _ HB.out).cell1; clear hb)
        | (go_at_call 11; refine (HST.out _ (HB1.out.trans ((HUP.out _ HB.out).mono HB1.out.size))).mono ?_; rintro e w4 ⟨rfl, hb⟩; replace HB := Lib.hid (HB.out.trans (hb.mono HB.out.size)); clear x0 x1; have x0 := (HBX.out _ HB.out).cell0; have x1 := (HBX.out _ HB.out).cell1; clear hb))
      go_ret
      exact ⟨rfl, HB1.out.trans ((HUP.out _ HB.out).mono HB1.out.size)⟩)
end Go.Proofs.YtjjnhmbgffdenaaDoor
