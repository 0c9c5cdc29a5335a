import Derived.Test.YtjjnhmbgffdenaaDoorGaq
import Derived.Test.YtjjnhmbgffdenaaDoorGan
import Derived.Test.YtjjnhmbgffdenaaDoorCards
import Derived.Test.YtjjnhmbgffdenaaDoorTie
import Derived.Test.YtjjnhmbgffdenaaDoorRows
import Derived.ProofKit
import Derived.WalkKit
import Derived.Deep.Slices
import Derived.Deep.Strs
import Derived.OpenShut
import Derived.Lib.SmallJoins
import Derived.Deep.DeepHandedRow
import Derived.Deep.DeepWitnessRowRef
import Derived.Lib.LaidTab
import Derived.Lib.LaidIn
import Derived.MakeChecks
namespace Go.Proofs.YtjjnhmbgffdenaaDoor
open Go.RowKit Go.Sort
/-- The spot of a place of the beds. -/
def spH (r : Int) (i : Nat) : Int := spotM ((i / 40 : Nat) : Int) (((i % 40 : Nat) : Int) + 1) r
def selH (T : List (List Nm)) (r s : Int) (i : Nat) : List Hd := if spH r i = s then elH T r i else []
def rowH (T : List (List Nm)) (r s : Int) (n : Nat) : List Hd := (List.range n).flatMap (selH T r s)
/-- What a law lists: spot by spot, place by place. -/
def lstH (T : List (List Nm)) (r : Int) (n : Nat) : List Hd := (List.range n).flatMap fun J : Nat => rowH T r (-12 + 2 * (J : Int)) 80
theorem rowH_succ (T : List (List Nm)) (r s : Int) (n : Nat) : rowH T r s (n + 1) = rowH T r s n ++ selH T r s n := by
  unfold rowH
  rw [List.range_succ, List.flatMap_append]
  simp
theorem lstH_succ (T : List (List Nm)) (r : Int) (n : Nat) : lstH T r (n + 1) = lstH T r n ++ rowH T r (-12 + 2 * (n : Int)) 80 := by
  unfold lstH
  rw [List.range_succ, List.flatMap_append]
  simp
theorem rowH_len (T : List (List Nm)) (hT : TOk T) (r s : Int) : ∀ n, (rowH T r s n).length ≤ 4 * n
  | 0 => by simp [rowH]
  | n + 1 => by
    rw [rowH_succ, List.length_append]
    have := rowH_len T hT r s n
    have := elH_len T hT r n
    unfold selH
    split
    · omega
    · simp only [List.length_nil]; omega
theorem lstH_len (T : List (List Nm)) (hT : TOk T) (r : Int) : ∀ n, (lstH T r n).length ≤ 320 * n
  | 0 => by simp [lstH]
  | n + 1 => by
    rw [lstH_succ, List.length_append]
    have := lstH_len T hT r n
    have := rowH_len T hT r (-12 + 2 * (n : Int)) 80
    omega
/-- The heads of a place have its spot. -/
theorem elH_s {T : List (List Nm)} {r : Int} {i : Nat} {h : Hd} (hh : h ∈ elH T r i) : h.s = spH r i := by
  unfold elH at hh
  obtain ⟨p, _, rfl⟩ := List.mem_map.1 hh
  rfl
theorem fl_el (T : List (List Nm)) (r k : Int) (i : Nat) : Fl Hd.s k (elH T r i) = selH T r k i := by
  unfold selH Fl
  split
  · rename_i h
    rw [List.filter_eq_self]
    intro x hx
    simp [elH_s hx, h]
  · rename_i h
    rw [List.filter_eq_nil_iff]
    intro x hx
    simp [elH_s hx, h]
theorem fl_up (T : List (List Nm)) (r k : Int) (n : Nat) : Fl Hd.s k (upH T r n) = rowH T r k n := by
  induction n with
  | zero => rfl
  | succ n ih =>
    rw [upH_succ, rowH_succ]
    have h1 : Fl Hd.s k (upH T r n ++ elH T r n) = Fl Hd.s k (upH T r n) ++ Fl Hd.s k (elH T r n) := by unfold Fl; rw [List.filter_append]
    rw [h1, ih, fl_el]
theorem row_s {T : List (List Nm)} {r s : Int} {n : Nat} {h : Hd} (hh : h ∈ rowH T r s n) : h.s = s := by
  unfold rowH at hh
  obtain ⟨i, _, hi⟩ := List.mem_flatMap.1 hh
  unfold selH at hi
  split at hi
  · rename_i he
    rw [elH_s hi, he]
  · cases hi
theorem fl_row (T : List (List Nm)) (r s k : Int) (n : Nat) : Fl Hd.s k (rowH T r s n) = if s = k then rowH T r s n else [] := by
  unfold Fl
  split
  · rename_i h
    rw [List.filter_eq_self]
    intro x hx
    simp [row_s hx, h]
  · rename_i h
    rw [List.filter_eq_nil_iff]
    intro x hx
    simp [row_s hx, h]
theorem fl_lst (T : List (List Nm)) (r k : Int) (n : Nat) : Fl Hd.s k (lstH T r n) = if ∃ J : Nat, J < n ∧ -12 + 2 * (J : Int) = k then rowH T r k 80 else [] := by
  induction n with
  | zero => simp [lstH, Fl]
  | succ n ih =>
    rw [lstH_succ]
    have h1 : Fl Hd.s k (lstH T r n ++ rowH T r (-12 + 2 * (n : Int)) 80) = Fl Hd.s k (lstH T r n) ++ Fl Hd.s k (rowH T r (-12 + 2 * (n : Int)) 80) := by unfold Fl; rw [List.filter_append]
    rw [h1, ih, fl_row]
    by_cases he : -12 + 2 * (n : Int) = k
    · rw [if_neg (by rintro ⟨J, hJ, hJ2⟩; omega), if_pos he, if_pos ⟨n, by omega, he⟩, List.nil_append, he]
    · rw [if_neg he, List.append_nil]
      by_cases hc : ∃ J : Nat, J < n ∧ -12 + 2 * (J : Int) = k
      · obtain ⟨J, h1, h2⟩ := hc
        rw [if_pos ⟨J, h1, h2⟩, if_pos ⟨J, by omega, h2⟩]
      · rw [if_neg hc, if_neg]
        rintro ⟨J, h1, h2⟩
        refine hc ⟨J, ?_, h2⟩
        have : J ≠ n := fun e => he (by rw [← e]; exact h2)
        omega
theorem spH_in {r : Int} (hr : okR r = true) (i : Nat) (hi : i < 80) : ∃ J : Nat, J < 95 ∧ -12 + 2 * (J : Int) = spH r i := by
  have hr2 : -4 ≤ r ∧ r ≤ 4 := by unfold okR at hr; simpa using hr
  unfold spH spotM
  rw [if_pos ⟨isN_mk (by omega), hr⟩]
  by_cases hb : (((i / 40 : Nat) : Int) = 1)
  · rw [if_pos hb]
    refine ⟨(4 * (((i % 40 : Nat) : Int) + 1 + r) + 12).toNat / 2, ?_, ?_⟩
    · omega
    · omega
  · rw [if_neg hb]
    refine ⟨(4 * (((i % 40 : Nat) : Int) + 1) + 2 + 12).toNat / 2, ?_, ?_⟩
    · omega
    · omega
theorem sam_lst (T : List (List Nm)) {r : Int} (hr : okR r = true) : Sam Hd.s (upH T r 80) (lstH T r 95) := fun k => by
  rw [fl_lst, fl_up]
  split
  · rfl
  · rename_i hc
    symm
    rw [List.eq_nil_iff_forall_not_mem]
    intro x hx
    have hs := row_s hx
    unfold rowH at hx
    obtain ⟨i, hi, hi2⟩ := List.mem_flatMap.1 hx
    unfold selH at hi2
    split at hi2
    · rename_i he
      obtain ⟨J, h1, h2⟩ := spH_in hr i (List.mem_range.1 hi)
      exact hc ⟨J, h1, h2.trans he⟩
    · cases hi2
theorem srt_lst (T : List (List Nm)) (r : Int) (n : Nat) : Srt Hd.s (lstH T r n) ∧ ∀ x ∈ lstH T r n, x.s < -12 + 2 * (n : Int) := by
  induction n with
  | zero => exact ⟨List.Pairwise.nil, fun x hx => by cases hx⟩
  | succ n ih =>
    rw [lstH_succ]
    refine ⟨?_, fun x hx => ?_⟩
    · unfold Srt
      rw [List.pairwise_append]
      refine ⟨ih.1, ?_, fun x hx y hy => ?_⟩
      · have h : ∀ l : List Hd, (∀ x ∈ l, x.s = -12 + 2 * (n : Int)) → l.Pairwise (fun x y => x.s ≤ y.s) := fun l => by
          induction l with
          | nil => intro _; exact List.Pairwise.nil
          | cons a l ih2 =>
            intro h
            refine List.Pairwise.cons (fun y hy => ?_) (ih2 fun x hx => h x (by simp [hx]))
            rw [h a (by simp), h y (by simp [hy])]
            exact Int.le_refl _
        exact h _ fun x hx => row_s hx
      · have h1 := ih.2 x hx
        have h2 := row_s hy
        omega
    · rcases List.mem_append.1 hx with hx | hx
      · have := ih.2 x hx; push_cast; omega
      · have := row_s hx; push_cast; omega
theorem mrg_lst (T : List (List Nm)) {r : Int} (hr : okR r = true) : Mrg Hd.s (upH T r 80) (lstH T r 95) := ⟨(srt_lst T r 95).1, sam_lst T hr⟩
theorem ord_lst {T : List (List Nm)} {r : Int} (hr : okR r = true) {l : List Hd} (h : OrdOk T r l) : l = lstH T r 95 := h.1.unique (mrg_lst T hr)
def psiLs14 (b : Nat) (q : Nat) (n : Nat) (c : Nat) (kq : Nat) (PN : Nat) (v : Value) (py : Int) (pn : Int) (nb : Int) (na : Int) (sp : Int) : Nat → Value → World → Prop
  | 0, v9, _ => v9 = v
  | 1, v9, _ => v9 = .slice (some ⟨b, q, none⟩) n c
  | 2, v9, _ => v9 = .int .i64 (kq : Int)
  | 3, v9, _ => v9 = .pointer (some ⟨b, q + kq * 2, none⟩)
  | 4, v9, _ => v9 = .agg #[.int .u8 py, .int .i64 pn]
  | 5, v9, _ => v9 = .agg #[.int .u8 nb, .int .i64 na]
  | 6, v9, _ => v9 = .int .i64 sp
  | 7, v9, _ => v9 = .agg #[.int .u8 py, .int .i64 pn, .int .u8 nb, .int .i64 na, .int .i64 sp]
  | 8, v9, w9 => ∃ b9, v9 = .slice (some ⟨b9, 0, none⟩) 1 1 ∧ b9 < w9.heap.size ∧ w9.heap[b9]? = some (.cells (Hd.enc ⟨⟨py, pn⟩, nb, na, sp⟩).toArray 40 (0, 0))
  | _, _, _ => True
theorem psiLs14_stab (b : Nat) (q : Nat) (n : Nat) (c : Nat) (kq : Nat) (PN : Nat) (v : Value) (py : Int) (pn : Int) (nb : Int) (na : Int) (sp : Int) (i9 : Nat) (v9 : Value) (w9 w9' : World) (h : psiLs14 b q n c kq PN v py pn nb na sp i9 v9 w9) (_hb : Below w9.heap.size w9 w9') : psiLs14 b q n c kq PN v py pn nb na sp i9 v9 w9' := by
  match i9, h with
  | 0, h => exact h
  | 1, h => exact h
  | 2, h => exact h
  | 3, h => exact h
  | 4, h => exact h
  | 5, h => exact h
  | 6, h => exact h
  | 7, h => exact h
  | 8, h => exact (by obtain ⟨b9, h1, h2, h3⟩ := h; exact ⟨b9, h1, Nat.lt_of_lt_of_le h2 _hb.size, (_hb.block b9 h2).trans h3⟩)
  | i9 + 9, _ => exact trivial
set_option maxRecDepth 100000 in
set_option maxHeartbeats 8000000 in
/-- What a law lists. -/
theorem listed_any (d : Bds) (T : List (List Nm)) (r : Int) (B : Nat) (w : World) (hB : B ≤ w.heap.size) (hd : d.ok B w) (hr : Reads T d) (hT : TOk T) :
    Calls Tryd.prog 12 #[d.v, .int .i64 r] w fun e w' => ∃ v, e = .returned v ∧ w'.ownsRow w.heap.size 40 5 v (lstH T r 95).length (rcells Hd.enc (lstH T r 95)) ∧ Below w.heap.size w w' := by
  have HD := Lib.hid (hd.mono hB)
  have HR := Lib.hid hr
  have HT := Lib.hid hT
  have hat : ∀ (W : World), Below w.heap.size w W → ∀ (k i : Nat), k < 2 → i < 40 → Calls Tryd.prog 30 #[d.v, .agg #[.int .u8 k, .int .i64 ((i : Int) + 1)]] W (NewAt (T.getD (k * 40 + i) []) W) := fun W hb k i hk hi => by
    have h := at_own d k ((i : Int) + 1) (by omega) w.heap.size W hb.size (HD.out.below hb)
    rw [reads_at HR.out hk hi] at h
    exact h
  obtain ⟨⟨fa, fs, fc⟩, ⟨ba, bs, bc⟩⟩ := d
  simp only [Bds.v, Bed.v] at hat ⊢
  have HAT := Lib.hid hat
  clear hat hd hr hT HD HR
  go_enter Tryd.func12, Tryd.ntmps12
  go_wp2
  have hbx := Boxed2.new w 26 (.slice fa fs.length fc) (.slice ba bs.length bc)
  have hb0 := below1 w (.cells #[.slice fa fs.length fc, .slice ba bs.length bc] 26)
  obtain ⟨W0, hW0⟩ : ∃ W, w.alloc (.cells #[.slice fa fs.length fc, .slice ba bs.length bc] 26) = W := ⟨_, rfl⟩
  rw [hW0] at hbx hb0 ⊢
  have HBX := Lib.hid hbx
  have HB0 := Lib.hid hb0
  have hsz0 : w.heap.size < W0.heap.size := hbx.lt
  clear hW0 hbx hb0
  go_loopg [5, 6] 96 (fun g v s6 wr => ∃ J : Nat, s6 = .int .i64 (-12 + 2 * (J : Int)) ∧ J ≤ 95 ∧ g = 96 - J ∧ Hid (wr.ownsRow (w.heap.size + 1) 40 5 v (lstH T r J).length (rcells Hd.enc (lstH T r J))) ∧ RowKit.Below (w.heap.size + 1) W0 wr)
  case atStart => exact ⟨0, rfl, by omega, rfl, Lib.hid (World.ownsRow_nil _ _ _ _), Below.refl _ _⟩
  case round =>
    obtain ⟨J, rfl, hJ, hg, HO, hbr⟩ := hrel
    have HG := Lib.hid hg
    clear hg
    obtain ⟨s, hs⟩ : ∃ s : Int, -12 + 2 * (J : Int) = s := ⟨_, rfl⟩
    have hsb : -12 ≤ s ∧ s ≤ 178 := by omega
    have HS := Lib.hid hs
    have HJ := Lib.hid hJ
    rw [hs]
    by_cases hJ2 : s ≤ 176
    · have hJ95 : Hid (J < 95) := Lib.hid (by omega)
      clear hs hJ
      go_wp2_with fail
      go_loopg [5, 7] 81 (fun g v s7 wr => ∃ i : Nat, s7 = .int .i64 i ∧ i ≤ 80 ∧ g = 81 - i ∧ Hid (wr.ownsRow (w.heap.size + 1) 40 5 v (lstH T r J ++ rowH T r s i).length (rcells Hd.enc (lstH T r J ++ rowH T r s i))) ∧ RowKit.Below (w.heap.size + 1) W0 wr)
      case atStart => exact ⟨0, rfl, by omega, rfl, by simpa [rowH] using HO, hbr⟩
      case round =>
        clear HO hbr
        obtain ⟨i, rfl, hi, hg, HO, hbr⟩ := hrel
        have HG2 := Lib.hid hg
        clear hg
        by_cases hi2 : i < 80
        · have hiz : (i : Int) < 80 := by omega
          have hw8 : IntKind.u8.wrap (i : Int) = (i : Int) := IntWalk.u8_in _ (by omega)
          have hnd := needle_any i wr hi2
          have hq : i / 40 < 2 ∧ i % 40 < 40 ∧ i / 40 * 40 + i % 40 = i := by omega
          have HSPH := Lib.hid (show spH r i = spotM ((i / 40 : Nat) : Int) (((i % 40 : Nat) : Int) + 1) r from rfl)
          have HEL := Lib.hid (show elH T r i = (T.getD i []).map fun p => ⟨p, ((i / 40 : Nat) : Int), ((i % 40 : Nat) : Int) + 1, spotM ((i / 40 : Nat) : Int) (((i % 40 : Nat) : Int) + 1) r⟩ from rfl)
          obtain ⟨nb, hnb⟩ : ∃ nb, i / 40 = nb := ⟨_, rfl⟩
          obtain ⟨na, hna⟩ : ∃ na, i % 40 = na := ⟨_, rfl⟩
          rw [hnb, hna] at hnd hq HSPH HEL
          have HQ := Lib.hid hq
          have HND := Lib.hid hnd
          have hzb : -1000 ≤ spotM (nb : Int) ((na : Int) + 1) r ∧ spotM (nb : Int) ((na : Int) + 1) r ≤ 1000 := by
            unfold spotM
            split
            · rename_i h
              have h2 : -4 ≤ r ∧ r ≤ 4 := by have := h.2; unfold okR at this; simpa using this
              split <;> omega
            · omega
          obtain ⟨z, hz⟩ : ∃ z, spotM (nb : Int) ((na : Int) + 1) r = z := ⟨_, rfl⟩
          have HZ := Lib.hid hz
          rw [hz] at HSPH HEL hzb
          clear hq hnd hnb hna hz
          by_cases hsp : z = s
          · subst hsp
            go_upto_region 9 with (go_at_call 28; refine HND.out.mono ?_; rintro e w1 ⟨rfl, hb1⟩)
            have HB1 := Lib.hid (hbr.trans (hb1.mono (by have := hbr.size; omega)))
            have HO1 := Lib.hid (below_owns HO.out hb1)
            have hbN := Boxed2.new w1 38 (.int .u8 nb) (.int .i64 ((na : Int) + 1))
            have hb9 := HB1.out.alloc (by have := HB1.out.size; omega) (.cells #[.int .u8 nb, .int .i64 ((na : Int) + 1)] 38)
            have hO9 := HO1.out.alloc (.cells #[.int .u8 nb, .int .i64 ((na : Int) + 1)] 38)
            have hlt9 : w1.heap.size < (w1.alloc (.cells #[.int .u8 nb, .int .i64 ((na : Int) + 1)] 38)).heap.size := by simp
            have hsep : ∀ g, u5.ownBlock = some g → g ≠ w1.heap.size := fun g hg => by have := (HO1.out.lt g hg).2; omega
            have HSP := Lib.hid hsep
            have hbx := HBX.out.below hb9 (Nat.lt_succ_self _)
            obtain ⟨w9, hw9⟩ : ∃ w9, w1.alloc (.cells #[.int .u8 nb, .int .i64 ((na : Int) + 1)] 38) = w9 := ⟨_, rfl⟩
            rw [hw9] at hbN hb9 hO9 hlt9 hbx
            rw [hw9]
            clear hw9 hsep hb1 hbr HND hw8
            have hlx : w.heap.size < w9.heap.size := hbx.lt
            have x0 := hbx.cell0
            have x1 := hbx.cell1
            have n0 := hbN.cell0
            have n1 := hbN.cell1
            obtain ⟨xl, hxl⟩ : ∃ xl, T.getD i [] = xl := ⟨_, rfl⟩
            have hl4 : xl.length ≤ 4 := by
              rw [← hxl]
              rcases getD_mem_or (l := T) i with h | h
              · exact (HT.out.st _ h).1
              · rw [h]; simp
            rw [hxl] at HEL
            have HC := Lib.hid (fun (W : World) (hb : RowKit.Below w9.heap.size w9 W) => HAT.out W (HB0.out.trans ((hb9.trans (hb.mono (by have := hb9.size; omega))).mono (by omega))) nb na HQ.out.1 HQ.out.2.1)
            rw [HQ.out.2.2, hxl] at HC
            clear hxl
            obtain ⟨L0, hL0⟩ : ∃ L0, lstH T r J ++ rowH T r z i = L0 := ⟨_, rfl⟩
            have hL0l : L0.length ≤ 40000 := by
              have h1 := lstH_len T HT.out r J
              have h2 := rowH_len T HT.out r z i
              have h3 := hJ95.out
              rw [← hL0, List.length_append]; omega
            have HL0 := Lib.hid hL0
            have HL0L := Lib.hid hL0l
            rw [hL0] at hO9
            have HO9 := Lib.hid hO9
            have HB9 := Lib.hid hb9
            have HBN9 := Lib.hid hbN
            have HBX9 := Lib.hid hbx
            have HLT9 := Lib.hid hlt9
            have HLX := Lib.hid hlx
            clear hL0 hL0l hO9 hb9 hbN hbx hlt9 hlx HO HO1 HB1
            go_wp2_with (first
              | (go_at_call 29; refine (spot_any (nb : Int) ((na : Int) + 1) r w9 (by omega)).mono ?_; rintro e w2 ⟨rfl, hb2⟩; rw [HZ.out]; clear x0 x1 n0 n1; have h2x := HBX9.out.below hb2 HLX.out; have h2n := HBN9.out.below hb2 HLT9.out; have x0 := h2x.cell0; have x1 := h2x.cell1; have n0 := h2n.cell0; have n1 := h2n.cell1; have HC2 := Lib.hid (HC.out w2 hb2); have HB2 := Lib.hid hb2; clear hb2 h2x h2n)
              | (go_at_call 30; refine HC2.out.mono ?_; rintro e w3 ⟨⟨ca, cl, cc⟩, rfl, hc3, hb3⟩; clear x0 x1 n0 n1; simp only [Cel.v]))
            obtain ⟨rfl, hcc, hok, hown⟩ := hc3.out
            (try dsimp only at hcc); (try dsimp only at hl4); (try dsimp only at HEL); (try dsimp only at hown)
            have hb92 : RowKit.Below w9.heap.size w9 w3 := HB2.out.trans (hb3.mono HB2.out.size)
            have hb3' : RowKit.Below (w.heap.size + 1) W0 w3 := HB9.out.trans (hb92.mono (by have := HB9.out.size; omega))
            have HBN := Lib.hid (HBN9.out.below hb92 HLT9.out)
            have HOb := Lib.hid (below_owns HO9.out hb92)
            have HCL := Lib.hid hown
            have hsp0 : Hid (∀ g, u5.ownBlock = some g → g ≠ w1.heap.size ∧ (Cel.v ⟨ca, cl, cc⟩).ownBlock ≠ some g) := Lib.hid (fun g hg => ⟨HSP.out g hg, fun e => by
              have e1 := (HO9.out.lt g hg).2
              have e2 := (hown.lt g e).1
              have e3 := HB2.out.size
              omega⟩)
            have h93 : w1.heap.size < w3.heap.size := HBN.out.lt
            have hN2 : w.heap.size + 1 ≤ w2.heap.size := by have := HB9.out.size; have := HB2.out.size; omega
            clear hc3 hcc hok hown HC HC2 HSP HB9 HBN9 HBX9 HLT9 HLX hb3 hb92 HB2
            generalize w1.heap.size = B9 at HBN hsp0 h93 ⊢
            obtain ⟨nl, hnl⟩ : ∃ n, cl.length = n := ⟨_, rfl⟩
            have HNL := Lib.hid hnl
            rw [hnl] at hl4 ⊢
            clear hnl
            go_loopg [5, 10] 5 (fun g v s27 wx => ∃ m : Nat, s27 = .int .i64 m ∧ m ≤ nl ∧ g = 5 - m ∧ Hid (wx.ownsRow (w.heap.size + 1) 40 5 v (L0 ++ (elH T r i).take m).length (rcells Hd.enc (L0 ++ (elH T r i).take m))) ∧ Hid (Boxed2 wx B9 38 (.int .u8 nb) (.int .i64 ((na : Int) + 1))) ∧ Hid (wx.ownsRow (w.heap.size + 1) 35 2 (Cel.v ⟨ca, cl, cc⟩) cl.length (cellsOf cl)) ∧ Hid (∀ g, v.ownBlock = some g → g ≠ B9 ∧ (Cel.v ⟨ca, cl, cc⟩).ownBlock ≠ some g) ∧ RowKit.Below (w.heap.size + 1) W0 wx)
            case atStart => exact ⟨0, rfl, by omega, rfl, by simpa using HOb, HBN, Lib.hid (ownsRow_mono HCL.out hN2), hsp0, hb3'⟩
            case round =>
              clear HOb HBN HCL hsp0 hb3' h93
              obtain ⟨m, rfl, hm, hg, HO, HBN, HCL, HSP, hbr3⟩ := hrel
              have HG3 := Lib.hid hg
              clear hg
              by_cases hm2 : m < nl
              · have hmz : (m : Int) < (nl : Int) := by omega
                have hcl := own_ok HCL.out (by simp only; rw [HNL.out]; omega)
                obtain ⟨b, o, ha, hb, t0, t1⟩ := hcl.at (i := m) (by simp only; rw [HNL.out]; exact hm2)
                obtain rfl : ca = some ⟨b, o, none⟩ := ha
                obtain ⟨p, hp⟩ : ∃ p, cl[m]'(by rw [HNL.out]; exact hm2) = p := ⟨_, rfl⟩
                simp only [hp] at t0 t1
                have hst : (elH T r i).take (m + 1) = (elH T r i).take m ++ [⟨p, nb, (na : Int) + 1, z⟩] := by
                  have hlen : m < (elH T r i).length := by rw [HEL.out, List.length_map, HNL.out]; exact hm2
                  rw [List.take_succ_eq_append_getElem hlen]
                  congr 2
                  simp only [HEL.out, List.getElem_map, hp]
                have HST := Lib.hid hst
                have HI0 : Hid (∀ {W : World}, RowKit.Below wr.heap.size wr W → W.cell? ⟨b, o + m * 2, none⟩ = some (.int .u8 p.y)) := Lib.hid fun h => (h.cell (p := ⟨b, o + m * 2, none⟩) hb).trans t0
                have HI1 : Hid (∀ {W : World}, RowKit.Below wr.heap.size wr W → W.cell? ⟨b, o + m * 2 + 1, none⟩ = some (.int .i64 p.n)) := Lib.hid fun h => (h.cell (p := ⟨b, o + m * 2 + 1, none⟩) hb).trans t1
                have HN0 : Hid (∀ {W : World}, RowKit.Below wr.heap.size wr W → W.cell? ⟨B9, 0, none⟩ = some (.int .u8 nb)) := Lib.hid fun h => (HBN.out.below h HBN.out.lt).cell0
                have HN1 : Hid (∀ {W : World}, RowKit.Below wr.heap.size wr W → W.cell? ⟨B9, 0 + 1, none⟩ = some (.int .i64 ((na : Int) + 1))) := Lib.hid fun h => (HBN.out.below h HBN.out.lt).cell1
                have HKN := Lib.hid hm2
                have HB3 := Lib.hid hbr3
                clear hst hp hcl t0 t1 hbr3
                go_upto_region 14 with fail
                refine rgT2s 5 9 [some 36, some 37, some 38, some 39, some 40, some 41, some 42, some 43, some 44, some 45, some 5] (psiLs14 b o nl cc m B9 u5 p.y p.n (nb : Int) ((na : Int) + 1) z) (fun w' => RowKit.Below wr.heap.size wr w') (by kernel_rfl) (by kernel_rfl) (by kernel_rfl) (by kernel_rfl) (by kernel_rfl) (psiLs14_stab b o nl cc m B9 u5 p.y p.n (nb : Int) ((na : Int) + 1) z) (fun _ _ h hb => h.trans (hb.mono h.size)) (fun i9 o9 hi9 ho9 aq9 w1 hs hout hold hI hdep => ?_) ?_ ((Below.refl _ _).drew)
                · skip
                  match i9, hi9, ho9 with
                  | 0, _, ho9 =>
                    obtain rfl := Option.some.inj ho9
                    refine .inl ⟨rfl, fun K hK => ?_⟩
                    exact st_move rfl (hold.trans rfl) (hK _ _ (Below.refl _ _) rfl)
                  | 1, _, ho9 =>
                    obtain rfl := Option.some.inj ho9
                    refine .inl ⟨rfl, fun K hK => ?_⟩
                    exact st_move rfl ((hout 9 rfl).trans rfl) (hK _ _ (Below.refl _ _) rfl)
                  | 2, _, ho9 =>
                    obtain rfl := Option.some.inj ho9
                    refine .inl ⟨rfl, fun K hK => ?_⟩
                    exact st_move rfl ((hout 10 rfl).trans rfl) (hK _ _ (Below.refl _ _) rfl)
                  | 3, _, ho9 =>
                    obtain rfl := Option.some.inj ho9
                    have dq1 : (aq9.tmps.getD 37 undef) = .slice (some ⟨b, o, none⟩) nl cc := hdep ⟨1, .data⟩ (by simp) rfl _ rfl
                    have dq2 : (aq9.tmps.getD 38 undef) = .int .i64 (m : Int) := hdep ⟨2, .data⟩ (by simp) rfl _ rfl
                    refine .inl ⟨rfl, fun K hK => ?_⟩
                    exact st_idx61 (k := m) rfl dq1 dq2 HKN.out (hK _ _ (Below.refl _ _) rfl)
                  | 4, _, ho9 =>
                    obtain rfl := Option.some.inj ho9
                    have dq3 : (aq9.tmps.getD 39 undef) = .pointer (some ⟨b, o + m * 2, none⟩) := hdep ⟨3, .data⟩ (by simp) rfl _ rfl
                    refine .inl ⟨rfl, fun K hK => ?_⟩
                    exact ld28 rfl dq3 (HI0.out hI) (HI1.out hI) (hK _ _ (Below.refl _ _) rfl)
                  | 5, _, ho9 =>
                    obtain rfl := Option.some.inj ho9
                    refine .inl ⟨rfl, fun K hK => ?_⟩
                    exact ld26 rfl ((hout 8 rfl).trans rfl) (HN0.out hI) (HN1.out hI) (hK _ _ (Below.refl _ _) rfl)
                  | 6, _, ho9 =>
                    obtain rfl := Option.some.inj ho9
                    refine .inl ⟨rfl, fun K hK => ?_⟩
                    exact st_move rfl ((hout 6 rfl).trans rfl) (hK _ _ (Below.refl _ _) rfl)
                  | 7, _, ho9 =>
                    obtain rfl := Option.some.inj ho9
                    have dq4 : (aq9.tmps.getD 40 undef) = .agg #[.int .u8 p.y, .int .i64 p.n] := hdep ⟨4, .data⟩ (by simp) rfl _ rfl
                    have dq5 : (aq9.tmps.getD 41 undef) = .agg #[.int .u8 (nb : Int), .int .i64 ((na : Int) + 1)] := hdep ⟨5, .data⟩ (by simp) rfl _ rfl
                    have dq6 : (aq9.tmps.getD 42 undef) = .int .i64 z := hdep ⟨6, .data⟩ (by simp) rfl _ rfl
                    refine .inl ⟨rfl, fun K hK => ?_⟩
                    exact st_build40 rfl dq4 dq5 dq6 (hK _ _ (Below.refl _ _) rfl)
                  | 8, _, ho9 =>
                    obtain rfl := Option.some.inj ho9
                    have dq7 : (aq9.tmps.getD 43 undef) = .agg #[.int .u8 p.y, .int .i64 p.n, .int .u8 (nb : Int), .int .i64 ((na : Int) + 1), .int .i64 z] := hdep ⟨7, .data⟩ (by simp) rfl _ rfl
                    refine .inl ⟨rfl, fun K hK => ?_⟩
                    exact st_bs40 ⟨⟨p.y, p.n⟩, (nb : Int), ((na : Int) + 1), z⟩ rfl dq7 (hK _ _ (below1 _ _) ⟨_, rfl, by simp, heap_alloc_new _ _⟩)
                  | i9 + 9, hi9, _ => exact absurd hi9 (by omega)
                · intro a2 w2 hs hd hout hold hI hall
                  obtain ⟨tmps, defers⟩ := a2
                  have e_36 : (tmps.getD 36 undef) = u5 := hall 0 _ (by decide) rfl
                  have e_44 : ∃ b9, (tmps.getD 44 undef) = .slice (some ⟨b9, 0, none⟩) 1 1 ∧ b9 < w2.heap.size ∧ w2.heap[b9]? = some (.cells (Hd.enc ⟨⟨p.y, p.n⟩, (nb : Int), ((na : Int) + 1), z⟩).toArray 40 (0, 0)) := hall 8 _ (by decide) rfl
                  obtain ⟨b12, e_44, hlb12, hrb12⟩ := e_44
                  simp only at hs hd hout
                  have ef := frameAt [some 36, some 37, some 38, some 39, some 40, some 41, some 42, some 43, some 44, some 45, some 5] _ tmps hs hout
                  obtain ⟨sv14, hu⟩ : ∃ u : Nat → Value, u = fun s => tmps.getD s undef := ⟨_, rfl⟩
                  have eu_36 : sv14 36 = u5 := by rw [hu]; exact e_36
                  have eu_44 : sv14 44 = .slice (some ⟨b12, 0, none⟩) 1 1 := by rw [hu]; exact e_44
                  rw [← hu] at ef
                  have ef2 : tmps = #[Value.agg #[Value.slice fa fs.length fc, Value.slice ba bs.length bc], Value.int IntKind.i64 r, Value.pointer (some { block := w.heap.size, off := 0 }), undef, Value.slice none 0 0, (sv14 5), Value.int IntKind.i64 z, Value.int IntKind.i64 i, Value.pointer (some { block := B9, off := 0 }), Value.slice (some { block := b, off := o }) nl cc, Value.int IntKind.i64 m, Value.int IntKind.i64 z, Value.bool true, u13, u14, Value.int IntKind.i64 i, Value.bool true, u17, u18, Value.int IntKind.i64 i, Value.int IntKind.u8 i, Value.agg #[Value.int IntKind.u8 nb, Value.int IntKind.i64 (na + 1)], Value.agg #[Value.int IntKind.u8 nb, Value.int IntKind.i64 (na + 1)], Value.int IntKind.i64 r, Value.int IntKind.i64 z, Value.int IntKind.i64 z, Value.bool false, Value.agg #[Value.slice fa fs.length fc, Value.slice ba bs.length bc], Value.agg #[Value.int IntKind.u8 nb, Value.int IntKind.i64 (na + 1)], Value.slice (some { block := b, off := o }) nl cc, Value.int IntKind.i64 m, Value.slice (some { block := b, off := o }) nl cc, Value.int IntKind.i64 nl, Value.bool true, u34, u35, (sv14 36), (sv14 37), (sv14 38), (sv14 39), (sv14 40), (sv14 41), (sv14 42), (sv14 43), (sv14 44), (sv14 45), undef] := ef
                  subst hd
                  rw [eu_36, eu_44] at ef2
                  rw [ef2]
                  clear ef ef2 hu hs hout hall e_36 eu_36 e_44 eu_44
                  simp only [List.drop_succ_cons, List.drop_zero]
                  have hO2 := Lib.hid (below_owns HO.out hI)
                  have hrc : Rec Hd.enc w2 b12 ⟨⟨p.y, p.n⟩, nb, (na : Int) + 1, z⟩ := fun j u hj => by
                    rw [cell_of_row w2 b12 j _ 40 (0, 0) hrb12]
                    simpa using hj
                  have hbr4 : RowKit.Below (w.heap.size + 1) W0 w2 := HB3.out.trans (hI.mono (by have := HB3.out.size; omega))
                  have HBN2 := Lib.hid (HBN.out.below hI HBN.out.lt)
                  have HCL2 := Lib.hid (below_owns HCL.out hI)
                  have hl3 : (L0 ++ (elH T r i).take m).length ≤ 100000 := by have := HL0L.out; rw [List.length_append, List.length_take]; omega
                  clear HI0 HI1 HN0 HN1 hI hrb12 hlb12
                  refine wpList_app_rec kdHd (v := u5) (x := ⟨⟨p.y, p.n⟩, nb, (na : Int) + 1, z⟩) rfl rfl rfl rfl hO2.out hrc hl3 (by have := hbr4.size; omega) ?_
                  intro v4 w4 hw4 hg4 hat4
                  have HW4 := Lib.hid hw4
                  have HB4 := Lib.hid (HBN2.out.kept hg4 (fun e => (HSP.out _ e.symm).1 rfl))
                  have HC4 := Lib.hid (HCL2.out.kept hg4 (by
                    cases h : u5.ownBlock with
                    | none => exact none_or _
                    | some g => exact .inr (HSP.out g h).2))
                  have hbr5 := hbr4.grown hg4 (by have := hbr4.size; omega) (fun g e => (hO2.out.lt g e).1)
                  have HS4 : Hid (∀ g, v4.ownBlock = some g → g ≠ B9 ∧ (Cel.v ⟨some ⟨b, o, none⟩, cl, cc⟩).ownBlock ≠ some g) := Lib.hid (fun g hg => by
                    rcases hat4 with e | e
                    · exact HSP.out g (by rw [← e]; exact hg)
                    · obtain rfl : w2.heap.size = g := Option.some.inj (e.symm.trans hg)
                      refine ⟨by have := HBN2.out.lt; omega, fun e2 => ?_⟩
                      have := (HCL2.out.lt _ e2).2
                      omega)
                  clear hw4 hg4 hat4 hrc HBN2 HCL2 hO2 hbr4
                  go_wp2_with fail
                  go_roundg (5 - (m + 1))
                  case measure => have := HG3.out; omega
                  case rel => exact ⟨m + 1, by go_num, by omega, by omega, Lib.hid (by
                    rw [HST.out, ← List.append_assoc]; exact HW4.out), HB4, HC4, HS4, hbr5⟩
              · obtain rfl : m = nl := by omega
                have hmz : ¬ ((m : Int) < (m : Int)) := by omega
                have HO2 : Hid (wr.ownsRow (w.heap.size + 1) 40 5 u5 (lstH T r J ++ rowH T r z (i + 1)).length (rcells Hd.enc (lstH T r J ++ rowH T r z (i + 1)))) := Lib.hid (by
                  have h1 : (elH T r i).take m = elH T r i := List.take_of_length_le (by rw [HEL.out, List.length_map, HNL.out]; exact Nat.le_refl _)
                  have h2 := HO.out
                  rw [rowH_succ, ← List.append_assoc, HL0.out]
                  unfold selH
                  rw [if_pos HSPH.out]
                  rw [h1] at h2
                  exact h2)
                clear HO
                go_wp2_with fail
                go_roundg (81 - (i + 1))
                case measure => have := HG2.out; omega
                case rel => exact ⟨i + 1, by go_num, by omega, by omega, HO2, hbr3⟩
          · have hzs : (z == s) = false := by simp [hsp]
            have HNS := Lib.hid hsp
            go_upto_region 9 with (go_at_call 28; refine HND.out.mono ?_; rintro e w1 ⟨rfl, hb1⟩)
            have HB1 := Lib.hid (hbr.trans (hb1.mono (by have := hbr.size; omega)))
            have HO1 := Lib.hid (below_owns HO.out hb1)
            have hbN := Boxed2.new w1 38 (.int .u8 nb) (.int .i64 ((na : Int) + 1))
            have hb9 := HB1.out.alloc (by have := HB1.out.size; omega) (.cells #[.int .u8 nb, .int .i64 ((na : Int) + 1)] 38)
            have hO9 := HO1.out.alloc (.cells #[.int .u8 nb, .int .i64 ((na : Int) + 1)] 38)
            have HW9 := Lib.hid (below1 w1 (.cells #[.int .u8 nb, .int .i64 ((na : Int) + 1)] 38))
            obtain ⟨w9, hw9⟩ : ∃ w9, w1.alloc (.cells #[.int .u8 nb, .int .i64 ((na : Int) + 1)] 38) = w9 := ⟨_, rfl⟩
            rw [hw9] at hbN hb9 hO9
            rw [hw9]
            clear hw9 hb1 hbr HND hw8
            have n0 := hbN.cell0
            have n1 := hbN.cell1
            have HO9 := Lib.hid hO9
            have HB9 := Lib.hid hb9
            clear hO9 hb9 hbN HO HO1 HB1
            go_wp2_with (go_at_call 29; refine (spot_any (nb : Int) ((na : Int) + 1) r w9 (by omega)).mono ?_; rintro e w2 ⟨rfl, hb2⟩; rw [HZ.out]; clear n0 n1)
            go_roundg (81 - (i + 1))
            case measure => have := HG2.out; omega
            case rel => exact ⟨i + 1, by go_num, by omega, by omega, Lib.hid (by
              rw [rowH_succ]
              unfold selH
              rw [if_neg (by rw [HSPH.out]; exact HNS.out), List.append_nil]
              exact below_owns HO9.out hb2), HB9.out.trans (hb2.mono (by have := HB9.out.size; omega))⟩
        · obtain rfl : i = 80 := by omega
          have hiz : ¬ (((80 : Nat) : Int) < 80) := by omega
          have hiz2 : ¬ ((80 : Int) < 80) := by omega
          have HO2 : Hid (wr.ownsRow (w.heap.size + 1) 40 5 u5 (lstH T r (J + 1)).length (rcells Hd.enc (lstH T r (J + 1)))) := Lib.hid (by
            rw [lstH_succ, HS.out]; exact HO.out)
          clear HO
          go_wp2_with fail
          go_roundg (96 - (J + 1))
          case measure => have := HG.out; have := hJ95.out; omega
          case rel => exact ⟨J + 1, by have := HS.out; rw [← this]; go_num, by have := hJ95.out; omega, by omega, HO2, hbr⟩
    · obtain rfl : J = 95 := by have := HS.out; have := HJ.out; omega
      go_wp2_with fail
      go_ret
      exact ⟨_, rfl, ownsRow_mono HO.out (by omega), HB0.out.trans (hbr.mono (by omega))⟩
end Go.Proofs.YtjjnhmbgffdenaaDoor
namespace Go.Proofs.YtjjnhmbgffdenaaDoor
open Go.RowKit Go.Sort
set_option maxRecDepth 100000 in
set_option maxHeartbeats 1000000 in
theorem Of_any (ao : Option Addr) (xs : List (Nat × Nat)) (cap : Nat) (w : World) (h : LieP w ao xs) :
    Calls Tryd.prog 9 #[.slice ao xs.length cap] w (BdOf (ofM xs) w) := by
  have HL := Lib.hid h
  clear h
  obtain ⟨T9, hT9⟩ : ∃ T9, T9 = ofM xs := ⟨_, rfl⟩
  rw [← hT9]
  have HT9 := Lib.hid hT9
  clear hT9
  obtain ⟨N, hN⟩ : ∃ N, N = xs.length := ⟨_, rfl⟩
  rw [← hN]
  have HN := Lib.hid hN
  clear hN
  go_enter Tryd.func9, Tryd.ntmps9
  go_wp2_with fail
  obtain ⟨W0, hW0⟩ : ∃ W0, w.alloc (.cells #[.slice none 0 0, .slice none 0 0] 26) = W0 := ⟨_, rfl⟩
  have bR : Boxed2 W0 w.heap.size 26 (.slice none 0 0) (.slice none 0 0) := by rw [← hW0]; exact Boxed2.new _ _ _ _
  have hB0 : Below w.heap.size w W0 := by rw [← hW0]; exact below1 _ _
  have HOF : Hid (Calls Tryd.prog 20 #[.slice ao N cap] W0 (NewFul T9 W0)) := Lib.hid (by
    rw [HN.out, HT9.out]; exact of_any ao xs cap W0 (HL.out.below hB0))
  rw [hW0]
  clear hW0
  go_wp2_with (first
    | (go_at_call 20; refine HOF.out.mono ?_; rintro e w1 ⟨cs, rfl, hcs, hb1⟩; have hB1 : Below w.heap.size w w1 := hB0.trans (hb1.mono hB0.size); have bR1 := bR.below hb1 bR.lt)
    | (go_at_call 21; refine (beds_any cs w1 hcs.out.1 hcs.out.2.2).mono ?_; rw [hcs.out.2.1]; rintro e w2 ⟨⟨⟨ga, gs, gc⟩, ⟨ka, ks, kc⟩⟩, rfl, hbd, hb2⟩; simp only [Bds.v, Bed.v]; have hB2 : Below w.heap.size w w2 := hB1.trans (hb2.mono hB1.size); have bR2 := bR1.below hb2 bR1.lt; have r0 := bR2.cell0; have r1 := bR2.cell1; have fR := bR2.frozen))
  have nF : ∀ b o, ga = some ⟨b, o, none⟩ → b ≠ w.heap.size := fun b o e => by
    have h1 := hbd.out.2.2.2.1 b o e
    have h2 := bR1.lt
    omega
  have nB : ∀ b o, ka = some ⟨b, o, none⟩ → b ≠ w.heap.size := fun b o e => by
    have h1 := hbd.out.2.2.2.2 b o e
    have h2 := bR1.lt
    omega
  have b9 := bR2.set0 (.slice ga gs.length gc)
  have b4 := b9.set1 (.slice ka ks.length kc)
  have b40 := b4.cell0
  have b41 := b4.cell1
  have okF := ((hbd.out.2.2.1.1.set_box bR2 (isSl_mk _ _ _) (isSl_mk _ _ _) nF 0 (.slice ga gs.length gc)).set_box b9 (isSl_mk _ _ _) (isSl_mk _ _ _) nF 1 (.slice ka ks.length kc))
  have okB := ((hbd.out.2.2.1.2.set_box bR2 (isSl_mk _ _ _) (isSl_mk _ _ _) nB 0 (.slice ga gs.length gc)).set_box b9 (isSl_mk _ _ _) (isSl_mk _ _ _) nB 1 (.slice ka ks.length kc))
  refine bodyPost_ret (v := .agg #[.slice ga gs.length gc, .slice ka ks.length kc]) (by simp [results, Tryd.results9, go_sem, b40, b41]) rfl ⟨⟨⟨ga, gs, gc⟩, ⟨ka, ks, kc⟩⟩, rfl, Lib.hid ⟨hbd.out.1, hbd.out.2.1, ⟨okF.mono (by simp), okB.mono (by simp)⟩, fun b o e => ?_, fun b o e => ?_⟩, ?_⟩
  · have h1 := hbd.out.2.2.2.1 b o e
    have h2 := bR1.lt
    omega
  · have h1 := hbd.out.2.2.2.2 b o e
    have h2 := bR1.lt
    omega
  · exact (hB2.setCell (p := ⟨w.heap.size, 0, none⟩) (by simp) _).setCell (p := ⟨w.heap.size, 1, none⟩) (by simp) _
end Go.Proofs.YtjjnhmbgffdenaaDoor
namespace Go.Proofs.YtjjnhmbgffdenaaDoor
set_option maxRecDepth 100000
open Go.ChangeShapes Go.WideShapes Go.ChangeAt Go.RowKit Go.Deep Go.Joins

theorem own : ownKnob Tryd.prog.godebug = none := by kernel_rfl
theorem Tryd.laidOut' : laidOutB Tryd.prog = true := by kernel_rfl
theorem cellsOf5 : Tryd.prog.cellsOf 5 = 1 := by kernel_rfl
theorem cellsOf3 : Tryd.prog.cellsOf 3 = 1 := by kernel_rfl
theorem cellsOf97 : Tryd.prog.cellsOf 97 = 2 := by kernel_rfl
theorem byte_in {x : Int} (h : (Lit.int .u8 x).wf = true) : 0 ≤ x ∧ x ≤ 255 := bounds_u8 h
/-- The table of steps, as a row lists it. -/
theorem stp_of_laid {W : World} (h : laidMetH Tryd.prog [("gansey/orders.steps", Rows.laid_gansey_orders_steps)] W) : Stp W := by
  rw [MakeChecks.laidMetH_plain _ _ _ (by kernel_rfl)] at h
  have hT : Lib.TabIs Tryd.prog W "gansey/orders.steps" .i64 [-1, 1] := Lib.tabIs_of_head (g := 0) (t := 42) (e := 3) (n := 2) (by kernel_rfl) (by kernel_rfl) Tryd.underlying42 Tryd.underlying3 (by kernel_rfl) (by kernel_rfl) h
  have c0 := hT.cell (g := 0) (by kernel_rfl) 0 (by decide)
  have c1 := hT.cell (g := 0) (by kernel_rfl) 1 (by decide)
  exact ⟨c0, c1, World.block_lt_of_cell? _ _ c0⟩
/-- A world in which the table lies. -/
noncomputable def laidWorld (os : Os) : World :=
  let w0 := World.holding Tryd.prog os ⟨#[], #[], []⟩
  let put (h : Array Obj) (g : Nat) (cs : Array Value) : Array Obj := h.modify g fun
    | .cells _ t frozen => .cells cs t frozen
    | o => o
  { w0 with heap := put w0.heap 0 #[.int .i64 (-1), .int .i64 1] }
theorem laid_met (os : Os) (args : Array Value) : laidMet Tryd.prog Rows.ordersListRow.laid ((laidWorld os).forCall (fun _ _ => 0) ⟨#[], args, []⟩).memory :=
  laidMet_of_run' 8 (by kernel_rfl) (by kernel_rfl)
section
variable {H : Type} {enc : TypeId × Value → H} {W : World} {base : Nat} {spare : Nat → Bool} {held : Bool}
theorem open_put_cells {fuel : Nat} {cs : List Value} {x : DataW H × List MemPlace} (h : DataW.trod enc Tryd.prog W base spare held fuel 97 cs = some x) :
    ∃ y n : Int, cs = [.int .u8 y, .int .u8 n] ∧ (0 ≤ y ∧ y ≤ 255) ∧ (0 ≤ n ∧ n ≤ 255) := by
  obtain ⟨y0, y1, n, _, hl, h0, h1⟩ := trod_struct2 Tryd.underlying97 h
  rw [cellsOf97] at hl
  match cs, hl with
  | [c0, c1], _ =>
    obtain ⟨y, e0, _, w0⟩ := DataW.trod_int Tryd.underlying5 h0
    obtain ⟨m, e1, _, w1⟩ := DataW.trod_int Tryd.underlying5 h1
    simp [cellsOf5, cellsOf3] at e0 e1
    subst e0 e1
    exact ⟨y, m, rfl, byte_in w0, byte_in w1⟩
theorem open_puts_arg {v : Value} {d : DataW H} {p : List MemPlace} {w' : World} {r : _} {b : Nat} (hv : Value.okWide Tryd.prog w' r b 23 v) (h : DataW.Trod enc Tryd.prog W 0 spare held 23 v d p) :
    ∃ (ao : Option Addr) (n cap : Nat) (xs : List (Nat × Nat)), v = .slice ao n cap ∧ n = xs.length ∧ LieP W ao xs := by
  obtain ⟨a0, len0, cap0, rfl⟩ := okWide_slice Tryd.underlying23 hv
  obtain ⟨fuel, hf⟩ := h
  rcases open_slice Tryd.underlying23 hf with ⟨hcs, _⟩ | ⟨a, len, cap, m, n, D, Pl, hcs, hb, hl, hm, hmm, _, hx⟩
  · simp [Value.cells] at hcs
    obtain ⟨rfl, rfl, rfl⟩ := hcs
    exact ⟨none, 0, 0, [], rfl, rfl, .inl rfl⟩
  · simp [Value.cells] at hcs
    obtain ⟨rfl, rfl, rfl⟩ := hcs
    have hlm : len0 ≤ m := by rw [hmm]; split <;> omega
    have each : ∀ i, i < len0 → ∃ p : (Nat × Nat), (∀ j, j < 2 → W.cell? (a.add (i * 2 + j)) = [Value.int .u8 (p.1 : Int), .int .u8 (p.2 : Int)][j]?) ∧ True := by
      intro i hi
      obtain ⟨cs', h1, h2⟩ := hx i (by omega)
      rw [cellsOf97] at h1
      obtain ⟨_, _, hc⟩ := World.cells?_some h1
      obtain ⟨y, n, rfl, hy, hn⟩ := open_put_cells h2
      refine ⟨(y.toNat, n.toNat), fun j hj => ?_, trivial⟩
      have := hc j hj
      rw [add_add] at this
      simp only [Int.toNat_of_nonneg hy.1, Int.toNat_of_nonneg hn.1]
      exact this
    let dflt : Inhabited ((Nat × Nat)) := ⟨(0, 0)⟩
    obtain ⟨P, hP⟩ := choose_lt each
    have hget : ∀ i p, ((List.range len0).map P)[i]? = some p → i < len0 ∧ p = P i := by
      intro i p hp
      have hi := (List.getElem?_eq_some_iff.1 hp).1
      simp at hi
      refine ⟨hi, ?_⟩
      rw [List.getElem?_map, List.getElem?_range hi] at hp
      simpa using hp.symm
    have hlie : len0 = 0 ∨ ∃ b o, some a = some ⟨b, o, none⟩ ∧ b < W.heap.size ∧ ∀ (i : Nat) (p : (Nat × Nat)), ((List.range len0).map P)[i]? = some p → W.cell? ⟨b, o + i * 2, none⟩ = some (.int .u8 (p.1 : Int)) ∧ W.cell? ⟨b, o + i * 2 + 1, none⟩ = some (.int .u8 (p.2 : Int)) := by
      by_cases h0 : len0 = 0
      · exact .inl h0
      · have c0 := (hP 0 (by omega)).1 0 (by omega)
        obtain ⟨b, off, spot⟩ := a
        have hspot : spot = none := by simpa [Addr.add] using World.cell?_spot c0
        subst hspot
        have key : ∀ k, (⟨b, off, none⟩ : Addr).add k = ⟨b, off + k, none⟩ := fun k => Addr.add_lit ..
        refine .inr ⟨b, off, rfl, ?_, fun i p hp => ?_⟩
        · rw [key] at c0
          exact World.block_lt_of_cell? _ _ c0
        · obtain ⟨hi, rfl⟩ := hget i p hp
          have q := (hP i hi).1
          have q0 := q 0 (by omega)
          have q1 := q 1 (by omega)
          rw [key] at q0 q1
          simp only [← Nat.add_assoc] at q0 q1
          exact ⟨q0, q1⟩
    have hwf : ∀ p ∈ (List.range len0).map P, True := by
      intro p hp
      obtain ⟨i, hi, rfl⟩ := List.mem_map.1 hp
      exact (hP i (List.mem_range.1 hi)).2
    refine ⟨some a, len0, cap0, (List.range len0).map P, rfl, by simp, ?_⟩
    rcases hlie with h0 | h0
    · exact .inl (by rw [h0]; rfl)
    · exact .inr h0
theorem okWide_arr {P : Program} {w : World} {r : _} {base : Nat} {t : TypeId} {v : Value} {n : Nat} {e : TypeId} (ht : P.underlying t = some (.array n e)) (h : Value.okWide P w r base t v) : ∃ cs, v = .agg cs ∧ cs.size = P.cellsOf t := by
  simp only [Value.okWide, ht] at h
  obtain ⟨cs, h1, h2, _⟩ := h
  exact ⟨cs, h1, h2⟩
theorem cellsOf42 : Tryd.prog.cellsOf 42 = 2 := by kernel_rfl
theorem open_two_arg {v : Value} {d : DataW H} {p : List MemPlace} {w' : World} {r : _} {b : Nat} (hv : Value.okWide Tryd.prog w' r b 42 v) (h : DataW.Trod enc Tryd.prog W 0 spare held 42 v d p) :
    ∃ x y : Int, v = .agg #[.int .i64 x, .int .i64 y] := by
  obtain ⟨cs, rfl, hl⟩ := okWide_arr Tryd.underlying42 hv
  obtain ⟨fuel, hf⟩ := h
  obtain ⟨xs, m, _, _, _, hlen, he⟩ := DataW.trod_array Tryd.underlying42 hf
  rw [cellsOf42] at hl
  obtain ⟨l⟩ := cs
  match l, hl, xs, hlen with
  | [c0, c1], _, [y0, y1], _ =>
    have h0 := he 0 (by decide)
    have h1 := he 1 (by decide)
    simp [cellsOf3, Value.cells] at h0 h1
    obtain ⟨x, e0, _, _⟩ := DataW.trod_int Tryd.underlying3 h0
    obtain ⟨y, e1, _, _⟩ := DataW.trod_int Tryd.underlying3 h1
    obtain rfl : c0 = _ := (List.cons.inj e0).1
    obtain rfl : c1 = _ := (List.cons.inj e1).1
    exact ⟨x, y, rfl⟩
end
end Go.Proofs.YtjjnhmbgffdenaaDoor
namespace Go.Proofs.YtjjnhmbgffdenaaDoor
set_option maxRecDepth 100000
open Go.ChangeShapes Go.WideShapes Go.ChangeAt Go.RowKit Go.Deep Go.Joins
theorem cellsOf35 : Tryd.prog.cellsOf 35 = 2 := by kernel_rfl
theorem cellsOf61 : Tryd.prog.cellsOf 61 = 1 := by kernel_rfl
theorem cellsOf24 : Tryd.prog.cellsOf 24 = 1 := by kernel_rfl
theorem cellsOf26 : Tryd.prog.cellsOf 26 = 2 := by kernel_rfl
section
variable {H : Type} {enc : TypeId × Value → H} {W : World} {base : Nat} {spare : Nat → Bool} {held : Bool}
theorem open_nm_cells {fuel : Nat} {cs : List Value} {x : DataW H × List MemPlace} (h : DataW.trod enc Tryd.prog W base spare held fuel 35 cs = some x) :
    ∃ p : Nm, cs = [.int .u8 p.y, .int .i64 p.n] := by
  obtain ⟨y0, y1, n, _, hl, h0, h1⟩ := trod_struct2 Tryd.underlying35 h
  rw [cellsOf35] at hl
  match cs, hl with
  | [c0, c1], _ =>
    obtain ⟨y, e0, _, w0⟩ := DataW.trod_int Tryd.underlying5 h0
    obtain ⟨m, e1, _, w1⟩ := DataW.trod_int Tryd.underlying3 h1
    simp [cellsOf5, cellsOf3] at e0 e1
    subst e0 e1
    exact ⟨⟨y, m⟩, rfl⟩
theorem open_cel_cells {fuel : Nat} {cs : List Value} {x : DataW H × List MemPlace} (h : DataW.trod enc Tryd.prog W base spare held fuel 61 cs = some x) :
    ∃ c : Cel, cs = [c.v] ∧ c.lie W := by
  rcases open_slice Tryd.underlying61 h with ⟨hcs, _⟩ | ⟨a, len, cap, m, n, D, Pl, hcs, hb, hl, hm, hmm, _, hx⟩
  · exact ⟨⟨none, [], 0⟩, hcs, .inl rfl⟩
  · have hlm : len ≤ m := by rw [hmm]; split <;> omega
    have each : ∀ i, i < len → ∃ p : Nm, (∀ j, j < 2 → W.cell? (a.add (i * 2 + j)) = [Value.int .u8 p.y, .int .i64 p.n][j]?) ∧ True := by
      intro i hi
      obtain ⟨cs', h1, h2⟩ := hx i (by omega)
      rw [cellsOf35] at h1
      obtain ⟨_, _, hc⟩ := World.cells?_some h1
      obtain ⟨p, rfl⟩ := open_nm_cells h2
      refine ⟨p, fun j hj => ?_, trivial⟩
      have := hc j hj
      rwa [add_add] at this
    let dflt : Inhabited Nm := ⟨⟨0, 0⟩⟩
    obtain ⟨P, hP⟩ := choose_lt each
    refine ⟨⟨some a, (List.range len).map P, cap⟩, by rw [hcs]; simp [Cel.v], ?_⟩
    by_cases h0 : len = 0
    · subst h0; exact .inl (by simp)
    · have c0 := (hP 0 (by omega)).1 0 (by omega)
      obtain ⟨b, off, spot⟩ := a
      have hspot : spot = none := by simpa [Addr.add] using World.cell?_spot c0
      subst hspot
      have key : ∀ k, (⟨b, off, none⟩ : Addr).add k = ⟨b, off + k, none⟩ := fun k => Addr.add_lit ..
      refine .inr ⟨b, off, rfl, ?_, fun i p hp => ?_⟩
      · rw [key] at c0
        exact World.block_lt_of_cell? _ _ c0
      · have hi : i < len := by have := (List.getElem?_eq_some_iff.1 hp).1; simpa using this
        rw [List.getElem?_map, List.getElem?_range hi] at hp
        obtain rfl : P i = p := by simpa using hp
        have q := (hP i hi).1
        have q0 := q 0 (by omega)
        have q1 := q 1 (by omega)
        rw [key] at q0 q1
        simp only [← Nat.add_assoc] at q0 q1
        exact ⟨q0, q1⟩
theorem open_bed_cells {fuel : Nat} {cs : List Value} {x : DataW H × List MemPlace} (h : DataW.trod enc Tryd.prog W base spare held fuel 24 cs = some x) :
    ∃ d : Bed, cs = [d.v] ∧ d.lie W := by
  rcases open_slice Tryd.underlying24 h with ⟨hcs, _⟩ | ⟨a, len, cap, m, n, D, Pl, hcs, hb, hl, hm, hmm, _, hx⟩
  · exact ⟨⟨none, [], 0⟩, hcs, fun c hc => by simp at hc, .inl rfl⟩
  · have hlm : len ≤ m := by rw [hmm]; split <;> omega
    have each : ∀ i, i < len → ∃ c : Cel, (W.cell? (a.add i) = some c.v) ∧ c.lie W := by
      intro i hi
      obtain ⟨cs', h1, h2⟩ := hx i (by omega)
      rw [cellsOf61] at h1
      obtain ⟨_, _, hc⟩ := World.cells?_some h1
      obtain ⟨c, rfl, hl⟩ := open_cel_cells h2
      refine ⟨c, ?_, hl⟩
      have := hc 0 (by omega)
      rw [add_add] at this
      simpa using this
    let dflt : Inhabited Cel := ⟨Cel.nil⟩
    obtain ⟨P, hP⟩ := choose_lt each
    refine ⟨⟨some a, (List.range len).map P, cap⟩, by rw [hcs]; simp [Bed.v], ?_, ?_⟩
    · intro c hc
      simp only [List.mem_map, List.mem_range] at hc
      obtain ⟨i, hi, rfl⟩ := hc
      exact (hP i hi).2
    · by_cases h0 : len = 0
      · subst h0; exact .inl (by simp)
      · have c0 := (hP 0 (by omega)).1
        obtain ⟨b, off, spot⟩ := a
        have hspot : spot = none := by simpa [Addr.add] using World.cell?_spot c0
        subst hspot
        have key : ∀ k, (⟨b, off, none⟩ : Addr).add k = ⟨b, off + k, none⟩ := fun k => Addr.add_lit ..
        refine .inr ⟨b, off, rfl, ?_, fun i c hc => ?_⟩
        · rw [key] at c0
          exact World.block_lt_of_cell? _ _ c0
        · have hi : i < len := by have := (List.getElem?_eq_some_iff.1 hc).1; simpa using this
          rw [List.getElem?_map, List.getElem?_range hi] at hc
          obtain rfl : P i = c := by simpa using hc
          have q := (hP i hi).1
          rwa [key] at q
theorem open_beds_arg {v : Value} {d : DataW H} {p : List MemPlace} {w' : World} {r : _} {b : Nat} (hv : Value.okWide Tryd.prog w' r b 26 v) (h : DataW.Trod enc Tryd.prog W 0 spare held 26 v d p) :
    ∃ e : Bds, v = e.v ∧ e.lie W := by
  obtain ⟨cs, rfl, hl⟩ := okWide_struct Tryd.underlying26 hv
  obtain ⟨fuel, hf⟩ := h
  obtain ⟨y0, y1, n, _, _, h0, h1⟩ := trod_struct2 Tryd.underlying26 hf
  rw [cellsOf26] at hl
  obtain ⟨l⟩ := cs
  match l, hl with
  | [c0, c1], _ =>
    obtain ⟨d0, e0, l0⟩ := open_bed_cells h0
    obtain ⟨d1, e1, l1⟩ := open_bed_cells h1
    simp [cellsOf24, Value.cells] at e0 e1
    subst e0 e1
    exact ⟨⟨d0, d1⟩, rfl, l0, l1⟩
end
end Go.Proofs.YtjjnhmbgffdenaaDoor
