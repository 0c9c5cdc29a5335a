import Derived.Test.YtgaofkbmnapogaaGag
import Derived.Test.YtgaofkbmnapogaaGaf
import Derived.Laws.BytesArg
import Derived.Sort.LotA
import Derived.Shelf.SlSortCmp.KitK
import Derived.Sort.WalkB2
import Derived.Sort.WalkB12
import Derived.Deep.LoopGhost
import Derived.Lib.Hide
import Derived.StillTailTactics
namespace Go.Proofs.Ytgaofkbmnapogaa
open Go.RowKit Go.Sort
/-- Bytes as a string. -/
def strB (l : List UInt8) : Value := .string ⟨l.toArray⟩
def chB (v : Int) : UInt8 := UInt8.ofNat v.toNat
section
variable {o : Oper} {a : Act} {w : World} {K : Act → World → Prop} {Q : Exit → Act → World → Prop} {x y : Operand}
theorem step_val {v : Value} (h : (execOp a.eval o).run Try.prog w = .ok (.value v) w) (hK : K (a.put o.dst v) w) : o.wp Try.prog a w K Q := by
  unfold Oper.wp
  rw [h]
  exact hK
theorem step_valw {v : Value} {w' : World} (h : (execOp a.eval o).run Try.prog w = .ok (.value v) w') (hK : K (a.put o.dst v) w') : o.wp Try.prog a w K Q := by
  unfold Oper.wp
  rw [h]
  exact hK
theorem st_move {v : Value} (hop : o.op = .move x) (hx : a.eval x = v) (hK : K (a.put o.dst (v)) w) : o.wp Try.prog a w K Q := by
  exact step_val (by simp only [execOp, hop, hx]; go_simp) hK
theorem fa28_0 {b q : Nat} (hop : o.op = .fieldAddr 36 x 0) (hx : a.eval x = .pointer (some ⟨b, q, none⟩)) (hK : K (a.put o.dst (.pointer (some ⟨b, q, none⟩))) w) : o.wp Try.prog a w K Q := by
  exact step_val (by simp only [execOp, hop, hx]; go_simp) hK
theorem fa28_1 {b q : Nat} (hop : o.op = .fieldAddr 36 x 1) (hx : a.eval x = .pointer (some ⟨b, q, none⟩)) (hK : K (a.put o.dst (.pointer (some ⟨b, q + 1, none⟩))) w) : o.wp Try.prog a w K Q := by
  exact step_val (by simp only [execOp, hop, hx]; go_simp) hK
theorem ld3 {b q : Nat} {v : Value} (hop : o.op = .load 3 x) (hx : a.eval x = .pointer (some ⟨b, q, none⟩)) (hc : w.cell? ⟨b, q, none⟩ = some v) (hK : K (a.put o.dst (v)) w) : o.wp Try.prog a w K Q := by
  exact step_val (by simp only [execOp, hop, hx]; go_simp) hK
theorem ld5 {b q : Nat} {v : Value} (hop : o.op = .load 5 x) (hx : a.eval x = .pointer (some ⟨b, q, none⟩)) (hc : w.cell? ⟨b, q, none⟩ = some v) (hK : K (a.put o.dst (v)) w) : o.wp Try.prog a w K Q := by
  exact step_val (by simp only [execOp, hop, hx]; go_simp) hK
theorem st_add_5 {X Y Z : Int} (hop : o.op = .binOp .add 5 x y 5) (hx : a.eval x = .int .u8 X) (hy : a.eval y = .int .u8 Y) (hz : IntKind.u8.wrap (X + Y) = Z) (hK : K (a.put o.dst (.int .u8 Z)) w) : o.wp Try.prog a w K Q := by
  exact step_val (by simp only [execOp, hop, hx, hy]; go_simp) hK
theorem st_conv35 {X Z : Int} (hop : o.op = .convert 3 5 x) (hx : a.eval x = .int .i64 X) (hz : IntKind.u8.wrap X = Z) (hK : K (a.put o.dst (.int .u8 Z)) w) : o.wp Try.prog a w K Q := by
  exact step_val (by simp only [execOp, hop, hx]; go_simp) hK
theorem st_idx61 {b q n c k : Nat} (hop : o.op = .indexAddr 26 x y) (hx : a.eval x = .slice (some ⟨b, q, none⟩) n c) (hy : a.eval y = .int .i64 k) (hk : k < n) (hK : K (a.put o.dst (.pointer (some ⟨b, q + k * 2, none⟩))) w) : o.wp Try.prog a w K Q := by
  have h1 : (k : Int) < n := by omega
  have h2 : (0 : Int) ≤ k := by omega
  exact step_val (by simp only [execOp, hop, hx, hy]; go_simp) hK
theorem st_rem3 {X : Int} (hop : o.op = .binOp .rem 3 x y 3) (hx : a.eval x = .int .i64 X) (hy : a.eval y = .int .i64 10) (hK : K (a.put o.dst (.int .i64 (X.tmod 10))) w) : o.wp Try.prog a w K Q := by
  exact step_val (by simp only [execOp, hop, hx, hy]; go_simp) hK
theorem st_bsB4 {z : Operand} {c0 c1 c2 c3 : Int} (hop : o.op = .buildSlice 64 4 #[(0, x), (1, .const (.int .u8 c1)), (2, z), (3, .const (.int .u8 c3))]) (hx : a.eval x = .int .u8 c0) (hz : a.eval z = .int .u8 c2)
    (hK : K (a.put o.dst (.slice (some ⟨w.heap.size, 0, none⟩) 4 4)) (w.alloc (.cells #[.int .u8 c0, .int .u8 c1, .int .u8 c2, .int .u8 c3] 5))) : o.wp Try.prog a w K Q := by
  exact step_valw (by simp only [execOp, hop]; simp [hx, hz]; go_simp) hK
theorem st_str {b n c : Nat} {xs : List Int} (hop : o.op = .convert 64 9 x) (hx : a.eval x = .slice (some ⟨b, 0, none⟩) n c) (hn : xs.length = n) (hb : w.heap[b]? = some (.cells (xs.map (Value.int .u8)).toArray 5 (0, 0)))
    (hK : K (a.put o.dst (strB (xs.map chB))) w) : o.wp Try.prog a w K Q := by
  have h := run_convert_bytes_arg (P := Try.prog) w 64 5 Try.underlying64 Try.underlying5 b 0 n c xs hn (fun i hi => by
    rw [Nat.zero_add, cell_of_row w b i _ 5 (0, 0) hb]
    have : i < xs.length := by omega
    simp [List.getD, List.getElem?_eq_getElem this]) 9 Try.underlying9
  refine step_val (v := strB (xs.map chB)) ?_ hK
  simp only [execOp, hop, hx, Sem.run_bind, h, Result.andThen_ok]
  rfl
theorem st_add9 {l1 l2 : List UInt8} (hop : o.op = .binOp .add 9 x y 9) (hx : a.eval x = strB l1) (hy : a.eval y = strB l2) (hl : l1.length + l2.length ≤ 100000) (hK : K (a.put o.dst (strB (l1 ++ l2))) w) : o.wp Try.prog a w K Q := by
  have h := run_string_add_lists (P := Try.prog) w l1 l2 (by omega) (by omega)
  unfold strB at hx hy
  refine step_val (v := strB (l1 ++ l2)) ?_ hK
  simp only [execOp, hop, hx, hy]
  go_simp
  rfl
end
def layAt (f : Nat → Bool) (u : Nat → Value) : Nat → List Value → List Value
  | _, [] => []
  | k, x :: r => (if f k = true then u k else x) :: layAt f u (k + 1) r
theorem layAt_length (f : Nat → Bool) (u : Nat → Value) : ∀ (l : List Value) (k : Nat), (layAt f u k l).length = l.length := by
  intro l
  induction l with
  | nil => intro k; rfl
  | cons x l ih => intro k; simp [layAt, ih]
theorem layAt_get (f : Nat → Bool) (u : Nat → Value) : ∀ (l : List Value) (k i : Nat) (h : i < l.length), (layAt f u k l)[i]? = some (if f (k + i) = true then u (k + i) else l[i]) := by
  intro l
  induction l with
  | nil => intro k i h; simp at h
  | cons x l ih =>
    intro k i h
    cases i with
    | zero => simp [layAt]
    | succ i =>
      have := ih (k + 1) i (by simpa using h)
      simp only [layAt, List.getElem?_cons_succ, List.getElem_cons_succ]
      rw [this, show k + 1 + i = k + (i + 1) by omega]
theorem frameAt (dsts : List (Option Tmp)) (A0 : List Value) (tmps : Array Value) (hs : tmps.size = A0.length) (h : ∀ s, dsts.contains (some s) = false → tmps.getD s undef = A0.toArray.getD s undef) :
    tmps = (layAt (fun s => dsts.contains (some s)) (fun s => tmps.getD s undef) 0 A0).toArray := by
  apply Array.ext_getElem?
  intro i
  by_cases hi' : i < tmps.size
  · have hl : i < A0.length := by omega
    have h2 : ((layAt (fun s => dsts.contains (some s)) (fun s => tmps.getD s undef) 0 A0).toArray)[i]? = some (if dsts.contains (some (0 + i)) = true then tmps.getD (0 + i) undef else A0[i]) := by
      rw [List.getElem?_toArray]; exact layAt_get _ _ _ _ _ hl
    rw [h2, Array.getElem?_eq_getElem hi']
    rw [Nat.zero_add]
    cases hc : dsts.contains (some i) with
    | true => rw [if_pos rfl]; simp [hi']
    | false =>
      rw [if_neg (by simp)]
      have := h i hc
      simp [hi', hl] at this
      rw [this]
  · rw [Array.getElem?_eq_none (by omega), Array.getElem?_eq_none (by simp [layAt_length]; omega)]
/-- A name as a law writes it. -/
def nmB (p : Nm) : List UInt8 := [chB (IntKind.u8.wrap (48 + p.y)), 46, chB (IntKind.u8.wrap (48 + IntKind.u8.wrap (p.n.tmod 10))), 32]
def textM (l : List Nm) : List UInt8 := l.flatMap nmB
theorem textM_len (l : List Nm) : (textM l).length = 4 * l.length := by
  induction l with
  | nil => rfl
  | cons p l ih =>
    have : textM (p :: l) = nmB p ++ textM l := rfl
    rw [this, List.length_append, ih, List.length_cons]
    simp [nmB]; omega
def psiTx26 (b : Nat) (q : Nat) (n : Nat) (c : Nat) (kq : Nat) (sv : Value) (py : Int) (pn : Int) : Nat → Value → World → Prop
  | 0, v9, _ => v9 = sv
  | 1, v9, _ => v9 = .slice (some ⟨b, q, none⟩) n c
  | 2, v9, _ => v9 = .int .i64 (kq : Int)
  | 3, v9, _ => v9 = .pointer (some ⟨b, q + kq * 2, none⟩)
  | 4, v9, _ => v9 = .pointer (some ⟨b, q + kq * 2, none⟩)
  | 5, v9, _ => v9 = .int .u8 py
  | 6, v9, _ => v9 = .int .u8 (IntKind.u8.wrap (48 + py))
  | 7, v9, _ => v9 = .slice (some ⟨b, q, none⟩) n c
  | 8, v9, _ => v9 = .int .i64 (kq : Int)
  | 9, v9, _ => v9 = .pointer (some ⟨b, q + kq * 2, none⟩)
  | 10, v9, _ => v9 = .pointer (some ⟨b, q + kq * 2 + 1, none⟩)
  | 11, v9, _ => v9 = .int .i64 pn
  | 12, v9, _ => v9 = .int .i64 (pn.tmod 10)
  | 13, v9, _ => v9 = .int .u8 (IntKind.u8.wrap (pn.tmod 10))
  | 14, v9, _ => v9 = .int .u8 (IntKind.u8.wrap (48 + IntKind.u8.wrap (pn.tmod 10)))
  | 15, v9, w9 => ∃ g, v9 = .slice (some ⟨g, 0, none⟩) 4 4 ∧ g < w9.heap.size ∧ w9.heap[g]? = some (.cells #[.int .u8 (IntKind.u8.wrap (48 + py)), .int .u8 46, .int .u8 (IntKind.u8.wrap (48 + IntKind.u8.wrap (pn.tmod 10))), .int .u8 32] 5 (0, 0))
  | 16, v9, _ => v9 = strB (nmB ⟨py, pn⟩)
  | _, _, _ => True
theorem psiTx26_stab (b : Nat) (q : Nat) (n : Nat) (c : Nat) (kq : Nat) (sv : Value) (py : Int) (pn : Int) (i9 : Nat) (v9 : Value) (w9 w9' : World) (h : psiTx26 b q n c kq sv py pn i9 v9 w9) (_hb : Below w9.heap.size w9 w9') : psiTx26 b q n c kq sv py pn i9 v9 w9' := by
  match i9, h with
  | 0, h => exact h
  | 1, h => exact h
  | 2, h => exact h
  | 3, h => exact h
  | 4, h => exact h
  | 5, h => exact h
  | 6, h => exact h
  | 7, h => exact h
  | 8, h => exact h
  | 9, h => exact h
  | 10, h => exact h
  | 11, h => exact h
  | 12, h => exact h
  | 13, h => exact h
  | 14, h => exact h
  | 15, h => exact (by obtain ⟨g, h1, h2, h3⟩ := h; exact ⟨g, h1, Nat.lt_of_lt_of_le h2 _hb.size, (_hb.block g h2).trans h3⟩)
  | 16, h => exact h
  | i9 + 17, _ => exact trivial
set_option maxRecDepth 100000 in
set_option maxHeartbeats 4000000 in
/-- Names as a text. -/
theorem text_any (c : Sl Nm) (N : Nat) (w : World) (hN : N ≤ w.heap.size) (hc : c.lie Nm.enc N w) (hl100 : c.l.length ≤ 1000) :
    Calls Try.prog 20 #[c.v] w fun e w' => e = .returned (strB (textM c.l)) ∧ Below w.heap.size w w' := by
  have HC := Lib.hid (hc.mono hN)
  obtain ⟨ca, cl, cc⟩ := c
  simp only [Sl.v] at hl100 ⊢
  obtain ⟨n, hn⟩ : ∃ n, cl.length = n := ⟨_, rfl⟩
  rw [hn] at hl100 ⊢
  have HN := Lib.hid hn
  clear hc hn
  go_enter Try.func20, Try.ntmps20
  go_wp2
  go_loopg [3, 4] (n + 1) (fun g s3 s4 wr => ∃ i : Nat, s3 = strB (textM (cl.take i)) ∧ s4 = .int .i64 i ∧ i ≤ n ∧ g = n + 1 - i ∧ Below w.heap.size w wr)
  case atStart => exact ⟨0, rfl, rfl, by omega, by omega, Below.refl _ _⟩
  case round =>
    obtain ⟨i, rfl, rfl, hi, hg, hbr⟩ := hrel
    have HG := Lib.hid hg
    clear hg
    by_cases hlt : i < n
    · have hiz : (i : Int) < (n : Int) := by omega
      obtain ⟨b, o, ha, hb, t0, t1⟩ := Sl.lie.nm (HC.out.below hbr) (i := i) (List.getElem?_eq_getElem (by simp only; rw [HN.out]; exact hlt))
      obtain rfl : ca = some ⟨b, o, none⟩ := ha
      obtain ⟨p, hp⟩ : ∃ p, cl[i]'(by rw [HN.out]; exact hlt) = p := ⟨_, rfl⟩
      simp only [hp] at t0 t1
      have hst : textM (cl.take (i + 1)) = textM (cl.take i) ++ nmB p := by
        rw [List.take_succ_eq_append_getElem (by rw [HN.out]; exact hlt), hp]
        simp [textM]
      have HST := Lib.hid hst
      have hbl : b < wr.heap.size := Nat.lt_of_lt_of_le hb hbr.size
      have HP0 : Hid (∀ {W : World}, RowKit.Below wr.heap.size wr W → W.cell? ⟨b, o + i * 2, none⟩ = some (.int .u8 p.y)) := Lib.hid fun h => (h.cell (p := ⟨b, o + i * 2, none⟩) hbl).trans t0
      have HP1 : Hid (∀ {W : World}, RowKit.Below wr.heap.size wr W → W.cell? ⟨b, o + i * 2 + 1, none⟩ = some (.int .i64 p.n)) := Lib.hid fun h => (h.cell (p := ⟨b, o + i * 2 + 1, none⟩) hbl).trans t1
      have HKN := Lib.hid hlt
      have hll : (textM (cl.take i)).length + (nmB p).length ≤ 100000 := by
        rw [textM_len, List.length_take]; simp [nmB]; omega
      obtain ⟨sv, hsv⟩ : ∃ sv, strB (textM (cl.take i)) = sv := ⟨_, rfl⟩
      rw [hsv]
      have HSV := Lib.hid hsv
      clear hst hp t0 t1 hsv
      go_upto_region 5 with fail
      refine rgT2s 3 17 [some 11, some 12, some 13, some 14, some 15, some 16, some 17, some 18, some 19, some 20, some 21, some 22, some 23, some 24, some 25, some 26, some 27, some 28, some 3] (psiTx26 b o n cc i sv p.y p.n) (fun w' => RowKit.Below wr.heap.size wr w') (by kernel_rfl) (by kernel_rfl) (by kernel_rfl) (by kernel_rfl) (by kernel_rfl) (psiTx26_stab b o n cc i sv p.y p.n) (fun _ _ h hb => h.trans (hb.mono h.size)) (fun i9 o9 hi9 ho9 aq9 w1 hs hout hold hI hdep => ?_) ?_ ((Below.refl _ _).drew)
      · skip
        match i9, hi9, ho9 with
        | 0, _, ho9 =>
          obtain rfl := Option.some.inj ho9
          refine .inl ⟨rfl, fun K hK => ?_⟩
          exact st_move rfl (hold.trans rfl) (hK _ _ (Below.refl _ _) rfl)
        | 1, _, ho9 =>
          obtain rfl := Option.some.inj ho9
          refine .inl ⟨rfl, fun K hK => ?_⟩
          exact st_move rfl ((hout 0 rfl).trans rfl) (hK _ _ (Below.refl _ _) rfl)
        | 2, _, ho9 =>
          obtain rfl := Option.some.inj ho9
          refine .inl ⟨rfl, fun K hK => ?_⟩
          exact st_move rfl ((hout 4 rfl).trans rfl) (hK _ _ (Below.refl _ _) rfl)
        | 3, _, ho9 =>
          obtain rfl := Option.some.inj ho9
          have dq1 : (aq9.tmps.getD 12 undef) = .slice (some ⟨b, o, none⟩) n cc := hdep ⟨1, .data⟩ (by simp) rfl _ rfl
          have dq2 : (aq9.tmps.getD 13 undef) = .int .i64 (i : Int) := hdep ⟨2, .data⟩ (by simp) rfl _ rfl
          refine .inl ⟨rfl, fun K hK => ?_⟩
          exact st_idx61 (k := i) rfl dq1 dq2 HKN.out (hK _ _ (Below.refl _ _) rfl)
        | 4, _, ho9 =>
          obtain rfl := Option.some.inj ho9
          have dq3 : (aq9.tmps.getD 14 undef) = .pointer (some ⟨b, o + i * 2, none⟩) := hdep ⟨3, .data⟩ (by simp) rfl _ rfl
          refine .inl ⟨rfl, fun K hK => ?_⟩
          exact fa28_0 rfl dq3 (hK _ _ (Below.refl _ _) rfl)
        | 5, _, ho9 =>
          obtain rfl := Option.some.inj ho9
          have dq4 : (aq9.tmps.getD 15 undef) = .pointer (some ⟨b, o + i * 2, none⟩) := hdep ⟨4, .data⟩ (by simp) rfl _ rfl
          refine .inl ⟨rfl, fun K hK => ?_⟩
          exact ld5 rfl dq4 (HP0.out hI) (hK _ _ (Below.refl _ _) rfl)
        | 6, _, ho9 =>
          obtain rfl := Option.some.inj ho9
          have dq5 : (aq9.tmps.getD 16 undef) = .int .u8 p.y := hdep ⟨5, .data⟩ (by simp) rfl _ rfl
          refine .inl ⟨rfl, fun K hK => ?_⟩
          exact st_add_5 rfl rfl dq5 rfl (hK _ _ (Below.refl _ _) rfl)
        | 7, _, ho9 =>
          obtain rfl := Option.some.inj ho9
          refine .inl ⟨rfl, fun K hK => ?_⟩
          exact st_move rfl ((hout 0 rfl).trans rfl) (hK _ _ (Below.refl _ _) rfl)
        | 8, _, ho9 =>
          obtain rfl := Option.some.inj ho9
          refine .inl ⟨rfl, fun K hK => ?_⟩
          exact st_move rfl ((hout 4 rfl).trans rfl) (hK _ _ (Below.refl _ _) rfl)
        | 9, _, ho9 =>
          obtain rfl := Option.some.inj ho9
          have dq7 : (aq9.tmps.getD 18 undef) = .slice (some ⟨b, o, none⟩) n cc := hdep ⟨7, .data⟩ (by simp) rfl _ rfl
          have dq8 : (aq9.tmps.getD 19 undef) = .int .i64 (i : Int) := hdep ⟨8, .data⟩ (by simp) rfl _ rfl
          refine .inl ⟨rfl, fun K hK => ?_⟩
          exact st_idx61 (k := i) rfl dq7 dq8 HKN.out (hK _ _ (Below.refl _ _) rfl)
        | 10, _, ho9 =>
          obtain rfl := Option.some.inj ho9
          have dq9 : (aq9.tmps.getD 20 undef) = .pointer (some ⟨b, o + i * 2, none⟩) := hdep ⟨9, .data⟩ (by simp) rfl _ rfl
          refine .inl ⟨rfl, fun K hK => ?_⟩
          exact fa28_1 rfl dq9 (hK _ _ (Below.refl _ _) rfl)
        | 11, _, ho9 =>
          obtain rfl := Option.some.inj ho9
          have dq10 : (aq9.tmps.getD 21 undef) = .pointer (some ⟨b, o + i * 2 + 1, none⟩) := hdep ⟨10, .data⟩ (by simp) rfl _ rfl
          refine .inl ⟨rfl, fun K hK => ?_⟩
          exact ld3 rfl dq10 (HP1.out hI) (hK _ _ (Below.refl _ _) rfl)
        | 12, _, ho9 =>
          obtain rfl := Option.some.inj ho9
          have dq11 : (aq9.tmps.getD 22 undef) = .int .i64 p.n := hdep ⟨11, .data⟩ (by simp) rfl _ rfl
          refine .inl ⟨rfl, fun K hK => ?_⟩
          exact st_rem3 rfl dq11 rfl (hK _ _ (Below.refl _ _) rfl)
        | 13, _, ho9 =>
          obtain rfl := Option.some.inj ho9
          have dq12 : (aq9.tmps.getD 23 undef) = .int .i64 (p.n.tmod 10) := hdep ⟨12, .data⟩ (by simp) rfl _ rfl
          refine .inl ⟨rfl, fun K hK => ?_⟩
          exact st_conv35 rfl dq12 rfl (hK _ _ (Below.refl _ _) rfl)
        | 14, _, ho9 =>
          obtain rfl := Option.some.inj ho9
          have dq13 : (aq9.tmps.getD 24 undef) = .int .u8 (IntKind.u8.wrap (p.n.tmod 10)) := hdep ⟨13, .data⟩ (by simp) rfl _ rfl
          refine .inl ⟨rfl, fun K hK => ?_⟩
          exact st_add_5 rfl rfl dq13 rfl (hK _ _ (Below.refl _ _) rfl)
        | 15, _, ho9 =>
          obtain rfl := Option.some.inj ho9
          have dq6 : (aq9.tmps.getD 17 undef) = .int .u8 (IntKind.u8.wrap (48 + p.y)) := hdep ⟨6, .data⟩ (by simp) rfl _ rfl
          have dq14 : (aq9.tmps.getD 25 undef) = .int .u8 (IntKind.u8.wrap (48 + IntKind.u8.wrap (p.n.tmod 10))) := hdep ⟨14, .data⟩ (by simp) rfl _ rfl
          refine .inl ⟨rfl, fun K hK => ?_⟩
          exact st_bsB4 rfl dq6 dq14 (hK _ _ (below1 _ _) ⟨_, rfl, by simp, heap_alloc_new _ _⟩)
        | 16, _, ho9 =>
          obtain rfl := Option.some.inj ho9
          have dq15 : ∃ g, (aq9.tmps.getD 26 undef) = .slice (some ⟨g, 0, none⟩) 4 4 ∧ g < w1.heap.size ∧ w1.heap[g]? = some (.cells #[.int .u8 (IntKind.u8.wrap (48 + p.y)), .int .u8 46, .int .u8 (IntKind.u8.wrap (48 + IntKind.u8.wrap (p.n.tmod 10))), .int .u8 32] 5 (0, 0)) := hdep ⟨15, .data⟩ (by simp) rfl _ rfl
          refine .inl ⟨rfl, fun K hK => ?_⟩
          obtain ⟨g, h1, h2, h3⟩ := dq15
          exact st_str (xs := [IntKind.u8.wrap (48 + p.y), 46, IntKind.u8.wrap (48 + IntKind.u8.wrap (p.n.tmod 10)), 32]) rfl h1 rfl h3 (hK _ _ (Below.refl _ _) rfl)
        | i9 + 17, hi9, _ => exact absurd hi9 (by omega)
      · intro a2 w2 hs hd hout hold hI hall
        obtain ⟨tmps, defers⟩ := a2
        have e_11 : (tmps.getD 11 undef) = sv := hall 0 _ (by decide) rfl
        have e_27 : (tmps.getD 27 undef) = strB (nmB ⟨p.y, p.n⟩) := hall 16 _ (by decide) rfl
        simp only at hs hd hout
        have ef := frameAt [some 11, some 12, some 13, some 14, some 15, some 16, some 17, some 18, some 19, some 20, some 21, some 22, some 23, some 24, some 25, some 26, some 27, some 28, some 3] _ tmps hs hout
        obtain ⟨sv5, hu⟩ : ∃ u : Nat → Value, u = fun s => tmps.getD s undef := ⟨_, rfl⟩
        have eu_11 : sv5 11 = sv := by rw [hu]; exact e_11
        have eu_27 : sv5 27 = strB (nmB ⟨p.y, p.n⟩) := by rw [hu]; exact e_27
        rw [← hu] at ef
        have ef2 : tmps = #[Value.slice (some { block := b, off := o }) n cc, undef, Value.string { data := #[] }, (sv5 3), Value.int IntKind.i64 i, Value.int IntKind.i64 i, Value.slice (some { block := b, off := o }) n cc, Value.int IntKind.i64 n, Value.bool true, u9, u10, (sv5 11), (sv5 12), (sv5 13), (sv5 14), (sv5 15), (sv5 16), (sv5 17), (sv5 18), (sv5 19), (sv5 20), (sv5 21), (sv5 22), (sv5 23), (sv5 24), (sv5 25), (sv5 26), (sv5 27), (sv5 28), undef] := ef
        subst hd
        rw [eu_11, eu_27] at ef2
        rw [ef2]
        clear ef ef2 hu hs hout hall e_11 eu_11 e_27 eu_27
        simp only [List.drop_succ_cons, List.drop_zero]
        refine wpList_plain rfl fun K7 hK7 => ?_
        refine st_add9 (l1 := textM (cl.take i)) (l2 := nmB p) rfl HSV.out.symm rfl hll (hK7 _ _ ?_)
        have hbr2 : RowKit.Below w.heap.size w w2 := hbr.trans (hI.mono hbr.size)
        clear HP0 HP1 hll HSV hI
        go_wp2_with fail
        go_roundg (n + 1 - (i + 1))
        case measure => have := HG.out; omega
        case rel => exact ⟨i + 1, by rw [HST.out], by go_num, by omega, by omega, hbr2⟩
    · obtain rfl : i = n := by omega
      have hiz : ¬ ((i : Int) < (i : Int)) := by omega
      have h1 : cl.take i = cl := List.take_of_length_le (by rw [HN.out]; exact Nat.le_refl _)
      rw [h1]
      clear h1
      go_wp2_with fail
      go_ret
      exact ⟨rfl, hbr⟩
end Go.Proofs.Ytgaofkbmnapogaa
namespace Go.Proofs.Ytgaofkbmnapogaa
open Go.RowKit Go.Sort
set_option maxRecDepth 100000
set_option maxHeartbeats 4000000
/-- The law's own look whether a table has a loop. -/
theorem there21 (t : Tb) (p : Nm) (N : Nat) (w : World) (hN : N ≤ w.heap.size) (ht : Tb.ok N w t) (hp : p.byte) :
    Calls Try.prog 21 #[t.v, p.v] w fun e w' => e = .returned (.bool (there t.sem p)) ∧ Below w.heap.size w w' := by
  obtain ⟨c, hc⟩ : ∃ c, there t.sem p = c := ⟨_, rfl⟩
  rw [hc]
  have HC := Lib.hid hc
  have HT := Lib.hid (ht.mono hN)
  obtain ⟨ao, ls, cap⟩ := t
  obtain ⟨y, n⟩ := p
  simp only [Sl.v, Nm.v]
  obtain ⟨hy0, hy1⟩ := hp
  simp only at hy0 hy1
  have hlen : ls.length ≤ 100 := HT.out.len
  have HS : Hid ((Tb.sem ⟨ao, ls, cap⟩).length = ls.length) := Lib.hid (Tb.sem_len _)
  clear hc ht
  have hb0 := below1 w (.cells #[.int .u8 y, .int .i64 n] 36)
  obtain ⟨w0, hw0⟩ : ∃ w0, w.alloc (.cells #[.int .u8 y, .int .i64 n] 36) = w0 := ⟨_, rfl⟩
  have n0 : w0.cell? ⟨w.heap.size, 0, none⟩ = some (.int .u8 y) := by rw [← hw0]; simp
  have n1 : w0.cell? ⟨w.heap.size, 1, none⟩ = some (.int .i64 n) := by rw [← hw0]; simp
  rw [hw0] at hb0
  by_cases h1 : y < 1
  · have hcf : c = false := by rw [← HC.out]; unfold there; exact decide_eq_false (by simp only; omega)
    subst hcf
    have hd : decide (1 ≤ y) = false := decide_eq_false (by omega)
    go_enter Try.func21, Try.ntmps21
    go_upto_region 1 with fail
    go_quiet (fail)
    go_wp2_with fail
    go_ret
    exact ⟨rfl, below_drewN hb0 _⟩
  · have hd : decide (1 ≤ y) = true := decide_eq_true (by omega)
    by_cases h2 : (ls.length : Int) < y
    · have hcf : c = false := by rw [← HC.out]; unfold there; rw [HS.out]; exact decide_eq_false (by simp only; omega)
      subst hcf
      have hd2 : decide (y ≤ (ls.length : Int)) = false := decide_eq_false (by omega)
      go_enter Try.func21, Try.ntmps21
      go_upto_region 1 with fail
      go_quiet (fail)
      go_wp2_with fail
      go_ret
      exact ⟨rfl, below_drewN hb0 _⟩
    · have hd2 : decide (y ≤ (ls.length : Int)) = true := decide_eq_true (by omega)
      obtain ⟨k, hk⟩ : ∃ k : Nat, y = (k : Int) + 1 := ⟨(y - 1).toNat, by omega⟩
      have hkl : k < ls.length := by omega
      obtain ⟨r, hr⟩ : ∃ r, ls[k]? = some r := ⟨ls[k], List.getElem?_eq_getElem hkl⟩
      obtain ⟨b, o, hao, hbl, hcell, hro⟩ := HT.out.row hr
      obtain rfl : ao = some ⟨b, o, none⟩ := hao
      obtain ⟨ra, rl, rc⟩ := r
      have hrl : rl.length ≤ 100 := hro.len
      simp only [Sl.v] at hcell
      have hse : (Tb.sem ⟨some ⟨b, o, none⟩, ls, cap⟩).getD (y - 1).toNat [] = rl.map Lp.q := by
        rw [show (y - 1).toNat = k by omega]
        exact Tb.sem_at (t := ⟨some ⟨b, o, none⟩, ls, cap⟩) hr
      have hcc : there (Tb.sem ⟨some ⟨b, o, none⟩, ls, cap⟩) ⟨y, n⟩ = decide (0 ≤ n ∧ n < rl.length) := by
        unfold there
        rw [HS.out, hse, List.length_map]
        simp only
        rw [Bool.eq_iff_iff, decide_eq_true_eq, decide_eq_true_eq]
        omega
      rw [hcc] at HC
      have hyk : y - 1 = (k : Int) := by omega
      have hkz : (k : Int) < (ls.length : Int) := by omega
      have hc0 := (hb0.cell (p := ⟨b, o + k, none⟩) hbl).trans hcell
      clear hcc hse hr hro hk hcell
      by_cases h3 : 0 ≤ n
      · have hd3 : decide (0 ≤ n) = true := decide_eq_true h3
        have hcf : c = decide (n < (rl.length : Int)) := by
          rw [← HC.out, Bool.eq_iff_iff, decide_eq_true_eq, decide_eq_true_eq]; omega
        subst hcf
        go_enter Try.func21, Try.ntmps21
        go_upto_region 1 with fail
        go_quiet (fail)
        go_wp2_with fail
        go_ret
        exact ⟨rfl, below_drewN hb0 _⟩
      · have hd3 : decide (0 ≤ n) = false := decide_eq_false h3
        have hcf : c = false := by rw [← HC.out]; exact decide_eq_false (by omega)
        subst hcf
        go_enter Try.func21, Try.ntmps21
        go_upto_region 1 with fail
        go_quiet (fail)
        go_wp2_with fail
        go_ret
        exact ⟨rfl, below_drewN hb0 _⟩
end Go.Proofs.Ytgaofkbmnapogaa
namespace Go.Proofs.Ytgaofkbmnapogaa
open Go.RowKit Go.Sort
set_option maxRecDepth 100000
set_option maxHeartbeats 4000000
theorem isNaN57 (x : Int) (w : World) : Calls Try.prog 57 #[.int .u8 x] w fun e w' => e = .returned (.bool false) ∧ w' = w := by
  go_enter Try.func57, Try.ntmps57
  go_wp2_with fail
  go_ret
  exact ⟨by simp, rfl⟩
theorem isNaN58 (x : Int) (w : World) : Calls Try.prog 58 #[.int .i64 x] w fun e w' => e = .returned (.bool false) ∧ w' = w := by
  go_enter Try.func58, Try.ntmps58
  go_wp2_with fail
  go_ret
  exact ⟨by simp, rfl⟩
def cmpI (a b : Int) : Int := if a < b then -1 else if b < a then 1 else 0
theorem cmp42 (a b : Int) (w : World) : Calls Try.prog 42 #[.int .u8 a, .int .u8 b] w fun e w' => e = .returned (.int .i64 (cmpI a b)) ∧ w' = w := by
  have K := fun x => isNaN57 x w
  unfold cmpI
  by_cases h1 : a < b
  · rw [if_pos h1]
    go_enter Try.func42, Try.ntmps42
    go_wp2_with (go_at_call 57; refine (K _).mono ?_; rintro e w' ⟨rfl, rfl⟩)
    go_ret
    exact ⟨rfl, rfl⟩
  · rw [if_neg h1]
    by_cases h2 : b < a
    · rw [if_pos h2]
      go_enter Try.func42, Try.ntmps42
      go_wp2_with (go_at_call 57; refine (K _).mono ?_; rintro e w' ⟨rfl, rfl⟩)
      go_ret
      exact ⟨rfl, rfl⟩
    · rw [if_neg h2]
      go_enter Try.func42, Try.ntmps42
      go_wp2_with (go_at_call 57; refine (K _).mono ?_; rintro e w' ⟨rfl, rfl⟩)
      go_ret
      exact ⟨rfl, rfl⟩
theorem cmp43 (a b : Int) (w : World) : Calls Try.prog 43 #[.int .i64 a, .int .i64 b] w fun e w' => e = .returned (.int .i64 (cmpI a b)) ∧ w' = w := by
  have K := fun x => isNaN58 x w
  unfold cmpI
  by_cases h1 : a < b
  · rw [if_pos h1]
    go_enter Try.func43, Try.ntmps43
    go_wp2_with (go_at_call 58; refine (K _).mono ?_; rintro e w' ⟨rfl, rfl⟩)
    go_ret
    exact ⟨rfl, rfl⟩
  · rw [if_neg h1]
    by_cases h2 : b < a
    · rw [if_pos h2]
      go_enter Try.func43, Try.ntmps43
      go_wp2_with (go_at_call 58; refine (K _).mono ?_; rintro e w' ⟨rfl, rfl⟩)
      go_ret
      exact ⟨rfl, rfl⟩
    · rw [if_neg h2]
      go_enter Try.func43, Try.ntmps43
      go_wp2_with (go_at_call 58; refine (K _).mono ?_; rintro e w' ⟨rfl, rfl⟩)
      go_ret
      exact ⟨rfl, rfl⟩
def orI (a b : Int) : Int := if a = 0 then b else a
theorem or41 (a b : Int) (B cap : Nat) (w : World) (c0 : w.cell? ⟨B, 0, none⟩ = some (.int .i64 a)) (c1 : w.cell? ⟨B, 1, none⟩ = some (.int .i64 b)) :
    Calls Try.prog 41 #[.slice (some ⟨B, 0, none⟩) 2 cap] w fun e w' => e = .returned (.int .i64 (orI a b)) ∧ w' = w := by
  unfold orI
  by_cases ha : a = 0
  · rw [if_pos ha]
    subst ha
    by_cases hb : b = 0
    · subst hb
      go_enter Try.func41, Try.ntmps41
      go_wp2_with fail
      refine wp_loop_rounds 3 ?_
      rw [rounds_succ]
      go_wp2_with fail
      rw [rounds_succ]
      go_wp2_with fail
      rw [rounds_succ]
      go_wp2_with fail
      go_ret
      exact ⟨rfl, rfl⟩
    · have hbz : (b != 0) = true := by simp [hb]
      go_enter Try.func41, Try.ntmps41
      go_wp2_with fail
      refine wp_loop_rounds 3 ?_
      rw [rounds_succ]
      go_wp2_with fail
      rw [rounds_succ]
      go_wp2_with fail
      go_ret
      exact ⟨rfl, rfl⟩
  · rw [if_neg ha]
    have haz : (a != 0) = true := by simp [ha]
    go_enter Try.func41, Try.ntmps41
    go_wp2_with fail
    refine wp_loop_rounds 3 ?_
    rw [rounds_succ]
    go_wp2_with fail
    go_ret
    exact ⟨rfl, rfl⟩
end Go.Proofs.Ytgaofkbmnapogaa
namespace Go.Proofs.Ytgaofkbmnapogaa
open Go.Sort
variable {α : Type} [Inhabited α] (key : α → Int)

/-- Ascending by a key. -/
def Srt (l : List α) : Prop := l.Pairwise fun x y => key x ≤ key y
/-- Those with a key. -/
def Fl (k : Int) (l : List α) : List α := l.filter fun x => key x == k
/-- The same elements, those with one key in their order. -/
def Sam (l l' : List α) : Prop := ∀ k, Fl key k l' = Fl key k l
variable {key}
omit [Inhabited α] in
theorem Fl_append (k : Int) (l l' : List α) : Fl key k (l ++ l') = Fl key k l ++ Fl key k l' := List.filter_append ..
omit [Inhabited α] in
theorem Sam.refl (l : List α) : Sam key l l := fun _ => rfl
omit [Inhabited α] in
theorem Sam.trans {a b c : List α} (h : Sam key a b) (h' : Sam key b c) : Sam key a c := fun k => (h' k).trans (h k)
omit [Inhabited α] in
theorem Sam.symm {a b : List α} (h : Sam key a b) : Sam key b a := fun k => (h k).symm
omit [Inhabited α] in
theorem Sam.append {a b c d : List α} (h : Sam key a b) (h' : Sam key c d) : Sam key (a ++ c) (b ++ d) := fun k => by
  rw [Fl_append, Fl_append, h k, h' k]
omit [Inhabited α] in
theorem Sam.mem {a b : List α} (h : Sam key a b) (x : α) : x ∈ b ↔ x ∈ a := by
  have : ∀ l : List α, x ∈ l ↔ x ∈ Fl key (key x) l := fun l => by simp [Fl]
  rw [this b, this a, h]
omit [Inhabited α] in
/-- What is less than all of another list changes places with it. -/
theorem Sam.swap {a b : List α} (h : ∀ x ∈ a, ∀ y ∈ b, key y < key x) : Sam key (a ++ b) (b ++ a) := fun k => by
  rw [Fl_append, Fl_append]
  by_cases h1 : Fl key k a = []
  · rw [h1]; simp
  · have h2 : Fl key k b = [] := by
      obtain ⟨x, hx⟩ := List.exists_mem_of_ne_nil _ h1
      simp only [Fl, List.mem_filter, beq_iff_eq] at hx
      simp only [Fl, List.filter_eq_nil_iff, beq_iff_eq]
      intro y hy e
      have := h x hx.1 y hy
      omega
    rw [h2]; simp
omit [Inhabited α] in
theorem Srt.append {a b : List α} : Srt key (a ++ b) ↔ Srt key a ∧ Srt key b ∧ ∀ x ∈ a, ∀ y ∈ b, key x ≤ key y := List.pairwise_append

/-- A merge: ascending, the same elements. -/
structure Mrg (key : α → Int) (l l' : List α) : Prop where
  srt : Srt key l'
  sam : Sam key l l'
omit [Inhabited α] in
theorem Mrg.general {X1 X2 Y1 Y2 Z1 Z2 : List α} (hX : Srt key (X1 ++ X2)) (hY : Srt key (Y1 ++ Y2)) (h1 : ∀ x ∈ X1, ∀ y ∈ Y2, key x ≤ key y) (h2 : ∀ x ∈ X2, ∀ y ∈ Y1, key y < key x)
    (m1 : Mrg key (X1 ++ Y1) Z1) (m2 : Mrg key (X2 ++ Y2) Z2) : Mrg key ((X1 ++ X2) ++ (Y1 ++ Y2)) (Z1 ++ Z2) := by
  obtain ⟨_, _, hx⟩ := Srt.append.1 hX
  obtain ⟨_, _, hy⟩ := Srt.append.1 hY
  refine ⟨Srt.append.2 ⟨m1.srt, m2.srt, fun x hx' y hy' => ?_⟩, ?_⟩
  · rcases List.mem_append.1 ((m1.sam.mem x).1 hx') with a | a <;> rcases List.mem_append.1 ((m2.sam.mem y).1 hy') with b | b
    · exact hx x a y b
    · exact h1 x a y b
    · exact Int.le_of_lt (h2 y b x a)
    · exact hy x a y b
  · refine Sam.trans (b := (X1 ++ Y1) ++ (X2 ++ Y2)) ?_ (m1.sam.append m2.sam)
    have : Sam key (X1 ++ ((X2 ++ Y1) ++ Y2)) (X1 ++ ((Y1 ++ X2) ++ Y2)) := (Sam.refl _).append ((Sam.swap h2).append (Sam.refl _))
    simpa [List.append_assoc] using this
omit [Inhabited α] in
/-- One element into a list: behind those that are less. -/
theorem Mrg.front {x : α} {Y1 Y2 : List α} (hY : Srt key (Y1 ++ Y2)) (h1 : ∀ y ∈ Y1, key y < key x) (h2 : ∀ y ∈ Y2, key x ≤ key y) : Mrg key (x :: (Y1 ++ Y2)) (Y1 ++ x :: Y2) := by
  obtain ⟨a, b, c⟩ := Srt.append.1 hY
  refine ⟨Srt.append.2 ⟨a, List.pairwise_cons.2 ⟨h2, b⟩, fun y hy z hz => ?_⟩, ?_⟩
  · rcases List.mem_cons.1 hz with rfl | hz
    · exact Int.le_of_lt (h1 y hy)
    · exact c y hy z hz
  · have : Sam key (([x] ++ Y1) ++ Y2) ((Y1 ++ [x]) ++ Y2) := (Sam.swap fun z hz y hy => by rw [List.mem_singleton.1 hz]; exact h1 y hy).append (Sam.refl _)
    simpa using this
omit [Inhabited α] in
theorem Mrg.back {y : α} {X1 X2 : List α} (hX : Srt key (X1 ++ X2)) (h1 : ∀ x ∈ X1, key x ≤ key y) (h2 : ∀ x ∈ X2, key y < key x) : Mrg key ((X1 ++ X2) ++ [y]) (X1 ++ y :: X2) := by
  obtain ⟨a, b, c⟩ := Srt.append.1 hX
  refine ⟨Srt.append.2 ⟨a, List.pairwise_cons.2 ⟨fun x hx => Int.le_of_lt (h2 x hx), b⟩, fun x hx z hz => ?_⟩, ?_⟩
  · rcases List.mem_cons.1 hz with rfl | hz
    · exact h1 x hx
    · exact c x hx z hz
  · have : Sam key (X1 ++ (X2 ++ [y])) (X1 ++ ([y] ++ X2)) := (Sam.refl _).append (Sam.swap fun x hx z hz => by rw [List.mem_singleton.1 hz]; exact h2 x hx)
    simpa using this

omit [Inhabited α] in
theorem snoc_of {l : List α} (h : l ≠ []) : ∃ U u, l = U ++ [u] := by
  rcases List.eq_nil_or_concat l with e | ⟨U, u, e⟩
  · exact absurd e h
  · exact ⟨U, u, by simpa using e⟩
/-! Arrays as lists. -/
theorem get_at {d : Array α} {P R : List α} {u : α} (h : d.toList = P ++ u :: R) {i : Nat} (hi : i = P.length) : d[i]! = u := by
  subst hi
  rw [← Array.getElem!_toList, h]
  simp
theorem swp_list {d : Array α} {P Q R : List α} {u v : α} (h : d.toList = P ++ u :: (Q ++ v :: R)) {i j : Nat} (hi : i = P.length) (hj : j = P.length + 1 + Q.length) : (swp d i j).toList = P ++ v :: (Q ++ u :: R) := by
  have e1 : d[i]! = u := get_at h hi
  have e2 : d[j]! = v := get_at (P := P ++ u :: Q) (R := R) (by rw [h]; simp) (by simp; omega)
  unfold swp
  rw [e1, e2, Array.toList_setIfInBounds, Array.toList_setIfInBounds, h, hi, hj]
  rw [List.set_append_right _ _ (Nat.le_refl _), Nat.sub_self, List.set_cons_zero]
  rw [List.set_append_right _ _ (by omega), show P.length + 1 + Q.length - P.length = Q.length + 1 by omega, List.set_cons_succ, List.set_append_right _ _ (Nat.le_refl _), Nat.sub_self, List.set_cons_zero]
/-- n exchanges. -/
def swr (d : Array α) (a b : Nat) : Nat → Array α
  | 0 => d
  | n + 1 => swp (swr d a b n) (a + n) (b + n)
theorem swr_size (d : Array α) (a b n : Nat) : (swr d a b n).size = d.size := by
  induction n with
  | zero => rfl
  | succ n ih => rw [swr, swp_size, ih]
theorem swr_list : ∀ (n : Nat) {d : Array α} {A U B V C : List α} {a b : Nat}, d.toList = A ++ (U ++ (B ++ (V ++ C))) → a = A.length → b = A.length + n + B.length → U.length = n → V.length = n → (swr d a b n).toList = A ++ (V ++ (B ++ (U ++ C))) := by
  intro n
  induction n with
  | zero =>
    intro d A U B V C a b h _ _ hU hV
    obtain rfl := List.eq_nil_of_length_eq_zero hU
    obtain rfl := List.eq_nil_of_length_eq_zero hV
    exact h
  | succ n ih =>
    intro d A U B V C a b h ha hb hU hV
    obtain ⟨U', u, rfl⟩ : ∃ U' u, U = U' ++ [u] := snoc_of (by intro e; simp [e] at hU)
    obtain ⟨V', v, rfl⟩ : ∃ U' u, V = U' ++ [u] := snoc_of (by intro e; simp [e] at hV)
    simp only [List.length_append, List.length_cons, List.length_nil] at hU hV
    have h1 := ih (d := d) (A := A) (U := U') (B := u :: B) (V := V') (C := v :: C) (a := a) (b := b) (by rw [h]; simp) ha (by simp; omega) (by omega) (by omega)
    rw [swr]
    have h2 := swp_list (d := swr d a b n) (P := A ++ V') (Q := B ++ U') (R := C) (u := u) (v := v) (by rw [h1]; simp) (i := a + n) (j := b + n) (by simp; omega) (by simp; omega)
    rw [h2]; simp
omit [Inhabited α] in
/-- A list cut in two. -/
theorem cut_list (l : List α) (n : Nat) (h : n ≤ l.length) : ∃ a b, l = a ++ b ∧ a.length = n ∧ b.length = l.length - n := ⟨l.take n, l.drop n, (List.take_append_drop n l).symm, by simp; omega, by simp⟩
omit [Inhabited α] in
theorem Srt.le_mid {P R : List α} {u : α} (h : Srt key (P ++ u :: R)) : (∀ x ∈ P, key x ≤ key u) ∧ ∀ y ∈ R, key u ≤ key y := by
  obtain ⟨_, b, c⟩ := Srt.append.1 h
  exact ⟨fun x hx => c x hx u (by simp), (List.pairwise_cons.1 b).1⟩
end Go.Proofs.Ytgaofkbmnapogaa
namespace Go.Proofs.Ytgaofkbmnapogaa
open Go.Shelf Go.RowKit Go.Lib Go.Sort Go.Proofs
theorem aE36 : ∀ w, (isAgg 36).run Try.prog w = .ok true w := fun _ => by kernel_rfl
theorem zE36 : ∀ w, (Go.sizeOf 36).run Try.prog w = .ok 2 w := fun _ => by kernel_rfl
theorem mix36 : Try.prog.follows Departure.mixedOrders = true := by kernel_rfl
variable {α : Type} [Inhabited α]
theorem swp_comm2 (d : Array α) (i : Nat) : swp d (i + 1) i = swp d i (i + 1) := by
  unfold swp
  apply Array.ext_getElem?
  intro m
  simp only [Array.getElem?_setIfInBounds, Array.size_setIfInBounds]
  by_cases h1 : i = m <;> by_cases h2 : i + 1 = m <;> simp [h1, h2] <;> omega
end Go.Proofs.Ytgaofkbmnapogaa
namespace Go.Proofs.Ytgaofkbmnapogaa
open Go.Shelf Go.RowKit Go.Lib Go.Sort Go.Proofs
variable {α : Type} [Inhabited α]
set_option maxHeartbeats 4000000 in
set_option maxRecDepth 1000000 in
/-- insertionSortCmpFunc sorts a part, stably. -/
theorem insertion_any (k : Nat) (zE : ∀ w, (Go.sizeOf 36).run Try.prog w = .ok k w) (enc : α → List Value) (key : α → Int) (cf : α → α → Int) (hcf : ∀ x y, cf x y < 0 ↔ key x < key y) (g : Nat) (cb : Array Value) (eg : ∀ args w, (callFunc g args).run Try.prog w = .ok (.enter g args) w) (blk off cap n : Nat) (d0 d : Array α) (w0 w : World) (hcmp : CmpLays Try.prog g cb enc k cf blk off n w0) (A X C : List α)
    (R : RowK enc k w0 blk off d0) (hs : d0.size = n) (hn : d.size = n) (S : SWK enc k w0 blk off d w) (hd : d.toList = A ++ (X ++ C)) (hsz : n < 4611686018427387904) :
    Calls Try.prog 47 #[.slice (some ⟨blk, off, none⟩) n cap, .int .i64 A.length, .int .i64 (A.length + X.length : Nat), .func (.func g) #[] cb] w fun e w' => e = .returned (.tuple #[]) ∧
      ∃ d' Z, d'.toList = A ++ (Z ++ C) ∧ Mrg key X Z ∧ d'.size = n ∧ SWK enc k w0 blk off d' w' := by
  have aE := aE36
  have mixed := mix36
  obtain ⟨la, hla⟩ : ∃ n, A.length = n := ⟨_, rfl⟩
  obtain ⟨lx, hlx⟩ : ∃ n, X.length = n := ⟨_, rfl⟩
  have hn2 : la + lx ≤ n := by
    have := congrArg List.length hd
    simp only [List.length_append, Array.length_toList] at this
    omega
  rw [hla, hlx]
  have HC := Lib.hid hcmp
  have HCF := Lib.hid hcf
  have HD := Lib.hid hd
  have HA := Lib.hid hla
  have HLX := Lib.hid hlx
  have S0 : Aside (SWK enc k w0 blk off d w) := S
  clear S hcmp hcf hd hla hlx
  go_enter Try.func47, Try.ntmps47
  by_cases hx0 : lx = 0
  · subst hx0
    go_wp2
    refine wp_loop_rounds 1 ?_
    rw [rounds_succ]
    go_wp2
    go_end0
    obtain rfl : X = [] := List.eq_nil_of_length_eq_zero HLX.out
    exact ⟨rfl, d, [], HD.out, ⟨List.Pairwise.nil, Sam.refl _⟩, hn, S0.out⟩
  go_wp2
  go_loopg [8] (lx + 1) (fun g1 s8 wr => ∃ (i : Nat) (X1 X2 Z1 : List α) (dk : Array α), s8 = .int .i64 i ∧ la + 1 ≤ i ∧ i ≤ la + lx ∧ la + lx - i ≤ g1 ∧ Hid (dk.toList = A ++ (Z1 ++ (X2 ++ C)) ∧ X = X1 ++ X2 ∧ X1.length = i - la ∧ Z1.length = i - la ∧ Mrg key X1 Z1) ∧ dk.size = n ∧ Aside (SWK enc k w0 blk off dk wr))
  case atStart =>
    obtain ⟨x0, X2, hX⟩ : ∃ x0 X2, X = x0 :: X2 := by
      cases X with
      | nil => exact absurd HLX.out.symm hx0
      | cons a b => exact ⟨a, b, rfl⟩
    exact ⟨la + 1, [x0], X2, [x0], d, by go_num, by omega, by omega, by omega, Lib.hid ⟨by rw [HD.out, hX]; simp, by rw [hX]; simp, by simp, by simp, ⟨List.pairwise_singleton _ _, Sam.refl _⟩⟩, hn, S0⟩
  case round =>
    clear S0
    obtain ⟨i, X1, X2, Z1, dk, rfl, hi, hib, hg, HI, hdk, S1⟩ := hrel
    by_cases hlt : i < la + lx
    · have hltz : (i : Int) < (la : Int) + (lx : Int) := by omega
      obtain ⟨y, X3, rfl⟩ : ∃ y X3, X2 = y :: X3 := by
        cases X2 with
        | nil => have e1 := congrArg List.length HI.out.2.1; have e2 := HI.out.2.2.1; have e3 := HLX.out; simp only [List.append_nil] at e1; omega
        | cons a b => exact ⟨a, b, rfl⟩
      go_wp2_with fail
      go_loopg [9] (i + 1) (fun g2 s9 wr => ∃ (j : Nat) (W1 W2 : List α) (dj : Array α), s9 = .int .i64 j ∧ la ≤ j ∧ j ≤ i ∧ j - la ≤ g2 ∧ Hid (dj.toList = A ++ (W1 ++ (y :: (W2 ++ (X3 ++ C)))) ∧ Z1 = W1 ++ W2 ∧ W1.length = j - la ∧ ∀ x ∈ W2, key y < key x) ∧ dj.size = n ∧ Aside (SWK enc k w0 blk off dj wr))
      case atStart => exact ⟨i, Z1, [], dk, rfl, by omega, Nat.le_refl _, by omega, Lib.hid ⟨by rw [HI.out.1]; simp, by simp, HI.out.2.2.2.1, fun x hx => by cases hx⟩, hdk, S1⟩
      case round =>
        clear S1
        obtain ⟨j, W1, W2, dj, rfl, hj, hji, hgj, HW, hdj, S1⟩ := hrel
        have OUT : Hid ((∀ x ∈ W1, key x ≤ key y) → ∃ Z, dj.toList = A ++ (Z ++ (X3 ++ C)) ∧ X = (X1 ++ [y]) ++ X3 ∧ (X1 ++ [y]).length = i + 1 - la ∧ Z.length = i + 1 - la ∧ Mrg key (X1 ++ [y]) Z) := Lib.hid (fun h => by
          have m := HI.out.2.2.2.2
          have sz := HI.out.2.2.2.1
          refine ⟨W1 ++ y :: W2, by rw [HW.out.1]; simp, by rw [HI.out.2.1]; simp, by have := HI.out.2.2.1; simp; omega, by rw [HW.out.2.1] at sz; simp only [List.length_append, List.length_cons] at sz ⊢; omega, ?_⟩
          rw [HW.out.2.1] at m
          have b := Mrg.back (y := y) m.srt h HW.out.2.2.2
          exact ⟨b.srt, (Sam.append m.sam (Sam.refl [y])).trans b.sam⟩)
        by_cases hja : la < j
        · obtain ⟨r, rfl⟩ : ∃ r, j = r + 1 := ⟨j - 1, by omega⟩
          have hjz : (la : Int) < (r : Int) + 1 := by omega
          obtain ⟨W3, u, rfl⟩ := snoc_of (l := W1) (fun e => by have := HW.out.2.2.1; rw [e] at this; simp at this; omega)
          have hL3 : W3.length = r - la := by have := HW.out.2.2.1; simp at this; omega
          have gy : dj[r + 1]! = y := get_at (P := A ++ (W3 ++ [u])) (R := W2 ++ (X3 ++ C)) (by rw [HW.out.1]; simp) (by have := HA.out; simp; omega)
          have gu : dj[r]! = u := get_at (P := A ++ W3) (R := y :: (W2 ++ (X3 ++ C))) (by rw [HW.out.1]; simp) (by have := HA.out; simp; omega)
          have HGY := Lib.hid gy
          have HGU := Lib.hid gu
          clear gy gu
          by_cases hv : key dj[r + 1]! < key dj[r]!
          · have ea1a : ((r : Int) + 1).toNat = r + 1 := by omega
            have pa1a : (0 : Int) ≤ (r : Int) + 1 := by omega
            have ba1a : (r : Int) + 1 < (n : Int) := by omega
            have ra1a : IntKind.i64.wrap ((r : Int) + 1) = (r : Int) + 1 := by rw [IntKind.wrap_i64]; omega
            have ea1b : ((r : Int)).toNat = r := by omega
            have pa1b : (0 : Int) ≤ (r : Int) := by omega
            have ba1b : (r : Int) < (n : Int) := by omega
            have ra1b : IntKind.i64.wrap ((r : Int)) = (r : Int) := by rw [IntKind.wrap_i64]; omega
            obtain ⟨x1, hx1⟩ : ∃ x, x = dj[r + 1]! := ⟨_, rfl⟩
            obtain ⟨y1, hy1⟩ : ∃ x, x = dj[r]! := ⟨_, rfl⟩
            have l1a := S1.out.ld R (by omega) Try.prog (r + 1) (by omega)
            have l1b := S1.out.ld R (by omega) Try.prog (r) (by omega)
            rw [← hx1] at l1a
            rw [← hy1] at l1b
            have hc1 := S1.out.cmp HC.out (by omega) x1 y1
            have hv1 : (cf x1 y1 < 0) := by rw [hx1, hy1, HCF.out]; exact hv
            have hd1 : decide (cf x1 y1 < 0) = true := decide_eq_true hv1
            clear hx1 hy1
            have HV := Lib.hid hv
            clear hv
            go_wp2_with fail
            go_quiet_grown (first | (go_at_fn g; refine Calls.grown_of (hc1 _ _)))
            have S2 : Aside (SWK enc k w0 blk off dj (grow (wr.drewN nq) osq)) := S1.out.grown nq osq
            clear l1a l1b hc1 S1
            generalize grow (wr.drewN nq) osq = w1 at S2 ⊢
            clear nq osq
  
            go_wp2_with fail
            have ea2a : ((r : Int) + 1).toNat = r + 1 := by omega
            have pa2a : (0 : Int) ≤ (r : Int) + 1 := by omega
            have ba2a : (r : Int) + 1 < (n : Int) := by omega
            have ra2a : IntKind.i64.wrap ((r : Int) + 1) = (r : Int) + 1 := by rw [IntKind.wrap_i64]; omega
            have ea2b : ((r : Int)).toNat = r := by omega
            have pa2b : (0 : Int) ≤ (r : Int) := by omega
            have ba2b : (r : Int) < (n : Int) := by omega
            have ra2b : IntKind.i64.wrap ((r : Int)) = (r : Int) := by rw [IntKind.wrap_i64]; omega
            have S3 : Aside (SWK enc k w0 blk off (swp dj (r + 1) (r)) ((w1.drew.setCells blk (off + (r + 1) * k) (enc dj[r]!)).setCells blk (off + (r) * k) (enc dj[r + 1]!))) := S2.out.swapped R (r + 1) (r) (by omega) (by omega)
            have l2a := S2.out.ld1 R (by omega) Try.prog (r + 1) (by omega)
            have l2b := S2.out.ld1 R (by omega) Try.prog (r) (by omega)
            have s2a := S2.out.st1 R (by omega) Try.prog (r + 1) (by omega) dj[r]!
            have s2b := S2.out.st2 R (by omega) Try.prog (r + 1) (r) (by omega) (by omega) dj[r]! dj[r + 1]!
            have n2a : (enc dj[r + 1]!).length = k := R.hk _
            have n2b : (enc dj[r]!).length = k := R.hk _
            generalize enc dj[r + 1]! = cI2 at S3 l2a s2b n2a
            generalize enc dj[r]! = cJ2 at S3 l2b s2a s2b n2b
            clear S2
            go_wp2_with fail
            go_big_region_o
            clear l2a l2b s2a s2b
            generalize (w1.drew.setCells blk (off + (r + 1) * k) cJ2).setCells blk (off + (r) * k) cI2 = w3 at S3 ⊢
            go_wp2_with fail
            go_roundg (r - la)
            case measure => omega
            case rel =>
              refine ⟨r, W3, u :: W2, swp dj (r + 1) r, by go_num, by omega, by omega, by omega, Lib.hid ⟨?_, by rw [HW.out.2.1]; simp, by omega, fun x hx => ?_⟩, by rw [swp_size]; exact hdj, S3⟩
              · rw [swp_comm2]
                have := swp_list (d := dj) (P := A ++ W3) (Q := []) (R := W2 ++ (X3 ++ C)) (u := u) (v := y) (by rw [HW.out.1]; simp) (i := r) (j := r + 1) (by have := HA.out; simp; omega) (by have := HA.out; simp; omega)
                rw [this]; simp
              · rcases List.mem_cons.1 hx with rfl | hx
                · have := HV.out; rw [HGY.out, HGU.out] at this; exact this
                · exact HW.out.2.2.2 x hx
          · have ea1a : ((r : Int) + 1).toNat = r + 1 := by omega
            have pa1a : (0 : Int) ≤ (r : Int) + 1 := by omega
            have ba1a : (r : Int) + 1 < (n : Int) := by omega
            have ra1a : IntKind.i64.wrap ((r : Int) + 1) = (r : Int) + 1 := by rw [IntKind.wrap_i64]; omega
            have ea1b : ((r : Int)).toNat = r := by omega
            have pa1b : (0 : Int) ≤ (r : Int) := by omega
            have ba1b : (r : Int) < (n : Int) := by omega
            have ra1b : IntKind.i64.wrap ((r : Int)) = (r : Int) := by rw [IntKind.wrap_i64]; omega
            obtain ⟨x1, hx1⟩ : ∃ x, x = dj[r + 1]! := ⟨_, rfl⟩
            obtain ⟨y1, hy1⟩ : ∃ x, x = dj[r]! := ⟨_, rfl⟩
            have l1a := S1.out.ld R (by omega) Try.prog (r + 1) (by omega)
            have l1b := S1.out.ld R (by omega) Try.prog (r) (by omega)
            rw [← hx1] at l1a
            rw [← hy1] at l1b
            have hc1 := S1.out.cmp HC.out (by omega) x1 y1
            have hv1 : ¬ (cf x1 y1 < 0) := by rw [hx1, hy1, HCF.out]; exact hv
            have hd1 : decide (cf x1 y1 < 0) = false := decide_eq_false hv1
            clear hx1 hy1
            have HV := Lib.hid hv
            clear hv
            go_wp2_with fail
            go_quiet_grown (first | (go_at_fn g; refine Calls.grown_of (hc1 _ _)))
            have S2 : Aside (SWK enc k w0 blk off dj (grow (wr.drewN nq) osq)) := S1.out.grown nq osq
            clear l1a l1b hc1 S1
            generalize grow (wr.drewN nq) osq = w1 at S2 ⊢
            clear nq osq
  
            go_wp2_with fail
            go_roundg (la + lx - (i + 1))
            case measure => omega
            case rel =>
              obtain ⟨Z, z1, z2, z3, z4, z5⟩ := OUT.out (fun x hx => by
                have e := HV.out
                rw [HGY.out, HGU.out] at e
                have m := HI.out.2.2.2.2
                rw [HW.out.2.1] at m
                rcases List.mem_append.1 hx with hx | hx
                · have := (Srt.append.1 (Srt.append.1 m.srt).1).2.2 x hx u (by simp)
                  omega
                · rw [List.mem_singleton.1 hx]; omega)
              exact ⟨i + 1, X1 ++ [y], X3, Z, dj, by go_num, by omega, by omega, by omega, Lib.hid ⟨z1, z2, z3, z4, z5⟩, hdj, S2⟩
        · obtain rfl : j = la := by omega
          have hjz : decide ((j : Int) > (j : Int)) = false := decide_eq_false (by omega)
          have hjz' : ¬ (j : Int) < (j : Int) := by omega
          obtain rfl : W1 = [] := List.eq_nil_of_length_eq_zero (by have := HW.out.2.2.1; omega)
          have S2 : Aside (SWK enc k w0 blk off dj wr.drew) := S1.out.drew
          clear S1
          go_wp2_with fail
          go_big_region_o
          all_goals go_wp2
          go_roundg (j + lx - (i + 1))
          case measure => omega
          case rel =>
            obtain ⟨Z, z1, z2, z3, z4, z5⟩ := OUT.out (fun x hx => by cases hx)
            exact ⟨i + 1, X1 ++ [y], X3, Z, dj, by go_num, by omega, by omega, by omega, Lib.hid ⟨z1, z2, z3, z4, z5⟩, hdj, S2⟩
    · obtain rfl : i = la + lx := by omega
      have hltz : ¬ ((la : Int) + (lx : Int) < (la : Int) + (lx : Int)) := by omega
      go_wp2
      go_end0
      obtain rfl : X2 = [] := List.eq_nil_of_length_eq_zero (by have e1 := congrArg List.length HI.out.2.1; have e2 := HI.out.2.2.1; have e3 := HLX.out; simp only [List.length_append] at e1; omega)
      refine ⟨rfl, dk, Z1, by rw [HI.out.1]; simp, ?_, hdk, S1.out⟩
      have := HI.out.2.2.2.2
      rw [HI.out.2.1]; simpa using this
end Go.Proofs.Ytgaofkbmnapogaa
namespace Go.Proofs.Ytgaofkbmnapogaa
open Go.RowKit Go.Sort Go.Shelf
set_option maxRecDepth 100000
set_option maxHeartbeats 4000000
def cmp2 (p q : Nm) : Int := orI (cmpI p.y q.y) (cmpI p.n q.n)
theorem compare32 (p q : Nm) (w : World) : Calls Try.prog 32 #[p.v, q.v] w fun e w' => e = .returned (.int .i64 (cmp2 p q)) ∧ ∃ n os, w' = grow (w.drewN n) os := by
  unfold cmp2
  obtain ⟨y, n⟩ := p
  obtain ⟨y', n'⟩ := q
  simp only [Nm.v]
  have p0 : ((w.alloc (.cells #[.int .u8 y, .int .i64 n] 36)).alloc (.cells #[.int .u8 y', .int .i64 n'] 36)).cell? ⟨w.heap.size, 0, none⟩ = some (.int .u8 y) := by simp
  have p1 : ((w.alloc (.cells #[.int .u8 y, .int .i64 n] 36)).alloc (.cells #[.int .u8 y', .int .i64 n'] 36)).cell? ⟨w.heap.size, 1, none⟩ = some (.int .i64 n) := by simp
  have p2 : ((w.alloc (.cells #[.int .u8 y, .int .i64 n] 36)).alloc (.cells #[.int .u8 y', .int .i64 n'] 36)).cell? ⟨w.heap.size + 1, 0, none⟩ = some (.int .u8 y') := by simp
  have p3 : ((w.alloc (.cells #[.int .u8 y, .int .i64 n] 36)).alloc (.cells #[.int .u8 y', .int .i64 n'] 36)).cell? ⟨w.heap.size + 1, 1, none⟩ = some (.int .i64 n') := by simp
  obtain ⟨w0, hw0⟩ : ∃ w0, (w.alloc (.cells #[.int .u8 y, .int .i64 n] 36)).alloc (.cells #[.int .u8 y', .int .i64 n'] 36) = w0 := ⟨_, rfl⟩
  rw [hw0] at p0 p1 p2 p3
  have hg : ∀ a b : Value, ∃ m os, w0.drew.alloc (.cells #[a, b] 3) = grow (w.drewN m) os := fun a b => ⟨1, #[.cells #[.int .u8 y, .int .i64 n] 36, .cells #[.int .u8 y', .int .i64 n'] 36, .cells #[a, b] 3], by
    rw [← hw0]; simp only [alloc_eq_grow, drew_grow, grow_grow]; rfl⟩
  obtain ⟨ca, hca⟩ : ∃ c, cmpI y y' = c := ⟨_, rfl⟩
  obtain ⟨cb, hcb⟩ : ∃ c, cmpI n n' = c := ⟨_, rfl⟩
  have K42 := fun W => cmp42 y y' W
  have K43 := fun W => cmp43 n n' W
  rw [hca] at K42 ⊢
  rw [hcb] at K43 ⊢
  have K41 := fun (W : World) (B : Nat) => or41 ca cb B 2 W
  obtain ⟨r, hr⟩ : ∃ r, orI ca cb = r := ⟨_, rfl⟩
  rw [hr] at K41 ⊢
  have HG := Lib.hid hg
  clear hg
  go_enter Try.func32, Try.ntmps32
  go_upto_region 1 with fail
  go_still_tail 10, (by kernel_rfl)
  still_call (K42 _)
  repeat still_step
  still_call (K43 _)
  repeat still_step
  refine wpStill_nil ?_
  change wpList _ _ _ _ _ w0.drew
  have HGG := HG.out (.int .i64 ca) (.int .i64 cb)
  obtain ⟨wd, hwd⟩ : ∃ wd, w0.drew = wd := ⟨_, rfl⟩
  rw [hwd] at HGG
  rw [hwd]
  have m0 : (wd.alloc (.cells #[.int .i64 ca, .int .i64 cb] 3)).cell? ⟨wd.heap.size, 0, none⟩ = some (.int .i64 ca) := by simp
  have m1 : (wd.alloc (.cells #[.int .i64 ca, .int .i64 cb] 3)).cell? ⟨wd.heap.size, 1, none⟩ = some (.int .i64 cb) := by simp
  obtain ⟨we, hwe⟩ : ∃ we, wd.alloc (.cells #[.int .i64 ca, .int .i64 cb] 3) = we := ⟨_, rfl⟩
  rw [hwe] at m0 m1 HGG
  have K := K41 we wd.heap.size m0 m1
  clear HG
  go_wp2_with (go_at_call 41; refine K.mono ?_; rintro e w' ⟨rfl, rfl⟩)
  go_ret
  exact ⟨rfl, HGG⟩
end Go.Proofs.Ytgaofkbmnapogaa
namespace Go.Proofs.Ytgaofkbmnapogaa
open Go.RowKit Go.Sort Go.Shelf
set_option maxRecDepth 100000
set_option maxHeartbeats 4000000
theorem len56 (n : Nat) (hn : n ≤ 12) (w : World) : Calls Try.prog 56 #[.int .u64 n] w fun e w' => (∃ r : Int, e = .returned (.int .i64 r)) ∧ w' = w := by
  have h : n = 0 ∨ n = 1 ∨ n = 2 ∨ n = 3 ∨ n = 4 ∨ n = 5 ∨ n = 6 ∨ n = 7 ∨ n = 8 ∨ n = 9 ∨ n = 10 ∨ n = 11 ∨ n = 12 := by omega
  rcases h with rfl | rfl | rfl | rfl | rfl | rfl | rfl | rfl | rfl | rfl | rfl | rfl | rfl
  all_goals
    go_enter Try.func56, Try.ntmps56
    go_wp2_with fail
    go_ret
    exact ⟨⟨_, rfl⟩, rfl⟩
theorem len40 (n : Nat) (hn : n ≤ 12) (w : World) : Calls Try.prog 40 #[.int .u64 n] w fun e w' => (∃ r : Int, e = .returned (.int .i64 r)) ∧ w' = w := by
  have K := len56 n hn w
  have hnn : (n : Int) ≤ 12 := by omega
  go_enter Try.func40, Try.ntmps40
  go_wp2_with (go_at_call 56; refine K.mono ?_; rintro e w' ⟨⟨r, rfl⟩, rfl⟩)
  go_ret
  exact ⟨⟨_, rfl⟩, rfl⟩
variable {α : Type} [Inhabited α]
/-- pdqsortCmpFunc sorts a short list, stably. -/
theorem pdq_any (k : Nat) (zE : ∀ w, (Go.sizeOf 36).run Try.prog w = .ok k w) (enc : α → List Value) (key : α → Int) (cf : α → α → Int) (hcf : ∀ x y, cf x y < 0 ↔ key x < key y) (g : Nat) (cb : Array Value) (eg : ∀ args w, (callFunc g args).run Try.prog w = .ok (.enter g args) w) (blk off cap n : Nat) (d : Array α) (w0 : World) (hcmp : CmpLays Try.prog g cb enc k cf blk off n w0)
    (R : RowK enc k w0 blk off d) (hn : d.size = n) (S : SWK enc k w0 blk off d w0) (h12 : n ≤ 12) (lim : Int) :
    Calls Try.prog 39 #[.slice (some ⟨blk, off, none⟩) n cap, .int .i64 0, .int .i64 n, .int .i64 lim, .func (.func g) #[] cb] w0 fun e w' => e = .returned (.tuple #[]) ∧
      ∃ d' : Array α, Mrg key d.toList d'.toList ∧ d'.size = n ∧ SWK enc k w0 blk off d' w' := by
  have K := insertion_any k zE enc key cf hcf g cb eg blk off cap n d d w0 w0 hcmp [] d.toList [] R hn hn S (by simp) (by omega)
  simp only [List.length_nil, Nat.zero_add, Array.length_toList, hn] at K
  have K' := Lib.hid K
  have hnz : (n : Int) ≤ 12 := by omega
  clear K hcmp R S
  go_enter Try.func39, Try.ntmps39
  go_wp2_with fail
  refine wp_loop_rounds 1 ?_
  rw [rounds_succ]
  go_wp2_with (go_at_call 47; refine K'.out.mono ?_; rintro e w' ⟨rfl, d', Z, hd', hm, hsz, hS⟩)
  refine bodyPost_ret (results_none rfl _ _ _) rfl ?_
  refine ⟨rfl, d', ?_, hsz, hS⟩
  simp only [List.nil_append, List.append_nil] at hd'
  rw [hd']
  exact hm
/-- slices.SortFunc sorts a short list, stably. -/
theorem sort_any (k : Nat) (zE : ∀ w, (Go.sizeOf 36).run Try.prog w = .ok k w) (enc : α → List Value) (key : α → Int) (cf : α → α → Int) (hcf : ∀ x y, cf x y < 0 ↔ key x < key y) (g : Nat) (cb : Array Value) (eg : ∀ args w, (callFunc g args).run Try.prog w = .ok (.enter g args) w) (blk off cap n : Nat) (d : Array α) (w0 : World) (hcmp : CmpLays Try.prog g cb enc k cf blk off n w0)
    (R : RowK enc k w0 blk off d) (hn : d.size = n) (S : SWK enc k w0 blk off d w0) (h12 : n ≤ 12) :
    Calls Try.prog 31 #[.slice (some ⟨blk, off, none⟩) n cap, .func (.func g) #[] cb] w0 fun e w' => e = .returned (.tuple #[]) ∧
      ∃ d' : Array α, Mrg key d.toList d'.toList ∧ d'.size = n ∧ SWK enc k w0 blk off d' w' := by
  have K := Lib.hid (pdq_any k zE enc key cf hcf g cb eg blk off cap n d w0 hcmp R hn S h12)
  have K40 := Lib.hid (len40 n h12 w0)
  have hnz : (n : Int) ≤ 12 := by omega
  clear hcmp R S
  go_enter Try.func31, Try.ntmps31
  go_wp2_with (first
    | (go_at_call 40; refine K40.out.mono ?_; rintro e w1 ⟨⟨r, rfl⟩, rfl⟩)
    | (go_at_call 39; refine (K.out _).mono ?_; rintro e w' ⟨rfl, d', hm, hsz, hS⟩))
  go_end0
  exact ⟨rfl, d', hm, hsz, hS⟩
end Go.Proofs.Ytgaofkbmnapogaa
