import Derived.Test.YtjjnhmbgffdenaaDoorGal
import Derived.Laws.BytesArg
namespace Go.Proofs.YtjjnhmbgffdenaaDoor
open Go.RowKit Go.Sort
section
variable {o : Oper} {a : Act} {w : World} {K : Act → World → Prop} {Q : Exit → Act → World → Prop} {x y : Operand}
theorem fa40_2 {b : Nat} (hop : o.op = .fieldAddr 40 x 2) (hx : a.eval x = .pointer (some ⟨b, 0, none⟩)) (hK : K (a.put o.dst (.pointer (some ⟨b, 4, none⟩))) w) : o.wp Tryd.prog a w K Q := by
  exact step_val (by simp only [execOp, hop, hx]; go_simp) hK
theorem st_idx42 {b k : Nat} (hop : o.op = .indexAddr 42 x y) (hx : a.eval x = .pointer (some ⟨b, 0, none⟩)) (hy : a.eval y = .int .u8 k) (hk : k < 2) (hK : K (a.put o.dst (.pointer (some ⟨b, k, none⟩))) w) : o.wp Tryd.prog a w K Q := by
  have h1 : (k : Int) < 2 := by omega
  have h2 : (0 : Int) ≤ k := by omega
  exact step_val (by simp only [execOp, hop, hx, hy]; go_simp) hK
theorem st_mul_3 {X Y Z : Int} (hop : o.op = .binOp .mul 3 x y 3) (hx : a.eval x = .int .i64 X) (hy : a.eval y = .int .i64 Y) (hz : IntKind.i64.wrap (X * Y) = Z) (hK : K (a.put o.dst (.int .i64 Z)) w) : o.wp Tryd.prog a w K Q := by
  refine step_val (v := .int .i64 Z) ?_ hK
  simp only [execOp, hop, hx, hy]
  have hz' := hz
  go_simp
theorem st_ext {t : Tmp} {vs : Array Value} {i : Nat} {v : Value} (hop : o.op = .extract (.tmp t) i) (hx : a.eval (.tmp t) = .tuple vs) (hi : vs[i]? = some v) (hK : K (a.put o.dst v) w) : o.wp Tryd.prog a w K Q := by
  refine step_val (v := v) ?_ hK
  simp only [execOp, hop, hx]
  simp [Instr.extract, hi]
theorem st_alloc38 (hop : o.op = .alloc 38) (hK : K (a.put o.dst (.pointer (some ⟨w.heap.size, 0, none⟩))) (w.alloc (.cells #[.int .u8 0, .int .i64 0] 38))) : o.wp Tryd.prog a w K Q := by
  exact step_valw (by simp only [execOp, hop]; go_simp) hK
theorem st_store38 {b : Nat} {u v : Int} {u0 u1 : Value} (hop : o.op = .store 38 x y) (hx : a.eval x = .pointer (some ⟨b, 0, none⟩)) (hy : a.eval y = .agg #[.int .u8 u, .int .i64 v]) (hb : Boxed2 w b 38 u0 u1)
    (hK : K (a.put o.dst undef) ((w.setCell ⟨b, 0, none⟩ (.int .u8 u)).setCell ⟨b, 1, none⟩ (.int .i64 v))) : o.wp Tryd.prog a w K Q := by
  have c0 := hb.cell0
  have c1 := (hb.set0 (.int .u8 u)).cell1
  have f0 := hb.frozen
  have f1 := (hb.set0 (.int .u8 u)).frozen
  unfold Oper.wp
  simp only [execOp, hop, hx, hy]
  go_simp
  exact hK
end
/-- What an operation of the region does to memory: one (nap) writes a block from N on, the others make memory. -/
def RSt (N nap i : Nat) (w w' : World) : Prop := if i = nap then ∃ b, N ≤ b ∧ w.grownBy w' (some b) else Below w.heap.size w w'
theorem RSt.keep {N nap i : Nat} {w0 w w' : World} (h : RSt N nap i w w') (hI : Below N w0 w) (hN : N ≤ w0.heap.size) : Below N w0 w' := by
  unfold RSt at h
  split at h
  · obtain ⟨b, hb, hg⟩ := h
    exact hI.grown hg (Nat.le_trans hN hI.size) (fun k e => by cases e; exact hb)
  · exact hI.trans (h.mono (Nat.le_trans hN hI.size))
/-- A box of two cells that one operation (ia) makes and another (is) fills. -/
def XSt (N ia is : Nat) (s : Tmp) (T : TypeId) (z0 z1 x0 x1 : Value) (L : Array Bool) (a : Act) (w : World) : Prop :=
  s < a.tmps.size ∧ (L.getD ia false = true → ∃ b, a.tmps.getD s undef = .pointer (some ⟨b, 0, none⟩) ∧ N ≤ b ∧ Boxed2 w b T (if L.getD is false = true then x0 else z0) (if L.getD is false = true then x1 else z1))
theorem XSt.keep {N ia is k : Nat} {s : Tmp} {T : TypeId} {z0 z1 x0 x1 : Value} {L : Array Bool} {a : Act} {w w' : World} {d : Option Tmp} {v : Value} (h : XSt N ia is s T z0 z1 x0 x1 L a w) (hi : k ≠ ia) (hj : k ≠ is) (hs : d ≠ some s) (hb : Below w.heap.size w w') :
    XSt N ia is s T z0 z1 x0 x1 (L.setIfInBounds k true) (a.put d v) w' := by
  unfold XSt
  rw [getD_set_ne false hi, getD_set_ne false hj, putD_other hs, put_size]
  exact ⟨h.1, fun hl => (h.2 hl).imp fun b hh => ⟨hh.1, hh.2.1, hh.2.2.below hb hh.2.2.lt⟩⟩
theorem XSt.start {N ia is : Nat} {s : Tmp} {T : TypeId} {z0 z1 x0 x1 : Value} {L : Array Bool} {a : Act} {w : World} (hL : ∀ k, L.getD k false = false) (hs : s < a.tmps.size) : XSt N ia is s T z0 z1 x0 x1 L a w :=
  ⟨hs, fun h => by rw [hL] at h; cases h⟩
theorem XSt.made {N ia is : Nat} {s : Tmp} {T : TypeId} {z0 z1 x0 x1 : Value} {L : Array Bool} {a : Act} {w : World} (h : XSt N ia is s T z0 z1 x0 x1 L a w) (hne : ia ≠ is) (hN : N ≤ w.heap.size) (hl : L.getD is false = false) :
    XSt N ia is s T z0 z1 x0 x1 (L.setIfInBounds ia true) (a.put (some s) (.pointer (some ⟨w.heap.size, 0, none⟩))) (w.alloc (.cells #[z0, z1] T)) := by
  unfold XSt
  rw [getD_set_ne false hne, put_size, putD_self h.1, hl]
  exact ⟨h.1, fun _ => ⟨_, rfl, hN, by simpa using Boxed2.new w T z0 z1⟩⟩
theorem XSt.filled {N ia is b : Nat} {s : Tmp} {T : TypeId} {z0 z1 x0 x1 : Value} {L : Array Bool} {a : Act} {w : World} {v : Value} (h : XSt N ia is s T z0 z1 x0 x1 L a w) (hne : is ≠ ia) (hlt : is < L.size) (hp : a.tmps.getD s undef = .pointer (some ⟨b, 0, none⟩)) (hN : N ≤ b) (hb : Boxed2 w b T z0 z1) :
    XSt N ia is s T z0 z1 x0 x1 (L.setIfInBounds is true) (a.put none v) ((w.setCell ⟨b, 0, none⟩ x0).setCell ⟨b, 1, none⟩ x1) := by
  unfold XSt
  have e : (L.setIfInBounds is true).getD is false = true := by simp [hlt]
  rw [getD_set_ne false hne, put_size, e]
  exact ⟨h.1, fun _ => ⟨b, hp, hN, by simpa using (hb.set0 x0).set1 x1⟩⟩
theorem grown2 {w w1 w2 : World} {b : Nat} (h : w.grownBy w1 (some b)) (h' : w1.grownBy w2 (some b)) : w.grownBy w2 (some b) :=
  ⟨h'.os.trans h.os, h'.tape.trans h.tape, h'.output.trans h.output, Nat.le_trans h.size h'.size, fun k hk hne => (h'.block k (Nat.lt_of_lt_of_le hk h.size) hne).trans (h.block k hk hne)⟩
def psiSt (k B11 : Nat) (s st s2 s3 r na e2 : Int) : Nat → Array Bool → Value → Prop
  | 0, _, v9 => v9 = .pointer (some ⟨B11, 4, none⟩)
  | 1, _, v9 => v9 = .int .i64 s
  | 2, _, v9 => v9 = .int .u8 k
  | 3, _, v9 => v9 = .pointer (some ⟨0, k, none⟩)
  | 4, _, v9 => v9 = .int .i64 st
  | 5, _, v9 => v9 = .int .i64 s2
  | 6, _, v9 => v9 = .int .i64 s3
  | 7, _, v9 => v9 = .int .i64 r
  | 8, _, v9 => v9 = .tuple #[.agg #[.int .u8 0, .int .i64 na], .int .i64 e2]
  | 9, _, v9 => v9 = .tuple #[.agg #[.int .u8 0, .int .i64 na], .int .i64 e2]
  | 10, _, v9 => v9 = .agg #[.int .u8 0, .int .i64 na]
  | 11, _, v9 => v9 = .int .i64 e2
  | 12, L9, _ => L9.getD 12 false = true
  | _, _, _ => True
theorem psiSt_stab (k B11 : Nat) (s st s2 s3 r na e2 : Int) (i9 j9 : Nat) (L9 : Array Bool) (v9 : Value) (h : psiSt k B11 s st s2 s3 r na e2 j9 L9 v9) : psiSt k B11 s st s2 s3 r na e2 j9 (L9.setIfInBounds i9 true) v9 := by
  match j9, h with
  | 0, h => exact h
  | 1, h => exact h
  | 2, h => exact h
  | 3, h => exact h
  | 4, h => exact h
  | 5, h => exact h
  | 6, h => exact h
  | 7, h => exact h
  | 8, h => exact h
  | 9, h => exact h
  | 10, h => exact h
  | 11, h => exact h
  | 12, h => exact getD_set_true h
  | j9 + 13, _ => exact trivial
end Go.Proofs.YtjjnhmbgffdenaaDoor
namespace Go.Proofs.YtjjnhmbgffdenaaDoor
open Go.RowKit Go.Sort
theorem enter40 (args : Array Value) (w : World) : (callFunc 40 args).run Tryd.prog w = .ok (.enter 40 args) w := by kernel_rfl
/-- What a front needle's place holds. -/
def frontM (T : List (List Nm)) (a : Int) : List Nm := if 1 ≤ a ∧ a ≤ 40 then T.getD (a - 1).toNat [] else []
/-- The front needle that a back one comes to. -/
def toF (a r d : Int) : Int := a + r + (if d = 1 then 0 else -1)
def frontN (a : Int) : Int := if 1 ≤ a ∧ a ≤ 40 then a else 0
theorem front_at {T : List (List Nm)} {d : Bds} (h : Reads T d) (a : Int) : d.atM 0 (frontN a) = frontM T a := by
  unfold frontN frontM
  by_cases ha : 1 ≤ a ∧ a ≤ 40
  · rw [if_pos ha, if_pos ha]
    obtain ⟨i, rfl⟩ : ∃ i : Nat, a = (i : Int) + 1 := ⟨(a - 1).toNat, by omega⟩
    have := reads_at h (k := 0) (i := i) (by decide) (by omega)
    rw [show (((0 : Nat) : Int)) = 0 from rfl, Nat.zero_mul, Nat.zero_add] at this
    rw [this]
    congr 1; omega
  · rw [if_neg ha, if_neg ha]
    unfold Bds.atM
    rw [if_neg (by rw [isN_no (by omega)]; exact Bool.false_ne_true)]
theorem frontM_len {T : List (List Nm)} (hT : TOk T) (a : Int) : (frontM T a).length ≤ 4 := by
  unfold frontM
  split
  · rcases getD_mem_or (l := T) (a - 1).toNat with h | h
    · exact (hT.st _ h).1
    · rw [h]; simp
  · simp
/-- The crossings of one loop of the back bed. -/
def crs (T : List (List Nm)) (r d : Int) (h : Hd) : List Cx := (if d = 0 then (frontM T (toF h.a r d)).reverse else frontM T (toF h.a r d)).map fun p => crossM h.id p d
def alongM {α : Type} (l : List α) (d : Int) : List α := if d = 0 then l.reverse else l
/-- The crossings of a step. -/
def stepM (T : List (List Nm)) (r d : Int) (l : List Hd) : List Cx := (alongM (backs l) (oppM d)).flatMap (crs T r d)
theorem crs_len {T : List (List Nm)} (hT : TOk T) (r d : Int) (h : Hd) : (crs T r d h).length ≤ 4 := by
  unfold crs
  rw [List.length_map]
  have := frontM_len hT (toF h.a r d)
  split
  · rw [List.length_reverse]; exact this
  · exact this
theorem flat_len {T : List (List Nm)} (hT : TOk T) (r d : Int) : ∀ l : List Hd, (l.flatMap (crs T r d)).length ≤ 4 * l.length
  | [] => by simp
  | x :: l => by
    rw [List.flatMap_cons, List.length_append, List.length_cons]
    have := flat_len hT r d l
    have := crs_len hT r d x
    omega
theorem OrdOk.back {T : List (List Nm)} {r : Int} {l : List Hd} (h : OrdOk T r l) (hr : -4 ≤ r ∧ r ≤ 4) {x : Hd} (hx : x ∈ backs l) : x.b = 1 ∧ 1 ≤ x.a ∧ x.a ≤ 40 ∧ x.s = 4 * (x.a + r) := by
  obtain ⟨h1, h2⟩ := List.mem_filter.1 hx
  have h2 : x.b = 1 := of_decide_eq_true h2
  obtain ⟨j, p, hj, _, rfl⟩ := h.mem h1
  simp only at h2 ⊢
  have hj1 : j / 40 = 1 := by omega
  rw [hj1]
  refine ⟨rfl, by omega, by omega, ?_⟩
  unfold spotM
  rw [if_pos ⟨isN_mk (by omega), decide_eq_true hr⟩, if_pos (show (((1 : Nat) : Int)) = 1 from rfl)]
theorem mem_along {α : Type} {l : List α} {d : Int} {x : α} (h : x ∈ alongM l d) : x ∈ l := by
  unfold alongM at h
  split at h
  · exact List.mem_reverse.1 h
  · exact h
theorem len_along {α : Type} (l : List α) (d : Int) : (alongM l d).length = l.length := by
  unfold alongM; split <;> simp
/-- needles.At where a back loop goes. -/
theorem nat_any (a r d : Int) (hr : -4 ≤ r ∧ r ≤ 4) (hd : d = 0 ∨ d = 1) (w : World) : ∃ e2 : Int, ∀ w, Calls Tryd.prog 40 #[.int .i64 (4 * (a + r) + 2 * stepD d), .int .i64 r] w fun e w' => e = .returned (.tuple #[.agg #[.int .u8 0, .int .i64 (frontN (toF a r d))], .int .i64 e2]) ∧ Below w.heap.size w w' := by
  have hs : 4 * (a + r) + 2 * stepD d = 4 * toF a r d + 2 := by
    unfold stepD toF
    rcases hd with rfl | rfl <;> simp <;> omega
  rw [hs]
  generalize toF a r d = t
  unfold frontN
  by_cases ht : 1 ≤ t ∧ t ≤ 40
  · rw [if_pos ht]
    exact ⟨0, fun w => Nd.at_found _ 0 t r w (.inl rfl) ht.1 ht.2 hr.1 hr.2 (by unfold Nd.spt; rw [if_neg (by decide)])⟩
  · rw [if_neg ht]
    refine ⟨7, fun w => Nd.at_none _ r w hr.1 hr.2 (fun a h1 h2 e => ?_) (fun a h1 h2 e => ?_)⟩
    · unfold Nd.spt at e; rw [if_neg (by decide)] at e; omega
    · unfold Nd.spt at e; rw [if_pos rfl] at e; omega
set_option maxRecDepth 100000 in
set_option maxHeartbeats 8000000 in
theorem step_any (d : Bds) (T : List (List Nm)) (r dd : Int) (B : Nat) (w : World) (hdd : 0 ≤ dd ∧ dd ≤ 255) (hB : B ≤ w.heap.size) (hd : d.ok B w) (hr : Reads T d) (hT : TOk T) (hs : Stp w) :
    Calls Tryd.prog 16 #[d.v, .int .i64 r, .int .u8 dd] w fun e w' =>
      (checkStepM r dd ≠ 0 ∧ e = .returned (.tuple #[.slice none 0 0, .int .i64 (checkStepM r dd)]) ∧ Below w.heap.size w w') ∨
      (checkStepM r dd = 0 ∧ ∃ v l, e = .returned (.tuple #[v, .int .i64 0]) ∧ Hid (OrdOk T r l) ∧ NewRec Cx.enc (stepM T r dd l) w v w') := by
  have HC := Lib.hid (fun (W : World) (hb : Below w.heap.size w W) => checkStep_any d r dd w.heap.size W hdd hb.size ((hd.mono hB).below hb) (hr.good hT) (hs.below hb hs.lt))
  have HM := Lib.hid (fun (W : World) (hb : Below w.heap.size w W) => moved_any d T r w.heap.size W hb.size ((hd.mono hB).below hb) hr hT)
  have HAT0 : Hid (∀ (W : World), Below w.heap.size w W → ∀ t : Int, Calls Tryd.prog 30 #[d.v, .agg #[.int .u8 0, .int .i64 (frontN t)]] W (NewAt (frontM T t) W)) := Lib.hid (fun W hb t => by
    have h := at_own d 0 (frontN t) (by decide) w.heap.size W hb.size ((hd.mono hB).below hb)
    rw [front_at hr] at h
    exact h)
  have HS := Lib.hid hs
  have HT := Lib.hid hT
  obtain ⟨⟨fa, fs, fc⟩, ⟨ba, bs, bc⟩⟩ := d
  simp only [Bds.v, Bed.v] at HC HM HAT0 ⊢
  obtain ⟨c, hc⟩ : ∃ c, checkStepM r dd = c := ⟨_, rfl⟩
  have HCM := Lib.hid hc
  rw [hc] at HC ⊢
  clear hc hd hr hT hs
  have bx := Boxed2.new w 26 (.slice fa fs.length fc) (.slice ba bs.length bc)
  have hb0 := below1 w (.cells #[.slice fa fs.length fc, .slice ba bs.length bc] 26)
  have x0 := bx.cell0
  have x1 := bx.cell1
  obtain ⟨w0, hw0⟩ : ∃ w0, w.alloc (.cells #[.slice fa fs.length fc, .slice ba bs.length bc] 26) = w0 := ⟨_, rfl⟩
  have HCC := Lib.hid (HC.out _ hb0)
  have HB0 := Lib.hid hb0
  have HBX := Lib.hid bx
  rw [hw0] at HCC HB0 HBX x0 x1
  clear HC bx hb0
  by_cases hc0 : c = 0
  · subst hc0
    have HNC := Lib.hid (checkStepM_ok HCM.out hdd.1)
    go_enter Tryd.func16, Tryd.ntmps16
    go_upto_region 6 with (first
      | (go_at_call 36; refine HCC.out.mono ?_; rintro e w1 ⟨rfl, hb1⟩; have HBX1 := Lib.hid (HBX.out.below hb1 HBX.out.lt); clear x0 x1; have x0 := HBX1.out.cell0; have x1 := HBX1.out.cell1; have HB1 := Lib.hid (HB0.out.trans (hb1.mono HB0.out.size)))
      | (go_at_call 38; refine (HM.out _ HB1.out).mono ?_; rintro e w2 ⟨v2, l2, rfl, ho, h3, hb2⟩; have HO2 := Lib.hid h3; have HB2 := Lib.hid (HB1.out.trans (hb2.mono HB1.out.size)); have HBX2 := Lib.hid (HBX1.out.below hb2 HBX1.out.lt); clear x0 x1 h3)
      | (go_at_call 39; refine (opp_any _ _).mono ?_; rintro e w4 ⟨rfl, rfl⟩)
      | (go_at_call 37; refine (along_own37 _ v2 (backs l2) (oppM dd) _ HO2.out (by have := backs_len l2; have := ho.out.2; omega)).mono ?_; rintro e w5 ⟨rfl, h5, hb5⟩; obtain ⟨ml, hml⟩ : ∃ ml, alongM (backs l2) (oppM dd) = ml := ⟨_, rfl⟩; replace h5 : w5.ownsRow _ 40 5 v2 (alongM (backs l2) (oppM dd)).length (rcells Hd.enc (alongM (backs l2) (oppM dd))) := h5; rw [hml] at h5; have HML := Lib.hid hml; obtain ⟨ao5, cap5, rfl, hL5, hc5⟩ := lies_of_own Hd.enc_len h5 rfl; have HL5 : Hid (Lies Hd.enc 0 w5 ao5 ml) := Lib.hid (hL5.mono (Nat.zero_le _)); obtain ⟨nm, hnm⟩ : ∃ nm, ml.length = nm := ⟨_, rfl⟩; have HNM := Lib.hid hnm; rw [hnm]; clear hml hnm hc5; have HB5 := Lib.hid (HB2.out.trans (hb5.mono HB1.out.size)); have HBX5 := Lib.hid (HBX2.out.below hb5 HBX1.out.lt); clear h5 hL5))
    have hnm320 : nm ≤ 320 := by
      have h1 := HML.out
      have h2 := HNM.out
      have h3 := ho.out.2
      have h4 := backs_len l2
      have h5 := len_along (backs l2) (oppM dd)
      rw [h1, h2] at h5
      omega
    obtain ⟨k, hk, hk2, _⟩ := HS.out.at HNC.out.1
    subst hk
    have hst : stepD (k : Int) = -1 ∨ stepD (k : Int) = 1 := by unfold stepD; split <;> simp
    obtain ⟨st, hste⟩ : ∃ st, stepD (k : Int) = st := ⟨_, rfl⟩
    have HSTE := Lib.hid hste
    rw [hste] at hst
    have HST := Lib.hid hst
    have HK2 := Lib.hid hk2
    have HS5 := Lib.hid (HS.out.below HB5.out HS.out.lt)
    have hz5 : w.heap.size < w5.heap.size := HBX5.out.lt
    clear hste hst hk2 hb1 hb2 hb5 hw0
    go_loopg [9, 30] 330 (fun g v s30 wr => ∃ i : Nat, s30 = .int .i64 i ∧ i ≤ nm ∧ g = 330 - i ∧ Hid (wr.ownsRow w5.heap.size 55 5 v ((ml.take i).flatMap (crs T r k)).length (rcells Cx.enc ((ml.take i).flatMap (crs T r k)))) ∧ RowKit.Below w5.heap.size w5 wr)
    case atStart => exact ⟨0, rfl, by omega, by omega, Lib.hid (World.ownsRow_nil _ _ _ _), Below.refl _ _⟩
    case round =>
      obtain ⟨i, rfl, hi, hg, HO, hbr⟩ := hrel
      have HG := Lib.hid hg
      clear hg
      by_cases hlt : i < nm
      · have hiz : (i : Int) < (nm : Int) := by omega
        obtain ⟨b, rfl, hbl, c0, c1, c2, c3, c4⟩ := (HL5.out.below hbr).five (i := i) (by rw [HNM.out]; exact hlt)
        obtain ⟨x, hx⟩ : ∃ x, ml[i]'(by rw [HNM.out]; exact hlt) = x := ⟨_, rfl⟩
        rw [hx] at c0 c1 c2 c3 c4
        have htk : ml.take (i + 1) = ml.take i ++ [x] := by rw [List.take_succ_eq_append_getElem (by rw [HNM.out]; exact hlt), hx]
        have HTK := Lib.hid htk
        have hmem : x ∈ backs l2 := mem_along (d := oppM k) (by rw [HML.out, ← hx]; exact List.getElem_mem _)
        obtain ⟨e1, e2', e3, e4⟩ := ho.out.back ⟨HNC.out.2.1, HNC.out.2.2.1⟩ hmem
        obtain ⟨⟨xy, xn⟩, xb, xa, xs⟩ := x
        simp only at c0 c1 c2 c3 c4 e1 e2' e3 e4
        subst e1
        have hxs : -1000 ≤ xs ∧ xs ≤ 1000 := by have := HNC.out; omega
        obtain ⟨er, hna⟩ := nat_any xa r k ⟨HNC.out.2.1, HNC.out.2.2.1⟩ HNC.out.1 wr
        rw [← e4, HSTE.out] at hna
        obtain ⟨t, ht⟩ : ∃ t, toF xa r k = t := ⟨_, rfl⟩
        rw [ht] at hna
        have HTF := Lib.hid ht
        obtain ⟨na, hnna⟩ : ∃ na, frontN t = na := ⟨_, rfl⟩
        rw [hnna] at hna
        have HNA := Lib.hid hnna
        have HAT := Lib.hid hna
        have HW1 : Hid (IntKind.i64.wrap (2 * st) = 2 * st) := Lib.hid (by have := HST.out; rw [IntKind.wrap_i64]; omega)
        have HW2 : Hid (IntKind.i64.wrap (xs + 2 * st) = xs + 2 * st) := Lib.hid (by have := HST.out; rw [IntKind.wrap_i64]; omega)
        have hal : RowKit.Below w5.heap.size w5 (wr.alloc (.cells #[.int .u8 xy, .int .i64 xn, .int .u8 1, .int .i64 xa, .int .i64 xs] 40)) := hbr.alloc hbr.size _
        have HO1 := Lib.hid (HO.out.alloc (.cells #[.int .u8 xy, .int .i64 xn, .int .u8 1, .int .i64 xa, .int .i64 xs] 40))
        have HX11 : Hid ((wr.alloc (.cells #[.int .u8 xy, .int .i64 xn, .int .u8 1, .int .i64 xa, .int .i64 xs] 40)).heap[wr.heap.size]? = some (.cells #[.int .u8 xy, .int .i64 xn, .int .u8 1, .int .i64 xa, .int .i64 xs] 40 (0, 0))) := Lib.hid (heap_alloc_new _ _)
        have hsep : Hid (∀ g, u9.ownBlock = some g → g ≠ wr.heap.size) := Lib.hid (fun g hg => by have := (HO.out.lt g hg).2; omega)
        have hlt11 : wr.heap.size < (wr.alloc (.cells #[.int .u8 xy, .int .i64 xn, .int .u8 1, .int .i64 xa, .int .i64 xs] 40)).heap.size := by simp
        obtain ⟨B11, hB11⟩ : ∃ n, wr.heap.size = n := ⟨_, rfl⟩
        obtain ⟨wq, hwq⟩ : ∃ wq, wr.alloc (.cells #[.int .u8 xy, .int .i64 xn, .int .u8 1, .int .i64 xa, .int .i64 xs] 40) = wq := ⟨_, rfl⟩
        rw [hwq] at hal HO1 HX11 hlt11
        rw [hB11] at HX11 hsep hlt11
        have HB11 : Hid (∀ {W : World}, RowKit.Below wq.heap.size wq W → W.cell? ⟨B11, 4, none⟩ = some (.int .i64 xs)) := Lib.hid (fun h => (h.cell (p := ⟨B11, 4, none⟩) hlt11).trans (by rw [cell_of_row wq B11 4 _ 40 (0, 0) HX11.out]; rfl))
        have HG0 : Hid (∀ {W : World}, RowKit.Below wq.heap.size wq W → W.cell? ⟨0, k, none⟩ = some (.int .i64 st)) := Lib.hid (fun h => by
          obtain ⟨k', hk', _, hc'⟩ := (HS5.out.below (hal.trans (h.mono hal.size)) HS5.out.lt).at HNC.out.1
          obtain rfl : k = k' := by omega
          rw [HSTE.out] at hc'
          exact hc')
        have HI11 : Hid (B11 < wq.heap.size) := Lib.hid hlt11
        clear hx htk hmem e2' e3 e4 ht hnna hna hxs hlt11 HO
        go_upto_region 8 with fail
        (try rw [hB11])
        clear hB11 hwq c0 c1 c2 c3 c4
        refine rgT4 14 [some 35, some 36, some 37, some 38, some 39, some 40, some 41, some 42, some 43, some 34, some 44, some 45, some 12, none, some 13] (fun i9 L9 v9 _ => psiSt k B11 xs st (2 * st) (xs + 2 * st) r na er i9 L9 v9) (fun w' => RowKit.Below wq.heap.size wq w') (RSt wq.heap.size 13) (XSt wq.heap.size 12 13 12 38 (.int .u8 0) (.int .i64 0) (.int .u8 0) (.int .i64 na)) (by kernel_rfl) (by kernel_rfl) (by kernel_rfl) (by kernel_rfl) (fun i9 _ _ _ L9 _ _ j9 v9 _ _ _ _ h _ => psiSt_stab k B11 xs st (2 * st) (xs + 2 * st) r na er i9 j9 L9 v9 h) (fun i9 u9 u9' h hb => RSt.keep hb h (Nat.le_refl _)) (fun i9 o9 hi9 ho9 L9 hL9 hLi9 hcl9 aq9 w1 hs hout hI hX hdep => ?_) ?_ ((Below.refl _ _).drew) (fun L9 hL9 => XSt.start hL9 (of_decide_eq_true (by kernel_rfl)))
        · skip
          match i9, hi9, ho9 with
          | 0, _, ho9 =>
            obtain rfl := Option.some.inj ho9
            refine .inl ⟨rfl, fun K hK0 => ?_⟩
            have hK := fun (v : Value) (w' : World) (hb : Below w1.heap.size w1 w') hp => hK0 v w' (show RSt wq.heap.size 13 0 w1 w' from hb) hp (hX.keep (by decide) (by decide) (by decide) hb)
            exact fa40_2 rfl ((hout 11 rfl).trans rfl) (hK _ _ (Below.refl _ _) rfl)
          | 1, _, ho9 =>
            obtain rfl := Option.some.inj ho9
            have dq0 : (aq9.tmps.getD 35 undef) = .pointer (some ⟨B11, 4, none⟩) := hdep ⟨0, .data⟩ (by simp) rfl _ rfl
            refine .inl ⟨rfl, fun K hK0 => ?_⟩
            have hK := fun (v : Value) (w' : World) (hb : Below w1.heap.size w1 w') hp => hK0 v w' (show RSt wq.heap.size 13 1 w1 w' from hb) hp (hX.keep (by decide) (by decide) (by decide) hb)
            exact ld3 rfl dq0 (HB11.out hI) (hK _ _ (Below.refl _ _) rfl)
          | 2, _, ho9 =>
            obtain rfl := Option.some.inj ho9
            refine .inl ⟨rfl, fun K hK0 => ?_⟩
            have hK := fun (v : Value) (w' : World) (hb : Below w1.heap.size w1 w') hp => hK0 v w' (show RSt wq.heap.size 13 2 w1 w' from hb) hp (hX.keep (by decide) (by decide) (by decide) hb)
            exact st_move rfl ((hout 2 rfl).trans rfl) (hK _ _ (Below.refl _ _) rfl)
          | 3, _, ho9 =>
            obtain rfl := Option.some.inj ho9
            have dq2 : (aq9.tmps.getD 37 undef) = .int .u8 k := hdep ⟨2, .data⟩ (by simp) rfl _ rfl
            refine .inl ⟨rfl, fun K hK0 => ?_⟩
            have hK := fun (v : Value) (w' : World) (hb : Below w1.heap.size w1 w') hp => hK0 v w' (show RSt wq.heap.size 13 3 w1 w' from hb) hp (hX.keep (by decide) (by decide) (by decide) hb)
            exact st_idx42 rfl rfl dq2 HK2.out (hK _ _ (Below.refl _ _) rfl)
          | 4, _, ho9 =>
            obtain rfl := Option.some.inj ho9
            have dq3 : (aq9.tmps.getD 38 undef) = .pointer (some ⟨0, k, none⟩) := hdep ⟨3, .data⟩ (by simp) rfl _ rfl
            refine .inl ⟨rfl, fun K hK0 => ?_⟩
            have hK := fun (v : Value) (w' : World) (hb : Below w1.heap.size w1 w') hp => hK0 v w' (show RSt wq.heap.size 13 4 w1 w' from hb) hp (hX.keep (by decide) (by decide) (by decide) hb)
            exact ld3 rfl dq3 (HG0.out hI) (hK _ _ (Below.refl _ _) rfl)
          | 5, _, ho9 =>
            obtain rfl := Option.some.inj ho9
            have dq4 : (aq9.tmps.getD 39 undef) = .int .i64 st := hdep ⟨4, .data⟩ (by simp) rfl _ rfl
            refine .inl ⟨rfl, fun K hK0 => ?_⟩
            have hK := fun (v : Value) (w' : World) (hb : Below w1.heap.size w1 w') hp => hK0 v w' (show RSt wq.heap.size 13 5 w1 w' from hb) hp (hX.keep (by decide) (by decide) (by decide) hb)
            exact st_mul_3 rfl rfl dq4 HW1.out (hK _ _ (Below.refl _ _) rfl)
          | 6, _, ho9 =>
            obtain rfl := Option.some.inj ho9
            have dq1 : (aq9.tmps.getD 36 undef) = .int .i64 xs := hdep ⟨1, .data⟩ (by simp) rfl _ rfl
            have dq5 : (aq9.tmps.getD 40 undef) = .int .i64 (2 * st) := hdep ⟨5, .data⟩ (by simp) rfl _ rfl
            refine .inl ⟨rfl, fun K hK0 => ?_⟩
            have hK := fun (v : Value) (w' : World) (hb : Below w1.heap.size w1 w') hp => hK0 v w' (show RSt wq.heap.size 13 6 w1 w' from hb) hp (hX.keep (by decide) (by decide) (by decide) hb)
            exact st_add_3 rfl dq1 dq5 HW2.out (hK _ _ (Below.refl _ _) rfl)
          | 7, _, ho9 =>
            obtain rfl := Option.some.inj ho9
            refine .inl ⟨rfl, fun K hK0 => ?_⟩
            have hK := fun (v : Value) (w' : World) (hb : Below w1.heap.size w1 w') hp => hK0 v w' (show RSt wq.heap.size 13 7 w1 w' from hb) hp (hX.keep (by decide) (by decide) (by decide) hb)
            exact st_move rfl ((hout 1 rfl).trans rfl) (hK _ _ (Below.refl _ _) rfl)
          | 8, _, ho9 =>
            obtain rfl := Option.some.inj ho9
            have dq6 : (aq9.tmps.getD 41 undef) = .int .i64 (xs + 2 * st) := hdep ⟨6, .data⟩ (by simp) rfl _ rfl
            have dq7 : (aq9.tmps.getD 42 undef) = .int .i64 r := hdep ⟨7, .data⟩ (by simp) rfl _ rfl
            refine .inl ⟨rfl, fun K hK0 => ?_⟩
            have hK := fun (v : Value) (w' : World) (hb : Below w1.heap.size w1 w') hp => hK0 v w' (show RSt wq.heap.size 13 8 w1 w' from hb) hp (hX.keep (by decide) (by decide) (by decide) hb)
            exact step_calls rfl enter40 (vals2 dq6 dq7) ((HAT.out w1).mono fun e w' hh => by
              obtain ⟨rfl, hb⟩ := hh
              exact ⟨_, rfl, hK _ _ hb rfl⟩)
          | 9, _, ho9 =>
            obtain rfl := Option.some.inj ho9
            have dq8 : (aq9.tmps.getD 43 undef) = .tuple #[.agg #[.int .u8 0, .int .i64 na], .int .i64 er] := hdep ⟨8, .data⟩ (by simp) rfl _ rfl
            refine .inl ⟨rfl, fun K hK0 => ?_⟩
            have hK := fun (v : Value) (w' : World) (hb : Below w1.heap.size w1 w') hp => hK0 v w' (show RSt wq.heap.size 13 9 w1 w' from hb) hp (hX.keep (by decide) (by decide) (by decide) hb)
            exact st_move rfl dq8 (hK _ _ (Below.refl _ _) rfl)
          | 10, _, ho9 =>
            obtain rfl := Option.some.inj ho9
            have dq9 : (aq9.tmps.getD 34 undef) = .tuple #[.agg #[.int .u8 0, .int .i64 na], .int .i64 er] := hdep ⟨9, .data⟩ (by simp) rfl _ rfl
            refine .inl ⟨rfl, fun K hK0 => ?_⟩
            have hK := fun (v : Value) (w' : World) (hb : Below w1.heap.size w1 w') hp => hK0 v w' (show RSt wq.heap.size 13 10 w1 w' from hb) hp (hX.keep (by decide) (by decide) (by decide) hb)
            exact st_ext rfl dq9 rfl (hK _ _ (Below.refl _ _) rfl)
          | 11, _, ho9 =>
            obtain rfl := Option.some.inj ho9
            have dq9 : (aq9.tmps.getD 34 undef) = .tuple #[.agg #[.int .u8 0, .int .i64 na], .int .i64 er] := hdep ⟨9, .data⟩ (by simp) rfl _ rfl
            refine .inl ⟨rfl, fun K hK0 => ?_⟩
            have hK := fun (v : Value) (w' : World) (hb : Below w1.heap.size w1 w') hp => hK0 v w' (show RSt wq.heap.size 13 11 w1 w' from hb) hp (hX.keep (by decide) (by decide) (by decide) hb)
            exact st_ext rfl dq9 rfl (hK _ _ (Below.refl _ _) rfl)
          | 12, _, ho9 =>
            obtain rfl := Option.some.inj ho9
            refine .inl ⟨rfl, fun K hK0 => ?_⟩
            have hl13 : L9.getD 13 false = false := by
              cases h9 : L9.getD 13 false with
              | false => rfl
              | true => exact absurd (hcl9 13 _ h9 rfl ⟨12, .data⟩ (by simp) rfl) (by rw [hLi9]; exact Bool.false_ne_true)
            exact st_alloc38 rfl (hK0 _ _ (show RSt wq.heap.size 13 12 w1 _ from below1 _ _) (show (L9.setIfInBounds 12 true).getD 12 false = true from by simp [hL9]) (hX.made (by decide) hI.size hl13))
          | 13, _, ho9 =>
            obtain rfl := Option.some.inj ho9
            have dq12 : L9.getD 12 false = true := hdep ⟨12, .data⟩ (by simp) rfl _ rfl
            have dq10 : (aq9.tmps.getD 44 undef) = .agg #[.int .u8 0, .int .i64 na] := hdep ⟨10, .data⟩ (by simp) rfl _ rfl
            refine .inl ⟨rfl, fun K hK0 => ?_⟩
            obtain ⟨b9, hp9, hN9, hb9⟩ := hX.2 dq12
            rw [hLi9, if_neg Bool.false_ne_true, if_neg Bool.false_ne_true] at hb9
            exact st_store38 rfl hp9 dq10 hb9 (hK0 undef _ (show RSt wq.heap.size 13 13 w1 _ from ⟨b9, hN9, grown2 (grownBy_setCellAt w1 b9 0 _) (grownBy_setCellAt _ b9 1 _)⟩) trivial (hX.filled (by decide) hL9 hp9 hN9 hb9))
          | i9 + 14, hi9, _ => exact absurd hi9 (by omega)
        · intro a2 w2 hs hd hout hI hXf hall
          obtain ⟨tmps, defers⟩ := a2
          obtain ⟨Lf, hLf, hXf⟩ := hXf
          have e_45 : (tmps.getD 45 undef) = .int .i64 er := (hall 11 _ (by decide) rfl).elim fun _ h => h.2
          obtain ⟨b12, e_12, hN12, hb12⟩ := hXf.2 (by rw [hLf]; rfl)
          have hL13 : Lf.getD 13 false = true := by rw [hLf]; rfl
          rw [if_pos hL13, if_pos hL13] at hb12
          simp only at hs hd hout
          have ef := frameAt [some 35, some 36, some 37, some 38, some 39, some 40, some 41, some 42, some 43, some 34, some 44, some 45, some 12, none, some 13] _ tmps hs hout
          obtain ⟨sv8, hu⟩ : ∃ u : Nat → Value, u = fun s => tmps.getD s undef := ⟨_, rfl⟩
          have eu_12 : sv8 12 = .pointer (some ⟨b12, 0, none⟩) := by rw [hu]; exact e_12
          have eu_45 : sv8 45 = .int .i64 er := by rw [hu]; exact e_45
          rw [← hu] at ef
          have ef2 : tmps = #[Value.agg #[Value.slice fa fs.length fc, Value.slice ba bs.length bc], Value.int IntKind.i64 r, Value.int IntKind.u8 k, Value.pointer (some { block := w.heap.size, off := 0 }), undef, undef, Value.slice none 0 0, Value.int IntKind.i64 0, Value.int IntKind.i64 0, u9, undef, Value.pointer (some { block := B11, off := 0 }), (sv8 12), (sv8 13), undef, u15, Value.agg #[Value.slice fa fs.length fc, Value.slice ba bs.length bc], Value.int IntKind.i64 r, Value.int IntKind.u8 k, Value.int IntKind.i64 0, Value.int IntKind.i64 0, Value.bool false, undef, Value.agg #[Value.slice fa fs.length fc, Value.slice ba bs.length bc], Value.int IntKind.i64 r, Value.slice (some { block := b, off := 0 }) nm cap5, Value.int IntKind.u8 k, Value.int IntKind.u8 (oppM k), Value.slice (some { block := b, off := 0 }) nm cap5, Value.int IntKind.i64 nm, Value.int IntKind.i64 i, Value.bool true, Value.pointer (some { block := b, off := i * 5 }), Value.agg #[Value.int IntKind.u8 xy, Value.int IntKind.i64 xn, Value.int IntKind.u8 1, Value.int IntKind.i64 xa, Value.int IntKind.i64 xs], (sv8 34), (sv8 35), (sv8 36), (sv8 37), (sv8 38), (sv8 39), (sv8 40), (sv8 41), (sv8 42), (sv8 43), (sv8 44), (sv8 45), u46, u47, u48, u49, u50, u51, u52, u53, u54, u55, u56, u57, u58, u59, u60, u61, u62, u63, u64, u65, undef, undef] := ef
          subst hd
          rw [eu_12, eu_45] at ef2
          rw [ef2]
          clear ef ef2 hu hs hout hall e_12 e_45 eu_12 eu_45 hXf hLf hL13
          simp only [List.drop_succ_cons, List.drop_zero]
          have HXF := Lib.hid ((hI.block B11 HI11.out).trans HX11.out)
          have HO2 := Lib.hid (below_owns HO1.out hI)
          have hbr2 : RowKit.Below w5.heap.size w5 w2 := hal.trans (hI.mono hal.size)
          have hbx2 := HBX5.out.below hbr2 hz5
          have x0 := hbx2.cell0
          have x1 := hbx2.cell1
          have n0 := hb12.cell0
          have n1 := hb12.cell1
          have hb02 : RowKit.Below w.heap.size w w2 := HB5.out.trans (hbr2.mono HB5.out.size)
          have HC9 := Lib.hid (HAT0.out w2 hb02 t)
          rw [HNA.out] at HC9
          clear HB11 HG0 HW1 HW2 HAT hbx2 hal HO1 HX11
          go_upto_region 9 with fail
          go_upto_region 10 with (first
            | (go_at_call 30; refine HC9.out.mono ?_; rintro e w3 ⟨c3, rfl, hc3, hb3⟩; have HC3 := Lib.hid hc3.out.2.2.2; have HL3 := Lib.hid hc3.out.1; have HB3 := Lib.hid hb3; clear x0 x1 n0 n1 hc3)
            | (go_at_call 41; refine (along_own41 w2.heap.size c3.v c3.l k _ HC3.out (by rw [HL3.out]; have := frontM_len HT.out t; omega)).mono ?_; rintro e w4 ⟨rfl, h4, hb4⟩; obtain ⟨fl, hfl⟩ : ∃ fl, alongM c3.l (k : Int) = fl := ⟨_, rfl⟩; replace h4 : w4.ownsRow w2.heap.size 35 2 c3.v (alongM c3.l (k : Int)).length (rcells Nm.enc (alongM c3.l (k : Int))) := h4; rw [hfl] at h4; have HFL := Lib.hid hfl; have HC4 := Lib.hid h4; obtain ⟨ca, cl, cc⟩ := c3; simp only [Cel.v]; clear hfl h4))
          (try dsimp only at HL3)
          have hfl2 : fl.length = cl.length := by rw [← HFL.out]; exact len_along cl (k : Int)
          obtain ⟨nl, hnl⟩ : ∃ n, cl.length = n := ⟨_, rfl⟩
          have hC5 : w4.ownsRow w2.heap.size 35 2 (.slice ca nl cc) nl (cellsOf fl) := by
            have h := HC4.out
            rw [hfl2] at h
            simp only [Cel.v] at h
            rw [hnl] at h
            exact h
          have HNL : Hid (fl.length = nl) := Lib.hid (by rw [hfl2, hnl])
          have hnl4 : nl ≤ 4 := by rw [← hnl, HL3.out]; exact frontM_len HT.out t
          have HCR : Hid (crs T r k ⟨⟨xy, xn⟩, 1, xa, xs⟩ = fl.map fun p => crossM ⟨xy, xn⟩ p k) := Lib.hid (by
            unfold crs
            simp only
            rw [HTF.out, ← HL3.out]
            exact congrArg (List.map fun p => crossM ⟨xy, xn⟩ p k) HFL.out)
          rw [hnl]
          have HC5 := Lib.hid hC5
          have h24 : RowKit.Below w2.heap.size w2 w4 := HB3.out.trans (hb4.mono (Nat.le_refl _))
          have HXF4 := Lib.hid ((h24.block B11 (Nat.lt_of_lt_of_le HI11.out hI.size)).trans HXF.out)
          have HO4 := Lib.hid (below_owns HO2.out h24)
          have hbr4 : RowKit.Below w5.heap.size w5 w4 := hbr2.trans (h24.mono hbr2.size)
          have hsp0 : Hid (∀ g, u9.ownBlock = some g → g ≠ B11 ∧ (Value.slice ca nl cc).ownBlock ≠ some g) := Lib.hid (fun g hg => ⟨hsep.out g hg, fun e => by
            have e1 := (HO2.out.lt g hg).2
            have e2 := (hC5.lt g e).1
            omega⟩)
          have hll : ((ml.take i).flatMap (crs T r k)).length ≤ 4 * nm := by
            have h1 := flat_len HT.out r (k : Int) (ml.take i)
            have h2 : (ml.take i).length ≤ nm := by rw [List.length_take, HNM.out]; exact Nat.min_le_right _ _
            omega
          have HLL := Lib.hid hll
          clear hfl2 hnl hC5 HC4 HL3 HFL HO2 HXF hb3 hb4 h24 HB3 hbr2 hb02 HC9 HC3 hb12 hN12 hsep hI hll
          go_loopg [9, 52] 6 (fun g v s52 wr => ∃ m : Nat, s52 = .int .i64 m ∧ m ≤ nl ∧ g = 6 - m ∧ Hid (wr.ownsRow w5.heap.size 55 5 v ((ml.take i).flatMap (crs T r k) ++ (fl.map fun p => crossM ⟨xy, xn⟩ p k).take m).length (rcells Cx.enc ((ml.take i).flatMap (crs T r k) ++ (fl.map fun p => crossM ⟨xy, xn⟩ p k).take m))) ∧ Hid (wr.heap[B11]? = some (.cells #[.int .u8 xy, .int .i64 xn, .int .u8 1, .int .i64 xa, .int .i64 xs] 40 (0, 0))) ∧ Hid (wr.ownsRow w2.heap.size 35 2 (.slice ca nl cc) nl (cellsOf fl)) ∧ Hid (∀ g, v.ownBlock = some g → g ≠ B11 ∧ (Value.slice ca nl cc).ownBlock ≠ some g) ∧ RowKit.Below w5.heap.size w5 wr)
          case atStart => exact ⟨0, rfl, by omega, by omega, by simpa using HO4, HXF4, HC5, hsp0, hbr4⟩
          case round =>
            clear HO4 HXF4 HC5 hsp0 hbr4
            obtain ⟨m, rfl, hm, hg, HO, HXF, HCL, HSP, hbr3⟩ := hrel
            have HG3 := Lib.hid hg
            clear hg
            by_cases hm2 : m < nl
            · have hmz : (m : Int) < (nl : Int) := by omega
              have hcl := own_ok (c := ⟨ca, fl, cc⟩) (n := nl) (by simp only [Cel.v]; rw [HNL.out]; exact HCL.out) (by simp only; rw [HNL.out]; omega)
              obtain ⟨bq, oq, ha, hbq, t0, t1⟩ := hcl.at (i := m) (by simp only; rw [HNL.out]; exact hm2)
              obtain rfl : ca = some ⟨bq, oq, none⟩ := ha
              obtain ⟨p, hp⟩ : ∃ p, fl[m]'(by rw [HNL.out]; exact hm2) = p := ⟨_, rfl⟩
              simp only [hp] at t0 t1
              obtain ⟨cx, hcx⟩ : ∃ cx, crossM ⟨xy, xn⟩ p k = cx := ⟨_, rfl⟩
              have hst : (fl.map fun p => crossM ⟨xy, xn⟩ p k).take (m + 1) = (fl.map fun p => crossM ⟨xy, xn⟩ p k).take m ++ [cx] := by
                have hlen : m < (fl.map fun p => crossM ⟨xy, xn⟩ p k).length := by rw [List.length_map, HNL.out]; exact hm2
                rw [List.take_succ_eq_append_getElem hlen]
                congr 2
                simp only [List.getElem_map, hp, hcx]
              have HST2 := Lib.hid hst
              have hcr := fun W => cross_any ⟨xy, xn⟩ p k W
              rw [hcx] at hcr
              obtain ⟨⟨py, pn⟩, ⟨qy, qn⟩, cs⟩ := cx
              simp only [Nm.v, Cx.v] at hcr
              have HCR2 := Lib.hid hcr
              have bx := Boxed2.new wr 35 (.int .u8 p.y) (.int .i64 p.n)
              obtain ⟨wz, hwz⟩ : ∃ wz, wr.alloc (.cells #[.int .u8 p.y, .int .i64 p.n] 35) = wz := ⟨_, rfl⟩
              have hzx : RowKit.Below wr.heap.size wr wz := by rw [← hwz]; exact below1 _ _
              rw [hwz] at bx
              have q0 := bx.cell0
              have q1 := bx.cell1
              have hlt11 : B11 < wr.heap.size := (Array.getElem?_eq_some_iff.1 HXF.out).1
              have hxf := (hzx.block B11 hlt11).trans HXF.out
              have y0 : wz.cell? ⟨B11, 0, none⟩ = some (.int .u8 xy) := by rw [cell_of_row wz B11 0 _ 40 (0, 0) hxf]; rfl
              have y1 : wz.cell? ⟨B11, 1, none⟩ = some (.int .i64 xn) := by rw [cell_of_row wz B11 1 _ 40 (0, 0) hxf]; rfl
              have HXF2 := Lib.hid hxf
              have HO2 := Lib.hid (below_owns HO.out hzx)
              have HCL2 := Lib.hid (below_owns HCL.out hzx)
              have hbr5 : RowKit.Below w5.heap.size w5 wz := hbr3.trans (hzx.mono hbr3.size)
              clear hst hp hcx hcr hcl hxf hzx
              go_upto_region 12 with fail
              clear hwz t0 t1
              iterate 16 go_step
              iterate 2 go_step
              go_at_call 42
              refine (HCR2.out _).mono ?_
              rintro e w6 ⟨rfl, hb6⟩
              dsimp only
              iterate 4 go_step
              have h6 : RowKit.Below wz.heap.size wz w6 := hb6
              have HO3 := Lib.hid (below_owns HO2.out h6)
              have HXF3 := Lib.hid ((h6.block B11 (Nat.lt_of_lt_of_le hlt11 (by have := bx.lt; omega))).trans HXF2.out)
              have HCL3 := Lib.hid (below_owns HCL2.out h6)
              have hbr6 : RowKit.Below w5.heap.size w5 w6 := hbr5.trans (h6.mono hbr5.size)
              have hll2 : ((ml.take i).flatMap (crs T r k) ++ (fl.map fun p => crossM ⟨xy, xn⟩ p k).take m).length ≤ 100000 := by
                have := HLL.out
                rw [List.length_append, List.length_take]; omega
              refine wpList_app_rec kdCx (v := u9) (x := ⟨⟨py, pn⟩, ⟨qy, qn⟩, cs⟩) rfl rfl rfl rfl (HO3.out.alloc _) (rec_new Cx.enc w6 55 ⟨⟨py, pn⟩, ⟨qy, qn⟩, cs⟩) hll2 (by have := hbr6.size; simp; omega) ?_
              intro v7 w7 hw7 hg7 hat7
              have HW7 := Lib.hid hw7
              have HXA := Lib.hid ((Below.block (below1 w6 (.cells (Cx.enc ⟨⟨py, pn⟩, ⟨qy, qn⟩, cs⟩).toArray 55)) B11 ((Array.getElem?_eq_some_iff.1 HXF3.out).1)).trans HXF3.out)
              have HCA := Lib.hid (HCL3.out.alloc (.cells (Cx.enc ⟨⟨py, pn⟩, ⟨qy, qn⟩, cs⟩).toArray 55))
              have HX7 := Lib.hid ((hg7.block B11 ((Array.getElem?_eq_some_iff.1 HXA.out).1) (fun e => (HSP.out _ e.symm).1 rfl)).trans HXA.out)
              have HC7 := Lib.hid (HCA.out.kept hg7 (by
                cases h : u9.ownBlock with
                | none => exact none_or _
                | some g => exact .inr (HSP.out g h).2))
              have hbr7 : RowKit.Below w5.heap.size w5 w7 := (hbr6.alloc hbr6.size _).grown hg7 (by have := hbr6.size; simp; omega) (fun g e => (HO3.out.lt g e).1)
              have HS7 : Hid (∀ g, v7.ownBlock = some g → g ≠ B11 ∧ (Value.slice (some ⟨bq, oq, none⟩) nl cc).ownBlock ≠ some g) := Lib.hid (fun g hg => by
                rcases hat7 with e | e
                · exact HSP.out g (by rw [← e]; exact hg)
                · have e9 := Option.some.inj (e.symm.trans hg)
                  rw [World.size_alloc] at e9
                  have h11 := (Array.getElem?_eq_some_iff.1 HXF3.out).1
                  refine ⟨by omega, fun e2 => ?_⟩
                  have := (HCL3.out.lt _ e2).2
                  omega)
              clear hw7 hg7 hat7 HXA HCA h6 hb6 hbr6 hll2 HO3 HXF3 HCL3
              go_wp2_with fail
              go_roundg (6 - (m + 1))
              case measure => have := HG3.out; omega
              case rel => exact ⟨m + 1, by go_num, by omega, by omega, Lib.hid (by
                rw [HST2.out, ← List.append_assoc]; exact HW7.out), HX7, HC7, HS7, hbr7⟩
            · obtain rfl : m = nl := by omega
              have hmz : ¬ ((m : Int) < (m : Int)) := by omega
              have HO2 : Hid (wr.ownsRow w5.heap.size 55 5 u9 ((ml.take (i + 1)).flatMap (crs T r k)).length (rcells Cx.enc ((ml.take (i + 1)).flatMap (crs T r k)))) := Lib.hid (by
                have h1 : (fl.map fun p => crossM ⟨xy, xn⟩ p k).take m = fl.map fun p => crossM ⟨xy, xn⟩ p k := List.take_of_length_le (by rw [List.length_map, HNL.out]; exact Nat.le_refl _)
                have h2 := HO.out
                rw [h1, ← HCR.out] at h2
                rw [HTK.out, List.flatMap_append, List.flatMap_cons, List.flatMap_nil, List.append_nil]
                exact h2)
              clear HO
              go_wp2_with fail
              go_roundg (330 - (i + 1))
              case measure => have := HG.out; omega
              case rel => exact ⟨i + 1, by go_num, by omega, by omega, HO2, hbr3⟩
      · obtain rfl : i = nm := by omega
        have hiz : ¬ ((i : Int) < (i : Int)) := by omega
        have h1 : ml.take i = ml := List.take_of_length_le (by rw [HNM.out]; exact Nat.le_refl _)
        have hO2 := HO.out
        rw [h1, ← HML.out] at hO2
        have hO3 : wr.ownsRow w5.heap.size 55 5 u9 (stepM T r k l2).length (rcells Cx.enc (stepM T r k l2)) := hO2
        obtain ⟨ao9, cap9, rfl, hL9, hc9⟩ := lies_of_own Cx.enc_len hO3 rfl
        have HCL := Lib.hid (clip_any43 ao9 (stepM T r k l2).length cap9 hc9 (own_cap hO3) (own_off hO3))
        have HL9 := Lib.hid hL9
        clear h1 hO2 hO3 hL9 HO hc9
        obtain ⟨ns, hns⟩ : ∃ n, (stepM T r k l2).length = n := ⟨_, rfl⟩
        rw [hns] at HCL
        have HNS := Lib.hid hns
        rw [hns]
        clear hns
        go_wp2_with (go_at_call 43; refine (HCL.out _).mono ?_; rintro e w6 ⟨rfl, rfl⟩)
        (try simp only [Exit.inBlock, Exit.then]); refine bodyPost_ret (results_tmp2 rfl _ _ _) rfl ?_
        exact .inr ⟨by first | rfl | trivial, _, l2, rfl, ho, ao9, by rw [HNS.out]; rfl, Lib.hid (HL9.out.mono HB5.out.size), HB5.out.trans (hbr.mono HB5.out.size)⟩
  · have hcz : (c == 0) = false := by simp [hc0]
    have HC0 := Lib.hid hc0
    clear hc0
    go_enter Tryd.func16, Tryd.ntmps16
    go_wp2_with (go_at_call 36; refine HCC.out.mono ?_; rintro e w1 ⟨rfl, hb1⟩)
    (try simp only [Exit.inBlock, Exit.then]); refine bodyPost_ret (results_tmp2 rfl _ _ _) rfl ?_
    exact .inl ⟨HC0.out, rfl, HB0.out.trans (hb1.mono HB0.out.size)⟩
end Go.Proofs.YtjjnhmbgffdenaaDoor
namespace Go.Proofs.YtjjnhmbgffdenaaDoor
open Go.RowKit Go.Sort
section
variable {o : Oper} {a : Act} {w : World} {K : Act → World → Prop} {Q : Exit → Act → World → Prop} {x y : Operand}
theorem st_idx61 {b q n c k : Nat} (hop : o.op = .indexAddr 61 x y) (hx : a.eval x = .slice (some ⟨b, q, none⟩) n c) (hy : a.eval y = .int .i64 k) (hk : k < n) (hK : K (a.put o.dst (.pointer (some ⟨b, q + k * 2, none⟩))) w) : o.wp Tryd.prog a w K Q := by
  have h1 : (k : Int) < n := by omega
  have h2 : (0 : Int) ≤ k := by omega
  exact step_val (by simp only [execOp, hop, hx, hy]; go_simp) hK
theorem st_idx43 {b q n c k : Nat} (hop : o.op = .indexAddr 43 x y) (hx : a.eval x = .slice (some ⟨b, q, none⟩) n c) (hy : a.eval y = .int .i64 k) (hk : k < n) (hK : K (a.put o.dst (.pointer (some ⟨b, q + k * 4, none⟩))) w) : o.wp Tryd.prog a w K Q := by
  have h1 : (k : Int) < n := by omega
  have h2 : (0 : Int) ≤ k := by omega
  exact step_val (by simp only [execOp, hop, hx, hy]; go_simp) hK
theorem st_idx51 {b q n c k : Nat} (hop : o.op = .indexAddr 51 x y) (hx : a.eval x = .slice (some ⟨b, q, none⟩) n c) (hy : a.eval y = .int .i64 k) (hk : k < n) (hK : K (a.put o.dst (.pointer (some ⟨b, q + k * 5, none⟩))) w) : o.wp Tryd.prog a w K Q := by
  have h1 : (k : Int) < n := by omega
  have h2 : (0 : Int) ≤ k := by omega
  exact step_val (by simp only [execOp, hop, hx, hy]; go_simp) hK
theorem st_idx28 {b q n c k : Nat} (hop : o.op = .indexAddr 28 x y) (hx : a.eval x = .slice (some ⟨b, q, none⟩) n c) (hy : a.eval y = .int .i64 k) (hk : k < n) (hK : K (a.put o.dst (.pointer (some ⟨b, q + k * 5, none⟩))) w) : o.wp Tryd.prog a w K Q := by
  have h1 : (k : Int) < n := by omega
  have h2 : (0 : Int) ≤ k := by omega
  exact step_val (by simp only [execOp, hop, hx, hy]; go_simp) hK
theorem fa47_0 {b q : Nat} (hop : o.op = .fieldAddr 47 x 0) (hx : a.eval x = .pointer (some ⟨b, q, none⟩)) (hK : K (a.put o.dst (.pointer (some ⟨b, q, none⟩))) w) : o.wp Tryd.prog a w K Q := by
  exact step_val (by simp only [execOp, hop, hx]; go_simp) hK
theorem fa55_0 {b q : Nat} (hop : o.op = .fieldAddr 55 x 0) (hx : a.eval x = .pointer (some ⟨b, q, none⟩)) (hK : K (a.put o.dst (.pointer (some ⟨b, q, none⟩))) w) : o.wp Tryd.prog a w K Q := by
  exact step_val (by simp only [execOp, hop, hx]; go_simp) hK
theorem fa55_1 {b q : Nat} (hop : o.op = .fieldAddr 55 x 1) (hx : a.eval x = .pointer (some ⟨b, q, none⟩)) (hK : K (a.put o.dst (.pointer (some ⟨b, q + 2, none⟩))) w) : o.wp Tryd.prog a w K Q := by
  exact step_val (by simp only [execOp, hop, hx]; go_simp) hK
theorem st_rem3 {X : Int} (hop : o.op = .binOp .rem 3 x y 3) (hx : a.eval x = .int .i64 X) (hy : a.eval y = .int .i64 10) (hK : K (a.put o.dst (.int .i64 (X.tmod 10))) w) : o.wp Tryd.prog a w K Q := by
  exact step_val (by simp only [execOp, hop, hx, hy]; go_simp) hK
theorem st_bsB4 {z : Operand} {c0 c1 c2 c3 : Int} (hop : o.op = .buildSlice 78 4 #[(0, x), (1, .const (.int .u8 c1)), (2, z), (3, .const (.int .u8 c3))]) (hx : a.eval x = .int .u8 c0) (hz : a.eval z = .int .u8 c2)
    (hK : K (a.put o.dst (.slice (some ⟨w.heap.size, 0, none⟩) 4 4)) (w.alloc (.cells #[.int .u8 c0, .int .u8 c1, .int .u8 c2, .int .u8 c3] 5))) : o.wp Tryd.prog a w K Q := by
  exact step_valw (by simp only [execOp, hop]; simp [hx, hz]; go_simp) hK
theorem st_bsB3 {z : Operand} {c0 c1 c2 : Int} (hop : o.op = .buildSlice 78 3 #[(0, x), (1, .const (.int .u8 c1)), (2, z)]) (hx : a.eval x = .int .u8 c0) (hz : a.eval z = .int .u8 c2)
    (hK : K (a.put o.dst (.slice (some ⟨w.heap.size, 0, none⟩) 3 3)) (w.alloc (.cells #[.int .u8 c0, .int .u8 c1, .int .u8 c2] 5))) : o.wp Tryd.prog a w K Q := by
  exact step_valw (by simp only [execOp, hop]; simp [hx, hz]; go_simp) hK
/-- Bytes as a string. -/
def strB (l : List UInt8) : Value := .string ⟨l.toArray⟩
def chB (v : Int) : UInt8 := UInt8.ofNat v.toNat
theorem st_str {b n c : Nat} {xs : List Int} (hop : o.op = .convert 78 9 x) (hx : a.eval x = .slice (some ⟨b, 0, none⟩) n c) (hn : xs.length = n) (hb : w.heap[b]? = some (.cells (xs.map (Value.int .u8)).toArray 5 (0, 0)))
    (hK : K (a.put o.dst (strB (xs.map chB))) w) : o.wp Tryd.prog a w K Q := by
  have h := run_convert_bytes_arg (P := Tryd.prog) w 78 5 Tryd.underlying78 Tryd.underlying5 b 0 n c xs hn (fun i hi => by
    rw [Nat.zero_add, cell_of_row w b i _ 5 (0, 0) hb]
    have : i < xs.length := by omega
    simp [List.getD, List.getElem?_eq_getElem this]) 9 Tryd.underlying9
  refine step_val (v := strB (xs.map chB)) ?_ hK
  simp only [execOp, hop, hx, Sem.run_bind, h, Result.andThen_ok]
  rfl
theorem st_add9 {l1 l2 : List UInt8} (hop : o.op = .binOp .add 9 x y 9) (hx : a.eval x = strB l1) (hy : a.eval y = strB l2) (hl : l1.length + l2.length ≤ 100000) (hK : K (a.put o.dst (strB (l1 ++ l2))) w) : o.wp Tryd.prog a w K Q := by
  have h := run_string_add_lists (P := Tryd.prog) w l1 l2 (by omega) (by omega)
  unfold strB at hx hy
  refine step_val (v := strB (l1 ++ l2)) ?_ hK
  simp only [execOp, hop, hx, hy]
  go_simp
  rfl
end
/-- A name as a law writes it. -/
def nmB (p : Nm) : List UInt8 := [chB (IntKind.u8.wrap (48 + p.y)), 46, chB (IntKind.u8.wrap (48 + IntKind.u8.wrap (p.n.tmod 10))), 32]
def textM (l : List Nm) : List UInt8 := l.flatMap nmB
theorem textM_len (l : List Nm) : (textM l).length = 4 * l.length := by
  induction l with
  | nil => rfl
  | cons p l ih =>
    have : textM (p :: l) = nmB p ++ textM l := rfl
    rw [this, List.length_append, ih, List.length_cons]
    simp [nmB]; omega
end Go.Proofs.YtjjnhmbgffdenaaDoor
