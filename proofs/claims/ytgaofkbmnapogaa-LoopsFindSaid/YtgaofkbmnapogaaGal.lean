import Derived.Test.YtgaofkbmnapogaaGak
import Derived.Test.YtgaofkbmnapogaaGaj
namespace Go.Proofs.Ytgaofkbmnapogaa
open Go.RowKit Go.Sort
set_option maxRecDepth 100000
set_option maxHeartbeats 4000000
theorem lie_lit {α : Type} {enc : α → List Value} {w : World} {b t c : Nat} {cs : Array Value} {l : List α} (h : w.heap[b]? = some (.cells cs t (0, 0))) (hc : cs.toList = rcells enc l) (N : Nat) (hN : b < N) : (⟨some ⟨b, 0, none⟩, l, c⟩ : Sl α).lie enc N w :=
  .inr ⟨b, 0, rfl, hN, fun j u hj => by
    rw [Nat.zero_add, cell_of_row w b j cs t (0, 0) h]
    simp only at hj
    rw [← hc] at hj
    simpa using hj⟩
theorem Exm.below {E : Nat} {w w' : World} (h : Exm E w) (hb : Below w.heap.size w w') : Exm E w' := by
  have g : ∀ {b : Nat} {o : Obj}, w.heap[b]? = some o → w'.heap[b]? = some o := fun hg => (hb.block _ (Array.getElem?_eq_some_iff.1 hg).1).trans hg
  exact ⟨g h.h0, g h.h1, g h.h2, g h.h3, g h.h4, g h.h5⟩
def exA (th : Sl Nm) : Lp := ⟨0, true, th, nilSl⟩
def exB : Lp := ⟨0, false, nilSl, nilSl⟩
def exC (E : Nat) : Lp := ⟨0, false, ⟨some ⟨E + 1, 0, none⟩, [⟨1, 1⟩], 1⟩, nilSl⟩
def exD (E : Nat) (th : Sl Nm) (p : Nm) : Lp := ⟨0, true, th, ⟨some ⟨E + 4, 0, none⟩, [⟨p, false, 1⟩], 1⟩⟩
def exR0 (E : Nat) (th : Sl Nm) : Sl Lp := ⟨some ⟨E + 2, 0, none⟩, [exA th, exB, exC E], 3⟩
def exR1 (E : Nat) (th : Sl Nm) (p : Nm) : Sl Lp := ⟨some ⟨E + 5, 0, none⟩, [exD E th p], 1⟩
/-- The table of the examples. -/
def exT (E : Nat) (a b : Sl Nm) (p : Nm) : Tb := ⟨some ⟨E, 0, none⟩, [exR0 E a, exR1 E b p, nilSl, nilSl, nilSl, nilSl], 6⟩
def exP (E : Nat) : Sl Nm := ⟨some ⟨E + 3, 0, none⟩, [⟨1, 0⟩], 1⟩
def EX : List (List Lq) := [[⟨0, true, [], []⟩, ⟨0, false, [], []⟩, ⟨0, false, [⟨1, 1⟩], []⟩], [⟨0, true, [⟨1, 0⟩], [⟨⟨1, 1⟩, false, 1⟩]⟩], [], [], [], []]
def EX2 : List (List Lq) := [[⟨0, true, [⟨2, 0⟩], []⟩, ⟨0, false, [], []⟩, ⟨0, false, [⟨1, 1⟩], []⟩], [⟨0, true, [], [⟨⟨1, 0⟩, false, 1⟩]⟩], [], [], [], []]
theorem exT_sem (E : Nat) : (exT E nilSl (exP E) ⟨1, 1⟩).sem = EX := rfl
theorem nil_ok (N : Nat) (w : World) : RowOk N w (nilSl : Sl Lp) := ⟨.inl rfl, fun x hx => (by cases hx), Nat.zero_le _⟩
theorem exLp_ok {N : Nat} {w : World} {bed : Int} {nw : Bool} {a : Sl Nm} {p : Sl Pa} (ha : a.lie Nm.enc N w) (hp : p.lie Pa.enc N w) (h1 : a.l.length ≤ 100) (h2 : p.l.length ≤ 100) (h3 : ∀ q ∈ a.l, q.byte) (h4 : ∀ q ∈ p.l, q.id.byte ∧ 0 ≤ q.d ∧ q.d ≤ 255) (h5 : 0 ≤ bed ∧ bed ≤ 255) : Lp.ok N w ⟨bed, nw, a, p⟩ := ⟨ha, hp, h1, h2, h3, h4, h5⟩
theorem exT_ok {E N : Nat} {w : World} {a b : Sl Nm} {p : Nm} (hN : E + 6 ≤ N)
    (h0 : w.heap[E]? = some (.cells #[.slice (some ⟨E + 2, 0, none⟩) 3 3, .slice (some ⟨E + 5, 0, none⟩) 1 1, .slice none 0 0, .slice none 0 0, .slice none 0 0, .slice none 0 0] 37 (0, 0)))
    (h1 : w.heap[E + 1]? = some (.cells #[.int .u8 1, .int .i64 1] 36 (0, 0)))
    (h2 : w.heap[E + 2]? = some (.cells #[.int .u8 0, .bool true, a.v, .slice none 0 0, .int .u8 0, .bool false, .slice none 0 0, .slice none 0 0, .int .u8 0, .bool false, .slice (some ⟨E + 1, 0, none⟩) 1 1, .slice none 0 0] 45 (0, 0)))
    (h4 : w.heap[E + 4]? = some (.cells #[.int .u8 p.y, .int .i64 p.n, .bool false, .int .u8 1] 56 (0, 0)))
    (h5 : w.heap[E + 5]? = some (.cells #[.int .u8 0, .bool true, b.v, .slice (some ⟨E + 4, 0, none⟩) 1 1] 45 (0, 0)))
    (ha : a.lie Nm.enc N w) (hb : b.lie Nm.enc N w) (la : a.l.length ≤ 100) (lb : b.l.length ≤ 100) (ba : ∀ q ∈ a.l, q.byte) (bb : ∀ q ∈ b.l, q.byte) (bp : p.byte) : Tb.ok N w (exT E a b p) := by
  have nl : ∀ {α : Type} (enc : α → List Value), (nilSl : Sl α).lie enc N w := fun _ => .inl rfl
  refine ⟨lie_lit h0 rfl N (by omega), fun r hr => ?_, Nat.le_of_ble_eq_true rfl⟩
  simp only [exT, List.mem_cons, List.not_mem_nil, or_false] at hr
  have e0 : RowOk N w (exR0 E a) := by
    refine ⟨lie_lit h2 rfl N (by omega), fun x hx => ?_, Nat.le_of_ble_eq_true rfl⟩
    simp only [exR0, List.mem_cons, List.not_mem_nil, or_false] at hx
    rcases hx with rfl | rfl | rfl
    · exact exLp_ok ha (nl _) la (Nat.le_of_ble_eq_true rfl) ba (fun q hq => by cases hq) (by decide)
    · exact exLp_ok (nl _) (nl _) (Nat.le_of_ble_eq_true rfl) (Nat.le_of_ble_eq_true rfl) (fun q hq => by cases hq) (fun q hq => by cases hq) (by decide)
    · refine exLp_ok (lie_lit h1 rfl N (by omega)) (nl _) (Nat.le_of_ble_eq_true rfl) (Nat.le_of_ble_eq_true rfl) (fun q hq => ?_) (fun q hq => by cases hq) (by decide)
      simp only [List.mem_cons, List.not_mem_nil, or_false] at hq
      subst hq; unfold Nm.byte; decide
  have e1 : RowOk N w (exR1 E b p) := by
    refine ⟨lie_lit h5 rfl N (by omega), fun x hx => ?_, Nat.le_of_ble_eq_true rfl⟩
    simp only [exR1, List.mem_cons, List.not_mem_nil, or_false] at hx
    subst hx
    refine exLp_ok hb (lie_lit h4 rfl N (by omega)) lb (Nat.le_of_ble_eq_true rfl) bb (fun q hq => ?_) (by decide)
    simp only [List.mem_cons, List.not_mem_nil, or_false] at hq
    subst hq
    exact ⟨bp, show (0 : Int) ≤ 1 by decide, show (1 : Int) ≤ 255 by decide⟩
  rcases hr with rfl | rfl | rfl | rfl | rfl | rfl
  · exact e0
  · exact e1
  all_goals exact nil_ok N w
theorem Exm.lt {E : Nat} {w : World} (h : Exm E w) : E + 6 ≤ w.heap.size := (Array.getElem?_eq_some_iff.1 h.h5).1
theorem Exm.ok {E : Nat} {w : World} (h : Exm E w) : Tb.ok w.heap.size w (exT E nilSl (exP E) ⟨1, 1⟩) := by
  have h9 := h.lt
  refine exT_ok (by omega) h.h0 h.h1 h.h2 h.h4 h.h5 (.inl rfl) (lie_lit h.h3 rfl _ (by omega)) (Nat.le_of_ble_eq_true rfl) (Nat.le_of_ble_eq_true rfl) (fun q hq => by cases hq) (fun q hq => ?_) (by unfold Nm.byte; decide)
  simp only [exP, List.mem_cons, List.not_mem_nil, or_false] at hq
  subst hq; unfold Nm.byte; decide
theorem ex_check : checkM EX = 0 := by kernel_rfl
theorem ex_ord : ordM EX = [⟨1, 0⟩, ⟨1, 1⟩, ⟨1, 2⟩, ⟨2, 0⟩] := by kernel_rfl
theorem ex_check2 : checkM EX2 = 6 := by kernel_rfl
theorem ex_add1 : addE EX 1 ⟨0, false, [⟨2, 0⟩], []⟩ = 0 := by kernel_rfl
theorem ex_add2 : addE EX 1 ⟨0, false, [⟨1, 1⟩], []⟩ = 8 := by kernel_rfl
theorem ex_add3 : addE EX 1 ⟨0, false, [⟨2, 1⟩], []⟩ = 1 := by kernel_rfl
theorem ex_tot1 : totM (addM EX 1 ⟨0, false, [⟨2, 0⟩], []⟩) = 5 := by kernel_rfl
theorem ex_t1 : strB (textM [⟨1, 0⟩, ⟨1, 1⟩, ⟨1, 2⟩, ⟨2, 0⟩]) = .string ⟨#[49, 46, 48, 32, 49, 46, 49, 32, 49, 46, 50, 32, 50, 46, 48, 32]⟩ := by kernel_rfl
theorem ex_t2 : strB (textM [⟨1, 0⟩, ⟨1, 1⟩]) = .string ⟨#[49, 46, 48, 32, 49, 46, 49, 32]⟩ := by kernel_rfl
theorem ex_t3 : strB (textM [⟨1, 1⟩]) = .string ⟨#[49, 46, 49, 32]⟩ := by kernel_rfl
end Go.Proofs.Ytgaofkbmnapogaa
namespace Go.Proofs.Ytgaofkbmnapogaa
open Go.RowKit Go.Sort
set_option maxRecDepth 100000
set_option maxHeartbeats 4000000
def exV (E : Nat) : Value := .slice (some ⟨E, 0, none⟩) 6 6
variable {E : Nat}
theorem lv9 (W : World) (h : Exm E W) : Calls Try.prog 9 #[exV E] W fun e w' => ∃ a, e = .returned (.tuple #[.slice a 4 4, .int .i64 0]) ∧ Hid ((⟨a, [⟨1, 0⟩, ⟨1, 1⟩, ⟨1, 2⟩, ⟨2, 0⟩], 4⟩ : Sl Nm).lie Nm.enc w'.heap.size w') ∧ Below W.heap.size W w' := by
  refine (order_any (exT E nilSl (exP E) ⟨1, 1⟩) W.heap.size W (Nat.le_refl _) h.ok).mono ?_
  rintro e w' ⟨⟨a, l, c⟩, rfl, hs, hb⟩
  have hs := hs.out
  rw [exT_sem, ex_check, if_pos rfl, ex_ord] at hs
  obtain ⟨h1, h2, h3⟩ := hs
  simp only at h1 h2
  subst h1
  subst h2
  exact ⟨a, by rw [exT_sem, ex_check]; rfl, Lib.hid h3, hb⟩
theorem lv10 (W : World) (t : Tb) (c : Int) (hc : checkM t.sem = c) (h : Tb.ok W.heap.size W t) : Calls Try.prog 10 #[t.v] W fun e w' => e = .returned (.int .i64 c) ∧ Below W.heap.size W w' := by
  rw [← hc]
  exact check_any t W.heap.size W (Nat.le_refl _) h
theorem lv20 (W : World) (a : Option Addr) (l : List Nm) (n c : Nat) (s : Value) (hn : l.length = n) (hs : strB (textM l) = s) (hl : l.length ≤ 1000) (h : (⟨a, l, c⟩ : Sl Nm).lie Nm.enc W.heap.size W) : Calls Try.prog 20 #[.slice a n c] W fun e w' => e = .returned s ∧ Below W.heap.size W w' := by
  subst hn
  rw [← hs]
  exact text_any ⟨a, l, c⟩ W.heap.size W (Nat.le_refl _) h hl
theorem ex_rows {a b : Sl Nm} {p : Nm} {k i : Nat} {r : Sl Lp} {x : Lp} (hr : (exT E a b p).l[k]? = some r) (hx : r.l[i]? = some x) : (k = 0 ∧ i = 0 ∧ x = exA a) ∨ (k = 0 ∧ i = 1 ∧ x = exB) ∨ (k = 0 ∧ i = 2 ∧ x = exC E) ∨ (k = 1 ∧ i = 0 ∧ x = exD E b p) := by
  match k, hr with
  | 0, hr =>
    obtain rfl : exR0 E a = r := by simpa [exT] using hr
    match i, hx with
    | 0, hx => exact .inl ⟨rfl, rfl, by simpa [exR0] using hx.symm⟩
    | 1, hx => exact .inr (.inl ⟨rfl, rfl, by simpa [exR0] using hx.symm⟩)
    | 2, hx => exact .inr (.inr (.inl ⟨rfl, rfl, by simpa [exR0] using hx.symm⟩))
    | i + 3, hx => simp [exR0] at hx
  | 1, hr =>
    obtain rfl : exR1 E b p = r := by simpa [exT] using hr
    match i, hx with
    | 0, hx => exact .inr (.inr (.inr ⟨rfl, rfl, by simpa [exR1] using hx.symm⟩))
    | i + 1, hx => simp [exR1] at hx
  | 2, hr => obtain rfl : (nilSl : Sl Lp) = r := by simpa [exT] using hr
             simp [nilSl] at hx
  | 3, hr => obtain rfl : (nilSl : Sl Lp) = r := by simpa [exT] using hr
             simp [nilSl] at hx
  | 4, hr => obtain rfl : (nilSl : Sl Lp) = r := by simpa [exT] using hr
             simp [nilSl] at hx
  | 5, hr => obtain rfl : (nilSl : Sl Lp) = r := by simpa [exT] using hr
             simp [nilSl] at hx
  | k + 6, hr => simp [exT] at hr
theorem lv19a (W : World) (h : Exm E W) : Calls Try.prog 19 #[exV E, .agg #[.int .u8 1, .int .i64 0]] W fun e w' => e = .returned (.tuple #[.agg #[.int .u8 2, .int .i64 0], .bool true]) ∧ Below W.heap.size W w' := by
  refine (above_any (exT E nilSl (exP E) ⟨1, 1⟩) ⟨1, 0⟩ W.heap.size W (Nat.le_refl _) h.ok (Nat.le_of_ble_eq_true rfl) ⟨E, 0, rfl⟩).mono ?_
  rintro e w' ⟨⟨k, i, r, x, hr, hx, hp, rfl⟩ | ⟨hno, rfl⟩, hb⟩
  · refine ⟨?_, hb⟩
    rcases ex_rows hr hx with ⟨rfl, rfl, rfl⟩ | ⟨rfl, rfl, rfl⟩ | ⟨rfl, rfl, rfl⟩ | ⟨rfl, rfl, rfl⟩
    · cases hp
    · cases hp
    · exact absurd hp (by simp [exC])
    · rfl
  · exact absurd (hno (exR1 E (exP E) ⟨1, 1⟩) (by simp [exT]) (exD E (exP E) ⟨1, 1⟩) (by simp [exR1])) (by simp [exD, exP])
theorem lv19b (W : World) (h : Exm E W) : Calls Try.prog 19 #[exV E, .agg #[.int .u8 2, .int .i64 0]] W fun e w' => e = .returned (.tuple #[.agg #[.int .u8 0, .int .i64 0], .bool false]) ∧ Below W.heap.size W w' := by
  refine (above_any (exT E nilSl (exP E) ⟨1, 1⟩) ⟨2, 0⟩ W.heap.size W (Nat.le_refl _) h.ok (Nat.le_of_ble_eq_true rfl) ⟨E, 0, rfl⟩).mono ?_
  rintro e w' ⟨⟨k, i, r, x, hr, hx, hp, rfl⟩ | ⟨hno, rfl⟩, hb⟩
  · rcases ex_rows hr hx with ⟨rfl, rfl, rfl⟩ | ⟨rfl, rfl, rfl⟩ | ⟨rfl, rfl, rfl⟩ | ⟨rfl, rfl, rfl⟩
    · cases hp
    · cases hp
    · exact absurd hp (by simp [exC])
    · exact absurd hp (by simp [exD, exP])
  · exact ⟨rfl, hb⟩
theorem lv18 (W : World) (h : Exm E W) (p : Nm) (k i : Nat) (r : Sl Lp) (x : Lp) (hp : p = ⟨(k : Int) + 1, i⟩) (hr : (exT E nilSl (exP E) ⟨1, 1⟩).l[k]? = some r) (hx : r.l[i]? = some x) (ht : there EX p = true) (L : List Nm) (hw : ∀ q ∈ needL x.q p, q.wf) (h12 : (needL x.q p).length ≤ 12) (hL : Asc L) (hm : ∀ q, q ∈ needL x.q p ↔ q ∈ L) (n : Nat) (hn : L.length = n) :
    Calls Try.prog 18 #[exV E, p.v] W fun e w' => ∃ a, e = .returned (.slice a n n) ∧ Hid ((⟨a, L, n⟩ : Sl Nm).lie Nm.enc w'.heap.size w') ∧ Below W.heap.size W w' := by
  subst hn
  refine (needs_any (exT E nilSl (exP E) ⟨1, 1⟩) p W.heap.size W (Nat.le_refl _) h.ok k i r x hp hr hx ht h12 hw).mono ?_
  rintro e w' ⟨⟨a, l, c⟩, rfl, hs, hb⟩
  obtain ⟨⟨m, hm1, hm2⟩, hc, hlie⟩ := hs.out
  simp only at hm2 hc
  subst hc
  have hmem : ∀ q, q ∈ ddS m ↔ q ∈ L := fun q => by rw [ddS_mem, hm1.sam.mem, hm]
  have hwm : ∀ q ∈ m, q.wf := fun q hq => hw q ((hm1.sam.mem q).1 hq)
  have : l = L := by
    rw [hm2]
    exact asc_uniq (ddS_asc m hwm hm1.srt) hL (fun q hq => hwm q ((ddS_mem m q).1 hq)) (fun q hq => hw q ((hm q).2 hq)) hmem
  subst this
  exact ⟨a, rfl, Lib.hid hlie, hb⟩
theorem lv16 (W : World) (h : Exm E W) (B : Nat) (p : Nm) (hB : W.heap[B]? = some (.cells #[.int .u8 p.y, .int .i64 p.n] 36 (0, 0))) (hp : p.byte) (c : Int) (hc : addE EX 1 ⟨0, false, [p], []⟩ = c) :
    Calls Try.prog 16 #[exV E, .int .u8 1, .agg #[.int .u8 0, .bool false, .slice (some ⟨B, 0, none⟩) 1 1, .slice none 0 0]] W (NewTb c (addM EX 1 ⟨0, false, [p], []⟩) W) := by
  rw [← hc]
  refine add_any (exT E nilSl (exP E) ⟨1, 1⟩) 1 ⟨0, false, ⟨some ⟨B, 0, none⟩, [p], 1⟩, nilSl⟩ W.heap.size W (Nat.le_refl _) h.ok (exLp_ok (lie_lit hB rfl _ (Array.getElem?_eq_some_iff.1 hB).1) (.inl rfl) (Nat.le_of_ble_eq_true rfl) (Nat.le_of_ble_eq_true rfl) (fun q hq => ?_) (fun q hq => by cases hq) (by decide)) (fun r hr => ?_) (by decide)
  · simp only [List.mem_cons, List.not_mem_nil, or_false] at hq
    subst hq; exact hp
  · simp only [exT, List.mem_cons, List.not_mem_nil, or_false] at hr
    rcases hr with rfl | rfl | rfl | rfl | rfl | rfl <;> exact Nat.le_of_ble_eq_true rfl
end Go.Proofs.Ytgaofkbmnapogaa
namespace Go.Proofs.Ytgaofkbmnapogaa
open Go.RowKit Go.Sort
set_option maxRecDepth 100000
set_option maxHeartbeats 8000000
theorem lv16ok {E : Nat} (W : World) (h : Exm E W) (B : Nat) (hB : W.heap[B]? = some (.cells #[.int .u8 2, .int .i64 0] 36 (0, 0))) :
    Calls Try.prog 16 #[.slice (some ⟨E, 0, none⟩) 6 6, .int .u8 1, .agg #[.int .u8 0, .bool false, .slice (some ⟨B, 0, none⟩) 1 1, .slice none 0 0]] W fun e w' => ∃ (bt : Nat) (rs : List (Sl Lp)), e = .returned (.tuple #[.slice (some ⟨bt, 0, none⟩) 6 6, .int .i64 0]) ∧
      Hid (Tbl bt (fun g => W.heap.size ≤ g ∧ g ≠ bt) w' rs ∧ W.heap.size ≤ bt ∧ rs.length = 6 ∧ (rs.map fun r => r.l.map Lp.q) = addM EX 1 ⟨0, false, [⟨2, 0⟩], []⟩ ∧ ∀ r ∈ rs, r.l.length ≤ 100) ∧ Below W.heap.size W w' := by
  refine (lv16 W h B ⟨2, 0⟩ hB (by unfold Nm.byte; decide) 0 ex_add1).mono ?_
  rintro e w' ⟨⟨h, -⟩ | ⟨-, bt, rs, rfl, hT⟩, hb⟩
  · exact absurd rfl h
  · exact ⟨bt, rs, rfl, hT, hb⟩
theorem lv16no {E : Nat} (W : World) (h : Exm E W) (B : Nat) (p : Nm) (hB : W.heap[B]? = some (.cells #[.int .u8 p.y, .int .i64 p.n] 36 (0, 0))) (hp : p.byte) (c : Int) (hc : addE EX 1 ⟨0, false, [p], []⟩ = c) (h0 : c ≠ 0) :
    Calls Try.prog 16 #[.slice (some ⟨E, 0, none⟩) 6 6, .int .u8 1, .agg #[.int .u8 0, .bool false, .slice (some ⟨B, 0, none⟩) 1 1, .slice none 0 0]] W fun e w' => e = .returned (.tuple #[.slice none 0 0, .int .i64 c]) ∧ Below W.heap.size W w' := by
  refine (lv16 W h B p hB hp c hc).mono ?_
  rintro e w' ⟨⟨-, rfl⟩ | ⟨h, -⟩, hb⟩
  · exact ⟨rfl, hb⟩
  · exact absurd h h0
/-- The table of the examples, with three cells that may differ. -/
structure ExH (E : Nat) (w : World) (a b : Sl Nm) (p : Nm) : Prop where
  h0 : w.heap[E]? = some (.cells #[.slice (some ⟨E + 2, 0, none⟩) 3 3, .slice (some ⟨E + 5, 0, none⟩) 1 1, .slice none 0 0, .slice none 0 0, .slice none 0 0, .slice none 0 0] 37 (0, 0))
  h1 : w.heap[E + 1]? = some (.cells #[.int .u8 1, .int .i64 1] 36 (0, 0))
  h2 : w.heap[E + 2]? = some (.cells #[.int .u8 0, .bool true, a.v, .slice none 0 0, .int .u8 0, .bool false, .slice none 0 0, .slice none 0 0, .int .u8 0, .bool false, .slice (some ⟨E + 1, 0, none⟩) 1 1, .slice none 0 0] 45 (0, 0))
  h4 : w.heap[E + 4]? = some (.cells #[.int .u8 p.y, .int .i64 p.n, .bool false, .int .u8 1] 56 (0, 0))
  h5 : w.heap[E + 5]? = some (.cells #[.int .u8 0, .bool true, b.v, .slice (some ⟨E + 4, 0, none⟩) 1 1] 45 (0, 0))
theorem Exm.exH {E : Nat} {w : World} (h : Exm E w) : ExH E w nilSl (exP E) ⟨1, 1⟩ := ⟨h.h0, h.h1, h.h2, h.h4, h.h5⟩
section
variable {E : Nat} {w : World} {a b : Sl Nm} {p : Nm}
theorem ExH.below (h : ExH E w a b p) {w' : World} (hb : Below w.heap.size w w') : ExH E w' a b p := by
  have g : ∀ {b : Nat} {o : Obj}, w.heap[b]? = some o → w'.heap[b]? = some o := fun hg => (hb.block _ (Array.getElem?_eq_some_iff.1 hg).1).trans hg
  exact ⟨g h.h0, g h.h1, g h.h2, g h.h4, g h.h5⟩
theorem ExH.r0 (h : ExH E w a b p) : w.cell? ⟨E, 0, none⟩ = some (.slice (some ⟨E + 2, 0, none⟩) 3 3) := by simp [World.cell?, h.h0]
theorem ExH.r1 (h : ExH E w a b p) : w.cell? ⟨E, 1, none⟩ = some (.slice (some ⟨E + 5, 0, none⟩) 1 1) := by simp [World.cell?, h.h0]
theorem ExH.t0 (h : ExH E w a b p) : w.cell? ⟨E + 2, 2, none⟩ = some a.v ∧ w.frozen? ⟨E + 2, 2, none⟩ = false := ⟨by simp [World.cell?, h.h2], by simp [World.frozen?, h.h2]⟩
theorem ExH.t1 (h : ExH E w a b p) : w.cell? ⟨E + 5, 2, none⟩ = some b.v ∧ w.frozen? ⟨E + 5, 2, none⟩ = false := ⟨by simp [World.cell?, h.h5], by simp [World.frozen?, h.h5]⟩
theorem ExH.q1 (h : ExH E w a b p) : w.cell? ⟨E + 5, 3, none⟩ = some (.slice (some ⟨E + 4, 0, none⟩) 1 1) := by simp [World.cell?, h.h5]
theorem ExH.p0 (h : ExH E w a b p) : w.cell? ⟨E + 4, 0, none⟩ = some (.int .u8 p.y) ∧ w.cell? ⟨E + 4, 1, none⟩ = some (.int .i64 p.n) ∧ w.frozen? ⟨E + 4, 0, none⟩ = false ∧ w.frozen? ⟨E + 4, 1, none⟩ = false := ⟨by simp [World.cell?, h.h4], by simp [World.cell?, h.h4], by simp [World.frozen?, h.h4], by simp [World.frozen?, h.h4]⟩
theorem oth {w : World} {b : Nat} {o : Obj} (h : w.heap[b]? = some o) (c : Addr) (v : Value) (hc : b ≠ c.block) : (w.setCell c v).heap[b]? = some o := (Below.heap_setCell w c v b hc).trans h
theorem ExH.setA (h : ExH E w a b p) (a' : Sl Nm) : ExH E (w.setCell ⟨E + 2, 2, none⟩ a'.v) a' b p :=
  ⟨oth h.h0 _ _ (by simp), oth h.h1 _ _ (by simp), by rw [heap_setCell_same w (E + 2) 2 _ 45 _ h.h2]; rfl, oth h.h4 _ _ (by simp), oth h.h5 _ _ (by simp)⟩
theorem ExH.setB (h : ExH E w a b p) (b' : Sl Nm) : ExH E (w.setCell ⟨E + 5, 2, none⟩ b'.v) a b' p :=
  ⟨oth h.h0 _ _ (by simp), oth h.h1 _ _ (by simp), oth h.h2 _ _ (by simp), oth h.h4 _ _ (by simp), by rw [heap_setCell_same w (E + 5) 2 _ 45 _ h.h5]; rfl⟩
theorem ExH.setP (h : ExH E w a b p) (p' : Nm) : ExH E ((w.setCell ⟨E + 4, 0, none⟩ (.int .u8 p'.y)).setCell ⟨E + 4, 1, none⟩ (.int .i64 p'.n)) a b p' :=
  ⟨oth (oth h.h0 _ _ (by simp)) _ _ (by simp), oth (oth h.h1 _ _ (by simp)) _ _ (by simp), oth (oth h.h2 _ _ (by simp)) _ _ (by simp), by
    have h1 : (w.setCell ⟨E + 4, 0, none⟩ (.int .u8 p'.y)).heap[E + 4]? = some (.cells #[.int .u8 p'.y, .int .i64 p.n, .bool false, .int .u8 1] 56 (0, 0)) := by rw [heap_setCell_same w (E + 4) 0 _ 56 _ h.h4]; rfl
    rw [heap_setCell_same _ (E + 4) 1 _ 56 _ h1]; rfl, oth (oth h.h5 _ _ (by simp)) _ _ (by simp)⟩
end
theorem lives_any (w : World) : Calls Try.prog 13 #[] w fun e w' => e = .returned (.bool true) ∧ Below w.heap.size w w' := by
  have K25 := Lib.hid (example_any w)
  obtain ⟨E, hE⟩ : ∃ E, w.heap.size = E := ⟨_, rfl⟩
  rw [hE] at K25
  have HE := Lib.hid hE
  have t19 := Lib.hid True.intro
  have t18 := Lib.hid True.intro
  have t20a := Lib.hid True.intro
  have t16a := Lib.hid True.intro
  have t16b := Lib.hid True.intro
  have t20b := Lib.hid True.intro
  have sn1 : ∀ W : World, (binOp .neq 9 (.string ⟨#[49, 46, 48, 32, 49, 46, 49, 32, 49, 46, 50, 32, 50, 46, 48, 32]⟩) (.string ⟨#[49, 46, 48, 32, 49, 46, 49, 32, 49, 46, 50, 32, 50, 46, 48, 32]⟩)).run Try.prog W = .ok (.bool false) W := fun _ => by kernel_rfl
  have sn2 : ∀ W : World, (binOp .neq 9 (.string ⟨#[49, 46, 48, 32, 49, 46, 49, 32]⟩) (.string ⟨#[49, 46, 48, 32, 49, 46, 49, 32]⟩)).run Try.prog W = .ok (.bool false) W := fun _ => by kernel_rfl
  have sn3 : ∀ W : World, (binOp .neq 9 (.string ⟨#[49, 46, 49, 32]⟩) (.string ⟨#[49, 46, 49, 32]⟩)).run Try.prog W = .ok (.bool false) W := fun _ => by kernel_rfl
  have ne1 : ∀ W : World, (binOp .neq 36 (.agg #[.int .u8 2, .int .i64 0]) (.agg #[.int .u8 2, .int .i64 0])).run Try.prog W = .ok (.bool false) W := fun _ => by kernel_rfl
  go_enter Try.func13, Try.ntmps13
  go_upto_region 5 with (first
    | (go_at_call 25; refine K25.out.mono ?_; rintro e w1 ⟨rfl, hx, hb⟩; have HX := Lib.hid hx; have HB := Lib.hid hb; clear hx hb)
    | (go_at_call 9; refine (lv9 _ HX.out).mono ?_; rintro e w2 ⟨a9, rfl, hl, hb⟩; have HL9 := Lib.hid hl.out; replace HB := Lib.hid (HB.out.trans (hb.mono (by have := HX.out.lt; omega))); replace HX := Lib.hid (HX.out.below hb); clear hb; clear hl)
    | (go_at_call 19; clear t19; refine (lv19a _ HX.out).mono ?_; rintro e w3 ⟨rfl, hb⟩; replace HL9 := Lib.hid ((HL9.out.below hb).mono hb.size); replace HB := Lib.hid (HB.out.trans (hb.mono (by have := HX.out.lt; omega))); replace HX := Lib.hid (HX.out.below hb); clear hb)
    | (go_at_call 19; refine (lv19b _ (HX.out.below (below1 _ _))).mono ?_; rintro e w4 ⟨rfl, hb⟩; have hb2 := (below1 w3 _).trans (hb.mono (below1 w3 _).size); replace HL9 := Lib.hid ((HL9.out.below hb2).mono hb2.size); have HK3 := Lib.hid hb; replace HB := Lib.hid (HB.out.trans (hb2.mono (by have := HX.out.lt; omega))); replace HX := Lib.hid (HX.out.below hb2); clear hb hb2))
  have hb4 := below1 w4 (.cells #[.int .u8 0, .int .i64 0] 36)
  have hA : w4.heap[w3.heap.size]? = some (.cells #[.int .u8 2, .int .i64 0] 36 (0, 0)) := (HK3.out.block w3.heap.size (by simp)).trans (heap_alloc_new w3 _)
  obtain ⟨BA, hBA⟩ : ∃ BA, w3.heap.size = BA := ⟨_, rfl⟩
  obtain ⟨W5, hW5⟩ : ∃ W5, w4.alloc (.cells #[.int .u8 0, .int .i64 0] 36) = W5 := ⟨_, rfl⟩
  rw [hBA] at hA ⊢
  replace hA := (hb4.block BA (Array.getElem?_eq_some_iff.1 hA).1).trans hA
  rw [hW5] at hb4 hA ⊢
  replace HL9 := Lib.hid ((HL9.out.below hb4).mono hb4.size)
  replace HB := Lib.hid (HB.out.trans (hb4.mono (by have := HX.out.lt; omega)))
  replace HX := Lib.hid (HX.out.below hb4)
  have HA := Lib.hid hA
  have a0 : W5.cell? ⟨BA, 0, none⟩ = some (.int .u8 2) := by simp [World.cell?, hA]
  have a1 : W5.cell? ⟨BA, 1, none⟩ = some (.int .i64 0) := by simp [World.cell?, hA]
  clear hb4 hW5 hBA hA HK3
  go_upto_region 7 with (first
    | (go_at_call 20; clear t20a; refine (lv20 _ a9 _ 4 4 _ rfl ex_t1 (by decide) HL9.out).mono ?_; rintro e x1 ⟨rfl, hb⟩; replace HB := Lib.hid (HB.out.trans (hb.mono (by have := HX.out.lt; omega))); replace HX := Lib.hid (HX.out.below hb); replace HA := Lib.hid ((hb.block BA (Array.getElem?_eq_some_iff.1 HA.out).1).trans HA.out); have hA := HA.out; replace a0 := (show World.cell? x1 ⟨BA, 0, none⟩ = some (.int .u8 2) by simp [World.cell?, hA]); replace a1 := (show World.cell? x1 ⟨BA, 1, none⟩ = some (.int .i64 0) by simp [World.cell?, hA]); clear hA hb)
    | (go_at_call 20; clear t20b; refine (lv20 _ b1 _ 2 2 _ rfl ex_t2 (by decide) HL1.out).mono ?_; rintro e x3 ⟨rfl, hb⟩; replace HB := Lib.hid (HB.out.trans (hb.mono (by have := HX.out.lt; omega))); replace HX := Lib.hid (HX.out.below hb); replace HA := Lib.hid ((hb.block BA (Array.getElem?_eq_some_iff.1 HA.out).1).trans HA.out); have hA := HA.out; replace a0 := (show World.cell? x3 ⟨BA, 0, none⟩ = some (.int .u8 2) by simp [World.cell?, hA]); replace a1 := (show World.cell? x3 ⟨BA, 1, none⟩ = some (.int .i64 0) by simp [World.cell?, hA]); clear hA hb)
    | (go_at_call 20; refine (lv20 _ b2 _ 1 1 _ rfl ex_t3 (by decide) HL2.out).mono ?_; rintro e x5 ⟨rfl, hb⟩; replace HB := Lib.hid (HB.out.trans (hb.mono (by have := HX.out.lt; omega))); replace HX := Lib.hid (HX.out.below hb); replace HA := Lib.hid ((hb.block BA (Array.getElem?_eq_some_iff.1 HA.out).1).trans HA.out); have hA := HA.out; replace a0 := (show World.cell? x5 ⟨BA, 0, none⟩ = some (.int .u8 2) by simp [World.cell?, hA]); replace a1 := (show World.cell? x5 ⟨BA, 1, none⟩ = some (.int .i64 0) by simp [World.cell?, hA]); clear hA hb)
    | (go_at_call 18; clear t18; refine (lv18 _ HX.out ⟨2, 0⟩ 1 0 (exR1 E (exP E) ⟨1, 1⟩) (exD E (exP E) ⟨1, 1⟩) rfl rfl rfl (by decide) [⟨1, 0⟩, ⟨1, 1⟩] (fun q hq => by simp [needL, exD, exP, Lp.q] at hq; rcases hq with rfl | rfl <;> (unfold Nm.wf; decide)) (Nat.le_of_ble_eq_true rfl) (by unfold Asc; decide) (fun q => by simp [needL, exD, exP, Lp.q]) 2 rfl).mono ?_; rintro e x2 ⟨b1, rfl, hl, hb⟩; have HL1 := hl; replace HB := Lib.hid (HB.out.trans (hb.mono (by have := HX.out.lt; omega))); replace HX := Lib.hid (HX.out.below hb); replace HA := Lib.hid ((hb.block BA (Array.getElem?_eq_some_iff.1 HA.out).1).trans HA.out); have hA := HA.out; replace a0 := (show World.cell? x2 ⟨BA, 0, none⟩ = some (.int .u8 2) by simp [World.cell?, hA]); replace a1 := (show World.cell? x2 ⟨BA, 1, none⟩ = some (.int .i64 0) by simp [World.cell?, hA]); clear hA hb; clear hl)
    | (go_at_call 18; refine (lv18 _ HX.out ⟨1, 2⟩ 0 2 (exR0 E nilSl) (exC E) rfl rfl rfl (by decide) [⟨1, 1⟩] (fun q hq => by simp [needL, exC, nilSl, Lp.q] at hq; subst hq; (unfold Nm.wf; decide)) (Nat.le_of_ble_eq_true rfl) (by unfold Asc; decide) (fun q => by simp [needL, exC, nilSl, Lp.q]) 1 rfl).mono ?_; rintro e x4 ⟨b2, rfl, hl, hb⟩; have HL2 := hl; replace HB := Lib.hid (HB.out.trans (hb.mono (by have := HX.out.lt; omega))); replace HX := Lib.hid (HX.out.below hb); replace HA := Lib.hid ((hb.block BA (Array.getElem?_eq_some_iff.1 HA.out).1).trans HA.out); have hA := HA.out; replace a0 := (show World.cell? x4 ⟨BA, 0, none⟩ = some (.int .u8 2) by simp [World.cell?, hA]); replace a1 := (show World.cell? x4 ⟨BA, 1, none⟩ = some (.int .i64 0) by simp [World.cell?, hA]); clear hA hb; clear hl))
  have HM0 : Hid (E + 6 ≤ (x5.alloc (.cells #[.int .u8 2, .int .i64 0] 36)).heap.size) := Lib.hid (by have := HX.out.lt; simp; omega)
  clear a0 a1 HA HL9 HL1 HL2
  go_upto_region 10 with (first
    | (go_at_call 16; clear t16a; refine (lv16ok _ (HX.out.below (below1 _ _)) _ (heap_alloc_new _ _)).mono ?_; rintro e y1 ⟨bt, rs, rfl, hT, hb⟩; have hb2 := (below1 x5 _).trans (hb.mono (below1 x5 _).size); replace HB := Lib.hid (HB.out.trans (hb2.mono (by have := HX.out.lt; omega))); replace HX := Lib.hid (HX.out.below hb2); have HT := Lib.hid hT.out.1; have HTT := Lib.hid hT.out.2; have HM5 := Lib.hid (show E + 6 ≤ (x5.alloc (.cells #[.int .u8 2, .int .i64 0] 36)).heap.size from HM0.out); clear hT hb hb2)
    | (go_at_call 16; clear t16b; refine (lv16no _ (HX.out.below (below1 _ _)) _ ⟨1, 1⟩ (heap_alloc_new _ _) (by unfold Nm.byte; decide) 8 ex_add2 (by decide)).mono ?_; rintro e y2 ⟨rfl, hb⟩; have hb2 := (below1 y1 _).trans (hb.mono (below1 y1 _).size); replace HB := Lib.hid (HB.out.trans (hb2.mono (by have := HX.out.lt; omega))); replace HX := Lib.hid (HX.out.below hb2); replace HT := Lib.hid (HT.out.below hb2); clear hb hb2)
    | (go_at_call 16; refine (lv16no _ (HX.out.below (below1 _ _)) _ ⟨2, 1⟩ (heap_alloc_new _ _) (by unfold Nm.byte; decide) 1 ex_add3 (by decide)).mono ?_; rintro e y3 ⟨rfl, hb⟩; have hb2 := (below1 y2 _).trans (hb.mono (below1 y2 _).size); replace HB := Lib.hid (HB.out.trans (hb2.mono (by have := HX.out.lt; omega))); replace HX := Lib.hid (HX.out.below hb2); replace HT := Lib.hid (HT.out.below hb2); clear hb hb2))
  have HEH := Lib.hid HX.out.exH
  have HM : Hid (E + 6 ≤ (x5.alloc (.cells #[.int .u8 2, .int .i64 0] 36)).heap.size ∧ (x5.alloc (.cells #[.int .u8 2, .int .i64 0] 36)).heap.size ≤ bt) := Lib.hid ⟨HM5.out, HTT.out.1⟩
  obtain ⟨M, hM⟩ : ∃ M, (x5.alloc (.cells #[.int .u8 2, .int .i64 0] 36)).heap.size = M := ⟨_, rfl⟩
  rw [hM] at HM HT HTT
  have hEy : E + 6 ≤ y3.heap.size := HX.out.lt
  have hr0 := HEH.out.r0
  have ht0 : y3.cell? ⟨E + 2, 2, none⟩ = some (.slice none 0 0) := HEH.out.t0.1
  have hf0 := HEH.out.t0.2
  have ht0a : (y3.alloc (.cells #[.int .u8 2, .int .i64 0] 36)).cell? ⟨E + 2, 2, none⟩ = some (.slice none 0 0) := (HEH.out.below (below1 y3 _)).t0.1
  have hf0a : (y3.alloc (.cells #[.int .u8 2, .int .i64 0] 36)).frozen? ⟨E + 2, 2, none⟩ = false := (HEH.out.below (below1 y3 _)).t0.2
  clear hM HX
  have hne2 : ¬ E + 2 = y3.heap.size := by omega
  go_upto_region 11 with fail
  have hEA := (HEH.out.below (below1 y3 (.cells #[.int .u8 2, .int .i64 0] 36))).setA ⟨some ⟨y3.heap.size, 0, none⟩, [⟨2, 0⟩], 1⟩
  have hBA : (((y3.alloc (.cells #[.int .u8 2, .int .i64 0] 36)).setCell ⟨E + 2, 2, none⟩ (.slice (some ⟨y3.heap.size, 0, none⟩) 1 1))).heap[y3.heap.size]? = some (.cells #[.int .u8 2, .int .i64 0] 36 (0, 0)) := oth (heap_alloc_new y3 _) _ _ (by simp only; omega)
  have hKA := (KeptF.alloc (fun g => M ≤ g ∧ g ≠ bt) y3 (.cells #[.int .u8 2, .int .i64 0] 36)).trans (.set (a := ⟨E + 2, 2, none⟩) (by have := HM.out; simp only; omega) (.slice (some ⟨y3.heap.size, 0, none⟩) 1 1))
  have hTA : Tbl bt (fun g => M ≤ g ∧ g ≠ bt) ((y3.alloc (.cells #[.int .u8 2, .int .i64 0] 36)).setCell ⟨E + 2, 2, none⟩ (.slice (some ⟨y3.heap.size, 0, none⟩) 1 1)) rs := HT.out.kept hKA ((Below.heap_setCell _ _ _ _ (by have := HM.out; simp only; omega)).trans (Below.heap_alloc y3 _ bt HT.out.lt))
  have hBB : Below E w ((y3.alloc (.cells #[.int .u8 2, .int .i64 0] 36)).setCell ⟨E + 2, 2, none⟩ (.slice (some ⟨y3.heap.size, 0, none⟩) 1 1)) := (HB.out.alloc (by omega) _).setCell (by simp only; omega) _
  obtain ⟨W10, hW10⟩ : ∃ W10, (y3.alloc (.cells #[.int .u8 2, .int .i64 0] 36)).setCell ⟨E + 2, 2, none⟩ (.slice (some ⟨y3.heap.size, 0, none⟩) 1 1) = W10 := ⟨_, rfl⟩
  have hEA' : ExH E W10 ⟨some ⟨y3.heap.size, 0, none⟩, [⟨2, 0⟩], 1⟩ (exP E) ⟨1, 1⟩ := by rw [← hW10]; exact hEA
  rw [hW10] at hBA hTA hBB ⊢
  obtain ⟨BN, hBN⟩ : ∃ BN, y3.heap.size = BN := ⟨_, rfl⟩
  rw [hBN] at hEA' hBA hEy ⊢
  have HEA := Lib.hid hEA'
  have HBA := Lib.hid hBA
  have HTA := Lib.hid hTA
  have HBB := Lib.hid hBB
  have HBN := Lib.hid hEy
  clear hEA hEA' hBA hKA hTA hBB hW10 hBN hr0 ht0 hf0 ht0a hf0a hne2 hEy HEH HT HB
  have hr1 := HEA.out.r1
  have ht1 : W10.cell? ⟨E + 5, 2, none⟩ = some (.slice (some ⟨E + 3, 0, none⟩) 1 1) := HEA.out.t1.1
  have hf1 := HEA.out.t1.2
  go_upto_region 12 with fail
  have hEB : ExH E (W10.setCell ⟨E + 5, 2, none⟩ (.slice none 0 0)) ⟨some ⟨BN, 0, none⟩, [⟨2, 0⟩], 1⟩ nilSl ⟨1, 1⟩ := HEA.out.setB nilSl
  have hBN2 : (W10.setCell ⟨E + 5, 2, none⟩ (.slice none 0 0)).heap[BN]? = some (.cells #[.int .u8 2, .int .i64 0] 36 (0, 0)) := oth HBA.out _ _ (by have := HBN.out; simp only; omega)
  have hTB : Tbl bt (fun g => M ≤ g ∧ g ≠ bt) (W10.setCell ⟨E + 5, 2, none⟩ (.slice none 0 0)) rs := HTA.out.kept (.set (by have := HM.out; simp only; omega) _) (Below.heap_setCell _ _ _ _ (by have := HM.out; simp only; omega))
  have hBC : Below E w (W10.setCell ⟨E + 5, 2, none⟩ (.slice none 0 0)) := HBB.out.setCell (by simp only; omega) _
  obtain ⟨W11, hW11⟩ : ∃ W11, W10.setCell ⟨E + 5, 2, none⟩ (.slice none 0 0) = W11 := ⟨_, rfl⟩
  rw [hW11] at hEB hBN2 hTB hBC ⊢
  have HEB := Lib.hid hEB
  have HBN2 := Lib.hid hBN2
  have HTB := Lib.hid hTB
  have HBC := Lib.hid hBC
  clear hEB hBN2 hTB hBC hW11 hr1 ht1 hf1
  have hr1 := HEB.out.r1
  have hq1 := HEB.out.q1
  obtain ⟨hp0, hp1, hg0, hg1⟩ := HEB.out.p0
  simp only at hp0 hp1
  go_upto_region 13 with fail
  have hEC : ExH E ((W11.setCell ⟨E + 4, 0, none⟩ (.int .u8 1)).setCell ⟨E + 4, 1, none⟩ (.int .i64 0)) ⟨some ⟨BN, 0, none⟩, [⟨2, 0⟩], 1⟩ nilSl ⟨1, 0⟩ := HEB.out.setP ⟨1, 0⟩
  have hBN3 : ((W11.setCell ⟨E + 4, 0, none⟩ (.int .u8 1)).setCell ⟨E + 4, 1, none⟩ (.int .i64 0)).heap[BN]? = some (.cells #[.int .u8 2, .int .i64 0] 36 (0, 0)) := oth (oth HBN2.out _ _ (by have := HBN.out; simp only; omega)) _ _ (by have := HBN.out; simp only; omega)
  have hTC : Tbl bt (fun g => M ≤ g ∧ g ≠ bt) ((W11.setCell ⟨E + 4, 0, none⟩ (.int .u8 1)).setCell ⟨E + 4, 1, none⟩ (.int .i64 0)) rs := (HTB.out.kept (.set (a := ⟨E + 4, 0, none⟩) (by have := HM.out; simp only; omega) _) (Below.heap_setCell _ _ _ _ (by have := HM.out; simp only; omega))).kept (.set (by have := HM.out; simp only; omega) _) (Below.heap_setCell _ _ _ _ (by have := HM.out; simp only; omega))
  have hBD : Below E w ((W11.setCell ⟨E + 4, 0, none⟩ (.int .u8 1)).setCell ⟨E + 4, 1, none⟩ (.int .i64 0)) := (HBC.out.setCell (by simp only; omega) _).setCell (by simp only; omega) _
  obtain ⟨W12, hW12⟩ : ∃ W12, (W11.setCell ⟨E + 4, 0, none⟩ (.int .u8 1)).setCell ⟨E + 4, 1, none⟩ (.int .i64 0) = W12 := ⟨_, rfl⟩
  rw [hW12] at hEC hBN3 hTC hBD ⊢
  clear hW12 hr1 hq1 hp0 hp1 hg0 hg1
  have hBl : BN < W12.heap.size := (Array.getElem?_eq_some_iff.1 hBN3).1
  have hok : Tb.ok W12.heap.size W12 (exT E ⟨some ⟨BN, 0, none⟩, [⟨2, 0⟩], 1⟩ nilSl ⟨1, 0⟩) := by
    refine exT_ok (by have := HBN.out; omega) hEC.h0 hEC.h1 hEC.h2 hEC.h4 hEC.h5 (lie_lit hBN3 rfl _ hBl) (.inl rfl) (Nat.le_of_ble_eq_true rfl) (Nat.le_of_ble_eq_true rfl) (fun q hq => ?_) (fun q hq => by cases hq) (by unfold Nm.byte; decide)
    simp only [List.mem_cons, List.not_mem_nil, or_false] at hq
    subst hq; unfold Nm.byte; decide
  have hC := count_any ⟨some ⟨bt, 0, none⟩, rs, 6⟩ W12.heap.size W12 (Nat.le_refl _) (hTC.ok 6 (by rw [HTT.out.2.1]; decide) HTT.out.2.2.2)
  rw [tot_sum, show Tb.sem ⟨some ⟨bt, 0, none⟩, rs, 6⟩ = addM EX 1 ⟨0, false, [⟨2, 0⟩], []⟩ from HTT.out.2.2.1, ex_tot1] at hC
  simp only [Sl.v, HTT.out.2.1] at hC
  have K11 := Lib.hid hC
  have K10 := Lib.hid (lv10 W12 (exT E ⟨some ⟨BN, 0, none⟩, [⟨2, 0⟩], 1⟩ nilSl ⟨1, 0⟩) 6 ex_check2 hok)
  have HBD := Lib.hid hBD
  clear hEC hBN3 hTC hBD hBl hok hC
  go_wp2_with (first
    | (go_at_call 11; refine K11.out.mono ?_; rintro e z1 ⟨rfl, rfl⟩)
    | (go_at_call 10; refine K10.out.mono ?_; rintro e z2 ⟨rfl, hb⟩; have HZ := Lib.hid (HBD.out.trans (hb.mono (by have := HEB.out; have := HBD.out.size; have := HE.out; omega))); clear hb))
  go_ret
  exact ⟨rfl, by rw [HE.out]; exact HZ.out⟩
end Go.Proofs.Ytgaofkbmnapogaa
namespace Go.Proofs.Ytgaofkbmnapogaa
open Go.RowKit Go.Sort
set_option maxRecDepth 1000000
set_option maxHeartbeats 8000000
theorem of_in1 (b o n cap BT LB : Nat) (fa : Option Addr) (fl : List Nm) (fc : Nat) (ma : Option Addr) (ml : List Nm) (mc : Nat) (i q : Nat) (bd : Int) (nwv : Bool) (xy : Nat) (xb xn : Bool) (ta : Option Addr) (tl : List Nat) (tc : Nat) (pa : Option Addr) (pl : List Nat) (pc : Nat) (w wI wc : World) (TF : List Nm × List Nm) (u11 u12 u13 u14 u16 u17 u18 u19 u20 u21 u22 u23 u24 u25 u26 u27 u28 u29 u30 u31 u32 u33 u34 u35 u36 u37 u38 u39 u40 u41 u42 u43 u44 u45 u46 u47 u48 u49 u50 u51 u52 u53 u54 u55 u56 u57 u58 u59 u60 u61 u62 u63 u64 u65 u66 u67 u68 u69 u70 u71 u72 u73 u74 u75 u76 u77 u78 u79 u80 u81 u82 u83 u84 u85 u86 u87 u88 u89 u90 u91 u92 u93 u94 u95 u96 u97 u98 u99 u100 u101 u102 u103 u104 u105 u106 u107 u108 u109 u110 u111 u112 u113 u114 u115 u116 u117 u118 u119 u120 u121 u122 u123 u124 u125 u126 u127 u128 u129 u130 u131 u132 u133 u134 u135 u136 u137 u138 u139 u140 u141 u142 u143 u144 u145 u146 u147 u148 u149 u150 u151 u152 u153 u154 u155 u156 u157 u158 u159 u160 u161 u162 u163 u164 u165 u166 u167 u168 u169 u170 u171 u172 u173 u174 u175 u176 u177 u178 u179 u180 u181 : Value)
    (HXO : Hid (Lu.ok BT w ⟨xy, xb, xn, ⟨ta, tl, tc⟩, ⟨pa, pl, pc⟩⟩)) (HC : Hid (∀ W, Below BT w W → ∃ b' o', (some ⟨b, o, none⟩ : Option Addr) = some ⟨b', o', none⟩ ∧ b' < BT ∧ W.cell? ⟨b', o' + i * 5, none⟩ = some (.int .u8 xy) ∧ W.cell? ⟨b', o' + i * 5 + 1, none⟩ = some (.bool xb) ∧ W.cell? ⟨b', o' + i * 5 + 2, none⟩ = some (.bool xn) ∧ W.cell? ⟨b', o' + i * 5 + 3, none⟩ = some (.slice ta tl.length tc) ∧ W.cell? ⟨b', o' + i * 5 + 4, none⟩ = some (.slice pa pl.length pc))) (HB : Hid (Below BT w wI)) (HBL : Hid (BT < LB)) (hi1 : i < n) (z1 : (i : Int) < (n : Int)) (HI : Hid (InB LB BT bd nwv (.slice fa fl.length fc) wc ⟨fa, fl, fc⟩ Sl.nil Sl.nil ∧ Below LB wI wc)) (HTF : Hid (thM (tl.take 4) fl = TF)) (hfl60 : fl.length ≤ 60)
    (Kp : Act → World → Prop) (Qx : Exit → Act → World → Prop)
    (hK : ∀ (ga : Option Addr) (gl : List Nm) (gc : Nat) (sa : Option Addr) (sl : List Nm) (sc : Nat) (k : Nat) (v16 v17 v18 v19 v20 v21 v22 v23 v24 v25 v26 v27 v28 v29 v30 v31 v32 v33 v34 v35 v36 v37 v38 v39 v40 v41 v42 v43 v44 v45 v46 v47 v48 v49 v50 v51 v52 v53 v54 v55 v56 v57 v58 v59 v60 v61 v62 v63 v64 v65 v66 v67 v68 v69 v70 v71 v72 v73 v74 v75 v76 v77 v78 v79 v80 v81 v82 v83 v84 v85 v86 v87 v88 v89 v90 v91 v92 v93 v94 v95 v96 v97 v98 v99 v100 v101 v102 v103 v104 v105 v106 v107 v108 v109 v110 v111 v112 v113 v114 v115 v116 v117 v118 v119 v120 v121 v122 v123 v124 v125 v126 v127 v128 v129 v130 v131 v132 v133 v134 v135 v136 v137 v138 v139 v140 v141 v142 v143 v144 v145 v146 v147 v148 v149 v150 v151 v152 v153 v154 v155 v156 v157 v158 v159 v160 v161 v162 v163 v164 v165 v166 v167 v168 v169 v170 v171 v172 v173 v174 v175 v176 v177 v178 v179 v180 v181 v11 : Value) (wx : World), Hid (InB LB BT bd nwv (.slice fa fl.length fc) wx ⟨ga, gl, gc⟩ ⟨sa, sl, sc⟩ Sl.nil ∧ Below LB wI wx ∧ TF = (sl, gl)) → Kp ⟨#[Value.slice (some ⟨b, o, none⟩) n cap, undef, Value.slice none 0 0, Value.slice none 0 0, Value.slice (some ⟨BT, 0, none⟩) 6 6, .slice ga gl.length gc, Value.slice ma ml.length mc, Value.int IntKind.i64 i, Value.int IntKind.i64 q, Value.pointer (some ⟨LB, 0, none⟩), .int .i64 k, v11, u12, u13, u14, Value.slice (some ⟨BT, 0, none⟩) 6 6, v16, v17, v18, v19, v20, v21, v22, v23, v24, v25, v26, v27, v28, v29, v30, v31, v32, v33, v34, v35, v36, v37, v38, v39, v40, v41, v42, v43, v44, v45, v46, v47, v48, v49, v50, v51, v52, v53, v54, v55, v56, v57, v58, v59, v60, v61, v62, v63, v64, v65, v66, v67, v68, v69, v70, v71, v72, v73, v74, v75, v76, v77, v78, v79, v80, v81, v82, v83, v84, v85, v86, v87, v88, v89, v90, v91, v92, v93, v94, v95, v96, v97, v98, v99, v100, v101, v102, v103, v104, v105, v106, v107, v108, v109, v110, v111, v112, v113, v114, v115, v116, v117, v118, v119, v120, v121, v122, v123, v124, v125, v126, v127, v128, v129, v130, v131, v132, v133, v134, v135, v136, v137, v138, v139, v140, v141, v142, v143, v144, v145, v146, v147, v148, v149, v150, v151, v152, v153, v154, v155, v156, v157, v158, v159, v160, v161, v162, v163, v164, v165, v166, v167, v168, v169, v170, v171, v172, v173, v174, v175, v176, v177, v178, v179, v180, v181, undef, undef], []⟩ wx) :
    Code.wp Try.prog blk8_2 (Exit.then Kp Qx) ⟨#[Value.slice (some ⟨b, o, none⟩) n cap, undef, Value.slice none 0 0, Value.slice none 0 0, Value.slice (some ⟨BT, 0, none⟩) 6 6, Value.slice fa fl.length fc, Value.slice ma ml.length mc, Value.int IntKind.i64 i, Value.int IntKind.i64 q, Value.pointer (some ⟨LB, 0, none⟩), Value.int IntKind.i64 0, u11, u12, u13, u14, Value.slice (some ⟨BT, 0, none⟩) 6 6, u16, u17, u18, u19, u20, u21, u22, u23, u24, u25, u26, u27, u28, u29, u30, u31, u32, u33, u34, u35, u36, u37, u38, u39, u40, u41, u42, u43, u44, u45, u46, u47, u48, u49, u50, u51, u52, u53, u54, u55, u56, u57, u58, u59, u60, u61, u62, u63, u64, u65, u66, u67, u68, u69, u70, u71, u72, u73, u74, u75, u76, u77, u78, u79, u80, u81, u82, u83, u84, u85, u86, u87, u88, u89, u90, u91, u92, u93, u94, u95, u96, u97, u98, u99, u100, u101, u102, u103, u104, u105, u106, u107, u108, u109, u110, u111, u112, u113, u114, u115, u116, u117, u118, u119, u120, u121, u122, u123, u124, u125, u126, u127, u128, u129, u130, u131, u132, u133, u134, u135, u136, u137, u138, u139, u140, u141, u142, u143, u144, u145, u146, u147, u148, u149, u150, u151, u152, u153, u154, u155, u156, u157, u158, u159, u160, u161, u162, u163, u164, u165, u166, u167, u168, u169, u170, u171, u172, u173, u174, u175, u176, u177, u178, u179, u180, u181, undef, undef], []⟩ wc := by
  conv => arg 2; whnf
  go_wp2_with fail
  go_loopg [5, 10] 5 (fun g v5 v10 wx => ∃ (ga : Option Addr) (gl : List Nm) (gc : Nat) (sa : Option Addr) (sl : List Nm) (sc : Nat) (k : Nat), v5 = .slice ga gl.length gc ∧ v10 = .int .i64 k ∧ k ≤ 4 ∧ g = 5 - k ∧ gl.length ≤ 60 ∧ Hid (InB LB BT bd nwv (.slice fa fl.length fc) wx ⟨ga, gl, gc⟩ ⟨sa, sl, sc⟩ Sl.nil ∧ Below LB wI wx ∧ TF = (sl ++ (thM ((tl.take 4).drop k) gl).1, (thM ((tl.take 4).drop k) gl).2)))
  case atStart => exact ⟨fa, fl, fc, none, [], 0, 0, rfl, rfl, by omega, by omega, hfl60, Lib.hid ⟨HI.out.1, HI.out.2, by rw [← HTF.out]; simp⟩⟩
  case round =>
    clear HI
    obtain ⟨ga, gl, gc, sa, sl, sc, k, rfl, rfl, hk, hg2, hgl60, HJ⟩ := hrel
    have HG2 := Lib.hid hg2
    clear hg2
    have HBJ : Hid (Below BT w wr) := Lib.hid (HB.out.trans (HJ.out.2.1.mono (Nat.le_of_lt HBL.out)))
    obtain ⟨b', o', hao, -, c0, c1, c2, c3, c4⟩ := HC.out _ HBJ.out
    cases hao
    by_cases hkl : k < tl.length
    · have hkz : (k : Int) < (tl.length : Int) := by omega
      by_cases hk4 : k < 4
      · have hkz4 : (k : Int) < 4 := by omega
        by_cases hgl : gl = []
        · subst hgl
          have hE : Hid (TF = (sl, [])) := Lib.hid (by rw [HJ.out.2.2, thM_nil, List.append_nil])
          go_wp2_with fail
          exact hK ga [] gc sa sl sc k _ _ _ _ _ _ _ _ _ _ _ _ _ _ _ _ _ _ _ _ _ _ _ _ _ _ _ _ _ _ _ _ _ _ _ _ _ _ _ _ _ _ _ _ _ _ _ _ _ _ _ _ _ _ _ _ _ _ _ _ _ _ _ _ _ _ _ _ _ _ _ _ _ _ _ _ _ _ _ _ _ _ _ _ _ _ _ _ _ _ _ _ _ _ _ _ _ _ _ _ _ _ _ _ _ _ _ _ _ _ _ _ _ _ _ _ _ _ _ _ _ _ _ _ _ _ _ _ _ _ _ _ _ _ _ _ _ _ _ _ _ _ _ _ _ _ _ _ _ _ _ _ _ _ _ _ _ _ _ _ _ _ _ _ _ _ _ _ (Lib.hid ⟨HJ.out.1, HJ.out.2.1, hE.out⟩)
        · have hgp : 0 < gl.length := List.length_pos_iff.2 hgl
          have hgz : (0 : Int) < (gl.length : Int) := by omega
          have hgn : ¬ (gl.length : Int) = 0 := by omega
          have hgb : ((gl.length : Int) == 0) = false := by simpa using hgl
          obtain ⟨c, hc⟩ : ∃ c, tl[k]? = some c := ⟨tl[k], List.getElem?_eq_getElem hkl⟩
          obtain ⟨tb, to_, hta, -, ct⟩ := (HXO.out.th.below HBJ.out).byte hc
          obtain rfl : ta = some ⟨tb, to_, none⟩ := hta
          have hcb : c ≤ 255 := HXO.out.tb c (List.mem_of_getElem? hc)
          obtain ⟨m, hm⟩ : ∃ m, c % gl.length = m := ⟨_, rfl⟩
          have hml : m < gl.length := by rw [← hm]; exact Nat.mod_lt _ hgp
          have hmz : (m : Int) < (gl.length : Int) := by omega
          have hmr : Int.tmod (c : Int) (gl.length : Int) = (m : Int) := by rw [← hm]; rfl
          obtain ⟨⟨py, pn⟩, hp⟩ : ∃ p, gl[m]? = some p := ⟨gl[m], List.getElem?_eq_getElem hml⟩
          obtain ⟨gb, g9, hgv, -, -⟩ := HJ.out.1.fr.form hgp
          simp only [Sl.v, Value.slice.injEq] at hgv
          obtain ⟨rfl, -, rfl⟩ := hgv
          have hlie := own_lie' Nm.enc_len HJ.out.1.fr
          obtain ⟨b9, o9, h9, -, p0, p1⟩ := hlie.nm hp
          simp only [Option.some.injEq, Addr.mk.injEq, and_true] at h9
          obtain ⟨rfl, rfl⟩ := h9
          simp only [Nat.zero_add] at p0 p1
          have HTM : Hid (TF = (sl ++ [(⟨py, pn⟩ : Nm)] ++ (thM ((tl.take 4).drop (k + 1)) (gl.take m ++ gl.drop (m + 1))).1, (thM ((tl.take 4).drop (k + 1)) (gl.take m ++ gl.drop (m + 1))).2)) := Lib.hid (by
            have h1 : (tl.take 4).drop k = c :: (tl.take 4).drop (k + 1) := by
              rw [List.drop_eq_getElem_cons (by rw [List.length_take]; omega), List.getElem_take]
              congr 1
              exact (List.getElem?_eq_some_iff.1 hc).2
            rw [HJ.out.2.2, h1, thM_cons (p := ⟨py, pn⟩) (by rw [hm]; exact hp), hm]
            simp)
          have HLIE := Lib.hid hlie
          have HML := Lib.hid hml
          clear hp hc hm hlie hml
          go_upto_region 14 with fail
          go_cut [11] from 53 to 102 (fun v11 wx => v11 = .int .i64 m ∧ ∃ (sa' : Option Addr) (sl' : List Nm) (sc' : Nat), sl' = sl ++ [(⟨py, pn⟩ : Nm)] ∧ Hid (InB LB BT bd nwv (.slice fa fl.length fc) wx ⟨some ⟨gb, 0, none⟩, gl, gc⟩ ⟨sa', sl', sc'⟩ Sl.nil ∧ Below LB wI wx))
          case first =>
            have hJ := HJ.out.1.below ((Below.refl _ _).drew)
            have x2 := hJ.c2
            have x2a : (wr.alloc (.cells #[.int .u8 py, .int .i64 pn] 36)).drew.cell? ⟨LB, 2, none⟩ = some (.slice sa sl.length sc) := (hJ.below (below1 _ (.cells #[.int .u8 py, .int .i64 pn] 36))).c2
            simp only [Sl.v] at x2
            have p0' : wr.drew.cell? ⟨gb, m * 2, none⟩ = some (.int .u8 py) := p0
            have p1' : wr.drew.cell? ⟨gb, m * 2 + 1, none⟩ = some (.int .i64 pn) := p1
            have hsz : LB + 1 ≤ wr.drew.heap.size := hJ.lt
            have hsl : sl.length ≤ 1000 := by
              have h1 := congrArg (fun p => p.1.length) HJ.out.2.2
              have h2 : TF.1.length ≤ 4 := by
                rw [← HTF.out]
                have := thM_len (tl.take 4) fl
                rw [List.length_take] at this
                omega
              simp only [List.length_append] at h1
              omega
            have hHJ := Lib.hid hJ
            clear hJ
            refine wp_region_noPanic ?_
            go_region_law ((refine step_app_rec kdNm (l := sl) (x := ⟨py, pn⟩) (by rfl) (by rfl) (by rfl) (by rfl) (hHJ.out.th.alloc _) (rec_new Nm.enc _ 36 _) (by omega) (Nat.le_trans hsz (by simp)) ?_; intro v5 w5 ho5 hg5 hat5; obtain ⟨⟨a5, l5, c5⟩, rfl, -⟩ := own_lie Nm.enc_len ho5 rfl; obtain ⟨t5, -, f5⟩ := (hHJ.out.below (below1 _ _)).after hg5 (fun e => hHJ.out.tne _ e rfl); have f52 := f5 2; simp only [Sl.v] at t5 ho5 hat5 ⊢; have HA5 := Lib.hid (And.intro ho5 (And.intro hg5 hat5)); clear ho5 hg5 hat5 f5))
            all_goals (
              refine NoPanic.normal ?_
              go_wp2_with fail
              go_meet
              obtain ⟨⟨a6, l6, c6⟩, hv, hl, hI⟩ := (hHJ.out.below (below1 _ _)).appTh HA5.out.2.1 HA5.out.1 HA5.out.2.2
              exact ⟨rfl, a6, l6, c6, hl, Lib.hid ⟨hI, ((((HJ.out.2.1.drew).alloc (by have := HJ.out.1.lt; exact Nat.le_of_lt this) _).grown HA5.out.2.1 (by simp; have := HJ.out.1.lt; omega) (fun g e => by have := (hHJ.out.th.lt g e).1; omega))).setCell (Nat.le_refl _) _⟩⟩)
          case rest =>
            obtain ⟨rfl, sa', sl', sc', hsl', HJ2⟩ := hcut
            have HSL := Lib.hid hsl'
            have hJ := HJ2.out.1
            have hlie := own_lie' Nm.enc_len hJ.fr
            have hgbl : gb < wc.heap.size := (hJ.fr.lt gb rfl).2
            have hx1 := hlie.part Nm.enc_len 0 m
            have hx2 := hlie.part Nm.enc_len (m + 1) gl.length
            simp only [Nat.zero_mul, Nat.zero_add, List.drop_zero] at hx1 hx2
            rw [List.take_of_length_le (by simp)] at hx2
            have hgc : gl.length ≤ gc := by
              rcases hJ.fr.2 with ⟨h, _⟩ | ⟨g0, c0, cur, h, _, _, hn, _⟩
              · cases h
              · simp only [Sl.v, Value.slice.injEq] at h
                obtain ⟨-, -, rfl⟩ := h
                exact hn
            obtain ⟨m1, hm1⟩ : ∃ m1, m + 1 = m1 := ⟨_, rfl⟩
            have hw1 : IntKind.i64.wrap ((m : Int) + 1) = (m1 : Int) := by rw [← hm1]; exact IntWalk.i64_in _ (by have := HML.out; omega)
            have hn1 : (m1 : Int) ≤ (gl.length : Int) := by have := HML.out; omega
            have hgcz : (gl.length : Int) ≤ (gc : Int) := by omega
            have hmcz : (m : Int) ≤ (gc : Int) := by have := HML.out; omega
            have hm0 : (0 : Int) ≤ (m : Int) := by omega
            have hm10 : (0 : Int) ≤ (m1 : Int) := by omega
            rw [hm1] at hx2
            have HX1 : Hid (∀ W, Below wc.heap.size wc W → ∀ j u, (rcells Nm.enc (gl.take m))[j]? = some u → W.cell? ((⟨gb, 0, none⟩ : Addr).add j) = some u) := Lib.hid fun W hW j u hj => (hW.cell (p := (⟨gb, 0, none⟩ : Addr).add j) (by rw [Addr.add_lit]; exact hgbl)).trans (hx1 j u hj)
            obtain ⟨AD, hAD⟩ : ∃ AD : Addr, (if gc = m1 then some ⟨gb, 0, none⟩ else some ⟨gb, m1 * 2, none⟩ : Option Addr) = some AD := by split <;> exact ⟨_, rfl⟩
            have HX2 : Hid (∀ W, Below wc.heap.size wc W → ∀ j u, (rcells Nm.enc (gl.drop m1))[j]? = some u → W.cell? (AD.add j) = some u) := Lib.hid fun W hW j u hj => by
              by_cases hgm : gc = m1
              · rw [List.drop_eq_nil_of_le (by omega)] at hj
                simp [rcells] at hj
              · rw [if_neg hgm] at hAD
                obtain rfl := Option.some.inj hAD
                exact (hW.cell (p := (⟨gb, m1 * 2, none⟩ : Addr).add j) (by rw [Addr.add_lit]; exact hgbl)).trans (hx2 j u hj)
            have HAD := Lib.hid hAD
            clear hAD
            have HM1 := Lib.hid hm1
            have HTMLEN : Hid ((gl.take m).length = m) := Lib.hid (by rw [List.length_take]; have := HML.out; omega)
            clear hsl' hJ hlie hgbl hx1 hx2 hgc hm1 p0 p1 c0 c1 c2 c3 c4 ct HJ HBJ
            go_upto_region 15 with fail
            refine wp_region_noPanic ?_
            go_region_law ((first
              | (refine step_app_recs kdNm (N := wc.heap.size) (v := .slice (some ⟨wc.heap.size, 0, none⟩) 0 0) (l := []) (l2 := gl.take m) (ad := ⟨gb, 0, none⟩) (n := m) (c := gc) (by rfl) (by rfl) (by rfl) (by rfl) HTMLEN.out.symm (World.ownsRow_made wc.drew #[] 0 (Nat.le_refl _) (by decide) rfl) (HX1.out _ ((below1 wc _).drew)) (by rw [HTMLEN.out]; simp only [List.length_nil]; omega) (by simp) ?_; intro v6 w6 ho6 hg6 hat6; have HO6 : Hid (w6.ownsRow wc.heap.size 36 2 v6 (gl.take m).length (rcells Nm.enc (gl.take m))) := Lib.hid ho6; have HB6 : Hid (Below wc.heap.size wc w6) := Lib.hid (((below1 wc _).drew).grown hg6 (by simp) (fun g e => by cases e; exact Nat.le_refl _)); clear ho6 hg6 hat6)
              | (refine step_app_recs kdNm (N := wc.heap.size) (v := v6) (l := gl.take m) (l2 := gl.drop m1) (ad := AD) (n := gl.length - m1) (c := gc - m1) (by rfl) (by rfl) (by rfl) (by exact congrArg (fun p => Value.slice p (gl.length - m1) (gc - m1)) HAD.out) (List.length_drop ..).symm HO6.out (HX2.out _ HB6.out) (by rw [HTMLEN.out, List.length_drop]; omega) HB6.out.size ?_; intro v7 w7 ho7 hg7 hat7; obtain ⟨⟨a7, l7, c7⟩, rfl, hl7, -⟩ := own_lie Nm.enc_len ho7 rfl; have HO7 := Lib.hid (And.intro hl7 ho7); have HB7 := Lib.hid (HB6.out.grown hg7 HB6.out.size (fun g e => (HO6.out.lt g e).1)); simp only [Sl.v] at HO7 ⊢; clear ho7 hg7 hat7 hl7)))
            all_goals (
              refine NoPanic.normal ?_
              have HFR : Hid (w7.ownsRow wc.heap.size 36 2 (.slice a7 l7.length c7) l7.length (rcells Nm.enc l7)) := Lib.hid (by have h := HO7.out.2; rw [← HO7.out.1] at h; exact h)
              go_wp2_with fail
              all_goals (
                go_roundg (5 - (k + 1))
                case measure => have := HG2.out; omega
                case rel =>
                  refine ⟨a7, l7, c7, sa', sl', sc', k + 1, rfl, by go_num, by omega, by omega, ?_, Lib.hid ⟨HJ2.out.1.newFree (fs' := ⟨a7, l7, c7⟩) HB7.out HFR.out ?_, HJ2.out.2.trans (HB7.out.mono (Nat.le_of_lt HJ2.out.1.lt)), ?_⟩⟩
                  · have h := HO7.out.1
                    have h2 := HM1.out
                    have h3 := HTMLEN.out
                    rw [h, List.length_append, h3, List.length_drop]
                    omega
                  · exact Nat.le_trans (Nat.le_of_lt HBL.out) (Nat.le_of_lt HJ2.out.1.lt)
                  · have h := HO7.out.1
                    rw [HTM.out, h, HSL.out, ← HM1.out]))
      · have hkz4 : ¬ (k : Int) < 4 := by omega
        have hE : Hid (TF = (sl, gl)) := Lib.hid (by rw [HJ.out.2.2, List.drop_eq_nil_of_le (by rw [List.length_take]; omega)]; simp [thM])
        go_wp2_with fail
        exact hK ga gl gc sa sl sc k _ _ _ _ _ _ _ _ _ _ _ _ _ _ _ _ _ _ _ _ _ _ _ _ _ _ _ _ _ _ _ _ _ _ _ _ _ _ _ _ _ _ _ _ _ _ _ _ _ _ _ _ _ _ _ _ _ _ _ _ _ _ _ _ _ _ _ _ _ _ _ _ _ _ _ _ _ _ _ _ _ _ _ _ _ _ _ _ _ _ _ _ _ _ _ _ _ _ _ _ _ _ _ _ _ _ _ _ _ _ _ _ _ _ _ _ _ _ _ _ _ _ _ _ _ _ _ _ _ _ _ _ _ _ _ _ _ _ _ _ _ _ _ _ _ _ _ _ _ _ _ _ _ _ _ _ _ _ _ _ _ _ _ _ _ _ _ _ (Lib.hid ⟨HJ.out.1, HJ.out.2.1, hE.out⟩)
    · have hkz : ¬ (k : Int) < (tl.length : Int) := by omega
      have hE : Hid (TF = (sl, gl)) := Lib.hid (by rw [HJ.out.2.2, List.drop_eq_nil_of_le (by rw [List.length_take]; omega)]; simp [thM])
      go_wp2_with fail
      exact hK ga gl gc sa sl sc k _ _ _ _ _ _ _ _ _ _ _ _ _ _ _ _ _ _ _ _ _ _ _ _ _ _ _ _ _ _ _ _ _ _ _ _ _ _ _ _ _ _ _ _ _ _ _ _ _ _ _ _ _ _ _ _ _ _ _ _ _ _ _ _ _ _ _ _ _ _ _ _ _ _ _ _ _ _ _ _ _ _ _ _ _ _ _ _ _ _ _ _ _ _ _ _ _ _ _ _ _ _ _ _ _ _ _ _ _ _ _ _ _ _ _ _ _ _ _ _ _ _ _ _ _ _ _ _ _ _ _ _ _ _ _ _ _ _ _ _ _ _ _ _ _ _ _ _ _ _ _ _ _ _ _ _ _ _ _ _ _ _ _ _ _ _ _ _ (Lib.hid ⟨HJ.out.1, HJ.out.2.1, hE.out⟩)
end Go.Proofs.Ytgaofkbmnapogaa
