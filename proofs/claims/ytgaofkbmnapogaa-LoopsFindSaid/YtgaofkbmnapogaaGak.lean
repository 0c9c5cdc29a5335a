import Derived.Test.YtgaofkbmnapogaaGaj
import Derived.Deep.CutBlock
import Derived.Deep.CutRange
import Derived.ProofKit
import Derived.Deep.Slices
import Derived.Deep.Strs
import Derived.OpenShut
import Derived.Lib.SmallJoins
import Derived.Test.YtgaofkbmnapogaaRows
namespace Go.Proofs.Ytgaofkbmnapogaa
open Go.RowKit Go.Sort
section
variable {α : Type} {enc : α → List Value} {T e k bytes : Nat} {zero : Value}
theorem run_app_recs (K : Kd enc T e k bytes zero) (w : World) (N ty : Nat) (v : Value) (l : List α) (hown : w.ownsRow N e k v l.length (rcells enc l)) (l2 : List α) (a : Addr) (c : Nat) (hx : ∀ j u, (rcells enc l2)[j]? = some u → w.cell? (a.add j) = some u) (hl : l.length + l2.length ≤ 100000) (hN : N ≤ w.heap.size) :
    ∃ v' w', (Builtin.append_ #[T, T] ty #[v, .slice (some a) l2.length c]).run Try.prog w = .ok v' w' ∧ w'.ownsRow N e k v' (l ++ l2).length (rcells enc (l ++ l2)) ∧ w.grownBy w' v.ownBlock ∧ (v'.ownBlock = v.ownBlock ∨ v'.ownBlock = some w.heap.size) := by
  obtain ⟨i0, hi, hz0, hz1, hz2⟩ := info_parts' K.hi
  obtain ⟨v', w', g1, g2, g3, _, g5⟩ := run_append_own_at (P := Try.prog) w N T ty e i0 zero k bytes K.hT hi hz0 hz1 hz2 K.hz K.k0 v l.length (rcells enc l) hown a l2.length c (rcells enc l2) (rcells_length enc k K.hk l2) hx (rcells_one enc K.h1 _) (by unfold maxLen; omega) (by have := K.hb; have := Nat.mul_le_mul hl K.hb; omega) hN
  exact ⟨v', w', g1, by rw [rcells_append, List.length_append]; exact g2, g3, g5⟩
theorem step_app_recs (K : Kd enc T e k bytes zero) {w : World} {ops : Array Oper} {o : Oper} {a : Act} {C : Act → World → Prop} {Q : Exit → Act → World → Prop} {E : Prop} {s t : Tmp} {N : Nat} {v : Value} {l l2 : List α} {ad : Addr} {n c : Nat} (hg0 : o.guard = none)
    (hop : o.op = Op.call { callee := Callee.builtin Builtin.append, args := #[.tmp s, .tmp t], argTypes := #[T, T] }) (hs : a.eval (.tmp s) = v) (ht : a.eval (.tmp t) = .slice (some ad) n c) (hn : n = l2.length) (hown : w.ownsRow N e k v l.length (rcells enc l)) (hx : ∀ j u, (rcells enc l2)[j]? = some u → w.cell? (ad.add j) = some u) (hl : l.length + l2.length ≤ 100000) (hN : N ≤ w.heap.size)
    (hK : ∀ v' w', w'.ownsRow N e k v' (l ++ l2).length (rcells enc (l ++ l2)) → w.grownBy w' v.ownBlock → (v'.ownBlock = v.ownBlock ∨ v'.ownBlock = some w.heap.size) → C (a.put o.dst v') w') :
    if Region.wanted o (yielded ops a.tmps) = true then Oper.wp Try.prog o a w C Q else E := by
  have hw : Region.wanted o (yielded ops a.tmps) = true := by simp [Region.wanted, hg0]
  rw [if_pos hw]
  subst hn
  obtain ⟨v', w', hr, h1, h2, h3⟩ := run_app_recs K w N o.type v l hown l2 ad c hx hl hN
  unfold Oper.wp execOp
  simp only [hop, resolve, invoke, builtin, Sem.run_bind, Sem.run_pure, Result.andThen_ok, List.map_toArray, List.map_cons, List.map_nil, hs, ht, hr]
  exact hK _ _ h1 h2 h3
end
/-- The loop that a law makes, in a box of its own, and the free names. -/
structure InB (LB BT : Nat) (bd : Int) (nwv : Bool) (fv0 : Value) (w : World) (fs ts : Sl Nm) (ps : Sl Pa) : Prop where
  box : w.heap[LB]? = some (.cells #[.int .u8 bd, .bool nwv, ts.v, ps.v] 45 (0, 0))
  th : w.ownsRow (LB + 1) 36 2 ts.v ts.l.length (rcells Nm.enc ts.l)
  pa : w.ownsRow (LB + 1) 56 4 ps.v ps.l.length (rcells Pa.enc ps.l)
  fr : w.ownsRow BT 36 2 fs.v fs.l.length (rcells Nm.enc fs.l)
  ft : ∀ g, fs.v.ownBlock = some g → ts.v.ownBlock ≠ some g
  fp : ∀ g, fs.v.ownBlock = some g → ps.v.ownBlock ≠ some g
  tp : ∀ g, ts.v.ownBlock = some g → ps.v.ownBlock ≠ some g
  old : ∀ g, fs.v.ownBlock = some g → g ≠ LB ∧ (fv0.ownBlock = some g ∨ LB < g)
section
variable {LB BT : Nat} {bd : Int} {nwv : Bool} {fv0 : Value} {w : World} {fs ts : Sl Nm} {ps : Sl Pa}
theorem InB.lt (h : InB LB BT bd nwv fv0 w fs ts ps) : LB < w.heap.size := (Array.getElem?_eq_some_iff.1 h.box).1
theorem InB.below (h : InB LB BT bd nwv fv0 w fs ts ps) {w' : World} (hb : Below w.heap.size w w') : InB LB BT bd nwv fv0 w' fs ts ps :=
  ⟨(hb.block LB h.lt).trans h.box, below_owns h.th hb, below_owns h.pa hb, below_owns h.fr hb, h.ft, h.fp, h.tp, h.old⟩
theorem InB.c2 (h : InB LB BT bd nwv fv0 w fs ts ps) : w.cell? ⟨LB, 2, none⟩ = some ts.v := by simp [World.cell?, h.box]
theorem InB.c3 (h : InB LB BT bd nwv fv0 w fs ts ps) : w.cell? ⟨LB, 3, none⟩ = some ps.v := by simp [World.cell?, h.box]
theorem InB.fz (h : InB LB BT bd nwv fv0 w fs ts ps) (k : Nat) : w.frozen? ⟨LB, k, none⟩ = false := by simp [World.frozen?, h.box]
theorem InB.tne (h : InB LB BT bd nwv fv0 w fs ts ps) : ∀ g, ts.v.ownBlock = some g → g ≠ LB := fun g e => by have := (h.th.lt g e).1; omega
theorem InB.pne (h : InB LB BT bd nwv fv0 w fs ts ps) : ∀ g, ps.v.ownBlock = some g → g ≠ LB := fun g e => by have := (h.pa.lt g e).1; omega
theorem InB.after (h : InB LB BT bd nwv fv0 w fs ts ps) {w' : World} {row : Option Nat} (hg : w.grownBy w' row) (hr : row ≠ some LB) : w'.cell? ⟨LB, 2, none⟩ = some ts.v ∧ w'.cell? ⟨LB, 3, none⟩ = some ps.v ∧ ∀ k, w'.frozen? ⟨LB, k, none⟩ = false := by
  have hb := (hg.block LB h.lt fun e => hr e.symm).trans h.box
  exact ⟨by simp [World.cell?, hb], by simp [World.cell?, hb], fun k => by simp [World.frozen?, hb]⟩
theorem InB.appTh (h : InB LB BT bd nwv fv0 w fs ts ps) {w' : World} {v' : Value} {p : Nm} (hg : w.grownBy w' ts.v.ownBlock) (ho : w'.ownsRow (LB + 1) 36 2 v' (ts.l ++ [p]).length (rcells Nm.enc (ts.l ++ [p]))) (hat : v'.ownBlock = ts.v.ownBlock ∨ v'.ownBlock = some w.heap.size) :
    ∃ ts' : Sl Nm, v' = ts'.v ∧ ts'.l = ts.l ++ [p] ∧ InB LB BT bd nwv fv0 (w'.setCell ⟨LB, 2, none⟩ v') fs ts' ps := by
  obtain ⟨ts', hv, hl, -⟩ := own_lie Nm.enc_len ho rfl
  subst hv
  rw [← hl] at ho
  have hset : w'.grownBy (w'.setCell ⟨LB, 2, none⟩ ts'.v) (some LB) := grownBy_setCellAt w' LB 2 _
  have hnew : ∀ g, ts'.v.ownBlock = some g → ts.v.ownBlock = some g ∨ g = w.heap.size := fun g e => by
    rcases hat with h1 | h1
    · exact .inl (h1 ▸ e)
    · rw [h1] at e; exact .inr (Option.some.inj e).symm
  refine ⟨ts', rfl, hl, ?_, own_keep ho hset fun g e e2 => ?_, own_keep (own_keep h.pa hg fun g e e2 => h.tp g e2 e) hset fun g e e2 => h.pne g e (Option.some.inj e2).symm, own_keep (own_keep h.fr hg fun g e e2 => h.ft g e e2) hset fun g e e2 => (h.old g e).1 (Option.some.inj e2).symm, fun g e e2 => ?_, h.fp, fun g e e2 => ?_, h.old⟩
  · have hb : w'.heap[LB]? = some (.cells #[.int .u8 bd, .bool nwv, ts.v, ps.v] 45 (0, 0)) := (hg.block LB h.lt fun e => h.tne LB e.symm rfl).trans h.box
    rw [heap_setCell_same w' LB 2 _ 45 _ hb]; rfl
  · have := (ho.lt g e).1; have := Option.some.inj e2; omega
  · rcases hnew g e2 with e2 | rfl
    · exact h.ft g e e2
    · have := (h.fr.lt _ e).2; omega
  · rcases hnew g e with e | rfl
    · exact h.tp g e e2
    · have := (h.pa.lt _ e2).2; omega
theorem InB.appPa (h : InB LB BT bd nwv fv0 w fs ts ps) {w' : World} {v' : Value} {p : Pa} (hg : w.grownBy w' ps.v.ownBlock) (ho : w'.ownsRow (LB + 1) 56 4 v' (ps.l ++ [p]).length (rcells Pa.enc (ps.l ++ [p]))) (hat : v'.ownBlock = ps.v.ownBlock ∨ v'.ownBlock = some w.heap.size) :
    ∃ ps' : Sl Pa, v' = ps'.v ∧ ps'.l = ps.l ++ [p] ∧ InB LB BT bd nwv fv0 (w'.setCell ⟨LB, 3, none⟩ v') fs ts ps' := by
  obtain ⟨ps', hv, hl, -⟩ := own_lie Pa.enc_len ho rfl
  subst hv
  rw [← hl] at ho
  have hset : w'.grownBy (w'.setCell ⟨LB, 3, none⟩ ps'.v) (some LB) := grownBy_setCellAt w' LB 3 _
  have hnew : ∀ g, ps'.v.ownBlock = some g → ps.v.ownBlock = some g ∨ g = w.heap.size := fun g e => by
    rcases hat with h1 | h1
    · exact .inl (h1 ▸ e)
    · rw [h1] at e; exact .inr (Option.some.inj e).symm
  refine ⟨ps', rfl, hl, ?_, own_keep (own_keep h.th hg fun g e e2 => h.tp g e e2) hset fun g e e2 => h.tne g e (Option.some.inj e2).symm, own_keep ho hset fun g e e2 => ?_, own_keep (own_keep h.fr hg fun g e e2 => h.fp g e e2) hset fun g e e2 => (h.old g e).1 (Option.some.inj e2).symm, h.ft, fun g e e2 => ?_, fun g e e2 => ?_, h.old⟩
  · have hb : w'.heap[LB]? = some (.cells #[.int .u8 bd, .bool nwv, ts.v, ps.v] 45 (0, 0)) := (hg.block LB h.lt fun e => h.pne LB e.symm rfl).trans h.box
    rw [heap_setCell_same w' LB 3 _ 45 _ hb]; rfl
  · have := (ho.lt g e).1; have := Option.some.inj e2; omega
  · rcases hnew g e2 with e2 | rfl
    · exact h.fp g e e2
    · have := (h.fr.lt _ e).2; omega
  · rcases hnew g e2 with e2 | rfl
    · exact h.tp g e e2
    · have := (h.th.lt _ e).2; omega
/-- The free names are laid anew in memory that is new. -/
theorem InB.newFree (h : InB LB BT bd nwv fv0 w fs ts ps) {w' : World} (hb : Below w.heap.size w w') {fs' : Sl Nm} (ho : w'.ownsRow w.heap.size 36 2 fs'.v fs'.l.length (rcells Nm.enc fs'.l)) (hBT : BT ≤ w.heap.size) : InB LB BT bd nwv fv0 w' fs' ts ps := by
  have hlt := h.lt
  have hge : ∀ g, fs'.v.ownBlock = some g → w.heap.size ≤ g := fun g e => (ho.lt g e).1
  exact ⟨(hb.block LB h.lt).trans h.box, below_owns h.th hb, below_owns h.pa hb, ownsRow_mono ho hBT, fun g e e2 => by have := hge g e; have := (h.th.lt g e2).2; omega, fun g e e2 => by have := hge g e; have := (h.pa.lt g e2).2; omega, h.tp, fun g e => by
    have := hge g e
    exact ⟨by omega, .inr (by omega)⟩⟩
theorem InB.join {F : Nat → Prop} {rs : List (Sl Lp)} {mv : Value} {T : List (List Lq)} {fr md : List Nm} {w0 : World} (h : OfS BT F w0 rs fv0 mv T fr md) (hL : w0.heap.size = LB) (hb : Below LB w0 w) (hB : InB LB BT bd nwv fv0 w fs ts ps) (hbt : BT < LB)
    (lt : ts.l.length ≤ 100) (lp : ps.l.length ≤ 100) (b1 : ∀ p ∈ ts.l, p.byte) (b2 : ∀ p ∈ ps.l, p.id.byte ∧ 0 ≤ p.d ∧ p.d ≤ 255) (b3 : 0 ≤ bd ∧ bd ≤ 255) :
    ∃ F' : Nat → Prop, OfS BT F' w rs fs.v mv T fs.l md ∧ Lp.inF F' w ⟨bd, nwv, ts, ps⟩ := by
  subst hL
  have h1 := h.below hb
  have hoff : ∀ g, fs.v.ownBlock = some g → Fill.off BT F rs g := fun g e => by
    rcases (hB.old g e).2 with e2 | e2
    · exact h.foff g e2
    · refine ⟨by omega, fun hF => by have := (h.fill.ltF g hF).2; omega, fun r hr e3 => ?_⟩
      obtain ⟨i, hi⟩ := List.mem_iff_getElem?.1 hr
      have := ((h.fill.own i r hi).lt g e3).2
      omega
  have hfm : ∀ g, fs.v.ownBlock = some g → mv.ownBlock ≠ some g := fun g e e3 => by
    rcases (hB.old g e).2 with e2 | e2
    · exact h.fm g e2 e3
    · have := (h.made.lt g e3).2; omega
  have h2 := h1.newFree (fr' := fs.l) hB.fr hoff hfm
  have h3 := h2.moreF (G := fun g => w0.heap.size < g ∧ g < w.heap.size ∧ (ts.v.ownBlock = some g ∨ ps.v.ownBlock = some g)) fun g hg => by
    refine ⟨by omega, hg.2.1, by omega, fun r hr e => ?_, fun e => ?_, fun e => ?_⟩
    · obtain ⟨i, hi⟩ := List.mem_iff_getElem?.1 hr
      have := ((h.fill.own i r hi).lt g e).2
      omega
    · exact hg.2.2.elim (hB.ft g e) (hB.fp g e)
    · have := (h.made.lt g e).2; omega
  refine ⟨_, h3, ⟨(inF_of_own Nm.enc_len hB.th).mono fun g hg => .inr ⟨by have := (hB.th.lt g hg).1; omega, (hB.th.lt g hg).2, .inl hg⟩, (inF_of_own Pa.enc_len hB.pa).mono fun g hg => .inr ⟨by have := (hB.pa.lt g hg).1; omega, (hB.pa.lt g hg).2, .inr hg⟩, lt, lp, b1, b2, b3⟩⟩
end
theorem thM_nil (cs : List Nat) : thM cs [] = ([], []) := by
  cases cs with
  | nil => rfl
  | cons c cs => unfold thM; rw [if_pos rfl]
theorem thM_cons {c : Nat} {cs : List Nat} {f : List Nm} {p : Nm} (hp : f[c % f.length]? = some p) : thM (c :: cs) f = (p :: (thM cs (f.take (c % f.length) ++ f.drop (c % f.length + 1))).1, (thM cs (f.take (c % f.length) ++ f.drop (c % f.length + 1))).2) := by
  have hne : f ≠ [] := fun e => by rw [e] at hp; simp at hp
  rw [thM, if_neg hne, List.getD_eq_getElem?_getD, hp]
  rfl
/-- The cells of a part of a list. -/
theorem Sl.lie.part {α : Type} {enc : α → List Value} {k : Nat} (hk : ∀ x, (enc x).length = k) {w : World} {N b o : Nat} {l : List α} {c : Nat} (h : (⟨some ⟨b, o, none⟩, l, c⟩ : Sl α).lie enc N w) (a n : Nat) : ∀ j u, (rcells enc ((l.drop a).take n))[j]? = some u → w.cell? ((⟨b, o + a * k, none⟩ : Addr).add j) = some u := by
  intro j u hj
  rw [show (⟨b, o + a * k, none⟩ : Addr).add j = ⟨b, o + a * k + j, none⟩ from Addr.add_lit ..]
  have hj2 : (rcells enc (l.drop a))[j]? = some u := by
    have e : rcells enc (l.drop a) = rcells enc ((l.drop a).take n) ++ rcells enc ((l.drop a).drop n) := by rw [← rcells_append, List.take_append_drop]
    rw [e, List.getElem?_append_left (List.getElem?_eq_some_iff.1 hj).1]
    exact hj
  have hal : a ≤ l.length := by
    rcases Nat.lt_or_ge l.length a with h1 | h1
    · rw [List.drop_eq_nil_of_le (Nat.le_of_lt h1)] at hj2
      simp [rcells] at hj2
    · exact h1
  have hj3 : (rcells enc l)[a * k + j]? = some u := by
    have e : rcells enc l = rcells enc (l.take a) ++ rcells enc (l.drop a) := by rw [← rcells_append, List.take_append_drop]
    have hl : (rcells enc (l.take a)).length = a * k := by rw [rcells_length enc k hk, List.length_take, Nat.min_eq_left hal]
    rw [e, List.getElem?_append_right (by rw [hl]; exact Nat.le_add_right _ _), hl, Nat.add_sub_cancel_left]
    exact hj2
  rcases h with h0 | ⟨b', o', he, _, hc⟩
  · simp only at h0; subst h0; simp [rcells] at hj3
  · simp only [Option.some.injEq, Addr.mk.injEq, and_true] at he
    obtain ⟨rfl, rfl⟩ := he
    have := hc _ u hj3
    rw [Nat.add_assoc]
    exact this
theorem ofL_free {xs : List Li} {T : List (List Lq)} {fl ml : List Nm} (h : (⟨T, fl, ml⟩ : St) = ofL xs) : fl.length ≤ xs.length ∧ ml.length = xs.length := by
  have hs : StOk (ofL xs) := StOk.zero.fold _
  have h1 := hs.perm.length_eq
  have h2 := made_len St.zero xs
  rw [List.length_append] at h1
  have e1 : (ofL xs).free = fl := by rw [← h]
  have e2 : (ofL xs).made = ml := by rw [← h]
  have e3 : (ofL xs).made.length = xs.length := by
    unfold ofL; rw [h2]; simp [St.zero]
  rw [e1, e2] at h1
  rw [e2] at e3
  omega
end Go.Proofs.Ytgaofkbmnapogaa
namespace Go.Proofs.Ytgaofkbmnapogaa
open Go.RowKit Go.Sort
section
variable {o : Oper} {a : Act} {w : World} {K : Act → World → Prop} {Q : Exit → Act → World → Prop} {x y : Operand}
theorem fa45_3 {b q : Nat} (hop : o.op = .fieldAddr 45 x 3) (hx : a.eval x = .pointer (some ⟨b, q, none⟩)) (hK : K (a.put o.dst (.pointer (some ⟨b, q + 3, none⟩))) w) : o.wp Try.prog a w K Q := by
  exact step_val (by simp only [execOp, hop, hx]; go_simp) hK
theorem fa66_0 {b q : Nat} (hop : o.op = .fieldAddr 66 x 0) (hx : a.eval x = .pointer (some ⟨b, q, none⟩)) (hK : K (a.put o.dst (.pointer (some ⟨b, q, none⟩))) w) : o.wp Try.prog a w K Q := by
  exact step_val (by simp only [execOp, hop, hx]; go_simp) hK
theorem ld43 {b q : Nat} {s : Option Addr} {n c : Nat} (hop : o.op = .load 43 x) (hx : a.eval x = .pointer (some ⟨b, q, none⟩)) (hc : w.cell? ⟨b, q, none⟩ = some (.slice s n c)) (hK : K (a.put o.dst (.slice s n c)) w) : o.wp Try.prog a w K Q := by
  exact step_val (by simp only [execOp, hop, hx]; go_simp) hK
theorem ld36 {b q : Nat} {p : Nm} (hop : o.op = .load 36 x) (hx : a.eval x = .pointer (some ⟨b, q, none⟩)) (h0 : w.cell? ⟨b, q, none⟩ = some (.int .u8 p.y)) (h1 : w.cell? ⟨b, q + 1, none⟩ = some (.int .i64 p.n)) (hK : K (a.put o.dst p.v) w) : o.wp Try.prog a w K Q := by
  refine step_val (v := p.v) ?_ hK
  unfold Nm.v
  simp only [execOp, hop, hx]; go_simp
theorem st_quo5 {X Y Z : Int} (hop : o.op = .binOp .quo 5 x y 5) (hx : a.eval x = .int .u8 X) (hy : a.eval y = .int .u8 Y) (hY : ¬ Y = 0) (hz : X.tdiv Y = Z) (hw : IntKind.u8.wrap Z = Z) (hK : K (a.put o.dst (.int .u8 Z)) w) : o.wp Try.prog a w K Q := by
  have hY2 : (Y == 0) = false := by simpa using hY
  exact step_val (by simp only [execOp, hop, hx, hy]; go_simp) hK
theorem st_rem5 {X Y Z : Int} (hop : o.op = .binOp .rem 5 x y 5) (hx : a.eval x = .int .u8 X) (hy : a.eval y = .int .u8 Y) (hY : ¬ Y = 0) (hz : X.tmod Y = Z) (hw : IntKind.u8.wrap Z = Z) (hK : K (a.put o.dst (.int .u8 Z)) w) : o.wp Try.prog a w K Q := by
  have hY2 : (Y == 0) = false := by simpa using hY
  exact step_val (by simp only [execOp, hop, hx, hy]; go_simp) hK
theorem st_remL {X Y Z : Int} (hop : o.op = .binOp .rem 3 x y 3) (hx : a.eval x = .int .i64 X) (hy : a.eval y = .int .i64 Y) (hY : ¬ Y = 0) (hz : X.tmod Y = Z) (hw : IntKind.i64.wrap Z = Z) (hK : K (a.put o.dst (.int .i64 Z)) w) : o.wp Try.prog a w K Q := by
  have hY2 : (Y == 0) = false := by simpa using hY
  exact step_val (by simp only [execOp, hop, hx, hy]; go_simp) hK
theorem st_conv53 {X : Int} (hop : o.op = .convert 5 3 x) (hx : a.eval x = .int .u8 X) (hw : IntKind.i64.wrap X = X) (hK : K (a.put o.dst (.int .i64 X)) w) : o.wp Try.prog a w K Q := by
  exact step_val (by simp only [execOp, hop, hx]; go_simp) hK
theorem st_eql5 {X Y : Int} {b : Bool} (hop : o.op = .binOp .eql 5 x y 5) (hx : a.eval x = .int .u8 X) (hy : a.eval y = .int .u8 Y) (hb : (X == Y) = b) (hK : K (a.put o.dst (.bool b)) w) : o.wp Try.prog a w K Q := by
  exact step_val (by simp only [execOp, hop, hx, hy]; go_simp) hK
theorem st_len26 {s : Option Addr} {n c : Nat} (hop : o.op = .call { callee := .builtin .len, args := #[x], argTypes := #[26] }) (hx : a.eval x = .slice s n c) (hK : K (a.put o.dst (.int .i64 n)) w) : o.wp Try.prog a w K Q := by
  refine step_val (v := .int .i64 n) ?_ hK
  simp only [execOp, hop, resolve, invoke, builtin, Sem.run_bind, Sem.run_pure, Result.andThen_ok, List.map_toArray, List.map_cons, List.map_nil, hx]
  go_simp
theorem st_idx23 {b q n c k : Nat} (hop : o.op = .indexAddr 23 x y) (hx : a.eval x = .slice (some ⟨b, q, none⟩) n c) (hy : a.eval y = .int .i64 k) (hk : k < n) (hK : K (a.put o.dst (.pointer (some ⟨b, q + k * 5, none⟩))) w) : o.wp Try.prog a w K Q := by
  have h1 : (k : Int) < n := by omega
  have h2 : (0 : Int) ≤ k := by omega
  exact step_val (by simp only [execOp, hop, hx, hy]; go_simp) hK
theorem st_build56 {z : Operand} {p : Nm} {f : Bool} {d : Int} (hop : o.op = .build 56 #[(0, x), (1, y), (2, z)]) (hx : a.eval x = p.v) (hy : a.eval y = .bool f) (hz : a.eval z = .int .u8 d) (hK : K (a.put o.dst (Pa.v ⟨p, f, d⟩)) w) : o.wp Try.prog a w K Q := by
  refine step_val (v := Pa.v ⟨p, f, d⟩) ?_ hK
  unfold Nm.v at hx
  unfold Pa.v
  simp only [execOp, hop]; simp [hx, hy, hz]; go_simp
theorem st_bs43 {p : Pa} (hop : o.op = .buildSlice 43 1 #[(0, x)]) (hx : a.eval x = p.v) (hK : K (a.put o.dst (.slice (some ⟨w.heap.size, 0, none⟩) 1 1)) (w.alloc (.cells p.enc.toArray 56))) : o.wp Try.prog a w K Q := by
  refine step_valw (w' := w.alloc (.cells p.enc.toArray 56)) ?_ hK
  unfold Pa.v at hx
  unfold Pa.enc
  simp only [execOp, hop]; simp [hx]; go_simp
end
def psi20 (LB : Nat) (mb : Nat) (m : Nat) (mln : Nat) (mc : Nat) (b : Nat) (o : Nat) (i : Nat) (n : Nat) (cap : Nat) (c : Nat) (c2' : Nat) (r2 : Nat) (y6 : Nat) (dd : Nat) (xy : Nat) (fb : Bool) (ya : Option Addr) (pln : Nat) (yc : Nat) (py : Int) (pn : Int) (B0 : Nat) : Nat → Value → World → Prop
  | 0, v9, _ => v9 = .pointer (some ⟨LB, 3, none⟩)
  | 1, v9, _ => v9 = .slice ya pln yc
  | 2, v9, _ => v9 = .slice (some ⟨mb, 0, none⟩) mln mc
  | 3, v9, _ => v9 = .int .u8 c
  | 4, v9, _ => v9 = .int .u8 c2'
  | 5, v9, _ => v9 = .int .i64 c2'
  | 6, v9, _ => v9 = .slice (some ⟨mb, 0, none⟩) mln mc
  | 7, v9, _ => v9 = .int .i64 mln
  | 8, v9, _ => v9 = .int .i64 m
  | 9, v9, _ => v9 = .pointer (some ⟨mb, 0 + m * 2, none⟩)
  | 10, v9, _ => v9 = (Nm.v ⟨py, pn⟩)
  | 11, v9, _ => v9 = .int .u8 c
  | 12, v9, _ => v9 = .int .u8 r2
  | 13, v9, _ => v9 = .bool fb
  | 14, v9, _ => v9 = .slice (some ⟨b, o, none⟩) n cap
  | 15, v9, _ => v9 = .int .i64 i
  | 16, v9, _ => v9 = .pointer (some ⟨b, o + i * 5, none⟩)
  | 17, v9, _ => v9 = .pointer (some ⟨b, o + i * 5, none⟩)
  | 18, v9, _ => v9 = .int .u8 xy
  | 19, v9, _ => v9 = .int .u8 y6
  | 20, v9, _ => v9 = .int .u8 dd
  | 21, v9, _ => v9 = (Pa.v ⟨⟨py, pn⟩, fb, dd⟩)
  | 22, v9, w9 => ∃ B : Nat, v9 = .slice (some ⟨B, 0, none⟩) 1 1 ∧ B0 ≤ B ∧ B < w9.heap.size ∧ w9.heap[B]? = some (.cells (Pa.enc ⟨⟨py, pn⟩, fb, dd⟩).toArray 56 (0, 0))
  | _, _, _ => True
theorem psi20_stab (LB : Nat) (mb : Nat) (m : Nat) (mln : Nat) (mc : Nat) (b : Nat) (o : Nat) (i : Nat) (n : Nat) (cap : Nat) (c : Nat) (c2' : Nat) (r2 : Nat) (y6 : Nat) (dd : Nat) (xy : Nat) (fb : Bool) (ya : Option Addr) (pln : Nat) (yc : Nat) (py : Int) (pn : Int) (B0 : Nat) (i9 : Nat) (v9 : Value) (w9 w9' : World) (h : psi20 LB mb m mln mc b o i n cap c c2' r2 y6 dd xy fb ya pln yc py pn B0 i9 v9 w9) (hb : Below w9.heap.size w9 w9') : psi20 LB mb m mln mc b o i n cap c c2' r2 y6 dd xy fb ya pln yc py pn B0 i9 v9 w9' := by
  match i9, h with
  | 0, h => exact h
  | 1, h => exact h
  | 2, h => exact h
  | 3, h => exact h
  | 4, h => exact h
  | 5, h => exact h
  | 6, h => exact h
  | 7, h => exact h
  | 8, h => exact h
  | 9, h => exact h
  | 10, h => exact h
  | 11, h => exact h
  | 12, h => exact h
  | 13, h => exact h
  | 14, h => exact h
  | 15, h => exact h
  | 16, h => exact h
  | 17, h => exact h
  | 18, h => exact h
  | 19, h => exact h
  | 20, h => exact h
  | 21, h => exact h
  | 22, h =>
    obtain ⟨B, h1, h2, h3, h4⟩ := h
    exact ⟨B, h1, h2, Nat.lt_of_lt_of_le h3 hb.size, (hb.block B h3).trans h4⟩
  | i9 + 23, _ => exact trivial
end Go.Proofs.Ytgaofkbmnapogaa
namespace Go.Proofs.Ytgaofkbmnapogaa
open Go.RowKit Go.Sort
def bEnc (n : Nat) : List Value := [.int .u8 n]
theorem bEnc_len (n : Nat) : (bEnc n).length = 1 := rfl
/-- A loop as a law is given it, in memory. -/
structure Lu where
  y : Nat
  bk : Bool
  nw : Bool
  th : Sl Nat
  pa : Sl Nat
def Lu.enc (x : Lu) : List Value := [.int .u8 x.y, .bool x.bk, .bool x.nw, x.th.v, x.pa.v]
theorem Lu.enc_len (x : Lu) : x.enc.length = 5 := rfl
def Lu.li (x : Lu) : Li := ⟨x.y, x.bk, x.nw, x.th.l, x.pa.l⟩
structure Lu.ok (N : Nat) (w : World) (x : Lu) : Prop where
  th : x.th.lie bEnc N w
  pa : x.pa.lie bEnc N w
  yb : x.y ≤ 255
  tb : ∀ c ∈ x.th.l, c ≤ 255
  pb : ∀ c ∈ x.pa.l, c ≤ 255
/-- What a law's Of returns. -/
def OfR (xs : List Li) (w : World) (e : Ending) (w' : World) : Prop := ∃ (F : Nat → Prop) (rs : List (Sl Lp)) (fv : Value) (ms : Sl Nm), e = .returned (.tuple #[.slice (some ⟨w.heap.size, 0, none⟩) 6 6, ms.v]) ∧
  Hid (OfS w.heap.size F w' rs fv ms.v (ofM xs).T (ofM xs).free (ofM xs).made ∧ ms.l = (ofM xs).made) ∧ Below w.heap.size w w'
theorem Sl.lie.byte {N : Nat} {w : World} {s : Sl Nat} (h : s.lie bEnc N w) {i c : Nat} (hx : s.l[i]? = some c) : ∃ b o, s.ao = some ⟨b, o, none⟩ ∧ b < N ∧ w.cell? ⟨b, o + i, none⟩ = some (.int .u8 c) := by
  obtain ⟨b, o, h1, h2, h3⟩ := h.at bEnc_len hx
  have := h3 0 _ (by decide) rfl
  simp only [Nat.mul_one, Nat.add_zero] at this
  exact ⟨b, o, h1, h2, this⟩
theorem Sl.lie.lu {N : Nat} {w : World} {s : Sl Lu} (h : s.lie Lu.enc N w) {i : Nat} {x : Lu} (hx : s.l[i]? = some x) :
    ∃ b o, s.ao = some ⟨b, o, none⟩ ∧ b < N ∧ w.cell? ⟨b, o + i * 5, none⟩ = some (.int .u8 x.y) ∧ w.cell? ⟨b, o + i * 5 + 1, none⟩ = some (.bool x.bk) ∧ w.cell? ⟨b, o + i * 5 + 2, none⟩ = some (.bool x.nw) ∧ w.cell? ⟨b, o + i * 5 + 3, none⟩ = some x.th.v ∧ w.cell? ⟨b, o + i * 5 + 4, none⟩ = some x.pa.v := by
  obtain ⟨b, o, h1, h2, h3⟩ := h.at Lu.enc_len hx
  exact ⟨b, o, h1, h2, h3 0 _ (by decide) rfl, h3 1 _ (by decide) rfl, h3 2 _ (by decide) rfl, h3 3 _ (by decide) rfl, h3 4 _ (by decide) rfl⟩
def blockOf (m : Nat) : Code → Option Code
  | .seq a b => match blockOf m a with
    | some c => some c
    | none => blockOf m b
  | .cond _ a b => match blockOf m a with
    | some c => some c
    | none => blockOf m b
  | .loop c => blockOf m c
  | .block i c => if i = m then some (.block i c) else blockOf m c
  | _ => none
noncomputable def blk8_2 : Code := ((Try.f8.body.bind (blockOf 2)).getD .skip)
noncomputable def blk8_4 : Code := ((Try.f8.body.bind (blockOf 4)).getD .skip)
end Go.Proofs.Ytgaofkbmnapogaa
namespace Go.Proofs.Ytgaofkbmnapogaa
open Go.ChangeShapes Go.WideShapes Go.ChangeAt Go.RowKit Go.Deep Go.Joins
set_option maxRecDepth 100000
theorem Try.own' : ownKnob Try.prog.godebug = none := by kernel_rfl
theorem Try.laidOut' : laidOutB Try.prog = true := by kernel_rfl
theorem cellsOf5 : Try.prog.cellsOf 5 = 1 := by kernel_rfl
theorem cellsOf3 : Try.prog.cellsOf 3 = 1 := by kernel_rfl
theorem cellsOf4 : Try.prog.cellsOf 4 = 1 := by kernel_rfl
theorem cellsOf64 : Try.prog.cellsOf 64 = 1 := by kernel_rfl
theorem cellsOf66 : Try.prog.cellsOf 66 = 5 := by kernel_rfl
theorem cellsOf36 : Try.prog.cellsOf 36 = 2 := by kernel_rfl
theorem byte_in {x : Int} (h : (Lit.int .u8 x).wf = true) : 0 ≤ x ∧ x ≤ 255 := bounds_u8 h
theorem bcells (l : List Nat) (j : Nat) : (rcells bEnc l)[j]? = l[j]?.map fun (c : Nat) => Value.int .u8 (c : Int) := by
  have : rcells bEnc l = l.map fun (c : Nat) => Value.int .u8 (c : Int) := by
    induction l with
    | nil => rfl
    | cons a l ih => rw [rcells_cons, ih]; rfl
  rw [this, List.getElem?_map]
section
variable {H : Type} {enc : TypeId × Value → H} {W : World} {base : Nat} {spare : Nat → Bool} {held : Bool}
theorem trod_five {P : Program} {t : TypeId} {f0 f1 f2 f3 f4 : Field} {fuel : Nat} {cs : List Value} {x : DataW H × List MemPlace} (ht : P.underlying t = some (.struct #[f0, f1, f2, f3, f4])) (h : DataW.trod enc P W base spare held fuel t cs = some x) :
    ∃ y0 y1 y2 y3 y4 n, cs.length = P.cellsOf t ∧ DataW.trod enc P W base spare held n f0.type ((cs.drop f0.offset).take (P.cellsOf f0.type)) = some y0 ∧
      DataW.trod enc P W base spare held n f1.type ((cs.drop f1.offset).take (P.cellsOf f1.type)) = some y1 ∧ DataW.trod enc P W base spare held n f2.type ((cs.drop f2.offset).take (P.cellsOf f2.type)) = some y2 ∧
      DataW.trod enc P W base spare held n f3.type ((cs.drop f3.offset).take (P.cellsOf f3.type)) = some y3 ∧ DataW.trod enc P W base spare held n f4.type ((cs.drop f4.offset).take (P.cellsOf f4.type)) = some y4 := by
  obtain ⟨xs, n, _, rfl, hl, hlen, hf⟩ := DataW.trod_struct ht h
  match xs, hlen with
  | [y0, y1, y2, y3, y4], _ => exact ⟨y0, y1, y2, y3, y4, n, hl, by simpa using hf 0 f0 rfl, by simpa using hf 1 f1 rfl, by simpa using hf 2 f2 rfl, by simpa using hf 3 f3 rfl, by simpa using hf 4 f4 rfl⟩
/-- A slice of bytes that came in, as cells. -/
theorem open_bytes_cells {fuel : Nat} {cs : List Value} {x : DataW H × List MemPlace} (h : DataW.trod enc Try.prog W base spare held fuel 64 cs = some x) :
    ∃ s : Sl Nat, cs = [s.v] ∧ s.lie bEnc W.heap.size W ∧ ∀ c ∈ s.l, c ≤ 255 := by
  rcases open_ints (k := .u8) Try.underlying64 Try.underlying5 cellsOf5 h with ⟨hcs, _⟩ | ⟨a, len, cap, zs, hcs, _, hl, hm, hz, _, hcell, hwz⟩
  · exact ⟨⟨none, [], 0⟩, hcs, .inl rfl, fun _ h => absurd h (by simp)⟩
  · have hzl : len ≤ zs.length := by rw [hz]; split <;> omega
    have hb : ∀ x ∈ zs.take len, 0 ≤ x ∧ x ≤ 255 := fun x hx => byte_in (hwz x (List.mem_of_mem_take hx))
    refine ⟨⟨some a, (zs.take len).map Int.toNat, cap⟩, ?_, ?_, fun c hc => ?_⟩
    · rw [hcs]
      simp only [Sl.v, List.length_map, List.length_take, Nat.min_eq_left hzl]
    · by_cases h0 : len = 0
      · subst h0; exact .inl (by simp)
      · obtain ⟨b, off, rfl, hc⟩ := ints_at hcell (by omega)
        have hbl : b < W.heap.size := World.block_lt_of_cell? _ _ (hc 0 (by omega))
        refine .inr ⟨b, off, rfl, hbl, fun i u hu => ?_⟩
        simp only at hu
        rw [bcells, List.getElem?_map, Option.map_map] at hu
        cases hzi : (zs.take len)[i]? with
        | none => rw [hzi] at hu; cases hu
        | some z =>
          rw [hzi] at hu
          obtain rfl := Option.some.inj hu
          have hi : i < len := by have := (List.getElem?_eq_some_iff.1 hzi).1; simp at this; omega
          have hzb := hb z (List.mem_of_getElem? hzi)
          rw [hc i (by omega)]
          rw [List.getElem?_take, if_pos hi] at hzi
          simp only [Function.comp]
          rw [Int.toNat_of_nonneg hzb.1]
          simp [List.getD, hzi]
    · obtain ⟨z, hz, rfl⟩ := List.mem_map.1 hc
      have := hb z hz
      omega
theorem open_l_cells {fuel : Nat} {cs : List Value} {x : DataW H × List MemPlace} (h : DataW.trod enc Try.prog W base spare held fuel 66 cs = some x) :
    ∃ a : Lu, cs = a.enc ∧ a.ok W.heap.size W := by
  obtain ⟨y0, y1, y2, y3, y4, n, hl, h0, h1, h2, h3, h4⟩ := trod_five Try.underlying66 h
  rw [cellsOf66] at hl
  match cs, hl with
  | [c0, c1, c2, c3, c4], _ =>
    obtain ⟨y, e0, _, w0⟩ := DataW.trod_int Try.underlying5 h0
    obtain ⟨b1, e1, _⟩ := DataW.trod_bool Try.underlying4 h1
    obtain ⟨b2, e2, _⟩ := DataW.trod_bool Try.underlying4 h2
    obtain ⟨s3, e3, r3, q3⟩ := open_bytes_cells h3
    obtain ⟨s4, e4, r4, q4⟩ := open_bytes_cells h4
    simp [cellsOf5, cellsOf4, cellsOf64] at e0 e1 e2 e3 e4
    subst e0 e1 e2 e3 e4
    have hy := byte_in w0
    refine ⟨⟨y.toNat, b1, b2, s3, s4⟩, ?_, r3, r4, by simp only; omega, q3, q4⟩
    simp only [Lu.enc]
    rw [Int.toNat_of_nonneg hy.1]
theorem open_t_cells {fuel : Nat} {cs : List Value} {x : DataW H × List MemPlace} (h : DataW.trod enc Try.prog W base spare held fuel 23 cs = some x) :
    ∃ s : Sl Lu, cs = [s.v] ∧ s.lie Lu.enc W.heap.size W ∧ ∀ x ∈ s.l, x.ok W.heap.size W := by
  rcases open_slice Try.underlying23 h with ⟨hcs, _⟩ | ⟨a, len, cap, m, n, D, Pl, hcs, hb, hl, hm, hmm, _, hx⟩
  · exact ⟨⟨none, [], 0⟩, hcs, .inl rfl, fun _ h => absurd h (by simp)⟩
  · have hlm : len ≤ m := by rw [hmm]; split <;> omega
    have each : ∀ i, i < len → ∃ p : Lu, (∀ j, j < 5 → W.cell? (a.add (i * 5 + j)) = p.enc[j]?) ∧ p.ok W.heap.size W := by
      intro i hi
      obtain ⟨cs', h1, h2⟩ := hx i (by omega)
      rw [cellsOf66] at h1
      obtain ⟨_, _, hc⟩ := World.cells?_some h1
      obtain ⟨p, rfl, hp⟩ := open_l_cells h2
      refine ⟨p, fun j hj => ?_, hp⟩
      have := hc j hj
      rwa [add_add] at this
    let dflt : Inhabited Lu := ⟨⟨0, false, false, ⟨none, [], 0⟩, ⟨none, [], 0⟩⟩⟩
    obtain ⟨P, hP⟩ := choose_lt each
    have hget : ∀ i p, ((List.range len).map P)[i]? = some p → i < len ∧ p = P i := by
      intro i p hp
      have hi := (List.getElem?_eq_some_iff.1 hp).1
      simp at hi
      refine ⟨hi, ?_⟩
      rw [List.getElem?_map, List.getElem?_range hi] at hp
      simpa using hp.symm
    refine ⟨⟨some a, (List.range len).map P, cap⟩, by rw [hcs]; simp [Sl.v], ?_, fun p hp => ?_⟩
    · by_cases h0 : len = 0
      · subst h0; exact .inl (by simp)
      · have c0 := (hP 0 (by omega)).1 0 (by omega)
        obtain ⟨b, off, spot⟩ := a
        have hspot : spot = none := by simpa [Addr.add, Lu.enc] using World.cell?_spot c0
        subst hspot
        have key : ∀ k, (⟨b, off, none⟩ : Addr).add k = ⟨b, off + k, none⟩ := fun k => Addr.add_lit ..
        refine .inr ⟨b, off, rfl, ?_, fun j u hu => ?_⟩
        · rw [key] at c0
          exact World.block_lt_of_cell? _ _ c0
        · simp only at hu
          have hj : j < len * 5 := by
            have := (List.getElem?_eq_some_iff.1 hu).1
            rw [rcells_length Lu.enc 5 Lu.enc_len] at this
            simpa using this
          have hi : j / 5 < len := by omega
          have hp : ((List.range len).map P)[j / 5]? = some (P (j / 5)) := by rw [List.getElem?_map, List.getElem?_range hi]; rfl
          have h5 := rcells_at Lu.enc 5 Lu.enc_len _ (j / 5) (P (j / 5)) (j % 5) hp (by omega)
          rw [show j / 5 * 5 + j % 5 = j by omega, hu] at h5
          have q := (hP (j / 5) hi).1 (j % 5) (by omega)
          rw [key, show j / 5 * 5 + j % 5 = j by omega] at q
          rw [q, h5]
    · obtain ⟨i, hi, rfl⟩ := List.mem_map.1 hp
      exact (hP i (List.mem_range.1 hi)).2
theorem open_t_arg {v : Value} {d : DataW H} {p : List MemPlace} {w' : World} {r : _} {b : Nat} (hv : Value.okWide Try.prog w' r b 23 v) (h : DataW.Trod enc Try.prog W 0 spare held 23 v d p) :
    ∃ s : Sl Lu, v = s.v ∧ s.lie Lu.enc W.heap.size W ∧ ∀ x ∈ s.l, x.ok W.heap.size W := by
  obtain ⟨a0, len, cap, rfl⟩ := okWide_slice Try.underlying23 hv
  obtain ⟨fuel, hf⟩ := h
  obtain ⟨s, hcs, r⟩ := open_t_cells hf
  simp [Value.cells, Sl.v] at hcs
  refine ⟨s, ?_, r⟩
  simp only [Sl.v]
  obtain ⟨rfl, rfl, rfl⟩ := hcs
  rfl
theorem open_nm_arg {v : Value} {d : DataW H} {p : List MemPlace} {w' : World} {r : _} {b : Nat} (hv : Value.okWide Try.prog w' r b 36 v) (h : DataW.Trod enc Try.prog W 0 spare held 36 v d p) :
    ∃ q : Nm, v = q.v ∧ q.wf := by
  obtain ⟨cs, rfl, hl⟩ := okWide_struct Try.underlying36 hv
  obtain ⟨fuel, hf⟩ := h
  obtain ⟨y0, y1, n, _, hl2, h0, h1⟩ := trod_struct2 Try.underlying36 hf
  rw [cellsOf36] at hl
  obtain ⟨l⟩ := cs
  match l, hl with
  | [c0, c1], _ =>
    obtain ⟨y, e0, _, w0⟩ := DataW.trod_int Try.underlying5 h0
    obtain ⟨m, e1, _, w1⟩ := DataW.trod_int Try.underlying3 h1
    simp [cellsOf5, cellsOf3, Value.cells] at e0 e1
    subst e0 e1
    exact ⟨⟨y, m⟩, rfl, byte_in w0, bounds_i64 w1⟩
end
end Go.Proofs.Ytgaofkbmnapogaa
namespace Go.Proofs.Ytgaofkbmnapogaa
open Go.RowKit Go.Sort
set_option maxRecDepth 100000
set_option maxHeartbeats 8000000
/-- The table of the examples, in memory. -/
structure Exm (E : Nat) (w : World) : Prop where
  h0 : w.heap[E]? = some (.cells #[.slice (some ⟨E + 2, 0, none⟩) 3 3, .slice (some ⟨E + 5, 0, none⟩) 1 1, .slice none 0 0, .slice none 0 0, .slice none 0 0, .slice none 0 0] 37 (0, 0))
  h1 : w.heap[E + 1]? = some (.cells #[.int .u8 1, .int .i64 1] 36 (0, 0))
  h2 : w.heap[E + 2]? = some (.cells #[.int .u8 0, .bool true, .slice none 0 0, .slice none 0 0, .int .u8 0, .bool false, .slice none 0 0, .slice none 0 0, .int .u8 0, .bool false, .slice (some ⟨E + 1, 0, none⟩) 1 1, .slice none 0 0] 45 (0, 0))
  h3 : w.heap[E + 3]? = some (.cells #[.int .u8 1, .int .i64 0] 36 (0, 0))
  h4 : w.heap[E + 4]? = some (.cells #[.int .u8 1, .int .i64 1, .bool false, .int .u8 1] 56 (0, 0))
  h5 : w.heap[E + 5]? = some (.cells #[.int .u8 0, .bool true, .slice (some ⟨E + 3, 0, none⟩) 1 1, .slice (some ⟨E + 4, 0, none⟩) 1 1] 45 (0, 0))
theorem get_new (W : World) (o : Obj) (k : Nat) (hk : W.heap.size = k) : (W.alloc o).heap[k]? = some o := by subst hk; exact heap_alloc_new W o
theorem get_old {W : World} {k : Nat} {x : Obj} (h : W.heap[k]? = some x) (o : Obj) : (W.alloc o).heap[k]? = some x := (Below.heap_alloc W o k (Array.getElem?_eq_some_iff.1 h).1).trans h
theorem example_any (w : World) : Calls Try.prog 25 #[] w fun e w' => e = .returned (.slice (some ⟨w.heap.size, 0, none⟩) 6 6) ∧ Exm w.heap.size w' ∧ Below w.heap.size w w' := by
  have hm := kdRow.make 6 6 rfl (by omega) w
  rw [zrow6] at hm
  go_enter Try.func25, Try.ntmps25
  go_wp2_with fail
  go_ret
  exact ⟨rfl, ⟨get_old (get_old (get_old (get_old (get_old (get_new w _ _ rfl) _) _) _) _) _, get_old (get_old (get_old (get_old (get_new _ _ _ (by simp)) _) _) _) _, get_old (get_old (get_old (get_new _ _ _ (by simp)) _) _) _, get_old (get_old (get_new _ _ _ (by simp)) _) _, get_old (get_new _ _ _ (by simp)) _, get_new _ _ _ (by simp)⟩,
    (((((below1 w _).alloc (by simp) _).alloc (by simp; omega) _).alloc (by simp; omega) _).alloc (by simp; omega) _).alloc (by simp; omega) _⟩
end Go.Proofs.Ytgaofkbmnapogaa
namespace Go.Proofs.Ytgaofkbmnapogaa
open Go.RowKit Go.Sort
set_option maxRecDepth 100000
set_option maxHeartbeats 8000000
theorem empty_fill (w : World) : Calls Try.prog 14 #[] w fun e w' => e = .returned (.slice (some ⟨w.heap.size, 0, none⟩) 6 6) ∧ Fill w.heap.size w.heap.size (fun _ => False) w' (List.replicate 6 nilSl) ∧ Below w.heap.size w w' := by
  refine (empty_any w).mono ?_
  rintro e w' ⟨rfl, rfl⟩
  exact ⟨rfl, Fill.start w, below1 w _⟩
theorem add_any (t : Tb) (y : Int) (x : Lp) (N : Nat) (w : World) (hN : N ≤ w.heap.size) (ht : Tb.ok N w t) (hx : x.ok N w) (hl : ∀ r ∈ t.l, r.l.length ≤ 98) (hy : 0 ≤ y ∧ y ≤ 255) :
    Calls Try.prog 16 #[t.v, .int .u8 y, x.v] w (NewTb (addE t.sem y x.q) (addM t.sem y x.q) w) := by
  have HT := Lib.hid (ht.mono hN)
  have HX := Lib.hid (hx.mono hN)
  have HL := Lib.hid hl
  have K10 := Lib.hid (fun (W : World) (hb : Below w.heap.size w W) => check_any t w.heap.size W hb.size (HT.out.below hb))
  have K27 := Lib.hid (fun (x : Lp) (hx : x.ok w.heap.size w) (W : World) (hb : Below w.heap.size w W) => own_any x w.heap.size W hb.size (hx.below hb))
  have hs6 : t.sem.length = t.l.length := t.sem_len
  obtain ⟨T, hT⟩ : ∃ T, t.sem = T := ⟨_, rfl⟩
  rw [hT] at K10 hs6 ⊢
  obtain ⟨c, hc⟩ : ∃ c, checkM T = c := ⟨_, rfl⟩
  rw [hc] at K10
  obtain ⟨q, hq⟩ : ∃ q, x.q = q := ⟨_, rfl⟩
  rw [hq]
  have HTT := Lib.hid hT
  have HQ := Lib.hid hq
  obtain ⟨ao, ls, cap⟩ := t
  obtain ⟨bed, nw, ⟨ta, tl, tc⟩, ⟨pa, pl, pc⟩⟩ := x
  simp only [Sl.v, Lp.v] at K10 ⊢
  have hb0 := below1 w (.cells #[.int .u8 bed, .bool nw, .slice ta tl.length tc, .slice pa pl.length pc] 45)
  have ho0 := heap_alloc_new w (.cells #[.int .u8 bed, .bool nw, .slice ta tl.length tc, .slice pa pl.length pc] 45)
  obtain ⟨w0, hw0⟩ : ∃ w0, w.alloc (.cells #[.int .u8 bed, .bool nw, .slice ta tl.length tc, .slice pa pl.length pc] 45) = w0 := ⟨_, rfl⟩
  rw [hw0] at hb0 ho0
  have hz0 : w.heap.size + 1 ≤ w0.heap.size := (Array.getElem?_eq_some_iff.1 ho0).1
  have HB0 := Lib.hid hb0
  have HO0 := Lib.hid ho0
  have HZ0 := Lib.hid hz0
  have HC := Lib.hid hc
  have HS6 := Lib.hid hs6
  clear ht hx hl hT hq hc hb0 ho0 hz0 hs6
  by_cases hc0 : c = 0
  · subst hc0
    have h6 : Hid (T.length = 6) := Lib.hid (by
      have h := HC.out
      unfold checkM at h
      by_cases h1 : T.length = 6
      · exact h1
      · rw [if_pos h1] at h; omega)
    by_cases hyb : y < 1 ∨ 6 < y
    · have hE : addE T y q = 1 := by unfold addE; rw [if_neg (by rw [HC.out]; decide), if_pos hyb]
      rw [hE]
      clear hE
      rcases hyb with hy1 | hy6
      · go_enter Try.func16, Try.ntmps16
        go_wp2_with (go_at_call 10; refine (K10.out _ HB0.out).mono ?_; rintro e w1 ⟨rfl, hb1⟩)
        (try simp only [Exit.inBlock, Exit.then]); refine bodyPost_ret (results_tmp2 rfl _ _ _) rfl ?_
        exact ⟨.inl ⟨by decide, rfl⟩, HB0.out.trans (hb1.mono HB0.out.size)⟩
      · have hy1 : ¬ y < 1 := by omega
        have hy6' : y > 6 := hy6
        go_enter Try.func16, Try.ntmps16
        go_wp2_with (go_at_call 10; refine (K10.out _ HB0.out).mono ?_; rintro e w1 ⟨rfl, hb1⟩)
        (try simp only [Exit.inBlock, Exit.then]); refine bodyPost_ret (results_tmp2 rfl _ _ _) rfl ?_
        exact ⟨.inl ⟨by decide, rfl⟩, HB0.out.trans (hb1.mono HB0.out.size)⟩
    · obtain ⟨k0, hyk, hk0⟩ : ∃ k0 : Nat, y = (k0 : Int) + 1 ∧ k0 < 6 := ⟨(y - 1).toNat, by omega, by omega⟩
      have hk1 : (y - 1).toNat = k0 := by omega
      have hE : addE T y q = checkM (putT T k0 q) := by unfold addE addM; rw [if_neg (by rw [HC.out]; decide), if_neg hyb, hk1]
      have hA : addM T y q = putT T k0 q := by unfold addM; rw [hk1]
      rw [hE, hA]
      have hwr : IntKind.u8.wrap (y - 1) = (k0 : Int) := by rw [show y - 1 = (k0 : Int) by omega]; exact IntWalk.u8_in _ (by omega)
      have hk00 : (0 : Int) ≤ (k0 : Int) := by omega
      have hk06 : (k0 : Int) < 6 := by omega
      have hy1 : ¬ y < 1 := by omega
      have hy6 : ¬ y > 6 := by omega
      clear hE hA hyb hk1 hyk hy
      have hn6 : ls.length = 6 := by have h := HS6.out; rw [h6.out] at h; exact h.symm
      rw [hn6] at K10 ⊢
      have HN6 := Lib.hid hn6
      clear hn6
      go_enter Try.func16, Try.ntmps16
      go_wp2_with (first
        | (go_at_call 10; refine (K10.out _ HB0.out).mono ?_; rintro e w1 ⟨rfl, hb1⟩; have HB1 := Lib.hid (HB0.out.trans (hb1.mono HB0.out.size)); have HZ1 := Lib.hid (Nat.le_trans HZ0.out hb1.size); have HO1 := Lib.hid ((hb1.block w.heap.size HZ0.out).trans HO0.out); clear hb1)
        | (go_at_call 14; refine (empty_fill _).mono ?_; rintro e W2 ⟨rfl, hF2, hb2⟩))
      obtain ⟨BT, hBT⟩ : ∃ BT, w1.heap.size = BT := ⟨_, rfl⟩
      rw [hBT] at hF2 hb2 HZ1 ⊢
      have HBT := Lib.hid hBT
      have HF2 := Lib.hid hF2
      have HB2 := Lib.hid hb2
      clear hBT hF2 hb2
      have hWx : ∀ W : World, Below BT w1 W → Hid (Below w.heap.size w W) := fun W hb => Lib.hid (HB1.out.trans (hb.mono (by have := HZ1.out; omega)))
      go_loopg [31] 7 (fun g v wr => ∃ (k : Nat) (rs : List (Sl Lp)) (F : Nat → Prop), v = .int .i64 k ∧ k ≤ 6 ∧ g = 7 - k ∧ Hid (Fill BT BT F wr rs ∧ Sem6 rs (partT T k 0)) ∧ Hid (Below BT w1 wr))
      case atStart => exact ⟨0, _, _, rfl, by omega, by omega, Lib.hid ⟨HF2.out, by rw [partT_zero]; exact Sem6.nil⟩, HB2⟩
      case round =>
        obtain ⟨k, rs, F, rfl, hk, hg, HF, HBR⟩ := hrel
        obtain ⟨G, hG⟩ : ∃ G, G = gk := ⟨_, rfl⟩
        have HG := Lib.hid (hG.trans hg)
        have HGK := Lib.hid hG
        clear hg hG
        by_cases hk6 : k < 6
        · have hkz : (k : Int) < 6 := by omega
          have hkl : k < ls.length := by rw [HN6.out]; exact hk6
          obtain ⟨r, hr⟩ : ∃ r, ls[k]? = some r := ⟨ls[k], List.getElem?_eq_getElem hkl⟩
          obtain ⟨b, o, hao, hbl, cR, hro⟩ := (HT.out.below (hWx _ HBR.out).out).row hr
          obtain rfl : ao = some ⟨b, o, none⟩ := hao
          have hRO := HT.out.el r (List.mem_of_getElem? hr)
          obtain ⟨ra, rl, rc⟩ := r
          have hrl := HL.out _ (List.mem_of_getElem? hr)
          simp only [Sl.v] at cR hrl
          have HRL : Hid (T.getD k [] = rl.map Lp.q) := Lib.hid (by
            rw [← HTT.out]; exact Tb.sem_at (t := ⟨_, ls, cap⟩) hr)
          have HRO := Lib.hid hRO
          clear hr hro hRO hkl hbl
          go_wp2_with fail
          go_loopg [38] (rl.length + 1) (fun g v wr => ∃ (j : Nat) (rs : List (Sl Lp)) (F : Nat → Prop), v = .int .i64 j ∧ j ≤ rl.length ∧ g = rl.length + 1 - j ∧ Hid (Fill BT BT F wr rs ∧ Sem6 rs (partT T k j)) ∧ Hid (Below BT w1 wr))
          case atStart => exact ⟨0, rs, F, rfl, by omega, by omega, HF, HBR⟩
          case round =>
            clear HF HBR cR
            obtain ⟨j, rs2, F2, rfl, hj, hg2, HF, HBR⟩ := hrel
            have HG2 := Lib.hid hg2
            clear hg2
            by_cases hjl : j < rl.length
            · have hjz : (j : Int) < (rl.length : Int) := by omega
              obtain ⟨x0, hx0⟩ : ∃ x0, rl[j]? = some x0 := ⟨rl[j], List.getElem?_eq_getElem hjl⟩
              obtain ⟨b1, o1, hra, hbl1, c0, c1, c2, c3, -⟩ := (HRO.out.below (hWx _ HBR.out).out).loop hx0
              obtain rfl : ra = some ⟨b1, o1, none⟩ := hra
              have HXO := Lib.hid (HRO.out.el x0 (List.mem_of_getElem? hx0))
              have HTK : Hid ((T.getD k []).take (j + 1) = (T.getD k []).take j ++ [x0.q]) := Lib.hid (by
                rw [HRL.out, List.take_add_one, List.getElem?_map, hx0]; rfl)
              obtain ⟨⟨sa, sl, sc⟩, hr', hrs⟩ := HF.out.2.get hk6
              rw [partT_at] at hrs
              have cT := HF.out.1.cell hr'
              have hsl : sl.length ≤ 100 := by
                have h := congrArg List.length hrs
                simp only [HRL.out, List.length_map, List.length_take] at h
                omega
              obtain ⟨xb, xn, ⟨xa, xl, xc⟩, ⟨ya, yl, yc⟩⟩ := x0
              simp only [Sl.v] at c0 c1 c2 c3 cT
              have HR' := Lib.hid hr'
              have HRS := Lib.hid hrs
              have HSL := Lib.hid hsl
              clear hx0 hr' hrs hbl1 hsl
              go_upto_region 13 with fail
              have hFA := HF.out.1.below (below1 wr (.cells #[.int .u8 xb, .bool xn, .slice xa xl.length xc, .slice ya yl.length yc] 45))
              have hBA := HBR.out.alloc (by have := HF.out.1.lt; omega) (.cells #[.int .u8 xb, .bool xn, .slice xa xl.length xc, .slice ya yl.length yc] 45)
              have hoA := heap_alloc_new wr (.cells #[.int .u8 xb, .bool xn, .slice xa xl.length xc, .slice ya yl.length yc] 45)
              obtain ⟨WA, hWA⟩ : ∃ WA, wr.alloc (.cells #[.int .u8 xb, .bool xn, .slice xa xl.length xc, .slice ya yl.length yc] 45) = WA := ⟨_, rfl⟩
              rw [hWA] at hFA hBA hoA ⊢
              clear hWA c0 c1 c2 c3 cT
              obtain ⟨BX, hBX⟩ : ∃ BX, wr.heap.size = BX := ⟨_, rfl⟩
              rw [hBX] at hoA ⊢
              have hoB : WA.drew.heap[BX]? = some (.cells #[.int .u8 xb, .bool xn, .slice xa xl.length xc, .slice ya yl.length yc] 45 (0, 0)) := hoA
              have d0 : WA.drew.cell? ⟨BX, 0, none⟩ = some (.int .u8 xb) := by simp [World.cell?, hoB]
              have d1 : WA.drew.cell? ⟨BX, 1, none⟩ = some (.bool xn) := by simp [World.cell?, hoB]
              have d2 : WA.drew.cell? ⟨BX, 2, none⟩ = some (.slice xa xl.length xc) := by simp [World.cell?, hoB]
              have d3 : WA.drew.cell? ⟨BX, 3, none⟩ = some (.slice ya yl.length yc) := by simp [World.cell?, hoB]
              have hFD : Fill BT BT F2 WA.drew rs2 := hFA.below ((Below.refl _ _).drew)
              have hBD : Below BT w1 WA.drew := hBA.drew
              have cT := hFD.cell HR'.out
              simp only [Sl.v] at cT
              have HFD := Lib.hid hFD
              have HBD := Lib.hid hBD
              have HWD := hWx _ hBD
              have HNT : Hid (BT ≤ WA.drew.heap.size) := Lib.hid (Nat.le_of_lt hFD.lt)
              clear hFA hBA hoA hoB hFD hBD hBX
              go_region_law ((first
                | (go_simp; go_at_call 27; refine (K27.out ⟨xb, xn, ⟨xa, xl, xc⟩, ⟨ya, yl, yc⟩⟩ HXO.out _ HWD.out).mono ?_; rintro e w3 ⟨v3, rfl, ho3, hb3⟩; obtain ⟨⟨b3, n3, ⟨ta3, tl3, tc3⟩, ⟨pa3, pl3, pc3⟩⟩, rfl, hq3, hi3⟩ := ho3.inF; have HI3 := Lib.hid (And.intro hq3 hi3); have HB3 := Lib.hid hb3; have HF3 := Lib.hid (HFD.out.below hb3); have cT3 := HF3.out.cell HR'.out; have cT4 := (HF3.out.below (below1 w3 (.cells #[.int .u8 b3, .bool n3, .slice ta3 tl3.length tc3, .slice pa3 pl3.length pc3] 45))).cell HR'.out; simp only [Lp.v, Sl.v] at cT3 cT4 ⊢; clear hq3 hi3 hb3 ho3)
                | (refine step_app_rec kdLp (l := sl) (x := ⟨b3, n3, ⟨ta3, tl3, tc3⟩, ⟨pa3, pl3, pc3⟩⟩) (by rfl) (by rfl) (by rfl) (by rfl) ((HF3.out.own k _ HR'.out).alloc _) (rec_new Lp.enc _ 45 _) (by have := HSL.out; omega) (Nat.le_trans HNT.out (Nat.le_trans HB3.out.size (by simp))) ?_; intro v5 w5 ho5 hg5 hat5; obtain ⟨⟨a5, l5, c5⟩, rfl, -⟩ := own_lie Lp.enc_len ho5 rfl; obtain ⟨t5, f5⟩ := (HF3.out.below (below1 w3 _)).after HR'.out hg5; simp only [Sl.v] at t5 ho5 hat5 ⊢; have HA5 := Lib.hid (And.intro ho5 (And.intro hg5 hat5)); clear ho5 hg5 hat5)))
              all_goals (
                obtain ⟨F9, r9, hv9, hl9, hF9⟩ := HFD.out.appNew HB3.out HNT.out HR'.out HI3.out.2 (fun g hg => ⟨hg.1, hg.2.1⟩) HA5.out.2.1 HA5.out.1 HA5.out.2.2
                have hS9 : Sem6 (rs2.set k r9) (partT T k (j + 1)) := HF.out.2.put (by
                  rw [partT_at, HTK.out, hl9, List.map_append]
                  have h1 := HRS.out
                  have h2 := HI3.out.1
                  simp only at h1
                  rw [h1]
                  simp only [List.map_cons, List.map_nil]
                  rw [h2]) (fun i hi => partT_other T k (j + 1) j i hi)
                have hB9 : Below BT w1 (w5.setCell ⟨BT, k, none⟩ (.slice a5 l5.length c5)) := (((HBD.out.trans (HB3.out.mono HNT.out)).alloc (Nat.le_trans HNT.out HB3.out.size) _).grown HA5.out.2.1 (Nat.le_trans HNT.out (Nat.le_trans HB3.out.size (by simp))) (fun g e => ((HF3.out.own k _ HR'.out).lt g e).1)).setCell (Nat.le_refl _) _
                have H9 := Lib.hid (And.intro hF9 (And.intro hS9 hB9))
                clear hv9 hl9 hF9 hS9 hB9 t5 f5
                go_wp2_with fail
                go_roundg (rl.length + 1 - (j + 1))
                case measure => have := HG2.out; omega
                case rel => exact ⟨j + 1, rs2.set k r9, F9, by go_num, by omega, by omega, Lib.hid ⟨H9.out.1, H9.out.2.1⟩, Lib.hid H9.out.2.2⟩)
            · have hje : j = rl.length := by omega
              subst hje
              have hjz : ¬ ((rl.length : Int) < (rl.length : Int)) := by omega
              have HS' : Hid (Sem6 rs2 (partT T (k + 1) 0)) := Lib.hid (by
                have h := HF.out.2
                rw [partT_next T k rl.length (by rw [HRL.out, List.length_map]; exact Nat.le_refl _)] at h
                exact h)
              go_wp2_with fail
              go_roundg (G - 1)
              case measure => have := HG.out; have := HGK.out; omega
              case rel => exact ⟨k + 1, rs2, F2, by go_num, by omega, by have := HG.out; omega, Lib.hid ⟨HF.out.1, HS'.out⟩, HBR⟩
        · obtain rfl : k = 6 := by omega
          have hkz : ¬ (((6 : Nat) : Int) < 6) := by decide
          obtain ⟨⟨sa, sl, sc⟩, hr', hrs⟩ := HF.out.2.get hk0
          rw [partT_all T k0 hk0] at hrs
          have hkl : k0 < ls.length := by rw [HN6.out]; exact hk0
          have hsl : sl.length ≤ 98 := by
            have h := congrArg List.length hrs
            have h2 : T.getD k0 [] = ls[k0].l.map Lp.q := by rw [← HTT.out]; exact Tb.sem_at (t := ⟨ao, ls, cap⟩) (List.getElem?_eq_getElem hkl)
            have h3 := HL.out _ (List.getElem_mem hkl)
            simp only [h2, List.length_map] at h
            omega
          have hoB := ((hWx _ HBR.out).out.size)
          have hoD : wr.drew.heap[w.heap.size]? = some (.cells #[.int .u8 bed, .bool nw, .slice ta tl.length tc, .slice pa pl.length pc] 45 (0, 0)) := (HBR.out.block w.heap.size (by have := HZ1.out; omega)).trans HO1.out
          have d0 : wr.drew.cell? ⟨w.heap.size, 0, none⟩ = some (.int .u8 bed) := by simp [World.cell?, hoD]
          have d1 : wr.drew.cell? ⟨w.heap.size, 1, none⟩ = some (.bool nw) := by simp [World.cell?, hoD]
          have d2 : wr.drew.cell? ⟨w.heap.size, 2, none⟩ = some (.slice ta tl.length tc) := by simp [World.cell?, hoD]
          have d3 : wr.drew.cell? ⟨w.heap.size, 3, none⟩ = some (.slice pa pl.length pc) := by simp [World.cell?, hoD]
          have hFD : Fill BT BT F wr.drew rs := HF.out.1.below ((Below.refl _ _).drew)
          have hBD : Below BT w1 wr.drew := HBR.out.drew
          have cT := hFD.cell hr'
          simp only [Sl.v] at cT
          have HFD := Lib.hid hFD
          have HBD := Lib.hid hBD
          have HWD := hWx _ hBD
          have HNT : Hid (BT ≤ wr.drew.heap.size) := Lib.hid (Nat.le_of_lt hFD.lt)
          have HR' := Lib.hid hr'
          have HRS := Lib.hid hrs
          have HSL := Lib.hid hsl
          clear hoD hFD hBD hr' hrs hsl hoB hkl
          go_upto_region 16 with fail
          go_region_law ((first
            | (go_simp; go_at_call 27; refine (K27.out ⟨bed, nw, ⟨ta, tl, tc⟩, ⟨pa, pl, pc⟩⟩ HX.out _ HWD.out).mono ?_; rintro e w3 ⟨v3, rfl, ho3, hb3⟩; obtain ⟨⟨b3, n3, ⟨ta3, tl3, tc3⟩, ⟨pa3, pl3, pc3⟩⟩, rfl, hq3, hi3⟩ := ho3.inF; have HI3 := Lib.hid (And.intro hq3 hi3); have HB3 := Lib.hid hb3; have HF3 := Lib.hid (HFD.out.below hb3); have cT3 := HF3.out.cell HR'.out; have cT4 := (HF3.out.below (below1 w3 (.cells #[.int .u8 b3, .bool n3, .slice ta3 tl3.length tc3, .slice pa3 pl3.length pc3] 45))).cell HR'.out; simp only [Lp.v, Sl.v] at cT3 cT4 ⊢; clear hq3 hi3 hb3 ho3)
            | (refine step_app_rec kdLp (l := sl) (x := ⟨b3, n3, ⟨ta3, tl3, tc3⟩, ⟨pa3, pl3, pc3⟩⟩) (by rfl) (by rfl) (by rfl) (by rfl) ((HF3.out.own k0 _ HR'.out).alloc _) (rec_new Lp.enc _ 45 _) (by have := HSL.out; omega) (Nat.le_trans HNT.out (Nat.le_trans HB3.out.size (by simp))) ?_; intro v5 w5 ho5 hg5 hat5; obtain ⟨⟨a5, l5, c5⟩, rfl, -⟩ := own_lie Lp.enc_len ho5 rfl; obtain ⟨t5, f5⟩ := (HF3.out.below (below1 w3 _)).after HR'.out hg5; simp only [Sl.v] at t5 ho5 hat5 ⊢; have HA5 := Lib.hid (And.intro ho5 (And.intro hg5 hat5)); clear ho5 hg5 hat5)))
          all_goals (
            obtain ⟨F9, r9, hv9, hl9, hF9⟩ := HFD.out.appNew HB3.out HNT.out HR'.out HI3.out.2 (fun g hg => ⟨hg.1, hg.2.1⟩) HA5.out.2.1 HA5.out.1 HA5.out.2.2
            have hS9 : Sem6 (rs.set k0 r9) (fun i => (putT T k0 q).getD i []) := HF.out.2.putT h6.out hk0 (by
              rw [hl9, List.map_append]
              have h1 := HRS.out
              have h2 := HI3.out.1
              have h3 := HQ.out
              rw [h1]
              simp only [List.map_cons, List.map_nil]
              rw [h2, h3])
            have hB9 : Below BT w1 (w5.setCell ⟨BT, k0, none⟩ (.slice a5 l5.length c5)) := (((HBD.out.trans (HB3.out.mono HNT.out)).alloc (Nat.le_trans HNT.out HB3.out.size) _).grown HA5.out.2.1 (Nat.le_trans HNT.out (Nat.le_trans HB3.out.size (by simp))) (fun g e => ((HF3.out.own k0 _ HR'.out).lt g e).1)).setCell (Nat.le_refl _) _
            have hT9 := hF9.tbl_new (M := w.heap.size) (by have := HZ1.out; omega)
            have hLN := hS9.lens (by rw [h6.out]; exact hk0) (by rw [← HTT.out]; exact Tb.lens (t := ⟨ao, ls, cap⟩) HL.out)
            have hN6 : (rs.set k0 r9).length = 6 := hS9.1
            have HT9 := Lib.hid (show _ ∧ _ ∧ _ from ⟨hT9, hS9, hLN⟩)
            have HB9 := Lib.hid hB9
            obtain ⟨rs9, hrs9⟩ : ∃ rs9, rs.set k0 r9 = rs9 := ⟨_, rfl⟩
            obtain ⟨W9, hW9⟩ : ∃ W9, w5.setCell ⟨BT, k0, none⟩ (.slice a5 l5.length c5) = W9 := ⟨_, rfl⟩
            rw [hrs9] at HT9
            rw [hW9] at HT9 HB9 ⊢
            clear hv9 hl9 hF9 hS9 hB9 hT9 hLN hN6 hrs9 hW9 t5 f5 cT cT3 cT4 d0 d1 d2 d3 HF HF3 HA5 HI3 HB3 HFD HBD HR' HRS
            go_wp2_with fail
            go_loopg [70] 7 (fun g v wr => ∃ (k : Nat) (rs : List (Sl Lp)), v = .int .i64 k ∧ k ≤ 6 ∧ g = 7 - k ∧ Hid (Tbl BT (fun g => w.heap.size ≤ g ∧ g ≠ BT) wr rs ∧ Sem6 rs (fun i => (putT T k0 q).getD i []) ∧ ∀ r ∈ rs, r.l.length ≤ 99) ∧ Hid (Below BT w1 wr))
            case atStart => exact ⟨0, rs9, rfl, by omega, by omega, HT9, HB9⟩
            case round =>
              clear HT9 HB9
              obtain ⟨k, rs7, rfl, hk, hg, HT7, HB7⟩ := hrel
              have HG7 := Lib.hid hg
              clear hg
              by_cases hk7 : k < 6
              · have hkz7 : (k : Int) < 6 := by omega
                obtain ⟨⟨za, zl, zc⟩, hr7, hrs7⟩ := HT7.out.2.1.get hk7
                have t7 := HT7.out.1.cell hr7
                have f7 := HT7.out.1.frozen k
                simp only [Sl.v] at t7
                have HR7 := Lib.hid hr7
                have HW7 := Lib.hid (HT7.out.1.wf _ (List.mem_of_getElem? hr7))
                have HRS7 := Lib.hid hrs7
                clear hr7 hrs7
                go_wp2_with (go_at_call 29; refine (clip_any29 za zl.length zc HW7.out.1 HW7.out.2.1 HW7.out.2.2 _).mono ?_; rintro e w8 ⟨rfl, rfl⟩)
                go_roundg (7 - (k + 1))
                case measure => have := HG7.out; omega
                case rel =>
                  refine ⟨k + 1, rs7.set k ⟨za, zl, zl.length⟩, by go_num, by omega, by omega, Lib.hid ⟨HT7.out.1.clip HR7.out, HT7.out.2.1.put HRS7.out fun _ _ => rfl, fun r hr => ?_⟩, Lib.hid (HB7.out.setCell (Nat.le_refl _) _)⟩
                  rcases List.mem_or_eq_of_mem_set hr with hr | rfl
                  · exact HT7.out.2.2 r hr
                  · have h8 := HT7.out.2.2 ⟨za, zl, zc⟩ (List.mem_of_getElem? HR7.out)
                    exact h8
              · obtain rfl : k = 6 := by omega
                have hkz7 : ¬ (((6 : Nat) : Int) < 6) := by decide
                have hok := HT7.out.1.ok 6 (by rw [HT7.out.2.1.1]; decide) (fun r hr => by have := HT7.out.2.2 r hr; omega)
                have hsem : Tb.sem ⟨some ⟨BT, 0, none⟩, rs7, 6⟩ = putT T k0 q := HT7.out.2.1.eq (by rw [putT_len, h6.out]) (fun i _ => rfl)
                have K10' := check_any ⟨some ⟨BT, 0, none⟩, rs7, 6⟩ wr.heap.size wr (Nat.le_refl _) hok
                have hl7 : rs7.length = 6 := HT7.out.2.1.1
                rw [hsem] at K10'
                simp only [Sl.v, hl7] at K10'
                have HSM := Lib.hid hsem
                have HK10 := Lib.hid K10'
                clear hok hsem K10' hl7
                obtain ⟨c9, hce⟩ : ∃ c9, checkM (putT T k0 q) = c9 := ⟨_, rfl⟩
                rw [hce] at HK10
                have HCE := Lib.hid hce
                clear hce
                have HWW := hWx _ HB7.out
                by_cases hc9 : c9 = 0
                · subst hc9
                  go_wp2_with (go_at_call 10; refine HK10.out.mono ?_; rintro e w8 ⟨rfl, hb8⟩)
                  (try simp only [Exit.inBlock, Exit.then]); refine bodyPost_ret (results_tmp2 rfl _ _ _) rfl ?_
                  exact ⟨.inr ⟨HCE.out, BT, rs7, rfl, Lib.hid ⟨HT7.out.1.below hb8, by have := HZ1.out; omega, HT7.out.2.1.1, HSM.out, fun r hr => Nat.le_trans (HT7.out.2.2 r hr) (by decide)⟩⟩, HWW.out.trans (hb8.mono HWW.out.size)⟩
                · have hcz : (c9 != 0) = true := by simpa using hc9
                  go_wp2_with (go_at_call 10; refine HK10.out.mono ?_; rintro e w8 ⟨rfl, hb8⟩)
                  (try simp only [Exit.inBlock, Exit.then]); refine bodyPost_ret (results_tmp2 rfl _ _ _) rfl ?_
                  exact ⟨.inl ⟨by rw [HCE.out]; exact hc9, by rw [HCE.out]; rfl⟩, HWW.out.trans (hb8.mono HWW.out.size)⟩)
  · have hE : addE T y q = c := by unfold addE; rw [if_pos (by rw [HC.out]; exact hc0), HC.out]
    rw [hE]
    clear hE
    have hcz : (c != 0) = true := by simpa using hc0
    go_enter Try.func16, Try.ntmps16
    go_wp2_with (go_at_call 10; refine (K10.out _ HB0.out).mono ?_; rintro e w1 ⟨rfl, hb1⟩)
    (try simp only [Exit.inBlock, Exit.then]); refine bodyPost_ret (results_tmp2 rfl _ _ _) rfl ?_
    exact ⟨.inl ⟨hc0, rfl⟩, HB0.out.trans (hb1.mono HB0.out.size)⟩
end Go.Proofs.Ytgaofkbmnapogaa
