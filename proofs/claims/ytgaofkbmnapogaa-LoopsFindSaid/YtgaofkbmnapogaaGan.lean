import Derived.Test.YtgaofkbmnapogaaGal
import Derived.Test.YtgaofkbmnapogaaGam
namespace Go.Proofs.Ytgaofkbmnapogaa
open Go.RowKit Go.Sort
theorem row_le {T : List (List Lq)} (h6 : T.length = 6) (i : Nat) : (T.getD i []).length ≤ totM T := by
  rw [tot_six h6]
  rcases Nat.lt_or_ge i 6 with h | h
  · unfold sumM
    obtain rfl | rfl | rfl | rfl | rfl | rfl : i = 0 ∨ i = 1 ∨ i = 2 ∨ i = 3 ∨ i = 4 ∨ i = 5 := by omega
    all_goals (dsimp only; omega)
  · rw [List.getD_eq_getElem?_getD, List.getElem?_eq_none (by omega)]
    exact Nat.zero_le _
theorem ofM_tot (xs : List Li) : totM (ofM xs).T = min 60 xs.length := by
  rw [← (ofM_ok xs).cnt, ofM_made]
theorem OfS.tab {BT : Nat} {F : Nat → Prop} {w : World} {rs : List (Sl Lp)} {fv mv : Value} {xs : List Li} {fr md : List Nm} (h : OfS BT F w rs fv mv (ofM xs).T fr md) :
    Tb.ok w.heap.size w ⟨some ⟨BT, 0, none⟩, rs, 6⟩ ∧ Tb.sem ⟨some ⟨BT, 0, none⟩, rs, 6⟩ = (ofM xs).T ∧ rs.length = 6 ∧ ∀ r ∈ rs, r.l.length ≤ 60 := by
  have h6 := (ofM_ok xs).len
  have hl : ∀ r ∈ rs, r.l.length ≤ 60 := fun r hr => by
    obtain ⟨i, hi⟩ := List.mem_iff_getElem?.1 hr
    have h1 := congrArg List.length (h.sem.2 i r hi)
    rw [List.length_map] at h1
    dsimp only at h1
    have h2 := row_le h6 i
    have h3 := ofM_tot xs
    omega
  exact ⟨h.fill.tbl.ok 6 (by rw [h.sem.1]; decide) fun r hr => Nat.le_trans (hl r hr) (by decide), h.sem.eq h6 fun i _ => rfl, h.sem.1, hl⟩
theorem wpList_app_recs {α : Type} {enc : α → List Value} {T e k bytes : Nat} {zero : Value} (K : Kd enc T e k bytes zero) {w : World} {ops : Array Oper} {rest : List Oper} {o : Oper} {a : Act} {Q : Exit → Act → World → Prop} {s t : Tmp} {N : Nat} {v : Value} {l l2 : List α} {ad : Addr} {n c : Nat} (hg0 : o.guard = none)
    (hop : o.op = Op.call { callee := Callee.builtin Builtin.append, args := #[.tmp s, .tmp t], argTypes := #[T, T] }) (hs : a.eval (.tmp s) = v) (ht : a.eval (.tmp t) = .slice (some ad) n c) (hn : n = l2.length) (hown : w.ownsRow N e k v l.length (rcells enc l)) (hx : ∀ j u, (rcells enc l2)[j]? = some u → w.cell? (ad.add j) = some u) (hl : l.length + l2.length ≤ 100000) (hN : N ≤ w.heap.size)
    (hK : ∀ v' w', w'.ownsRow N e k v' (l ++ l2).length (rcells enc (l ++ l2)) → w.grownBy w' v.ownBlock → (v'.ownBlock = v.ownBlock ∨ v'.ownBlock = some w.heap.size) → wpList Try.prog ops Q rest (a.put o.dst v') w') : wpList Try.prog ops Q (o :: rest) a w := by
  refine wpList_plain hg0 fun K' hK' => ?_
  subst hn
  obtain ⟨v', w', hr, h1, h2, h3⟩ := run_app_recs K w N o.type v l hown l2 ad c hx hl hN
  unfold Oper.wp execOp
  simp only [hop, resolve, invoke, builtin, Sem.run_bind, Sem.run_pure, Result.andThen_ok, List.map_toArray, List.map_cons, List.map_nil, hs, ht, hr]
  exact hK' _ _ (hK v' w' h1 h2 h3)
set_option maxRecDepth 100000
set_option maxHeartbeats 8000000
/-- A row that may be written over. -/
def RowC (B t k n : Nat) (a : Option Addr) (W : World) : Prop := n = 0 ∨ ∃ g cur, a = some ⟨g, 0, none⟩ ∧ W.heap[g]? = some (.cells cur t (0, 0)) ∧ n * k ≤ cur.size ∧ B ≤ g
theorem rowC_own {B N t k n : Nat} {a : Option Addr} {W : World} {xs : List Value} (h : W.ownsRow N t k (.slice a n n) n xs) (hB : B ≤ N) : RowC B t k n a W := by
  rcases h.2 with ⟨_, h0⟩ | ⟨g, cap, cur, he, hb, hg, hn, _, hs, _⟩
  · exact .inl h0
  · simp only [Value.slice.injEq] at he
    obtain ⟨rfl, -, rfl⟩ := he
    exact .inr ⟨g, cur, rfl, hg, by omega, by omega⟩
theorem RowC.below {B t k n : Nat} {a : Option Addr} {W W' : World} (h : RowC B t k n a W) (hb : Below W.heap.size W W') : RowC B t k n a W' :=
  h.imp id fun ⟨g, cur, h1, h2, h3⟩ => ⟨g, cur, h1, (hb.block g (Array.getElem?_eq_some_iff.1 h2).1).trans h2, h3⟩
theorem RowC.other {B t k n b t2 o : Nat} {a : Option Addr} {W : World} {cur : Array Value} (h : RowC B t k n a W) (hb : W.heap[b]? = some (.cells cur t2 (0, 0))) (ht : t2 ≠ t) (v : Value) : RowC B t k n a (W.setCell ⟨b, o, none⟩ v) :=
  h.imp id fun ⟨g, c, h1, h2, h3⟩ => ⟨g, c, h1, oth h2 _ _ (fun e => by
    simp only at e
    subst e
    rw [h2] at hb
    simp only [Option.some.injEq, Obj.cells.injEq] at hb
    exact ht hb.2.1.symm), h3⟩
theorem RowC.same {B t k n b o : Nat} {a : Option Addr} {W : World} {cur : Array Value} (h : RowC B t k n a W) (ha : a = some ⟨b, 0, none⟩) (hb : W.heap[b]? = some (.cells cur t (0, 0))) (v : Value) : RowC B t k n a (W.setCell ⟨b, o, none⟩ v) :=
  h.imp id fun ⟨g, c, h1, h2, h3, h4⟩ => by
    rw [ha] at h1
    simp only [Option.some.injEq, Addr.mk.injEq, and_true] at h1
    subst h1
    rw [h2] at hb
    simp only [Option.some.injEq, Obj.cells.injEq, and_true] at hb
    subst hb
    exact ⟨b, _, ha, heap_setCell_same W b o _ t v h2, by simpa using h3, h4⟩
/-- What Find has returned, in a box. -/
structure Wr (B LX : Nat) (bed : Int) (nw : Bool) (ta : Option Addr) (n1 : Nat) (pa : Option Addr) (n2 : Nat) (W : World) : Prop where
  box : W.heap[LX]? = some (.cells #[.int .u8 bed, .bool nw, .slice ta n1 n1, .slice pa n2 n2] 45 (0, 0))
  th : RowC B 36 2 n1 ta W
  pa : RowC B 56 4 n2 pa W
theorem oth45 {W : World} {LX b t2 o : Nat} {cur cs : Array Value} (h : W.heap[LX]? = some (.cells cs 45 (0, 0))) (hb : W.heap[b]? = some (.cells cur t2 (0, 0))) (ht : t2 ≠ 45) (v : Value) : (W.setCell ⟨b, o, none⟩ v).heap[LX]? = some (.cells cs 45 (0, 0)) :=
  oth h _ _ (fun e => by
    simp only at e
    subst e
    rw [h] at hb
    simp only [Option.some.injEq, Obj.cells.injEq] at hb
    exact ht hb.2.1.symm)
/-- A row of one loop of nothing. -/
def zrow (b : Nat) : Sl Lp := ⟨some ⟨b, 0, none⟩, [⟨0, false, nilSl, nilSl⟩], 1⟩
def zcells : Array Value := #[.int .u8 0, .bool false, .slice none 0 0, .slice none 0 0]
theorem zrow_ok {b : Nat} {W : World} (h : W.heap[b]? = some (.cells zcells 45 (0, 0))) : RowOk W.heap.size W (zrow b) := by
  refine ⟨lie_lit h rfl _ (Array.getElem?_eq_some_iff.1 h).1, fun x hx => ?_, Nat.le_of_ble_eq_true rfl⟩
  simp only [zrow, List.mem_cons, List.not_mem_nil, or_false] at hx
  subst hx
  exact exLp_ok (.inl rfl) (.inl rfl) (Nat.le_of_ble_eq_true rfl) (Nat.le_of_ble_eq_true rfl) (fun q hq => by cases hq) (fun q hq => by cases hq) (by decide)
theorem law_find (s : Sl Lu) (many : Nat) (p : Nm) (w : World) (h : s.lie Lu.enc w.heap.size w) (hx : ∀ x ∈ s.l, x.ok w.heap.size w) (hm : many ≤ 255) (hp : p.byte) :
    Calls Try.prog 7 #[s.v, .int .u8 many, p.v] w fun e w' => e = .returned (.bool true) ∧ Below w.heap.size w w' := by
  obtain ⟨xs, hxs⟩ : ∃ xs, s.l.map Lu.li = xs := ⟨_, rfl⟩
  have hb0 := below1 w (.cells #[.int .u8 p.y, .int .i64 p.n] 36)
  have ho0 := heap_alloc_new w (.cells #[.int .u8 p.y, .int .i64 p.n] 36)
  obtain ⟨w0, hw0⟩ : ∃ w0, w.alloc (.cells #[.int .u8 p.y, .int .i64 p.n] 36) = w0 := ⟨_, rfl⟩
  rw [hw0] at hb0 ho0
  have K8 := Lib.hid (of_any s w0 ((h.below hb0).mono hb0.size) (fun x hx' => by
    have h1 := hx x hx'
    exact ⟨(h1.th.below hb0).mono hb0.size, (h1.pa.below hb0).mono hb0.size, h1.yb, h1.tb, h1.pb⟩))
  rw [hxs] at K8
  obtain ⟨ao, ls, cap⟩ := s
  obtain ⟨py, pn⟩ := p
  simp only [Sl.v, Nm.v] at K8 ⊢
  have HB0 := Lib.hid hb0
  have HO0 := Lib.hid ho0
  have HPB := Lib.hid hp
  obtain ⟨PB, hPB⟩ : ∃ PB, w.heap.size = PB := ⟨_, rfl⟩
  rw [hPB] at HO0
  simp only at HO0
  have HPE := Lib.hid hPB
  have hPl : PB < w0.heap.size := (Array.getElem?_eq_some_iff.1 HO0.out).1
  clear h hx hxs hb0 ho0 hp
  obtain ⟨r4, hr4⟩ : ∃ r4, many % 4 = r4 := ⟨_, rfl⟩
  have hrz : Int.tmod (many : Int) 4 = (r4 : Int) := by rw [← hr4]; rfl
  have hr43 : r4 < 4 := by omega
  have HRZ := Lib.hid hrz
  clear hr4
  go_enter Try.func7, Try.ntmps7
  rw [hPB]
  go_upto_region 2 with (go_at_call 8; refine K8.out.mono ?_; rintro e w1 ⟨F, rs, fv, ⟨ma, ml, mc⟩, rfl, hO, hb⟩; have HO := Lib.hid hO.out.1; have HML := Lib.hid hO.out.2; have HB1 := Lib.hid hb; simp only [Sl.v]; clear hO hb)
  have hTAB := HO.out.tab
  obtain ⟨BT, hBT⟩ : ∃ BT, w0.heap.size = BT := ⟨_, rfl⟩
  have hBT' := hBT
  rw [hBT] at hTAB ⊢
  have HTK := Lib.hid hTAB.1
  have HSM := Lib.hid hTAB.2.1
  have HR6 := Lib.hid hTAB.2.2.1
  have HRL := Lib.hid hTAB.2.2.2
  have HBT := Lib.hid hBT'
  have hml : ml = (ofM xs).made := HML.out
  have hmlen : ml.length = min 60 xs.length := by rw [hml, ofM_made]
  have HMLN : Hid (ml.length ≤ 60) := Lib.hid (by omega)
  have HMT : Hid (totM (ofM xs).T = ml.length) := Lib.hid (by rw [ofM_tot, hmlen])
  have HB01 : Hid (Below w.heap.size w w1) := Lib.hid (HB0.out.trans (HB1.out.mono (by have := HB0.out.size; omega)))
  have HO1 : Hid (w1.heap[PB]? = some (.cells #[.int .u8 py, .int .i64 pn] 36 (0, 0))) := Lib.hid ((HB1.out.block PB hPl).trans HO0.out)
  clear hTAB hBT hBT' hml hmlen hPl
  iterate 7 go_step
  have hlie : (⟨some ⟨BT, 0, none⟩, rs, 6⟩ : Tb).lie rowEnc w1.heap.size w1 := HTK.out.lie
  have hbu := below1 w1 (.cells #[] 37)
  refine wpList_app_recs kdRow (N := w1.heap.size) (v := .slice (some ⟨w1.heap.size, 0, none⟩) 0 0) (l := ([] : List (Sl Lp))) (l2 := rs) (ad := ⟨BT, 0, none⟩) (n := 6) (c := 6) rfl rfl rfl rfl HR6.out.symm (World.ownsRow_made w1 #[] 0 (Nat.le_refl _) (by decide) rfl) (fun j u hj => ?_) (by rw [HR6.out]; decide) (by simp) ?_
  · rcases hlie with h0 | ⟨b, o, he, hl, hc⟩
    · simp only at h0; subst h0; simp [rcells] at hj
    · simp only [Option.some.injEq, Addr.mk.injEq, and_true] at he
      obtain ⟨rfl, rfl⟩ := he
      have h1 := hc j u hj
      rw [show (⟨BT, 0, none⟩ : Addr).add j = ⟨BT, 0 + j, none⟩ from Addr.add_lit ..]
      exact (hbu.cell (p := ⟨BT, 0 + j, none⟩) hl).trans h1
  intro v5 w5 ho5 hg5 hat5
  have hb5 : Below w1.heap.size w1 w5 := hbu.grown hg5 (by simp) (fun g e => Nat.le_of_eq (Option.some.inj e))
  rw [List.nil_append] at ho5
  obtain ⟨⟨ua, ul, uc⟩, rfl, hul, -⟩ := own_lie rowEnc_len ho5 rfl
  have hul' : ul = rs := hul
  subst hul'
  simp only [Sl.v] at ho5 ⊢
  have HU5 := Lib.hid ho5
  have HB5 := Lib.hid hb5
  clear ho5 hg5 hat5 hb5 hul hlie hbu
  have HRW : Hid (∀ W, Below w1.heap.size w1 W → ∀ r ∈ ul, RowOk W.heap.size W r) := Lib.hid fun W hW r hr => ((HTK.out.el r hr).below hW).mono hW.size
  go_wp2_with fail
  go_loopg [9, 10] 5 (fun g v9 v10 wr => ∃ (j : Nat) (a : Option Addr) (us : List (Sl Lp)) (c : Nat), v9 = .slice a us.length c ∧ v10 = .int .i64 j ∧ j ≤ r4 ∧ g = 5 - j ∧ us.length = 6 + j ∧ Hid (wr.ownsRow w1.heap.size 37 1 (.slice a us.length c) us.length (rcells rowEnc us) ∧ (∀ r ∈ us, r ∈ ul ∨ ∃ b, r = zrow b ∧ wr.heap[b]? = some (.cells zcells 45 (0, 0)) ∧ (Value.slice a us.length c).ownBlock ≠ some b) ∧ (us.map fun r => r.l.length).sum = ml.length + j) ∧ Hid (Below w1.heap.size w1 wr))
  case atStart => exact ⟨0, ua, ul, uc, rfl, rfl, by omega, by omega, by rw [HR6.out], Lib.hid ⟨HU5.out, fun r hr => .inl hr, by
    have h := tot_sum ⟨some ⟨BT, 0, none⟩, ul, 6⟩
    rw [HSM.out, HMT.out] at h
    exact h⟩, HB5⟩
  case round =>
    obtain ⟨j, a, us, c, rfl, rfl, hj, hg, hus, HU, HBW⟩ := hrel
    have HG := Lib.hid hg
    have HUS := Lib.hid hus
    clear hg hus
    by_cases hj4 : j < r4
    · have hjz : (j : Int) < (r4 : Int) := by omega
      go_upto_region 6 with fail
      iterate 13 go_step
      have hbz := below2 wr (.cells #[.int .u8 0, .bool false, .slice none 0 0, .slice none 0 0] 45) (.cells #[.slice (some ⟨wr.heap.size, 0, none⟩) 1 1] 37)
      have hzl := heap_alloc_new wr (.cells #[.int .u8 0, .bool false, .slice none 0 0, .slice none 0 0] 45)
      have hrec := rec_new rowEnc (wr.alloc (.cells #[.int .u8 0, .bool false, .slice none 0 0, .slice none 0 0] 45)) 37 (zrow wr.heap.size)
      rw [World.size_alloc] at hrec
      refine wpList_app_rec kdRow (N := w1.heap.size) (v := .slice a us.length c) (l := us) (x := zrow wr.heap.size) rfl rfl rfl rfl ((HU.out.1.alloc _).alloc _) hrec (by have := HUS.out; omega) (by have := HBW.out.size; simp; omega) ?_
      intro v6 w6 ho6 hg6 hat6
      have hb6 : Below w1.heap.size w1 w6 := (HBW.out.trans (hbz.mono HBW.out.size)).grown hg6 (by have := HBW.out.size; simp; omega) (fun g e => (HU.out.1.lt g e).1)
      have hne : (Value.slice a us.length c).ownBlock ≠ some wr.heap.size := fun e => by have := (HU.out.1.lt _ e).2; omega
      have hz6 : w6.heap[wr.heap.size]? = some (.cells #[.int .u8 0, .bool false, .slice none 0 0, .slice none 0 0] 45 (0, 0)) := (hg6.block wr.heap.size (by simp; omega) (fun e => hne e.symm)).trans ((Below.heap_alloc _ _ _ (by simp)).trans hzl)
      have hel : ∀ r ∈ us ++ [zrow wr.heap.size], r ∈ ul ∨ ∃ b, r = zrow b ∧ w6.heap[b]? = some (.cells zcells 45 (0, 0)) ∧ v6.ownBlock ≠ some b := by
        intro r hr
        rcases List.mem_append.1 hr with hr | hr
        · rcases HU.out.2.1 r hr with h | ⟨b, rfl, h1, h2⟩
          · exact .inl h
          · have hbl : b < wr.heap.size := (Array.getElem?_eq_some_iff.1 h1).1
            refine .inr ⟨b, rfl, (hg6.block b (by simp; omega) (fun e => h2 e.symm)).trans ((hbz.block b hbl).trans h1), ?_⟩
            rcases hat6 with e | e
            · rw [e]; exact h2
            · rw [e]; simp; omega
        · obtain rfl : r = _ := by simpa using hr
          refine .inr ⟨wr.heap.size, rfl, hz6, ?_⟩
          rcases hat6 with e | e
          · rw [e]; exact hne
          · rw [e]; simp; omega
      obtain ⟨⟨a6, l6, c6⟩, rfl, hl6, -⟩ := own_lie rowEnc_len ho6 rfl
      have hl6' : l6 = us ++ [zrow wr.heap.size] := hl6
      simp only [Sl.v] at ho6 hel ⊢
      have HZ := Lib.hid (And.intro ho6 (And.intro hel hb6))
      have HL6 := Lib.hid hl6'
      clear ho6 hg6 hat6 hb6 hne hz6 hel hl6 hl6' hbz hzl hrec
      go_wp2_with fail
      go_roundg (5 - (j + 1))
      case measure => have := HG.out; omega
      case rel =>
        refine ⟨j + 1, a6, l6, c6, rfl, by go_num, by omega, by omega, by rw [HL6.out, List.length_append]; simp only [List.length_cons, List.length_nil]; have := HUS.out; omega, Lib.hid ⟨?_, ?_, ?_⟩, Lib.hid HZ.out.2.2⟩
        · have h := HZ.out.1
          rw [← HL6.out] at h
          exact h
        · have h := HZ.out.2.1
          rw [← HL6.out] at h
          exact h
        · rw [HL6.out, List.map_append, List.sum_append, HU.out.2.2]
          simp only [zrow, List.map_cons, List.map_nil, List.length_cons, List.length_nil, List.sum_cons, List.sum_nil]
          omega
    · obtain rfl : j = r4 := by omega
      have hjz : ¬ (j : Int) < (j : Int) := by omega
      have hUok : Tb.ok wr.heap.size wr ⟨a, us, c⟩ := by
        refine ⟨own_lie' (s := ⟨a, us, c⟩) rowEnc_len HU.out.1, fun r hr => ?_, by have := HUS.out; simp only; omega⟩
        rcases HU.out.2.1 r hr with h | ⟨b, rfl, h1, -⟩
        · exact HRW.out _ HBW.out r h
        · exact zrow_ok h1
      have K11 := Lib.hid (count_any ⟨a, us, c⟩ wr.heap.size wr (Nat.le_refl _) hUok)
      rw [HU.out.2.2] at K11
      simp only [Sl.v, Int.natCast_add] at K11
      have hml6 := HMLN.out
      have HIDW : Hid (wr.heap[PB]? = some (.cells #[.int .u8 py, .int .i64 pn] 36 (0, 0))) := Lib.hid ((HBW.out.block PB (Array.getElem?_eq_some_iff.1 HO1.out).1).trans HO1.out)
      have i0 : wr.cell? ⟨PB, 0, none⟩ = some (.int .u8 py) := by simp [World.cell?, HIDW.out]
      have i1 : wr.cell? ⟨PB, 1, none⟩ = some (.int .i64 pn) := by simp [World.cell?, HIDW.out]
      have HT5 : Hid (∀ W, Below w1.heap.size w1 W → Tb.ok w1.heap.size W ⟨some ⟨BT, 0, none⟩, ul, 6⟩) := Lib.hid fun W hW => HTK.out.below hW
      have K15 := Lib.hid (find_any ⟨some ⟨BT, 0, none⟩, ul, 6⟩ ⟨py, pn⟩ w1.heap.size wr HBW.out.size (HT5.out _ HBW.out) HPB.out)
      have K21 := Lib.hid (fun (W : World) (hW : Below w1.heap.size w1 W) => there21 ⟨some ⟨BT, 0, none⟩, ul, 6⟩ ⟨py, pn⟩ w1.heap.size W hW.size (HT5.out W hW) HPB.out)
      rw [HSM.out] at K15 K21
      simp only [Sl.v, HR6.out, Nm.v] at K15 K21
      have hsum : (ml.length : Int) + (j : Int) ≤ 100 := by omega
      clear hUok
      cases hth : there (ofM xs).T ⟨py, pn⟩ with
      | false =>
        rw [hth] at K15 K21
        have K15' := Lib.hid (K15.out.mono (R' := fun e w' => e = .returned (.tuple #[.agg #[.int .u8 0, .bool false, .slice none 0 0, .slice none 0 0], .int .i64 7]) ∧ Below wr.heap.size wr w') (fun e w' hx2 => by
          rcases hx2 with ⟨-, h, hb⟩ | ⟨h9, -⟩
          · exact ⟨h, hb⟩
          · cases h9))
        clear K15
        go_wp2_with (first
          | (go_at_call 11; refine K11.out.mono ?_; rintro e x1 ⟨rfl, rfl⟩)
          | (go_at_call 15; refine K15'.out.mono ?_; rintro e x2 ⟨rfl, hb⟩; have HBX : Hid (Below w1.heap.size w1 x2) := Lib.hid (HBW.out.trans (hb.mono HBW.out.size)); have hid := (hb.block PB (Array.getElem?_eq_some_iff.1 HIDW.out).1).trans HIDW.out; have hid2 := get_old hid (.cells #[.int .u8 0, .bool false, .slice none 0 0, .slice none 0 0] 45); have j0 : (x2.alloc (.cells #[.int .u8 0, .bool false, .slice none 0 0, .slice none 0 0] 45)).cell? ⟨PB, 0, none⟩ = some (.int .u8 py) := (by rw [cell_of_row _ _ _ _ _ _ hid2]; rfl); have j1 : (x2.alloc (.cells #[.int .u8 0, .bool false, .slice none 0 0, .slice none 0 0] 45)).cell? ⟨PB, 1, none⟩ = some (.int .i64 pn) := (by rw [cell_of_row _ _ _ _ _ _ hid2]; rfl); clear hb hid hid2)
          | (go_at_call 21; refine (K21.out _ (HBX.out.alloc HBX.out.size (.cells #[.int .u8 0, .bool false, .slice none 0 0, .slice none 0 0] 45))).mono ?_; rintro e x3 ⟨rfl, hb⟩; have HBY : Hid (Below w1.heap.size w1 x3) := Lib.hid ((HBX.out.alloc HBX.out.size _).trans (hb.mono (Nat.le_trans HBX.out.size (by simp)))); have hbx := (hb.block x2.heap.size (by simp)).trans (heap_alloc_new x2 (.cells #[.int .u8 0, .bool false, .slice none 0 0, .slice none 0 0] 45)); have b1 : x3.cell? ⟨x2.heap.size, 1, none⟩ = some (.bool false) := (by simp [World.cell?, hbx]); have b2 : x3.cell? ⟨x2.heap.size, 2, none⟩ = some (.slice none 0 0) := (by simp [World.cell?, hbx]); have b3 : x3.cell? ⟨x2.heap.size, 3, none⟩ = some (.slice none 0 0) := (by simp [World.cell?, hbx]); clear hb hbx)
          | (go_at_call 13; refine (lives_any _).mono ?_; rintro e x4 ⟨rfl, hb⟩; have HBV : Hid (Below w1.heap.size w1 x4) := Lib.hid (HBY.out.trans (hb.mono HBY.out.size)); clear hb))
        go_ret
        exact ⟨rfl, by rw [← HPE.out]; exact HB01.out.trans (HBV.out.mono HB01.out.size)⟩
      | true =>
        rw [hth] at K15 K21
        have K15' := Lib.hid (K15.out.mono (R' := fun e w' => ∃ (bed : Int) (nw : Bool) (ta : Option Addr) (tl : List Nm) (pa : Option Addr) (pl : List Pa), e = .returned (.tuple #[.agg #[.int .u8 bed, .bool nw, .slice ta tl.length tl.length, .slice pa pl.length pl.length], .int .i64 0]) ∧ Hid (w'.ownsRow wr.heap.size 36 2 (.slice ta tl.length tl.length) tl.length (rcells Nm.enc tl) ∧ w'.ownsRow wr.heap.size 56 4 (.slice pa pl.length pl.length) pl.length (rcells Pa.enc pl) ∧ tl.length ≤ 100 ∧ pl.length ≤ 100) ∧ Below wr.heap.size wr w') (fun e w' hx2 => by
          rcases hx2 with ⟨h9, -⟩ | ⟨-, v, rfl, hv, hb⟩
          · cases h9
          · obtain ⟨⟨bed, nw, ⟨ta, tl, tc⟩, ⟨pa, pl, pc⟩⟩, rfl, hv⟩ := hv
            obtain ⟨-, h2, h3, h4, h5, h6, -⟩ := hv.out
            simp only at h2 h3
            subst h2 h3
            exact ⟨bed, nw, ta, tl, pa, pl, rfl, Lib.hid ⟨h5, h6, h4.lt, h4.lp⟩, hb⟩))
        clear K15
        go_upto_region 14 with (first
          | (go_at_call 11; refine K11.out.mono ?_; rintro e x1 ⟨rfl, rfl⟩)
          | (go_at_call 15; refine K15'.out.mono ?_; rintro e x2 ⟨bed, nw, ta, tl, pa, pl, rfl, hw, hb⟩; have HW := Lib.hid hw.out; have HBX : Hid (Below w1.heap.size w1 x2) := Lib.hid (HBW.out.trans (hb.mono HBW.out.size)); have HSZ := Lib.hid hb.size; have hid := (hb.block PB (Array.getElem?_eq_some_iff.1 HIDW.out).1).trans HIDW.out; have hid2 := get_old hid (.cells #[.int .u8 bed, .bool nw, .slice ta tl.length tl.length, .slice pa pl.length pl.length] 45); have j0 : (x2.alloc (.cells #[.int .u8 bed, .bool nw, .slice ta tl.length tl.length, .slice pa pl.length pl.length] 45)).cell? ⟨PB, 0, none⟩ = some (.int .u8 py) := (by rw [cell_of_row _ _ _ _ _ _ hid2]; rfl); have j1 : (x2.alloc (.cells #[.int .u8 bed, .bool nw, .slice ta tl.length tl.length, .slice pa pl.length pl.length] 45)).cell? ⟨PB, 1, none⟩ = some (.int .i64 pn) := (by rw [cell_of_row _ _ _ _ _ _ hid2]; rfl); clear hw hb hid hid2)
          | (go_at_call 21; refine (K21.out _ (HBX.out.alloc HBX.out.size (.cells #[.int .u8 bed, .bool nw, .slice ta tl.length tl.length, .slice pa pl.length pl.length] 45))).mono ?_; rintro e x3 ⟨rfl, hb⟩; have HBY : Hid (Below w1.heap.size w1 x3) := Lib.hid ((HBX.out.alloc HBX.out.size _).trans (hb.mono (Nat.le_trans HBX.out.size (by simp)))); have HBZ := Lib.hid ((below1 x2 _).trans (hb.mono (by simp))); have HBOX := Lib.hid ((hb.block x2.heap.size (by simp)).trans (heap_alloc_new x2 (.cells #[.int .u8 bed, .bool nw, .slice ta tl.length tl.length, .slice pa pl.length pl.length] 45))); clear hb))
        obtain ⟨LX, hLX⟩ : ∃ LX, x2.heap.size = LX := ⟨_, rfl⟩
        obtain ⟨n1, hn1⟩ : ∃ n1, tl.length = n1 := ⟨_, rfl⟩
        obtain ⟨n2, hn2⟩ : ∃ n2, pl.length = n2 := ⟨_, rfl⟩
        have HWR : Hid (Wr w1.heap.size LX bed nw ta n1 pa n2 x3) := Lib.hid (by
          rw [← hLX, ← hn1, ← hn2]
          exact ⟨HBOX.out, (rowC_own HW.out.1 HBW.out.size).below HBZ.out, (rowC_own HW.out.2.1 HBW.out.size).below HBZ.out⟩)
        have hl1 : n1 ≤ 100 := by rw [← hn1]; exact HW.out.2.2.1
        have hl2 : n2 ≤ 100 := by rw [← hn2]; exact HW.out.2.2.2
        rw [hLX, hn1, hn2]
        clear hLX hn1 hn2 HBOX HW HBZ K15' K11
        have c2 : x3.cell? ⟨LX, 2, none⟩ = some (.slice ta n1 n1) := by simp [World.cell?, HWR.out.box]
        have c3 : x3.cell? ⟨LX, 3, none⟩ = some (.slice pa n2 n2) := by simp [World.cell?, HWR.out.box]
        go_wp2_with fail
        go_loopg [13] (n1 + 1) (fun g v wr => ∃ i : Nat, v = .int .i64 i ∧ i ≤ n1 ∧ g = n1 + 1 - i ∧ Hid (Wr w1.heap.size LX bed nw ta n1 pa n2 wr) ∧ Hid (Below w1.heap.size w1 wr))
        case atStart => exact ⟨0, rfl, by omega, by omega, HWR, HBY⟩
        case round =>
          clear c2 c3
          obtain ⟨i, rfl, hi, hg, HR, HBR⟩ := hrel
          have HG := Lib.hid hg
          clear hg
          have c2 : wr.cell? ⟨LX, 2, none⟩ = some (.slice ta n1 n1) := by simp [World.cell?, HR.out.box]
          have c3 : wr.cell? ⟨LX, 3, none⟩ = some (.slice pa n2 n2) := by simp [World.cell?, HR.out.box]
          by_cases hin : i < n1
          · have hiz : (i : Int) < (n1 : Int) := by omega
            have hrow := HR.out.th
            rcases hrow with h0 | ⟨gb, cur, ha, hgb, hcs, hBg⟩
            · omega
            · obtain rfl : ta = some ⟨gb, 0, none⟩ := ha
              have hlt : i * 2 + 1 < cur.size := by
                have h1 : (i + 1) * 2 ≤ n1 * 2 := Nat.mul_le_mul_right _ hin
                omega
              have cc : wr.cell? ⟨gb, i * 2 + 1, none⟩ = some cur[i * 2 + 1] := by
                rw [cell_of_row wr gb _ cur 36 (0, 0) hgb, Array.getElem?_eq_getElem hlt]
              have cf : wr.frozen? ⟨gb, i * 2 + 1, none⟩ = false := by simp [World.frozen?, hgb]
              have HW2 : Hid (∀ v, Wr w1.heap.size LX bed nw (some ⟨gb, 0, none⟩) n1 pa n2 (wr.setCell ⟨gb, i * 2 + 1, none⟩ v)) := Lib.hid fun v => ⟨oth45 HR.out.box hgb (by decide) v, HR.out.th.same rfl hgb v, HR.out.pa.other hgb (by decide) v⟩
              have HBR2 : Hid (∀ v, Below w1.heap.size w1 (wr.setCell ⟨gb, i * 2 + 1, none⟩ v)) := Lib.hid fun v => HBR.out.setCell hBg v
              generalize cur[i * 2 + 1] = uu at cc
              clear hcs hgb hlt
              go_wp2_with fail
              go_roundg (n1 + 1 - (i + 1))
              case measure => have := HG.out; omega
              case rel => exact ⟨i + 1, by go_num, by omega, by omega, Lib.hid (HW2.out _), Lib.hid (HBR2.out _)⟩
          · have hie : n1 = i := by omega
            subst hie
            have hiz : ¬ ((n1 : Int) < (n1 : Int)) := by omega
            go_wp2_with fail
            go_loopg [14] (n2 + 1) (fun g v wr => ∃ i : Nat, v = .int .i64 i ∧ i ≤ n2 ∧ g = n2 + 1 - i ∧ Hid (Wr w1.heap.size LX bed nw ta n1 pa n2 wr) ∧ Hid (Below w1.heap.size w1 wr))
            case atStart => exact ⟨0, rfl, by omega, by omega, HR, HBR⟩
            case round =>
              clear c2 c3
              obtain ⟨i, rfl, hi, hg, HR, HBR⟩ := hrel
              have HG := Lib.hid hg
              clear hg
              have c2 : wr.cell? ⟨LX, 2, none⟩ = some (.slice ta n1 n1) := by simp [World.cell?, HR.out.box]
              have c3 : wr.cell? ⟨LX, 3, none⟩ = some (.slice pa n2 n2) := by simp [World.cell?, HR.out.box]
              by_cases hin : i < n2
              · have hiz : (i : Int) < (n2 : Int) := by omega
                have hrow := HR.out.pa
                rcases hrow with h0 | ⟨gb, cur, ha, hgb, hcs, hBg⟩
                · omega
                · obtain rfl : pa = some ⟨gb, 0, none⟩ := ha
                  have hlt : i * 4 + 1 < cur.size := by
                    have h1 : (i + 1) * 4 ≤ n2 * 4 := Nat.mul_le_mul_right _ hin
                    omega
                  have cc : wr.cell? ⟨gb, i * 4 + 1, none⟩ = some cur[i * 4 + 1] := by
                    rw [cell_of_row wr gb _ cur 56 (0, 0) hgb, Array.getElem?_eq_getElem hlt]
                  have cf : wr.frozen? ⟨gb, i * 4 + 1, none⟩ = false := by simp [World.frozen?, hgb]
                  have HW2 : Hid (∀ v, Wr w1.heap.size LX bed nw ta n1 (some ⟨gb, 0, none⟩) n2 (wr.setCell ⟨gb, i * 4 + 1, none⟩ v)) := Lib.hid fun v => ⟨oth45 HR.out.box hgb (by decide) v, HR.out.th.other hgb (by decide) v, HR.out.pa.same rfl hgb v⟩
                  have HBR2 : Hid (∀ v, Below w1.heap.size w1 (wr.setCell ⟨gb, i * 4 + 1, none⟩ v)) := Lib.hid fun v => HBR.out.setCell hBg v
                  generalize cur[i * 4 + 1] = uu at cc
                  clear hcs hgb hlt
                  go_wp2_with fail
                  go_roundg (n2 + 1 - (i + 1))
                  case measure => have := HG.out; omega
                  case rel => exact ⟨i + 1, by go_num, by omega, by omega, Lib.hid (HW2.out _), Lib.hid (HBR2.out _)⟩
              · have hie : n2 = i := by omega
                subst hie
                have hiz : ¬ ((n2 : Int) < (n2 : Int)) := by omega
                have HTB := Lib.hid (check_any ⟨some ⟨BT, 0, none⟩, ul, 6⟩ w1.heap.size wr HBR.out.size (HT5.out _ HBR.out))
                rw [HSM.out, ofM_check] at HTB
                simp only [Sl.v, HR6.out] at HTB
                go_wp2_with (first
                  | (go_at_call 10; refine HTB.out.mono ?_; rintro e x5 ⟨rfl, hb⟩; have hbox := (hb.block LX (Array.getElem?_eq_some_iff.1 HR.out.box).1).trans HR.out.box; clear c2 c3; have c2 : x5.cell? ⟨LX, 2, none⟩ = some (.slice ta n1 n1) := (by simp [World.cell?, hbox]); have c3 : x5.cell? ⟨LX, 3, none⟩ = some (.slice pa n2 n2) := (by simp [World.cell?, hbox]); have HB9 : Hid (Below w1.heap.size w1 x5) := Lib.hid (HBR.out.trans (hb.mono HBR.out.size)); clear hb hbox)
                  | (go_at_call 13; refine (lives_any _).mono ?_; rintro e x6 ⟨rfl, hb⟩; have HBV : Hid (Below w1.heap.size w1 x6) := Lib.hid (HB9.out.trans (hb.mono HB9.out.size)); clear hb))
                go_ret
                exact ⟨rfl, by rw [← HPE.out]; exact HB01.out.trans (HBV.out.mono HB01.out.size)⟩
end Go.Proofs.Ytgaofkbmnapogaa
