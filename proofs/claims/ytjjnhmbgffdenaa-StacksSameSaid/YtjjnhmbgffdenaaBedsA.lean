import Derived.Test.YtjjnhmbgffdenaaOfB
import Derived.Laws.OwnMore
namespace Go.Proofs.Ytjjnhmbgffdenaa
open Go.RowKit Go.Sort

/-- A block that holds slices: no name lies in it. -/
def SlBlk (w : World) (X : Nat) : Prop := ∃ arr t, w.heap[X]? = some (.cells arr t (0, 0)) ∧ ∀ (i : Nat) (k : IntKind) (z : Int), arr[i]? ≠ some (.int k z)
theorem Cel.ok.set_sl {n : Nat} {w : World} {c : Cel} (h : c.ok n w) {X : Nat} (hX : SlBlk w X) (k : Nat) (x : Value) : c.ok n (w.setCell ⟨X, k, none⟩ x) := by
  obtain ⟨arr, t, hX, hno⟩ := hX
  refine ⟨h.1, h.2.imp id ?_⟩
  rintro ⟨b, o, e, hl, hc⟩
  refine ⟨b, o, e, hl, fun i p hp => ?_⟩
  have h2 := hc i p hp
  have hne : b ≠ X := by
    rintro rfl
    have h3 := h2.1
    simp only [World.cell?, hX, Option.bind_some] at h3
    exact hno _ _ _ h3
  exact ⟨by rw [World.cell?_setCell_other _ _ _ _ (by simp [hne])]; exact h2.1, by rw [World.cell?_setCell_other _ _ _ _ (by simp [hne])]; exact h2.2⟩

/-- A row of stacks that the call has made. -/
def Row (w : World) (g : Nat) (ds : List Cel) : Prop := w.heap[g]? = some (.cells (ds.map Cel.v).toArray 29 (0, 0))
theorem sl_map (ds : List Cel) (i : Nat) (k : IntKind) (z : Int) : (ds.map Cel.v).toArray[i]? ≠ some (.int k z) := by
  simp only [List.getElem?_toArray, List.getElem?_map]
  cases ds[i]? with
  | none => simp
  | some c => simp [Cel.v]
theorem Row.sl {w : World} {g : Nat} {ds : List Cel} (h : Row w g ds) : SlBlk w g := ⟨_, _, h, sl_map ds⟩
theorem Tab.sl {w : World} {B t : Nat} {cs : List Cel} (h : Tab w B t cs) : SlBlk w B := ⟨_, _, h.1, sl_map cs⟩
theorem box_sl {w : World} {B : Nat} {a a' : Option Addr} {n n' c c' : Nat} (h : Boxed2 w B 35 (.slice a n c) (.slice a' n' c')) : SlBlk w B := by
  refine ⟨_, _, h, fun i k z => ?_⟩
  match i with
  | 0 => simp
  | 1 => simp
  | i + 2 => simp
theorem Row.lt {w : World} {g : Nat} {ds : List Cel} (h : Row w g ds) : g < w.heap.size := (Array.getElem?_eq_some_iff.1 (show w.heap[g]? = _ from h)).1
theorem Row.cell {w : World} {g : Nat} {ds : List Cel} (h : Row w g ds) {k : Nat} (hk : k < ds.length) : w.cell? ⟨g, k, none⟩ = some ds[k].v := by
  simp [World.cell?, show w.heap[g]? = _ from h, hk]
theorem Row.frozen {w : World} {g : Nat} {ds : List Cel} (h : Row w g ds) (k : Nat) : w.frozen? ⟨g, k, none⟩ = false := by simp [World.frozen?, show w.heap[g]? = _ from h]
theorem Row.below {w w' : World} {g N : Nat} {ds : List Cel} (h : Row w g ds) (hb : Below N w w') (hg : g < N) : Row w' g ds := (hb.block g hg).trans h
theorem Row.set {w : World} {g : Nat} {ds : List Cel} (h : Row w g ds) (k : Nat) (c : Cel) : Row (w.setCell ⟨g, k, none⟩ c.v) g (ds.set k c) :=
  (setCell_block w g k c.v h).trans (by simp [List.map_set])
theorem heap_set_other (w : World) {g X k : Nat} {x : Value} (hne : g ≠ X) (hg : g < w.heap.size) : (w.setCell ⟨X, k, none⟩ x).heap[g]? = w.heap[g]? :=
  (grownBy_setCellAt w X k x).block g hg (by simp [hne])
theorem Row.other {w : World} {g X k : Nat} {x : Value} {ds : List Cel} (h : Row w g ds) (hne : g ≠ X) : Row (w.setCell ⟨X, k, none⟩ x) g ds := (heap_set_other w hne h.lt).trans h
theorem row_new (w : World) (n : Nat) : Row (w.alloc (.cells (madeCells #[.slice none 0 0] n) 29)) w.heap.size (List.replicate n Cel.nil) := by
  refine (heap_alloc_new w _).trans ?_
  have : madeCells #[.slice none 0 0] n = ((List.replicate n Cel.nil).map Cel.v).toArray := by
    apply Array.toList_inj.1
    rw [toList_madeCells_one, List.map_replicate]; rfl
  rw [this]

/-- A bed that the call fills: no row, or a row of its own. -/
def BedAt (N : Nat) (w : World) (a : Option Addr) (ds : List Cel) : Prop := (a = none ∧ ds = []) ∨ ∃ g, a = some ⟨g, 0, none⟩ ∧ N ≤ g ∧ Row w g ds
structure Mk (N : Nat) (w : World) (cs : List Cel) (fa ba : Option Addr) (fs bs : List Cel) : Prop where
  tab : Tab w N 31 cs
  res : Boxed2 w (N + 1) 35 (.slice none 0 0) (.slice none 0 0)
  box : Boxed2 w (N + 1 + 1) 35 (.slice fa fs.length fs.length) (.slice ba bs.length bs.length)
  f : BedAt (N + 3) w fa fs
  b : BedAt (N + 3) w ba bs
  ne : ∀ g g', fa = some ⟨g, 0, none⟩ → ba = some ⟨g', 0, none⟩ → g ≠ g'
  ok : ∀ c ∈ cs, c.ok w.heap.size w
  okf : ∀ c ∈ fs, c.ok w.heap.size w
  okb : ∀ c ∈ bs, c.ok w.heap.size w
  bel : N + 3 ≤ w.heap.size
theorem BedAt.below {N M : Nat} {w w' : World} {a : Option Addr} {ds : List Cel} (h : BedAt N w a ds) (hb : Below M w w') (hm : ∀ g, a = some ⟨g, 0, none⟩ → g < M) : BedAt N w' a ds := by
  rcases h with h | ⟨g, h1, h2, h3⟩
  · exact .inl h
  · exact .inr ⟨g, h1, h2, h3.below hb (hm g h1)⟩
theorem BedAt.lt {N : Nat} {w : World} {a : Option Addr} {ds : List Cel} (h : BedAt N w a ds) : ∀ g, a = some ⟨g, 0, none⟩ → N ≤ g ∧ g < w.heap.size := by
  rintro g rfl
  rcases h with ⟨h, _⟩ | ⟨g', h1, h2, h3⟩
  · cases h
  · cases h1; exact ⟨h2, h3.lt⟩
theorem BedAt.other {N : Nat} {w : World} {a : Option Addr} {ds : List Cel} (h : BedAt N w a ds) {X k : Nat} {x : Value} (hX : ∀ g, a = some ⟨g, 0, none⟩ → g ≠ X) : BedAt N (w.setCell ⟨X, k, none⟩ x) a ds := by
  rcases h with h | ⟨g, h1, h2, h3⟩
  · exact .inl h
  · exact .inr ⟨g, h1, h2, h3.other (hX g h1)⟩
theorem Mk.below {N : Nat} {w w' : World} {cs : List Cel} {fa ba : Option Addr} {fs bs : List Cel} (h : Mk N w cs fa ba fs bs) (hb : Below w.heap.size w w') : Mk N w' cs fa ba fs bs :=
  ⟨h.tab.below hb h.tab.lt, h.res.below hb h.res.lt, h.box.below hb h.box.lt, h.f.below hb fun g e => (h.f.lt g e).2, h.b.below hb fun g e => (h.b.lt g e).2, h.ne, fun c hc => ((h.ok c hc).below hb).mono hb.size, fun c hc => ((h.okf c hc).below hb).mono hb.size, fun c hc => ((h.okb c hc).below hb).mono hb.size, Nat.le_trans h.bel hb.size⟩
theorem Mk.set0 {N : Nat} {w : World} {cs : List Cel} {fa ba : Option Addr} {fs bs : List Cel} (h : Mk N w cs fa ba fs bs) {a' : Option Addr} {ds : List Cel} (hbed : BedAt (N + 3) w a' ds) (hne : ∀ g g', a' = some ⟨g, 0, none⟩ → ba = some ⟨g', 0, none⟩ → g ≠ g') (hok : ∀ c ∈ ds, c.ok w.heap.size w) :
    Mk N (w.setCell ⟨N + 1 + 1, 0, none⟩ (.slice a' ds.length ds.length)) cs a' ba ds bs := by
  have hs : SlBlk w (N + 1 + 1) := box_sl h.box
  have z : (w.setCell ⟨N + 1 + 1, 0, none⟩ (.slice a' ds.length ds.length)).heap.size = w.heap.size := by simp
  refine ⟨h.tab.other (by omega), (heap_set_other w (by omega) h.res.lt).trans h.res, h.box.set0 _, (hbed).other (fun g e => by have := (hbed).lt g e; omega), (h.b).other (fun g e => by have := (h.b).lt g e; omega), hne, fun c hc => ?_, fun c hc => ?_, fun c hc => ?_, by rw [z]; exact h.bel⟩
  · rw [z]; exact (h.ok c hc).set_sl hs _ _
  · rw [z]; exact (hok c hc).set_sl hs _ _
  · rw [z]; exact (h.okb c hc).set_sl hs _ _
theorem Mk.new0 {N : Nat} {w : World} {cs : List Cel} {fa ba : Option Addr} {bs : List Cel} (h : Mk N w cs fa ba [] bs) (n : Nat) :
    Mk N ((w.alloc (.cells (madeCells #[.slice none 0 0] n) 29)).setCell ⟨N + 1 + 1, 0, none⟩ (.slice (some ⟨w.heap.size, 0, none⟩) n n)) cs (some ⟨w.heap.size, 0, none⟩) ba (List.replicate n Cel.nil) bs := by
  have h1 := h.below (below1 w (.cells (madeCells #[.slice none 0 0] n) 29))
  have h2 := h1.set0 (a' := some ⟨w.heap.size, 0, none⟩) (ds := List.replicate n Cel.nil) (.inr ⟨_, rfl, h.bel, row_new w n⟩) (fun g g' e1 e2 => by cases e1; have := (h.b).lt g' e2; omega) (fun c hc => by rw [List.eq_of_mem_replicate hc]; exact Cel.nil_ok _ _)
  rw [List.length_replicate] at h2
  exact h2
theorem Mk.row0 {N : Nat} {w : World} {cs : List Cel} {ba : Option Addr} {fs bs : List Cel} {g : Nat} (h : Mk N w cs (some ⟨g, 0, none⟩) ba fs bs) (i : Nat) {c' : Cel} (hc' : c'.ok w.heap.size w) :
    Mk N (w.setCell ⟨g, i, none⟩ c'.v) cs (some ⟨g, 0, none⟩) ba (fs.set i c') bs := by
  have hr : N + 3 ≤ g ∧ Row w g fs := by
    rcases h.f with ⟨h1, _⟩ | ⟨g', h1, h2, h3⟩
    · cases h1
    · cases h1; exact ⟨h2, h3⟩
  have hs := hr.2.sl
  have z : (w.setCell ⟨g, i, none⟩ c'.v).heap.size = w.heap.size := by simp
  have hb : Boxed2 (w.setCell ⟨g, i, none⟩ c'.v) (N + 1 + 1) 35 (.slice (some ⟨g, 0, none⟩) fs.length fs.length) (.slice ba bs.length bs.length) := (heap_set_other w (by omega) h.box.lt).trans h.box
  refine ⟨h.tab.other (by omega), (heap_set_other w (by omega) h.res.lt).trans h.res, by rw [List.length_set]; exact hb, .inr ⟨g, rfl, hr.1, hr.2.set i c'⟩, h.b.other (fun g2 e => (h.ne g g2 rfl e).symm), h.ne, fun c hc => ?_, fun c hc => ?_, fun c hc => ?_, by rw [z]; exact h.bel⟩
  · rw [z]; exact (h.ok c hc).set_sl hs _ _
  · rw [z]; rcases List.mem_or_eq_of_mem_set hc with hc | rfl
    · exact (h.okf c hc).set_sl hs _ _
    · exact hc'.set_sl hs _ _
  · rw [z]; exact (h.okb c hc).set_sl hs _ _
theorem Mk.set1 {N : Nat} {w : World} {cs : List Cel} {fa ba : Option Addr} {fs bs : List Cel} (h : Mk N w cs fa ba fs bs) {a' : Option Addr} {ds : List Cel} (hbed : BedAt (N + 3) w a' ds) (hne : ∀ g g', a' = some ⟨g, 0, none⟩ → fa = some ⟨g', 0, none⟩ → g ≠ g') (hok : ∀ c ∈ ds, c.ok w.heap.size w) :
    Mk N (w.setCell ⟨N + 1 + 1, 1, none⟩ (.slice a' ds.length ds.length)) cs fa a' fs ds := by
  have hs : SlBlk w (N + 1 + 1) := box_sl h.box
  have z : (w.setCell ⟨N + 1 + 1, 1, none⟩ (.slice a' ds.length ds.length)).heap.size = w.heap.size := by simp
  refine ⟨h.tab.other (by omega), (heap_set_other w (by omega) h.res.lt).trans h.res, h.box.set1 _, (h.f).other (fun g e => by have := (h.f).lt g e; omega), (hbed).other (fun g e => by have := (hbed).lt g e; omega), fun g g' e1 e2 => (hne g' g e2 e1).symm, fun c hc => ?_, fun c hc => ?_, fun c hc => ?_, by rw [z]; exact h.bel⟩
  · rw [z]; exact (h.ok c hc).set_sl hs _ _
  · rw [z]; exact (h.okf c hc).set_sl hs _ _
  · rw [z]; exact (hok c hc).set_sl hs _ _
theorem Mk.new1 {N : Nat} {w : World} {cs : List Cel} {fa ba : Option Addr} {fs : List Cel} (h : Mk N w cs fa ba fs []) (n : Nat) :
    Mk N ((w.alloc (.cells (madeCells #[.slice none 0 0] n) 29)).setCell ⟨N + 1 + 1, 1, none⟩ (.slice (some ⟨w.heap.size, 0, none⟩) n n)) cs fa (some ⟨w.heap.size, 0, none⟩) fs (List.replicate n Cel.nil) := by
  have h1 := h.below (below1 w (.cells (madeCells #[.slice none 0 0] n) 29))
  have h2 := h1.set1 (a' := some ⟨w.heap.size, 0, none⟩) (ds := List.replicate n Cel.nil) (.inr ⟨_, rfl, h.bel, row_new w n⟩) (fun g g' e1 e2 => by cases e1; have := (h.f).lt g' e2; omega) (fun c hc => by rw [List.eq_of_mem_replicate hc]; exact Cel.nil_ok _ _)
  rw [List.length_replicate] at h2
  exact h2
theorem Mk.row1 {N : Nat} {w : World} {cs : List Cel} {fa : Option Addr} {fs bs : List Cel} {g : Nat} (h : Mk N w cs fa (some ⟨g, 0, none⟩) fs bs) (i : Nat) {c' : Cel} (hc' : c'.ok w.heap.size w) :
    Mk N (w.setCell ⟨g, i, none⟩ c'.v) cs fa (some ⟨g, 0, none⟩) fs (bs.set i c') := by
  have hr : N + 3 ≤ g ∧ Row w g bs := by
    rcases h.b with ⟨h1, _⟩ | ⟨g', h1, h2, h3⟩
    · cases h1
    · cases h1; exact ⟨h2, h3⟩
  have hs := hr.2.sl
  have z : (w.setCell ⟨g, i, none⟩ c'.v).heap.size = w.heap.size := by simp
  have hb : Boxed2 (w.setCell ⟨g, i, none⟩ c'.v) (N + 1 + 1) 35 (.slice fa fs.length fs.length) (.slice (some ⟨g, 0, none⟩) bs.length bs.length) := (heap_set_other w (by omega) h.box.lt).trans h.box
  refine ⟨h.tab.other (by omega), (heap_set_other w (by omega) h.res.lt).trans h.res, by rw [List.length_set]; exact hb, h.f.other (fun g2 e => h.ne g2 g e rfl), .inr ⟨g, rfl, hr.1, hr.2.set i c'⟩, h.ne, fun c hc => ?_, fun c hc => ?_, fun c hc => ?_, by rw [z]; exact h.bel⟩
  · rw [z]; exact (h.ok c hc).set_sl hs _ _
  · rw [z]; exact (h.okf c hc).set_sl hs _ _
  · rw [z]; rcases List.mem_or_eq_of_mem_set hc with hc | rfl
    · exact (h.okb c hc).set_sl hs _ _
    · exact hc'.set_sl hs _ _

/-- 'append' of a stack to an empty row without room. -/
theorem run_append_zero (w : World) (ty g : Nat) (hg : w.heap[g]? = some (.cells #[] 28 (0, 0))) (c : Cel) (hl : c.ok w.heap.size w) :
    ∃ (c' : Cel) (w' : World), (Builtin.append_ #[29, 29] ty #[.slice (some ⟨g, 0, none⟩) 0 0, c.v]).run Try.prog w = .ok c'.v w' ∧ c'.l = c.l ∧ c'.ok w'.heap.size w' ∧ Below w.heap.size w w' := by
  obtain ⟨i0, hi, hz0, hz1, hz2⟩ := info_parts info28
  obtain ⟨ao, l, cap⟩ := c
  have hlen : l.length ≤ 100 := hl.1
  have hown : w.ownsRow 0 28 2 (.slice (some ⟨g, 0, none⟩) 0 0) 0 (cellsOf []) := ⟨by simp [cellsOf], .inr ⟨g, 0, #[], rfl, Nat.zero_le _, hg, Nat.le_refl _, by unfold maxLen; omega, by simp, by simp [cellsOf]⟩⟩
  by_cases hz : l = []
  · subst hz
    refine ⟨⟨some ⟨g, 0, none⟩, [], 0⟩, w, ?_, rfl, ⟨by simp, .inl rfl⟩, Below.refl _ _⟩
    cases ao with
    | none => exact run_append_nothing w 0 29 ty 28 i0 2 Try.underlying29 hi (.slice (some ⟨g, 0, none⟩) 0 0) 0 _ hown cap
    | some ad => simp [Builtin.append_, run_underlying Try.underlying29, sizeOf, typeInfo, hi, Builtin.lenOf, Builtin.firstCells, Cel.v, loadCells, loadCellsFrom, storeCells]
  · cases ao with
    | none =>
      rcases hl.2 with h | ⟨b, o, h, _⟩
      · exact absurd h hz
      · cases h
    | some ad =>
      have hpos : 0 < l.length := List.length_pos_iff.2 hz
      obtain ⟨v', w', g1, g2, -⟩ := run_append_own (P := Try.prog) w 0 29 ty 28 i0 zero28 2 16 Try.underlying29 hi hz0 hz1 hz2 rfl (by decide) _ 0 (cellsOf []) hown ad l.length cap (cellsOf l) (by rw [cellsOf_length]) (hl.cells ad rfl) (cellsOf_one l)
        (by unfold maxLen; omega) (by omega) (Nat.zero_le _)
      have hr := run_append_grow (P := Try.prog) w 29 ty 28 i0 zero28 Try.underlying29 hi hz0 ⟨g, 0, none⟩ 0 0 [] (by simp) (by simp) ad l.length cap (cellsOf l) (by rw [cellsOf_length, hz1]) (hl.cells ad rfl) (by omega) (by omega) (growslice_fits (by omega) (by rw [hz2]; omega))
      have e := g1.symm.trans hr
      injection e with e1 e2
      rw [← cellsOf_append] at g2
      obtain ⟨c2, hv, h2, _, h4⟩ := ok_of_owns g2 (by simpa using hlen)
      refine ⟨c2, w', by rw [← hv]; exact g1, by rw [h2]; simp, h4, ?_⟩
      rw [e2]
      exact ((Below.refl _ w).drew).alloc (Nat.le_refl _) _

theorem reads_fill {cs : List Cel} {fa ba : Option Addr} {fs bs : List Cel} (hl : cs.length = 80) (hf : fs.length ≤ 40) (hb : bs.length ≤ 40)
    (ef : ∀ j, j < fs.length → (fs.getD j Cel.nil).l = (cs.getD j Cel.nil).l) (eb : ∀ j, j < bs.length → (bs.getD j Cel.nil).l = (cs.getD (40 + j) Cel.nil).l)
    (zf : ∀ j, fs.length ≤ j → j < 40 → (cs.getD j Cel.nil).l = []) (zb : ∀ j, bs.length ≤ j → j < 40 → (cs.getD (40 + j) Cel.nil).l = [])
    (lf : 0 < fs.length → (cs.getD (fs.length - 1) Cel.nil).l ≠ []) (lb : 0 < bs.length → (cs.getD (40 + (bs.length - 1)) Cel.nil).l ≠ []) :
    Reads (cs.map fun c => c.l) ⟨⟨fa, fs, fs.length⟩, ⟨ba, bs, bs.length⟩⟩ ∧ Tight ⟨⟨fa, fs, fs.length⟩, ⟨ba, bs, bs.length⟩⟩ := by
  have key : ∀ j, ((cs.map fun c => c.l).getD j []) = (cs.getD j Cel.nil).l := fun j => by
    simp only [List.getD_eq_getElem?_getD, List.getElem?_map]
    cases cs[j]? <;> rfl
  refine ⟨⟨by simpa using hl, fun k hk i hi => ?_, hf, hb⟩, ⟨rfl, rfl, fun c h0 hc => ?_, fun c h0 hc => ?_⟩⟩
  · rw [key]
    obtain rfl | rfl : k = 0 ∨ k = 1 := by omega
    · show (fs.getD i Cel.nil).l = _
      rw [show 0 * 40 + i = i by omega]
      by_cases h : i < fs.length
      · exact ef i h
      · rw [zf i (by omega) hi, List.getD_eq_getElem?_getD, List.getElem?_eq_none (by omega)]; rfl
    · show (bs.getD i Cel.nil).l = _
      rw [show 1 * 40 + i = 40 + i by omega]
      by_cases h : i < bs.length
      · exact eb i h
      · rw [zb i (by omega) hi, List.getD_eq_getElem?_getD, List.getElem?_eq_none (by omega)]; rfl
  · have h1 := ef (fs.length - 1) (by simp only at h0; omega)
    simp only at hc
    rw [List.getD_eq_getElem?_getD, hc] at h1
    rw [show c.l = _ from h1]; exact lf h0
  · have h1 := eb (bs.length - 1) (by simp only at h0; omega)
    simp only at hc
    rw [List.getD_eq_getElem?_getD, hc] at h1
    rw [show c.l = _ from h1]; exact lb h0
end Go.Proofs.Ytjjnhmbgffdenaa
