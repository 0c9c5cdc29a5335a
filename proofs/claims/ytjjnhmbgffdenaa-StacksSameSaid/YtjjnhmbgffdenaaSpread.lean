import Derived.Test.YtjjnhmbgffdenaaPut
namespace Go.Proofs.Ytjjnhmbgffdenaa
open Go.RowKit Go.Shelf
attribute [local go_sem] Oper.semAt_some

/-- Eighty empty stacks. -/
def z80 : List Cel := List.replicate 80 Cel.nil
def zA : Array Value := (z80.map Cel.v).toArray
theorem zero68 (w : World) : (zeroValue 68).run Try.prog w = .ok (.agg zA) w := by kernel_rfl
theorem zero31 (w : World) : (zeroValue 31).run Try.prog w = .ok (.agg zA) w := by kernel_rfl
theorem tab_new (w : World) (t : Nat) : Tab (w.alloc (.cells zA t)) w.heap.size t z80 := ⟨heap_alloc_new w _, by simp [z80]⟩
/-- A table whose stacks have no room for more. -/
def Fine (w : World) (cs : List Cel) : Prop := ∀ c ∈ cs, c.cap = c.l.length ∧ c.ok w.heap.size w
theorem fine_z80 (w : World) : Fine w z80 := fun c hc => by
  obtain rfl := List.eq_of_mem_replicate hc
  exact ⟨rfl, Cel.nil_ok _ _⟩
theorem Fine.set {w : World} {cs : List Cel} (h : Fine w cs) (k : Nat) {c : Cel} (hc : c.cap = c.l.length ∧ c.ok w.heap.size w) : Fine w (cs.set k c) := fun x hx => by
  rcases List.mem_or_eq_of_mem_set hx with h' | rfl
  · exact h x h'
  · exact hc
/-- What lies as cells lies on where others turn. -/
theorem Cel.ok.grown {w w' : World} {row : Option Nat} {c : Cel} (h : c.ok w.heap.size w) (hg : w.grownBy w' row) (hr : ∀ r, row = some r → ∃ o : Obj, w.heap[r]? = some o ∧ o.isCells = false) : c.ok w'.heap.size w' := by
  refine ⟨h.1, h.2.imp id ?_⟩
  rintro ⟨b, o, e, hl, hc⟩
  have hs := hg.size
  exact ⟨b, o, e, by omega, fun i p hp => ⟨cell_kept (hc i p hp).1 hg hr, cell_kept (hc i p hp).2 hg hr⟩⟩
theorem Cel.ok.grown_tab {w w' : World} {c : Cel} (h : c.ok w.heap.size w) {B t : Nat} {cs : List Cel} (ht : Tab w B t cs) (hg : w.grownBy w' (some B)) : c.ok w'.heap.size w' := by
  refine ⟨h.1, h.2.imp id ?_⟩
  rintro ⟨b, o, e, hl, hc⟩
  have hs := hg.size
  refine ⟨b, o, e, by omega, fun i p hp => ?_⟩
  have h2 := hc i p hp
  have hne : b ≠ B := by
    rintro rfl
    have h3 := h2.1
    simp only [World.cell?, ht.1, Option.bind_some] at h3
    have : (cs.map Cel.v)[o + i * 2]? = some (.int .u8 p.y) := by simpa using h3
    rw [List.getElem?_map] at this
    cases hcs : cs[o + i * 2]? with
    | none => rw [hcs] at this; cases this
    | some c' => rw [hcs] at this; simp [Cel.v] at this
  have hb : w'.heap[b]? = w.heap[b]? := hg.block b hl (by simp [hne])
  exact ⟨by rw [World.cell?_of_block (w := w) hb]; exact h2.1, by rw [World.cell?_of_block (w := w) hb]; exact h2.2⟩
theorem Fine.grown_tab {w w' : World} {xs : List Cel} (h : Fine w xs) {B t : Nat} {cs : List Cel} (ht : Tab w B t cs) (hg : w.grownBy w' (some B)) : Fine w' xs := fun c hc => ⟨(h c hc).1, (h c hc).2.grown_tab ht hg⟩
theorem Fine.below {w w' : World} {cs : List Cel} (h : Fine w cs) (hb : Below w.heap.size w w') : Fine w' cs := fun c hc => ⟨(h c hc).1, ((h c hc).2.below hb).mono hb.size⟩
theorem Fine.grown {w w' : World} {row : Option Nat} {cs : List Cel} (h : Fine w cs) (hg : w.grownBy w' row) (hr : ∀ r, row = some r → ∃ o : Obj, w.heap[r]? = some o ∧ o.isCells = false) : Fine w' cs := fun c hc => ⟨(h c hc).1, (h c hc).2.grown hg hr⟩

/-- A round knows besides that the needle is one of forty. -/
def ElP (n : Nat) (w : World) (x : El) : Prop := ElOk n w x ∧ x.i < 40
/-- What a table holds behind some stacks. -/
def fillM (xs : List El) : List (List Nm) := xs.foldl (fun t x => t.set (x.k * 40 + x.i) x.c.l) (List.replicate 80 [])
theorem fillM_snoc (xs : List El) (x : El) : fillM (xs ++ [x]) = (fillM xs).set (x.k * 40 + x.i) x.c.l := by simp [fillM]
/-- The call returns a table that holds this. -/
def NewTab (m : List (List Nm)) (w : World) (e : Ending) (w' : World) : Prop := ∃ cs : List Cel, e = .returned (tabV cs) ∧ Hid (cs.length = 80 ∧ cs.map (fun c => c.l) = m ∧ Fine w' cs) ∧ Below w.heap.size w w'

set_option maxRecDepth 100000 in
set_option maxHeartbeats 2000000 in
theorem spread_any (d : Bds) (B : Nat) (w : World) (hB : B ≤ w.heap.size) (hd : d.ok B w) (h40 : ∀ x ∈ d.els, x.i < 40) :
    Calls Try.prog 29 #[d.v] w (NewTab (fillM d.els) w) := by
  have HD := Lib.hid (hd.mono hB)
  have H40 := Lib.hid h40
  clear hd h40
  have hz := zero68
  obtain ⟨m, hm⟩ : ∃ m, m = fillM d.els := ⟨_, rfl⟩
  rw [← hm]
  have HM := Lib.hid hm
  clear hm
  refine (callsIn_wide (n := 10)).1 ?_
  have hro : Fence.wide.round = none := rfl
  have h34 : Fence.wide.fn 34 := trivial
  refine callsIn_of_wp_marks Try.func29 rfl trivial ?_ hro
  simp only [Try.ntmps29, List.size_toArray, List.length_cons, List.length_nil, Nat.reduceAdd, Nat.reduceSub, Array.replicate_succ, Array.replicate_zero, List.push_toArray, List.append_toArray, List.nil_append, List.cons_append]
  obtain ⟨⟨fa, fs, fc⟩, ⟨ba, bs, bc⟩⟩ := d
  simp only [Bds.v, Bed.v]
  gi_wp2_with (refine ⟨trivial, ?_⟩; gi_at_call 22; refine (each_in Fence.wide 9 trivial hro _ _ _ _ _ _ _).mono ?_; rintro e w' ⟨rfl, rfl⟩)
  obtain ⟨W0, hW0⟩ : ∃ W0, ((((w.alloc (.cells #[.slice fa fs.length fc, .slice ba bs.length bc] 35)).alloc (.cells zA 68)).alloc (.cells zA 68)).alloc (.cells #[.slice fa fs.length fc, .slice ba bs.length bc] 35)) = W0 := ⟨_, rfl⟩
  have hsz : w.heap.size + 4 ≤ W0.heap.size := by rw [← hW0]; simp
  have bB : Boxed2 W0 (w.heap.size) 35 (.slice fa fs.length fc) (.slice ba bs.length bc) := by
    rw [← hW0]; have := ((((Boxed2.new w 35 (.slice fa fs.length fc) (.slice ba bs.length bc)).alloc (.cells zA 68)).alloc (.cells zA 68)).alloc (.cells #[.slice fa fs.length fc, .slice ba bs.length bc] 35))
    exact this
  have bN : Boxed2 W0 (w.heap.size + 1 + 1 + 1) 35 (.slice fa fs.length fc) (.slice ba bs.length bc) := by
    rw [← hW0]; have := (Boxed2.new (((w.alloc (.cells #[.slice fa fs.length fc, .slice ba bs.length bc] 35)).alloc (.cells zA 68)).alloc (.cells zA 68)) 35 (.slice fa fs.length fc) (.slice ba bs.length bc))
    simp only [World.size_alloc] at this; exact this
  have hB0 : Below w.heap.size w W0 := by
    rw [← hW0]; exact ((((Below.refl _ _).alloc (by simp; try omega) _).alloc (by simp; try omega) _).alloc (by simp; try omega) _).alloc (by simp; try omega) _
  have tR : Tab W0 (w.heap.size + 1) 68 z80 := by
    rw [← hW0]; have := ((tab_new (w.alloc (.cells #[.slice fa fs.length fc, .slice ba bs.length bc] 35)) 68).alloc (.cells zA 68)).alloc (.cells #[.slice fa fs.length fc, .slice ba bs.length bc] 35)
    simp only [World.size_alloc] at this; exact this
  have tT : Tab W0 (w.heap.size + 1 + 1) 68 z80 := by
    rw [← hW0]; have := (tab_new ((w.alloc (.cells #[.slice fa fs.length fc, .slice ba bs.length bc] 35)).alloc (.cells zA 68)) 68).alloc (.cells #[.slice fa fs.length fc, .slice ba bs.length bc] 35)
    simp only [World.size_alloc] at this; exact this
  rw [hW0]
  clear hW0 hz
  have HD0 := Lib.hid (HD.out.below hB0)
  obtain ⟨d, hdd⟩ : ∃ d : Bds, d = ⟨⟨fa, fs, fc⟩, ⟨ba, bs, bc⟩⟩ := ⟨_, rfl⟩
  rw [← hdd] at HD HD0 HM H40
  have HDD := Lib.hid hdd
  clear hdd
  have hlen : d.els.length ≤ 200 := HD0.out.els_len
  have HP : Hid (∀ x ∈ d.els, ElP w.heap.size w x) := Lib.hid fun x hx => ⟨HD.out.els hx, H40.out x hx⟩
  have h0 : ElP w.heap.size w El.zero := ⟨El.zero_ok _ _, by simp [El.zero]⟩
  refine wpIn_rangeFunc_ownH (α := Ap (ElP w.heap.size w)) hro (by decide) (gf := 34) (lb := #[.pointer (some ⟨w.heap.size + 1 + 1 + 1, 0, none⟩)]) rfl h34 (enters_of Try.func34 (by kernel_rfl) rfl)
    (each_stops Fence.wide 9 h34 hro (by decide) (w.heap.size + 1 + 1 + 1) w.heap.size d W0 (by omega) (by omega) (fun x => x.1) (Ap.mk h0) (fun x hx => Ap.mk_val h0 (HP.out x hx)) (by rw [HDD.out]; exact bN.cell0) (by rw [HDD.out]; exact bN.cell1) HD0.out)
    belowK_t (belowK_b (by omega)) (Below.refl _ _) (fun _ => rfl)
    (fun (pre : List (Ap (ElP w.heap.size w))) W => (Tab W (w.heap.size + 1) 68 z80 ∧ (∃ cs, Tab W (w.heap.size + 1 + 1) 68 cs ∧ Hid (cs.map (fun c => c.l) = fillM (pre.map fun x => x.1)) ∧ Fine W cs)) ∧ Below w.heap.size w W)
    (fun c (pre : List (Ap (ElP w.heap.size w))) W => False)
    (OwnFrom.and (OwnFrom.and (Own.from (tab_own _ _ _) _) (Own.from (fun s A B row hs hg hr => by obtain ⟨cs, h1, h2, h3⟩ := hs; exact ⟨cs, tab_own _ _ (fun (_ : Unit) => cs) () A B row h1 hg hr, h2, h3.grown hg hr⟩) _)) (ownFrom_below (Nat.le_refl _) (by omega)))
    (fun _ => ownFrom_const _ _)
    ⟨⟨tR, z80, tT, Lib.hid (by simp [z80, fillM, Cel.nil]), fine_z80 _⟩, hB0⟩
    (fun x a' W => ∃ Bx, w.heap.size + 1 + 1 + 1 ≤ Bx ∧ Boxed2 W Bx 26 (.int .u8 x.1.k) (.int .i64 ((x.1.i : Int) + 1)) ∧ a' = { tmps := #[.agg #[.slice fa fs.length fc, .slice ba bs.length bc], .pointer (some ⟨w.heap.size, 0, none⟩), .pointer (some ⟨w.heap.size + 1, 0, none⟩), .pointer (some ⟨w.heap.size + 1 + 1, 0, none⟩), .pointer (some ⟨Bx, 0, none⟩), x.1.c.v, .agg #[.slice fa fs.length fc, .slice ba bs.length bc], .func (.func 34) #[] #[.pointer (some ⟨w.heap.size + 1 + 1 + 1, 0, none⟩)], x.1.nv, x.1.c.v, undef, undef, undef, undef], defers := [] })
    (fun x a' _ X Y row hs hg hr => by obtain ⟨Bx, h1, h2, h3⟩ := hs; exact ⟨Bx, h1, boxed2_own Bx 26 (fun (_ : Unit) => Value.int .u8 x.1.k) (fun _ => .int .i64 ((x.1.i : Int) + 1)) () X Y row h2 hg (fun r e => (hr r e).2), h3⟩)
    ?assign ?body ?done ?stop
  case assign =>
    rintro l pre ⟨⟨k, i, ⟨ca, cl, cc⟩⟩, hx⟩ W K ⟨⟨tR1, cs, tT1, hm1, hf1⟩, hB1⟩ hK
    simp only [El.vs, El.nv, Cel.v] at hK ⊢
    gi_wp2
    exact hK _ _ ((KeepsOthers.alloc _ _).from _) ((Below.refl _ W).alloc hB1.size _) ⟨⟨tR1.alloc _, cs, tT1.alloc _, hm1, hf1.below (below1 _ _)⟩, hB1.alloc hB1.size _⟩ ⟨W.heap.size, tT1.lt, Boxed2.new W 26 _ _, rfl⟩
  case body =>
    rintro l pre ⟨⟨k, i, ⟨ca, cl, cc⟩⟩, hx⟩ a' W hl ⟨r, hr⟩ ⟨⟨tR1, cs, tT1, hm1, hf1⟩, hB1⟩ ⟨Bx, hBx, bX, rfl⟩ hlt
    simp only at bX
    have c0 := bX.cell0
    have c1 := bX.cell1
    have hk1 : k < 2 := Nat.lt_succ_of_le hx.1.1
    have hi1 : i < 40 := hx.2
    have hok : Cel.ok w.heap.size W ⟨ca, cl, cc⟩ := hx.1.2.2.below hB1
    have HK := Lib.hid hok
    have HT1 := Lib.hid tT1
    have HF1 := Lib.hid hf1
    clear hok hf1
    simp only [El.nv, Cel.v]
    gi_wp2_with (refine ⟨trivial, ?_⟩; gi_at_call 30; refine (CallsIn.inRound l (callsIn_wide.2 (put_any (w.heap.size + 1 + 1) cs k i ⟨ca, cl, cc⟩ w.heap.size W hB1.size hk1 hi1 HT1.out HK.out))).mono ?_; rintro e w1 ⟨⟨v, rfl⟩, ⟨c2, hT2, hl2, hcap2, hok2⟩, hgr⟩)
    have hbw : Below w.heap.size W w1 := (Below.refl _ W).grown hgr hB1.size (fun k e => by cases e; omega)
    refine ⟨KeepsFrom.of_grownBy hgr (fun j e => by cases e; omega), hbw, ⟨tR1.kept hgr (by simp), _, hT2, Lib.hid ?_, ?_⟩, hB1.trans hbw⟩
    · rw [List.map_append, List.map_set, hm1.out, hl2]
      exact (fillM_snoc (pre.map fun x => x.1) ⟨k, i, ⟨ca, cl, cc⟩⟩).symm
    · exact (HF1.out.grown_tab HT1.out hgr).set _ ⟨by rw [hcap2, hl2], hok2⟩
  case stop =>
    rintro D c pre W _ _ h _
    exact h.elim
  case done =>
    rintro D ys W hD rfl ⟨⟨tR1, cs, tT1, hm1, hf1⟩, hB1⟩ hK
    rw [Ap.map_val h0 HP.out] at hm1
    have HTR := Lib.hid tR1
    have HTT := Lib.hid tT1
    have HF := Lib.hid hf1
    clear tR1 tT1 hf1
    gi_wp2_with (first
      | (refine wpListIn_load_tab rfl (.inr rfl) _ rfl rfl HTT.out ?_)
      | (refine wpListIn_store_tab rfl rfl (.inr rfl) _ _ rfl rfl rfl HTR.out HTT.out.2 ?_; intro w1 hs))
    have hK' := hs.others.same D _ hK rfl
    refine ⟨by simp, .inl ⟨_, _, rfl, run_takeDeferred hK', ?_⟩⟩
    have hg3 := grownBy_putObj' w1 D (.deferred none)
    have hne : ∀ r, some D = some r → ∃ o : Obj, w1.heap[r]? = some o ∧ o.isCells = false := fun r e => by cases e; exact ⟨_, hK', rfl⟩
    have hT3 := tab_own _ _ (fun (_ : Unit) => cs) () _ _ _ hs.tab hg3 hne
    have hF3 := (HF.out.grown_tab HTR.out hs.grown).grown hg3 hne
    have hb1 : Below w.heap.size W w1 := (Below.refl _ W).grown hs.grown hB1.size (fun k e => by cases e; omega)
    refine ⟨tabV cs, results_tab (.inr rfl) rfl _ rfl hT3, cs, rfl, Lib.hid ⟨hT3.2, ?_, hF3⟩, (hB1.trans hb1).trans (belowK_b (w := w) (Nat.le_refl _) _ D _ _ (by omega) hK' rfl rfl)⟩
    rw [hm1.out, HM.out]
end Go.Proofs.Ytjjnhmbgffdenaa
