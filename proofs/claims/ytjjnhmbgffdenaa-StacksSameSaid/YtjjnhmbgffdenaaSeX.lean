import Derived.Test.YtjjnhmbgffdenaaSeP
namespace Go.Proofs.Ytjjnhmbgffdenaa
open Go.RowKit Go.Sort

/-- The rows of beds lie elsewhere. -/
def RowsNe (bd : Bds) (b : Nat) : Prop := (∀ x o, bd.f.ao = some ⟨x, o, none⟩ → bd.f.cs ≠ [] → x ≠ b) ∧ (∀ x o, bd.b.ao = some ⟨x, o, none⟩ → bd.b.cs ≠ [] → x ≠ b)
theorem Bed.ok.row_lt {n : Nat} {w : World} {d : Bed} (h : d.ok n w) {x o : Nat} (e : d.ao = some ⟨x, o, none⟩) (hz : d.cs ≠ []) : x < n := by
  rcases h.2.2 with h0 | ⟨b, o', e', hl, _⟩
  · exact absurd h0 hz
  · rw [e] at e'
    simp only [Option.some.injEq, Addr.mk.injEq, and_true] at e'
    omega
theorem RowsNe.old {bd : Bds} {n b : Nat} {w : World} (h : bd.ok n w) (hb : n ≤ b) : RowsNe bd b :=
  ⟨fun x o e hz => by have := h.1.row_lt e hz; omega, fun x o e hz => by have := h.2.row_lt e hz; omega⟩
theorem RowsNe.new {bd : Bds} {n b : Nat} (hf : ∀ x o, bd.f.ao = some ⟨x, o, none⟩ → n ≤ x) (hg : ∀ x o, bd.b.ao = some ⟨x, o, none⟩ → n ≤ x) (hb : b < n) : RowsNe bd b :=
  ⟨fun x o e _ => by have := hf x o e; omega, fun x o e _ => by have := hg x o e; omega⟩
theorem Bed.ok.set_box' {n : Nat} {w : World} {d : Bed} (h : d.ok n w) {B t : Nat} {u v : Value} (hb : Boxed2 w B t u v) (hu : IsSl u) (hv : IsSl v) (hne : ∀ x o, d.ao = some ⟨x, o, none⟩ → d.cs ≠ [] → x ≠ B) (k : Nat) (x : Value) : d.ok n (w.setCell ⟨B, k, none⟩ x) := by
  by_cases hz : d.cs = []
  · exact ⟨by simp [hz], fun c hc => (by rw [hz] at hc; cases hc), .inl hz⟩
  · exact h.set_box hb hu hv (fun b o e => hne b o e hz) k x

def tupB (bd : Bds) : Value := .tuple #[bd.v, .int .i64 0]
/-- What the last region of Set's law says over its whole frame: the box that it makes, and the beds that go into it. For rgT4. -/
structure Y45 (T : List (List Nm)) (N : Nat) (L : Array Bool) (a : Act) (w : World) : Prop where
  s19 : 19 < a.tmps.size
  s175 : 175 < a.tmps.size
  s181 : 181 < a.tmps.size
  s182 : 182 < a.tmps.size
  box : L.getD 10 false = false → L.getD 9 false = true → ∃ b, a.tmps.getD 19 undef = .pointer (some ⟨b, 0, none⟩) ∧ N ≤ b ∧ Boxed2 w b 35 (.slice none 0 0) (.slice none 0 0)
  bds : L.getD 10 false = false → L.getD 5 false = true → ∃ bd : Bds, a.tmps.getD 181 undef = tupB bd ∧ Reads T bd ∧ bd.ok w.heap.size w ∧ (L.getD 6 false = true → a.tmps.getD 175 undef = tupB bd) ∧ (L.getD 7 false = true → a.tmps.getD 182 undef = bd.v) ∧
    (L.getD 9 false = true → ∀ b, a.tmps.getD 19 undef = .pointer (some ⟨b, 0, none⟩) → RowsNe bd b)
  fin : L.getD 10 false = true → ∃ (b : Nat) (bd : Bds), a.tmps.getD 19 undef = .pointer (some ⟨b, 0, none⟩) ∧ Boxed2 w b 35 bd.f.v bd.b.v ∧ Reads T bd ∧ bd.ok w.heap.size w
section
variable {T : List (List Nm)} {N : Nat} {L : Array Bool} {a : Act} {w w' : World}
theorem Y45.start (hL : ∀ k, L.getD k false = false) (h1 : 182 < a.tmps.size) : Y45 T N L a w :=
  ⟨by omega, by omega, by omega, h1, fun _ h => (by rw [hL] at h; cases h), fun _ h => (by rw [hL] at h; cases h), fun h => (by rw [hL] at h; cases h)⟩
theorem Y45.other (h : Y45 T N L a w) {k : Nat} {d : Option Tmp} {v : Value} (hk : k ≠ 5 ∧ k ≠ 6 ∧ k ≠ 7 ∧ k ≠ 9 ∧ k ≠ 10) (hd : d ≠ some 19 ∧ d ≠ some 175 ∧ d ≠ some 181 ∧ d ≠ some 182) (hb : Below w.heap.size w w') : Y45 T N (L.setIfInBounds k true) (a.put d v) w' := by
  have e5 : (L.setIfInBounds k true).getD 5 false = L.getD 5 false := Go.getD_set_ne false hk.1
  have e6 : (L.setIfInBounds k true).getD 6 false = L.getD 6 false := Go.getD_set_ne false hk.2.1
  have e7 : (L.setIfInBounds k true).getD 7 false = L.getD 7 false := Go.getD_set_ne false hk.2.2.1
  have e9 : (L.setIfInBounds k true).getD 9 false = L.getD 9 false := Go.getD_set_ne false hk.2.2.2.1
  have e10 : (L.setIfInBounds k true).getD 10 false = L.getD 10 false := Go.getD_set_ne false hk.2.2.2.2
  refine ⟨by rw [put_size]; exact h.s19, by rw [put_size]; exact h.s175, by rw [put_size]; exact h.s181, by rw [put_size]; exact h.s182, fun h10 h9 => ?_, fun h10 h5 => ?_, fun h10 => ?_⟩
  · rw [e10] at h10; rw [e9] at h9
    obtain ⟨b, h1, h2, h3⟩ := h.box h10 h9
    exact ⟨b, by rw [putD_other hd.1]; exact h1, h2, h3.below hb h3.lt⟩
  · rw [e10] at h10; rw [e5] at h5
    obtain ⟨bd, h1, h2, h3, h4, h6, h7⟩ := h.bds h10 h5
    exact ⟨bd, by rw [putD_other hd.2.2.1]; exact h1, h2, h3.onw hb, fun q => by rw [e6] at q; rw [putD_other hd.2.1]; exact h4 q, fun q => by rw [e7] at q; rw [putD_other hd.2.2.2]; exact h6 q,
      fun q b hb' => by rw [e9] at q; rw [putD_other hd.1] at hb'; exact h7 q b hb'⟩
  · rw [e10] at h10
    obtain ⟨b, bd, h1, h2, h3, h4⟩ := h.fin h10
    exact ⟨b, bd, by rw [putD_other hd.1]; exact h1, h2.below hb h2.lt, h3, h4.onw hb⟩
theorem Y45.five (h : Y45 T N L a w) (h6 : L.getD 6 false = false) (h7 : L.getD 7 false = false) (h10 : L.getD 10 false = false) {bd : Bds} (hr : Reads T bd) (ho : bd.ok w'.heap.size w') (hf : ∀ x o, bd.f.ao = some ⟨x, o, none⟩ → w.heap.size ≤ x) (hg : ∀ x o, bd.b.ao = some ⟨x, o, none⟩ → w.heap.size ≤ x)
    (hb : Below w.heap.size w w') : Y45 T N (L.setIfInBounds 5 true) (a.put (some 181) (tupB bd)) w' := by
  have e6 : (L.setIfInBounds 5 true).getD 6 false = L.getD 6 false := Go.getD_set_ne false (by decide)
  have e7 : (L.setIfInBounds 5 true).getD 7 false = L.getD 7 false := Go.getD_set_ne false (by decide)
  have e9 : (L.setIfInBounds 5 true).getD 9 false = L.getD 9 false := Go.getD_set_ne false (by decide)
  have e10 : (L.setIfInBounds 5 true).getD 10 false = L.getD 10 false := Go.getD_set_ne false (by decide)
  refine ⟨by rw [put_size]; exact h.s19, by rw [put_size]; exact h.s175, by rw [put_size]; exact h.s181, by rw [put_size]; exact h.s182, fun _ h9 => ?_, fun _ _ => ?_, fun h' => ?_⟩
  · rw [e9] at h9
    obtain ⟨b, h1, h2, h3⟩ := h.box h10 h9
    exact ⟨b, by rw [putD_other (by decide)]; exact h1, h2, h3.below hb h3.lt⟩
  · refine ⟨bd, putD_self h.s181, hr, ho, fun q => (by rw [e6, h6] at q; cases q), fun q => (by rw [e7, h7] at q; cases q), fun q b hb' => ?_⟩
    rw [e9] at q
    rw [putD_other (by decide)] at hb'
    obtain ⟨b0, h1, _, h3⟩ := h.box h10 q
    rw [h1] at hb'
    simp only [Value.pointer.injEq, Option.some.injEq, Addr.mk.injEq, and_true] at hb'
    subst hb'
    exact RowsNe.new hf hg h3.lt
  · rw [e10, h10] at h'; cases h'
theorem Y45.six (h : Y45 T N L a w) (h5 : L.getD 5 false = true) (h10 : L.getD 10 false = false) : Y45 T N (L.setIfInBounds 6 true) (a.put (some 175) (a.tmps.getD 181 undef)) w := by
  have e5 : (L.setIfInBounds 6 true).getD 5 false = L.getD 5 false := Go.getD_set_ne false (by decide)
  have e7 : (L.setIfInBounds 6 true).getD 7 false = L.getD 7 false := Go.getD_set_ne false (by decide)
  have e9 : (L.setIfInBounds 6 true).getD 9 false = L.getD 9 false := Go.getD_set_ne false (by decide)
  have e10 : (L.setIfInBounds 6 true).getD 10 false = L.getD 10 false := Go.getD_set_ne false (by decide)
  refine ⟨by rw [put_size]; exact h.s19, by rw [put_size]; exact h.s175, by rw [put_size]; exact h.s181, by rw [put_size]; exact h.s182, fun _ h9 => ?_, fun _ _ => ?_, fun h' => ?_⟩
  · rw [e9] at h9
    obtain ⟨b, h1, h2, h3⟩ := h.box h10 h9
    exact ⟨b, by rw [putD_other (by decide)]; exact h1, h2, h3⟩
  · obtain ⟨bd, h1, h2, h3, h4, h6, h7⟩ := h.bds h10 h5
    exact ⟨bd, by rw [putD_other (by decide)]; exact h1, h2, h3, fun _ => by rw [putD_self h.s175]; exact h1, fun q => by rw [e7] at q; rw [putD_other (by decide)]; exact h6 q,
      fun q b hb' => by rw [e9] at q; rw [putD_other (by decide)] at hb'; exact h7 q b hb'⟩
  · rw [e10, h10] at h'; cases h'
theorem Y45.seven (h : Y45 T N L a w) (h5 : L.getD 5 false = true) (h6 : L.getD 6 false = true) (h10 : L.getD 10 false = false) {V e : Value} (hV : a.tmps.getD 175 undef = .tuple #[V, e]) : Y45 T N (L.setIfInBounds 7 true) (a.put (some 182) V) w := by
  have e5 : (L.setIfInBounds 7 true).getD 5 false = L.getD 5 false := Go.getD_set_ne false (by decide)
  have e6 : (L.setIfInBounds 7 true).getD 6 false = L.getD 6 false := Go.getD_set_ne false (by decide)
  have e9 : (L.setIfInBounds 7 true).getD 9 false = L.getD 9 false := Go.getD_set_ne false (by decide)
  have e10 : (L.setIfInBounds 7 true).getD 10 false = L.getD 10 false := Go.getD_set_ne false (by decide)
  refine ⟨by rw [put_size]; exact h.s19, by rw [put_size]; exact h.s175, by rw [put_size]; exact h.s181, by rw [put_size]; exact h.s182, fun _ h9 => ?_, fun _ _ => ?_, fun h' => ?_⟩
  · rw [e9] at h9
    obtain ⟨b, h1, h2, h3⟩ := h.box h10 h9
    exact ⟨b, by rw [putD_other (by decide)]; exact h1, h2, h3⟩
  · obtain ⟨bd, h1, h2, h3, h4, _, h7⟩ := h.bds h10 h5
    have hv : V = bd.v := by
      have := h4 h6
      rw [hV] at this
      simp [tupB] at this
      exact this.1
    exact ⟨bd, by rw [putD_other (by decide)]; exact h1, h2, h3, fun q => by rw [putD_other (by decide)]; exact h4 h6, fun _ => by rw [putD_self h.s182]; exact hv,
      fun q b hb' => by rw [e9] at q; rw [putD_other (by decide)] at hb'; exact h7 q b hb'⟩
  · rw [e10, h10] at h'; cases h'
theorem Y45.nine (h : Y45 T N L a w) (h10 : L.getD 10 false = false) (hN : N ≤ w.heap.size) : Y45 T N (L.setIfInBounds 9 true) (a.put (some 19) (.pointer (some ⟨w.heap.size, 0, none⟩))) (w.alloc (.cells #[.slice none 0 0, .slice none 0 0] 35)) := by
  have e5 : (L.setIfInBounds 9 true).getD 5 false = L.getD 5 false := Go.getD_set_ne false (by decide)
  have e6 : (L.setIfInBounds 9 true).getD 6 false = L.getD 6 false := Go.getD_set_ne false (by decide)
  have e7 : (L.setIfInBounds 9 true).getD 7 false = L.getD 7 false := Go.getD_set_ne false (by decide)
  have e10 : (L.setIfInBounds 9 true).getD 10 false = L.getD 10 false := Go.getD_set_ne false (by decide)
  have hb := below1 w (.cells #[.slice none 0 0, .slice none 0 0] 35)
  refine ⟨by rw [put_size]; exact h.s19, by rw [put_size]; exact h.s175, by rw [put_size]; exact h.s181, by rw [put_size]; exact h.s182, fun _ _ => ?_, fun _ h5 => ?_, fun h' => ?_⟩
  · exact ⟨w.heap.size, putD_self h.s19, hN, Boxed2.new _ _ _ _⟩
  · rw [e5] at h5
    obtain ⟨bd, h1, h2, h3, h4, h6, _⟩ := h.bds h10 h5
    refine ⟨bd, by rw [putD_other (by decide)]; exact h1, h2, h3.onw hb, fun q => by rw [e6] at q; rw [putD_other (by decide)]; exact h4 q, fun q => by rw [e7] at q; rw [putD_other (by decide)]; exact h6 q, fun _ b hb' => ?_⟩
    rw [putD_self h.s19] at hb'
    simp only [Value.pointer.injEq, Option.some.injEq, Addr.mk.injEq, and_true] at hb'
    subst hb'
    exact RowsNe.old h3 (Nat.le_refl _)
  · rw [e10, h10] at h'; cases h'
theorem Y45.stored (h : Y45 T N L a w) (hL : 10 < L.size) {b : Nat} {bd : Bds} (h19 : a.tmps.getD 19 undef = .pointer (some ⟨b, 0, none⟩)) (hx : Boxed2 w b 35 (.slice none 0 0) (.slice none 0 0)) (hr : Reads T bd) (ho : bd.ok w.heap.size w) (hne : RowsNe bd b) :
    Y45 T N (L.setIfInBounds 10 true) (a.put none undef) ((w.setCell ⟨b, 0, none⟩ bd.f.v).setCell ⟨b, 1, none⟩ bd.b.v) := by
  have e10 : (L.setIfInBounds 10 true).getD 10 false = true := by simp [hL]
  have hx1 := hx.set0 bd.f.v
  have sf : IsSl bd.f.v := isSl_mk _ _ _
  refine ⟨h.s19, h.s175, h.s181, h.s182, fun h' => (by rw [e10] at h'; cases h'), fun h' => (by rw [e10] at h'; cases h'), fun _ => ⟨b, bd, h19, hx1.set1 _, hr, ?_⟩⟩
  rw [World.size_setCell, World.size_setCell]
  exact ⟨(ho.1.set_box' hx (isSl_mk _ _ _) (isSl_mk _ _ _) hne.1 0 _).set_box' hx1 sf (isSl_mk _ _ _) hne.1 1 _, (ho.2.set_box' hx (isSl_mk _ _ _) (isSl_mk _ _ _) hne.2 0 _).set_box' hx1 sf (isSl_mk _ _ _) hne.2 1 _⟩
end
section
variable {o : Oper} {a : Act} {w : World} {K : Act → World → Prop} {Q : Exit → Act → World → Prop} {x y : Operand}
theorem st_store35 {b : Nat} {p q : Option Addr} {n m r s : Nat} {u0 u1 : Value} (hop : o.op = .store 35 x y) (hx : a.eval x = .pointer (some ⟨b, 0, none⟩)) (hy : a.eval y = .agg #[.slice p n r, .slice q m s]) (hb : Boxed2 w b 35 u0 u1)
    (hK : K (a.put o.dst undef) ((w.setCell ⟨b, 0, none⟩ (.slice p n r)).setCell ⟨b, 1, none⟩ (.slice q m s))) : o.wp Try.prog a w K Q := by
  have c0 := hb.cell0
  have c1 := (hb.set0 (.slice p n r)).cell1
  have f0 := hb.frozen
  have f1 := (hb.set0 (.slice p n r)).frozen
  unfold Oper.wp
  simp only [execOp, hop, hx, hy]
  go_simp
  exact hK
end
theorem Reads.at_ix {T : List (List Nm)} {d : Bds} (h : Reads T d) {b a : Int} (hb : 0 ≤ b) (hn : Go.Proofs.Ytjjnhmbgffdenaa.isN b a = true) : d.atM b a = T.getD (ixOf b a) [] := by
  have := isN_true hn
  have h1 := h.atM (k := b.toNat) (i := (a - 1).toNat) (by omega) (by omega)
  rw [show ((b.toNat : Nat) : Int) = b by omega, show (((a - 1).toNat : Nat) : Int) + 1 = a by omega] at h1
  exact h1
end Go.Proofs.Ytjjnhmbgffdenaa
