import Derived.Test.YtjjnhmbgffdenaaLvA
namespace Go.Proofs.Ytjjnhmbgffdenaa
open Go.RowKit Go.Sort
section
variable {o : Oper} {a : Act} {w : World} {K : Act → World → Prop} {Q : Exit → Act → World → Prop}
theorem st_bs3 {s t u : Tmp} {y1 n1 y2 n2 y3 n3 : Int} (hop : o.op = .buildSlice 29 3 #[(0, .tmp s), (1, .tmp t), (2, .tmp u)]) (hs : a.eval (.tmp s) = .agg #[.int .u8 y1, .int .i64 n1]) (ht : a.eval (.tmp t) = .agg #[.int .u8 y2, .int .i64 n2]) (hu : a.eval (.tmp u) = .agg #[.int .u8 y3, .int .i64 n3])
    (hK : K (a.put o.dst (.slice (some ⟨w.heap.size, 0, none⟩) 3 3)) (w.alloc (.cells #[.int .u8 y1, .int .i64 n1, .int .u8 y2, .int .i64 n2, .int .u8 y3, .int .i64 n3] 28))) : o.wp Try.prog a w K Q := by
  have e1 : a.tmps[s]?.getD undef = .agg #[.int .u8 y1, .int .i64 n1] := by simpa [Act.eval] using hs
  have e2 : a.tmps[t]?.getD undef = .agg #[.int .u8 y2, .int .i64 n2] := by simpa [Act.eval] using ht
  have e3 : a.tmps[u]?.getD undef = .agg #[.int .u8 y3, .int .i64 n3] := by simpa [Act.eval] using hu
  refine step_valw (v := .slice (some ⟨w.heap.size, 0, none⟩) 3 3) ?_ hK
  simp only [execOp, hop]
  go_simp
theorem st_bs1 {s : Tmp} {y1 n1 : Int} (hop : o.op = .buildSlice 29 1 #[(0, .tmp s)]) (hs : a.eval (.tmp s) = .agg #[.int .u8 y1, .int .i64 n1])
    (hK : K (a.put o.dst (.slice (some ⟨w.heap.size, 0, none⟩) 1 1)) (w.alloc (.cells #[.int .u8 y1, .int .i64 n1] 28))) : o.wp Try.prog a w K Q := by
  have e1 : a.tmps[s]?.getD undef = .agg #[.int .u8 y1, .int .i64 n1] := by simpa [Act.eval] using hs
  refine step_valw (v := .slice (some ⟨w.heap.size, 0, none⟩) 1 1) ?_ hK
  simp only [execOp, hop]
  go_simp
end
theorem cel3_ok (w : World) (p q r : Nm) : Cel.ok (w.alloc (.cells #[.int .u8 p.y, .int .i64 p.n, .int .u8 q.y, .int .i64 q.n, .int .u8 r.y, .int .i64 r.n] 28)).heap.size (w.alloc (.cells #[.int .u8 p.y, .int .i64 p.n, .int .u8 q.y, .int .i64 q.n, .int .u8 r.y, .int .i64 r.n] 28)) ⟨some ⟨w.heap.size, 0, none⟩, [p, q, r], 3⟩ := by
  have hn := heap_alloc_new w (.cells #[.int .u8 p.y, .int .i64 p.n, .int .u8 q.y, .int .i64 q.n, .int .u8 r.y, .int .i64 r.n] 28)
  refine ⟨by simp, .inr ⟨_, 0, rfl, by simp, fun i x hx => ?_⟩⟩
  generalize (w.alloc (.cells #[.int .u8 p.y, .int .i64 p.n, .int .u8 q.y, .int .i64 q.n, .int .u8 r.y, .int .i64 r.n] 28)) = W at hn
  match i, hx with
  | 0, hx => cases hx; exact ⟨by simp [World.cell?, hn], by simp [World.cell?, hn]⟩
  | 1, hx => cases hx; exact ⟨by simp [World.cell?, hn], by simp [World.cell?, hn]⟩
  | 2, hx => cases hx; exact ⟨by simp [World.cell?, hn], by simp [World.cell?, hn]⟩
  | i + 3, hx => simp at hx
theorem cel1_ok (w : World) (p : Nm) : Cel.ok (w.alloc (.cells #[.int .u8 p.y, .int .i64 p.n] 28)).heap.size (w.alloc (.cells #[.int .u8 p.y, .int .i64 p.n] 28)) ⟨some ⟨w.heap.size, 0, none⟩, [p], 1⟩ := by
  have hn := heap_alloc_new w (.cells #[.int .u8 p.y, .int .i64 p.n] 28)
  refine ⟨by simp, .inr ⟨_, 0, rfl, by simp, fun i x hx => ?_⟩⟩
  generalize (w.alloc (.cells #[.int .u8 p.y, .int .i64 p.n] 28)) = W at hn
  match i, hx with
  | 0, hx => cases hx; exact ⟨by simp [World.cell?, hn], by simp [World.cell?, hn]⟩
  | i + 1, hx => simp at hx
theorem Reads.atM {T : List (List Nm)} {d : Bds} (h : Reads T d) {k i : Nat} (hk : k < 2) (hi : i < 40) : d.atM (k : Int) ((i : Int) + 1) = T.getD (k * 40 + i) [] := by
  unfold Bds.atM
  rw [if_pos (isN_mk (by omega))]
  have := h.cel k hk i hi
  rw [show ((i : Int) + 1 - 1).toNat = i by omega, show ((k : Int)).toNat = k by omega]
  exact this
theorem front_none {T : List (List Nm)} {d : Bds} (h : Reads T d) (ht : Tight d) (h0 : ∀ i, i < 40 → T.getD i [] = []) : d.f.cs.length = 0 := by
  rcases Nat.eq_zero_or_pos d.f.cs.length with h1 | h1
  · exact h1
  · exfalso
    have hl : d.f.cs.length - 1 < d.f.cs.length := by omega
    have h2 := ht.fl d.f.cs[d.f.cs.length - 1] h1 (List.getElem?_eq_getElem hl)
    have h3 := h.cel 0 (by omega) (d.f.cs.length - 1) (by have := h.f40; omega)
    rw [show 0 * 40 + (d.f.cs.length - 1) = d.f.cs.length - 1 by omega, h0 _ (by have := h.f40; omega)] at h3
    apply h2
    have h4 : (d.bed 0).cel (d.f.cs.length - 1) = d.f.cs[d.f.cs.length - 1] := by
      show d.f.cs.getD (d.f.cs.length - 1) Cel.nil = _
      rw [List.getD_eq_getElem?_getD, List.getElem?_eq_getElem hl]; rfl
    rw [h4] at h3
    exact h3
theorem same_any1 {c d : Cel} (B : Nat) (w : World) (hB : B ≤ w.heap.size) (h : c.ok B w) (h' : d.ok B w) (hl : c.l = d.l) (hc : c.cap = c.l.length) :
    Calls Try.prog 20 #[c.v, d.v] w fun e w' => e = .returned (.int .i64 1) ∧ Below w.heap.size w w' := by
  have := same_any c d B w hB h h'
  unfold sameR at this
  rw [if_pos ⟨hl, hc⟩] at this
  exact this
end Go.Proofs.Ytjjnhmbgffdenaa
