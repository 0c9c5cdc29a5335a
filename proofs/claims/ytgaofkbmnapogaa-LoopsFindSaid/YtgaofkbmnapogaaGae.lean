import Derived.Test.YtgaofkbmnapogaaGad
import Derived.RegionCalls
namespace Go.Proofs.Ytgaofkbmnapogaa
open Go.RowKit Go.Sort
theorem info_parts' {T : TypeId} {z : Value} {k b : Nat} (h : (Try.prog.info? T).map (fun i => (i.zero, i.size, i.bytes)) = some (some z, k, b)) : ∃ i0, Try.prog.info? T = some i0 ∧ i0.zero = some z ∧ i0.size = k ∧ i0.bytes = b := by
  cases hi : Try.prog.info? T with
  | none => rw [hi] at h; simp at h
  | some i0 => rw [hi] at h; simp at h; exact ⟨i0, rfl, h.1, h.2.1, h.2.2⟩
variable {α : Type}
/-- What the builtins want of a kind of records. -/
structure Kd (enc : α → List Value) (T e k bytes : Nat) (zero : Value) : Prop where
  hk : ∀ x, (enc x).length = k
  h1 : ∀ x, ∀ v ∈ enc x, v.oneCell' = true
  hT : Try.prog.underlying T = some (.slice e)
  hi : (Try.prog.info? e).map (fun i => (i.zero, i.size, i.bytes)) = some (some zero, k, bytes)
  hz : zero.cells.size = k
  k0 : 0 < k
  hb : bytes ≤ 100
def newRow (z : Value) (m : Nat) : Array Value := madeCells z.cells m
section
variable {enc : α → List Value} {T e k bytes : Nat} {zero : Value}
theorem Kd.make (K : Kd enc T e k bytes zero) (c : Int) (n : Nat) (hc : c = n) (h1 : n ≤ 100000) (w : World) :
    (Instr.makeSlice T (.int .i64 c) (.int .i64 c)).run Try.prog w = .ok (.slice (some ⟨w.heap.size, 0, none⟩) n n) (w.alloc (.cells (newRow zero (n * k)) e)) := by
  subst hc
  obtain ⟨i0, hi, hz0, hz1, hz2⟩ := info_parts' K.hi
  have hr := run_make (P := Try.prog) w T e i0 zero K.hT hi hz0 .i64 .i64 n n (by omega) (Int.le_refl _) (by rw [hz2]; have := K.hb; have := Nat.mul_le_mul K.hb h1; first | omega | (rw [Nat.mul_comm]; omega)) (by omega)
  simp only [Int.toNat_natCast, hz1] at hr
  exact hr
theorem Kd.copyAll (K : Kd enc T e k bytes zero) (w : World) (n c : Nat) (l : List α) (a : Addr) (hn : l.length = n) (hl : ∀ j u, (rcells enc l)[j]? = some u → (w.alloc (.cells (newRow zero (n * k)) e)).cell? (a.add j) = some u) :
    (Builtin.copy_ #[T, T] 3 #[.slice (some ⟨w.heap.size, 0, none⟩) n n, .slice (some a) n c]).run Try.prog (w.alloc (.cells (newRow zero (n * k)) e)) = .ok (goInt n) (w.alloc (.cells (rcells enc l).toArray e)) := by
  obtain ⟨i0, hi, hz0, hz1, hz2⟩ := info_parts' K.hi
  have hlen : (rcells enc l).length = n * k := by rw [rcells_length enc k K.hk, hn]
  have hsz : (newRow zero (n * k)).size = n * k := size_madeCells _ _
  have := Ya.run_copy_all (P := Try.prog) (w.alloc (.cells (newRow zero (n * k)) e)) T T 3 e w.heap.size n n a c k (newRow zero (n * k)) e (rcells enc l) K.hT i0 hi hz1 (heap_alloc_new w _) hlen hl (by rw [hsz, hlen]; exact Nat.le_refl _) (rcells_one enc K.h1 l)
  rw [this, Ya.setRow_alloc, List.drop_of_length_le (by rw [Array.length_toList, hsz, hlen]; exact Nat.le_refl _), List.append_nil]
theorem own_new (w : World) (l : List α) (hk : ∀ x, (enc x).length = k) (hl : l.length ≤ 100000) : (w.alloc (.cells (rcells enc l).toArray e)).ownsRow w.heap.size e k (.slice (some ⟨w.heap.size, 0, none⟩) l.length l.length) l.length (rcells enc l) :=
  ⟨rcells_length enc k hk l, .inr ⟨w.heap.size, l.length, (rcells enc l).toArray, rfl, Nat.le_refl _, heap_alloc_new w _, Nat.le_refl _, by unfold maxLen; omega, by rw [List.size_toArray, rcells_length enc k hk], by rw [← rcells_length enc k hk l]; simp⟩⟩
theorem own_lie (hk : ∀ x, (enc x).length = k) {N n : Nat} {w : World} {v : Value} {l : List α} (h : w.ownsRow N e k v n (rcells enc l)) (hn : n = l.length) : ∃ s : Sl α, v = s.v ∧ s.l = l ∧ s.lie enc w.heap.size w ∧ l.length ≤ s.cap ∧ (s.ao = none → s.cap = 0) ∧ (∀ a, s.ao = some a → ∃ b, a = ⟨b, 0, none⟩ ∧ N ≤ b ∧ b < w.heap.size) := by
  subst hn
  rcases h.2 with ⟨rfl, h0⟩ | ⟨g, cap, cur, rfl, h1, h2, h3, _, _, h6⟩
  · obtain rfl : l = [] := List.eq_nil_of_length_eq_zero h0
    exact ⟨Sl.nil, rfl, rfl, .inl rfl, by simp [Sl.nil], fun _ => rfl, fun a ha => by cases ha⟩
  · have hlt := (Array.getElem?_eq_some_iff.1 h2).1
    refine ⟨⟨some ⟨g, 0, none⟩, l, cap⟩, rfl, rfl, .inr ⟨g, 0, rfl, hlt, fun j u hj => ?_⟩, h3, fun h => by simp at h, fun a ha => ⟨g, by simpa using ha.symm, h1, hlt⟩⟩
    simp only at hj
    have hj2 : (cur.toList.take (l.length * k))[j]? = some u := by rw [h6]; exact hj
    rw [List.getElem?_take] at hj2
    split at hj2
    · rw [Nat.zero_add, cell_of_row w g j cur e (0, 0) h2]
      simpa using hj2
    · cases hj2
end
theorem ownsRow_mono {w : World} {N M e k n : Nat} {v : Value} {xs : List Value} (h : w.ownsRow N e k v n xs) (hM : M ≤ N) : w.ownsRow M e k v n xs :=
  ⟨h.1, h.2.imp id fun ⟨g, cap, cur, h1, h2, h3⟩ => ⟨g, cap, cur, h1, Nat.le_trans hM h2, h3⟩⟩
theorem below_owns {w w' : World} {N e k n : Nat} {v : Value} {xs : List Value} (h : w.ownsRow N e k v n xs) (hb : Below w.heap.size w w') : w'.ownsRow N e k v n xs := by
  refine ⟨h.1, h.2.imp id ?_⟩
  rintro ⟨g, cap, cur, h1, h2, h3, h4⟩
  exact ⟨g, cap, cur, h1, h2, (hb.block g (Array.getElem?_eq_some_iff.1 h3).1).trans h3, h4⟩
def zeroNm : Value := .agg #[.int .u8 0, .int .i64 0]
def zeroPa : Value := .agg #[.int .u8 0, .int .i64 0, .bool false, .int .u8 0]
def zeroLp : Value := .agg #[.int .u8 0, .bool false, .slice none 0 0, .slice none 0 0]
theorem kdNm : Kd Nm.enc 26 36 2 16 zeroNm := ⟨Nm.enc_len, Nm.enc_one, Try.underlying26, by kernel_rfl, rfl, by decide, by decide⟩
theorem kdPa : Kd Pa.enc 43 56 4 24 zeroPa := ⟨Pa.enc_len, Pa.enc_one, Try.underlying43, by kernel_rfl, rfl, by decide, by decide⟩
theorem kdLp : Kd Lp.enc 37 45 4 56 zeroLp := ⟨Lp.enc_len, Lp.enc_one, Try.underlying37, by kernel_rfl, rfl, by decide, by decide⟩
theorem kdRow : Kd rowEnc 25 37 1 24 (.slice none 0 0) := ⟨rowEnc_len, rowEnc_one, Try.underlying25, by kernel_rfl, rfl, by decide, by decide⟩
/-- The call returns a list in new memory that has no room for more. -/
def NewSl {α : Type} (enc : α → List Value) (e k : Nat) (l : List α) (w : World) (x : Ending) (w' : World) : Prop := ∃ s : Sl α, x = .returned s.v ∧ Hid (s.l = l ∧ s.cap = l.length ∧ s.lie enc w'.heap.size w' ∧ w'.ownsRow w.heap.size e k s.v s.l.length (rcells enc s.l)) ∧ Below w.heap.size w w'
set_option maxRecDepth 100000 in
theorem copied30 (s : Sl Nm) (N : Nat) (w : World) (hN : N ≤ w.heap.size) (h : s.lie Nm.enc N w) (hl : s.l.length ≤ 10000) : Calls Try.prog 30 #[s.v] w (NewSl Nm.enc 36 2 s.l w) := by
  obtain ⟨ao, ps, cap⟩ := s
  have HL := Lib.hid (h.mono hN)
  clear h
  simp only [Sl.v]
  simp only at hl
  obtain ⟨n, hn⟩ : ∃ n, ps.length = n := ⟨_, rfl⟩
  rw [hn] at hl ⊢
  have HN := Lib.hid hn
  clear hn
  by_cases h0 : n = 0
  · subst h0
    obtain rfl : ps = [] := List.eq_nil_of_length_eq_zero HN.out
    go_enter Try.func30, Try.ntmps30
    go_wp2
    go_ret
    exact ⟨Sl.nil, rfl, Lib.hid ⟨rfl, rfl, .inl rfl, World.ownsRow_nil _ _ _ _⟩, Below.refl _ _⟩
  · rcases HL.out with h | ⟨b, o, h, hb, hc⟩
    · simp only at h; rw [h] at HN; exact absurd HN.out.symm h0
    · obtain rfl : ao = some ⟨b, o, none⟩ := h
      have hmk := fun w => kdNm.make (n : Int) n rfl (by omega) w
      have hcp := kdNm.copyAll w n cap ps ⟨b, o, none⟩ HN.out (fun j u hj => by
        rw [show (⟨b, o, none⟩ : Addr).add j = ⟨b, o + j, none⟩ from Addr.add_lit ..]
        exact ((below1 w _).cell (p := ⟨b, o + j, none⟩) hb).trans (hc j u hj))
      have h00 : ((n : Int) == 0) = false := by simp; omega
      have hb0 := below1 w (.cells (rcells Nm.enc ps).toArray 36)
      have hown := own_new (e := 36) w ps Nm.enc_len (by rw [HN.out]; omega)
      rw [HN.out] at hown
      have HO := Lib.hid hown
      have HB := Lib.hid hb0
      clear hc hown hb0
      go_enter Try.func30, Try.ntmps30
      go_wp2_with fail
      go_ret
      obtain ⟨s, hv, hs, hl2, _⟩ := own_lie Nm.enc_len HO.out HN.out.symm
      refine ⟨⟨some ⟨w.heap.size, 0, none⟩, ps, n⟩, by simp only [Sl.v]; rw [HN.out]; rfl, Lib.hid ⟨rfl, HN.out.symm, ?_, by simp only [Sl.v]; rw [HN.out]; exact HO.out⟩, HB.out⟩
      obtain ⟨a, l, c⟩ := s
      simp only [Sl.v, Value.slice.injEq] at hv
      simp only at hs
      subst hs
      obtain ⟨rfl, _, rfl⟩ := hv
      exact hl2
set_option maxRecDepth 100000 in
theorem copied38 (s : Sl Pa) (N : Nat) (w : World) (hN : N ≤ w.heap.size) (h : s.lie Pa.enc N w) (hl : s.l.length ≤ 10000) : Calls Try.prog 38 #[s.v] w (NewSl Pa.enc 56 4 s.l w) := by
  obtain ⟨ao, ps, cap⟩ := s
  have HL := Lib.hid (h.mono hN)
  clear h
  simp only [Sl.v]
  simp only at hl
  obtain ⟨n, hn⟩ : ∃ n, ps.length = n := ⟨_, rfl⟩
  rw [hn] at hl ⊢
  have HN := Lib.hid hn
  clear hn
  by_cases h0 : n = 0
  · subst h0
    obtain rfl : ps = [] := List.eq_nil_of_length_eq_zero HN.out
    go_enter Try.func38, Try.ntmps38
    go_wp2
    go_ret
    exact ⟨Sl.nil, rfl, Lib.hid ⟨rfl, rfl, .inl rfl, World.ownsRow_nil _ _ _ _⟩, Below.refl _ _⟩
  · rcases HL.out with h | ⟨b, o, h, hb, hc⟩
    · simp only at h; rw [h] at HN; exact absurd HN.out.symm h0
    · obtain rfl : ao = some ⟨b, o, none⟩ := h
      have hmk := fun w => kdPa.make (n : Int) n rfl (by omega) w
      have hcp := kdPa.copyAll w n cap ps ⟨b, o, none⟩ HN.out (fun j u hj => by
        rw [show (⟨b, o, none⟩ : Addr).add j = ⟨b, o + j, none⟩ from Addr.add_lit ..]
        exact ((below1 w _).cell (p := ⟨b, o + j, none⟩) hb).trans (hc j u hj))
      have h00 : ((n : Int) == 0) = false := by simp; omega
      have hb0 := below1 w (.cells (rcells Pa.enc ps).toArray 56)
      have hown := own_new (e := 56) w ps Pa.enc_len (by rw [HN.out]; omega)
      rw [HN.out] at hown
      have HO := Lib.hid hown
      have HB := Lib.hid hb0
      clear hc hown hb0
      go_enter Try.func38, Try.ntmps38
      go_wp2_with fail
      go_ret
      obtain ⟨s, hv, hs, hl2, _⟩ := own_lie Pa.enc_len HO.out HN.out.symm
      refine ⟨⟨some ⟨w.heap.size, 0, none⟩, ps, n⟩, by simp only [Sl.v]; rw [HN.out]; rfl, Lib.hid ⟨rfl, HN.out.symm, ?_, by simp only [Sl.v]; rw [HN.out]; exact HO.out⟩, HB.out⟩
      obtain ⟨a, l, c⟩ := s
      simp only [Sl.v, Value.slice.injEq] at hv
      simp only at hs
      subst hs
      obtain ⟨rfl, _, rfl⟩ := hv
      exact hl2
end Go.Proofs.Ytgaofkbmnapogaa
namespace Go.Proofs.Ytgaofkbmnapogaa
open Go.RowKit Go.Sort
theorem setCell_block (W : World) (B o : Nat) (v : Value) {cs : Array Value} {t : TypeId} (h : W.heap[B]? = some (.cells cs t (0, 0))) : (W.setCell ⟨B, o, none⟩ v).heap[B]? = some (.cells (cs.setIfInBounds o v) t (0, 0)) := by
  obtain ⟨hlt, hk⟩ := Array.getElem?_eq_some_iff.1 h
  show (W.heap.modify B _)[B]? = _
  rw [Array.getElem?_eq_getElem (by rw [Array.size_modify]; exact hlt), Array.getElem_modify_self, hk]
  rfl
/-- A loop laid into a block of the call's own. -/
theorem put4 {w0 : World} {B : Nat} {a b c d : Value} {T : TypeId} (a' b' c' d' : Value) (h : w0.heap[B]? = some (.cells #[a, b, c, d] T (0, 0))) :
    ((((w0.setCell ⟨B, 0, none⟩ a').setCell ⟨B, 1, none⟩ b').setCell ⟨B, 2, none⟩ c').setCell ⟨B, 3, none⟩ d').heap[B]? = some (.cells #[a', b', c', d'] T (0, 0)) :=
  setCell_block _ _ _ _ (setCell_block _ _ _ _ (setCell_block _ _ _ _ (setCell_block _ _ _ _ h)))
theorem put4_below {w w0 : World} {B N : Nat} (a' b' c' d' : Value) (h : Below N w w0) (hB : N ≤ B) : Below N w ((((w0.setCell ⟨B, 0, none⟩ a').setCell ⟨B, 1, none⟩ b').setCell ⟨B, 2, none⟩ c').setCell ⟨B, 3, none⟩ d') :=
  (((h.setCell (p := ⟨B, 0, none⟩) hB _).setCell (p := ⟨B, 1, none⟩) hB _).setCell (p := ⟨B, 2, none⟩) hB _).setCell (p := ⟨B, 3, none⟩) hB _
theorem results_lp {fn : Func} {p : Tmp} (h : fn.results = #[.cell p 45]) (tmps : Array Value) (w : World) (B : Nat) (v0 v1 v2 v3 : Value) (hp : tmps.getD p undef = .pointer (some ⟨B, 0, none⟩)) (ho : w.heap[B]? = some (.cells #[v0, v1, v2, v3] 45 (0, 0))) :
    (results fn tmps).run Try.prog w = .ok (.agg #[v0, v1, v2, v3]) w := by
  have e0 : w.cell? ⟨B, 0, none⟩ = some v0 := by simp [World.cell?, ho]
  have e1 : w.cell? ⟨B, 1, none⟩ = some v1 := by simp [World.cell?, ho]
  have e2 : w.cell? ⟨B, 2, none⟩ = some v2 := by simp [World.cell?, ho]
  have e3 : w.cell? ⟨B, 3, none⟩ = some v3 := by simp [World.cell?, ho]
  have hp' : tmps[p]?.getD undef = .pointer (some ⟨B, 0, none⟩) := by simpa using hp
  simp [results, h, hp', go_sem, e0, e1, e2, e3]
theorem results_lp2 {fn : Func} {p u : Tmp} (h : fn.results = #[.cell p 45, .tmp u]) (tmps : Array Value) (w : World) (B : Nat) (v0 v1 v2 v3 : Value) (hp : tmps.getD p undef = .pointer (some ⟨B, 0, none⟩)) (ho : w.heap[B]? = some (.cells #[v0, v1, v2, v3] 45 (0, 0))) :
    (results fn tmps).run Try.prog w = .ok (.tuple #[.agg #[v0, v1, v2, v3], tmps.getD u undef]) w := by
  have e0 : w.cell? ⟨B, 0, none⟩ = some v0 := by simp [World.cell?, ho]
  have e1 : w.cell? ⟨B, 1, none⟩ = some v1 := by simp [World.cell?, ho]
  have e2 : w.cell? ⟨B, 2, none⟩ = some v2 := by simp [World.cell?, ho]
  have e3 : w.cell? ⟨B, 3, none⟩ = some v3 := by simp [World.cell?, ho]
  have hp' : tmps[p]?.getD undef = .pointer (some ⟨B, 0, none⟩) := by simpa using hp
  simp [results, h, hp', go_sem, e0, e1, e2, e3]
/-- at: a loop that is there. -/
theorem at_any (t : Tb) (k i : Nat) (r : Sl Lp) (x : Lp) (N : Nat) (w : World) (hN : N ≤ w.heap.size) (ht : Tb.ok N w t) (hr : t.l[k]? = some r) (hx : r.l[i]? = some x) :
    Calls Try.prog 28 #[t.v, .agg #[.int .u8 ((k : Int) + 1), .int .i64 i]] w fun e w' => e = .returned x.v ∧ Below w.heap.size w w' := by
  have HT := Lib.hid (ht.mono hN)
  obtain ⟨ao, ls, cap⟩ := t
  have hlen : ls.length ≤ 100 := HT.out.len
  obtain ⟨b, o, hao, hbl, hcell, hro⟩ := HT.out.row hr
  obtain rfl : ao = some ⟨b, o, none⟩ := hao
  have hkl : k < ls.length := (List.getElem?_eq_some_iff.1 hr).1
  obtain ⟨ra, rl, rc⟩ := r
  have hil : i < rl.length := (List.getElem?_eq_some_iff.1 hx).1
  have hrl : rl.length ≤ 100 := hro.len
  obtain ⟨b2, o2, hra, hb2, c0, c1, c2, c3, hok⟩ := hro.loop hx
  obtain rfl : ra = some ⟨b2, o2, none⟩ := hra
  obtain ⟨bed, nw, ⟨ta, tl, tc⟩, ⟨pa, pl, pc⟩⟩ := x
  simp only [Sl.v, Lp.v] at hcell c0 c1 c2 c3 ⊢
  have hkz : (k : Int) < (ls.length : Int) := by omega
  have hiz : (i : Int) < (rl.length : Int) := by omega
  have hk1 : (k : Int) + 1 - 1 = (k : Int) := by omega
  have hb0 := below2 w (.cells #[.int .u8 ((k : Int) + 1), .int .i64 i] 36) (.cells #[.int .u8 0, .bool false, .slice none 0 0, .slice none 0 0] 45)
  have HOKX := Lib.hid (And.intro hok hro)
  clear ht hro hok hr hx
  go_enter Try.func28, Try.ntmps28
  go_upto_region 1 with fail
  obtain ⟨w0, hw0⟩ : ∃ w0, (w.alloc (.cells #[.int .u8 ((k : Int) + 1), .int .i64 i] 36)).alloc (.cells #[.int .u8 0, .bool false, .slice none 0 0, .slice none 0 0] 45) = w0 := ⟨_, rfl⟩
  have n0 : w0.cell? ⟨w.heap.size, 0, none⟩ = some (.int .u8 ((k : Int) + 1)) := by rw [← hw0]; simp
  have n1 : w0.cell? ⟨w.heap.size, 1, none⟩ = some (.int .i64 i) := by rw [← hw0]; simp
  have hob : w0.heap[w.heap.size + 1]? = some (.cells #[.int .u8 0, .bool false, .slice none 0 0, .slice none 0 0] 45 (0, 0)) := by
    rw [← hw0]; have := heap_alloc_new (w.alloc (.cells #[.int .u8 ((k : Int) + 1), .int .i64 i] 36)) (.cells #[.int .u8 0, .bool false, .slice none 0 0, .slice none 0 0] 45); simpa using this
  rw [hw0] at hb0 ⊢
  clear hw0
  replace hcell := (hb0.cell (p := ⟨b, o + k, none⟩) hbl).trans hcell
  replace c0 := (hb0.cell (p := ⟨b2, o2 + i * 4, none⟩) hb2).trans c0
  replace c1 := (hb0.cell (p := ⟨b2, o2 + i * 4 + 1, none⟩) hb2).trans c1
  replace c2 := (hb0.cell (p := ⟨b2, o2 + i * 4 + 2, none⟩) hb2).trans c2
  replace c3 := (hb0.cell (p := ⟨b2, o2 + i * 4 + 3, none⟩) hb2).trans c3
  have z0 : w0.cell? ⟨w.heap.size + 1, 0, none⟩ = some (.int .u8 0) := by simp [World.cell?, hob]
  have z1 : w0.cell? ⟨w.heap.size + 1, 1, none⟩ = some (.bool false) := by simp [World.cell?, hob]
  have z2 : w0.cell? ⟨w.heap.size + 1, 2, none⟩ = some (.slice none 0 0) := by simp [World.cell?, hob]
  have z3 : w0.cell? ⟨w.heap.size + 1, 3, none⟩ = some (.slice none 0 0) := by simp [World.cell?, hob]
  have zf : ∀ o, w0.frozen? ⟨w.heap.size + 1, o, none⟩ = false := fun o => by simp [World.frozen?, hob]
  have f0 := zf 0
  have f1 := zf 1
  have f2 := zf 2
  have f3 := zf 3
  clear zf
  go_region
  have hp := put4 (.int .u8 bed) (.bool nw) (.slice ta tl.length tc) (.slice pa pl.length pc) hob
  have hq := put4_below (.int .u8 bed) (.bool nw) (.slice ta tl.length tc) (.slice pa pl.length pc) hb0 (Nat.le_add_right _ 1)
  obtain ⟨w1, hw1⟩ : ∃ w1, ((((w0.setCell ⟨w.heap.size + 1, 0, none⟩ (.int .u8 bed)).setCell ⟨w.heap.size + 1, 1, none⟩ (.bool nw)).setCell ⟨w.heap.size + 1, 2, none⟩ (.slice ta tl.length tc)).setCell ⟨w.heap.size + 1, 3, none⟩ (.slice pa pl.length pc)) = w1 := ⟨_, rfl⟩
  rw [hw1] at hp hq ⊢
  clear hw1 z0 z1 z2 z3 f0 f1 f2 f3 hob n0 n1 hcell c0 c1 c2 c3 hb0
  obtain ⟨w2, hw2⟩ : ∃ w2, w1.drew = w2 := ⟨_, rfl⟩
  have hq2 : Below w.heap.size w w2 := by rw [← hw2]; exact below_drewN hq 1
  have hp2 : w2.heap[w.heap.size + 1]? = some (.cells #[.int .u8 bed, .bool nw, .slice ta tl.length tc, .slice pa pl.length pc] 45 (0, 0)) := by rw [← hw2]; exact hp
  rw [hw2]
  clear hw2 hp hq
  go_wp2_with fail
  refine bodyPost_ret (results_lp rfl _ _ _ _ _ _ _ rfl hp2) rfl ?_
  exact ⟨rfl, hq2⟩
end Go.Proofs.Ytgaofkbmnapogaa
namespace Go.Proofs.Ytgaofkbmnapogaa
open Go.RowKit Go.Sort
/-- A loop with memory of its own. -/
def OwnLp (q : Lq) (N : Nat) (v : Value) (w' : World) : Prop := ∃ x : Lp, v = x.v ∧ Hid (x.q = q ∧ x.th.cap = x.th.l.length ∧ x.pa.cap = x.pa.l.length ∧ x.ok w'.heap.size w' ∧
  w'.ownsRow N 36 2 x.th.v x.th.l.length (rcells Nm.enc x.th.l) ∧ w'.ownsRow N 56 4 x.pa.v x.pa.l.length (rcells Pa.enc x.pa.l) ∧ (x.th.ao = none ∨ x.th.v.ownBlock ≠ x.pa.v.ownBlock))
theorem own_lie' {α : Type} {enc : α → List Value} {e k : Nat} (hk : ∀ x, (enc x).length = k) {N : Nat} {w : World} {s : Sl α} (h : w.ownsRow N e k s.v s.l.length (rcells enc s.l)) : s.lie enc w.heap.size w := by
  obtain ⟨s', hv, hl, hlie, _⟩ := own_lie hk h rfl
  obtain ⟨a, l, c⟩ := s
  obtain ⟨a', l', c'⟩ := s'
  simp only [Sl.v, Value.slice.injEq] at hv hl
  obtain ⟨rfl, _, rfl⟩ := hv
  subst hl
  exact hlie
theorem OwnLp.keep {q : Lq} {N : Nat} {v : Value} {w1 w2 : World} (h : OwnLp q N v w1) (hw : ∀ (e k n : Nat) (u : Value) (xs : List Value), w1.ownsRow N e k u n xs → w2.ownsRow N e k u n xs) : OwnLp q N v w2 := by
  obtain ⟨x, hv, h⟩ := h
  obtain ⟨h1, h2, h3, h4, h5, h6, h7⟩ := h.out
  have g5 := hw _ _ _ _ _ h5
  have g6 := hw _ _ _ _ _ h6
  exact ⟨x, hv, Lib.hid ⟨h1, h2, h3, ⟨own_lie' Nm.enc_len g5, own_lie' Pa.enc_len g6, h4.lt, h4.lp, h4.bt, h4.bp, h4.bb⟩, g5, g6, h7⟩⟩
theorem OwnLp.below {q : Lq} {N : Nat} {v : Value} {w1 w2 : World} (h : OwnLp q N v w1) (hb : Below w1.heap.size w1 w2) : OwnLp q N v w2 := h.keep fun _ _ _ _ _ ho => below_owns ho hb
theorem OwnLp.set {q : Lq} {N : Nat} {v : Value} {w1 : World} (h : OwnLp q N v w1) {a : Addr} (ha : a.block < N) (u : Value) : OwnLp q N v (w1.setCell a u) := h.keep fun _ _ _ _ _ ho => ownsRow_setCell_below ho ha u
theorem OwnLp.mono {q : Lq} {N M : Nat} {v : Value} {w1 : World} (h : OwnLp q N v w1) (hM : M ≤ N) : OwnLp q M v w1 := by
  obtain ⟨x, hv, h⟩ := h
  obtain ⟨h1, h2, h3, h4, h5, h6, h7⟩ := h.out
  exact ⟨x, hv, Lib.hid ⟨h1, h2, h3, h4, ownsRow_mono h5 hM, ownsRow_mono h6 hM, h7⟩⟩
theorem own_sets {w : World} {base e k n : Nat} {v : Value} {xs : List Value} {B C : Nat} {u2 u3 v0 v1 v2 v3 : Value} (h : w.ownsRow base e k v n xs) (hB : B < base) (hC : C < base) :
    ((((((w.setCell ⟨B, 2, none⟩ u2).setCell ⟨B, 3, none⟩ u3).setCell ⟨C, 0, none⟩ v0).setCell ⟨C, 1, none⟩ v1).setCell ⟨C, 2, none⟩ v2).setCell ⟨C, 3, none⟩ v3).ownsRow base e k v n xs :=
  ownsRow_setCell_below (a := ⟨C, 3, none⟩) (ownsRow_setCell_below (a := ⟨C, 2, none⟩) (ownsRow_setCell_below (a := ⟨C, 1, none⟩) (ownsRow_setCell_below (a := ⟨C, 0, none⟩) (ownsRow_setCell_below (a := ⟨B, 3, none⟩) (ownsRow_setCell_below (a := ⟨B, 2, none⟩) h hB _) hB _) hC _) hC _) hC _) hC _
set_option maxRecDepth 100000 in
set_option maxHeartbeats 4000000 in
theorem own_any (x : Lp) (N : Nat) (w : World) (hN : N ≤ w.heap.size) (hx : x.ok N w) :
    Calls Try.prog 27 #[x.v] w fun e w' => ∃ v, e = .returned v ∧ OwnLp x.q w.heap.size v w' ∧ Below w.heap.size w w' := by
  have hk30 := fun (W : World) (hb : Below w.heap.size w W) => copied30 x.th w.heap.size W hb.size ((hx.th.mono hN).below hb) (by have := hx.lt; omega)
  have hk38 := fun (W : World) (hb : Below w.heap.size w W) => copied38 x.pa w.heap.size W hb.size ((hx.pa.mono hN).below hb) (by have := hx.lp; omega)
  have HX := Lib.hid hx
  obtain ⟨bed, nw, ⟨ta, tl, tc⟩, ⟨pa, pl, pc⟩⟩ := x
  simp only [Sl.v, Lp.v] at hk30 hk38 ⊢
  have K30 := Lib.hid hk30
  have K38 := Lib.hid hk38
  have hb0 := below2 w (.cells #[.int .u8 bed, .bool nw, .slice ta tl.length tc, .slice pa pl.length pc] 45) (.cells #[.int .u8 0, .bool false, .slice none 0 0, .slice none 0 0] 45)
  clear hk30 hk38 hx
  go_enter Try.func27, Try.ntmps27
  go_upto_region 1 with fail
  obtain ⟨w0, hw0⟩ : ∃ w0, (w.alloc (.cells #[.int .u8 bed, .bool nw, .slice ta tl.length tc, .slice pa pl.length pc] 45)).alloc (.cells #[.int .u8 0, .bool false, .slice none 0 0, .slice none 0 0] 45) = w0 := ⟨_, rfl⟩
  have ho1 : w0.heap[w.heap.size]? = some (.cells #[.int .u8 bed, .bool nw, .slice ta tl.length tc, .slice pa pl.length pc] 45 (0, 0)) := by
    rw [← hw0]; have := heap_alloc_new w (.cells #[.int .u8 bed, .bool nw, .slice ta tl.length tc, .slice pa pl.length pc] 45); exact ((below1 _ _).block w.heap.size (by simp)).trans this
  have ho2 : w0.heap[w.heap.size + 1]? = some (.cells #[.int .u8 0, .bool false, .slice none 0 0, .slice none 0 0] 45 (0, 0)) := by
    rw [← hw0]; have := heap_alloc_new (w.alloc (.cells #[.int .u8 bed, .bool nw, .slice ta tl.length tc, .slice pa pl.length pc] 45)) (.cells #[.int .u8 0, .bool false, .slice none 0 0, .slice none 0 0] 45); simpa using this
  rw [hw0] at hb0 ⊢
  clear hw0
  have hz0 : w.heap.size + 2 ≤ w0.heap.size := by have := (Array.getElem?_eq_some_iff.1 ho2).1; omega
  have hbd : Below w.heap.size w w0.drew := below_drewN hb0 1
  have y2 : w0.cell? ⟨w.heap.size, 2, none⟩ = some (.slice ta tl.length tc) := by simp [World.cell?, ho1]
  have y3 : w0.cell? ⟨w.heap.size, 3, none⟩ = some (.slice pa pl.length pc) := by simp [World.cell?, ho1]
  have x2 : w0.drew.cell? ⟨w.heap.size, 2, none⟩ = some (.slice ta tl.length tc) := y2
  have x3 : w0.drew.cell? ⟨w.heap.size, 3, none⟩ = some (.slice pa pl.length pc) := y3
  have HO1 : Hid (w0.drew.heap[w.heap.size]? = some (.cells #[.int .u8 bed, .bool nw, .slice ta tl.length tc, .slice pa pl.length pc] 45 (0, 0))) := Lib.hid ho1
  have HO2 : Hid (w0.drew.heap[w.heap.size + 1]? = some (.cells #[.int .u8 0, .bool false, .slice none 0 0, .slice none 0 0] 45 (0, 0))) := Lib.hid ho2
  have hz1 : w.heap.size + 2 ≤ w0.drew.heap.size := hz0
  obtain ⟨wd, hwd⟩ : ∃ wd, w0.drew = wd := ⟨_, rfl⟩
  rw [hwd] at hbd x2 x3 HO1 HO2 hz1
  clear ho1 ho2 hb0 hz0 y2 y3
  go_region_with (first
    | (go_at_call 30; refine (K30.out wd hbd).mono ?_; rintro e w1 ⟨s1, rfl, h1, hb1⟩; obtain ⟨a1, l1, c1⟩ := s1; simp only [Sl.v]; have x2' := (hb1.cell (p := ⟨w.heap.size, 2, none⟩) (by simp only; omega)).trans x2; have x3' := (hb1.cell (p := ⟨w.heap.size, 3, none⟩) (by simp only; omega)).trans x3)
    | (go_at_call 38; refine (K38.out w1 (hbd.trans (hb1.mono hbd.size))).mono ?_; rintro e w2 ⟨s2, rfl, h2, hb2⟩; obtain ⟨a2, l2, c2⟩ := s2; simp only [Sl.v]; have hsz1 := hb1.size; have hsz2 := hb2.size; have HQ1 := Lib.hid ((hb2.block w.heap.size (by omega)).trans ((hb1.block w.heap.size (by omega)).trans HO1.out)); have HQ2 := Lib.hid ((hb2.block (w.heap.size + 1) (by omega)).trans ((hb1.block (w.heap.size + 1) (by omega)).trans HO2.out)); have p2 : w2.cell? ⟨w.heap.size, 2, none⟩ = some (.slice ta tl.length tc) := (by simp [World.cell?, HQ1.out]); have p3 : w2.cell? ⟨w.heap.size, 3, none⟩ = some (.slice pa pl.length pc) := (by simp [World.cell?, HQ1.out]); have f2 : w2.frozen? ⟨w.heap.size, 2, none⟩ = false := (by simp [World.frozen?, HQ1.out]); have f3 : w2.frozen? ⟨w.heap.size, 3, none⟩ = false := (by simp [World.frozen?, HQ1.out])))
  all_goals (
    have hbq : Below w.heap.size w w2 := (hbd.trans (hb1.mono hbd.size)).trans (hb2.mono (Nat.le_trans hbd.size hb1.size))
    have hq3 := setCell_block _ w.heap.size 3 (.slice a2 l2.length c2) (setCell_block _ w.heap.size 2 (.slice a1 l1.length c1) HQ1.out)
    have hq4 : ((w2.setCell ⟨w.heap.size, 2, none⟩ (.slice a1 l1.length c1)).setCell ⟨w.heap.size, 3, none⟩ (.slice a2 l2.length c2)).heap[w.heap.size + 1]? = some (.cells #[.int .u8 0, .bool false, .slice none 0 0, .slice none 0 0] 45 (0, 0)) :=
      (Below.heap_setCell _ _ _ _ (by simp)).trans ((Below.heap_setCell _ _ _ _ (by simp)).trans HQ2.out)
    simp at hq3
    have hp := put4 (.int .u8 bed) (.bool nw) (.slice a1 l1.length c1) (.slice a2 l2.length c2) hq4
    have hO1 := own_sets (B := w.heap.size) (C := w.heap.size + 1) (u2 := .slice a1 l1.length c1) (u3 := .slice a2 l2.length c2) (v0 := .int .u8 bed) (v1 := .bool nw) (v2 := .slice a1 l1.length c1) (v3 := .slice a2 l2.length c2) (below_owns h1.out.2.2.2 hb2) (by omega) (by omega)
    have hO2 := own_sets (B := w.heap.size) (C := w.heap.size + 1) (u2 := .slice a1 l1.length c1) (u3 := .slice a2 l2.length c2) (v0 := .int .u8 bed) (v1 := .bool nw) (v2 := .slice a1 l1.length c1) (v3 := .slice a2 l2.length c2) h2.out.2.2.2 (by omega) (by omega)
    have hbz := put4_below (.int .u8 bed) (.bool nw) (.slice a1 l1.length c1) (.slice a2 l2.length c2) ((hbq.setCell (p := ⟨w.heap.size, 2, none⟩) (Nat.le_refl _) (.slice a1 l1.length c1)).setCell (p := ⟨w.heap.size, 3, none⟩) (Nat.le_refl _) (.slice a2 l2.length c2)) (Nat.le_add_right w.heap.size 1)
    obtain ⟨w3, hw3⟩ : ∃ w3, (w2.setCell ⟨w.heap.size, 2, none⟩ (.slice a1 l1.length c1)).setCell ⟨w.heap.size, 3, none⟩ (.slice a2 l2.length c2) = w3 := ⟨_, rfl⟩
    rw [hw3] at hq3 hq4 hp hO1 hO2 hbz ⊢
    have HO1' := Lib.hid hO1
    have HO2' := Lib.hid hO2
    have HP := Lib.hid hp
    have HBZ := Lib.hid hbz
    have HBB := Lib.hid (And.intro hb1 hb2)
    have e0 : w3.cell? ⟨w.heap.size, 0, none⟩ = some (.int .u8 bed) := by simp [World.cell?, hq3]
    have e1 : w3.cell? ⟨w.heap.size, 1, none⟩ = some (.bool nw) := by simp [World.cell?, hq3]
    have e2 : w3.cell? ⟨w.heap.size, 2, none⟩ = some (.slice a1 l1.length c1) := by simp [World.cell?, hq3]
    have e3 : w3.cell? ⟨w.heap.size, 3, none⟩ = some (.slice a2 l2.length c2) := by simp [World.cell?, hq3]
    have z0 : w3.cell? ⟨w.heap.size + 1, 0, none⟩ = some (.int .u8 0) := by simp [World.cell?, hq4]
    have z1 : w3.cell? ⟨w.heap.size + 1, 1, none⟩ = some (.bool false) := by simp [World.cell?, hq4]
    have z2 : w3.cell? ⟨w.heap.size + 1, 2, none⟩ = some (.slice none 0 0) := by simp [World.cell?, hq4]
    have z3 : w3.cell? ⟨w.heap.size + 1, 3, none⟩ = some (.slice none 0 0) := by simp [World.cell?, hq4]
    have zf : ∀ o, w3.frozen? ⟨w.heap.size + 1, o, none⟩ = false := fun o => by simp [World.frozen?, hq4]
    have g0 := zf 0
    have g1 := zf 1
    have g2 := zf 2
    have g3 := zf 3
    clear zf hw3 hq3 hq4 hp hO1 hO2 hbz p2 p3 f2 f3 x2 x3 x2' x3' hwd hb1 hb2
    go_wp2_with fail
    refine bodyPost_ret (results_lp rfl _ _ _ _ _ _ _ rfl HP.out) rfl ?_
    obtain ⟨s1, v1, i1, j1, k1, _, m1⟩ := own_lie Nm.enc_len HO1'.out rfl
    obtain ⟨s2, v2, i2, j2, k2, _, m2⟩ := own_lie Pa.enc_len HO2'.out rfl
    obtain ⟨sa1, sl1, sc1⟩ := s1
    obtain ⟨sa2, sl2, sc2⟩ := s2
    simp only [Sl.v, Value.slice.injEq] at v1 v2 i1 i2
    obtain ⟨rfl, _, rfl⟩ := v1
    obtain ⟨rfl, _, rfl⟩ := v2
    subst i1 i2
    obtain ⟨q1, q2, q3, q4⟩ := h1.out
    obtain ⟨r1, r2, r3, r4⟩ := h2.out
    try simp only at q1 q2 r1 r2
    subst q1 r1
    refine ⟨_, rfl, ⟨⟨bed, nw, ⟨a1, sl1, c1⟩, ⟨a2, sl2, c2⟩⟩, rfl, Lib.hid ⟨rfl, q2, r2, ⟨j1, j2, HX.out.lt, HX.out.lp, HX.out.bt, HX.out.bp, HX.out.bb⟩, ownsRow_mono HO1'.out (by omega), ownsRow_mono HO2'.out (by omega), ?_⟩⟩, HBZ.out⟩
    cases a1 with
    | none => exact .inl rfl
    | some ad =>
      refine .inr ?_
      obtain ⟨b1, rfl, _, _⟩ := m1 ad rfl
      cases a2 with
      | none => simp [Sl.v, Value.ownBlock]
      | some ad2 =>
        obtain ⟨b2, rfl, hb2', _⟩ := m2 ad2 rfl
        have hlt : b1 < w1.heap.size := by
          rcases q4.2 with ⟨e, _⟩ | ⟨g, cap, cur, e, _, hg, _⟩
          · simp [Sl.v] at e
          · simp only [Sl.v, Value.slice.injEq] at e
            have : b1 = g := by simpa using e.1
            rw [this]; exact (Array.getElem?_eq_some_iff.1 hg).1
        simp [Sl.v, Value.ownBlock]
        omega)
end Go.Proofs.Ytgaofkbmnapogaa
namespace Go.Proofs.Ytgaofkbmnapogaa
open Go.RowKit Go.Sort
/-- The loop of a name. -/
def lqAt (T : List (List Lq)) (p : Nm) : Lq := ((T.getD (p.y - 1).toNat []).getD p.n.toNat ⟨0, false, [], []⟩)
theorem there_get {t : Tb} {p : Nm} (h : there t.sem p = true) : ∃ (k i : Nat) (r : Sl Lp) (x : Lp), p = ⟨(k : Int) + 1, i⟩ ∧ t.l[k]? = some r ∧ r.l[i]? = some x ∧ lqAt t.sem p = x.q := by
  have h1 := of_decide_eq_true h
  obtain ⟨y, n⟩ := p
  simp only at h1
  obtain ⟨a1, a2, a3, a4⟩ := h1
  rw [Tb.sem_len] at a2
  have hk : (y - 1).toNat < t.l.length := by omega
  have hr : t.l[(y - 1).toNat]? = some t.l[(y - 1).toNat] := List.getElem?_eq_getElem hk
  rw [Tb.sem_at hr, List.length_map] at a4
  have hi : n.toNat < t.l[(y - 1).toNat].l.length := by omega
  have hx : t.l[(y - 1).toNat].l[n.toNat]? = some t.l[(y - 1).toNat].l[n.toNat] := List.getElem?_eq_getElem hi
  refine ⟨(y - 1).toNat, n.toNat, _, _, ?_, hr, hx, ?_⟩
  · congr 1 <;> omega
  · unfold lqAt
    simp only
    rw [Tb.sem_at hr, List.getD_eq_getElem?_getD, List.getElem?_map, hx]
    rfl
theorem OwnLp.put {q : Lq} {N B : Nat} {v : Value} {w1 : World} (h : OwnLp q N v w1) (hB : B < N) (a b c d : Value) : OwnLp q N v ((((w1.setCell ⟨B, 0, none⟩ a).setCell ⟨B, 1, none⟩ b).setCell ⟨B, 2, none⟩ c).setCell ⟨B, 3, none⟩ d) :=
  (((h.set (a := ⟨B, 0, none⟩) hB _).set (a := ⟨B, 1, none⟩) hB _).set (a := ⟨B, 2, none⟩) hB _).set (a := ⟨B, 3, none⟩) hB _
set_option maxRecDepth 100000 in
set_option maxHeartbeats 4000000 in
theorem find_any (t : Tb) (p : Nm) (N : Nat) (w : World) (hN : N ≤ w.heap.size) (ht : Tb.ok N w t) (hp : p.byte) :
    Calls Try.prog 15 #[t.v, p.v] w fun e w' => (there t.sem p = false ∧ e = .returned (.tuple #[.agg #[.int .u8 0, .bool false, .slice none 0 0, .slice none 0 0], .int .i64 7]) ∧ Below w.heap.size w w') ∨
      (there t.sem p = true ∧ ∃ v, e = .returned (.tuple #[v, .int .i64 0]) ∧ OwnLp (lqAt t.sem p) w.heap.size v w' ∧ Below w.heap.size w w') := by
  have hk26 := fun (W : World) (hb : Below w.heap.size w W) => isThere_any t p w.heap.size W hb.size ((ht.mono hN).below hb) hp
  have hb0 := below2 w (.cells #[.int .u8 p.y, .int .i64 p.n] 36) (.cells #[.int .u8 0, .bool false, .slice none 0 0, .slice none 0 0] 45)
  obtain ⟨w0, hw0⟩ : ∃ w0, (w.alloc (.cells #[.int .u8 p.y, .int .i64 p.n] 36)).alloc (.cells #[.int .u8 0, .bool false, .slice none 0 0, .slice none 0 0] 45) = w0 := ⟨_, rfl⟩
  have ho1 : w0.heap[w.heap.size]? = some (.cells #[.int .u8 p.y, .int .i64 p.n] 36 (0, 0)) := by
    rw [← hw0]; have := heap_alloc_new w (.cells #[.int .u8 p.y, .int .i64 p.n] 36); exact ((below1 _ _).block w.heap.size (by simp)).trans this
  have ho2 : w0.heap[w.heap.size + 1]? = some (.cells #[.int .u8 0, .bool false, .slice none 0 0, .slice none 0 0] 45 (0, 0)) := by
    rw [← hw0]; have := heap_alloc_new (w.alloc (.cells #[.int .u8 p.y, .int .i64 p.n] 36)) (.cells #[.int .u8 0, .bool false, .slice none 0 0, .slice none 0 0] 45); simpa using this
  rw [hw0] at hb0
  have hz0 : w.heap.size + 2 ≤ w0.heap.size := by have := (Array.getElem?_eq_some_iff.1 ho2).1; omega
  have n0 : w0.cell? ⟨w.heap.size, 0, none⟩ = some (.int .u8 p.y) := by simp [World.cell?, ho1]
  have n1 : w0.cell? ⟨w.heap.size, 1, none⟩ = some (.int .i64 p.n) := by simp [World.cell?, ho1]
  have HB0 := Lib.hid hb0
  have HO1 := Lib.hid ho1
  have HO2 := Lib.hid ho2
  have HZ := Lib.hid hz0
  have K26 := Lib.hid (hk26 w0 hb0)
  cases hth : there t.sem p with
  | false =>
    rw [hth] at K26
    have HTH := Lib.hid hth
    obtain ⟨ao, ls, cap⟩ := t
    obtain ⟨y, n⟩ := p
    simp only [Sl.v, Nm.v] at K26 n0 n1 hw0 ⊢
    clear hk26 hb0 ho1 ho2 ht hth hz0
    go_enter Try.func15, Try.ntmps15
    go_wp2_with (go_at_call 26; refine K26.out.mono ?_; rintro e w1 ⟨rfl, hb1⟩; have HQ2 := Lib.hid ((hb1.block (w.heap.size + 1) (by have := HZ.out; omega)).trans HO2.out); have z0 : w1.cell? ⟨w.heap.size + 1, 0, none⟩ = some (.int .u8 0) := (by simp [World.cell?, HQ2.out]); have z1 : w1.cell? ⟨w.heap.size + 1, 1, none⟩ = some (.bool false) := (by simp [World.cell?, HQ2.out]); have z2 : w1.cell? ⟨w.heap.size + 1, 2, none⟩ = some (.slice none 0 0) := (by simp [World.cell?, HQ2.out]); have z3 : w1.cell? ⟨w.heap.size + 1, 3, none⟩ = some (.slice none 0 0) := (by simp [World.cell?, HQ2.out]); have zf : ∀ o, w1.frozen? ⟨w.heap.size + 1, o, none⟩ = false := (fun o => by simp [World.frozen?, HQ2.out]); have g0 := zf 0; have g1 := zf 1; have g2 := zf 2; have g3 := zf 3; clear zf)
    have hp2 := put4 (.int .u8 0) (.bool false) (.slice none 0 0) (.slice none 0 0) HQ2.out
    refine bodyPost_ret (results_lp2 rfl _ _ _ _ _ _ _ rfl hp2) rfl ?_
    exact .inl ⟨by first | rfl | trivial, rfl, put4_below _ _ _ _ (HB0.out.trans (hb1.mono HB0.out.size)) (Nat.le_add_right _ 1)⟩
  | true =>
    rw [hth] at K26
    obtain ⟨k, i, r, x, rfl, hr, hx, hq⟩ := there_get hth
    rw [hq]
    have hk28 := fun (W : World) (hb : Below w.heap.size w W) => at_any t k i r x w.heap.size W hb.size ((ht.mono hN).below hb) hr hx
    have hxo : x.ok N w := (ht.el r (List.mem_of_getElem? hr)).el x (List.mem_of_getElem? hx)
    have hk27 := fun (W : World) (hb : Below w.heap.size w W) => own_any x w.heap.size W hb.size ((hxo.mono hN).below hb)
    obtain ⟨q, hq2⟩ : ∃ q, x.q = q := ⟨_, rfl⟩
    rw [hq2] at hk27 ⊢
    obtain ⟨ao, ls, cap⟩ := t
    obtain ⟨bed, nw, ⟨ta, tl, tc⟩, ⟨pa, pl, pc⟩⟩ := x
    simp only [Sl.v, Nm.v, Lp.v] at K26 hk28 hk27 n0 n1 hw0 ⊢
    have K28 := Lib.hid hk28
    have K27 := Lib.hid hk27
    clear hk26 hk28 hk27 hb0 ho1 ho2 ht hth hz0 hr hx hq hq2 hxo hp
    go_enter Try.func15, Try.ntmps15
    go_wp2_with (first
      | (go_at_call 26; refine K26.out.mono ?_; rintro e w1 ⟨rfl, hb1⟩; have HB1 := Lib.hid (HB0.out.trans (hb1.mono HB0.out.size)); have HQ1 := Lib.hid ((hb1.block w.heap.size (by have := HZ.out; omega)).trans HO1.out); have HQ2 := Lib.hid ((hb1.block (w.heap.size + 1) (by have := HZ.out; omega)).trans HO2.out); have HZ1 := Lib.hid (Nat.le_trans HZ.out hb1.size); clear n0 n1; have n0 : w1.cell? ⟨w.heap.size, 0, none⟩ = some (.int .u8 ((k : Int) + 1)) := (by simp [World.cell?, HQ1.out]); have n1 : w1.cell? ⟨w.heap.size, 1, none⟩ = some (.int .i64 i) := (by simp [World.cell?, HQ1.out]); clear hb1)
      | (go_at_call 28; refine (K28.out w1 HB1.out).mono ?_; rintro e w2 ⟨rfl, hb2⟩; have HB2 := Lib.hid (HB1.out.trans (hb2.mono HB1.out.size)); have HQ3 := Lib.hid ((hb2.block (w.heap.size + 1) (by have := HZ1.out; omega)).trans HQ2.out); have HZ2 := Lib.hid (Nat.le_trans HZ1.out hb2.size); clear hb2)
      | (go_at_call 27; refine (K27.out w2 HB2.out).mono ?_; rintro e w3 ⟨v3, rfl, ho3, hb3⟩; obtain ⟨x3, rfl, hx3⟩ := ho3; obtain ⟨bed3, nw3, ⟨ta3, tl3, tc3⟩, ⟨pa3, pl3, pc3⟩⟩ := x3; have HOW := Lib.hid (show OwnLp q w2.heap.size _ w3 from ⟨_, rfl, hx3⟩); clear hx3; simp only [Lp.v, Sl.v] at HOW ⊢; have HB3 := Lib.hid (HB2.out.trans (hb3.mono HB2.out.size)); have HQ4 := Lib.hid ((hb3.block (w.heap.size + 1) (by have := HZ2.out; omega)).trans HQ3.out); have z0 : w3.cell? ⟨w.heap.size + 1, 0, none⟩ = some (.int .u8 0) := (by simp [World.cell?, HQ4.out]); have z1 : w3.cell? ⟨w.heap.size + 1, 1, none⟩ = some (.bool false) := (by simp [World.cell?, HQ4.out]); have z2 : w3.cell? ⟨w.heap.size + 1, 2, none⟩ = some (.slice none 0 0) := (by simp [World.cell?, HQ4.out]); have z3 : w3.cell? ⟨w.heap.size + 1, 3, none⟩ = some (.slice none 0 0) := (by simp [World.cell?, HQ4.out]); have zf : ∀ o, w3.frozen? ⟨w.heap.size + 1, o, none⟩ = false := (fun o => by simp [World.frozen?, HQ4.out]); have g0 := zf 0; have g1 := zf 1; have g2 := zf 2; have g3 := zf 3; clear zf hb3))
    have hp2 := put4 (.int .u8 bed3) (.bool nw3) (.slice ta3 tl3.length tc3) (.slice pa3 pl3.length pc3) HQ4.out
    refine bodyPost_ret (results_lp2 rfl _ _ _ _ _ _ _ rfl hp2) rfl ?_
    exact .inr ⟨by first | rfl | trivial, _, rfl, (HOW.out.put (by have := HZ2.out; omega) _ _ _ _).mono (by have := HZ2.out; omega), put4_below _ _ _ _ HB3.out (Nat.le_add_right _ 1)⟩
end Go.Proofs.Ytgaofkbmnapogaa
namespace Go.Proofs.Ytgaofkbmnapogaa
open Go.RowKit Go.Sort
/-- How many loops of each yarn are made. -/
def mv (m : Nat → Int) : Value := .agg #[.int .i64 (m 0), .int .i64 (m 1), .int .i64 (m 2), .int .i64 (m 3), .int .i64 (m 4), .int .i64 (m 5)]
def hasM (m : Nat → Int) (p : Nm) : Bool := decide (p.n < m (p.y - 1).toNat)
def okY (p : Nm) : Prop := 1 ≤ p.y ∧ p.y ≤ 6
theorem m_cell {w : World} {B : Nat} {m : Nat → Int} {T : TypeId} (h : w.heap[B]? = some (.cells #[.int .i64 (m 0), .int .i64 (m 1), .int .i64 (m 2), .int .i64 (m 3), .int .i64 (m 4), .int .i64 (m 5)] T (0, 0))) {k : Nat} (hk : k < 6) : w.cell? ⟨B, k, none⟩ = some (.int .i64 (m k)) := by
  obtain rfl | rfl | rfl | rfl | rfl | rfl : k = 0 ∨ k = 1 ∨ k = 2 ∨ k = 3 ∨ k = 4 ∨ k = 5 := by omega
  all_goals simp [World.cell?, h]
set_option maxRecDepth 100000 in
theorem has_any (m : Nat → Int) (p : Nm) (w : World) (hp : okY p) :
    Calls Try.prog 46 #[mv m, p.v] w fun e w' => e = .returned (.bool (hasM m p)) ∧ Below w.heap.size w w' := by
  obtain ⟨y, n⟩ := p
  obtain ⟨h1, h2⟩ := hp
  simp only at h1 h2
  obtain ⟨k, rfl⟩ : ∃ k : Nat, y = (k : Int) + 1 := ⟨(y - 1).toNat, by omega⟩
  have hk6 : k < 6 := by omega
  have hh : hasM m ⟨(k : Int) + 1, n⟩ = decide (n < m k) := by unfold hasM; simp
  rw [hh]
  simp only [mv, Nm.v]
  have hb0 := below2 w (.cells #[.int .i64 (m 0), .int .i64 (m 1), .int .i64 (m 2), .int .i64 (m 3), .int .i64 (m 4), .int .i64 (m 5)] 79) (.cells #[.int .u8 ((k : Int) + 1), .int .i64 n] 36)
  obtain ⟨w0, hw0⟩ : ∃ w0, (w.alloc (.cells #[.int .i64 (m 0), .int .i64 (m 1), .int .i64 (m 2), .int .i64 (m 3), .int .i64 (m 4), .int .i64 (m 5)] 79)).alloc (.cells #[.int .u8 ((k : Int) + 1), .int .i64 n] 36) = w0 := ⟨_, rfl⟩
  have ho1 : w0.heap[w.heap.size]? = some (.cells #[.int .i64 (m 0), .int .i64 (m 1), .int .i64 (m 2), .int .i64 (m 3), .int .i64 (m 4), .int .i64 (m 5)] 79 (0, 0)) := by
    rw [← hw0]; have := heap_alloc_new w (.cells #[.int .i64 (m 0), .int .i64 (m 1), .int .i64 (m 2), .int .i64 (m 3), .int .i64 (m 4), .int .i64 (m 5)] 79); exact ((below1 _ _).block w.heap.size (by simp)).trans this
  have ho2 : w0.heap[w.heap.size + 1]? = some (.cells #[.int .u8 ((k : Int) + 1), .int .i64 n] 36 (0, 0)) := by
    rw [← hw0]; have := heap_alloc_new (w.alloc (.cells #[.int .i64 (m 0), .int .i64 (m 1), .int .i64 (m 2), .int .i64 (m 3), .int .i64 (m 4), .int .i64 (m 5)] 79)) (.cells #[.int .u8 ((k : Int) + 1), .int .i64 n] 36); simpa using this
  rw [hw0] at hb0
  have n0 : w0.cell? ⟨w.heap.size + 1, 0, none⟩ = some (.int .u8 ((k : Int) + 1)) := by simp [World.cell?, ho2]
  have n1 : w0.cell? ⟨w.heap.size + 1, 1, none⟩ = some (.int .i64 n) := by simp [World.cell?, ho2]
  have mk := m_cell ho1 hk6
  have hkz : (k : Int) < 6 := by omega
  have hk1 : (k : Int) + 1 - 1 = (k : Int) := by omega
  clear ho1 ho2 hh
  go_enter Try.func46, Try.ntmps46
  go_upto_region 1 with fail
  go_quiet (fail)
  go_wp2_with fail
  go_ret
  exact ⟨rfl, below_drewN hb0 _⟩
/-- Whether a loop can be made. -/
def allowsM (m : Nat → Int) (q : Lq) : Bool := q.th.all (hasM m) && q.pa.all fun p => hasM m p.id
theorem all_snoc {α : Type} {f : α → Bool} {l : List α} {i : Nat} {x : α} (h : l[i]? = some x) : (l.take (i + 1)).all f = ((l.take i).all f && f x) := by
  obtain ⟨hi, rfl⟩ := List.getElem?_eq_some_iff.1 h
  rw [List.take_succ_eq_append_getElem hi, List.all_append]
  simp
theorem all_false {α : Type} {f : α → Bool} {l : List α} {i : Nat} {x : α} (h : l[i]? = some x) (hx : f x = false) : l.all f = false := by
  cases e : l.all f with
  | false => rfl
  | true => have := List.all_eq_true.1 e x (List.mem_of_getElem? h); rw [hx] at this; cases this
set_option maxRecDepth 100000 in
set_option maxHeartbeats 4000000 in
theorem allows_any (m : Nat → Int) (x : Lp) (N : Nat) (w : World) (hN : N ≤ w.heap.size) (hx : x.ok N w) (hy : (∀ p ∈ x.th.l, okY p) ∧ ∀ p ∈ x.pa.l, okY p.id) :
    Calls Try.prog 37 #[mv m, x.v] w fun e w' => e = .returned (.bool (allowsM m x.q)) ∧ Below w.heap.size w w' := by
  have hk46 := fun (p : Nm) (W : World) (hp : okY p) => has_any m p W hp
  obtain ⟨c, hc⟩ : ∃ c, allowsM m x.q = c := ⟨_, rfl⟩
  rw [hc]
  have HC := Lib.hid hc
  have HX := Lib.hid (hx.mono hN)
  have HY := Lib.hid hy
  obtain ⟨bed, nw, ⟨ta, tl, tc⟩, ⟨pa, pl, pc⟩⟩ := x
  simp only [Sl.v, Lp.v, mv, Nm.v] at hk46 ⊢
  have K46 := Lib.hid hk46
  have htl : tl.length ≤ 100 := HX.out.lt
  have hpl : pl.length ≤ 100 := HX.out.lp
  clear hk46 hx hy hc
  have hb0 := below2 w (.cells #[.int .i64 (m 0), .int .i64 (m 1), .int .i64 (m 2), .int .i64 (m 3), .int .i64 (m 4), .int .i64 (m 5)] 79) (.cells #[.int .u8 bed, .bool nw, .slice ta tl.length tc, .slice pa pl.length pc] 45)
  obtain ⟨w0, hw0⟩ : ∃ w0, (w.alloc (.cells #[.int .i64 (m 0), .int .i64 (m 1), .int .i64 (m 2), .int .i64 (m 3), .int .i64 (m 4), .int .i64 (m 5)] 79)).alloc (.cells #[.int .u8 bed, .bool nw, .slice ta tl.length tc, .slice pa pl.length pc] 45) = w0 := ⟨_, rfl⟩
  have ho1 : w0.heap[w.heap.size]? = some (.cells #[.int .i64 (m 0), .int .i64 (m 1), .int .i64 (m 2), .int .i64 (m 3), .int .i64 (m 4), .int .i64 (m 5)] 79 (0, 0)) := by
    rw [← hw0]; have := heap_alloc_new w (.cells #[.int .i64 (m 0), .int .i64 (m 1), .int .i64 (m 2), .int .i64 (m 3), .int .i64 (m 4), .int .i64 (m 5)] 79); exact ((below1 _ _).block w.heap.size (by simp)).trans this
  have ho2 : w0.heap[w.heap.size + 1]? = some (.cells #[.int .u8 bed, .bool nw, .slice ta tl.length tc, .slice pa pl.length pc] 45 (0, 0)) := by
    rw [← hw0]; have := heap_alloc_new (w.alloc (.cells #[.int .i64 (m 0), .int .i64 (m 1), .int .i64 (m 2), .int .i64 (m 3), .int .i64 (m 4), .int .i64 (m 5)] 79)) (.cells #[.int .u8 bed, .bool nw, .slice ta tl.length tc, .slice pa pl.length pc] 45); simpa using this
  rw [hw0] at hb0
  have hz0 : w.heap.size + 2 ≤ w0.heap.size := by have := (Array.getElem?_eq_some_iff.1 ho2).1; omega
  have HZ := Lib.hid hz0
  have HB0 := Lib.hid hb0
  have HO1 := Lib.hid ho1
  have HM := Lib.hid (fun (W : World) (hb : Below w0.heap.size w0 W) => (hb.block w.heap.size (by omega)).trans ho1)
  have HL := Lib.hid (fun (W : World) (hb : Below w0.heap.size w0 W) => (hb.block (w.heap.size + 1) (by omega)).trans ho2)
  have x2 : w0.cell? ⟨w.heap.size + 1, 2, none⟩ = some (.slice ta tl.length tc) := by simp [World.cell?, ho2]
  clear ho1 ho2 hb0 hz0
  go_enter Try.func37, Try.ntmps37
  go_wp2_with fail
  clear x2
  (try rw [hw0])
  clear hw0
  go_loopg [12] (tl.length + 1) (fun g s12 wr => ∃ i : Nat, s12 = .int .i64 i ∧ i ≤ tl.length ∧ g = tl.length + 1 - i ∧ Hid ((tl.take i).all (hasM m) = true) ∧ RowKit.Below w0.heap.size w0 wr)
  case atStart => exact ⟨0, rfl, by omega, by omega, Lib.hid rfl, Below.refl _ _⟩
  case round =>
    obtain ⟨i, rfl, hi, hg, HAL, hbr⟩ := hrel
    have HG := Lib.hid hg
    clear hg
    by_cases hlt : i < tl.length
    · have hiz : (i : Int) < (tl.length : Int) := by omega
      obtain ⟨p, hp⟩ : ∃ p, tl[i]? = some p := ⟨tl[i], List.getElem?_eq_getElem hlt⟩
      obtain ⟨b, o, hta, hbl, c0, c1⟩ := ((HX.out.th.below HB0.out).below (hbr.mono HB0.out.size)).nm hp
      obtain rfl : ta = some ⟨b, o, none⟩ := hta
      have hpy := HY.out.1 p (List.mem_of_getElem? hp)
      obtain ⟨d, hd⟩ : ∃ d, hasM m p = d := ⟨_, rfl⟩
      have hk := fun (W : World) => K46.out p W hpy
      rw [hd] at hk
      have HD := Lib.hid hd
      have HP := Lib.hid hp
      obtain ⟨y, n⟩ := p
      simp only at c0 c1 hk
      have HK := Lib.hid hk
      have hq1 := HM.out wr hbr
      have hsz := hbr.size
      have m0 : (wr.alloc (.cells #[.int .u8 y, .int .i64 n] 36)).heap[w.heap.size]? = some (.cells #[.int .i64 (m 0), .int .i64 (m 1), .int .i64 (m 2), .int .i64 (m 3), .int .i64 (m 4), .int .i64 (m 5)] 79 (0, 0)) := ((below1 wr _).block w.heap.size (by have := HZ.out; omega)).trans hq1
      have hbn := below1 wr (.cells #[.int .u8 y, .int .i64 n] 36)
      obtain ⟨wn, hwn⟩ : ∃ wn, wr.alloc (.cells #[.int .u8 y, .int .i64 n] 36) = wn := ⟨_, rfl⟩
      have p0 : wn.cell? ⟨wr.heap.size, 0, none⟩ = some (.int .u8 y) := by rw [← hwn]; simp
      have p1 : wn.cell? ⟨wr.heap.size, 1, none⟩ = some (.int .i64 n) := by rw [← hwn]; simp
      rw [hwn] at m0 hbn
      have q0 := m_cell m0 (k := 0) (by decide)
      have q1 := m_cell m0 (k := 1) (by decide)
      have q2 := m_cell m0 (k := 2) (by decide)
      have q3 := m_cell m0 (k := 3) (by decide)
      have q4 := m_cell m0 (k := 4) (by decide)
      have q5 := m_cell m0 (k := 5) (by decide)
      clear hd hp hk hpy hq1 m0 
      cases d with
      | true =>
        go_wp2_with (go_at_call 46; refine (HK.out _).mono ?_; rintro e w2 ⟨rfl, hb2⟩)
        go_roundg (tl.length + 1 - (i + 1))
        case measure => have := HG.out; omega
        case rel => exact ⟨i + 1, by go_num, by omega, by omega, Lib.hid (by rw [all_snoc HP.out, HAL.out, HD.out]; rfl), (hbr.trans (hbn.mono hsz)).trans (hb2.mono (Nat.le_trans hsz hbn.size))⟩
      | false =>
        have hcf : c = false := by rw [← HC.out]; unfold allowsM; simp only [Lp.q]; rw [all_false HP.out HD.out]; rfl
        subst hcf
        go_wp2_with (go_at_call 46; refine (HK.out _).mono ?_; rintro e w2 ⟨rfl, hb2⟩)
        go_ret
        exact ⟨rfl, HB0.out.trans (((hbr.trans (hbn.mono hsz)).trans (hb2.mono (Nat.le_trans hsz hbn.size))).mono HB0.out.size)⟩
    · obtain rfl : i = tl.length := by omega
      rw [List.take_length] at HAL
      have hiz : ¬ ((tl.length : Int) < (tl.length : Int)) := by omega
      have hq2 := HL.out wr hbr
      have x3 : wr.cell? ⟨w.heap.size + 1, 3, none⟩ = some (.slice pa pl.length pc) := by simp [World.cell?, hq2]
      clear hq2
      go_wp2_with fail
      clear x3
      obtain ⟨wo, hwo⟩ : ∃ wo, wr = wo := ⟨_, rfl⟩
      rw [hwo] at hbr
      go_loopg [24] (pl.length + 1) (fun g s24 wx => ∃ j : Nat, s24 = .int .i64 j ∧ j ≤ pl.length ∧ g = pl.length + 1 - j ∧ Hid ((pl.take j).all (fun p => hasM m p.id) = true) ∧ RowKit.Below w0.heap.size w0 wx)
      case atStart => exact ⟨0, rfl, by omega, by omega, Lib.hid rfl, by rw [hwo]; exact hbr⟩
      case round =>
        clear hbr
        obtain ⟨j, rfl, hj, hg, HAP, hbr⟩ := hrel
        have HG2 := Lib.hid hg
        clear hg
        by_cases hlt2 : j < pl.length
        · have hjz : (j : Int) < (pl.length : Int) := by omega
          obtain ⟨p, hp⟩ : ∃ p, pl[j]? = some p := ⟨pl[j], List.getElem?_eq_getElem hlt2⟩
          obtain ⟨b, o, hpa, hbl, c0, c1, c2, c3⟩ := ((HX.out.pa.below HB0.out).below (hbr.mono HB0.out.size)).pa hp
          obtain rfl : pa = some ⟨b, o, none⟩ := hpa
          have hpy := HY.out.2 p (List.mem_of_getElem? hp)
          obtain ⟨d, hd⟩ : ∃ d, hasM m p.id = d := ⟨_, rfl⟩
          have hk := fun (W : World) => K46.out p.id W hpy
          rw [hd] at hk
          have HD := Lib.hid hd
          have HP := Lib.hid hp
          obtain ⟨⟨y, n⟩, f, dr⟩ := p
          simp only at c0 c1 c2 c3 hk
          have HK := Lib.hid hk
          have hq1 := HM.out _ hbr
          have hsz := hbr.size
          have hbn := below1 wr (.cells #[.int .u8 y, .int .i64 n, .bool f, .int .u8 dr] 56)
          have m0 := (hbn.block w.heap.size (by have := HZ.out; omega)).trans hq1
          obtain ⟨wn, hwn⟩ : ∃ wn, wr.alloc (.cells #[.int .u8 y, .int .i64 n, .bool f, .int .u8 dr] 56) = wn := ⟨_, rfl⟩
          have p0 : wn.cell? ⟨wr.heap.size, 0, none⟩ = some (.int .u8 y) := by rw [← hwn]; simp
          have p1 : wn.cell? ⟨wr.heap.size, 1, none⟩ = some (.int .i64 n) := by rw [← hwn]; simp
          rw [hwn] at m0 hbn
          have q0 := m_cell m0 (k := 0) (by decide)
          have q1 := m_cell m0 (k := 1) (by decide)
          have q2 := m_cell m0 (k := 2) (by decide)
          have q3 := m_cell m0 (k := 3) (by decide)
          have q4 := m_cell m0 (k := 4) (by decide)
          have q5 := m_cell m0 (k := 5) (by decide)
          clear hd hp hk hpy hq1 m0 
          cases d with
          | true =>
            go_wp2_with (go_at_call 46; refine (HK.out _).mono ?_; rintro e w2 ⟨rfl, hb2⟩)
            go_roundg (pl.length + 1 - (j + 1))
            case measure => have := HG2.out; omega
            case rel => exact ⟨j + 1, by go_num, by omega, by omega, Lib.hid (by rw [all_snoc HP.out, HAP.out, HD.out]; rfl), (hbr.trans (hbn.mono hsz)).trans (hb2.mono (Nat.le_trans hsz hbn.size))⟩
          | false =>
            have hcf : c = false := by rw [← HC.out]; unfold allowsM; simp only [Lp.q]; rw [HAL.out, all_false (f := fun p : Pa => hasM m p.id) HP.out HD.out]; rfl
            subst hcf
            go_wp2_with (go_at_call 46; refine (HK.out _).mono ?_; rintro e w2 ⟨rfl, hb2⟩)
            go_ret
            exact ⟨rfl, HB0.out.trans (((hbr.trans (hbn.mono hsz)).trans (hb2.mono (Nat.le_trans hsz hbn.size))).mono HB0.out.size)⟩
        · obtain rfl : j = pl.length := by omega
          rw [List.take_length] at HAP
          have hjz : ¬ ((pl.length : Int) < (pl.length : Int)) := by omega
          have hct : c = true := by rw [← HC.out]; unfold allowsM; simp only [Lp.q]; rw [HAL.out, HAP.out]; rfl
          subst hct
          go_wp2_with fail
          go_ret
          exact ⟨rfl, HB0.out.trans (hbr.mono HB0.out.size)⟩
end Go.Proofs.Ytgaofkbmnapogaa
