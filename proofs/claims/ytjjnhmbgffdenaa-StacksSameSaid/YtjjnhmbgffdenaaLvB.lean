import Derived.Test.YtjjnhmbgffdenaaLvS
namespace Go.Proofs.Ytjjnhmbgffdenaa
open Go.RowKit Go.Sort
def T1 : List (List Nm) := (T0.set 1 []).set 41 [⟨2, 0⟩, ⟨1, 0⟩, ⟨1, 1⟩]
def T2 : List (List Nm) := (T0.set 41 []).set 1 [⟨2, 0⟩, ⟨1, 0⟩, ⟨1, 1⟩]
def T3 : List (List Nm) := T0.set 1 [⟨1, 1⟩]
theorem je1 : joinErr T0 0 2 1 2 = 0 ∧ joinT T0 0 2 1 2 = T1 := by decide
theorem je2 : joinErr T0 1 2 0 2 = 0 ∧ joinT T0 1 2 0 2 = T2 := by decide
theorem je3 : joinErr T0 0 1 1 1 = 13 := by decide
theorem je4 : joinErr T0 0 2 0 3 = 1 := by decide
theorem se1 : setErr T0 0 1 [⟨2, 0⟩] = 8 := by decide
theorem se2 : setErr T0 0 2 [⟨1, 1⟩] = 0 ∧ setT T0 0 2 [⟨1, 1⟩] = T3 := by decide
theorem d0_find (N : Nat) : findV (d0 N) ⟨2, 0⟩ = .tuple #[.agg #[.int .u8 1, .int .i64 2], .int .i64 0] :=
  (d0_reads N).find_yes (j := 41) (by omega) (by decide) (by decide)
theorem d0_cnt (N : Nat) : cntM (d0 N).els = 3 := by rw [(d0_reads N).cnt]; decide
theorem d0_at2 (N : Nat) : (d0 N).atM 0 2 = [⟨1, 0⟩, ⟨1, 1⟩] := rfl
theorem d0_at1 (N : Nat) : (d0 N).atM 0 1 = [] := rfl
def psiLv11 (N : Nat) (P10 : Nat) (P11 : Nat) (fa : Option Addr) (fs : List Cel) (fc : Nat) (ga : Option Addr) (gs : List Cel) (gc : Nat) (ja : Option Addr) (js : List Cel) (jc : Nat) (ka : Option Addr) (ks : List Cel) (kc : Nat) : Nat → Value → World → Prop
  | 0, v9, _ => v9 = .int .i64 0
  | 1, v9, _ => v9 = .bool false
  | 2, v9, _ => v9 = .bool false
  | 3, v9, _ => v9 = .int .i64 0
  | 4, v9, _ => v9 = .bool false
  | 5, v9, _ => v9 = .bool false
  | 6, v9, _ => v9 = .bool false
  | 7, v9, _ => v9 = .int .i64 13
  | 8, v9, _ => v9 = .bool false
  | 9, v9, _ => v9 = .bool false
  | 10, v9, _ => v9 = .bool false
  | 11, v9, _ => v9 = .int .i64 1
  | 12, v9, _ => v9 = .bool false
  | 13, v9, _ => v9 = .bool false
  | 14, v9, _ => v9 = .bool false
  | 15, v9, _ => v9 = .agg #[.slice fa fs.length fc, .slice ga gs.length gc]
  | 16, v9, _ => v9 = .agg #[.int .u8 1, .int .i64 2]
  | 17, v9, w9 => ∃ c2 : Cel, v9 = c2.v ∧ c2.l = [⟨2, 0⟩, ⟨1, 0⟩, ⟨1, 1⟩] ∧ c2.cap = c2.l.length ∧ c2.ok w9.heap.size w9
  | 18, v9, _ => v9 = .agg #[.int .u8 2, .int .i64 0]
  | 19, v9, _ => v9 = .agg #[.int .u8 1, .int .i64 0]
  | 20, v9, _ => v9 = .agg #[.int .u8 1, .int .i64 1]
  | 21, v9, w9 => ∃ g, v9 = .slice (some ⟨g, 0, none⟩) 3 3 ∧ Cel.ok w9.heap.size w9 ⟨some ⟨g, 0, none⟩, [⟨2, 0⟩, ⟨1, 0⟩, ⟨1, 1⟩], 3⟩
  | 22, v9, _ => v9 = .int .i64 1
  | 23, v9, _ => v9 = .bool false
  | 24, v9, _ => v9 = .bool false
  | 25, v9, _ => v9 = .bool false
  | 26, v9, _ => v9 = .pointer (some ⟨P10, 0, none⟩)
  | 27, v9, _ => v9 = .slice fa fs.length fc
  | 28, v9, _ => v9 = .int .i64 fs.length
  | 29, v9, _ => v9 = .bool false
  | 30, v9, _ => v9 = .bool false
  | 31, v9, _ => v9 = .bool false
  | 32, v9, _ => v9 = .agg #[.slice ja js.length jc, .slice ka ks.length kc]
  | 33, v9, _ => v9 = .agg #[.int .u8 0, .int .i64 2]
  | 34, v9, w9 => ∃ c2 : Cel, v9 = c2.v ∧ c2.l = [⟨2, 0⟩, ⟨1, 0⟩, ⟨1, 1⟩] ∧ c2.cap = c2.l.length ∧ c2.ok w9.heap.size w9
  | 35, v9, _ => v9 = .agg #[.int .u8 2, .int .i64 0]
  | 36, v9, _ => v9 = .agg #[.int .u8 1, .int .i64 0]
  | 37, v9, _ => v9 = .agg #[.int .u8 1, .int .i64 1]
  | 38, v9, w9 => ∃ g, v9 = .slice (some ⟨g, 0, none⟩) 3 3 ∧ Cel.ok w9.heap.size w9 ⟨some ⟨g, 0, none⟩, [⟨2, 0⟩, ⟨1, 0⟩, ⟨1, 1⟩], 3⟩
  | _, _, _ => True
theorem psiLv11_stab (N : Nat) (P10 : Nat) (P11 : Nat) (fa : Option Addr) (fs : List Cel) (fc : Nat) (ga : Option Addr) (gs : List Cel) (gc : Nat) (ja : Option Addr) (js : List Cel) (jc : Nat) (ka : Option Addr) (ks : List Cel) (kc : Nat) (i9 : Nat) (v9 : Value) (w9 w9' : World) (h : psiLv11 N P10 P11 fa fs fc ga gs gc ja js jc ka ks kc i9 v9 w9) (_hb : Below w9.heap.size w9 w9') : psiLv11 N P10 P11 fa fs fc ga gs gc ja js jc ka ks kc i9 v9 w9' := by
  match i9, h with
  | 0, h => exact h
  | 1, h => exact h
  | 2, h => exact h
  | 3, h => exact h
  | 4, h => exact h
  | 5, h => exact h
  | 6, h => exact h
  | 7, h => exact h
  | 8, h => exact h
  | 9, h => exact h
  | 10, h => exact h
  | 11, h => exact h
  | 12, h => exact h
  | 13, h => exact h
  | 14, h => exact h
  | 15, h => exact h
  | 16, h => exact h
  | 17, h => exact (by obtain ⟨c2, h1, h2, h3, h4⟩ := h; exact ⟨c2, h1, h2, h3, (h4.below _hb).mono _hb.size⟩)
  | 18, h => exact h
  | 19, h => exact h
  | 20, h => exact h
  | 21, h => exact (by obtain ⟨g, h1, h2⟩ := h; exact ⟨g, h1, (h2.below _hb).mono _hb.size⟩)
  | 22, h => exact h
  | 23, h => exact h
  | 24, h => exact h
  | 25, h => exact h
  | 26, h => exact h
  | 27, h => exact h
  | 28, h => exact h
  | 29, h => exact h
  | 30, h => exact h
  | 31, h => exact h
  | 32, h => exact h
  | 33, h => exact h
  | 34, h => exact (by obtain ⟨c2, h1, h2, h3, h4⟩ := h; exact ⟨c2, h1, h2, h3, (h4.below _hb).mono _hb.size⟩)
  | 35, h => exact h
  | 36, h => exact h
  | 37, h => exact h
  | 38, h => exact (by obtain ⟨g, h1, h2⟩ := h; exact ⟨g, h1, (h2.below _hb).mono _hb.size⟩)
  | i9 + 39, _ => exact trivial
def psiLv15 (N : Nat) (P10 : Nat) (la : Option Addr) (ls : List Cel) (lc : Nat) (ma : Option Addr) (ms : List Cel) (mc : Nat) : Nat → Value → World → Prop
  | 0, v9, _ => v9 = .int .i64 8
  | 1, v9, _ => v9 = .bool true
  | 2, v9, _ => v9 = .bool true
  | 3, v9, _ => v9 = .int .i64 0
  | 4, v9, _ => v9 = .bool true
  | 5, v9, _ => v9 = .bool true
  | 6, v9, _ => v9 = .bool true
  | 7, v9, _ => v9 = .agg #[.slice la ls.length lc, .slice ma ms.length mc]
  | 8, v9, _ => v9 = .agg #[.int .u8 0, .int .i64 2]
  | 9, v9, w9 => ∃ c2 : Cel, v9 = c2.v ∧ c2.l = [⟨1, 1⟩] ∧ c2.cap = c2.l.length ∧ c2.ok w9.heap.size w9
  | 10, v9, _ => v9 = .agg #[.int .u8 1, .int .i64 1]
  | 11, v9, w9 => ∃ g, v9 = .slice (some ⟨g, 0, none⟩) 1 1 ∧ Cel.ok w9.heap.size w9 ⟨some ⟨g, 0, none⟩, [⟨1, 1⟩], 1⟩
  | _, _, _ => True
theorem psiLv15_stab (N : Nat) (P10 : Nat) (la : Option Addr) (ls : List Cel) (lc : Nat) (ma : Option Addr) (ms : List Cel) (mc : Nat) (i9 : Nat) (v9 : Value) (w9 w9' : World) (h : psiLv15 N P10 la ls lc ma ms mc i9 v9 w9) (_hb : Below w9.heap.size w9 w9') : psiLv15 N P10 la ls lc ma ms mc i9 v9 w9' := by
  match i9, h with
  | 0, h => exact h
  | 1, h => exact h
  | 2, h => exact h
  | 3, h => exact h
  | 4, h => exact h
  | 5, h => exact h
  | 6, h => exact h
  | 7, h => exact h
  | 8, h => exact h
  | 9, h => exact (by obtain ⟨c2, h1, h2, h3, h4⟩ := h; exact ⟨c2, h1, h2, h3, (h4.below _hb).mono _hb.size⟩)
  | 10, h => exact h
  | 11, h => exact (by obtain ⟨g, h1, h2⟩ := h; exact ⟨g, h1, (h2.below _hb).mono _hb.size⟩)
  | i9 + 12, _ => exact trivial
theorem box_ne {W : World} {B B' : Nat} {t t' : TypeId} {u v u' v' : Value} (h : Boxed2 W B t u v) (h' : Boxed2 W B' t' u' v') (ht : t ≠ t') : B ≠ B' := by
  rintro rfl
  have e := (show W.heap[B]? = _ from h).symm.trans (show W.heap[B]? = _ from h')
  simp only [Option.some.injEq, Obj.cells.injEq] at e
  exact ht e.2.1
set_option maxRecDepth 100000 in
set_option maxHeartbeats 16000000 in
theorem lives_any (w : World) : Calls Try.prog 16 #[] w fun e w' => e = .returned (.bool true) ∧ Below w.heap.size w w' := by
  go_enter Try.func16, Try.ntmps16
  iterate 110 go_step
  obtain ⟨W0, hW0⟩ : ∃ W0, (((((((((((w.alloc (.cells #[.int .u8 1, .int .i64 0] 28)).alloc (.cells #[.int .u8 1, .int .i64 1] 28)).alloc (.cells #[.int .u8 2, .int .i64 0] 28)).alloc (.cells #[.int .u8 1, .int .i64 0, .int .u8 1, .int .i64 1] 28)).alloc (.cells #[.slice none 0 0, .slice (some ⟨w.heap.size + 1 + 1 + 1, 0, none⟩) 2 2] 29)).alloc (.cells #[.int .u8 2, .int .i64 0] 28)).alloc (.cells #[.slice none 0 0, .slice (some ⟨w.heap.size + 1 + 1 + 1 + 1 + 1, 0, none⟩) 1 1] 29)).alloc (.cells #[.slice (some ⟨w.heap.size + 1 + 1 + 1 + 1, 0, none⟩) 2 2, .slice (some ⟨w.heap.size + 1 + 1 + 1 + 1 + 1 + 1, 0, none⟩) 2 2] 35)).alloc (.cells #[.int .u8 0, .int .i64 1] 26)).alloc (.cells #[.int .u8 0, .int .i64 2] 26)).alloc (.cells #[.int .u8 1, .int .i64 2] 26)) = W0 := ⟨_, rfl⟩
  have hB0 : Below w.heap.size w W0 := by
    rw [← hW0]; exact ((((((((((((Below.refl _ w).alloc (by simp; try omega) _).alloc (by simp; try omega) _).alloc (by simp; try omega) _).alloc (by simp; try omega) _).alloc (by simp; try omega) _).alloc (by simp; try omega) _).alloc (by simp; try omega) _).alloc (by simp; try omega) _).alloc (by simp; try omega) _).alloc (by simp; try omega) _).alloc (by simp; try omega) _)
  have h0 : W0.heap[w.heap.size]? = some (.cells #[.int .u8 1, .int .i64 0] 28 (0, 0)) := by
    rw [← hW0]; have := alloc_keep (alloc_keep (alloc_keep (alloc_keep (alloc_keep (alloc_keep (alloc_keep (alloc_keep (alloc_keep (alloc_keep (heap_alloc_new w (.cells #[.int .u8 1, .int .i64 0] 28)) (.cells #[.int .u8 1, .int .i64 1] 28)) (.cells #[.int .u8 2, .int .i64 0] 28)) (.cells #[.int .u8 1, .int .i64 0, .int .u8 1, .int .i64 1] 28)) (.cells #[.slice none 0 0, .slice (some ⟨w.heap.size + 1 + 1 + 1, 0, none⟩) 2 2] 29)) (.cells #[.int .u8 2, .int .i64 0] 28)) (.cells #[.slice none 0 0, .slice (some ⟨w.heap.size + 1 + 1 + 1 + 1 + 1, 0, none⟩) 1 1] 29)) (.cells #[.slice (some ⟨w.heap.size + 1 + 1 + 1 + 1, 0, none⟩) 2 2, .slice (some ⟨w.heap.size + 1 + 1 + 1 + 1 + 1 + 1, 0, none⟩) 2 2] 35)) (.cells #[.int .u8 0, .int .i64 1] 26)) (.cells #[.int .u8 0, .int .i64 2] 26)) (.cells #[.int .u8 1, .int .i64 2] 26)
    first | exact this | (simp only [World.size_alloc] at this; exact this)
  have h1 : W0.heap[w.heap.size + 1]? = some (.cells #[.int .u8 1, .int .i64 1] 28 (0, 0)) := by
    rw [← hW0]; have := alloc_keep (alloc_keep (alloc_keep (alloc_keep (alloc_keep (alloc_keep (alloc_keep (alloc_keep (alloc_keep (heap_alloc_new (w.alloc (.cells #[.int .u8 1, .int .i64 0] 28)) (.cells #[.int .u8 1, .int .i64 1] 28)) (.cells #[.int .u8 2, .int .i64 0] 28)) (.cells #[.int .u8 1, .int .i64 0, .int .u8 1, .int .i64 1] 28)) (.cells #[.slice none 0 0, .slice (some ⟨w.heap.size + 1 + 1 + 1, 0, none⟩) 2 2] 29)) (.cells #[.int .u8 2, .int .i64 0] 28)) (.cells #[.slice none 0 0, .slice (some ⟨w.heap.size + 1 + 1 + 1 + 1 + 1, 0, none⟩) 1 1] 29)) (.cells #[.slice (some ⟨w.heap.size + 1 + 1 + 1 + 1, 0, none⟩) 2 2, .slice (some ⟨w.heap.size + 1 + 1 + 1 + 1 + 1 + 1, 0, none⟩) 2 2] 35)) (.cells #[.int .u8 0, .int .i64 1] 26)) (.cells #[.int .u8 0, .int .i64 2] 26)) (.cells #[.int .u8 1, .int .i64 2] 26)
    first | exact this | (simp only [World.size_alloc] at this; exact this)
  have h2 : W0.heap[w.heap.size + 1 + 1]? = some (.cells #[.int .u8 2, .int .i64 0] 28 (0, 0)) := by
    rw [← hW0]; have := alloc_keep (alloc_keep (alloc_keep (alloc_keep (alloc_keep (alloc_keep (alloc_keep (alloc_keep (heap_alloc_new ((w.alloc (.cells #[.int .u8 1, .int .i64 0] 28)).alloc (.cells #[.int .u8 1, .int .i64 1] 28)) (.cells #[.int .u8 2, .int .i64 0] 28)) (.cells #[.int .u8 1, .int .i64 0, .int .u8 1, .int .i64 1] 28)) (.cells #[.slice none 0 0, .slice (some ⟨w.heap.size + 1 + 1 + 1, 0, none⟩) 2 2] 29)) (.cells #[.int .u8 2, .int .i64 0] 28)) (.cells #[.slice none 0 0, .slice (some ⟨w.heap.size + 1 + 1 + 1 + 1 + 1, 0, none⟩) 1 1] 29)) (.cells #[.slice (some ⟨w.heap.size + 1 + 1 + 1 + 1, 0, none⟩) 2 2, .slice (some ⟨w.heap.size + 1 + 1 + 1 + 1 + 1 + 1, 0, none⟩) 2 2] 35)) (.cells #[.int .u8 0, .int .i64 1] 26)) (.cells #[.int .u8 0, .int .i64 2] 26)) (.cells #[.int .u8 1, .int .i64 2] 26)
    first | exact this | (simp only [World.size_alloc] at this; exact this)
  have h3 : W0.heap[w.heap.size + 1 + 1 + 1]? = some (.cells #[.int .u8 1, .int .i64 0, .int .u8 1, .int .i64 1] 28 (0, 0)) := by
    rw [← hW0]; have := alloc_keep (alloc_keep (alloc_keep (alloc_keep (alloc_keep (alloc_keep (alloc_keep (heap_alloc_new (((w.alloc (.cells #[.int .u8 1, .int .i64 0] 28)).alloc (.cells #[.int .u8 1, .int .i64 1] 28)).alloc (.cells #[.int .u8 2, .int .i64 0] 28)) (.cells #[.int .u8 1, .int .i64 0, .int .u8 1, .int .i64 1] 28)) (.cells #[.slice none 0 0, .slice (some ⟨w.heap.size + 1 + 1 + 1, 0, none⟩) 2 2] 29)) (.cells #[.int .u8 2, .int .i64 0] 28)) (.cells #[.slice none 0 0, .slice (some ⟨w.heap.size + 1 + 1 + 1 + 1 + 1, 0, none⟩) 1 1] 29)) (.cells #[.slice (some ⟨w.heap.size + 1 + 1 + 1 + 1, 0, none⟩) 2 2, .slice (some ⟨w.heap.size + 1 + 1 + 1 + 1 + 1 + 1, 0, none⟩) 2 2] 35)) (.cells #[.int .u8 0, .int .i64 1] 26)) (.cells #[.int .u8 0, .int .i64 2] 26)) (.cells #[.int .u8 1, .int .i64 2] 26)
    first | exact this | (simp only [World.size_alloc] at this; exact this)
  have h4 : W0.heap[w.heap.size + 1 + 1 + 1 + 1]? = some (.cells #[.slice none 0 0, .slice (some ⟨w.heap.size + 1 + 1 + 1, 0, none⟩) 2 2] 29 (0, 0)) := by
    rw [← hW0]; have := alloc_keep (alloc_keep (alloc_keep (alloc_keep (alloc_keep (alloc_keep (heap_alloc_new ((((w.alloc (.cells #[.int .u8 1, .int .i64 0] 28)).alloc (.cells #[.int .u8 1, .int .i64 1] 28)).alloc (.cells #[.int .u8 2, .int .i64 0] 28)).alloc (.cells #[.int .u8 1, .int .i64 0, .int .u8 1, .int .i64 1] 28)) (.cells #[.slice none 0 0, .slice (some ⟨w.heap.size + 1 + 1 + 1, 0, none⟩) 2 2] 29)) (.cells #[.int .u8 2, .int .i64 0] 28)) (.cells #[.slice none 0 0, .slice (some ⟨w.heap.size + 1 + 1 + 1 + 1 + 1, 0, none⟩) 1 1] 29)) (.cells #[.slice (some ⟨w.heap.size + 1 + 1 + 1 + 1, 0, none⟩) 2 2, .slice (some ⟨w.heap.size + 1 + 1 + 1 + 1 + 1 + 1, 0, none⟩) 2 2] 35)) (.cells #[.int .u8 0, .int .i64 1] 26)) (.cells #[.int .u8 0, .int .i64 2] 26)) (.cells #[.int .u8 1, .int .i64 2] 26)
    first | exact this | (simp only [World.size_alloc] at this; exact this)
  have h5 : W0.heap[w.heap.size + 1 + 1 + 1 + 1 + 1]? = some (.cells #[.int .u8 2, .int .i64 0] 28 (0, 0)) := by
    rw [← hW0]; have := alloc_keep (alloc_keep (alloc_keep (alloc_keep (alloc_keep (heap_alloc_new (((((w.alloc (.cells #[.int .u8 1, .int .i64 0] 28)).alloc (.cells #[.int .u8 1, .int .i64 1] 28)).alloc (.cells #[.int .u8 2, .int .i64 0] 28)).alloc (.cells #[.int .u8 1, .int .i64 0, .int .u8 1, .int .i64 1] 28)).alloc (.cells #[.slice none 0 0, .slice (some ⟨w.heap.size + 1 + 1 + 1, 0, none⟩) 2 2] 29)) (.cells #[.int .u8 2, .int .i64 0] 28)) (.cells #[.slice none 0 0, .slice (some ⟨w.heap.size + 1 + 1 + 1 + 1 + 1, 0, none⟩) 1 1] 29)) (.cells #[.slice (some ⟨w.heap.size + 1 + 1 + 1 + 1, 0, none⟩) 2 2, .slice (some ⟨w.heap.size + 1 + 1 + 1 + 1 + 1 + 1, 0, none⟩) 2 2] 35)) (.cells #[.int .u8 0, .int .i64 1] 26)) (.cells #[.int .u8 0, .int .i64 2] 26)) (.cells #[.int .u8 1, .int .i64 2] 26)
    first | exact this | (simp only [World.size_alloc] at this; exact this)
  have h6 : W0.heap[w.heap.size + 1 + 1 + 1 + 1 + 1 + 1]? = some (.cells #[.slice none 0 0, .slice (some ⟨w.heap.size + 1 + 1 + 1 + 1 + 1, 0, none⟩) 1 1] 29 (0, 0)) := by
    rw [← hW0]; have := alloc_keep (alloc_keep (alloc_keep (alloc_keep (heap_alloc_new ((((((w.alloc (.cells #[.int .u8 1, .int .i64 0] 28)).alloc (.cells #[.int .u8 1, .int .i64 1] 28)).alloc (.cells #[.int .u8 2, .int .i64 0] 28)).alloc (.cells #[.int .u8 1, .int .i64 0, .int .u8 1, .int .i64 1] 28)).alloc (.cells #[.slice none 0 0, .slice (some ⟨w.heap.size + 1 + 1 + 1, 0, none⟩) 2 2] 29)).alloc (.cells #[.int .u8 2, .int .i64 0] 28)) (.cells #[.slice none 0 0, .slice (some ⟨w.heap.size + 1 + 1 + 1 + 1 + 1, 0, none⟩) 1 1] 29)) (.cells #[.slice (some ⟨w.heap.size + 1 + 1 + 1 + 1, 0, none⟩) 2 2, .slice (some ⟨w.heap.size + 1 + 1 + 1 + 1 + 1 + 1, 0, none⟩) 2 2] 35)) (.cells #[.int .u8 0, .int .i64 1] 26)) (.cells #[.int .u8 0, .int .i64 2] 26)) (.cells #[.int .u8 1, .int .i64 2] 26)
    first | exact this | (simp only [World.size_alloc] at this; exact this)
  have h7 : W0.heap[w.heap.size + 1 + 1 + 1 + 1 + 1 + 1 + 1]? = some (.cells #[.slice (some ⟨w.heap.size + 1 + 1 + 1 + 1, 0, none⟩) 2 2, .slice (some ⟨w.heap.size + 1 + 1 + 1 + 1 + 1 + 1, 0, none⟩) 2 2] 35 (0, 0)) := by
    rw [← hW0]; have := alloc_keep (alloc_keep (alloc_keep (heap_alloc_new (((((((w.alloc (.cells #[.int .u8 1, .int .i64 0] 28)).alloc (.cells #[.int .u8 1, .int .i64 1] 28)).alloc (.cells #[.int .u8 2, .int .i64 0] 28)).alloc (.cells #[.int .u8 1, .int .i64 0, .int .u8 1, .int .i64 1] 28)).alloc (.cells #[.slice none 0 0, .slice (some ⟨w.heap.size + 1 + 1 + 1, 0, none⟩) 2 2] 29)).alloc (.cells #[.int .u8 2, .int .i64 0] 28)).alloc (.cells #[.slice none 0 0, .slice (some ⟨w.heap.size + 1 + 1 + 1 + 1 + 1, 0, none⟩) 1 1] 29)) (.cells #[.slice (some ⟨w.heap.size + 1 + 1 + 1 + 1, 0, none⟩) 2 2, .slice (some ⟨w.heap.size + 1 + 1 + 1 + 1 + 1 + 1, 0, none⟩) 2 2] 35)) (.cells #[.int .u8 0, .int .i64 1] 26)) (.cells #[.int .u8 0, .int .i64 2] 26)) (.cells #[.int .u8 1, .int .i64 2] 26)
    first | exact this | (simp only [World.size_alloc] at this; exact this)
  have h8 : W0.heap[w.heap.size + 1 + 1 + 1 + 1 + 1 + 1 + 1 + 1]? = some (.cells #[.int .u8 0, .int .i64 1] 26 (0, 0)) := by
    rw [← hW0]; have := alloc_keep (alloc_keep (heap_alloc_new ((((((((w.alloc (.cells #[.int .u8 1, .int .i64 0] 28)).alloc (.cells #[.int .u8 1, .int .i64 1] 28)).alloc (.cells #[.int .u8 2, .int .i64 0] 28)).alloc (.cells #[.int .u8 1, .int .i64 0, .int .u8 1, .int .i64 1] 28)).alloc (.cells #[.slice none 0 0, .slice (some ⟨w.heap.size + 1 + 1 + 1, 0, none⟩) 2 2] 29)).alloc (.cells #[.int .u8 2, .int .i64 0] 28)).alloc (.cells #[.slice none 0 0, .slice (some ⟨w.heap.size + 1 + 1 + 1 + 1 + 1, 0, none⟩) 1 1] 29)).alloc (.cells #[.slice (some ⟨w.heap.size + 1 + 1 + 1 + 1, 0, none⟩) 2 2, .slice (some ⟨w.heap.size + 1 + 1 + 1 + 1 + 1 + 1, 0, none⟩) 2 2] 35)) (.cells #[.int .u8 0, .int .i64 1] 26)) (.cells #[.int .u8 0, .int .i64 2] 26)) (.cells #[.int .u8 1, .int .i64 2] 26)
    first | exact this | (simp only [World.size_alloc] at this; exact this)
  have h9 : W0.heap[w.heap.size + 1 + 1 + 1 + 1 + 1 + 1 + 1 + 1 + 1]? = some (.cells #[.int .u8 0, .int .i64 2] 26 (0, 0)) := by
    rw [← hW0]; have := alloc_keep (heap_alloc_new (((((((((w.alloc (.cells #[.int .u8 1, .int .i64 0] 28)).alloc (.cells #[.int .u8 1, .int .i64 1] 28)).alloc (.cells #[.int .u8 2, .int .i64 0] 28)).alloc (.cells #[.int .u8 1, .int .i64 0, .int .u8 1, .int .i64 1] 28)).alloc (.cells #[.slice none 0 0, .slice (some ⟨w.heap.size + 1 + 1 + 1, 0, none⟩) 2 2] 29)).alloc (.cells #[.int .u8 2, .int .i64 0] 28)).alloc (.cells #[.slice none 0 0, .slice (some ⟨w.heap.size + 1 + 1 + 1 + 1 + 1, 0, none⟩) 1 1] 29)).alloc (.cells #[.slice (some ⟨w.heap.size + 1 + 1 + 1 + 1, 0, none⟩) 2 2, .slice (some ⟨w.heap.size + 1 + 1 + 1 + 1 + 1 + 1, 0, none⟩) 2 2] 35)).alloc (.cells #[.int .u8 0, .int .i64 1] 26)) (.cells #[.int .u8 0, .int .i64 2] 26)) (.cells #[.int .u8 1, .int .i64 2] 26)
    first | exact this | (simp only [World.size_alloc] at this; exact this)
  have h10 : W0.heap[w.heap.size + 1 + 1 + 1 + 1 + 1 + 1 + 1 + 1 + 1 + 1]? = some (.cells #[.int .u8 1, .int .i64 2] 26 (0, 0)) := by
    rw [← hW0]; have := heap_alloc_new ((((((((((w.alloc (.cells #[.int .u8 1, .int .i64 0] 28)).alloc (.cells #[.int .u8 1, .int .i64 1] 28)).alloc (.cells #[.int .u8 2, .int .i64 0] 28)).alloc (.cells #[.int .u8 1, .int .i64 0, .int .u8 1, .int .i64 1] 28)).alloc (.cells #[.slice none 0 0, .slice (some ⟨w.heap.size + 1 + 1 + 1, 0, none⟩) 2 2] 29)).alloc (.cells #[.int .u8 2, .int .i64 0] 28)).alloc (.cells #[.slice none 0 0, .slice (some ⟨w.heap.size + 1 + 1 + 1 + 1 + 1, 0, none⟩) 1 1] 29)).alloc (.cells #[.slice (some ⟨w.heap.size + 1 + 1 + 1 + 1, 0, none⟩) 2 2, .slice (some ⟨w.heap.size + 1 + 1 + 1 + 1 + 1 + 1, 0, none⟩) 2 2] 35)).alloc (.cells #[.int .u8 0, .int .i64 1] 26)).alloc (.cells #[.int .u8 0, .int .i64 2] 26)) (.cells #[.int .u8 1, .int .i64 2] 26)
    first | exact this | (simp only [World.size_alloc] at this; exact this)
  have hL : LB w.heap.size W0 := by
    refine ⟨h0, h1, h2, h8, h9, h10, h7, ?_, ?_⟩
    · refine ⟨by simp [d0], fun c hc => ?_, .inr ⟨_, 0, rfl, (Array.getElem?_eq_some_iff.1 h4).1, fun i c hc => ?_⟩⟩
      · simp only [d0, List.mem_cons, List.not_mem_nil, or_false] at hc
        rcases hc with rfl | rfl
        · exact Cel.nil_ok _ _
        · refine ⟨by simp, .inr ⟨_, 0, rfl, (Array.getElem?_eq_some_iff.1 h3).1, fun i p hp => ?_⟩⟩
          match i, hp with
          | 0, hp => cases hp; exact ⟨by simp [World.cell?, h3], by simp [World.cell?, h3]⟩
          | 1, hp => cases hp; exact ⟨by simp [World.cell?, h3], by simp [World.cell?, h3]⟩
          | i + 2, hp => simp at hp
      · match i, hc with
        | 0, hc => cases hc; simp [World.cell?, h4, Cel.nil, Cel.v]
        | 1, hc => cases hc; simp [World.cell?, h4, Cel.v]
        | i + 2, hc => simp [d0] at hc
    · refine ⟨by simp [d0], fun c hc => ?_, .inr ⟨_, 0, rfl, (Array.getElem?_eq_some_iff.1 h6).1, fun i c hc => ?_⟩⟩
      · simp only [d0, List.mem_cons, List.not_mem_nil, or_false] at hc
        rcases hc with rfl | rfl
        · exact Cel.nil_ok _ _
        · refine ⟨by simp, .inr ⟨_, 0, rfl, (Array.getElem?_eq_some_iff.1 h5).1, fun i p hp => ?_⟩⟩
          match i, hp with
          | 0, hp => cases hp; exact ⟨by simp [World.cell?, h5], by simp [World.cell?, h5]⟩
          | i + 1, hp => simp at hp
      · match i, hc with
        | 0, hc => cases hc; simp [World.cell?, h6, Cel.nil, Cel.v]
        | 1, hc => cases hc; simp [World.cell?, h6, Cel.v]
        | i + 2, hc => simp [d0] at hc
  rw [hW0]
  clear hW0 h0 h1 h2 h3 h4 h5 h6 h7 h8 h9 h10
  have HL := Lib.hid hL
  have q3a := hL.q3.cell0; have q3b := hL.q3.cell1; have q4a := hL.q4.cell0; have q4b := hL.q4.cell1; have q5a := hL.q5.cell0; have q5b := hL.q5.cell1; have q6a := hL.q6.cell0; have q6b := hL.q6.cell1; have q7a := hL.q7.cell0; have q7b := hL.q7.cell1
  clear hL
  have tk1 : True := trivial
  have tk2 : True := trivial
  have tk3 : True := trivial
  have tk4 : True := trivial
  have tk5 : True := trivial
  have tk6 : True := trivial
  have tk7 : True := trivial
  have tk8 : True := trivial
  have tk9 : True := trivial
  go_wp2_with (first
    | (go_at_call 14; clear tk1; refine (find_any (d0 w.heap.size) ⟨2, 0⟩ _ W0 (Nat.le_refl _) HL.out.d).mono ?_; rw [d0_find]; rintro e w1 ⟨rfl, hb⟩; have hB1 : Below w.heap.size w w1 := hB0.trans ((hb).mono hB0.size); have HL1 := Lib.hid (HL.out.below hb); have hA1 : Below w.heap.size w (w1.alloc (.cells #[.int .u8 1, .int .i64 2] 26)) := hB1.alloc hB1.size _; have HLA1 := Lib.hid (HL1.out.below (below1 _ (.cells #[.int .u8 1, .int .i64 2] 26))); have HYq81 := Lib.hid (Boxed2.new w1 26 (.int .u8 1) (.int .i64 2)); clear q3a q3b q4a q4b q5a q5b q6a q6b q7a q7b hb HL hB0; have q4a := HLA1.out.q4.cell0; have q4b := HLA1.out.q4.cell1; have q5a := HLA1.out.q5.cell0; have q5b := HLA1.out.q5.cell1; have q6a := HLA1.out.q6.cell0; have q6b := HLA1.out.q6.cell1; have q7a := HLA1.out.q7.cell0; have q7b := HLA1.out.q7.cell1; have q8a := HYq81.out.cell0; have q8b := HYq81.out.cell1)
    | (go_at_call 10; clear tk2; refine (check_ok (d0 w.heap.size) _ (w1.alloc (.cells #[.int .u8 1, .int .i64 2] 26)) (Nat.le_refl _) HLA1.out.d ((d0_reads _).good T0_ok)).mono ?_; rintro e w2 ⟨rfl, hb⟩; have hB2 : Below w.heap.size w w2 := hA1.trans ((hb).mono hA1.size); have HL2 := Lib.hid (HLA1.out.below hb); have HXq82 := Lib.hid (HYq81.out.below hb HYq81.out.lt); clear q4a q4b q5a q5b q6a q6b q7a q7b q8a q8b hb HL1 hB1 HLA1 hA1 HYq81; have q4a := HL2.out.q4.cell0; have q4b := HL2.out.q4.cell1; have q5a := HL2.out.q5.cell0; have q5b := HL2.out.q5.cell1; have q6a := HL2.out.q6.cell0; have q6b := HL2.out.q6.cell1; have q7a := HL2.out.q7.cell0; have q7b := HL2.out.q7.cell1; have q8a := HXq82.out.cell0; have q8b := HXq82.out.cell1)
    | (go_at_call 12; clear tk3; refine (at_any (d0 w.heap.size) 0 2 (by omega) _ w2 (Nat.le_refl _) HL2.out.d).mono ?_; rintro e w3 ⟨⟨aa, al, ac⟩, rfl, hc, hb⟩; have hl9 := hc.out.1; rw [d0_at2] at hl9; simp only at hl9; subst hl9; clear hc; simp only [Cel.v]; have hB3 : Below w.heap.size w w3 := hB2.trans ((hb).mono hB2.size); have HL3 := Lib.hid (HL2.out.below hb); have HXq83 := Lib.hid (HXq82.out.below hb HXq82.out.lt); clear q4a q4b q5a q5b q6a q6b q7a q7b q8a q8b hb HL2 hB2 HXq82; have q4a := HL3.out.q4.cell0; have q4b := HL3.out.q4.cell1; have q5a := HL3.out.q5.cell0; have q5b := HL3.out.q5.cell1; have q6a := HL3.out.q6.cell0; have q6b := HL3.out.q6.cell1; have q7a := HL3.out.q7.cell0; have q7b := HL3.out.q7.cell1; have q8a := HXq83.out.cell0; have q8b := HXq83.out.cell1)
    | (go_at_call 12; clear tk4; refine (at_any (d0 w.heap.size) 0 1 (by omega) _ w3 (Nat.le_refl _) HL3.out.d).mono ?_; rintro e w4 ⟨⟨ba, bl, bc⟩, rfl, hc, hb⟩; have hl9 := hc.out.1; rw [d0_at1] at hl9; simp only at hl9; subst hl9; clear hc; simp only [Cel.v]; have hB4 : Below w.heap.size w w4 := hB3.trans ((hb).mono hB3.size); have HL4 := Lib.hid (HL3.out.below hb); have HXq84 := Lib.hid (HXq83.out.below hb HXq83.out.lt); clear q4a q4b q5a q5b q6a q6b q7a q7b q8a q8b hb HL3 hB3 HXq83; have q4a := HL4.out.q4.cell0; have q4b := HL4.out.q4.cell1; have q5a := HL4.out.q5.cell0; have q5b := HL4.out.q5.cell1; have q6a := HL4.out.q6.cell0; have q6b := HL4.out.q6.cell1; have q7a := HL4.out.q7.cell0; have q7b := HL4.out.q7.cell1; have q8a := HXq84.out.cell0; have q8b := HXq84.out.cell1)
    | (go_at_call 15; clear tk5; refine (count_any (d0 w.heap.size) _ w4 (Nat.le_refl _) HL4.out.d).mono ?_; rw [d0_cnt]; rintro e w5 ⟨rfl, hb⟩; have hB5 : Below w.heap.size w w5 := hB4.trans ((hb).mono hB4.size); have HL5 := Lib.hid (HL4.out.below hb); have HXq85 := Lib.hid (HXq84.out.below hb HXq84.out.lt); clear q4a q4b q5a q5b q6a q6b q7a q7b q8a q8b hb HL4 hB4 HXq84; have q4a := HL5.out.q4.cell0; have q4b := HL5.out.q4.cell1; have q5a := HL5.out.q5.cell0; have q5b := HL5.out.q5.cell1; have q6a := HL5.out.q6.cell0; have q6b := HL5.out.q6.cell1; have q7a := HL5.out.q7.cell0; have q7b := HL5.out.q7.cell1; have q8a := HXq85.out.cell0; have q8b := HXq85.out.cell1)
    | (go_at_call 19; clear tk6; refine (join_any (d0 w.heap.size) T0 0 2 1 2 (by omega) (by omega) _ w5 (Nat.le_refl _) HL5.out.d (d0_reads _) T0_ok).mono ?_; intro e w6 hch; have hch := hch.done je1.1; rw [je1.2] at hch; obtain ⟨⟨⟨fa, fs, fc⟩, ⟨ga, gs, gc⟩⟩, rfl, hbd, hb⟩ := hch; simp only [Bds.v, Bed.v]; have hB6 : Below w.heap.size w w6 := hB5.trans ((hb).mono hB5.size); have HL6 := Lib.hid (HL5.out.below hb); have HBD16 : Hid (Bds.ok w6.heap.size w6 (⟨⟨fa, fs, fc⟩, ⟨ga, gs, gc⟩⟩ : Bds)) := Lib.hid hbd.out.2.2.1; have HRT1 : Hid (Reads T1 (⟨⟨fa, fs, fc⟩, ⟨ga, gs, gc⟩⟩ : Bds) ∧ Tight (⟨⟨fa, fs, fc⟩, ⟨ga, gs, gc⟩⟩ : Bds)) := Lib.hid ⟨hbd.out.1, hbd.out.2.1⟩; have HBE16 := Lib.hid (HBD16.out.onw (below1 _ (.cells #[.slice fa fs.length fc, .slice ga gs.length gc] 35))); have hA6 : Below w.heap.size w (w6.alloc (.cells #[.slice fa fs.length fc, .slice ga gs.length gc] 35)) := hB6.alloc hB6.size _; have HLA6 := Lib.hid (HL6.out.below (below1 _ (.cells #[.slice fa fs.length fc, .slice ga gs.length gc] 35))); have HYq106 := Lib.hid (Boxed2.new w6 35 (.slice fa fs.length fc) (.slice ga gs.length gc)); clear q4a q4b q5a q5b q6a q6b q7a q7b q8a q8b hb HL5 hB5 HXq85; have q4a := HLA6.out.q4.cell0; have q4b := HLA6.out.q4.cell1; have q5a := HLA6.out.q5.cell0; have q5b := HLA6.out.q5.cell1; have q6a := HLA6.out.q6.cell0; have q6b := HLA6.out.q6.cell1; have q7a := HLA6.out.q7.cell0; have q7b := HLA6.out.q7.cell1; have q10a := HYq106.out.cell0; have q10b := HYq106.out.cell1; have hP6 : w.heap.size ≤ w6.heap.size := hB6.size)
    | (go_at_call 19; clear tk7; refine (join_any (d0 w.heap.size) T0 1 2 0 2 (by omega) (by omega) _ (w6.alloc (.cells #[.slice fa fs.length fc, .slice ga gs.length gc] 35)) (Nat.le_refl _) HLA6.out.d (d0_reads _) T0_ok).mono ?_; intro e w7 hch; have hch := hch.done je2.1; rw [je2.2] at hch; obtain ⟨⟨⟨ja, js, jc⟩, ⟨ka, ks, kc⟩⟩, rfl, hbd, hb⟩ := hch; simp only [Bds.v, Bed.v]; have hB7 : Below w.heap.size w w7 := hA6.trans ((hb).mono hA6.size); have HL7 := Lib.hid (HLA6.out.below hb); have HBD27 : Hid (Bds.ok w7.heap.size w7 (⟨⟨ja, js, jc⟩, ⟨ka, ks, kc⟩⟩ : Bds)) := Lib.hid hbd.out.2.2.1; have HRT2 : Hid (Reads T2 (⟨⟨ja, js, jc⟩, ⟨ka, ks, kc⟩⟩ : Bds) ∧ Tight (⟨⟨ja, js, jc⟩, ⟨ka, ks, kc⟩⟩ : Bds)) := Lib.hid ⟨hbd.out.1, hbd.out.2.1⟩; have HBD17 := Lib.hid (HBE16.out.onw hb); have HXq107 := Lib.hid (HYq106.out.below hb HYq106.out.lt); have HBE17 := Lib.hid (HBD17.out.onw (below1 _ (.cells #[.slice ja js.length jc, .slice ka ks.length kc] 35))); have HBE27 := Lib.hid (HBD27.out.onw (below1 _ (.cells #[.slice ja js.length jc, .slice ka ks.length kc] 35))); have hA7 : Below w.heap.size w (w7.alloc (.cells #[.slice ja js.length jc, .slice ka ks.length kc] 35)) := hB7.alloc hB7.size _; have HLA7 := Lib.hid (HL7.out.below (below1 _ (.cells #[.slice ja js.length jc, .slice ka ks.length kc] 35))); have HYq107 := Lib.hid (HXq107.out.alloc (.cells #[.slice ja js.length jc, .slice ka ks.length kc] 35)); have HYq117 := Lib.hid (Boxed2.new w7 35 (.slice ja js.length jc) (.slice ka ks.length kc)); clear q4a q4b q5a q5b q6a q6b q7a q7b q10a q10b hb HL6 hB6 HLA6 hA6 HYq106 HBD16; have q4a := HLA7.out.q4.cell0; have q4b := HLA7.out.q4.cell1; have q5a := HLA7.out.q5.cell0; have q5b := HLA7.out.q5.cell1; have q6a := HLA7.out.q6.cell0; have q6b := HLA7.out.q6.cell1; have q7a := HLA7.out.q7.cell0; have q7b := HLA7.out.q7.cell1; have q10a := HYq107.out.cell0; have q10b := HYq107.out.cell1; have q11a := HYq117.out.cell0; have q11b := HYq117.out.cell1)
    | (go_at_call 19; clear tk8; refine (join_any (d0 w.heap.size) T0 0 1 1 1 (by omega) (by omega) _ (w7.alloc (.cells #[.slice ja js.length jc, .slice ka ks.length kc] 35)) (Nat.le_refl _) HLA7.out.d (d0_reads _) T0_ok).mono ?_; intro e w8 hch; have hch := hch.not (by rw [je3]; decide); rw [je3] at hch; obtain ⟨rfl, hb⟩ := hch; simp only [zBeds]; have hB8 : Below w.heap.size w w8 := hA7.trans ((hb).mono hA7.size); have HL8 := Lib.hid (HLA7.out.below hb); have HBD18 := Lib.hid (HBE17.out.onw hb); have HBD28 := Lib.hid (HBE27.out.onw hb); have HXq108 := Lib.hid (HYq107.out.below hb HYq107.out.lt); have HXq118 := Lib.hid (HYq117.out.below hb HYq117.out.lt); have HBE18 := Lib.hid (HBD18.out.onw (below1 _ (.cells #[.slice none 0 0, .slice none 0 0] 35))); have HBE28 := Lib.hid (HBD28.out.onw (below1 _ (.cells #[.slice none 0 0, .slice none 0 0] 35))); have hA8 : Below w.heap.size w (w8.alloc (.cells #[.slice none 0 0, .slice none 0 0] 35)) := hB8.alloc hB8.size _; have HLA8 := Lib.hid (HL8.out.below (below1 _ (.cells #[.slice none 0 0, .slice none 0 0] 35))); have HYq108 := Lib.hid (HXq108.out.alloc (.cells #[.slice none 0 0, .slice none 0 0] 35)); have HYq118 := Lib.hid (HXq118.out.alloc (.cells #[.slice none 0 0, .slice none 0 0] 35)); have HYq138 := Lib.hid (Boxed2.new w8 35 (.slice none 0 0) (.slice none 0 0)); clear q4a q4b q5a q5b q6a q6b q7a q7b q10a q10b q11a q11b hb HL7 hB7 HLA7 hA7 HYq107 HYq117 HBE16 HXq107 HBD17 HBD27; have q4a := HLA8.out.q4.cell0; have q4b := HLA8.out.q4.cell1; have q5a := HLA8.out.q5.cell0; have q5b := HLA8.out.q5.cell1; have q6a := HLA8.out.q6.cell0; have q6b := HLA8.out.q6.cell1; have q7a := HLA8.out.q7.cell0; have q7b := HLA8.out.q7.cell1; have q10a := HYq108.out.cell0; have q10b := HYq108.out.cell1; have q11a := HYq118.out.cell0; have q11b := HYq118.out.cell1; have q13a := HYq138.out.cell0; have q13b := HYq138.out.cell1)
    | (go_at_call 19; clear tk9; refine (join_any (d0 w.heap.size) T0 0 2 0 3 (by omega) (by omega) _ (w8.alloc (.cells #[.slice none 0 0, .slice none 0 0] 35)) (Nat.le_refl _) HLA8.out.d (d0_reads _) T0_ok).mono ?_; intro e w9 hch; have hch := hch.not (by rw [je4]; decide); rw [je4] at hch; obtain ⟨rfl, hb⟩ := hch; simp only [zBeds]; have hB9 : Below w.heap.size w w9 := hA8.trans ((hb).mono hA8.size); have HL9 := Lib.hid (HLA8.out.below hb); have HBD19 := Lib.hid (HBE18.out.onw hb); have HBD29 := Lib.hid (HBE28.out.onw hb); have HXq109 := Lib.hid (HYq108.out.below hb HYq108.out.lt); have HXq119 := Lib.hid (HYq118.out.below hb HYq118.out.lt); have HBE19 := Lib.hid (HBD19.out.onw (below1 _ (.cells #[.slice none 0 0, .slice none 0 0] 35))); have HBE29 := Lib.hid (HBD29.out.onw (below1 _ (.cells #[.slice none 0 0, .slice none 0 0] 35))); have hA9 : Below w.heap.size w (w9.alloc (.cells #[.slice none 0 0, .slice none 0 0] 35)) := hB9.alloc hB9.size _; have HLA9 := Lib.hid (HL9.out.below (below1 _ (.cells #[.slice none 0 0, .slice none 0 0] 35))); have HYq109 := Lib.hid (HXq109.out.alloc (.cells #[.slice none 0 0, .slice none 0 0] 35)); have HYq119 := Lib.hid (HXq119.out.alloc (.cells #[.slice none 0 0, .slice none 0 0] 35)); have HYq159 := Lib.hid (Boxed2.new w9 35 (.slice none 0 0) (.slice none 0 0)); clear q4a q4b q5a q5b q6a q6b q7a q7b q10a q10b q11a q11b q13a q13b hb HL8 hB8 HLA8 hA8 HYq108 HYq118 HYq138 HBE17 HBE27 HXq108 HXq118 HBD18 HBD28; have q4a := HLA9.out.q4.cell0; have q4b := HLA9.out.q4.cell1; have q5a := HLA9.out.q5.cell0; have q5b := HLA9.out.q5.cell1; have q6a := HLA9.out.q6.cell0; have q6b := HLA9.out.q6.cell1; have q7a := HLA9.out.q7.cell0; have q7b := HLA9.out.q7.cell1; have q10a := HYq109.out.cell0; have q10b := HYq109.out.cell1; have q11a := HYq119.out.cell0; have q11b := HYq119.out.cell1; have q15a := HYq159.out.cell0; have q15b := HYq159.out.cell1))
  obtain ⟨W9, hW9⟩ : ∃ W, w9.alloc (.cells #[.slice none 0 0, .slice none 0 0] 35) = W := ⟨_, rfl⟩
  have HLW9 : Hid (LB w.heap.size W9) := Lib.hid (by rw [← hW9]; exact HLA9.out)
  have hBW9 : Below w.heap.size w W9 := by rw [← hW9]; exact hA9
  have HXW9 : Hid (Boxed2 W9 w6.heap.size 35 (.slice fa fs.length fc) (.slice ga gs.length gc)) := Lib.hid (by rw [← hW9]; exact HYq109.out)
  have HYW9 : Hid (Boxed2 W9 w7.heap.size 35 (.slice ja js.length jc) (.slice ka ks.length kc)) := Lib.hid (by rw [← hW9]; exact HYq119.out)
  have HDW9 : Hid (Bds.ok W9.heap.size W9 ⟨⟨fa, fs, fc⟩, ⟨ga, gs, gc⟩⟩) := Lib.hid (by rw [← hW9]; exact HBE19.out)
  have HEW9 : Hid (Bds.ok W9.heap.size W9 ⟨⟨ja, js, jc⟩, ⟨ka, ks, kc⟩⟩) := Lib.hid (by rw [← hW9]; exact HBE29.out)
  rw [hW9]
  clear hW9 q4a q4b q5a q5b q6a q6b q7a q7b q10a q10b q11a q11b HL9 hB9 HLA9 hA9 HYq109 HYq119 HYq159 HBE18 HBE28 HXq109 HXq119 HBD19 HBD29
  have HF0 : Hid (fs.length = 0) := Lib.hid (front_none HRT1.out.1 HRT1.out.2 (by decide))
  have HA1 : Hid (Bds.atM ⟨⟨fa, fs, fc⟩, ⟨ga, gs, gc⟩⟩ 1 2 = [⟨2, 0⟩, ⟨1, 0⟩, ⟨1, 1⟩]) := Lib.hid (HRT1.out.1.atM (k := 1) (i := 1) (by omega) (by omega))
  have HA2 : Hid (Bds.atM ⟨⟨ja, js, jc⟩, ⟨ka, ks, kc⟩⟩ 0 2 = [⟨2, 0⟩, ⟨1, 0⟩, ⟨1, 1⟩]) := Lib.hid (HRT2.out.1.atM (k := 0) (i := 1) (by omega) (by omega))
  refine rgT2 39 [some 96, some 97, some 98, some 99, some 100, some 101, some 102, some 103, some 104, some 105, some 106, some 107, some 108, some 109, some 110, some 111, some 112, some 113, some 114, some 115, some 116, some 117, some 118, some 119, some 120, some 121, some 122, some 123, some 124, some 125, some 126, some 127, some 128, some 129, some 130, some 131, some 132, some 133, some 134, some 135, some 136, some 137] (psiLv11 w.heap.size w6.heap.size w7.heap.size fa fs fc ga gs gc ja js jc ka ks kc) (fun w' => Below W9.heap.size W9 w') (by kernel_rfl) (by kernel_rfl) (by kernel_rfl) (by kernel_rfl) (psiLv11_stab w.heap.size w6.heap.size w7.heap.size fa fs fc ga gs gc ja js jc ka ks kc) (fun _ _ h hb => h.trans (hb.mono h.size)) (fun i9 o9 hi9 ho9 aq9 w1 hs hout hI hdep => ?_) ?_ ((Below.refl _ _).drew)
  · skip
    match i9, hi9, ho9 with
    | 0, _, ho9 =>
      obtain rfl := Option.some.inj ho9
      refine .inl ⟨rfl, fun K hK => ?_⟩
      exact st_move rfl ((hout 9 rfl).trans rfl) (hK _ _ (Below.refl _ _) rfl)
    | 1, _, ho9 =>
      obtain rfl := Option.some.inj ho9
      have dq0 : (aq9.tmps.getD 96 undef) = .int .i64 0 := hdep ⟨0, .data⟩ (by simp) rfl _ rfl
      refine .inl ⟨rfl, fun K hK => ?_⟩
      exact st_neq_37 rfl dq0 rfl (hK _ _ (Below.refl _ _) (congrArg Value.bool (by decide)))
    | 2, _, ho9 =>
      obtain rfl := Option.some.inj ho9
      have dq1 : (aq9.tmps.getD 97 undef) = .bool false := hdep ⟨1, .data⟩ (by simp) rfl _ rfl
      refine .inl ⟨rfl, fun K hK => ?_⟩
      exact st_move rfl dq1 (hK _ _ (Below.refl _ _) rfl)
    | 3, _, ho9 =>
      obtain rfl := Option.some.inj ho9
      have qg : (aq9.tmps.getD 98 undef) = .bool false := hdep ⟨2, .guard⟩ (by simp) rfl _ rfl
      refine .inl ⟨wanted_of (j := 2) (d := 98) rfl rfl rfl (by rw [hs]; exact of_decide_eq_true (by kernel_rfl)) qg, fun K hK => ?_⟩
      exact st_move rfl ((hout 12 rfl).trans rfl) (hK _ _ (Below.refl _ _) rfl)
    | 4, _, ho9 =>
      obtain rfl := Option.some.inj ho9
      have dq3 : (aq9.tmps.getD 99 undef) = .int .i64 0 := hdep ⟨3, .data⟩ (by simp) rfl _ rfl
      have qg : (aq9.tmps.getD 98 undef) = .bool false := hdep ⟨2, .guard⟩ (by simp) rfl _ rfl
      refine .inl ⟨wanted_of (j := 2) (d := 98) rfl rfl rfl (by rw [hs]; exact of_decide_eq_true (by kernel_rfl)) qg, fun K hK => ?_⟩
      exact st_neq_37 rfl dq3 rfl (hK _ _ (Below.refl _ _) (congrArg Value.bool (by decide)))
    | 5, _, ho9 =>
      obtain rfl := Option.some.inj ho9
      have dq2 : (aq9.tmps.getD 98 undef) = .bool false := hdep ⟨2, .data⟩ (by simp) rfl _ rfl
      have dq4 : (aq9.tmps.getD 100 undef) = .bool false := hdep ⟨4, .data⟩ (by simp) rfl _ rfl
      refine .inl ⟨rfl, fun K hK => ?_⟩
      exact st_or rfl dq2 (fun _ => dq4) (hK _ _ (Below.refl _ _) rfl)
    | 6, _, ho9 =>
      obtain rfl := Option.some.inj ho9
      have dq5 : (aq9.tmps.getD 101 undef) = .bool false := hdep ⟨5, .data⟩ (by simp) rfl _ rfl
      refine .inl ⟨rfl, fun K hK => ?_⟩
      exact st_move rfl dq5 (hK _ _ (Below.refl _ _) rfl)
    | 7, _, ho9 =>
      obtain rfl := Option.some.inj ho9
      have qg : (aq9.tmps.getD 102 undef) = .bool false := hdep ⟨6, .guard⟩ (by simp) rfl _ rfl
      refine .inl ⟨wanted_of (j := 6) (d := 102) rfl rfl rfl (by rw [hs]; exact of_decide_eq_true (by kernel_rfl)) qg, fun K hK => ?_⟩
      exact st_move rfl ((hout 14 rfl).trans rfl) (hK _ _ (Below.refl _ _) rfl)
    | 8, _, ho9 =>
      obtain rfl := Option.some.inj ho9
      have dq7 : (aq9.tmps.getD 103 undef) = .int .i64 13 := hdep ⟨7, .data⟩ (by simp) rfl _ rfl
      have qg : (aq9.tmps.getD 102 undef) = .bool false := hdep ⟨6, .guard⟩ (by simp) rfl _ rfl
      refine .inl ⟨wanted_of (j := 6) (d := 102) rfl rfl rfl (by rw [hs]; exact of_decide_eq_true (by kernel_rfl)) qg, fun K hK => ?_⟩
      exact st_neq_37 rfl dq7 rfl (hK _ _ (Below.refl _ _) (congrArg Value.bool (by decide)))
    | 9, _, ho9 =>
      obtain rfl := Option.some.inj ho9
      have dq6 : (aq9.tmps.getD 102 undef) = .bool false := hdep ⟨6, .data⟩ (by simp) rfl _ rfl
      have dq8 : (aq9.tmps.getD 104 undef) = .bool false := hdep ⟨8, .data⟩ (by simp) rfl _ rfl
      refine .inl ⟨rfl, fun K hK => ?_⟩
      exact st_or rfl dq6 (fun _ => dq8) (hK _ _ (Below.refl _ _) rfl)
    | 10, _, ho9 =>
      obtain rfl := Option.some.inj ho9
      have dq9 : (aq9.tmps.getD 105 undef) = .bool false := hdep ⟨9, .data⟩ (by simp) rfl _ rfl
      refine .inl ⟨rfl, fun K hK => ?_⟩
      exact st_move rfl dq9 (hK _ _ (Below.refl _ _) rfl)
    | 11, _, ho9 =>
      obtain rfl := Option.some.inj ho9
      have qg : (aq9.tmps.getD 106 undef) = .bool false := hdep ⟨10, .guard⟩ (by simp) rfl _ rfl
      refine .inl ⟨wanted_of (j := 10) (d := 106) rfl rfl rfl (by rw [hs]; exact of_decide_eq_true (by kernel_rfl)) qg, fun K hK => ?_⟩
      exact st_move rfl ((hout 16 rfl).trans rfl) (hK _ _ (Below.refl _ _) rfl)
    | 12, _, ho9 =>
      obtain rfl := Option.some.inj ho9
      have dq11 : (aq9.tmps.getD 107 undef) = .int .i64 1 := hdep ⟨11, .data⟩ (by simp) rfl _ rfl
      have qg : (aq9.tmps.getD 106 undef) = .bool false := hdep ⟨10, .guard⟩ (by simp) rfl _ rfl
      refine .inl ⟨wanted_of (j := 10) (d := 106) rfl rfl rfl (by rw [hs]; exact of_decide_eq_true (by kernel_rfl)) qg, fun K hK => ?_⟩
      exact st_neq_37 rfl dq11 rfl (hK _ _ (Below.refl _ _) (congrArg Value.bool (by decide)))
    | 13, _, ho9 =>
      obtain rfl := Option.some.inj ho9
      have dq10 : (aq9.tmps.getD 106 undef) = .bool false := hdep ⟨10, .data⟩ (by simp) rfl _ rfl
      have dq12 : (aq9.tmps.getD 108 undef) = .bool false := hdep ⟨12, .data⟩ (by simp) rfl _ rfl
      refine .inl ⟨rfl, fun K hK => ?_⟩
      exact st_or rfl dq10 (fun _ => dq12) (hK _ _ (Below.refl _ _) rfl)
    | 14, _, ho9 =>
      obtain rfl := Option.some.inj ho9
      have dq13 : (aq9.tmps.getD 109 undef) = .bool false := hdep ⟨13, .data⟩ (by simp) rfl _ rfl
      refine .inl ⟨rfl, fun K hK => ?_⟩
      exact st_move rfl dq13 (hK _ _ (Below.refl _ _) rfl)
    | 15, _, ho9 =>
      obtain rfl := Option.some.inj ho9
      have qg : (aq9.tmps.getD 110 undef) = .bool false := hdep ⟨14, .guard⟩ (by simp) rfl _ rfl
      refine .inl ⟨wanted_of (j := 14) (d := 110) rfl rfl rfl (by rw [hs]; exact of_decide_eq_true (by kernel_rfl)) qg, fun K hK => ?_⟩
      exact ld35 rfl ((hout 10 rfl).trans rfl) (HXW9.out.below hI HXW9.out.lt).cell0 (HXW9.out.below hI HXW9.out.lt).cell1 (hK _ _ (Below.refl _ _) rfl)
    | 16, _, ho9 =>
      obtain rfl := Option.some.inj ho9
      have qg : (aq9.tmps.getD 110 undef) = .bool false := hdep ⟨14, .guard⟩ (by simp) rfl _ rfl
      refine .inl ⟨wanted_of (j := 14) (d := 110) rfl rfl rfl (by rw [hs]; exact of_decide_eq_true (by kernel_rfl)) qg, fun K hK => ?_⟩
      exact ld26 rfl ((hout 7 rfl).trans rfl) (HLW9.out.below hI).q7.cell0 (HLW9.out.below hI).q7.cell1 (hK _ _ (Below.refl _ _) rfl)
    | 17, _, ho9 =>
      obtain rfl := Option.some.inj ho9
      have dq15 : (aq9.tmps.getD 111 undef) = .agg #[.slice fa fs.length fc, .slice ga gs.length gc] := hdep ⟨15, .data⟩ (by simp) rfl _ rfl
      have dq16 : (aq9.tmps.getD 112 undef) = .agg #[.int .u8 1, .int .i64 2] := hdep ⟨16, .data⟩ (by simp) rfl _ rfl
      have qg : (aq9.tmps.getD 110 undef) = .bool false := hdep ⟨14, .guard⟩ (by simp) rfl _ rfl
      refine .inl ⟨wanted_of (j := 14) (d := 110) rfl rfl rfl (by rw [hs]; exact of_decide_eq_true (by kernel_rfl)) qg, fun K hK => ?_⟩
      exact step_calls rfl enter12 (vs := #[.agg #[.slice fa fs.length fc, .slice ga gs.length gc], .agg #[.int .u8 1, .int .i64 2]]) (vals2 dq15 dq16) ((at_any ⟨⟨fa, fs, fc⟩, ⟨ga, gs, gc⟩⟩ 1 2 (by omega) w1.heap.size w1 (Nat.le_refl _) (HDW9.out.onw hI)).mono fun e w' hh => by
        obtain ⟨c2, rfl, hc, hb⟩ := hh
        rw [HA1.out] at hc
        exact ⟨_, rfl, hK _ _ hb ⟨c2, rfl, hc.out.1, by rw [hc.out.2.1, hc.out.1], hc.out.2.2⟩⟩)
    | 18, _, ho9 =>
      obtain rfl := Option.some.inj ho9
      have qg : (aq9.tmps.getD 110 undef) = .bool false := hdep ⟨14, .guard⟩ (by simp) rfl _ rfl
      refine .inl ⟨wanted_of (j := 14) (d := 110) rfl rfl rfl (by rw [hs]; exact of_decide_eq_true (by kernel_rfl)) qg, fun K hK => ?_⟩
      exact ld28 rfl ((hout 3 rfl).trans rfl) (HLW9.out.below hI).q3.cell0 (HLW9.out.below hI).q3.cell1 (hK _ _ (Below.refl _ _) rfl)
    | 19, _, ho9 =>
      obtain rfl := Option.some.inj ho9
      have qg : (aq9.tmps.getD 110 undef) = .bool false := hdep ⟨14, .guard⟩ (by simp) rfl _ rfl
      refine .inl ⟨wanted_of (j := 14) (d := 110) rfl rfl rfl (by rw [hs]; exact of_decide_eq_true (by kernel_rfl)) qg, fun K hK => ?_⟩
      exact ld28 rfl ((hout 1 rfl).trans rfl) (HLW9.out.below hI).q1.cell0 (HLW9.out.below hI).q1.cell1 (hK _ _ (Below.refl _ _) rfl)
    | 20, _, ho9 =>
      obtain rfl := Option.some.inj ho9
      have qg : (aq9.tmps.getD 110 undef) = .bool false := hdep ⟨14, .guard⟩ (by simp) rfl _ rfl
      refine .inl ⟨wanted_of (j := 14) (d := 110) rfl rfl rfl (by rw [hs]; exact of_decide_eq_true (by kernel_rfl)) qg, fun K hK => ?_⟩
      exact ld28 rfl ((hout 2 rfl).trans rfl) (HLW9.out.below hI).q2.cell0 (HLW9.out.below hI).q2.cell1 (hK _ _ (Below.refl _ _) rfl)
    | 21, _, ho9 =>
      obtain rfl := Option.some.inj ho9
      have dq18 : (aq9.tmps.getD 114 undef) = .agg #[.int .u8 2, .int .i64 0] := hdep ⟨18, .data⟩ (by simp) rfl _ rfl
      have dq19 : (aq9.tmps.getD 115 undef) = .agg #[.int .u8 1, .int .i64 0] := hdep ⟨19, .data⟩ (by simp) rfl _ rfl
      have dq20 : (aq9.tmps.getD 116 undef) = .agg #[.int .u8 1, .int .i64 1] := hdep ⟨20, .data⟩ (by simp) rfl _ rfl
      have qg : (aq9.tmps.getD 110 undef) = .bool false := hdep ⟨14, .guard⟩ (by simp) rfl _ rfl
      refine .inl ⟨wanted_of (j := 14) (d := 110) rfl rfl rfl (by rw [hs]; exact of_decide_eq_true (by kernel_rfl)) qg, fun K hK => ?_⟩
      exact st_bs3 rfl dq18 dq19 dq20 (hK _ _ (below1 _ _) ⟨_, rfl, cel3_ok w1 ⟨2, 0⟩ ⟨1, 0⟩ ⟨1, 1⟩⟩)
    | 22, _, ho9 =>
      obtain rfl := Option.some.inj ho9
      have dq17 : ∃ c2 : Cel, (aq9.tmps.getD 113 undef) = c2.v ∧ c2.l = [⟨2, 0⟩, ⟨1, 0⟩, ⟨1, 1⟩] ∧ c2.cap = c2.l.length ∧ c2.ok w1.heap.size w1 := hdep ⟨17, .data⟩ (by simp) rfl _ rfl
      have dq21 : ∃ g, (aq9.tmps.getD 117 undef) = .slice (some ⟨g, 0, none⟩) 3 3 ∧ Cel.ok w1.heap.size w1 ⟨some ⟨g, 0, none⟩, [⟨2, 0⟩, ⟨1, 0⟩, ⟨1, 1⟩], 3⟩ := hdep ⟨21, .data⟩ (by simp) rfl _ rfl
      have qg : (aq9.tmps.getD 110 undef) = .bool false := hdep ⟨14, .guard⟩ (by simp) rfl _ rfl
      refine .inl ⟨wanted_of (j := 14) (d := 110) rfl rfl rfl (by rw [hs]; exact of_decide_eq_true (by kernel_rfl)) qg, fun K hK => ?_⟩
      obtain ⟨c2, hv2, hl2, hc2, ho2⟩ := dq17
      obtain ⟨g, hvg, hog⟩ := dq21
      exact step_calls rfl enter20 (vs := #[c2.v, .slice (some ⟨g, 0, none⟩) 3 3]) (vals2 hv2 hvg) ((same_any1 (d := ⟨some ⟨g, 0, none⟩, [⟨2, 0⟩, ⟨1, 0⟩, ⟨1, 1⟩], 3⟩) w1.heap.size w1 (Nat.le_refl _) ho2 hog hl2 hc2).mono fun e w' hh => by
        obtain ⟨rfl, hb⟩ := hh
        exact ⟨_, rfl, hK _ _ hb rfl⟩)
    | 23, _, ho9 =>
      obtain rfl := Option.some.inj ho9
      have dq22 : (aq9.tmps.getD 118 undef) = .int .i64 1 := hdep ⟨22, .data⟩ (by simp) rfl _ rfl
      have qg : (aq9.tmps.getD 110 undef) = .bool false := hdep ⟨14, .guard⟩ (by simp) rfl _ rfl
      refine .inl ⟨wanted_of (j := 14) (d := 110) rfl rfl rfl (by rw [hs]; exact of_decide_eq_true (by kernel_rfl)) qg, fun K hK => ?_⟩
      exact st_eql_3 rfl dq22 rfl (hK _ _ (Below.refl _ _) (congrArg Value.bool (by decide)))
    | 24, _, ho9 =>
      obtain rfl := Option.some.inj ho9
      have dq14 : (aq9.tmps.getD 110 undef) = .bool false := hdep ⟨14, .data⟩ (by simp) rfl _ rfl
      have dq23 : (aq9.tmps.getD 119 undef) = .bool false := hdep ⟨23, .data⟩ (by simp) rfl _ rfl
      refine .inl ⟨rfl, fun K hK => ?_⟩
      exact st_or rfl dq14 (fun _ => dq23) (hK _ _ (Below.refl _ _) rfl)
    | 25, _, ho9 =>
      obtain rfl := Option.some.inj ho9
      have dq24 : (aq9.tmps.getD 120 undef) = .bool false := hdep ⟨24, .data⟩ (by simp) rfl _ rfl
      refine .inl ⟨rfl, fun K hK => ?_⟩
      exact st_move rfl dq24 (hK _ _ (Below.refl _ _) rfl)
    | 26, _, ho9 =>
      obtain rfl := Option.some.inj ho9
      have qg : (aq9.tmps.getD 121 undef) = .bool false := hdep ⟨25, .guard⟩ (by simp) rfl _ rfl
      refine .inl ⟨wanted_of (j := 25) (d := 121) rfl rfl rfl (by rw [hs]; exact of_decide_eq_true (by kernel_rfl)) qg, fun K hK => ?_⟩
      exact fa35_0 rfl ((hout 10 rfl).trans rfl) (hK _ _ (Below.refl _ _) rfl)
    | 27, _, ho9 =>
      obtain rfl := Option.some.inj ho9
      have dq26 : (aq9.tmps.getD 122 undef) = .pointer (some ⟨w6.heap.size, 0, none⟩) := hdep ⟨26, .data⟩ (by simp) rfl _ rfl
      have qg : (aq9.tmps.getD 121 undef) = .bool false := hdep ⟨25, .guard⟩ (by simp) rfl _ rfl
      refine .inl ⟨wanted_of (j := 25) (d := 121) rfl rfl rfl (by rw [hs]; exact of_decide_eq_true (by kernel_rfl)) qg, fun K hK => ?_⟩
      exact ld33 rfl dq26 (HXW9.out.below hI HXW9.out.lt).cell0 (hK _ _ (Below.refl _ _) rfl)
    | 28, _, ho9 =>
      obtain rfl := Option.some.inj ho9
      have dq27 : (aq9.tmps.getD 123 undef) = .slice fa fs.length fc := hdep ⟨27, .data⟩ (by simp) rfl _ rfl
      have qg : (aq9.tmps.getD 121 undef) = .bool false := hdep ⟨25, .guard⟩ (by simp) rfl _ rfl
      refine .inl ⟨wanted_of (j := 25) (d := 121) rfl rfl rfl (by rw [hs]; exact of_decide_eq_true (by kernel_rfl)) qg, fun K hK => ?_⟩
      exact len33 rfl dq27 (hK _ _ (Below.refl _ _) rfl)
    | 29, _, ho9 =>
      obtain rfl := Option.some.inj ho9
      have dq28 : (aq9.tmps.getD 124 undef) = .int .i64 fs.length := hdep ⟨28, .data⟩ (by simp) rfl _ rfl
      have qg : (aq9.tmps.getD 121 undef) = .bool false := hdep ⟨25, .guard⟩ (by simp) rfl _ rfl
      refine .inl ⟨wanted_of (j := 25) (d := 121) rfl rfl rfl (by rw [hs]; exact of_decide_eq_true (by kernel_rfl)) qg, fun K hK => ?_⟩
      exact st_neq_3 rfl dq28 rfl (hK _ _ (Below.refl _ _) (congrArg Value.bool (by rw [HF0.out]; decide)))
    | 30, _, ho9 =>
      obtain rfl := Option.some.inj ho9
      have dq25 : (aq9.tmps.getD 121 undef) = .bool false := hdep ⟨25, .data⟩ (by simp) rfl _ rfl
      have dq29 : (aq9.tmps.getD 125 undef) = .bool false := hdep ⟨29, .data⟩ (by simp) rfl _ rfl
      refine .inl ⟨rfl, fun K hK => ?_⟩
      exact st_or rfl dq25 (fun _ => dq29) (hK _ _ (Below.refl _ _) rfl)
    | 31, _, ho9 =>
      obtain rfl := Option.some.inj ho9
      have dq30 : (aq9.tmps.getD 126 undef) = .bool false := hdep ⟨30, .data⟩ (by simp) rfl _ rfl
      refine .inl ⟨rfl, fun K hK => ?_⟩
      exact st_move rfl dq30 (hK _ _ (Below.refl _ _) rfl)
    | 32, _, ho9 =>
      obtain rfl := Option.some.inj ho9
      have qg : (aq9.tmps.getD 127 undef) = .bool false := hdep ⟨31, .guard⟩ (by simp) rfl _ rfl
      refine .inl ⟨wanted_of (j := 31) (d := 127) rfl rfl rfl (by rw [hs]; exact of_decide_eq_true (by kernel_rfl)) qg, fun K hK => ?_⟩
      exact ld35 rfl ((hout 11 rfl).trans rfl) (HYW9.out.below hI HYW9.out.lt).cell0 (HYW9.out.below hI HYW9.out.lt).cell1 (hK _ _ (Below.refl _ _) rfl)
    | 33, _, ho9 =>
      obtain rfl := Option.some.inj ho9
      have qg : (aq9.tmps.getD 127 undef) = .bool false := hdep ⟨31, .guard⟩ (by simp) rfl _ rfl
      refine .inl ⟨wanted_of (j := 31) (d := 127) rfl rfl rfl (by rw [hs]; exact of_decide_eq_true (by kernel_rfl)) qg, fun K hK => ?_⟩
      exact ld26 rfl ((hout 6 rfl).trans rfl) (HLW9.out.below hI).q6.cell0 (HLW9.out.below hI).q6.cell1 (hK _ _ (Below.refl _ _) rfl)
    | 34, _, ho9 =>
      obtain rfl := Option.some.inj ho9
      have dq32 : (aq9.tmps.getD 128 undef) = .agg #[.slice ja js.length jc, .slice ka ks.length kc] := hdep ⟨32, .data⟩ (by simp) rfl _ rfl
      have dq33 : (aq9.tmps.getD 129 undef) = .agg #[.int .u8 0, .int .i64 2] := hdep ⟨33, .data⟩ (by simp) rfl _ rfl
      have qg : (aq9.tmps.getD 127 undef) = .bool false := hdep ⟨31, .guard⟩ (by simp) rfl _ rfl
      refine .inl ⟨wanted_of (j := 31) (d := 127) rfl rfl rfl (by rw [hs]; exact of_decide_eq_true (by kernel_rfl)) qg, fun K hK => ?_⟩
      exact step_calls rfl enter12 (vs := #[.agg #[.slice ja js.length jc, .slice ka ks.length kc], .agg #[.int .u8 0, .int .i64 2]]) (vals2 dq32 dq33) ((at_any ⟨⟨ja, js, jc⟩, ⟨ka, ks, kc⟩⟩ 0 2 (by omega) w1.heap.size w1 (Nat.le_refl _) (HEW9.out.onw hI)).mono fun e w' hh => by
        obtain ⟨c2, rfl, hc, hb⟩ := hh
        rw [HA2.out] at hc
        exact ⟨_, rfl, hK _ _ hb ⟨c2, rfl, hc.out.1, by rw [hc.out.2.1, hc.out.1], hc.out.2.2⟩⟩)
    | 35, _, ho9 =>
      obtain rfl := Option.some.inj ho9
      have qg : (aq9.tmps.getD 127 undef) = .bool false := hdep ⟨31, .guard⟩ (by simp) rfl _ rfl
      refine .inl ⟨wanted_of (j := 31) (d := 127) rfl rfl rfl (by rw [hs]; exact of_decide_eq_true (by kernel_rfl)) qg, fun K hK => ?_⟩
      exact ld28 rfl ((hout 3 rfl).trans rfl) (HLW9.out.below hI).q3.cell0 (HLW9.out.below hI).q3.cell1 (hK _ _ (Below.refl _ _) rfl)
    | 36, _, ho9 =>
      obtain rfl := Option.some.inj ho9
      have qg : (aq9.tmps.getD 127 undef) = .bool false := hdep ⟨31, .guard⟩ (by simp) rfl _ rfl
      refine .inl ⟨wanted_of (j := 31) (d := 127) rfl rfl rfl (by rw [hs]; exact of_decide_eq_true (by kernel_rfl)) qg, fun K hK => ?_⟩
      exact ld28 rfl ((hout 1 rfl).trans rfl) (HLW9.out.below hI).q1.cell0 (HLW9.out.below hI).q1.cell1 (hK _ _ (Below.refl _ _) rfl)
    | 37, _, ho9 =>
      obtain rfl := Option.some.inj ho9
      have qg : (aq9.tmps.getD 127 undef) = .bool false := hdep ⟨31, .guard⟩ (by simp) rfl _ rfl
      refine .inl ⟨wanted_of (j := 31) (d := 127) rfl rfl rfl (by rw [hs]; exact of_decide_eq_true (by kernel_rfl)) qg, fun K hK => ?_⟩
      exact ld28 rfl ((hout 2 rfl).trans rfl) (HLW9.out.below hI).q2.cell0 (HLW9.out.below hI).q2.cell1 (hK _ _ (Below.refl _ _) rfl)
    | 38, _, ho9 =>
      obtain rfl := Option.some.inj ho9
      have dq35 : (aq9.tmps.getD 131 undef) = .agg #[.int .u8 2, .int .i64 0] := hdep ⟨35, .data⟩ (by simp) rfl _ rfl
      have dq36 : (aq9.tmps.getD 132 undef) = .agg #[.int .u8 1, .int .i64 0] := hdep ⟨36, .data⟩ (by simp) rfl _ rfl
      have dq37 : (aq9.tmps.getD 133 undef) = .agg #[.int .u8 1, .int .i64 1] := hdep ⟨37, .data⟩ (by simp) rfl _ rfl
      have qg : (aq9.tmps.getD 127 undef) = .bool false := hdep ⟨31, .guard⟩ (by simp) rfl _ rfl
      refine .inl ⟨wanted_of (j := 31) (d := 127) rfl rfl rfl (by rw [hs]; exact of_decide_eq_true (by kernel_rfl)) qg, fun K hK => ?_⟩
      exact st_bs3 rfl dq35 dq36 dq37 (hK _ _ (below1 _ _) ⟨_, rfl, cel3_ok w1 ⟨2, 0⟩ ⟨1, 0⟩ ⟨1, 1⟩⟩)
    | i9 + 39, hi9, _ => exact absurd hi9 (by omega)
  · intro a2 wA hs hd hout hI hall
    obtain ⟨tmps, defers⟩ := a2
    have e_127 : (tmps.getD 127 undef) = .bool false := hall 31 _ (by decide) rfl
    have e_130 : ∃ c2 : Cel, (tmps.getD 130 undef) = c2.v ∧ c2.l = [⟨2, 0⟩, ⟨1, 0⟩, ⟨1, 1⟩] ∧ c2.cap = c2.l.length ∧ c2.ok wA.heap.size wA := hall 34 _ (by decide) rfl
    obtain ⟨c2, e_130, hl2, hcap2, hok2⟩ := e_130
    have e_134 : ∃ g, (tmps.getD 134 undef) = .slice (some ⟨g, 0, none⟩) 3 3 ∧ Cel.ok wA.heap.size wA ⟨some ⟨g, 0, none⟩, [⟨2, 0⟩, ⟨1, 0⟩, ⟨1, 1⟩], 3⟩ := hall 38 _ (by decide) rfl
    obtain ⟨g9, e_134, hok9⟩ := e_134
    simp only at hs hd hout
    have ef := frameAt [some 96, some 97, some 98, some 99, some 100, some 101, some 102, some 103, some 104, some 105, some 106, some 107, some 108, some 109, some 110, some 111, some 112, some 113, some 114, some 115, some 116, some 117, some 118, some 119, some 120, some 121, some 122, some 123, some 124, some 125, some 126, some 127, some 128, some 129, some 130, some 131, some 132, some 133, some 134, some 135, some 136, some 137] _ tmps hs hout
    obtain ⟨sv11, hu⟩ : ∃ u : Nat → Value, u = fun s => tmps.getD s undef := ⟨_, rfl⟩
    have eu_127 : sv11 127 = .bool false := by rw [hu]; exact e_127
    have eu_130 : sv11 130 = c2.v := by rw [hu]; exact e_130
    have eu_134 : sv11 134 = .slice (some ⟨g9, 0, none⟩) 3 3 := by rw [hu]; exact e_134
    rw [← hu] at ef
    have ef2 : tmps = #[Value.bool false, Value.pointer (some { block := w.heap.size, off := 0 }), Value.pointer (some { block := w.heap.size + 1, off := 0 }), Value.pointer (some { block := w.heap.size + 1 + 1, off := 0 }), Value.pointer (some { block := w.heap.size + 1 + 1 + 1 + 1 + 1 + 1 + 1, off := 0 }), Value.pointer (some { block := w.heap.size + 1 + 1 + 1 + 1 + 1 + 1 + 1 + 1, off := 0 }), Value.pointer (some { block := w.heap.size + 1 + 1 + 1 + 1 + 1 + 1 + 1 + 1 + 1, off := 0 }), Value.pointer (some { block := w.heap.size + 1 + 1 + 1 + 1 + 1 + 1 + 1 + 1 + 1 + 1, off := 0 }), Value.pointer (some { block := w1.heap.size, off := 0 }), Value.int IntKind.i64 0, Value.pointer (some { block := w6.heap.size, off := 0 }), Value.pointer (some { block := w7.heap.size, off := 0 }), Value.int IntKind.i64 0, Value.pointer (some { block := w8.heap.size, off := 0 }), Value.int IntKind.i64 13, Value.pointer (some { block := w9.heap.size, off := 0 }), Value.int IntKind.i64 1, Value.agg #[Value.int IntKind.u8 1, Value.int IntKind.i64 0], Value.agg #[Value.int IntKind.u8 1, Value.int IntKind.i64 1], Value.agg #[Value.int IntKind.u8 2, Value.int IntKind.i64 0], Value.agg #[Value.int IntKind.u8 1, Value.int IntKind.i64 0], Value.agg #[Value.int IntKind.u8 1, Value.int IntKind.i64 1], Value.slice (some { block := w.heap.size + 1 + 1 + 1, off := 0 }) 2 2, Value.slice (some { block := w.heap.size + 1 + 1 + 1 + 1, off := 0 }) 2 2, Value.agg #[Value.int IntKind.u8 2, Value.int IntKind.i64 0], Value.slice (some { block := w.heap.size + 1 + 1 + 1 + 1 + 1, off := 0 }) 1 1, Value.slice (some { block := w.heap.size + 1 + 1 + 1 + 1 + 1 + 1, off := 0 }) 2 2, Value.agg #[Value.slice (some { block := w.heap.size + 1 + 1 + 1 + 1, off := 0 }) 2 2, Value.slice (some { block := w.heap.size + 1 + 1 + 1 + 1 + 1 + 1, off := 0 }) 2 2], Value.agg #[Value.int IntKind.u8 0, Value.int IntKind.i64 1], Value.agg #[Value.int IntKind.u8 0, Value.int IntKind.i64 2], Value.agg #[Value.int IntKind.u8 1, Value.int IntKind.i64 2], Value.tuple #[Value.agg #[Value.int IntKind.u8 1, Value.int IntKind.i64 2], Value.int IntKind.i64 0], Value.agg #[Value.slice (some { block := w.heap.size + 1 + 1 + 1 + 1, off := 0 }) 2 2, Value.slice (some { block := w.heap.size + 1 + 1 + 1 + 1 + 1 + 1, off := 0 }) 2 2], Value.agg #[Value.int IntKind.u8 2, Value.int IntKind.i64 0], Value.tuple #[Value.agg #[Value.int IntKind.u8 1, Value.int IntKind.i64 2], Value.int IntKind.i64 0], Value.agg #[Value.int IntKind.u8 1, Value.int IntKind.i64 2], Value.int IntKind.i64 0, Value.agg #[Value.slice (some { block := w.heap.size + 1 + 1 + 1 + 1, off := 0 }) 2 2, Value.slice (some { block := w.heap.size + 1 + 1 + 1 + 1 + 1 + 1, off := 0 }) 2 2], Value.int IntKind.i64 0, Value.bool false, Value.bool false, Value.agg #[Value.slice (some { block := w.heap.size + 1 + 1 + 1 + 1, off := 0 }) 2 2, Value.slice (some { block := w.heap.size + 1 + 1 + 1 + 1 + 1 + 1, off := 0 }) 2 2], Value.agg #[Value.int IntKind.u8 0, Value.int IntKind.i64 2], Value.slice aa 2 ac, Value.int IntKind.i64 2, Value.bool false, Value.bool false, Value.bool false, Value.agg #[Value.slice (some { block := w.heap.size + 1 + 1 + 1 + 1, off := 0 }) 2 2, Value.slice (some { block := w.heap.size + 1 + 1 + 1 + 1 + 1 + 1, off := 0 }) 2 2], Value.agg #[Value.int IntKind.u8 0, Value.int IntKind.i64 1], Value.slice ba 0 bc, Value.int IntKind.i64 0, Value.bool false, Value.bool false, Value.bool false, Value.agg #[Value.slice (some { block := w.heap.size + 1 + 1 + 1 + 1, off := 0 }) 2 2, Value.slice (some { block := w.heap.size + 1 + 1 + 1 + 1 + 1 + 1, off := 0 }) 2 2], Value.int IntKind.i64 3, Value.bool false, Value.bool false, Value.bool false, Value.agg #[Value.int IntKind.u8 1, Value.int IntKind.i64 2], Value.agg #[Value.int IntKind.u8 1, Value.int IntKind.i64 2], Value.bool false, Value.bool false, Value.bool false, Value.int IntKind.i64 0, Value.bool false, Value.bool false, Value.tuple #[Value.agg #[Value.slice fa fs.length fc, Value.slice ga gs.length gc], Value.int IntKind.i64 0], Value.agg #[Value.slice (some { block := w.heap.size + 1 + 1 + 1 + 1, off := 0 }) 2 2, Value.slice (some { block := w.heap.size + 1 + 1 + 1 + 1 + 1 + 1, off := 0 }) 2 2], Value.agg #[Value.int IntKind.u8 0, Value.int IntKind.i64 2], Value.agg #[Value.int IntKind.u8 1, Value.int IntKind.i64 2], Value.tuple #[Value.agg #[Value.slice fa fs.length fc, Value.slice ga gs.length gc], Value.int IntKind.i64 0], Value.agg #[Value.slice fa fs.length fc, Value.slice ga gs.length gc], Value.int IntKind.i64 0, Value.tuple #[Value.agg #[Value.slice ja js.length jc, Value.slice ka ks.length kc], Value.int IntKind.i64 0], Value.agg #[Value.slice (some { block := w.heap.size + 1 + 1 + 1 + 1, off := 0 }) 2 2, Value.slice (some { block := w.heap.size + 1 + 1 + 1 + 1 + 1 + 1, off := 0 }) 2 2], Value.agg #[Value.int IntKind.u8 1, Value.int IntKind.i64 2], Value.agg #[Value.int IntKind.u8 0, Value.int IntKind.i64 2], Value.tuple #[Value.agg #[Value.slice ja js.length jc, Value.slice ka ks.length kc], Value.int IntKind.i64 0], Value.agg #[Value.slice ja js.length jc, Value.slice ka ks.length kc], Value.int IntKind.i64 0, Value.tuple #[Value.agg #[Value.slice none 0 0, Value.slice none 0 0], Value.int IntKind.i64 13], Value.agg #[Value.slice (some { block := w.heap.size + 1 + 1 + 1 + 1, off := 0 }) 2 2, Value.slice (some { block := w.heap.size + 1 + 1 + 1 + 1 + 1 + 1, off := 0 }) 2 2], Value.agg #[Value.int IntKind.u8 0, Value.int IntKind.i64 1], Value.agg #[Value.int IntKind.u8 1, Value.int IntKind.i64 1], Value.tuple #[Value.agg #[Value.slice none 0 0, Value.slice none 0 0], Value.int IntKind.i64 13], Value.agg #[Value.slice none 0 0, Value.slice none 0 0], Value.int IntKind.i64 13, Value.tuple #[Value.agg #[Value.slice none 0 0, Value.slice none 0 0], Value.int IntKind.i64 1], Value.agg #[Value.slice (some { block := w.heap.size + 1 + 1 + 1 + 1, off := 0 }) 2 2, Value.slice (some { block := w.heap.size + 1 + 1 + 1 + 1 + 1 + 1, off := 0 }) 2 2], Value.agg #[Value.int IntKind.u8 0, Value.int IntKind.i64 2], Value.agg #[Value.int IntKind.u8 0, Value.int IntKind.i64 3], Value.tuple #[Value.agg #[Value.slice none 0 0, Value.slice none 0 0], Value.int IntKind.i64 1], Value.agg #[Value.slice none 0 0, Value.slice none 0 0], Value.int IntKind.i64 1, (sv11 96), (sv11 97), (sv11 98), (sv11 99), (sv11 100), (sv11 101), (sv11 102), (sv11 103), (sv11 104), (sv11 105), (sv11 106), (sv11 107), (sv11 108), (sv11 109), (sv11 110), (sv11 111), (sv11 112), (sv11 113), (sv11 114), (sv11 115), (sv11 116), (sv11 117), (sv11 118), (sv11 119), (sv11 120), (sv11 121), (sv11 122), (sv11 123), (sv11 124), (sv11 125), (sv11 126), (sv11 127), (sv11 128), (sv11 129), (sv11 130), (sv11 131), (sv11 132), (sv11 133), (sv11 134), (sv11 135), (sv11 136), (sv11 137), undef, undef, undef, undef, undef, undef, undef, undef, undef, undef, undef, undef, undef, undef, undef, undef, undef, undef, undef, undef, undef, undef, undef, undef, undef, undef, undef, undef, undef, undef, undef, undef, undef, undef, undef, undef] := ef
    subst hd
    rw [eu_127, eu_130, eu_134] at ef2
    rw [ef2]
    clear ef ef2 hu hs hout hall e_127 eu_127 e_130 eu_130 e_134 eu_134
    simp only [List.drop_succ_cons, List.drop_zero]
    have hBA : Below w.heap.size w wA := hBW9.trans (hI.mono hBW9.size)
    have HLA := Lib.hid (HLW9.out.below hI)
    have HXA := Lib.hid (HXW9.out.below hI HXW9.out.lt)
    have hP : w6.heap.size < wA.heap.size := HXA.out.lt
    have tkS : True := trivial
    have tkA : True := trivial
    have tkB : True := trivial
    clear HLW9 HXW9 HYW9 HDW9 HEW9 HA1 HA2 hBW9 hI HRT1 HRT2
    go_wp2_with (first
      | (go_at_call 20; clear tkS; refine (same_any1 (c := c2) (d := ⟨some ⟨g9, 0, none⟩, [⟨2, 0⟩, ⟨1, 0⟩, ⟨1, 1⟩], 3⟩) wA.heap.size wA (Nat.le_refl _) hok2 hok9 hl2 hcap2).mono ?_; rintro e wB ⟨rfl, hb⟩; have hBB : Below w.heap.size w wB := hBA.trans (hb.mono hBA.size); have HLB := Lib.hid (HLA.out.below hb); have HXB := Lib.hid (HXA.out.below hb HXA.out.lt); clear hok2 hok9 hl2 hcap2 HLA HXA hb; have q3a := HLB.out.q3.cell0; have q3b := HLB.out.q3.cell1; have q4a := HLB.out.q4.cell0; have q4b := HLB.out.q4.cell1; have q5a := HLB.out.q5.cell0; have q5b := HLB.out.q5.cell1)
      | (go_at_call 17; clear tkA; refine (set_any (d0 w.heap.size) T0 0 1 (by omega) ⟨some ⟨wB.heap.size, 0, none⟩, [⟨2, 0⟩], 1⟩ _ (wB.alloc (.cells #[.int .u8 2, .int .i64 0] 28)) (Nat.le_refl _) (HLB.out.below (below1 _ _)).d (d0_reads _) T0_ok (cel1_ok wB ⟨2, 0⟩)).mono ?_; intro e wC hch; have hch : Changed (setT T0 0 1 [⟨2, 0⟩]) (setErr T0 0 1 [⟨2, 0⟩]) _ _ _ := hch; have hch := hch.not (by rw [se1]; decide); rw [se1] at hch; obtain ⟨rfl, hb⟩ := hch; simp only [zBeds]; have hb2 := (below1 wB (.cells #[.int .u8 2, .int .i64 0] 28)).trans (hb.mono (by simp)); have hBC : Below w.heap.size w wC := hBB.trans (hb2.mono hBB.size); have HLC := Lib.hid (HLB.out.below hb2); have HXC := Lib.hid (HXB.out.below hb2 HXB.out.lt); clear HLB HXB q3a q3b q4a q4b q5a q5b hb2 hb; have q2a := HLC.out.q2.cell0; have q2b := HLC.out.q2.cell1; have q4a := HLC.out.q4.cell0; have q4b := HLC.out.q4.cell1; have q6a := HLC.out.q6.cell0; have q6b := HLC.out.q6.cell1)
      | (go_at_call 17; clear tkB; refine (set_any (d0 w.heap.size) T0 0 2 (by omega) ⟨some ⟨wC.heap.size, 0, none⟩, [⟨1, 1⟩], 1⟩ _ (wC.alloc (.cells #[.int .u8 1, .int .i64 1] 28)) (Nat.le_refl _) (HLC.out.below (below1 _ _)).d (d0_reads _) T0_ok (cel1_ok wC ⟨1, 1⟩)).mono ?_; intro e wD hch; have hch : Changed (setT T0 0 2 [⟨1, 1⟩]) (setErr T0 0 2 [⟨1, 1⟩]) _ _ _ := hch; have hch := hch.done se2.1; rw [se2.2] at hch; obtain ⟨⟨⟨la, ls, lc⟩, ⟨ma, ms, mc⟩⟩, rfl, hbd, hb⟩ := hch; simp only [Bds.v, Bed.v]; have hb2 := (below1 wC (.cells #[.int .u8 1, .int .i64 1] 28)).trans (hb.mono (by simp)); have hBD : Below w.heap.size w wD := hBC.trans (hb2.mono hBC.size); have HLD := Lib.hid (HLC.out.below hb2); have HXD := Lib.hid (HXC.out.below hb2 HXC.out.lt); clear HLC q2a q2b q4a q4b q6a q6b hb2; have hx0 := HXD.out.cell0; have hx1 := HXD.out.cell1; have hxf := HXD.out.frozen; have hsz := (below1 wC (.cells #[.int .u8 1, .int .i64 1] 28)).size; have hPC := HXC.out.lt))
    obtain ⟨WE, hWE⟩ : ∃ W, ((wD.setCell ⟨w6.heap.size, 0, none⟩ (.slice la ls.length lc)).setCell ⟨w6.heap.size, 1, none⟩ (.slice ma ms.length mc)) = W := ⟨_, rfl⟩
    have hne6 := box_ne HLD.out.q6 HXD.out (by decide)
    have hne2 := box_ne HLD.out.q2 HXD.out (by decide)
    have hszC : (wC.alloc (.cells #[.int .u8 1, .int .i64 1] 28)).heap.size = wC.heap.size + 1 := by simp
    have nF : ∀ b o, la = some ⟨b, o, none⟩ → b ≠ w6.heap.size := fun b o e => by
      have h1 := hbd.out.2.2.2.1 b o e
      omega
    have nB : ∀ b o, ma = some ⟨b, o, none⟩ → b ≠ w6.heap.size := fun b o e => by
      have h1 := hbd.out.2.2.2.2 b o e
      omega
    have b9 := HXD.out.set0 (.slice la ls.length lc)
    have b4 := b9.set1 (.slice ma ms.length mc)
    have HX15 : Hid (Boxed2 WE w6.heap.size 35 (.slice la ls.length lc) (.slice ma ms.length mc)) := Lib.hid (by rw [← hWE]; exact b4)
    have okF := ((hbd.out.2.2.1.1.set_box HXD.out (isSl_mk _ _ _) (isSl_mk _ _ _) nF 0 (.slice la ls.length lc)).set_box b9 (isSl_mk _ _ _) (isSl_mk _ _ _) nF 1 (.slice ma ms.length mc))
    have okB := ((hbd.out.2.2.1.2.set_box HXD.out (isSl_mk _ _ _) (isSl_mk _ _ _) nB 0 (.slice la ls.length lc)).set_box b9 (isSl_mk _ _ _) (isSl_mk _ _ _) nB 1 (.slice ma ms.length mc))
    have HD15 : Hid (Bds.ok WE.heap.size WE ⟨⟨la, ls, lc⟩, ⟨ma, ms, mc⟩⟩) := Lib.hid (by rw [← hWE]; exact ⟨okF.mono (by simp), okB.mono (by simp)⟩)
    have HQ6 : Hid (Boxed2 WE (w.heap.size + 1 + 1 + 1 + 1 + 1 + 1 + 1 + 1 + 1) 26 (.int .u8 0) (.int .i64 2)) := Lib.hid (by rw [← hWE]; exact (HLD.out.q6.other hne6).other hne6)
    have HQ2 : Hid (Boxed2 WE (w.heap.size + 1) 28 (.int .u8 1) (.int .i64 1)) := Lib.hid (by rw [← hWE]; exact (HLD.out.q2.other hne2).other hne2)
    have hBE : Below w.heap.size w WE := by rw [← hWE]; exact (hBD.setCell (p := ⟨w6.heap.size, 0, none⟩) hP6 _).setCell (p := ⟨w6.heap.size, 1, none⟩) hP6 _
    have HA3 : Hid (Bds.atM ⟨⟨la, ls, lc⟩, ⟨ma, ms, mc⟩⟩ 0 2 = [⟨1, 1⟩]) := Lib.hid (hbd.out.1.atM (k := 0) (i := 1) (by omega) (by omega))
    have HC3 : Hid (cntM (Bds.els ⟨⟨la, ls, lc⟩, ⟨ma, ms, mc⟩⟩) = 2) := Lib.hid (by rw [hbd.out.1.cnt]; decide)
    rw [hWE]
    clear hWE hbd b9 b4 okF okB HXD HLD hBD hne6 hne2 nF nB hx0 hx1 hxf
    refine rgT2 12 [some 154, some 155, some 156, some 157, some 158, some 159, some 160, some 161, some 162, some 163, some 164, some 165, some 166, some 167, some 168, some 169, some 170, some 171, some 172, some 173, some 0] (psiLv15 w.heap.size w6.heap.size la ls lc ma ms mc) (fun w' => Below WE.heap.size WE w') (by kernel_rfl) (by kernel_rfl) (by kernel_rfl) (by kernel_rfl) (psiLv15_stab w.heap.size w6.heap.size la ls lc ma ms mc) (fun _ _ h hb => h.trans (hb.mono h.size)) (fun i9 o9 hi9 ho9 aq9 w1 hs hout hI hdep => ?_) ?_ ((Below.refl _ _).drew)
    · skip
      match i9, hi9, ho9 with
      | 0, _, ho9 =>
        obtain rfl := Option.some.inj ho9
        refine .inl ⟨rfl, fun K hK => ?_⟩
        exact st_move rfl ((hout 9 rfl).trans rfl) (hK _ _ (Below.refl _ _) rfl)
      | 1, _, ho9 =>
        obtain rfl := Option.some.inj ho9
        have dq0 : (aq9.tmps.getD 154 undef) = .int .i64 8 := hdep ⟨0, .data⟩ (by simp) rfl _ rfl
        refine .inl ⟨rfl, fun K hK => ?_⟩
        exact st_eql_37 rfl dq0 rfl (hK _ _ (Below.refl _ _) (congrArg Value.bool (by decide)))
      | 2, _, ho9 =>
        obtain rfl := Option.some.inj ho9
        have dq1 : (aq9.tmps.getD 155 undef) = .bool true := hdep ⟨1, .data⟩ (by simp) rfl _ rfl
        refine .inl ⟨rfl, fun K hK => ?_⟩
        exact st_move rfl dq1 (hK _ _ (Below.refl _ _) rfl)
      | 3, _, ho9 =>
        obtain rfl := Option.some.inj ho9
        have qg : (aq9.tmps.getD 156 undef) = .bool true := hdep ⟨2, .guard⟩ (by simp) rfl _ rfl
        refine .inl ⟨wanted_of (j := 2) (d := 156) rfl rfl rfl (by rw [hs]; exact of_decide_eq_true (by kernel_rfl)) qg, fun K hK => ?_⟩
        exact st_move rfl ((hout 12 rfl).trans rfl) (hK _ _ (Below.refl _ _) rfl)
      | 4, _, ho9 =>
        obtain rfl := Option.some.inj ho9
        have dq3 : (aq9.tmps.getD 157 undef) = .int .i64 0 := hdep ⟨3, .data⟩ (by simp) rfl _ rfl
        have qg : (aq9.tmps.getD 156 undef) = .bool true := hdep ⟨2, .guard⟩ (by simp) rfl _ rfl
        refine .inl ⟨wanted_of (j := 2) (d := 156) rfl rfl rfl (by rw [hs]; exact of_decide_eq_true (by kernel_rfl)) qg, fun K hK => ?_⟩
        exact st_eql_37 rfl dq3 rfl (hK _ _ (Below.refl _ _) (congrArg Value.bool (by decide)))
      | 5, _, ho9 =>
        obtain rfl := Option.some.inj ho9
        have dq2 : (aq9.tmps.getD 156 undef) = .bool true := hdep ⟨2, .data⟩ (by simp) rfl _ rfl
        have dq4 : (aq9.tmps.getD 158 undef) = .bool true := hdep ⟨4, .data⟩ (by simp) rfl _ rfl
        refine .inl ⟨rfl, fun K hK => ?_⟩
        exact st_and rfl dq2 (fun _ => dq4) (hK _ _ (Below.refl _ _) rfl)
      | 6, _, ho9 =>
        obtain rfl := Option.some.inj ho9
        have dq5 : (aq9.tmps.getD 159 undef) = .bool true := hdep ⟨5, .data⟩ (by simp) rfl _ rfl
        refine .inl ⟨rfl, fun K hK => ?_⟩
        exact st_move rfl dq5 (hK _ _ (Below.refl _ _) rfl)
      | 7, _, ho9 =>
        obtain rfl := Option.some.inj ho9
        have qg : (aq9.tmps.getD 160 undef) = .bool true := hdep ⟨6, .guard⟩ (by simp) rfl _ rfl
        refine .inl ⟨wanted_of (j := 6) (d := 160) rfl rfl rfl (by rw [hs]; exact of_decide_eq_true (by kernel_rfl)) qg, fun K hK => ?_⟩
        exact ld35 rfl ((hout 10 rfl).trans rfl) (HX15.out.below hI HX15.out.lt).cell0 (HX15.out.below hI HX15.out.lt).cell1 (hK _ _ (Below.refl _ _) rfl)
      | 8, _, ho9 =>
        obtain rfl := Option.some.inj ho9
        have qg : (aq9.tmps.getD 160 undef) = .bool true := hdep ⟨6, .guard⟩ (by simp) rfl _ rfl
        refine .inl ⟨wanted_of (j := 6) (d := 160) rfl rfl rfl (by rw [hs]; exact of_decide_eq_true (by kernel_rfl)) qg, fun K hK => ?_⟩
        exact ld26 rfl ((hout 6 rfl).trans rfl) (HQ6.out.below hI HQ6.out.lt).cell0 (HQ6.out.below hI HQ6.out.lt).cell1 (hK _ _ (Below.refl _ _) rfl)
      | 9, _, ho9 =>
        obtain rfl := Option.some.inj ho9
        have dq7 : (aq9.tmps.getD 161 undef) = .agg #[.slice la ls.length lc, .slice ma ms.length mc] := hdep ⟨7, .data⟩ (by simp) rfl _ rfl
        have dq8 : (aq9.tmps.getD 162 undef) = .agg #[.int .u8 0, .int .i64 2] := hdep ⟨8, .data⟩ (by simp) rfl _ rfl
        have qg : (aq9.tmps.getD 160 undef) = .bool true := hdep ⟨6, .guard⟩ (by simp) rfl _ rfl
        refine .inl ⟨wanted_of (j := 6) (d := 160) rfl rfl rfl (by rw [hs]; exact of_decide_eq_true (by kernel_rfl)) qg, fun K hK => ?_⟩
        exact step_calls rfl enter12 (vs := #[.agg #[.slice la ls.length lc, .slice ma ms.length mc], .agg #[.int .u8 0, .int .i64 2]]) (vals2 dq7 dq8) ((at_any ⟨⟨la, ls, lc⟩, ⟨ma, ms, mc⟩⟩ 0 2 (by omega) w1.heap.size w1 (Nat.le_refl _) (HD15.out.onw hI)).mono fun e w' hh => by
          obtain ⟨c2, rfl, hc, hb⟩ := hh
          rw [HA3.out] at hc
          exact ⟨_, rfl, hK _ _ hb ⟨c2, rfl, hc.out.1, by rw [hc.out.2.1, hc.out.1], hc.out.2.2⟩⟩)
      | 10, _, ho9 =>
        obtain rfl := Option.some.inj ho9
        have qg : (aq9.tmps.getD 160 undef) = .bool true := hdep ⟨6, .guard⟩ (by simp) rfl _ rfl
        refine .inl ⟨wanted_of (j := 6) (d := 160) rfl rfl rfl (by rw [hs]; exact of_decide_eq_true (by kernel_rfl)) qg, fun K hK => ?_⟩
        exact ld28 rfl ((hout 2 rfl).trans rfl) (HQ2.out.below hI HQ2.out.lt).cell0 (HQ2.out.below hI HQ2.out.lt).cell1 (hK _ _ (Below.refl _ _) rfl)
      | 11, _, ho9 =>
        obtain rfl := Option.some.inj ho9
        have dq10 : (aq9.tmps.getD 164 undef) = .agg #[.int .u8 1, .int .i64 1] := hdep ⟨10, .data⟩ (by simp) rfl _ rfl
        have qg : (aq9.tmps.getD 160 undef) = .bool true := hdep ⟨6, .guard⟩ (by simp) rfl _ rfl
        refine .inl ⟨wanted_of (j := 6) (d := 160) rfl rfl rfl (by rw [hs]; exact of_decide_eq_true (by kernel_rfl)) qg, fun K hK => ?_⟩
        exact st_bs1 rfl dq10 (hK _ _ (below1 _ _) ⟨_, rfl, cel1_ok w1 ⟨1, 1⟩⟩)
      | i9 + 12, hi9, _ => exact absurd hi9 (by omega)
    · intro a2 wF hs hd hout hI hall
      obtain ⟨tmps, defers⟩ := a2
      have e_160 : (tmps.getD 160 undef) = .bool true := hall 6 _ (by decide) rfl
      have e_163 : ∃ c2 : Cel, (tmps.getD 163 undef) = c2.v ∧ c2.l = [⟨1, 1⟩] ∧ c2.cap = c2.l.length ∧ c2.ok wF.heap.size wF := hall 9 _ (by decide) rfl
      obtain ⟨c3, e_163, hl3, hcap3, hok3⟩ := e_163
      have e_165 : ∃ g, (tmps.getD 165 undef) = .slice (some ⟨g, 0, none⟩) 1 1 ∧ Cel.ok wF.heap.size wF ⟨some ⟨g, 0, none⟩, [⟨1, 1⟩], 1⟩ := hall 11 _ (by decide) rfl
      obtain ⟨g8, e_165, hok8⟩ := e_165
      simp only at hs hd hout
      have ef := frameAt [some 154, some 155, some 156, some 157, some 158, some 159, some 160, some 161, some 162, some 163, some 164, some 165, some 166, some 167, some 168, some 169, some 170, some 171, some 172, some 173, some 0] _ tmps hs hout
      obtain ⟨sv15, hu⟩ : ∃ u : Nat → Value, u = fun s => tmps.getD s undef := ⟨_, rfl⟩
      have eu_160 : sv15 160 = .bool true := by rw [hu]; exact e_160
      have eu_163 : sv15 163 = c3.v := by rw [hu]; exact e_163
      have eu_165 : sv15 165 = .slice (some ⟨g8, 0, none⟩) 1 1 := by rw [hu]; exact e_165
      rw [← hu] at ef
      have ef2 : tmps = #[(sv15 0), Value.pointer (some { block := w.heap.size, off := 0 }), Value.pointer (some { block := w.heap.size + 1, off := 0 }), Value.pointer (some { block := w.heap.size + 1 + 1, off := 0 }), Value.pointer (some { block := w.heap.size + 1 + 1 + 1 + 1 + 1 + 1 + 1, off := 0 }), Value.pointer (some { block := w.heap.size + 1 + 1 + 1 + 1 + 1 + 1 + 1 + 1, off := 0 }), Value.pointer (some { block := w.heap.size + 1 + 1 + 1 + 1 + 1 + 1 + 1 + 1 + 1, off := 0 }), Value.pointer (some { block := w.heap.size + 1 + 1 + 1 + 1 + 1 + 1 + 1 + 1 + 1 + 1, off := 0 }), Value.pointer (some { block := w1.heap.size, off := 0 }), Value.int IntKind.i64 8, Value.pointer (some { block := w6.heap.size, off := 0 }), Value.pointer (some { block := w7.heap.size, off := 0 }), Value.int IntKind.i64 0, Value.pointer (some { block := w8.heap.size, off := 0 }), Value.int IntKind.i64 13, Value.pointer (some { block := w9.heap.size, off := 0 }), Value.int IntKind.i64 1, Value.agg #[Value.int IntKind.u8 1, Value.int IntKind.i64 0], Value.agg #[Value.int IntKind.u8 1, Value.int IntKind.i64 1], Value.agg #[Value.int IntKind.u8 2, Value.int IntKind.i64 0], Value.agg #[Value.int IntKind.u8 1, Value.int IntKind.i64 0], Value.agg #[Value.int IntKind.u8 1, Value.int IntKind.i64 1], Value.slice (some { block := w.heap.size + 1 + 1 + 1, off := 0 }) 2 2, Value.slice (some { block := w.heap.size + 1 + 1 + 1 + 1, off := 0 }) 2 2, Value.agg #[Value.int IntKind.u8 2, Value.int IntKind.i64 0], Value.slice (some { block := w.heap.size + 1 + 1 + 1 + 1 + 1, off := 0 }) 1 1, Value.slice (some { block := w.heap.size + 1 + 1 + 1 + 1 + 1 + 1, off := 0 }) 2 2, Value.agg #[Value.slice (some { block := w.heap.size + 1 + 1 + 1 + 1, off := 0 }) 2 2, Value.slice (some { block := w.heap.size + 1 + 1 + 1 + 1 + 1 + 1, off := 0 }) 2 2], Value.agg #[Value.int IntKind.u8 0, Value.int IntKind.i64 1], Value.agg #[Value.int IntKind.u8 0, Value.int IntKind.i64 2], Value.agg #[Value.int IntKind.u8 1, Value.int IntKind.i64 2], Value.tuple #[Value.agg #[Value.int IntKind.u8 1, Value.int IntKind.i64 2], Value.int IntKind.i64 0], Value.agg #[Value.slice (some { block := w.heap.size + 1 + 1 + 1 + 1, off := 0 }) 2 2, Value.slice (some { block := w.heap.size + 1 + 1 + 1 + 1 + 1 + 1, off := 0 }) 2 2], Value.agg #[Value.int IntKind.u8 2, Value.int IntKind.i64 0], Value.tuple #[Value.agg #[Value.int IntKind.u8 1, Value.int IntKind.i64 2], Value.int IntKind.i64 0], Value.agg #[Value.int IntKind.u8 1, Value.int IntKind.i64 2], Value.int IntKind.i64 0, Value.agg #[Value.slice (some { block := w.heap.size + 1 + 1 + 1 + 1, off := 0 }) 2 2, Value.slice (some { block := w.heap.size + 1 + 1 + 1 + 1 + 1 + 1, off := 0 }) 2 2], Value.int IntKind.i64 0, Value.bool false, Value.bool false, Value.agg #[Value.slice (some { block := w.heap.size + 1 + 1 + 1 + 1, off := 0 }) 2 2, Value.slice (some { block := w.heap.size + 1 + 1 + 1 + 1 + 1 + 1, off := 0 }) 2 2], Value.agg #[Value.int IntKind.u8 0, Value.int IntKind.i64 2], Value.slice aa 2 ac, Value.int IntKind.i64 2, Value.bool false, Value.bool false, Value.bool false, Value.agg #[Value.slice (some { block := w.heap.size + 1 + 1 + 1 + 1, off := 0 }) 2 2, Value.slice (some { block := w.heap.size + 1 + 1 + 1 + 1 + 1 + 1, off := 0 }) 2 2], Value.agg #[Value.int IntKind.u8 0, Value.int IntKind.i64 1], Value.slice ba 0 bc, Value.int IntKind.i64 0, Value.bool false, Value.bool false, Value.bool false, Value.agg #[Value.slice (some { block := w.heap.size + 1 + 1 + 1 + 1, off := 0 }) 2 2, Value.slice (some { block := w.heap.size + 1 + 1 + 1 + 1 + 1 + 1, off := 0 }) 2 2], Value.int IntKind.i64 3, Value.bool false, Value.bool false, Value.bool false, Value.agg #[Value.int IntKind.u8 1, Value.int IntKind.i64 2], Value.agg #[Value.int IntKind.u8 1, Value.int IntKind.i64 2], Value.bool false, Value.bool false, Value.bool false, Value.int IntKind.i64 0, Value.bool false, Value.bool false, Value.tuple #[Value.agg #[Value.slice fa fs.length fc, Value.slice ga gs.length gc], Value.int IntKind.i64 0], Value.agg #[Value.slice (some { block := w.heap.size + 1 + 1 + 1 + 1, off := 0 }) 2 2, Value.slice (some { block := w.heap.size + 1 + 1 + 1 + 1 + 1 + 1, off := 0 }) 2 2], Value.agg #[Value.int IntKind.u8 0, Value.int IntKind.i64 2], Value.agg #[Value.int IntKind.u8 1, Value.int IntKind.i64 2], Value.tuple #[Value.agg #[Value.slice fa fs.length fc, Value.slice ga gs.length gc], Value.int IntKind.i64 0], Value.agg #[Value.slice fa fs.length fc, Value.slice ga gs.length gc], Value.int IntKind.i64 0, Value.tuple #[Value.agg #[Value.slice ja js.length jc, Value.slice ka ks.length kc], Value.int IntKind.i64 0], Value.agg #[Value.slice (some { block := w.heap.size + 1 + 1 + 1 + 1, off := 0 }) 2 2, Value.slice (some { block := w.heap.size + 1 + 1 + 1 + 1 + 1 + 1, off := 0 }) 2 2], Value.agg #[Value.int IntKind.u8 1, Value.int IntKind.i64 2], Value.agg #[Value.int IntKind.u8 0, Value.int IntKind.i64 2], Value.tuple #[Value.agg #[Value.slice ja js.length jc, Value.slice ka ks.length kc], Value.int IntKind.i64 0], Value.agg #[Value.slice ja js.length jc, Value.slice ka ks.length kc], Value.int IntKind.i64 0, Value.tuple #[Value.agg #[Value.slice none 0 0, Value.slice none 0 0], Value.int IntKind.i64 13], Value.agg #[Value.slice (some { block := w.heap.size + 1 + 1 + 1 + 1, off := 0 }) 2 2, Value.slice (some { block := w.heap.size + 1 + 1 + 1 + 1 + 1 + 1, off := 0 }) 2 2], Value.agg #[Value.int IntKind.u8 0, Value.int IntKind.i64 1], Value.agg #[Value.int IntKind.u8 1, Value.int IntKind.i64 1], Value.tuple #[Value.agg #[Value.slice none 0 0, Value.slice none 0 0], Value.int IntKind.i64 13], Value.agg #[Value.slice none 0 0, Value.slice none 0 0], Value.int IntKind.i64 13, Value.tuple #[Value.agg #[Value.slice none 0 0, Value.slice none 0 0], Value.int IntKind.i64 1], Value.agg #[Value.slice (some { block := w.heap.size + 1 + 1 + 1 + 1, off := 0 }) 2 2, Value.slice (some { block := w.heap.size + 1 + 1 + 1 + 1 + 1 + 1, off := 0 }) 2 2], Value.agg #[Value.int IntKind.u8 0, Value.int IntKind.i64 2], Value.agg #[Value.int IntKind.u8 0, Value.int IntKind.i64 3], Value.tuple #[Value.agg #[Value.slice none 0 0, Value.slice none 0 0], Value.int IntKind.i64 1], Value.agg #[Value.slice none 0 0, Value.slice none 0 0], Value.int IntKind.i64 1, sv11 96, sv11 97, sv11 98, sv11 99, sv11 100, sv11 101, sv11 102, sv11 103, sv11 104, sv11 105, sv11 106, sv11 107, sv11 108, sv11 109, sv11 110, sv11 111, sv11 112, sv11 113, sv11 114, sv11 115, sv11 116, sv11 117, sv11 118, sv11 119, sv11 120, sv11 121, sv11 122, sv11 123, sv11 124, sv11 125, sv11 126, Value.bool false, sv11 128, sv11 129, c2.v, sv11 131, sv11 132, sv11 133, Value.slice (some { block := g9, off := 0 }) 3 3, Value.int IntKind.i64 1, Value.bool false, Value.bool false, Value.tuple #[Value.agg #[Value.slice none 0 0, Value.slice none 0 0], Value.int IntKind.i64 8], Value.agg #[Value.slice (some { block := w.heap.size + 1 + 1 + 1 + 1, off := 0 }) 2 2, Value.slice (some { block := w.heap.size + 1 + 1 + 1 + 1 + 1 + 1, off := 0 }) 2 2], Value.agg #[Value.int IntKind.u8 0, Value.int IntKind.i64 1], Value.agg #[Value.int IntKind.u8 2, Value.int IntKind.i64 0], Value.slice (some { block := wB.heap.size, off := 0 }) 1 1, Value.tuple #[Value.agg #[Value.slice none 0 0, Value.slice none 0 0], Value.int IntKind.i64 8], Value.agg #[Value.slice none 0 0, Value.slice none 0 0], Value.int IntKind.i64 8, Value.tuple #[Value.agg #[Value.slice la ls.length lc, Value.slice ma ms.length mc], Value.int IntKind.i64 0], Value.agg #[Value.slice (some { block := w.heap.size + 1 + 1 + 1 + 1, off := 0 }) 2 2, Value.slice (some { block := w.heap.size + 1 + 1 + 1 + 1 + 1 + 1, off := 0 }) 2 2], Value.agg #[Value.int IntKind.u8 0, Value.int IntKind.i64 2], Value.agg #[Value.int IntKind.u8 1, Value.int IntKind.i64 1], Value.slice (some { block := wC.heap.size, off := 0 }) 1 1, Value.tuple #[Value.agg #[Value.slice la ls.length lc, Value.slice ma ms.length mc], Value.int IntKind.i64 0], Value.agg #[Value.slice la ls.length lc, Value.slice ma ms.length mc], Value.int IntKind.i64 0, (sv15 154), (sv15 155), (sv15 156), (sv15 157), (sv15 158), (sv15 159), (sv15 160), (sv15 161), (sv15 162), (sv15 163), (sv15 164), (sv15 165), (sv15 166), (sv15 167), (sv15 168), (sv15 169), (sv15 170), (sv15 171), (sv15 172), (sv15 173)] := ef
      subst hd
      rw [eu_160, eu_163, eu_165] at ef2
      rw [ef2]
      clear ef ef2 hu hs hout hall e_160 eu_160 e_163 eu_163 e_165 eu_165
      simp only [List.drop_succ_cons, List.drop_zero]
      have hBF : Below w.heap.size w wF := hBE.trans (hI.mono hBE.size)
      have HXF := Lib.hid (HX15.out.below hI HX15.out.lt)
      have HDF := Lib.hid (HD15.out.onw hI)
      clear HX15 HD15 HQ6 HQ2 hBE hI HA3
      go_wp2_with (first
        | (go_at_call 20; refine (same_any1 (c := c3) (d := ⟨some ⟨g8, 0, none⟩, [⟨1, 1⟩], 1⟩) wF.heap.size wF (Nat.le_refl _) hok3 hok8 hl3 hcap3).mono ?_; rintro e wG ⟨rfl, hb⟩; have hBG : Below w.heap.size w wG := hBF.trans (hb.mono hBF.size); have HXG := Lib.hid (HXF.out.below hb HXF.out.lt); have HDG := Lib.hid (HDF.out.onw hb); have x0 := HXG.out.cell0; have x1 := HXG.out.cell1; clear hok3 hok8 hl3 hcap3 HXF HDF hb)
        | (go_at_call 15; refine (count_any ⟨⟨la, ls, lc⟩, ⟨ma, ms, mc⟩⟩ wG.heap.size wG (Nat.le_refl _) HDG.out).mono ?_; rw [HC3.out]; rintro e wH ⟨rfl, hb⟩; have hBH : Below w.heap.size w wH := hBG.trans (hb.mono hBG.size)))
      go_ret
      exact ⟨rfl, hBH⟩
end Go.Proofs.Ytjjnhmbgffdenaa
