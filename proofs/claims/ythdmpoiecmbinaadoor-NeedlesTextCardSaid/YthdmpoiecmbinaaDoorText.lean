import Derived.Test.YthdmpoiecmbinaaDoorBase
import Derived.Test.YthdmpoiecmbinaaDoorShelf
import Derived.Deep.QuietTactic
import Derived.BigQuiet
import Derived.Stop.LaidErr
import Derived.Lib.AtoiAllCases
import Derived.Shelf.Strconv.ErrVarAll
import Derived.Outline
namespace Go.Proofs.YthdmpoiecmbinaaDoor
open Go.RowKit

/-- The text of a needle. -/
def txt (b : Int) (n : Nat) : List UInt8 := (if b = 1 then 98 else 102) :: Lib.decDigits n

theorem text_bad (b a : Int) (w : World) (h : ¬ (b ≤ 1 ∧ 1 ≤ a ∧ a ≤ 40)) :
    Calls Tryd.prog 17 #[.agg #[.int .u8 b, .int .i64 a]] w fun e w' => e = .returned (.string ⟨#[]⟩) ∧ Below w.heap.size w w' := by
  have HV := Lib.hid h
  clear h
  go_enter Tryd.func17, Tryd.ntmps17
  go_wp2_with (go_at_call 10; refine (check_bad _ _ _ HV.out).mono ?_; rintro e w' ⟨rfl, hb⟩; obtain ⟨hc, hf⟩ := bcell hb; have hz := hb.size)
  go_ret
  exact ⟨rfl, ((Below.refl _ _).alloc (Nat.le_refl _) _).trans (hb.mono (by simp))⟩

theorem boxed {b a : Int} {w wr : World} (hb : Below (w.heap.size + 1) (w.alloc (Obj.cells #[Value.int IntKind.u8 b, Value.int IntKind.i64 a] 24)) wr) :
    wr.cell? ⟨w.heap.size, 0, none⟩ = some (.int .u8 b) ∧ wr.cell? ⟨w.heap.size, 1, none⟩ = some (.int .i64 a) ∧ w.heap.size + 1 ≤ wr.heap.size := by
  have hz := hb.size
  rw [hb.cell (p := ⟨w.heap.size, 0, none⟩) (by simp), hb.cell (p := ⟨w.heap.size, 1, none⟩) (by simp)]
  simp at hz
  refine ⟨?_, ?_, by omega⟩ <;> go_simp

theorem digits_le (n : Nat) (h : n ≤ 40) : (Lib.decDigits n).length ≤ 2 := by
  by_cases h1 : n < 10
  · rw [Lib.decDigits_one h1]; simp
  · rw [Lib.decDigits_two h1 (by omega)]; simp

theorem cat (c : UInt8) (n : Nat) (h : n ≤ 40) (w : World) : (Op.stringOp .add ⟨#[c]⟩ ⟨(Lib.decDigits n).toArray⟩).run Tryd.prog w = .ok (.string ⟨(c :: Lib.decDigits n).toArray⟩) w := by
  have hd := digits_le n h
  rw [run_string_add_sum]
  · congr 2
  · show 1 + (Lib.decDigits n).toArray.size ≤ _
    have e : (Lib.decDigits n).toArray.size = (Lib.decDigits n).length := by simp
    omega

theorem text_front (n : Nat) (w : World) (h1 : 1 ≤ n) (h2 : n ≤ 40) :
    Calls Tryd.prog 17 #[.agg #[.int .u8 0, .int .i64 n]] w fun e w' => e = .returned (.string ⟨(102 :: Lib.decDigits n).toArray⟩) ∧ Below w.heap.size w w' := by
  have i0 : ∀ w, (Instr.index 9 (.string ⟨#[102, 98]⟩) (.int .u8 0)).run Tryd.prog w = .ok (.int .u8 102) w := fun _ => by kernel_rfl
  have k0 : ∀ w, (convert 5 9 (.int .u8 102)).run Tryd.prog w = .ok (.string ⟨#[102]⟩) w := fun _ => by kernel_rfl
  have a0 := cat 102 n h2
  go_enter Tryd.func17, Tryd.ntmps17
  go_wp2_with (go_at_call 10; refine (check_ok _ _ _ (by omega) (by omega) (by omega)).mono ?_; rintro e w' ⟨rfl, hb⟩; have hb1 := hb.mono (B' := w.heap.size + 1) (by simp); clear hb; obtain ⟨c0, c1, hz⟩ := boxed hb1)
  have HB := Lib.hid hb1
  clear hb1
  go_quiet ((go_at_call 20; exact Calls.quiet_of_same (Tryd.strconv_Itoa_small n (by omega) _)))
  go_wp2
  go_ret
  exact ⟨rfl, below_drewN (((Below.refl _ _).alloc (Nat.le_refl _) _).trans (HB.out.mono (by omega))) _⟩

theorem text_back (n : Nat) (w : World) (h1 : 1 ≤ n) (h2 : n ≤ 40) :
    Calls Tryd.prog 17 #[.agg #[.int .u8 1, .int .i64 n]] w fun e w' => e = .returned (.string ⟨(98 :: Lib.decDigits n).toArray⟩) ∧ Below w.heap.size w w' := by
  have i0 : ∀ w, (Instr.index 9 (.string ⟨#[102, 98]⟩) (.int .u8 1)).run Tryd.prog w = .ok (.int .u8 98) w := fun _ => by kernel_rfl
  have k0 : ∀ w, (convert 5 9 (.int .u8 98)).run Tryd.prog w = .ok (.string ⟨#[98]⟩) w := fun _ => by kernel_rfl
  have a0 := cat 98 n h2
  go_enter Tryd.func17, Tryd.ntmps17
  go_wp2_with (go_at_call 10; refine (check_ok _ _ _ (by omega) (by omega) (by omega)).mono ?_; rintro e w' ⟨rfl, hb⟩; have hb1 := hb.mono (B' := w.heap.size + 1) (by simp); clear hb; obtain ⟨c0, c1, hz⟩ := boxed hb1)
  have HB := Lib.hid hb1
  clear hb1
  go_quiet ((go_at_call 20; exact Calls.quiet_of_same (Tryd.strconv_Itoa_small n (by omega) _)))
  go_wp2
  go_ret
  exact ⟨rfl, below_drewN (((Below.refl _ _).alloc (Nat.le_refl _) _).trans (HB.out.mono (by omega))) _⟩

theorem text_ok (b : Int) (n : Nat) (w : World) (hb : b = 0 ∨ b = 1) (h1 : 1 ≤ n) (h2 : n ≤ 40) :
    Calls Tryd.prog 17 #[.agg #[.int .u8 b, .int .i64 n]] w fun e w' => e = .returned (.string ⟨(txt b n).toArray⟩) ∧ Below w.heap.size w w' := by
  rcases hb with rfl | rfl
  · exact text_front n w h1 h2
  · exact text_back n w h1 h2

/-- Whether a text is that of a needle. -/
def IsText (l : List UInt8) : Prop := ∃ (b : Int) (n : Nat), (b = 0 ∨ b = 1) ∧ 1 ≤ n ∧ n ≤ 40 ∧ l = txt b n

theorem atoi_digits (n : Nat) (h : n ≤ 40) : Lib.atoiAll (Lib.decDigits n) = .ok n := by
  have all : ∀ k : Fin 41, Lib.atoiAll (Lib.decDigits k.val) = .ok (k.val : Int) := by decide +kernel
  exact all ⟨n, by omega⟩

/-- What the two errors of the library hold. -/
def Errs (w : World) : Prop := (∃ tp p, w.var? Tryd.prog "strconv.ErrSyntax" = some #[.iface tp p]) ∧ (∃ tp p, w.var? Tryd.prog "strconv.ErrRange" = some #[.iface tp p])
theorem Errs.alloc {w : World} (h : Errs w) (o : Obj) : Errs (w.alloc o) := by
  obtain ⟨⟨t1, p1, h1⟩, t2, p2, h2⟩ := h
  exact ⟨⟨t1, p1, var?_alloc h1⟩, t2, p2, var?_alloc h2⟩

theorem atoi_ok (s : ByteArray) (hl : s.size ≤ 1000) (v : Int) (h : Lib.atoiAll s.data.toList = .ok v) (w : World) :
    Calls Tryd.prog 22 #[.string s] w fun e w' => e = .returned (.tuple #[.int .i64 v, .nilIface]) ∧ Below w.heap.size w w' := by
  refine (Tryd.strconv_Atoi_ok s (by omega) v h w).mono fun e w' ⟨he, hw⟩ => ⟨he, ?_⟩
  rcases hw with rfl | ⟨t, rfl⟩
  · exact Below.refl _ _
  · exact Lib.bytesWorld_below w 5 t

theorem atoi_err (s : ByteArray) (hl : s.size ≤ 1000) (h : ∀ v, Lib.atoiAll s.data.toList ≠ .ok v) (w : World) (hE : Errs w) :
    Calls Tryd.prog 22 #[.string s] w fun e w' => ∃ v N, e = .returned (.tuple #[.int .i64 v, .iface 55 (.pointer (some ⟨N, 0, none⟩))]) ∧ Below w.heap.size w w' := by
  obtain ⟨⟨t1, p1, h1⟩, t2, p2, h2⟩ := hE
  cases ha : Lib.atoiAll s.data.toList
  · exact absurd ha (h _)
  · have c : Calls Tryd.prog 22 #[.string s] w fun e w' => ∃ N, e = .returned (.tuple #[.int .i64 0, .iface 55 (.pointer (some ⟨N, 0, none⟩))]) ∧ w.heap.size ≤ N ∧ w'.heap[N]? = some (.cells #[.string ⟨#[65, 116, 111, 105]⟩, .string s, .iface t1 p1] 69 (0, 0)) ∧ Below w.heap.size w w' :=
      Any.strconv_Atoi_syntax_var Tryd.laysC172 s (by omega) ha t1 p1 w h1
    exact c.mono fun e w' ⟨N, he, _, _, hb⟩ => ⟨0, N, he, hb⟩
  · have c : Calls Tryd.prog 22 #[.string s] w fun e w' => ∃ N, e = .returned (.tuple #[.int .i64 (Lib.atoiSat s.data.toList), .iface 55 (.pointer (some ⟨N, 0, none⟩))]) ∧ w.heap.size ≤ N ∧ w'.heap[N]? = some (.cells #[.string ⟨#[65, 116, 111, 105]⟩, .string s, .iface t2 p2] 69 (0, 0)) ∧ Below w.heap.size w w' :=
      Any.strconv_Atoi_range_var Tryd.laysC172 s (by omega) ha t2 p2 w h2
    exact c.mono fun e w' ⟨N, he, _, _, hb⟩ => ⟨_, N, he, hb⟩

theorem ext_tail (c : UInt8) (l : List UInt8) : (({ data := (c :: l).toArray } : ByteArray).extract 1 (l.length + 1)).data.toList = l := by
  simp [ByteArray.data_extract]
theorem ext_size (c : UInt8) (l : List UInt8) : (({ data := (c :: l).toArray } : ByteArray).extract 1 (l.length + 1)).size = l.length := by
  simp [ByteArray.size]

theorem resd {w wr : World} (hb : Below (w.heap.size + 1) (w.alloc (Obj.cells #[Value.int IntKind.u8 0, Value.int IntKind.i64 0] 24)) wr) :
    wr.cell? ⟨w.heap.size, 0, none⟩ = some (.int .u8 0) ∧ wr.cell? ⟨w.heap.size, 1, none⟩ = some (.int .i64 0) ∧
    wr.frozen? ⟨w.heap.size, 0, none⟩ = false ∧ wr.frozen? ⟨w.heap.size, 1, none⟩ = false ∧ w.heap.size + 1 ≤ wr.heap.size := by
  have hz := hb.size
  rw [hb.cell (p := ⟨w.heap.size, 0, none⟩) (by simp), hb.cell (p := ⟨w.heap.size, 1, none⟩) (by simp), hb.frozen (p := ⟨w.heap.size, 0, none⟩) (by simp), hb.frozen (p := ⟨w.heap.size, 1, none⟩) (by simp)]
  simp at hz
  refine ⟨?_, ?_, ?_, ?_, by omega⟩ <;> go_simp
theorem resdo {w wr : World} (hb : Below (w.heap.size + 1) (w.alloc (Obj.cells #[Value.int IntKind.u8 0, Value.int IntKind.i64 0] 24)) wr) :
    (∀ o, (wr.alloc o).cell? ⟨w.heap.size, 0, none⟩ = some (.int .u8 0)) ∧ (∀ o, (wr.alloc o).cell? ⟨w.heap.size, 1, none⟩ = some (.int .i64 0)) ∧
    (∀ o, (wr.alloc o).frozen? ⟨w.heap.size, 0, none⟩ = false) ∧ (∀ o, (wr.alloc o).frozen? ⟨w.heap.size, 1, none⟩ = false) := by
  have hz := (resd hb).2.2.2.2
  have h := fun o => resd (hb.alloc hz o)
  exact ⟨fun o => (h o).1, fun o => (h o).2.1, fun o => (h o).2.2.1, fun o => (h o).2.2.2.1⟩

theorem parse_empty (w : World) : Calls Tryd.prog 18 #[.string ⟨#[]⟩] w fun e w' => e = .returned (.tuple #[.agg #[.int .u8 0, .int .i64 0], .int .i64 4]) ∧ Below w.heap.size w w' := by
  go_enter Tryd.func18, Tryd.ntmps18
  go_wp2
  exact bodyPost_ret (v := .tuple #[.agg #[.int .u8 0, .int .i64 0], .int .i64 4]) (by simp [results, Tryd.results18, go_sem]) rfl ⟨rfl, (Below.refl _ _).alloc (Nat.le_refl _) _⟩

theorem parse_nobed_err (c : UInt8) (l : List UInt8) (hl : l.length ≤ 100) (w : World) (hE : Errs w) (hix : Lib.indexByte [102, 98] (({ data := (c :: l).toArray } : ByteArray)[0]'(by show 0 < (c :: l).toArray.size; simp)) = -1) (h : ∀ v, Lib.atoiAll l ≠ .ok v) :
    Calls Tryd.prog 18 #[.string ⟨(c :: l).toArray⟩] w fun e w' => e = .returned (.tuple #[.agg #[.int .u8 0, .int .i64 0], .int .i64 4]) ∧ Below w.heap.size w w' := by
  have HA := Lib.hid h
  clear h
  go_enter Tryd.func18, Tryd.ntmps18
  go_wp2_with (first
    | (go_at_call 21; refine (Tryd.strings_IndexByte _ _ _).mono ?_; rintro e w' ⟨rfl, rfl⟩)
    | (go_at_call 22; refine (atoi_err _ (by rw [ext_size]; omega) (by rw [ext_tail]; exact HA.out) _ (hE.alloc _)).mono ?_; rintro e w' ⟨v, N, rfl, hb⟩; have hb1 := hb.mono (B' := w.heap.size + 1) (by simp); clear hb; obtain ⟨c0, c1, f0, f1, hz⟩ := resd hb1))
  exact bodyPost_ret (v := .tuple #[.agg #[.int .u8 0, .int .i64 0], .int .i64 4]) (by simp [results, Tryd.results18, go_sem, c0, c1]) rfl
    ⟨rfl, ((((Below.refl _ _).alloc (Nat.le_refl _) _).trans (hb1.mono (by omega))).setCell (by simp) _).setCell (by simp) _⟩

theorem parse_nobed_ok (c : UInt8) (l : List UInt8) (hl : l.length ≤ 100) (w : World) (hix : Lib.indexByte [102, 98] (({ data := (c :: l).toArray } : ByteArray)[0]'(by show 0 < (c :: l).toArray.size; simp)) = -1) (v : Int) (h : Lib.atoiAll l = .ok v) :
    Calls Tryd.prog 18 #[.string ⟨(c :: l).toArray⟩] w fun e w' => e = .returned (.tuple #[.agg #[.int .u8 0, .int .i64 0], .int .i64 4]) ∧ Below w.heap.size w w' := by
  have HA := Lib.hid h
  clear h
  go_enter Tryd.func18, Tryd.ntmps18
  go_wp2_with (first
    | (go_at_call 21; refine (Tryd.strings_IndexByte _ _ _).mono ?_; rintro e w' ⟨rfl, rfl⟩)
    | (go_at_call 22; refine (atoi_ok _ (by rw [ext_size]; omega) v (by rw [ext_tail]; exact HA.out) _).mono ?_; rintro e w' ⟨rfl, hb⟩; have hb1 := hb.mono (B' := w.heap.size + 1) (by simp); clear hb; obtain ⟨c0, c1, f0, f1, hz⟩ := resd hb1; obtain ⟨q0, q1, p0, p1⟩ := resdo hb1))
  exact bodyPost_ret (v := .tuple #[.agg #[.int .u8 0, .int .i64 0], .int .i64 4]) (by simp [results, Tryd.results18, go_sem, c0, c1]) rfl
    ⟨rfl, ((((Below.refl _ _).alloc (Nat.le_refl _) _).trans (hb1.mono (by omega))).setCell (by simp) _).setCell (by simp) _⟩

theorem parse_bed_err (c : UInt8) (l : List UInt8) (hl : l.length ≤ 100) (w : World) (hE : Errs w) (b : Int) (hb0 : 0 ≤ b) (hix : Lib.indexByte [102, 98] (({ data := (c :: l).toArray } : ByteArray)[0]'(by show 0 < (c :: l).toArray.size; simp)) = b) (h : ∀ v, Lib.atoiAll l ≠ .ok v) :
    Calls Tryd.prog 18 #[.string ⟨(c :: l).toArray⟩] w fun e w' => e = .returned (.tuple #[.agg #[.int .u8 0, .int .i64 0], .int .i64 4]) ∧ Below w.heap.size w w' := by
  have HA := Lib.hid h
  clear h
  go_enter Tryd.func18, Tryd.ntmps18
  go_wp2_with (first
    | (go_at_call 21; refine (Tryd.strings_IndexByte _ _ _).mono ?_; rintro e w' ⟨rfl, rfl⟩)
    | (go_at_call 22; refine (atoi_err _ (by rw [ext_size]; omega) (by rw [ext_tail]; exact HA.out) _ (hE.alloc _)).mono ?_; rintro e w' ⟨v, N, rfl, hb⟩; have hb1 := hb.mono (B' := w.heap.size + 1) (by simp); clear hb; obtain ⟨c0, c1, f0, f1, hz⟩ := resd hb1))
  exact bodyPost_ret (v := .tuple #[.agg #[.int .u8 0, .int .i64 0], .int .i64 4]) (by simp [results, Tryd.results18, go_sem, c0, c1]) rfl
    ⟨rfl, ((((Below.refl _ _).alloc (Nat.le_refl _) _).trans (hb1.mono (by omega))).setCell (by simp) _).setCell (by simp) _⟩

theorem parse_invalid (c : UInt8) (l : List UInt8) (hl : l.length ≤ 100) (w : World) (b : Int) (hb0 : 0 ≤ b) (hb1 : b ≤ 1) (hix : Lib.indexByte [102, 98] (({ data := (c :: l).toArray } : ByteArray)[0]'(by show 0 < (c :: l).toArray.size; simp)) = b) (v : Int) (h : Lib.atoiAll l = .ok v) (hv : ¬ (1 ≤ v ∧ v ≤ 40)) :
    Calls Tryd.prog 18 #[.string ⟨(c :: l).toArray⟩] w fun e w' => e = .returned (.tuple #[.agg #[.int .u8 0, .int .i64 0], .int .i64 4]) ∧ Below w.heap.size w w' := by
  have HA := Lib.hid h
  have HV := Lib.hid hv
  clear h hv
  go_enter Tryd.func18, Tryd.ntmps18
  go_wp2_with (first
    | (go_at_call 21; refine (Tryd.strings_IndexByte _ _ _).mono ?_; rintro e w' ⟨rfl, rfl⟩)
    | (go_at_call 22; refine (atoi_ok _ (by rw [ext_size]; omega) v (by rw [ext_tail]; exact HA.out) _).mono ?_; rintro e w' ⟨rfl, hb⟩; have hb1 := hb.mono (B' := w.heap.size + 1) (by simp); clear hb; obtain ⟨c0, c1, f0, f1, hz⟩ := resd hb1; obtain ⟨q0, q1, p0, p1⟩ := resdo hb1)
    | (go_at_call 17; refine (text_bad _ _ _ (fun hx => HV.out ⟨hx.2.1, hx.2.2⟩)).mono ?_; rintro e w2 ⟨rfl, hbt⟩; have hb2 := hb1.trans (((Below.refl _ _).alloc hz _).trans (hbt.mono (by simp; omega))); clear c0 c1 f0 f1 hz q0 q1 p0 p1; obtain ⟨c0, c1, f0, f1, hz⟩ := resd hb2))
  exact bodyPost_ret (v := .tuple #[.agg #[.int .u8 0, .int .i64 0], .int .i64 4]) (by simp [results, Tryd.results18, go_sem, c0, c1]) rfl
    ⟨rfl, ((((Below.refl _ _).alloc (Nat.le_refl _) _).trans (hb2.mono (by omega))).setCell (by simp) _).setCell (by simp) _⟩

theorem text_eq (b : Int) (n : Nat) (w : World) (hb : b = 0 ∨ b = 1) (h1 : 1 ≤ n) (h2 : n ≤ 40) (T : List UInt8) (hT : txt b n = T) :
    Calls Tryd.prog 17 #[.agg #[.int .u8 b, .int .i64 n]] w fun e w' => e = .returned (.string ⟨T.toArray⟩) ∧ Below w.heap.size w w' := by
  subst hT
  exact text_ok b n w hb h1 h2

theorem parse_other (c : UInt8) (l : List UInt8) (hl : l.length ≤ 100) (w : World) (b : Int) (hb0 : 0 ≤ b) (hb1 : b ≤ 1) (hix : Lib.indexByte [102, 98] (({ data := (c :: l).toArray } : ByteArray)[0]'(by show 0 < (c :: l).toArray.size; simp)) = b) (n : Nat) (h : Lib.atoiAll l = .ok (n : Int)) (h1 : 1 ≤ n) (h2 : n ≤ 40) (T : List UInt8) (hT : txt b n = T) (hv : T ≠ c :: l) :
    Calls Tryd.prog 18 #[.string ⟨(c :: l).toArray⟩] w fun e w' => e = .returned (.tuple #[.agg #[.int .u8 0, .int .i64 0], .int .i64 4]) ∧ Below w.heap.size w w' := by
  have HA := Lib.hid h
  have hB : (T == c :: l) = false := by simpa using hv
  have HT := Lib.hid hT
  have HBB := Lib.hid (show b = 0 ∨ b = 1 by omega)
  clear h hv hT
  go_enter Tryd.func18, Tryd.ntmps18
  go_wp2_with (first
    | (go_at_call 21; refine (Tryd.strings_IndexByte _ _ _).mono ?_; rintro e w' ⟨rfl, rfl⟩)
    | (go_at_call 22; refine (atoi_ok _ (by rw [ext_size]; omega) (n : Int) (by rw [ext_tail]; exact HA.out) _).mono ?_; rintro e w' ⟨rfl, hb⟩; have hb1 := hb.mono (B' := w.heap.size + 1) (by simp); clear hb; obtain ⟨c0, c1, f0, f1, hz⟩ := resd hb1; obtain ⟨q0, q1, p0, p1⟩ := resdo hb1)
    | (go_at_call 17; refine (text_eq _ n _ HBB.out h1 h2 _ HT.out).mono ?_; rintro e w2 ⟨rfl, hbt⟩; have hb2 := hb1.trans (((Below.refl _ _).alloc hz _).trans (hbt.mono (by simp; omega))); clear c0 c1 f0 f1 hz q0 q1 p0 p1; obtain ⟨c0, c1, f0, f1, hz⟩ := resd hb2))
  exact bodyPost_ret (v := .tuple #[.agg #[.int .u8 0, .int .i64 0], .int .i64 4]) (by simp [results, Tryd.results18, go_sem, c0, c1]) rfl
    ⟨rfl, ((((Below.refl _ _).alloc (Nat.le_refl _) _).trans (hb2.mono (by omega))).setCell (by simp) _).setCell (by simp) _⟩

theorem parse_same (c : UInt8) (l : List UInt8) (hl : l.length ≤ 100) (w : World) (b : Int) (hb0 : 0 ≤ b) (hb1 : b ≤ 1) (hix : Lib.indexByte [102, 98] (({ data := (c :: l).toArray } : ByteArray)[0]'(by show 0 < (c :: l).toArray.size; simp)) = b) (n : Nat) (h : Lib.atoiAll l = .ok (n : Int)) (h1 : 1 ≤ n) (h2 : n ≤ 40) (hT : txt b n = c :: l) :
    Calls Tryd.prog 18 #[.string ⟨(c :: l).toArray⟩] w fun e w' => e = .returned (.tuple #[.agg #[.int .u8 b, .int .i64 n], .int .i64 0]) ∧ Below w.heap.size w w' := by
  have HA := Lib.hid h
  have HT := Lib.hid hT
  have HBB := Lib.hid (show b = 0 ∨ b = 1 by omega)
  clear h hT
  go_enter Tryd.func18, Tryd.ntmps18
  go_wp2_with (first
    | (go_at_call 21; refine (Tryd.strings_IndexByte _ _ _).mono ?_; rintro e w' ⟨rfl, rfl⟩)
    | (go_at_call 22; refine (atoi_ok _ (by rw [ext_size]; omega) (n : Int) (by rw [ext_tail]; exact HA.out) _).mono ?_; rintro e w' ⟨rfl, hb⟩; have hb1 := hb.mono (B' := w.heap.size + 1) (by simp); clear hb; obtain ⟨c0, c1, f0, f1, hz⟩ := resd hb1; obtain ⟨q0, q1, p0, p1⟩ := resdo hb1)
    | (go_at_call 17; refine (text_eq _ n _ HBB.out h1 h2 _ HT.out).mono ?_; rintro e w2 ⟨rfl, hbt⟩; obtain ⟨hct, hft⟩ := bcell hbt; have hb2 := hb1.trans (((Below.refl _ _).alloc hz _).trans (hbt.mono (by simp; omega))); clear c0 c1 f0 f1 hz q0 q1 p0 p1; obtain ⟨c0, c1, f0, f1, hz⟩ := resd hb2))
  exact bodyPost_ret (v := .tuple #[.agg #[.int .u8 b, .int .i64 n], .int .i64 0]) (by simp [results, Tryd.results18, go_sem, c0, c1]) rfl
    ⟨rfl, ((((Below.refl _ _).alloc (Nat.le_refl _) _).trans (hb2.mono (by omega))).setCell (by simp) _).setCell (by simp) _⟩

end Go.Proofs.YthdmpoiecmbinaaDoor
