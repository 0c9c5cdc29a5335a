import Derived.Test.YthdmpoiecmbinaaDoorLives
namespace Go.Proofs.YthdmpoiecmbinaaDoor
open Go.RowKit

theorem ix_of (c : UInt8) (l : List UInt8) (h : 0 < (⟨(c :: l).toArray⟩ : ByteArray).size) : (({ data := (c :: l).toArray } : ByteArray)[0]'h) = c := rfl
theorem ix_val (c : UInt8) : Lib.indexByte [102, 98] c = if c = 102 then 0 else if c = 98 then 1 else -1 := by
  by_cases h : c = 102
  · subst h; rfl
  · by_cases h' : c = 98
    · subst h'; rfl
    · have e1 : (102 == c) = false := by simpa using fun e => h e.symm
      have e2 : (98 == c) = false := by simpa using fun e => h' e.symm
      simp [Lib.indexByte, e1, e2, h, h']

theorem parse_is (b : Int) (n : Nat) (l : List UInt8) (w : World) (hb : b = 0 ∨ b = 1) (h1 : 1 ≤ n) (h2 : n ≤ 40) (h : txt b n = l) :
    Calls Tryd.prog 18 #[.string ⟨l.toArray⟩] w fun e w' => e = .returned (.tuple #[.agg #[.int .u8 b, .int .i64 n], .int .i64 0]) ∧ Below w.heap.size w w' := by
  have hd := digits_le n h2
  rcases hb with rfl | rfl
  · subst h
    exact parse_same 102 (Lib.decDigits n) (by omega) w 0 (by omega) (by omega) (by rw [ix_of, ix_val]; rfl) n (atoi_digits n h2) h1 h2 rfl
  · subst h
    exact parse_same 98 (Lib.decDigits n) (by omega) w 1 (by omega) (by omega) (by rw [ix_of, ix_val]; rfl) n (atoi_digits n h2) h1 h2 rfl

theorem parse_none (l : List UInt8) (hl : l.length ≤ 100) (w : World) (hE : Errs w) (h : ¬ IsText l) :
    Calls Tryd.prog 18 #[.string ⟨l.toArray⟩] w fun e w' => e = .returned (.tuple #[.agg #[.int .u8 0, .int .i64 0], .int .i64 4]) ∧ Below w.heap.size w w' := by
  cases l with
  | nil => exact parse_empty w
  | cons c t =>
    have hl' : t.length ≤ 100 := by simp at hl; omega
    by_cases hok : ∃ v, Lib.atoiAll t = .ok v
    · obtain ⟨v, hv⟩ := hok
      by_cases hc : c = 102 ∨ c = 98
      · obtain ⟨b, hb0, hb1, hbv, hix⟩ : ∃ b : Int, 0 ≤ b ∧ b ≤ 1 ∧ (b = 0 ∨ b = 1) ∧ Lib.indexByte [102, 98] c = b := by
          rcases hc with rfl | rfl
          · exact ⟨0, by omega, by omega, by omega, rfl⟩
          · exact ⟨1, by omega, by omega, by omega, rfl⟩
        by_cases hr : 1 ≤ v ∧ v ≤ 40
        · obtain ⟨n, rfl⟩ : ∃ n : Nat, v = n := ⟨v.toNat, by omega⟩
          exact parse_other c t hl' w b hb0 hb1 (by rw [ix_of]; exact hix) n hv (by omega) (by omega) _ rfl (fun e => h ⟨b, n, hbv, by omega, by omega, e.symm⟩)
        · exact parse_invalid c t hl' w b hb0 hb1 (by rw [ix_of]; exact hix) v hv hr
      · exact parse_nobed_ok c t hl' w (by rw [ix_of, ix_val, if_neg (fun e => hc (Or.inl e)), if_neg (fun e => hc (Or.inr e))]) v hv
    · have hno : ∀ v, Lib.atoiAll t ≠ .ok v := fun v e => hok ⟨v, e⟩
      by_cases hc : c = 102 ∨ c = 98
      · obtain ⟨b, hb0, hix⟩ : ∃ b : Int, 0 ≤ b ∧ Lib.indexByte [102, 98] c = b := by
          rcases hc with rfl | rfl
          · exact ⟨0, by omega, rfl⟩
          · exact ⟨1, by omega, rfl⟩
        exact parse_bed_err c t hl' w hE b hb0 (by rw [ix_of]; exact hix) hno
      · exact parse_nobed_err c t hl' w hE (by rw [ix_of, ix_val, if_neg (fun e => hc (Or.inl e)), if_neg (fun e => hc (Or.inr e))]) hno

end Go.Proofs.YthdmpoiecmbinaaDoor
