import Derived.Test.YtjjnhmbgffdenaaTBeds
import Derived.Test.YtjjnhmbgffdenaaChk
import Derived.Test.YtjjnhmbgffdenaaCount
import Derived.Test.YtjjnhmbgffdenaaFind
import Derived.Test.YtjjnhmbgffdenaaAgree
namespace Go.Proofs.Ytjjnhmbgffdenaa
open Go.RowKit

/-- The beds hold what the table T says: the needle i + 1 of the bed k holds T's place k * 40 + i. -/
structure Reads (T : List (List Nm)) (d : Bds) : Prop where
  len : T.length = 80
  cel : ∀ k, k < 2 → ∀ i, i < 40 → ((d.bed k).cel i).l = T.getD (k * 40 + i) []
  f40 : d.f.cs.length ≤ 40
  b40 : d.b.cs.length ≤ 40
/-- .. and are short. -/
structure Tight (d : Bds) : Prop where
  f : d.f.cap = d.f.cs.length
  b : d.b.cap = d.b.cs.length
  fl : ∀ c, 0 < d.f.cs.length → d.f.cs[d.f.cs.length - 1]? = some c → c.l ≠ []
  bl : ∀ c, 0 < d.b.cs.length → d.b.cs[d.b.cs.length - 1]? = some c → c.l ≠ []

theorem cel_take {cs : List Cel} {n : Nat} (h : shortN cs n) (ao : Option Addr) (cap i : Nat) : (Bed.cel ⟨ao, cs.take n, cap⟩ i).l = (cs.getD i Cel.nil).l := by
  unfold Bed.cel
  simp only [List.getD_eq_getElem?_getD]
  rw [List.getElem?_take]
  split
  · rfl
  · rename_i hi
    cases hc : cs[i]? with
    | none => rfl
    | some c => rw [Option.getD_none, Option.getD_some, h.2.1 i (by omega) c hc]; rfl
theorem reads_of {cs : List Cel} {d : Bds} (hl : cs.length = 80) (h : ShortOf cs d) : Reads (cs.map fun c => c.l) d ∧ Tight d := by
  obtain ⟨nf, nb, hf, hb, ef, eb, cf, cb⟩ := h
  obtain ⟨⟨fa, fs, fc⟩, ⟨ba, bs, bc⟩⟩ := d
  simp only at ef eb cf cb
  have lf : fs.length = nf := by rw [ef, List.length_take]; exact Nat.min_eq_left hf.1
  have lb : bs.length = nb := by rw [eb, List.length_take]; exact Nat.min_eq_left hb.1
  have h40 : (cs.take 40).length = 40 := by rw [List.length_take]; omega
  have h40' : (cs.drop 40).length = 40 := by rw [List.length_drop]; omega
  refine ⟨⟨by simpa using hl, fun k hk i hi => ?_, ?_, ?_⟩, ⟨cf, cb, fun c h0 hc => ?_, fun c h0 hc => ?_⟩⟩
  · have key : ∀ j, ((cs.map fun c => c.l).getD j []) = (cs.getD j Cel.nil).l := fun j => by
      simp only [List.getD_eq_getElem?_getD, List.getElem?_map]
      cases cs[j]? <;> rfl
    rw [key]
    obtain rfl | rfl : k = 0 ∨ k = 1 := by omega
    · simp only [Bds.bed, if_true, ef]
      rw [cel_take hf]
      simp only [List.getD_eq_getElem?_getD, List.getElem?_take, hi, if_true, Nat.zero_mul, Nat.zero_add]
    · simp only [Bds.bed, Nat.one_ne_zero, if_false, eb]
      rw [cel_take hb]
      simp only [List.getD_eq_getElem?_getD, List.getElem?_drop, Nat.one_mul]
  · simp only; have := hf.1; omega
  · simp only; have := hb.1; omega
  · simp only at h0 hc
    rw [lf] at h0 hc
    refine hf.2.2 c h0 ?_
    rw [ef, List.getElem?_take, if_pos (by omega)] at hc
    exact hc
  · simp only at h0 hc
    rw [lb] at h0 hc
    refine hb.2.2 c h0 ?_
    rw [eb, List.getElem?_take, if_pos (by omega)] at hc
    exact hc

section
variable {T : List (List Nm)} {d : Bds}
theorem mem_els {x : El} (hx : x ∈ d.els) : x.k < 2 ∧ x.i < (d.bed x.k).cs.length ∧ (d.bed x.k).cel x.i = x.c := by
  unfold Bds.els at hx
  rcases List.mem_append.1 hx with hx | hx
  · simp only [Bed.els, List.mem_mapIdx] at hx
    obtain ⟨i, hi, rfl⟩ := hx
    refine ⟨by simp, by simpa [Bds.bed] using hi, ?_⟩
    simp [Bds.bed, Bed.cel, hi]
  · simp only [Bed.els, List.mem_mapIdx] at hx
    obtain ⟨i, hi, rfl⟩ := hx
    refine ⟨by simp, by simpa [Bds.bed] using hi, ?_⟩
    simp [Bds.bed, Bed.cel, hi]
theorem els_mem {k i : Nat} (hk : k < 2) (hi : i < (d.bed k).cs.length) : (⟨k, i, (d.bed k).cel i⟩ : El) ∈ d.els := by
  unfold Bds.els
  rw [List.mem_append]
  obtain rfl | rfl : k = 0 ∨ k = 1 := by omega
  · left
    simp only [Bds.bed, if_true] at hi ⊢
    simp only [Bed.els, List.mem_mapIdx]
    exact ⟨i, hi, by simp [Bed.cel, hi]⟩
  · right
    simp only [Bds.bed, Nat.one_ne_zero, if_false] at hi ⊢
    simp only [Bed.els, List.mem_mapIdx]
    exact ⟨i, hi, by simp [Bed.cel, hi]⟩
theorem Reads.i40 (h : Reads T d) {x : El} (hx : x ∈ d.els) : x.i < 40 := by
  obtain ⟨hk, hi, _⟩ := mem_els hx
  have : (d.bed x.k).cs.length ≤ 40 := by unfold Bds.bed; split; exact h.f40; exact h.b40
  omega
theorem Reads.at_el (h : Reads T d) {x : El} (hx : x ∈ d.els) : T.getD (x.k * 40 + x.i) [] = x.c.l := by
  obtain ⟨hk, hi, hc⟩ := mem_els hx
  rw [← h.cel _ hk _ (h.i40 hx), hc]
/-- What is not empty is an element. -/
theorem Reads.el_of (h : Reads T d) {k i : Nat} (hk : k < 2) (hi : i < 40) (hne : T.getD (k * 40 + i) [] ≠ []) : ∃ x ∈ d.els, x.k = k ∧ x.i = i := by
  by_cases hl : i < (d.bed k).cs.length
  · exact ⟨_, els_mem hk hl, rfl, rfl⟩
  · exfalso
    apply hne
    rw [← h.cel k hk i hi]
    unfold Bed.cel
    rw [List.getD_eq_getElem?_getD, List.getElem?_eq_none (by omega)]
    rfl

/-- A table that is filled from its own elements. -/
theorem foldl_set (g : Nat → List Nm) (xs : List El) : ∀ (t : List (List Nm)), (∀ x ∈ xs, g (x.k * 40 + x.i) = x.c.l) → ∀ j, (xs.foldl (fun t x => t.set (x.k * 40 + x.i) x.c.l) t)[j]? =
    if (∃ x ∈ xs, x.k * 40 + x.i = j) ∧ j < t.length then some (g j) else t[j]? := by
  induction xs with
  | nil => intro t _ j; simp
  | cons x xs ih =>
    intro t h j
    rw [List.foldl_cons, ih _ (fun y hy => h y (List.mem_cons_of_mem _ hy)), List.length_set]
    by_cases h1 : ∃ y ∈ xs, y.k * 40 + y.i = j
    · by_cases h2 : j < t.length
      · rw [if_pos ⟨h1, h2⟩, if_pos ⟨by obtain ⟨y, hy, e⟩ := h1; exact ⟨y, List.mem_cons_of_mem _ hy, e⟩, h2⟩]
      · rw [if_neg (fun hh => h2 hh.2), if_neg (fun hh => h2 hh.2), List.getElem?_eq_none (by simp; omega), List.getElem?_eq_none (by omega)]
    · rw [if_neg (fun hh => h1 hh.1)]
      by_cases h3 : x.k * 40 + x.i = j
      · subst h3
        by_cases h2 : x.k * 40 + x.i < t.length
        · rw [if_pos ⟨⟨x, List.mem_cons_self .., rfl⟩, h2⟩, List.getElem?_set_self h2, h x (List.mem_cons_self ..)]
        · rw [if_neg (fun hh => h2 hh.2), List.getElem?_eq_none (by simp; omega), List.getElem?_eq_none (by omega)]
      · rw [List.getElem?_set_ne h3, if_neg]
        rintro ⟨⟨y, hy, e⟩, _⟩
        rcases List.mem_cons.1 hy with rfl | hy
        · exact h3 e
        · exact h1 ⟨y, hy, e⟩
theorem Reads.fill (h : Reads T d) : fillM d.els = T := by
  apply List.ext_getElem?
  intro j
  unfold fillM
  rw [foldl_set (fun j => T.getD j []) d.els _ (fun x hx => h.at_el hx) j, List.length_replicate]
  by_cases hj : j < 80
  · have hT : T[j]? = some (T.getD j []) := by rw [List.getD_eq_getElem?_getD, List.getElem?_eq_getElem (by rw [h.len]; exact hj)]; rfl
    by_cases h1 : ∃ x ∈ d.els, x.k * 40 + x.i = j
    · rw [if_pos ⟨h1, hj⟩, hT]
    · rw [if_neg (fun hh => h1 hh.1), hT, List.getElem?_replicate, if_pos hj]
      congr 1
      by_cases hne : T.getD j [] = []
      · rw [hne]
      · exfalso
        obtain ⟨x, hx, hk, hi⟩ := h.el_of (k := j / 40) (i := j % 40) (by omega) (by omega) (by rw [show j / 40 * 40 + j % 40 = j by omega]; exact hne)
        exact h1 ⟨x, hx, by rw [hk, hi]; omega⟩
  · rw [if_neg (fun hh => hj hh.2), List.getElem?_eq_none (by rw [List.length_replicate]; omega), List.getElem?_eq_none (by rw [h.len]; omega)]
end
end Go.Proofs.Ytjjnhmbgffdenaa
