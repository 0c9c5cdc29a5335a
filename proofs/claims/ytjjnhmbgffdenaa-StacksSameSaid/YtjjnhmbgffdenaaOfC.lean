import Derived.Test.YtjjnhmbgffdenaaBedsB
namespace Go.Proofs.Ytjjnhmbgffdenaa
open Go.RowKit Go.Sort
set_option maxRecDepth 100000 in
set_option maxHeartbeats 1000000 in
theorem Of_any (ao : Option Addr) (xs : List (Nat × Nat)) (cap : Nat) (w : World) (h : LieP w ao xs) :
    Calls Try.prog 21 #[.slice ao xs.length cap] w (BdOf (ofM xs) w) := by
  have HL := Lib.hid h
  clear h
  obtain ⟨T9, hT9⟩ : ∃ T9, T9 = ofM xs := ⟨_, rfl⟩
  rw [← hT9]
  have HT9 := Lib.hid hT9
  clear hT9
  obtain ⟨N, hN⟩ : ∃ N, N = xs.length := ⟨_, rfl⟩
  rw [← hN]
  have HN := Lib.hid hN
  clear hN
  go_enter Try.func21, Try.ntmps21
  go_wp2_with fail
  obtain ⟨W0, hW0⟩ : ∃ W0, w.alloc (.cells #[.slice none 0 0, .slice none 0 0] 35) = W0 := ⟨_, rfl⟩
  have bR : Boxed2 W0 w.heap.size 35 (.slice none 0 0) (.slice none 0 0) := by rw [← hW0]; exact Boxed2.new _ _ _ _
  have hB0 : Below w.heap.size w W0 := by rw [← hW0]; exact below1 _ _
  have HOF : Hid (Calls Try.prog 8 #[.slice ao N cap] W0 (NewFul T9 W0)) := Lib.hid (by
    rw [HN.out, HT9.out]; exact of_any ao xs cap W0 (HL.out.below hB0))
  rw [hW0]
  clear hW0
  go_wp2_with (first
    | (go_at_call 8; refine HOF.out.mono ?_; rintro e w1 ⟨cs, rfl, hcs, hb1⟩; have hB1 : Below w.heap.size w w1 := hB0.trans (hb1.mono hB0.size); have bR1 := bR.below hb1 bR.lt)
    | (go_at_call 9; refine (beds_any cs w1 hcs.out.1 hcs.out.2.2).mono ?_; rw [hcs.out.2.1]; rintro e w2 ⟨⟨⟨ga, gs, gc⟩, ⟨ka, ks, kc⟩⟩, rfl, hbd, hb2⟩; simp only [Bds.v, Bed.v]; have hB2 : Below w.heap.size w w2 := hB1.trans (hb2.mono hB1.size); have bR2 := bR1.below hb2 bR1.lt; have r0 := bR2.cell0; have r1 := bR2.cell1; have fR := bR2.frozen))
  have nF : ∀ b o, ga = some ⟨b, o, none⟩ → b ≠ w.heap.size := fun b o e => by
    have h1 := hbd.out.2.2.2.1 b o e
    have h2 := bR1.lt
    omega
  have nB : ∀ b o, ka = some ⟨b, o, none⟩ → b ≠ w.heap.size := fun b o e => by
    have h1 := hbd.out.2.2.2.2 b o e
    have h2 := bR1.lt
    omega
  have b9 := bR2.set0 (.slice ga gs.length gc)
  have b4 := b9.set1 (.slice ka ks.length kc)
  have b40 := b4.cell0
  have b41 := b4.cell1
  have okF := ((hbd.out.2.2.1.1.set_box bR2 (isSl_mk _ _ _) (isSl_mk _ _ _) nF 0 (.slice ga gs.length gc)).set_box b9 (isSl_mk _ _ _) (isSl_mk _ _ _) nF 1 (.slice ka ks.length kc))
  have okB := ((hbd.out.2.2.1.2.set_box bR2 (isSl_mk _ _ _) (isSl_mk _ _ _) nB 0 (.slice ga gs.length gc)).set_box b9 (isSl_mk _ _ _) (isSl_mk _ _ _) nB 1 (.slice ka ks.length kc))
  refine bodyPost_ret (v := .agg #[.slice ga gs.length gc, .slice ka ks.length kc]) (by simp [results, Try.results21, go_sem, b40, b41]) rfl ⟨⟨⟨ga, gs, gc⟩, ⟨ka, ks, kc⟩⟩, rfl, Lib.hid ⟨hbd.out.1, hbd.out.2.1, ⟨okF.mono (by simp), okB.mono (by simp)⟩, fun b o e => ?_, fun b o e => ?_⟩, ?_⟩
  · have h1 := hbd.out.2.2.2.1 b o e
    have h2 := bR1.lt
    omega
  · have h1 := hbd.out.2.2.2.2 b o e
    have h2 := bR1.lt
    omega
  · exact (hB2.setCell (p := ⟨w.heap.size, 0, none⟩) (by simp) _).setCell (p := ⟨w.heap.size, 1, none⟩) (by simp) _
end Go.Proofs.Ytjjnhmbgffdenaa
