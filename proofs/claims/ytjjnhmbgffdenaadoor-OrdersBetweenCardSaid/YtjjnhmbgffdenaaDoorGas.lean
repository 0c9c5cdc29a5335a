import Derived.Test.YtjjnhmbgffdenaaDoorGaq
import Derived.Test.YtjjnhmbgffdenaaDoorGar
import Derived.Test.YtjjnhmbgffdenaaDoorCards
import Derived.Test.YtjjnhmbgffdenaaDoorTie
import Derived.Test.YtjjnhmbgffdenaaDoorRows
import Derived.ProofKit
import Derived.WalkKit
import Derived.Deep.Slices
import Derived.Deep.Strs
import Derived.OpenShut
import Derived.Lib.SmallJoins
import Derived.Deep.DeepHandedRow
import Derived.Deep.DeepWitnessRowRef
import Derived.Lib.LaidTab
import Derived.Lib.LaidIn
import Derived.MakeChecks
namespace Go.Proofs.YtjjnhmbgffdenaaDoor
open Go.RowKit Go.Sort
theorem lst_320 {T : List (List Nm)} (hT : TOk T) {r : Int} (hr : okR r = true) : (lstH T r 95).length ≤ 320 := by
  rw [← (lst_perm T hr).length_eq]
  exact upH_len T hT r 80
/-- What the law's loop adds for one loop. -/
def wantB (lo hi d : Int) (h : Hd) : List Pa := if h.s ≤ lo ∨ hi ≤ h.s then [] else [paOf d h]
theorem wantB_len (lo hi d : Int) (h : Hd) : (wantB lo hi d h).length ≤ 1 := by unfold wantB; split <;> simp
theorem want_flat (lo hi d : Int) (l : List Hd) : l.flatMap (wantB lo hi d) = (l.filter fun h => decide (lo < h.s ∧ h.s < hi)).map (paOf d) := by
  rw [← flat_if]
  refine flat_congr' fun h _ => ?_
  unfold wantB
  by_cases h1 : h.s ≤ lo ∨ hi ≤ h.s
  · rw [if_pos h1, if_neg (by simp; omega)]
  · rw [if_neg h1, if_pos (by simp; omega)]
theorem betw_filter (l : List Hd) (x y : Int) : (l.filter fun h => betw h.s x y) = l.filter fun h => decide (min x y < h.s ∧ h.s < max x y) := rfl
theorem want_lt (l : List Hd) {x y : Int} (h : x < y) : l.flatMap (wantB x y 1) = betweenM l x y := by
  have h1 : min x y = x := by omega
  have h2 : max x y = y := by omega
  unfold betweenM pastM betwD
  rw [if_pos h, if_neg (by decide), betw_filter, h1, h2, want_flat]
theorem want_ge (l : List Hd) {x y : Int} (h : y ≤ x) : l.reverse.flatMap (wantB y x 0) = betweenM l x y := by
  have h1 : min x y = y := by omega
  have h2 : max x y = x := by omega
  unfold betweenM pastM betwD
  rw [if_neg (show ¬ (y > x) by omega), if_pos rfl, betw_filter, h1, h2, want_flat, ← List.map_reverse, List.filter_reverse]
/-- On the way back a carrier passes the inverse. -/
theorem paOf_back (h : Hd) (d : Int) (hd : d = 0 ∨ d = 1) : (paOf d h).back = paOf (1 - d) h := by
  unfold paOf Pa.back oppM
  rcases hd with rfl | rfl <;> rfl
theorem between_back (l : List Hd) (x y : Int) : betweenM l y x = ((betweenM l x y).map Pa.back).reverse := by
  have e : (l.filter fun h => betw h.s y x) = l.filter fun h => betw h.s x y := by
    refine List.filter_congr fun h _ => ?_
    unfold betw
    rw [Int.min_comm, Int.max_comm]
  unfold betweenM
  rw [e]
  by_cases h1 : x < y
  · have e1 : betwD x y = 1 := if_pos h1
    have e2 : betwD y x = 0 := if_neg (show ¬ (x > y) by omega)
    rw [e1, e2]
    unfold pastM
    rw [if_pos rfl, if_neg (by decide), List.map_map]
    congr 1
  · by_cases h2 : y < x
    · have e1 : betwD x y = 0 := if_neg (show ¬ (y > x) by omega)
      have e2 : betwD y x = 1 := if_pos h2
      rw [e1, e2]
      unfold pastM
      rw [if_pos rfl, if_neg (by decide), List.map_reverse, List.reverse_reverse, List.map_map]
      congr 1
    · obtain rfl : x = y := by omega
      have e3 : (l.filter fun h => betw h.s x x) = [] := by
        rw [List.filter_eq_nil_iff]
        intro h _ h'
        have := of_decide_eq_true h'
        omega
      rw [e3]
      unfold pastM
      split <;> rfl
theorem between_dirs (l : List Hd) (x y : Int) : ∀ p ∈ betweenM l x y, p.d = 0 ∨ p.d = 1 := fun p hp => by
  have hd : betwD x y = 0 ∨ betwD x y = 1 := by unfold betwD; split <;> simp
  unfold betweenM pastM at hp
  split at hp
  · rw [List.mem_reverse] at hp
    obtain ⟨h, _, rfl⟩ := List.mem_map.1 hp
    exact hd
  · obtain ⟨h, _, rfl⟩ := List.mem_map.1 hp
    exact hd
theorem red_back (l : List Pa) (h : ∀ p ∈ l, p.d = 0 ∨ p.d = 1) : Ya.red ((l ++ ((l.map Pa.back).reverse)).map toPs) = [] := by
  rw [List.map_append, ← inv_toPs]
  have := Ya.red_inv (l := l.map toPs) (by
    intro p hp
    obtain ⟨q, hq, rfl⟩ := List.mem_map.1 hp
    exact h q hq) []
  rw [List.nil_append] at this
  rw [this]
  rfl
theorem Lies.hb {N : Nat} {w : World} {ao : Option Addr} {l : List Hd} (h : Lies Hd.enc N w ao l) {i : Nat} {x : Hd} (hx : l[i]? = some x) : ∃ b, ao = some ⟨b, 0, none⟩ ∧ b < w.heap.size ∧ w.cell? ⟨b, i * 5, none⟩ = some (.int .u8 x.id.y) ∧ w.cell? ⟨b, i * 5 + 1, none⟩ = some (.int .i64 x.id.n) ∧ w.cell? ⟨b, i * 5 + 2, none⟩ = some (.int .u8 x.b) ∧ w.cell? ⟨b, i * 5 + 4, none⟩ = some (.int .i64 x.s) := by
  obtain ⟨hi, rfl⟩ := List.getElem?_eq_some_iff.1 hx
  obtain ⟨b, h1, h2, h3⟩ := h.at Hd.enc_len hi
  exact ⟨b, h1, h2, h3 0 _ (by decide) rfl, h3 1 _ (by decide) rfl, h3 2 _ (by decide) rfl, h3 4 _ (by decide) rfl⟩
theorem run_app_list {α : Type} {enc : α → List Value} {T e k bytes : Nat} {zero : Value} (K : Kd enc T e k bytes zero) (w : World) (N ty : Nat) (v : Value) (l : List α) (hown : w.ownsRow N e k v l.length (rcells enc l)) (xs : List α) (ao : Option Addr) (c : Nat) (hx : Lies enc 0 w ao xs) (hl : l.length + xs.length ≤ 100000) (hN : N ≤ w.heap.size) :
    ∃ v' w', (Builtin.append_ #[T, T] ty #[v, .slice ao xs.length c]).run Tryd.prog w = .ok v' w' ∧ w'.ownsRow N e k v' (l ++ xs).length (rcells enc (l ++ xs)) ∧ w.grownBy w' v.ownBlock := by
  obtain ⟨i0, hi, hz0, hz1, hz2⟩ := info_parts K.hi
  rcases hx with rfl | ⟨b, rfl, _, hb, hc⟩
  · rw [List.append_nil]
    cases ao with
    | none => exact ⟨v, w, run_append_nothing w N T ty e i0 k K.hT hi v l.length _ hown c, hown, ⟨rfl, rfl, rfl, Nat.le_refl _, fun _ _ _ => rfl⟩⟩
    | some ad =>
      obtain ⟨v', w', g1, g2, g3, _, g5⟩ := run_append_own_at (P := Tryd.prog) w N T ty e i0 zero k bytes K.hT hi hz0 hz1 hz2 K.hz K.k0 v l.length (rcells enc l) hown ad 0 c [] (by simp)
        (fun j u h => by simp at h) (fun u hu => by simp at hu) (by unfold maxLen; omega) (by have := K.hb; have := Nat.mul_le_mul (show l.length + 0 ≤ 100001 by omega) K.hb; omega) hN
      exact ⟨v', w', g1, by simpa using g2, g3⟩
  · obtain ⟨v', w', g1, g2, g3, _, g5⟩ := run_append_own_at (P := Tryd.prog) w N T ty e i0 zero k bytes K.hT hi hz0 hz1 hz2 K.hz K.k0 v l.length (rcells enc l) hown ⟨b, 0, none⟩ xs.length c (rcells enc xs) (by rw [rcells_length enc k K.hk])
      (fun j u h => by rw [show (⟨b, 0, none⟩ : Addr).add j = ⟨b, j, none⟩ by rw [Addr.add_lit]; simp]; exact hc j u h) (rcells_one enc K.h1 _) (by unfold maxLen; omega) (by have := K.hb; have := Nat.mul_le_mul (show l.length + xs.length ≤ 100001 by omega) K.hb; omega) hN
    exact ⟨v', w', g1, by rw [rcells_append, List.length_append]; exact g2, g3⟩
theorem wpList_app_list {α : Type} {enc : α → List Value} {T e k bytes : Nat} {zero : Value} (K : Kd enc T e k bytes zero) {w : World} {ops : Array Oper} {rest : List Oper} {o : Oper} {a : Act} {Q : Exit → Act → World → Prop} {s t : Tmp} {N n c : Nat} {v : Value} {l xs : List α} {ao : Option Addr} (hg0 : o.guard = none)
    (hop : o.op = Op.call { callee := Callee.builtin Builtin.append, args := #[.tmp s, .tmp t], argTypes := #[T, T] }) (hs : a.eval (.tmp s) = v) (ht : a.eval (.tmp t) = .slice ao n c) (hn : xs.length = n) (hown : w.ownsRow N e k v l.length (rcells enc l)) (hx : Lies enc 0 w ao xs) (hl : l.length + xs.length ≤ 100000) (hN : N ≤ w.heap.size)
    (hK : ∀ v' w', w'.ownsRow N e k v' (l ++ xs).length (rcells enc (l ++ xs)) → w.grownBy w' v.ownBlock → wpList Tryd.prog ops Q rest (a.put o.dst v') w') : wpList Tryd.prog ops Q (o :: rest) a w := by
  subst hn
  refine wpList_plain hg0 fun K' hK' => ?_
  obtain ⟨v', w', hr, h1, h2⟩ := run_app_list K w N o.type v l hown xs ao c hx hl hN
  unfold Oper.wp execOp
  simp only [hop, resolve, invoke, builtin, Sem.run_bind, Sem.run_pure, Result.andThen_ok, List.map_toArray, List.map_cons, List.map_nil, hs, ht, hr]
  exact hK' _ _ (hK v' w' h1 h2)
theorem own_made (w : World) : (w.alloc (.cells #[] 47)).ownsRow w.heap.size 47 4 (.slice (some ⟨w.heap.size, 0, none⟩) 0 0) ([] : List Pa).length (rcells Pa.enc []) :=
  ⟨rfl, .inr ⟨w.heap.size, 0, #[], rfl, Nat.le_refl _, World.alloc_heap_new w _, Nat.le_refl _, by decide, rfl, rfl⟩⟩
/-- Reduce, of what goes and comes back. -/
theorem reduce_M (v : Value) (l : List Pa) (N : Nat) (w : World) (h : w.ownsRow N 47 4 v l.length (rcells Pa.enc l)) (hl : l.length ≤ 100000) (hr : Ya.red (l.map toPs) = []) :
    Calls Tryd.prog 15 #[v] w fun e w' => ∃ bo, e = .returned (.slice bo 0 0) ∧ Below w.heap.size w w' := by
  rw [← cells_toPs] at h
  obtain ⟨hn, ao, cap, rfl, -, -, hlie⟩ := Ya.lie_of_owns h
  refine (Ya.reduce_any ao (l.map toPs) l.length cap w hn (by omega) hlie).mono ?_
  rintro e w' ⟨bo, rfl, _, hb⟩
  rw [hr]
  exact ⟨bo, rfl, hb⟩
theorem betweenM_len (l : List Hd) (x y : Int) : (betweenM l x y).length ≤ l.length := by
  unfold betweenM
  rw [pastM_len]
  exact List.length_filter_le _ _
end Go.Proofs.YtjjnhmbgffdenaaDoor
namespace Go.Proofs.YtjjnhmbgffdenaaDoor
open Go.RowKit Go.Sort
set_option maxRecDepth 100000 in
set_option maxHeartbeats 16000000 in
/-- OrdersBetween: x < y. -/
theorem between_lt (ao : Option Addr) (xs : List (Nat × Nat)) (cap : Nat) (z x y : Int) (w : World) (h : LieP w ao xs) (hs : Stp w) (hz : 0 ≤ z ∧ z ≤ 255) (hxy : x < y) :
    Calls Tryd.prog 4 #[.slice ao xs.length cap, .int .u8 z, .agg #[.int .i64 x, .int .i64 y]] w fun e w' => e = .returned (.bool true) ∧ Below w.heap.size w w' := by
  have bp := Boxed2.new w 42 (.int .i64 x) (.int .i64 y)
  have hb00 := below1 w (.cells #[.int .i64 x, .int .i64 y] 42)
  obtain ⟨W0, hW0⟩ : ∃ W0, w.alloc (.cells #[.int .i64 x, .int .i64 y] 42) = W0 := ⟨_, rfl⟩
  rw [hW0] at bp hb00
  have HB00 := Lib.hid hb00
  have HOF := Lib.hid (Of_any ao xs cap W0 (h.below hb00))
  have HTO := Lib.hid (ofM_ok xs)
  have HS := Lib.hid hs
  have HST := Lib.hid (fun (W : World) (hb : RowKit.Below w.heap.size w W) => lives_any W (hs.below hb hs.lt))
  have HBP := Lib.hid (fun (W : World) (hb : RowKit.Below W0.heap.size W0 W) => bp.below hb bp.lt)
  obtain ⟨T, hT⟩ : ∃ T, ofM xs = T := ⟨_, rfl⟩
  rw [hT] at HOF HTO
  obtain ⟨N, hN⟩ : ∃ N, xs.length = N := ⟨_, rfl⟩
  rw [hN] at HOF ⊢
  obtain ⟨q, hq⟩ : ∃ q, Int.tmod z 9 = q := ⟨_, rfl⟩
  have hq8 : 0 ≤ q ∧ q ≤ 8 := by rw [← hq, Int.tmod_eq_emod_of_nonneg hz.1]; omega
  obtain ⟨r, hr⟩ : ∃ r, q - 4 = r := ⟨_, rfl⟩
  have hr4 : -4 ≤ r ∧ r ≤ 4 := by omega
  have hok : okR r = true := by unfold okR; simp; omega
  have HOK := Lib.hid hok
  have hn9 := lst_320 HTO.out hok
  obtain ⟨L, hL⟩ : ∃ L, lstH T r 95 = L := ⟨_, rfl⟩
  rw [hL] at hn9
  obtain ⟨n, hn⟩ : ∃ n, L.length = n := ⟨_, rfl⟩
  rw [hn] at hn9
  have HL := Lib.hid hL
  have HN := Lib.hid hn
  have hml := betweenM_len L x y
  have hdirs := between_dirs L x y
  have hbk := between_back L x y
  have hwant : L.flatMap (wantB x y 1) = betweenM L x y := want_lt L hxy
  obtain ⟨M, hM⟩ : ∃ M, betweenM L x y = M := ⟨_, rfl⟩
  rw [hM] at hml hdirs hwant
  rw [hM] at hbk
  obtain ⟨M2, hM2⟩ : ∃ M, betweenM L y x = M := ⟨_, rfl⟩
  rw [hM2] at hbk
  obtain ⟨O, hO⟩ : ∃ O, L = O := ⟨_, rfl⟩
  rw [hO] at hwant
  obtain ⟨m, hm⟩ : ∃ m, M.length = m := ⟨_, rfl⟩
  have hm9 : m ≤ 320 := by omega
  have hm2 : M2.length = m := by rw [hbk, List.length_reverse, List.length_map]; exact hm
  have hON : O.length = n := by rw [← hO]; exact hn
  have HM := Lib.hid hM
  have HM2 := Lib.hid hM2
  have HMN := Lib.hid hm
  have HMN2 := Lib.hid hm2
  have HW := Lib.hid hwant
  have HO := Lib.hid hO
  have HON := Lib.hid hON
  have HBK := Lib.hid hbk
  have HDR := Lib.hid hdirs
  have HT0 := Lib.hid True.intro
  have HQR := Lib.hid (And.intro hq hr)
  have hc1 : ¬ (y < x) := by omega
  have hc2 : ¬ (y ≤ x) := by omega
  have hc3 : x < y := hxy
  clear h hs hT hN hok hL hn hml hdirs hbk hwant hO hM hM2 hm hm2 hON hb00 hxy
  have y0 := bp.cell0
  have y1 := bp.cell1
  clear bp
  go_enter Tryd.func4, Tryd.ntmps4
  go_upto_region 5 with (first
    | (go_at_call 9; refine HOF.out.mono ?_; rintro e w1 ⟨⟨⟨ga, gs, gc⟩, ⟨ka, ks, kc⟩⟩, rfl, hbd, hb1⟩; have HB := Lib.hid hb1; have HBD := Lib.hid hbd.out; have HLI := Lib.hid (list_good ⟨⟨ga, gs, gc⟩, ⟨ka, ks, kc⟩⟩ T r w1.heap.size w1 (Nat.le_refl _) HBD.out.2.2.1 HBD.out.1 HTO.out HOK.out L HL.out n HN.out); simp only [Bds.v, Bed.v] at HLI ⊢; clear hb1 hbd)
    | (go_at_call 10; refine HLI.out.mono ?_; rintro e w2 ⟨al, rfl, HLa, hb⟩; replace HB := Lib.hid (HB.out.trans (hb.mono HB.out.size)); clear hb; clear y0 y1; have y0 := (HBP.out _ HB.out).cell0; have y1 := (HBP.out _ HB.out).cell1))
  go_quiet (fail)
  rename_i nq
  obtain ⟨w3, hw3⟩ : ∃ w3, w2.drewN nq = w3 := ⟨_, rfl⟩
  have hb3 : RowKit.Below w2.heap.size w2 w3 := by rw [← hw3]; exact below_drewN (Below.refl _ _) _
  rw [hw3]
  clear hw3
  replace HB := Lib.hid (HB.out.trans (hb3.mono HB.out.size))
  replace HLa := Lib.hid (HLa.out.below hb3)
  clear hb3 y0 y1 HLI HBP
  have HBT := Lib.hid (fun (W : World) (ho : Lies Hd.enc 0 W al L) => between_any al L n x y W ho (by rw [HN.out]; omega))
  have HBT2 := Lib.hid (fun (W : World) (ho : Lies Hd.enc 0 W al L) => between_any al L n y x W ho (by rw [HN.out]; omega))
  simp only [HN.out, HM.out] at HBT
  simp only [HN.out, HM2.out] at HBT2
  go_wp2_with (first
    | (go_at_call 13; refine (HBT.out _ (HLa.out.mono (Nat.zero_le _))).mono ?_; rintro e w4 ⟨v4, rfl, ag, rfl, HLg, hb4⟩; rw [HMN.out]; replace HB := Lib.hid (HB.out.trans (hb4.mono HB.out.size)); replace HLa := Lib.hid (HLa.out.below hb4); clear hb4))
  clear HBT
  go_loopg [15, 16] (n + 1) (fun g v s16 wr => ∃ (i : Nat) (A : List Pa), s16 = .int .i64 i ∧ i ≤ n ∧ g = n + 1 - i ∧ Hid ((O.take i).flatMap (wantB x y 1) = A) ∧ Hid (wr.ownsRow w4.heap.size 47 4 v A.length (rcells Pa.enc A)) ∧ RowKit.Below w4.heap.size w4 wr)
  case atStart => exact ⟨0, [], rfl, by omega, by omega, Lib.hid rfl, Lib.hid (World.ownsRow_nil _ _ _ _), Below.refl _ _⟩
  case round =>
    obtain ⟨i, A, rfl, hi, hg, HA, HR, hbr⟩ := hrel
    have HG := Lib.hid hg
    clear hg
    by_cases hlt : i < n
    · have hiz : (i : Int) < (n : Int) := by omega
      obtain ⟨k, hk⟩ : ∃ k, i = k := ⟨_, rfl⟩
      have hLk0 : L[k]? = some (L[k]'(by rw [HN.out]; omega)) := List.getElem?_eq_getElem _
      obtain ⟨h, hh⟩ : ∃ h, L[k]'(by rw [HN.out]; omega) = h := ⟨_, rfl⟩
      rw [hh] at hLk0
      have hLk : L[k]? = some h := hLk0
      have hOi : O[i]? = some h := by rw [← HO.out, hk]; exact hLk
      have hkn : k < n := by omega
      have hkz : (k : Int) < (n : Int) := by omega
      clear hh hLk0
      subst hk
      have HSU := Lib.hid (flat_at (f := wantB x y 1) hOi)
      rw [HA.out] at HSU
      have hAl : A.length ≤ 320 := by
        rw [← HA.out]
        refine Nat.le_trans (flatM_len _ fun x _ => wantB_len _ _ _ _) (by rw [List.length_take]; omega)
      have HAL := Lib.hid hAl
      obtain ⟨ba, hba, hlb, c0, c1, c2, c4⟩ := (HLa.out.below hbr).hb hLk
      obtain rfl : al = some ⟨ba, 0, none⟩ := hba
      clear hAl hLk hOi
      obtain ⟨⟨hy, hn⟩, hb, ha, hs⟩ := h
      simp only at c0 c1 c2 c4
      by_cases h1 : hs ≤ x
      · have HNIL : Hid (wantB x y 1 ⟨⟨hy, hn⟩, hb, ha, hs⟩ = []) := Lib.hid (by unfold wantB; rw [if_pos (.inl h1)])
        go_wp2_with fail
        go_roundg (n + 1 - (i + 1))
        case measure => have := HG.out; omega
        case rel => exact ⟨i + 1, A, by go_num, by omega, by omega, Lib.hid (by rw [HSU.out, HNIL.out, List.append_nil]), HR, hbr⟩
      · by_cases h2 : y ≤ hs
        · have HNIL : Hid (wantB x y 1 ⟨⟨hy, hn⟩, hb, ha, hs⟩ = []) := Lib.hid (by unfold wantB; rw [if_pos (.inr h2)])
          go_wp2_with fail
          go_roundg (n + 1 - (i + 1))
          case measure => have := HG.out; omega
          case rel => exact ⟨i + 1, A, by go_num, by omega, by omega, Lib.hid (by rw [HSU.out, HNIL.out, List.append_nil]), HR, hbr⟩
        · obtain ⟨f, hf⟩ : ∃ f : Bool, (hb == 1) = f := ⟨_, rfl⟩
          have HONE : Hid (wantB x y 1 ⟨⟨hy, hn⟩, hb, ha, hs⟩ = [⟨⟨hy, hn⟩, f, 1⟩]) := Lib.hid (by unfold wantB; rw [if_neg (by simp only; omega), ← hf]; rfl)
          go_upto_region 18 with fail
          go_region
          obtain ⟨w5, hw5⟩ : ∃ w5, (wr.alloc (.cells #[.int .u8 hy, .int .i64 hn, .bool f, .int .u8 0] 47)).drew = w5 := ⟨_, rfl⟩
          have hob : w5.heap[wr.heap.size]? = some (.cells #[.int .u8 hy, .int .i64 hn, .bool f, .int .u8 0] 47 (0, 0)) := by rw [← hw5]; exact World.alloc_heap_new wr _
          have hb5 : RowKit.Below wr.heap.size wr w5 := by rw [← hw5]; exact below_drewN ((Below.refl _ _).alloc (Nat.le_refl _) _) 1
          rw [hw5]
          clear hw5
          have q0 : w5.cell? ⟨wr.heap.size, 0, none⟩ = some (.int .u8 hy) := by simp [World.cell?, hob]
          have q3 : w5.cell? ⟨wr.heap.size, 3, none⟩ = some (.int .u8 0) := by simp [World.cell?, hob]
          have fz : w5.frozen? ⟨wr.heap.size, 3, none⟩ = false := by simp [World.frozen?, hob]
          have hob6 := setCell_block w5 wr.heap.size 3 (.int .u8 1) hob
          have hb6 := hb5.setCell (p := ⟨wr.heap.size, 3, none⟩) (Nat.le_refl _) (.int .u8 1)
          simp at hob6
          go_upto_region 21 with fail
          clear q0 q3 fz hob hb5
          obtain ⟨w6, hw6⟩ : ∃ w6, w5.setCell ⟨wr.heap.size, 3, none⟩ (.int .u8 1) = w6 := ⟨_, rfl⟩
          rw [hw6] at hob6 hb6 ⊢
          clear hw6
          obtain ⟨hl6, hb6⟩ : wr.heap.size < w6.heap.size ∧ RowKit.Below wr.heap.size wr w6 := ⟨(Array.getElem?_eq_some_iff.1 hob6).1, hb6⟩
          have q0 : w6.cell? ⟨wr.heap.size, 0, none⟩ = some (.int .u8 hy) := by simp [World.cell?, hob6]
          have q1 : w6.cell? ⟨wr.heap.size, 1, none⟩ = some (.int .i64 hn) := by simp [World.cell?, hob6]
          have q2 : w6.cell? ⟨wr.heap.size, 2, none⟩ = some (.bool f) := by simp [World.cell?, hob6]
          have q3 : w6.cell? ⟨wr.heap.size, 3, none⟩ = some (.int .u8 1) := by simp [World.cell?, hob6]
          have hal := (hbr.trans (hb6.mono hbr.size)).alloc (Nat.le_trans hbr.size hb6.size) (.cells #[.int .u8 hy, .int .i64 hn, .bool f, .int .u8 1] 47)
          have HOW := Lib.hid (below_owns HR.out hb6)
          clear hob6
          iterate 10 go_step
          refine wpList_app_rec kdPa (v := u15) (l := A) (x := ⟨⟨hy, hn⟩, f, 1⟩) rfl rfl rfl rfl (HOW.out.alloc _) (rec_new Pa.enc _ 47 ⟨⟨hy, hn⟩, f, 1⟩) (by have := HAL.out; omega) hal.size ?_
          intro v4 w7 hw4 hg4 hat4
          have HW4 := Lib.hid hw4
          have hb4 : RowKit.Below w4.heap.size w4 w7 := hal.grown hg4 hal.size (fun g e => (HR.out.lt g e).1)
          clear hw4 hg4 hat4 hal
          go_wp2_with fail
          go_roundg (n + 1 - (i + 1))
          case measure => have := HG.out; omega
          case rel => exact ⟨i + 1, A ++ [⟨⟨hy, hn⟩, f, 1⟩], by go_num, by omega, by omega, Lib.hid (by rw [HSU.out, HONE.out]), HW4, hb4⟩
    · obtain rfl : i = n := by omega
      have hiz : ¬ ((i : Int) < (i : Int)) := by omega
      have hAM : A = M := by rw [← HA.out, List.take_of_length_le (by rw [HON.out]; exact Nat.le_refl _), HW.out]
      subst hAM
      have hR2 := HR.out
      obtain ⟨aw, cw, rfl, hLw, _⟩ := lies_of_own Pa.enc_len hR2 rfl
      rw [HMN.out]
      have HLw := Lib.hid hLw
      replace HLg := Lib.hid (HLg.out.below hbr)
      replace HLa := Lib.hid (HLa.out.below hbr)
      replace HB := Lib.hid (HB.out.trans (hbr.mono HB.out.size))
      have HPS := Lib.hid (fun (ao : Option Addr) (cap : Nat) (W : World) (hl : Lies Pa.enc 0 W ao A) => passed_any ao A cap W hl (by rw [HMN.out]; omega) HDR.out)
      obtain ⟨S, hS⟩ : ∃ S, passM A = S := ⟨_, rfl⟩
      simp only [hS, HMN.out, strB] at HPS
      clear hR2 hLw HR hbr hS HA
      have HT1 := Lib.hid True.intro
      go_wp2_with (first
        | (go_at_call 14; have HQ := HT1; refine (HPS.out _ _ _ (HLg.out.mono (Nat.zero_le _))).mono ?_; rintro e w5 ⟨rfl, hb⟩; clear HT1 HQ; have HT2 := Lib.hid True.intro; replace HB := Lib.hid (HB.out.trans (hb.mono HB.out.size)); replace HLg := Lib.hid (HLg.out.below hb); replace HLw := Lib.hid (HLw.out.below hb); replace HLa := Lib.hid (HLa.out.below hb); clear hb)
        | (go_at_call 14; have HQ := HT2; refine (HPS.out _ _ _ (HLw.out.mono (Nat.zero_le _))).mono ?_; rintro e w6 ⟨rfl, hb⟩; clear HT2 HQ; replace HB := Lib.hid (HB.out.trans (hb.mono HB.out.size)); replace HLg := Lib.hid (HLg.out.below hb); replace HLw := Lib.hid (HLw.out.below hb); replace HLa := Lib.hid (HLa.out.below hb); clear hb))
      go_loopg [19] (m + 1) (fun g s19 wx => ∃ j : Nat, s19 = .int .i64 j ∧ j ≤ m ∧ g = m + 1 - j ∧ RowKit.Below w6.heap.size w6 wx)
      case atStart => exact ⟨0, rfl, by omega, by omega, Below.refl _ _⟩
      case round =>
        obtain ⟨j, rfl, hj, hg, hbx⟩ := hrel
        have HG2 := Lib.hid hg
        clear hg
        by_cases hlt2 : j < m
        · have hjz : (j : Int) < (m : Int) := by omega
          obtain ⟨y', hy⟩ : ∃ y', A[j]? = some y' := ⟨A[j]'(by rw [HMN.out]; exact hlt2), List.getElem?_eq_getElem _⟩
          obtain ⟨ba, rfl, c0, c1, c2, c3⟩ := (HLg.out.below hbx).pa hy
          obtain ⟨bb, rfl, e0, e1, e2, e3⟩ := (HLw.out.below hbx).pa hy
          clear hy
          go_upto_region 27 with fail
          go_quiet (fail)
          go_wp2_with fail
          go_roundg (m + 1 - (j + 1))
          case measure => have := HG2.out; omega
          case rel => exact ⟨j + 1, by go_num, by omega, by omega, below_drewN hbx _⟩
        · obtain rfl : j = m := by omega
          have hjz : ¬ ((j : Int) < (j : Int)) := by omega
          replace HLg := Lib.hid (HLg.out.below hbx)
          replace HLa := Lib.hid (HLa.out.below hbx)
          replace HB := Lib.hid (HB.out.trans (hbx.mono HB.out.size))
          clear HLw hbx
          go_upto_region 30 with (go_at_call 13; refine (HBT2.out _ (HLa.out.mono (Nat.zero_le _))).mono ?_; rintro e w7 ⟨v7, rfl, ak, rfl, HLk, hb7⟩; rw [HMN2.out]; replace HB := Lib.hid (HB.out.trans (hb7.mono HB.out.size)); replace HLg := Lib.hid (HLg.out.below hb7); clear hb7)
          have hal := below1 w7 (.cells #[] 47)
          iterate 7 go_step
          refine wpList_app_list kdPa (l := []) (xs := A) rfl rfl rfl rfl HMN.out (own_made w7) ((HLg.out.below hal).mono (Nat.zero_le _)) (by rw [HMN.out]; simp; omega) (by simp) ?_
          intro v8 w8 ho8 hg8
          have hb8 : RowKit.Below w7.heap.size w7 w8 := hal.grown hg8 (by simp) (fun g e => by cases e; exact Nat.le_refl _)
          have HLk8 := Lib.hid (HLk.out.below hb8)
          have HO8 := Lib.hid ho8
          have HB8 := Lib.hid hb8
          clear ho8 hg8 hb8 hal
          iterate 3 go_step
          refine wpList_app_list kdPa (l := [] ++ A) (xs := M2) rfl rfl rfl rfl HMN2.out HO8.out (HLk8.out.mono (Nat.zero_le _)) (by rw [HMN2.out, List.nil_append, HMN.out]; omega) HB8.out.size ?_
          intro v9 w9 ho9 hg9
          have hb9 : RowKit.Below w7.heap.size w7 w9 := HB8.out.grown hg9 HB8.out.size (fun g e => (HO8.out.lt g e).1)
          have HRD := Lib.hid (reduce_M v9 ([] ++ A ++ M2) w7.heap.size w9 ho9 (by rw [List.nil_append, List.length_append, HMN.out, HMN2.out]; omega) (by rw [List.nil_append, HBK.out]; exact red_back A HDR.out))
          replace HB := Lib.hid (HB.out.trans (hb9.mono HB.out.size))
          clear ho9 hg9 hb9
          go_wp2_with (first
            | (go_at_call 15; refine HRD.out.mono ?_; rintro e w10 ⟨bo, rfl, hb⟩; replace HB := Lib.hid (HB.out.trans (hb.mono HB.out.size)); clear hb)
            | (go_at_call 11; refine (HST.out _ (HB00.out.trans (HB.out.mono HB00.out.size))).mono ?_; rintro e w11 ⟨rfl, hb⟩; replace HB := Lib.hid (HB.out.trans (hb.mono HB.out.size)); clear hb))
          go_ret
          exact ⟨rfl, HB00.out.trans (HB.out.mono HB00.out.size)⟩
end Go.Proofs.YtjjnhmbgffdenaaDoor
namespace Go.Proofs.YtjjnhmbgffdenaaDoor
open Go.RowKit Go.Sort
set_option maxRecDepth 100000 in
set_option maxHeartbeats 16000000 in
/-- OrdersBetween: y < x. -/
theorem between_gt (ao : Option Addr) (xs : List (Nat × Nat)) (cap : Nat) (z x y : Int) (w : World) (h : LieP w ao xs) (hs : Stp w) (hz : 0 ≤ z ∧ z ≤ 255) (hxy : y < x) :
    Calls Tryd.prog 4 #[.slice ao xs.length cap, .int .u8 z, .agg #[.int .i64 x, .int .i64 y]] w fun e w' => e = .returned (.bool true) ∧ Below w.heap.size w w' := by
  have bp := Boxed2.new w 42 (.int .i64 x) (.int .i64 y)
  have hb00 := below1 w (.cells #[.int .i64 x, .int .i64 y] 42)
  obtain ⟨W0, hW0⟩ : ∃ W0, w.alloc (.cells #[.int .i64 x, .int .i64 y] 42) = W0 := ⟨_, rfl⟩
  rw [hW0] at bp hb00
  have HB00 := Lib.hid hb00
  have HOF := Lib.hid (Of_any ao xs cap W0 (h.below hb00))
  have HTO := Lib.hid (ofM_ok xs)
  have HS := Lib.hid hs
  have HST := Lib.hid (fun (W : World) (hb : RowKit.Below w.heap.size w W) => lives_any W (hs.below hb hs.lt))
  have HBP := Lib.hid (fun (W : World) (hb : RowKit.Below W0.heap.size W0 W) => bp.below hb bp.lt)
  obtain ⟨T, hT⟩ : ∃ T, ofM xs = T := ⟨_, rfl⟩
  rw [hT] at HOF HTO
  obtain ⟨N, hN⟩ : ∃ N, xs.length = N := ⟨_, rfl⟩
  rw [hN] at HOF ⊢
  obtain ⟨q, hq⟩ : ∃ q, Int.tmod z 9 = q := ⟨_, rfl⟩
  have hq8 : 0 ≤ q ∧ q ≤ 8 := by rw [← hq, Int.tmod_eq_emod_of_nonneg hz.1]; omega
  obtain ⟨r, hr⟩ : ∃ r, q - 4 = r := ⟨_, rfl⟩
  have hr4 : -4 ≤ r ∧ r ≤ 4 := by omega
  have hok : okR r = true := by unfold okR; simp; omega
  have HOK := Lib.hid hok
  have hn9 := lst_320 HTO.out hok
  obtain ⟨L, hL⟩ : ∃ L, lstH T r 95 = L := ⟨_, rfl⟩
  rw [hL] at hn9
  obtain ⟨n, hn⟩ : ∃ n, L.length = n := ⟨_, rfl⟩
  rw [hn] at hn9
  have HL := Lib.hid hL
  have HN := Lib.hid hn
  have hml := betweenM_len L x y
  have hdirs := between_dirs L x y
  have hbk := between_back L x y
  have hwant : L.reverse.flatMap (wantB y x 0) = betweenM L x y := want_ge L (by omega)
  obtain ⟨M, hM⟩ : ∃ M, betweenM L x y = M := ⟨_, rfl⟩
  rw [hM] at hml hdirs hwant
  rw [hM] at hbk
  obtain ⟨M2, hM2⟩ : ∃ M, betweenM L y x = M := ⟨_, rfl⟩
  rw [hM2] at hbk
  obtain ⟨O, hO⟩ : ∃ O, L.reverse = O := ⟨_, rfl⟩
  rw [hO] at hwant
  obtain ⟨m, hm⟩ : ∃ m, M.length = m := ⟨_, rfl⟩
  have hm9 : m ≤ 320 := by omega
  have hm2 : M2.length = m := by rw [hbk, List.length_reverse, List.length_map]; exact hm
  have hON : O.length = n := by rw [← hO]; rw [List.length_reverse]; exact hn
  have HM := Lib.hid hM
  have HM2 := Lib.hid hM2
  have HMN := Lib.hid hm
  have HMN2 := Lib.hid hm2
  have HW := Lib.hid hwant
  have HO := Lib.hid hO
  have HON := Lib.hid hON
  have HBK := Lib.hid hbk
  have HDR := Lib.hid hdirs
  have HT0 := Lib.hid True.intro
  have HQR := Lib.hid (And.intro hq hr)
  have hc1 : y < x := hxy
  have hc2 : y ≤ x := by omega
  have hc3 : ¬ (x < y) := by omega
  clear h hs hT hN hok hL hn hml hdirs hbk hwant hO hM hM2 hm hm2 hON hb00 hxy
  have y0 := bp.cell0
  have y1 := bp.cell1
  clear bp
  go_enter Tryd.func4, Tryd.ntmps4
  go_upto_region 5 with (first
    | (go_at_call 9; refine HOF.out.mono ?_; rintro e w1 ⟨⟨⟨ga, gs, gc⟩, ⟨ka, ks, kc⟩⟩, rfl, hbd, hb1⟩; have HB := Lib.hid hb1; have HBD := Lib.hid hbd.out; have HLI := Lib.hid (list_good ⟨⟨ga, gs, gc⟩, ⟨ka, ks, kc⟩⟩ T r w1.heap.size w1 (Nat.le_refl _) HBD.out.2.2.1 HBD.out.1 HTO.out HOK.out L HL.out n HN.out); simp only [Bds.v, Bed.v] at HLI ⊢; clear hb1 hbd)
    | (go_at_call 10; refine HLI.out.mono ?_; rintro e w2 ⟨al, rfl, HLa, hb⟩; replace HB := Lib.hid (HB.out.trans (hb.mono HB.out.size)); clear hb; clear y0 y1; have y0 := (HBP.out _ HB.out).cell0; have y1 := (HBP.out _ HB.out).cell1))
  go_quiet (fail)
  rename_i nq
  obtain ⟨w3, hw3⟩ : ∃ w3, w2.drewN nq = w3 := ⟨_, rfl⟩
  have hb3 : RowKit.Below w2.heap.size w2 w3 := by rw [← hw3]; exact below_drewN (Below.refl _ _) _
  rw [hw3]
  clear hw3
  replace HB := Lib.hid (HB.out.trans (hb3.mono HB.out.size))
  replace HLa := Lib.hid (HLa.out.below hb3)
  clear hb3 y0 y1 HLI HBP
  have HBT := Lib.hid (fun (W : World) (ho : Lies Hd.enc 0 W al L) => between_any al L n x y W ho (by rw [HN.out]; omega))
  have HBT2 := Lib.hid (fun (W : World) (ho : Lies Hd.enc 0 W al L) => between_any al L n y x W ho (by rw [HN.out]; omega))
  simp only [HN.out, HM.out] at HBT
  simp only [HN.out, HM2.out] at HBT2
  go_wp2_with (first
    | (go_at_call 13; refine (HBT.out _ (HLa.out.mono (Nat.zero_le _))).mono ?_; rintro e w4 ⟨v4, rfl, ag, rfl, HLg, hb4⟩; rw [HMN.out]; replace HB := Lib.hid (HB.out.trans (hb4.mono HB.out.size)); replace HLa := Lib.hid (HLa.out.below hb4); clear hb4))
  clear HBT
  go_loopg [15, 16] (n + 1) (fun g v s16 wr => ∃ (i : Nat) (A : List Pa), s16 = .int .i64 i ∧ i ≤ n ∧ g = n + 1 - i ∧ Hid ((O.take i).flatMap (wantB y x 0) = A) ∧ Hid (wr.ownsRow w4.heap.size 47 4 v A.length (rcells Pa.enc A)) ∧ RowKit.Below w4.heap.size w4 wr)
  case atStart => exact ⟨0, [], rfl, by omega, by omega, Lib.hid rfl, Lib.hid (World.ownsRow_nil _ _ _ _), Below.refl _ _⟩
  case round =>
    obtain ⟨i, A, rfl, hi, hg, HA, HR, hbr⟩ := hrel
    have HG := Lib.hid hg
    clear hg
    by_cases hlt : i < n
    · have hiz : (i : Int) < (n : Int) := by omega
      obtain ⟨k, hk⟩ : ∃ k, n - 1 - i = k := ⟨_, rfl⟩
      have hLk0 : L[k]? = some (L[k]'(by rw [HN.out]; omega)) := List.getElem?_eq_getElem _
      obtain ⟨h, hh⟩ : ∃ h, L[k]'(by rw [HN.out]; omega) = h := ⟨_, rfl⟩
      rw [hh] at hLk0
      have hLk : L[k]? = some h := hLk0
      have hOi : O[i]? = some h := by rw [← HO.out, List.getElem?_reverse (by rw [HN.out]; omega), HN.out, hk]; exact hLk
      have hkn : k < n := by omega
      have hkz : (k : Int) < (n : Int) := by omega
      have hke : (n : Int) - 1 - (i : Int) = (k : Int) := by omega
      clear hh hLk0
      have HKE := Lib.hid hk
      clear hk
      have HSU := Lib.hid (flat_at (f := wantB y x 0) hOi)
      rw [HA.out] at HSU
      have hAl : A.length ≤ 320 := by
        rw [← HA.out]
        refine Nat.le_trans (flatM_len _ fun x _ => wantB_len _ _ _ _) (by rw [List.length_take]; omega)
      have HAL := Lib.hid hAl
      obtain ⟨ba, hba, hlb, c0, c1, c2, c4⟩ := (HLa.out.below hbr).hb hLk
      obtain rfl : al = some ⟨ba, 0, none⟩ := hba
      clear hAl hLk hOi
      obtain ⟨⟨hy, hn⟩, hb, ha, hs⟩ := h
      simp only at c0 c1 c2 c4
      by_cases h1 : hs ≤ y
      · have HNIL : Hid (wantB y x 0 ⟨⟨hy, hn⟩, hb, ha, hs⟩ = []) := Lib.hid (by unfold wantB; rw [if_pos (.inl h1)])
        go_wp2_with fail
        go_roundg (n + 1 - (i + 1))
        case measure => have := HG.out; omega
        case rel => exact ⟨i + 1, A, by go_num, by omega, by omega, Lib.hid (by rw [HSU.out, HNIL.out, List.append_nil]), HR, hbr⟩
      · by_cases h2 : x ≤ hs
        · have HNIL : Hid (wantB y x 0 ⟨⟨hy, hn⟩, hb, ha, hs⟩ = []) := Lib.hid (by unfold wantB; rw [if_pos (.inr h2)])
          go_wp2_with fail
          go_roundg (n + 1 - (i + 1))
          case measure => have := HG.out; omega
          case rel => exact ⟨i + 1, A, by go_num, by omega, by omega, Lib.hid (by rw [HSU.out, HNIL.out, List.append_nil]), HR, hbr⟩
        · obtain ⟨f, hf⟩ : ∃ f : Bool, (hb == 1) = f := ⟨_, rfl⟩
          have HONE : Hid (wantB y x 0 ⟨⟨hy, hn⟩, hb, ha, hs⟩ = [⟨⟨hy, hn⟩, f, 0⟩]) := Lib.hid (by unfold wantB; rw [if_neg (by simp only; omega), ← hf]; rfl)
          go_upto_region 18 with fail
          go_region
          obtain ⟨w5, hw5⟩ : ∃ w5, (wr.alloc (.cells #[.int .u8 hy, .int .i64 hn, .bool f, .int .u8 0] 47)).drew = w5 := ⟨_, rfl⟩
          have hob : w5.heap[wr.heap.size]? = some (.cells #[.int .u8 hy, .int .i64 hn, .bool f, .int .u8 0] 47 (0, 0)) := by rw [← hw5]; exact World.alloc_heap_new wr _
          have hb5 : RowKit.Below wr.heap.size wr w5 := by rw [← hw5]; exact below_drewN ((Below.refl _ _).alloc (Nat.le_refl _) _) 1
          rw [hw5]
          clear hw5
          obtain ⟨w6, hw6⟩ : ∃ w6, w5 = w6 := ⟨_, rfl⟩
          rw [hw6] at hob hb5 ⊢
          have hob6 := hob
          have hb6 := hb5
          clear hw6 hob hb5
          go_upto_region 21 with fail
          obtain ⟨hl6, hb6⟩ : wr.heap.size < w6.heap.size ∧ RowKit.Below wr.heap.size wr w6 := ⟨(Array.getElem?_eq_some_iff.1 hob6).1, hb6⟩
          have q0 : w6.cell? ⟨wr.heap.size, 0, none⟩ = some (.int .u8 hy) := by simp [World.cell?, hob6]
          have q1 : w6.cell? ⟨wr.heap.size, 1, none⟩ = some (.int .i64 hn) := by simp [World.cell?, hob6]
          have q2 : w6.cell? ⟨wr.heap.size, 2, none⟩ = some (.bool f) := by simp [World.cell?, hob6]
          have q3 : w6.cell? ⟨wr.heap.size, 3, none⟩ = some (.int .u8 0) := by simp [World.cell?, hob6]
          have hal := (hbr.trans (hb6.mono hbr.size)).alloc (Nat.le_trans hbr.size hb6.size) (.cells #[.int .u8 hy, .int .i64 hn, .bool f, .int .u8 0] 47)
          have HOW := Lib.hid (below_owns HR.out hb6)
          clear hob6
          iterate 10 go_step
          refine wpList_app_rec kdPa (v := u15) (l := A) (x := ⟨⟨hy, hn⟩, f, 0⟩) rfl rfl rfl rfl (HOW.out.alloc _) (rec_new Pa.enc _ 47 ⟨⟨hy, hn⟩, f, 0⟩) (by have := HAL.out; omega) hal.size ?_
          intro v4 w7 hw4 hg4 hat4
          have HW4 := Lib.hid hw4
          have hb4 : RowKit.Below w4.heap.size w4 w7 := hal.grown hg4 hal.size (fun g e => (HR.out.lt g e).1)
          clear hw4 hg4 hat4 hal
          go_wp2_with fail
          go_roundg (n + 1 - (i + 1))
          case measure => have := HG.out; omega
          case rel => exact ⟨i + 1, A ++ [⟨⟨hy, hn⟩, f, 0⟩], by go_num, by omega, by omega, Lib.hid (by rw [HSU.out, HONE.out]), HW4, hb4⟩
    · obtain rfl : i = n := by omega
      have hiz : ¬ ((i : Int) < (i : Int)) := by omega
      have hAM : A = M := by rw [← HA.out, List.take_of_length_le (by rw [HON.out]; exact Nat.le_refl _), HW.out]
      subst hAM
      have hR2 := HR.out
      obtain ⟨aw, cw, rfl, hLw, _⟩ := lies_of_own Pa.enc_len hR2 rfl
      rw [HMN.out]
      have HLw := Lib.hid hLw
      replace HLg := Lib.hid (HLg.out.below hbr)
      replace HLa := Lib.hid (HLa.out.below hbr)
      replace HB := Lib.hid (HB.out.trans (hbr.mono HB.out.size))
      have HPS := Lib.hid (fun (ao : Option Addr) (cap : Nat) (W : World) (hl : Lies Pa.enc 0 W ao A) => passed_any ao A cap W hl (by rw [HMN.out]; omega) HDR.out)
      obtain ⟨S, hS⟩ : ∃ S, passM A = S := ⟨_, rfl⟩
      simp only [hS, HMN.out, strB] at HPS
      clear hR2 hLw HR hbr hS HA
      have HT1 := Lib.hid True.intro
      go_wp2_with (first
        | (go_at_call 14; have HQ := HT1; refine (HPS.out _ _ _ (HLg.out.mono (Nat.zero_le _))).mono ?_; rintro e w5 ⟨rfl, hb⟩; clear HT1 HQ; have HT2 := Lib.hid True.intro; replace HB := Lib.hid (HB.out.trans (hb.mono HB.out.size)); replace HLg := Lib.hid (HLg.out.below hb); replace HLw := Lib.hid (HLw.out.below hb); replace HLa := Lib.hid (HLa.out.below hb); clear hb)
        | (go_at_call 14; have HQ := HT2; refine (HPS.out _ _ _ (HLw.out.mono (Nat.zero_le _))).mono ?_; rintro e w6 ⟨rfl, hb⟩; clear HT2 HQ; replace HB := Lib.hid (HB.out.trans (hb.mono HB.out.size)); replace HLg := Lib.hid (HLg.out.below hb); replace HLw := Lib.hid (HLw.out.below hb); replace HLa := Lib.hid (HLa.out.below hb); clear hb))
      go_loopg [19] (m + 1) (fun g s19 wx => ∃ j : Nat, s19 = .int .i64 j ∧ j ≤ m ∧ g = m + 1 - j ∧ RowKit.Below w6.heap.size w6 wx)
      case atStart => exact ⟨0, rfl, by omega, by omega, Below.refl _ _⟩
      case round =>
        obtain ⟨j, rfl, hj, hg, hbx⟩ := hrel
        have HG2 := Lib.hid hg
        clear hg
        by_cases hlt2 : j < m
        · have hjz : (j : Int) < (m : Int) := by omega
          obtain ⟨y', hy⟩ : ∃ y', A[j]? = some y' := ⟨A[j]'(by rw [HMN.out]; exact hlt2), List.getElem?_eq_getElem _⟩
          obtain ⟨ba, rfl, c0, c1, c2, c3⟩ := (HLg.out.below hbx).pa hy
          obtain ⟨bb, rfl, e0, e1, e2, e3⟩ := (HLw.out.below hbx).pa hy
          clear hy
          go_upto_region 27 with fail
          go_quiet (fail)
          go_wp2_with fail
          go_roundg (m + 1 - (j + 1))
          case measure => have := HG2.out; omega
          case rel => exact ⟨j + 1, by go_num, by omega, by omega, below_drewN hbx _⟩
        · obtain rfl : j = m := by omega
          have hjz : ¬ ((j : Int) < (j : Int)) := by omega
          replace HLg := Lib.hid (HLg.out.below hbx)
          replace HLa := Lib.hid (HLa.out.below hbx)
          replace HB := Lib.hid (HB.out.trans (hbx.mono HB.out.size))
          clear HLw hbx
          go_upto_region 30 with (go_at_call 13; refine (HBT2.out _ (HLa.out.mono (Nat.zero_le _))).mono ?_; rintro e w7 ⟨v7, rfl, ak, rfl, HLk, hb7⟩; rw [HMN2.out]; replace HB := Lib.hid (HB.out.trans (hb7.mono HB.out.size)); replace HLg := Lib.hid (HLg.out.below hb7); clear hb7)
          have hal := below1 w7 (.cells #[] 47)
          iterate 7 go_step
          refine wpList_app_list kdPa (l := []) (xs := A) rfl rfl rfl rfl HMN.out (own_made w7) ((HLg.out.below hal).mono (Nat.zero_le _)) (by rw [HMN.out]; simp; omega) (by simp) ?_
          intro v8 w8 ho8 hg8
          have hb8 : RowKit.Below w7.heap.size w7 w8 := hal.grown hg8 (by simp) (fun g e => by cases e; exact Nat.le_refl _)
          have HLk8 := Lib.hid (HLk.out.below hb8)
          have HO8 := Lib.hid ho8
          have HB8 := Lib.hid hb8
          clear ho8 hg8 hb8 hal
          iterate 3 go_step
          refine wpList_app_list kdPa (l := [] ++ A) (xs := M2) rfl rfl rfl rfl HMN2.out HO8.out (HLk8.out.mono (Nat.zero_le _)) (by rw [HMN2.out, List.nil_append, HMN.out]; omega) HB8.out.size ?_
          intro v9 w9 ho9 hg9
          have hb9 : RowKit.Below w7.heap.size w7 w9 := HB8.out.grown hg9 HB8.out.size (fun g e => (HO8.out.lt g e).1)
          have HRD := Lib.hid (reduce_M v9 ([] ++ A ++ M2) w7.heap.size w9 ho9 (by rw [List.nil_append, List.length_append, HMN.out, HMN2.out]; omega) (by rw [List.nil_append, HBK.out]; exact red_back A HDR.out))
          replace HB := Lib.hid (HB.out.trans (hb9.mono HB.out.size))
          clear ho9 hg9 hb9
          go_wp2_with (first
            | (go_at_call 15; refine HRD.out.mono ?_; rintro e w10 ⟨bo, rfl, hb⟩; replace HB := Lib.hid (HB.out.trans (hb.mono HB.out.size)); clear hb)
            | (go_at_call 11; refine (HST.out _ (HB00.out.trans (HB.out.mono HB00.out.size))).mono ?_; rintro e w11 ⟨rfl, hb⟩; replace HB := Lib.hid (HB.out.trans (hb.mono HB.out.size)); clear hb))
          go_ret
          exact ⟨rfl, HB00.out.trans (HB.out.mono HB00.out.size)⟩
end Go.Proofs.YtjjnhmbgffdenaaDoor
namespace Go.Proofs.YtjjnhmbgffdenaaDoor
open Go.RowKit Go.Sort
set_option maxRecDepth 100000 in
set_option maxHeartbeats 16000000 in
/-- OrdersBetween: x = y. -/
theorem between_eq (ao : Option Addr) (xs : List (Nat × Nat)) (cap : Nat) (z x y : Int) (w : World) (h : LieP w ao xs) (hs : Stp w) (hz : 0 ≤ z ∧ z ≤ 255) (hxy : x = y) :
    Calls Tryd.prog 4 #[.slice ao xs.length cap, .int .u8 z, .agg #[.int .i64 x, .int .i64 y]] w fun e w' => e = .returned (.bool true) ∧ Below w.heap.size w w' := by
  subst hxy
  have bp := Boxed2.new w 42 (.int .i64 x) (.int .i64 x)
  have hb00 := below1 w (.cells #[.int .i64 x, .int .i64 x] 42)
  obtain ⟨W0, hW0⟩ : ∃ W0, w.alloc (.cells #[.int .i64 x, .int .i64 x] 42) = W0 := ⟨_, rfl⟩
  rw [hW0] at bp hb00
  have HB00 := Lib.hid hb00
  have HOF := Lib.hid (Of_any ao xs cap W0 (h.below hb00))
  have HTO := Lib.hid (ofM_ok xs)
  have HS := Lib.hid hs
  have HST := Lib.hid (fun (W : World) (hb : RowKit.Below w.heap.size w W) => lives_any W (hs.below hb hs.lt))
  have HBP := Lib.hid (fun (W : World) (hb : RowKit.Below W0.heap.size W0 W) => bp.below hb bp.lt)
  obtain ⟨T, hT⟩ : ∃ T, ofM xs = T := ⟨_, rfl⟩
  rw [hT] at HOF HTO
  obtain ⟨N, hN⟩ : ∃ N, xs.length = N := ⟨_, rfl⟩
  rw [hN] at HOF ⊢
  obtain ⟨q, hq⟩ : ∃ q, Int.tmod z 9 = q := ⟨_, rfl⟩
  have hq8 : 0 ≤ q ∧ q ≤ 8 := by rw [← hq, Int.tmod_eq_emod_of_nonneg hz.1]; omega
  obtain ⟨r, hr⟩ : ∃ r, q - 4 = r := ⟨_, rfl⟩
  have hr4 : -4 ≤ r ∧ r ≤ 4 := by omega
  have hok : okR r = true := by unfold okR; simp; omega
  have HOK := Lib.hid hok
  have hn9 := lst_320 HTO.out hok
  obtain ⟨L, hL⟩ : ∃ L, lstH T r 95 = L := ⟨_, rfl⟩
  rw [hL] at hn9
  obtain ⟨n, hn⟩ : ∃ n, L.length = n := ⟨_, rfl⟩
  rw [hn] at hn9
  have HL := Lib.hid hL
  have HN := Lib.hid hn
  have hml := betweenM_len L x x
  have hdirs := between_dirs L x x
  have hbk := between_back L x x
  have hwant : L.reverse.flatMap (wantB x x 0) = betweenM L x x := want_ge L (by omega)
  obtain ⟨M, hM⟩ : ∃ M, betweenM L x x = M := ⟨_, rfl⟩
  rw [hM] at hml hdirs hwant
  rw [hM] at hbk
  obtain ⟨M2, hM9⟩ : ∃ M2, M = M2 := ⟨_, rfl⟩
  have hM2 : betweenM L x x = M2 := hM.trans hM9
  replace hbk : M2 = (M.map Pa.back).reverse := hM9.symm.trans hbk
  clear hM9
  obtain ⟨O, hO⟩ : ∃ O, L.reverse = O := ⟨_, rfl⟩
  rw [hO] at hwant
  obtain ⟨m, hm⟩ : ∃ m, M.length = m := ⟨_, rfl⟩
  have hm9 : m ≤ 320 := by omega
  have hm2 : M2.length = m := by rw [hbk, List.length_reverse, List.length_map]; exact hm
  have hON : O.length = n := by rw [← hO]; rw [List.length_reverse]; exact hn
  have HM := Lib.hid hM
  have HM2 := Lib.hid hM2
  have HMN := Lib.hid hm
  have HMN2 := Lib.hid hm2
  have HW := Lib.hid hwant
  have HO := Lib.hid hO
  have HON := Lib.hid hON
  have HBK := Lib.hid hbk
  have HDR := Lib.hid hdirs
  have HT0 := Lib.hid True.intro
  have HQR := Lib.hid (And.intro hq hr)
  clear h hs hT hN hok hL hn hml hdirs hbk hwant hO hM hM2 hm hm2 hON hb00 
  have y0 := bp.cell0
  have y1 := bp.cell1
  clear bp
  go_enter Tryd.func4, Tryd.ntmps4
  go_upto_region 5 with (first
    | (go_at_call 9; refine HOF.out.mono ?_; rintro e w1 ⟨⟨⟨ga, gs, gc⟩, ⟨ka, ks, kc⟩⟩, rfl, hbd, hb1⟩; have HB := Lib.hid hb1; have HBD := Lib.hid hbd.out; have HLI := Lib.hid (list_good ⟨⟨ga, gs, gc⟩, ⟨ka, ks, kc⟩⟩ T r w1.heap.size w1 (Nat.le_refl _) HBD.out.2.2.1 HBD.out.1 HTO.out HOK.out L HL.out n HN.out); simp only [Bds.v, Bed.v] at HLI ⊢; clear hb1 hbd)
    | (go_at_call 10; refine HLI.out.mono ?_; rintro e w2 ⟨al, rfl, HLa, hb⟩; replace HB := Lib.hid (HB.out.trans (hb.mono HB.out.size)); clear hb; clear y0 y1; have y0 := (HBP.out _ HB.out).cell0; have y1 := (HBP.out _ HB.out).cell1))
  go_quiet (fail)
  rename_i nq
  obtain ⟨w3, hw3⟩ : ∃ w3, w2.drewN nq = w3 := ⟨_, rfl⟩
  have hb3 : RowKit.Below w2.heap.size w2 w3 := by rw [← hw3]; exact below_drewN (Below.refl _ _) _
  rw [hw3]
  clear hw3
  replace HB := Lib.hid (HB.out.trans (hb3.mono HB.out.size))
  replace HLa := Lib.hid (HLa.out.below hb3)
  clear hb3 y0 y1 HLI HBP
  have HBT := Lib.hid (fun (W : World) (ho : Lies Hd.enc 0 W al L) => between_any al L n x x W ho (by rw [HN.out]; omega))
  have HBT2 := Lib.hid (fun (W : World) (ho : Lies Hd.enc 0 W al L) => between_any al L n x x W ho (by rw [HN.out]; omega))
  simp only [HN.out, HM.out] at HBT
  simp only [HN.out, HM2.out] at HBT2
  go_wp2_with (first
    | (go_at_call 13; refine (HBT.out _ (HLa.out.mono (Nat.zero_le _))).mono ?_; rintro e w4 ⟨v4, rfl, ag, rfl, HLg, hb4⟩; rw [HMN.out]; replace HB := Lib.hid (HB.out.trans (hb4.mono HB.out.size)); replace HLa := Lib.hid (HLa.out.below hb4); clear hb4))
  clear HBT
  go_loopg [15, 16] (n + 1) (fun g v s16 wr => ∃ (i : Nat) (A : List Pa), s16 = .int .i64 i ∧ i ≤ n ∧ g = n + 1 - i ∧ Hid ((O.take i).flatMap (wantB x x 0) = A) ∧ Hid (wr.ownsRow w4.heap.size 47 4 v A.length (rcells Pa.enc A)) ∧ RowKit.Below w4.heap.size w4 wr)
  case atStart => exact ⟨0, [], rfl, by omega, by omega, Lib.hid rfl, Lib.hid (World.ownsRow_nil _ _ _ _), Below.refl _ _⟩
  case round =>
    obtain ⟨i, A, rfl, hi, hg, HA, HR, hbr⟩ := hrel
    have HG := Lib.hid hg
    clear hg
    by_cases hlt : i < n
    · have hiz : (i : Int) < (n : Int) := by omega
      obtain ⟨k, hk⟩ : ∃ k, n - 1 - i = k := ⟨_, rfl⟩
      have hLk0 : L[k]? = some (L[k]'(by rw [HN.out]; omega)) := List.getElem?_eq_getElem _
      obtain ⟨h, hh⟩ : ∃ h, L[k]'(by rw [HN.out]; omega) = h := ⟨_, rfl⟩
      rw [hh] at hLk0
      have hLk : L[k]? = some h := hLk0
      have hOi : O[i]? = some h := by rw [← HO.out, List.getElem?_reverse (by rw [HN.out]; omega), HN.out, hk]; exact hLk
      have hkn : k < n := by omega
      have hkz : (k : Int) < (n : Int) := by omega
      have hke : (n : Int) - 1 - (i : Int) = (k : Int) := by omega
      clear hh hLk0
      have HKE := Lib.hid hk
      clear hk
      have HSU := Lib.hid (flat_at (f := wantB x x 0) hOi)
      rw [HA.out] at HSU
      have hAl : A.length ≤ 320 := by
        rw [← HA.out]
        refine Nat.le_trans (flatM_len _ fun x _ => wantB_len _ _ _ _) (by rw [List.length_take]; omega)
      have HAL := Lib.hid hAl
      obtain ⟨ba, hba, hlb, c0, c1, c2, c4⟩ := (HLa.out.below hbr).hb hLk
      obtain rfl : al = some ⟨ba, 0, none⟩ := hba
      clear hAl hLk hOi
      obtain ⟨⟨hy, hn⟩, hb, ha, hs⟩ := h
      simp only at c0 c1 c2 c4
      by_cases h1 : hs ≤ x
      · have HNIL : Hid (wantB x x 0 ⟨⟨hy, hn⟩, hb, ha, hs⟩ = []) := Lib.hid (by unfold wantB; rw [if_pos (.inl h1)])
        go_wp2_with fail
        go_roundg (n + 1 - (i + 1))
        case measure => have := HG.out; omega
        case rel => exact ⟨i + 1, A, by go_num, by omega, by omega, Lib.hid (by rw [HSU.out, HNIL.out, List.append_nil]), HR, hbr⟩
      · by_cases h2 : x ≤ hs
        · have HNIL : Hid (wantB x x 0 ⟨⟨hy, hn⟩, hb, ha, hs⟩ = []) := Lib.hid (by unfold wantB; rw [if_pos (.inr h2)])
          go_wp2_with fail
          go_roundg (n + 1 - (i + 1))
          case measure => have := HG.out; omega
          case rel => exact ⟨i + 1, A, by go_num, by omega, by omega, Lib.hid (by rw [HSU.out, HNIL.out, List.append_nil]), HR, hbr⟩
        · exfalso; omega
    · obtain rfl : i = n := by omega
      have hiz : ¬ ((i : Int) < (i : Int)) := by omega
      have hAM : A = M := by rw [← HA.out, List.take_of_length_le (by rw [HON.out]; exact Nat.le_refl _), HW.out]
      subst hAM
      have hR2 := HR.out
      obtain ⟨aw, cw, rfl, hLw, _⟩ := lies_of_own Pa.enc_len hR2 rfl
      rw [HMN.out]
      have HLw := Lib.hid hLw
      replace HLg := Lib.hid (HLg.out.below hbr)
      replace HLa := Lib.hid (HLa.out.below hbr)
      replace HB := Lib.hid (HB.out.trans (hbr.mono HB.out.size))
      have HPS := Lib.hid (fun (ao : Option Addr) (cap : Nat) (W : World) (hl : Lies Pa.enc 0 W ao A) => passed_any ao A cap W hl (by rw [HMN.out]; omega) HDR.out)
      obtain ⟨S, hS⟩ : ∃ S, passM A = S := ⟨_, rfl⟩
      simp only [hS, HMN.out, strB] at HPS
      clear hR2 hLw HR hbr hS HA
      have HT1 := Lib.hid True.intro
      go_wp2_with (first
        | (go_at_call 14; have HQ := HT1; refine (HPS.out _ _ _ (HLg.out.mono (Nat.zero_le _))).mono ?_; rintro e w5 ⟨rfl, hb⟩; clear HT1 HQ; have HT2 := Lib.hid True.intro; replace HB := Lib.hid (HB.out.trans (hb.mono HB.out.size)); replace HLg := Lib.hid (HLg.out.below hb); replace HLw := Lib.hid (HLw.out.below hb); replace HLa := Lib.hid (HLa.out.below hb); clear hb)
        | (go_at_call 14; have HQ := HT2; refine (HPS.out _ _ _ (HLw.out.mono (Nat.zero_le _))).mono ?_; rintro e w6 ⟨rfl, hb⟩; clear HT2 HQ; replace HB := Lib.hid (HB.out.trans (hb.mono HB.out.size)); replace HLg := Lib.hid (HLg.out.below hb); replace HLw := Lib.hid (HLw.out.below hb); replace HLa := Lib.hid (HLa.out.below hb); clear hb))
      go_loopg [19] (m + 1) (fun g s19 wx => ∃ j : Nat, s19 = .int .i64 j ∧ j ≤ m ∧ g = m + 1 - j ∧ RowKit.Below w6.heap.size w6 wx)
      case atStart => exact ⟨0, rfl, by omega, by omega, Below.refl _ _⟩
      case round =>
        obtain ⟨j, rfl, hj, hg, hbx⟩ := hrel
        have HG2 := Lib.hid hg
        clear hg
        by_cases hlt2 : j < m
        · have hjz : (j : Int) < (m : Int) := by omega
          obtain ⟨y', hy⟩ : ∃ y', A[j]? = some y' := ⟨A[j]'(by rw [HMN.out]; exact hlt2), List.getElem?_eq_getElem _⟩
          obtain ⟨ba, rfl, c0, c1, c2, c3⟩ := (HLg.out.below hbx).pa hy
          obtain ⟨bb, rfl, e0, e1, e2, e3⟩ := (HLw.out.below hbx).pa hy
          clear hy
          go_upto_region 27 with fail
          go_quiet (fail)
          go_wp2_with fail
          go_roundg (m + 1 - (j + 1))
          case measure => have := HG2.out; omega
          case rel => exact ⟨j + 1, by go_num, by omega, by omega, below_drewN hbx _⟩
        · obtain rfl : j = m := by omega
          have hjz : ¬ ((j : Int) < (j : Int)) := by omega
          replace HLg := Lib.hid (HLg.out.below hbx)
          replace HLa := Lib.hid (HLa.out.below hbx)
          replace HB := Lib.hid (HB.out.trans (hbx.mono HB.out.size))
          clear HLw hbx
          go_upto_region 30 with (go_at_call 13; refine (HBT2.out _ (HLa.out.mono (Nat.zero_le _))).mono ?_; rintro e w7 ⟨v7, rfl, ak, rfl, HLk, hb7⟩; rw [HMN2.out]; replace HB := Lib.hid (HB.out.trans (hb7.mono HB.out.size)); replace HLg := Lib.hid (HLg.out.below hb7); clear hb7)
          have hal := below1 w7 (.cells #[] 47)
          iterate 7 go_step
          refine wpList_app_list kdPa (l := []) (xs := A) rfl rfl rfl rfl HMN.out (own_made w7) ((HLg.out.below hal).mono (Nat.zero_le _)) (by rw [HMN.out]; simp; omega) (by simp) ?_
          intro v8 w8 ho8 hg8
          have hb8 : RowKit.Below w7.heap.size w7 w8 := hal.grown hg8 (by simp) (fun g e => by cases e; exact Nat.le_refl _)
          have HLk8 := Lib.hid (HLk.out.below hb8)
          have HO8 := Lib.hid ho8
          have HB8 := Lib.hid hb8
          clear ho8 hg8 hb8 hal
          iterate 3 go_step
          refine wpList_app_list kdPa (l := [] ++ A) (xs := M2) rfl rfl rfl rfl HMN2.out HO8.out (HLk8.out.mono (Nat.zero_le _)) (by rw [HMN2.out, List.nil_append, HMN.out]; omega) HB8.out.size ?_
          intro v9 w9 ho9 hg9
          have hb9 : RowKit.Below w7.heap.size w7 w9 := HB8.out.grown hg9 HB8.out.size (fun g e => (HO8.out.lt g e).1)
          have HRD := Lib.hid (reduce_M v9 ([] ++ A ++ M2) w7.heap.size w9 ho9 (by rw [List.nil_append, List.length_append, HMN.out, HMN2.out]; omega) (by rw [List.nil_append, HBK.out]; exact red_back A HDR.out))
          replace HB := Lib.hid (HB.out.trans (hb9.mono HB.out.size))
          clear ho9 hg9 hb9
          go_wp2_with (first
            | (go_at_call 15; refine HRD.out.mono ?_; rintro e w10 ⟨bo, rfl, hb⟩; replace HB := Lib.hid (HB.out.trans (hb.mono HB.out.size)); clear hb)
            | (go_at_call 11; refine (HST.out _ (HB00.out.trans (HB.out.mono HB00.out.size))).mono ?_; rintro e w11 ⟨rfl, hb⟩; replace HB := Lib.hid (HB.out.trans (hb.mono HB.out.size)); clear hb))
          go_ret
          exact ⟨rfl, HB00.out.trans (HB.out.mono HB00.out.size)⟩
end Go.Proofs.YtjjnhmbgffdenaaDoor
namespace Go.Proofs.YtjjnhmbgffdenaaDoor
set_option maxRecDepth 100000
open Go.ChangeShapes Go.WideShapes Go.ChangeAt Go.RowKit Go.Deep Go.Joins

theorem own : ownKnob Tryd.prog.godebug = none := by kernel_rfl
theorem Tryd.laidOut' : laidOutB Tryd.prog = true := by kernel_rfl
theorem cellsOf5 : Tryd.prog.cellsOf 5 = 1 := by kernel_rfl
theorem cellsOf3 : Tryd.prog.cellsOf 3 = 1 := by kernel_rfl
theorem cellsOf97 : Tryd.prog.cellsOf 97 = 2 := by kernel_rfl
theorem byte_in {x : Int} (h : (Lit.int .u8 x).wf = true) : 0 ≤ x ∧ x ≤ 255 := bounds_u8 h
/-- The table of steps, as a row lists it. -/
theorem stp_of_laid {W : World} (h : laidMetH Tryd.prog [("gansey/orders.steps", Rows.laid_gansey_orders_steps)] W) : Stp W := by
  rw [MakeChecks.laidMetH_plain _ _ _ (by kernel_rfl)] at h
  have hT : Lib.TabIs Tryd.prog W "gansey/orders.steps" .i64 [-1, 1] := Lib.tabIs_of_head (g := 0) (t := 42) (e := 3) (n := 2) (by kernel_rfl) (by kernel_rfl) Tryd.underlying42 Tryd.underlying3 (by kernel_rfl) (by kernel_rfl) h
  have c0 := hT.cell (g := 0) (by kernel_rfl) 0 (by decide)
  have c1 := hT.cell (g := 0) (by kernel_rfl) 1 (by decide)
  exact ⟨c0, c1, World.block_lt_of_cell? _ _ c0⟩
/-- A world in which the table lies. -/
noncomputable def laidWorld (os : Os) : World :=
  let w0 := World.holding Tryd.prog os ⟨#[], #[], []⟩
  let put (h : Array Obj) (g : Nat) (cs : Array Value) : Array Obj := h.modify g fun
    | .cells _ t frozen => .cells cs t frozen
    | o => o
  { w0 with heap := put w0.heap 0 #[.int .i64 (-1), .int .i64 1] }
theorem laid_met (os : Os) (args : Array Value) : laidMet Tryd.prog Rows.ordersListRow.laid ((laidWorld os).forCall (fun _ _ => 0) ⟨#[], args, []⟩).memory :=
  laidMet_of_run' 8 (by kernel_rfl) (by kernel_rfl)
section
variable {H : Type} {enc : TypeId × Value → H} {W : World} {base : Nat} {spare : Nat → Bool} {held : Bool}
theorem open_put_cells {fuel : Nat} {cs : List Value} {x : DataW H × List MemPlace} (h : DataW.trod enc Tryd.prog W base spare held fuel 97 cs = some x) :
    ∃ y n : Int, cs = [.int .u8 y, .int .u8 n] ∧ (0 ≤ y ∧ y ≤ 255) ∧ (0 ≤ n ∧ n ≤ 255) := by
  obtain ⟨y0, y1, n, _, hl, h0, h1⟩ := trod_struct2 Tryd.underlying97 h
  rw [cellsOf97] at hl
  match cs, hl with
  | [c0, c1], _ =>
    obtain ⟨y, e0, _, w0⟩ := DataW.trod_int Tryd.underlying5 h0
    obtain ⟨m, e1, _, w1⟩ := DataW.trod_int Tryd.underlying5 h1
    simp [cellsOf5, cellsOf3] at e0 e1
    subst e0 e1
    exact ⟨y, m, rfl, byte_in w0, byte_in w1⟩
theorem open_puts_arg {v : Value} {d : DataW H} {p : List MemPlace} {w' : World} {r : _} {b : Nat} (hv : Value.okWide Tryd.prog w' r b 23 v) (h : DataW.Trod enc Tryd.prog W 0 spare held 23 v d p) :
    ∃ (ao : Option Addr) (n cap : Nat) (xs : List (Nat × Nat)), v = .slice ao n cap ∧ n = xs.length ∧ LieP W ao xs := by
  obtain ⟨a0, len0, cap0, rfl⟩ := okWide_slice Tryd.underlying23 hv
  obtain ⟨fuel, hf⟩ := h
  rcases open_slice Tryd.underlying23 hf with ⟨hcs, _⟩ | ⟨a, len, cap, m, n, D, Pl, hcs, hb, hl, hm, hmm, _, hx⟩
  · simp [Value.cells] at hcs
    obtain ⟨rfl, rfl, rfl⟩ := hcs
    exact ⟨none, 0, 0, [], rfl, rfl, .inl rfl⟩
  · simp [Value.cells] at hcs
    obtain ⟨rfl, rfl, rfl⟩ := hcs
    have hlm : len0 ≤ m := by rw [hmm]; split <;> omega
    have each : ∀ i, i < len0 → ∃ p : (Nat × Nat), (∀ j, j < 2 → W.cell? (a.add (i * 2 + j)) = [Value.int .u8 (p.1 : Int), .int .u8 (p.2 : Int)][j]?) ∧ True := by
      intro i hi
      obtain ⟨cs', h1, h2⟩ := hx i (by omega)
      rw [cellsOf97] at h1
      obtain ⟨_, _, hc⟩ := World.cells?_some h1
      obtain ⟨y, n, rfl, hy, hn⟩ := open_put_cells h2
      refine ⟨(y.toNat, n.toNat), fun j hj => ?_, trivial⟩
      have := hc j hj
      rw [add_add] at this
      simp only [Int.toNat_of_nonneg hy.1, Int.toNat_of_nonneg hn.1]
      exact this
    let dflt : Inhabited ((Nat × Nat)) := ⟨(0, 0)⟩
    obtain ⟨P, hP⟩ := choose_lt each
    have hget : ∀ i p, ((List.range len0).map P)[i]? = some p → i < len0 ∧ p = P i := by
      intro i p hp
      have hi := (List.getElem?_eq_some_iff.1 hp).1
      simp at hi
      refine ⟨hi, ?_⟩
      rw [List.getElem?_map, List.getElem?_range hi] at hp
      simpa using hp.symm
    have hlie : len0 = 0 ∨ ∃ b o, some a = some ⟨b, o, none⟩ ∧ b < W.heap.size ∧ ∀ (i : Nat) (p : (Nat × Nat)), ((List.range len0).map P)[i]? = some p → W.cell? ⟨b, o + i * 2, none⟩ = some (.int .u8 (p.1 : Int)) ∧ W.cell? ⟨b, o + i * 2 + 1, none⟩ = some (.int .u8 (p.2 : Int)) := by
      by_cases h0 : len0 = 0
      · exact .inl h0
      · have c0 := (hP 0 (by omega)).1 0 (by omega)
        obtain ⟨b, off, spot⟩ := a
        have hspot : spot = none := by simpa [Addr.add] using World.cell?_spot c0
        subst hspot
        have key : ∀ k, (⟨b, off, none⟩ : Addr).add k = ⟨b, off + k, none⟩ := fun k => Addr.add_lit ..
        refine .inr ⟨b, off, rfl, ?_, fun i p hp => ?_⟩
        · rw [key] at c0
          exact World.block_lt_of_cell? _ _ c0
        · obtain ⟨hi, rfl⟩ := hget i p hp
          have q := (hP i hi).1
          have q0 := q 0 (by omega)
          have q1 := q 1 (by omega)
          rw [key] at q0 q1
          simp only [← Nat.add_assoc] at q0 q1
          exact ⟨q0, q1⟩
    have hwf : ∀ p ∈ (List.range len0).map P, True := by
      intro p hp
      obtain ⟨i, hi, rfl⟩ := List.mem_map.1 hp
      exact (hP i (List.mem_range.1 hi)).2
    refine ⟨some a, len0, cap0, (List.range len0).map P, rfl, by simp, ?_⟩
    rcases hlie with h0 | h0
    · exact .inl (by rw [h0]; rfl)
    · exact .inr h0
theorem okWide_arr {P : Program} {w : World} {r : _} {base : Nat} {t : TypeId} {v : Value} {n : Nat} {e : TypeId} (ht : P.underlying t = some (.array n e)) (h : Value.okWide P w r base t v) : ∃ cs, v = .agg cs ∧ cs.size = P.cellsOf t := by
  simp only [Value.okWide, ht] at h
  obtain ⟨cs, h1, h2, _⟩ := h
  exact ⟨cs, h1, h2⟩
theorem cellsOf42 : Tryd.prog.cellsOf 42 = 2 := by kernel_rfl
theorem open_two_arg {v : Value} {d : DataW H} {p : List MemPlace} {w' : World} {r : _} {b : Nat} (hv : Value.okWide Tryd.prog w' r b 42 v) (h : DataW.Trod enc Tryd.prog W 0 spare held 42 v d p) :
    ∃ x y : Int, v = .agg #[.int .i64 x, .int .i64 y] := by
  obtain ⟨cs, rfl, hl⟩ := okWide_arr Tryd.underlying42 hv
  obtain ⟨fuel, hf⟩ := h
  obtain ⟨xs, m, _, _, _, hlen, he⟩ := DataW.trod_array Tryd.underlying42 hf
  rw [cellsOf42] at hl
  obtain ⟨l⟩ := cs
  match l, hl, xs, hlen with
  | [c0, c1], _, [y0, y1], _ =>
    have h0 := he 0 (by decide)
    have h1 := he 1 (by decide)
    simp [cellsOf3, Value.cells] at h0 h1
    obtain ⟨x, e0, _, _⟩ := DataW.trod_int Tryd.underlying3 h0
    obtain ⟨y, e1, _, _⟩ := DataW.trod_int Tryd.underlying3 h1
    obtain rfl : c0 = _ := (List.cons.inj e0).1
    obtain rfl : c1 = _ := (List.cons.inj e1).1
    exact ⟨x, y, rfl⟩
end
end Go.Proofs.YtjjnhmbgffdenaaDoor
