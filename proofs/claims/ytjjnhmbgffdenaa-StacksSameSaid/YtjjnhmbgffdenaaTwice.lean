import Derived.Test.YtjjnhmbgffdenaaRng
import Derived.Test.YtjjnhmbgffdenaaKey
namespace Go.Proofs.Ytjjnhmbgffdenaa
open Go.RowKit Go.Shelf
attribute [local go_sem] Oper.semAt_some

def names (xs : List El) : List Nm := xs.flatMap fun x => x.c.l
theorem names_snoc (xs : List El) (x : El) : names (xs ++ [x]) = names xs ++ x.c.l := by simp [names]
/-- What a round may know here: that the names are valid, too. -/
def ElN (n : Nat) (w : World) (x : El) : Prop := ElOk n w x ∧ ∀ p ∈ x.c.l, Named p
theorem names_named {n : Nat} {w : World} (xs : List (Ap (ElN n w))) : ∀ p ∈ names (xs.map fun x => x.1), Named p := by
  intro p hp
  simp only [names, List.mem_flatMap, List.mem_map] at hp
  obtain ⟨x, ⟨y, _, rfl⟩, hx⟩ := hp
  exact y.2.2 p hx
theorem names_len {n : Nat} {w : World} (xs : List (Ap (ElN n w))) : (names (xs.map fun x => x.1)).length ≤ xs.length * 100 := by
  induction xs with
  | nil => simp [names]
  | cons x xs ih =>
    have h : x.1.c.l.length ≤ 100 := x.2.1.2.2.1
    simp only [names, List.map_cons, List.flatMap_cons, List.length_append, List.length_cons] at ih ⊢
    omega
theorem zeroB (w : World) : (zeroValue 4).run Try.prog w = .ok (.bool false) w := by kernel_rfl

set_option maxRecDepth 100000 in
set_option maxHeartbeats 2000000 in
theorem twice_any (d : Bds) (B : Nat) (w : World) (hB : B ≤ w.heap.size) (hd : d.ok B w) (hnm : ∀ x ∈ d.els, ∀ p ∈ x.c.l, Named p) :
    Calls Try.prog 25 #[d.v] w fun e w' => e = .returned (.bool (decide (¬ (names d.els).Nodup))) ∧ Below w.heap.size w w' := by
  have HD := Lib.hid (hd.mono hB)
  have HNM := Lib.hid hnm
  clear hd hnm
  have hmm := @run_makeMap Try.prog
  refine (callsIn_wide (n := 10)).1 ?_
  have hro : Fence.wide.round = none := rfl
  refine callsIn_of_wp_marks Try.func25 rfl trivial ?_ hro
  simp only [Try.ntmps25, List.size_toArray, List.length_cons, List.length_nil, Nat.reduceAdd, Nat.reduceSub, Array.replicate_succ, Array.replicate_zero, List.push_toArray, List.append_toArray, List.nil_append, List.cons_append]
  obtain ⟨⟨fa, fs, fc⟩, ⟨ba, bs, bc⟩⟩ := d
  simp only [Bds.v, Bed.v]
  gi_wp2_with (refine ⟨trivial, ?_⟩; gi_at_call 22; refine (each_in Fence.wide 9 trivial hro _ _ _ _ _ _ _).mono ?_; rintro e w' ⟨rfl, rfl⟩)
  obtain ⟨O, hO⟩ : ∃ O : Obj, Obj.cells #[.slice fa fs.length fc, .slice ba bs.length bc] 35 = O := ⟨_, rfl⟩
  obtain ⟨W0, hW0⟩ : ∃ W0, ((((w.alloc (.cells #[.slice fa fs.length fc, .slice ba bs.length bc] 35)).alloc (.cells #[.bool false] 4)).alloc (.map #[] 0)).alloc (.cells #[.map (some (w.heap.size + 1 + 1))] 76)).alloc (.cells #[.slice fa fs.length fc, .slice ba bs.length bc] 35) = W0 := ⟨_, rfl⟩
  have hsz : w.heap.size + 5 ≤ W0.heap.size := by rw [← hW0]; simp
  have bR : Boxed W0 (w.heap.size + 1) 4 (.bool false) := by
    rw [← hW0]; have := (((Boxed.new (w.alloc O) 4 (.bool false)).alloc (.map #[] 0)).alloc (.cells #[.map (some (w.heap.size + 1 + 1))] 76)).alloc O
    rw [World.size_alloc, ← hO] at this; exact this
  have bM : Boxed W0 (w.heap.size + 3) 76 (.map (some (w.heap.size + 1 + 1))) := by
    rw [← hW0]; have := (Boxed.new (((w.alloc O).alloc (.cells #[.bool false] 4)).alloc (.map #[] 0)) 76 (.map (some (w.heap.size + 1 + 1)))).alloc O
    rw [World.size_alloc, World.size_alloc, World.size_alloc, ← hO] at this; exact this
  have oM : W0.ownsMap Try.prog 28 (plainElem (H := Unit) Try.prog 4) (w.heap.size + 1 + 1) 0 (.map []) := by
    rw [← hW0]; have := ((World.ownsMap_made ((w.alloc O).alloc (.cells #[.bool false] 4)) Try.prog 28 (plainElem (H := Unit) Try.prog 4)).alloc (.cells #[.map (some (w.heap.size + 1 + 1))] 76)).alloc O
    rw [World.size_alloc, World.size_alloc, ← hO] at this; exact this
  have bN : Boxed2 W0 (w.heap.size + 1 + 1 + 1 + 1) 35 (.slice fa fs.length fc) (.slice ba bs.length bc) := by
    rw [← hW0]; have := Boxed2.new ((((w.alloc O).alloc (.cells #[.bool false] 4)).alloc (.map #[] 0)).alloc (.cells #[.map (some (w.heap.size + 1 + 1))] 76)) 35 (.slice fa fs.length fc) (.slice ba bs.length bc)
    rw [World.size_alloc, World.size_alloc, World.size_alloc, World.size_alloc, ← hO] at this; exact this
  have hB0 : Below w.heap.size w W0 := by
    rw [← hW0]; exact ((below3 w _ _ _).alloc (by simp; omega) _).alloc (by simp; omega) _
  rw [hW0]
  clear hW0 hO hmm
  have h34 : Fence.wide.fn 34 := trivial
  have HD0 := Lib.hid (HD.out.below hB0)
  obtain ⟨d, hdd⟩ : ∃ d : Bds, d = ⟨⟨fa, fs, fc⟩, ⟨ba, bs, bc⟩⟩ := ⟨_, rfl⟩
  rw [← hdd] at HD HD0 HNM
  have HDD := Lib.hid hdd
  clear hdd
  have hlen : d.els.length ≤ 200 := HD0.out.els_len
  have HP : Hid (∀ x ∈ d.els, ElN w.heap.size w x) := Lib.hid fun x hx => ⟨HD.out.els hx, HNM.out x hx⟩
  have h0 : ElN w.heap.size w El.zero := ⟨El.zero_ok _ _, fun p hp => by simp [El.zero, Cel.nil] at hp⟩
  refine wpIn_rangeFunc_ownG (α := Ap (ElN w.heap.size w)) hro (by decide) (gf := 34) (lb := #[.pointer (some ⟨w.heap.size + 1 + 1 + 1 + 1, 0, none⟩)]) rfl h34 (enters_of Try.func34 (by kernel_rfl) rfl)
    (each_stops Fence.wide 9 h34 hro (by decide) (w.heap.size + 1 + 1 + 1 + 1) w.heap.size d W0 (by omega) (by omega) (fun x => x.1) (Ap.mk h0) (fun x hx => Ap.mk_val h0 (HP.out x hx)) (by rw [HDD.out]; exact bN.cell0) (by rw [HDD.out]; exact bN.cell1) HD0.out)
    belowK_t (belowK_b (by omega)) (Below.refl _ _) (fun _ => rfl)
    (fun (pre : List (Ap (ElN w.heap.size w))) W => ((Boxed W (w.heap.size + 3) 76 (.map (some (w.heap.size + 1 + 1))) ∧ Boxed W (w.heap.size + 1) 4 (.bool false)) ∧ W.ownsMap Try.prog 28 (plainElem (H := Unit) Try.prog 4) (w.heap.size + 1 + 1) (names (pre.map fun x => x.1)).length (seenD (names (pre.map fun x => x.1))) ∧ Hid (names (pre.map fun x => x.1)).Nodup) ∧ Below w.heap.size w W)
    (fun c (pre : List (Ap (ElN w.heap.size w))) W => (Boxed W (w.heap.size + 1) 4 (.bool true) ∧ c = .ret ∧ Hid (¬ (names (pre.map fun x => x.1)).Nodup)) ∧ Below w.heap.size w W)
    (OwnFrom.and (OwnFrom.and (OwnFrom.and (Own.from (boxed_own _ _ _) _) (Own.from (boxed_own _ _ _) _)) (fun s A B row hs hg hr => ⟨hs.1.kept hg (fun e => by have := (hr _ e.symm).1; omega), hs.2⟩)) (ownFrom_below (Nat.le_refl _) (by omega)))
    (fun c => OwnFrom.and (OwnFrom.and (Own.from (boxed_own _ _ _) _) (ownFrom_const _ _)) (ownFrom_below (Nat.le_refl _) (by omega)))
    ⟨⟨⟨bM, bR⟩, oM, Lib.hid (by simp [names])⟩, hB0⟩
    (fun x => { tmps := #[.agg #[.slice fa fs.length fc, .slice ba bs.length bc], .pointer (some ⟨w.heap.size, 0, none⟩), .pointer (some ⟨w.heap.size + 1, 0, none⟩), .pointer (some ⟨w.heap.size + 1 + 1 + 1, 0, none⟩), undef, x.1.c.v, undef, undef, .map (some (w.heap.size + 1 + 1)), .agg #[.slice fa fs.length fc, .slice ba bs.length bc], .func (.func 34) #[] #[.pointer (some ⟨w.heap.size + 1 + 1 + 1 + 1, 0, none⟩)], x.1.nv, x.1.c.v, undef, undef, undef, undef, undef, undef, undef, undef, undef, undef, undef, undef], defers := [] })
    ?assign ?body ?done ?stop
  case assign =>
    rintro l ⟨⟨k, i, ⟨ca, cl, cc⟩⟩, hx⟩ W K hK
    simp only [El.vs, El.nv, Cel.v] at hK ⊢
    gi_wp2
    exact hK
  case body =>
    rintro l pre ⟨⟨k, i, ⟨ca, cl, cc⟩⟩, hx⟩ W ⟨⟨⟨bM1, bR1⟩, oM1, hnd⟩, hB1⟩ hlt
    have hle := names_len pre
    have HNN := Lib.hid (names_named pre)
    have HX := Lib.hid hx
    obtain ⟨ns, hns⟩ : ∃ ns, ns = names (pre.map fun x => x.1) := ⟨_, rfl⟩
    rw [← hns] at hle HNN oM1 hnd
    have HNS := Lib.hid hns
    clear hns
    have hcl : cl.length ≤ 100 := HX.out.1.2.2.1
    have hle2 : ns.length ≤ 20000 := by omega
    simp only [Cel.v]
    gi_wp2
    obtain ⟨wo, rfl⟩ : ∃ wo : World, wo = W := ⟨_, rfl⟩
    gi_loopw [15] (fun j wr => ∃ i : Nat, i ≤ cl.length ∧ j = .int .i64 i ∧ ((Boxed wr (w.heap.size + 3) 76 (.map (some (w.heap.size + 1 + 1))) ∧ Boxed wr (w.heap.size + 1) 4 (.bool false)) ∧ wr.ownsMap Try.prog 28 (plainElem (H := Unit) Try.prog 4) (w.heap.size + 1 + 1) (ns.length + i) (seenD (ns ++ cl.take i)) ∧ Hid (ns ++ cl.take i).Nodup) ∧ Below w.heap.size wo wr ∧ KeepsFrom W0.heap.size wo wr) (fun j _ => cl.length - (intOf j).toNat)
    case atStart => exact ⟨0, by omega, rfl, ⟨⟨bM1, bR1⟩, by simpa using oM1, by simpa using hnd⟩, Below.refl _ _, KeepsFrom.refl _ _⟩
    case round =>
      obtain ⟨j, hj, rfl, ⟨⟨bM2, bR2⟩, oM2, hnd2⟩, hB2, hKF⟩ := hrel
      by_cases hjl : j < cl.length
      · obtain ⟨b, o, he, hbb, hf⟩ := (HX.out.1.2.2.below (hB1.trans hB2)).at (i := j) hjl
        obtain rfl : ca = some ⟨b, o, none⟩ := he
        obtain ⟨q, hq⟩ : ∃ q, q = cl[j] := ⟨_, rfl⟩
        simp only at hf
        rw [← hq] at hf
        have hqn : Named q := by rw [hq]; exact HX.out.2 _ (List.getElem_mem hjl)
        have HQ := Lib.hid hq
        have HQN := Lib.hid hqn
        clear hq hqn
        obtain ⟨y, n⟩ := q
        obtain ⟨c0, c1⟩ := hf
        simp only at c0 c1
        have cM := bM2.cell
        have lM := bM2.lt
        have cR := bR2.cell
        have fR := bR2.frozen
        have lR := bR2.lt
        have HNT : Hid (∀ q ∈ ns ++ cl.take j, Named q) := Lib.hid fun q hq => (List.mem_append.1 hq).elim (HNN.out q) (fun h => HX.out.2 q (List.mem_of_mem_take h))
        have HL := Lib.hid (seenD_at (H := Unit) HQN.out HNT.out)
        have hkey := kl_of HQN.out
        have hzB := zeroB
        have oM3 := oM2.alloc (.cells #[.int .u8 y, .int .i64 n] 28)
        gi_wp2_with (first
          | (gi_at_lookup; refine wpListIn_lookup_own_bool _ rfl _ _ 76 rfl 28 4 law28 Try.underlying76 Try.underlying4 (zeroB _) (w.heap.size + 1 + 1) (ns.length + j) _ rfl oM3 _ _ rfl hkey ?_; intro c hat)
          | (gi_at_mapUpdate; refine wpListIn_mapUpdate_own _ rfl _ _ _ 76 rfl 28 4 law28 Try.underlying76 _ (w.heap.size + 1 + 1) (ns.length + j) _ rfl oM3 (by unfold maxLen; omega) _ _ _ rfl rfl hkey _ [] (plainElem_bool Try.underlying4 true) ?_; intro w1 hown1 hgrow1))
        · have hct : c = true := by assumption
          have hin : decide ((⟨y, n⟩ : Nm) ∈ ns ++ cl.take j) = true := by
            have := HL.out.symm.trans hat.out
            simpa [hct] using this
          have e : names ((pre.map fun x => x.1) ++ [⟨k, i, ⟨some ⟨b, o, none⟩, cl, cc⟩⟩]) = ns ++ cl := by rw [names_snoc, ← HNS.out]
          have hnn : ¬ (ns ++ cl).Nodup := by
            intro h
            have h1 : ns ++ cl = (ns ++ cl.take j) ++ (⟨y, n⟩ :: cl.drop (j + 1)) := by
              rw [List.append_assoc, HQ.out, ← List.drop_eq_getElem_cons hjl, List.take_append_drop]
            rw [h1, List.nodup_append] at h
            exact h.2.2 _ (of_decide_eq_true hin) _ (List.mem_cons_self ..) rfl
          refine ⟨(hKF.trans ((KeepsOthers.setCell _ _ _).from _)).trans ((KeepsOthers.alloc _ _).from _), ⟨(bR2.set _).alloc _, rfl, Lib.hid ?_⟩, ((hB1.trans hB2).setCell (p := ⟨w.heap.size + 1, 0, none⟩) (by simp) _).alloc (by have := hB1.size; have := hB2.size; simp; omega) _⟩
          rw [List.map_append]
          show ¬ (names ((pre.map fun x => x.1) ++ [⟨k, i, ⟨some ⟨b, o, none⟩, cl, cc⟩⟩])).Nodup
          rw [e]; exact hnn
        · have hct : c = false := by assumption
          have hin : decide ((⟨y, n⟩ : Nm) ∈ ns ++ cl.take j) = false := by
            have := HL.out.symm.trans hat.out
            simpa [hct] using this
          have ets : cl.take (j + 1) = cl.take j ++ [⟨y, n⟩] := by rw [List.take_succ_eq_append_getElem hjl, ← HQ.out]
          go_roundw
          case rel =>
            have hnd3 : (ns ++ cl.take (j + 1)).Nodup := by
              rw [ets, ← List.append_assoc, List.nodup_append]
              exact ⟨hnd2.out, by simp, fun a ha b hb e => by
                rw [List.mem_singleton] at hb
                rw [e, hb] at ha
                rw [decide_eq_true ha] at hin
                cases hin⟩
            refine ⟨j + 1, by omega, by simp, ⟨⟨(bM2.alloc _).kept hgrow1 (by simp), (bR2.alloc _).kept hgrow1 (by simp)⟩, ?_, Lib.hid hnd3⟩, (hB2.alloc (Nat.le_trans hB1.size hB2.size) _).grown hgrow1 (by simp; have := hB1.size; have := hB2.size; omega) (fun k e => by cases e; omega), (hKF.trans ((KeepsOthers.alloc _ _).from _)).trans (KeepsFrom.of_grownBy hgrow1 (fun k e => by cases e; omega))⟩
            rw [ets, ← List.append_assoc, seenD_snoc, ← Nat.add_assoc]
            exact hown1
          case measure => simp [intOf]; omega
      · obtain rfl : j = cl.length := by omega
        gi_wp2
        rw [List.take_length] at oM2 hnd2
        have e : names ((pre.map fun x => x.1) ++ [⟨k, i, ⟨ca, cl, cc⟩⟩]) = ns ++ cl := by rw [names_snoc, ← HNS.out]
        refine ⟨hKF, hB2, ⟨⟨bM2, bR2⟩, ?_⟩, hB1.trans hB2⟩
        rw [List.map_append]
        show World.ownsMap _ _ _ _ _ (names ((pre.map fun x => x.1) ++ [⟨k, i, ⟨ca, cl, cc⟩⟩])).length (seenD (names ((pre.map fun x => x.1) ++ [⟨k, i, ⟨ca, cl, cc⟩⟩]))) ∧ Hid (names ((pre.map fun x => x.1) ++ [⟨k, i, ⟨ca, cl, cc⟩⟩])).Nodup
        rw [e, List.length_append]
        exact ⟨oM2, hnd2⟩
  case done =>
    rintro D ys W hD rfl ⟨⟨⟨bM1, bR1⟩, oM1, hnd⟩, hB1⟩ hK
    rw [Ap.map_val h0 HP.out] at hnd
    have cR := bR1.cell
    have fR := bR1.frozen
    gi_wp2
    have hK' := (KeepsOthers.setCell W ⟨w.heap.size + 1, 0, none⟩ (.bool false)).same D _ hK rfl
    refine ⟨by simp, .inl ⟨_, _, rfl, run_takeDeferred hK', ?_⟩⟩
    have hc5 := cell_kept (World.cell?_setCell_same' W ⟨w.heap.size + 1, 0, none⟩ (.bool false) (by rw [cR]; rfl)) (grownBy_putObj' _ D (.deferred none)) (fun r e => by cases e; exact ⟨_, hK', rfl⟩)
    refine ⟨.bool false, ?_, ?_, (hB1.setCell (p := ⟨w.heap.size + 1, 0, none⟩) (by simp) _).trans (belowK_b (w := w) (Nat.le_refl _) _ D _ _ (by omega) hK' rfl rfl)⟩
    · simp [results, Try.f25, go_sem, hc5]
    · rw [← HDD.out]
      exact ret_bool (by simp [hnd.out])
  case stop =>
    rintro D c pre W hD hpre ⟨⟨bR1, rfl, hnd⟩, hB1⟩ hK
    have cR := bR1.cell
    have fR := bR1.frozen
    gi_wp2
    refine ⟨by simp, .inl ⟨_, _, rfl, run_takeDeferred hK, ?_⟩⟩
    have hc5 := cell_kept cR (grownBy_putObj' _ D (.deferred none)) (fun r e => by cases e; exact ⟨_, hK, rfl⟩)
    refine ⟨.bool true, ?_, ?_, hB1.trans (belowK_b (w := w) (Nat.le_refl _) W D _ _ (by omega) hK rfl rfl)⟩
    · simp [results, Try.f25, go_sem, hc5]
    · rw [← HDD.out]
      refine ret_bool (decide_eq_true ?_).symm
      intro h
      refine hnd.out ?_
      obtain ⟨r, hr⟩ := Ap.prefix_val h0 HP.out hpre
      have : names d.els = names (pre.map fun x => x.1) ++ names r := by rw [← hr]; simp [names]
      rw [this, List.nodup_append] at h
      exact h.1
end Go.Proofs.Ytjjnhmbgffdenaa
