import Derived.Test.YtjjnhmbgffdenaaBase
import Derived.RangeFuncNested
import Derived.RangeFuncBound
import Derived.RangeFuncCalls
import Derived.RangeFuncLeaves
import Derived.RangeFuncBox
import Derived.Shelf.Abstract
import Derived.Shelf.RegionOpen
import Derived.OwnWalkIn
import Derived.TacticsInMore
import Derived.LoopNIn
import Derived.LoopIn
namespace Go.Proofs.Ytjjnhmbgffdenaa
open Go.RowKit Go.Shelf
attribute [local go_sem] Oper.semAt_some

set_option maxRecDepth 100000 in
set_option maxHeartbeats 2000000 in
theorem each1_in (F : Fence) (n : Nat) (h34 : F.fn 34) (hro : F.round = none) (hn : 1 ≤ n) (l Bn n₀ : Nat) (d : Bds) {α : Type} (ev : α → El) (mk : El → α) (hmk : ∀ x ∈ d.els, ev (mk x) = x) (J Jx : List α → World → Prop)
    (hY : ∀ pre x W, J pre W → pre.length < d.els.length → YieldAt F (n - 1) Try.prog l (ev x).vs W fun e W' =>
      (e = .returned (.bool true) ∧ J (pre ++ [x]) W' ∧ Below n₀ W W') ∨ (e = .returned (.bool false) ∧ Jx (pre ++ [x]) W'))
    (W : World) (hc0 : W.cell? ⟨Bn, 0, none⟩ = some d.f.v) (hc1 : W.cell? ⟨Bn, 1, none⟩ = some d.b.v) (hd : d.ok n₀ W) (h0 : J [] W) :
    CallsIn F n Try.prog 34 #[.func (.yield l) #[] #[], .pointer (some ⟨Bn, 0, none⟩)] W fun e W' => (∃ v, e = .returned v) ∧
      ((∃ ys, ys = d.els.map mk ∧ J ys W') ∨ (∃ pre, pre <+: d.els.map mk ∧ Jx pre W')) := by
  refine callsIn_of_wp Try.func34 rfl h34 ?_ hro
  simp only [Try.ntmps34, List.size_toArray, List.length_cons, List.length_nil, Nat.reduceAdd, Nat.reduceSub, Array.replicate_succ, Array.replicate_zero, List.push_toArray, List.append_toArray, List.nil_append, List.cons_append]
  obtain ⟨fa, fs, fc, hf⟩ : ∃ fa fs fc, d.f = ⟨fa, fs, fc⟩ := ⟨_, _, _, rfl⟩
  obtain ⟨ba, bs, bc, hb⟩ : ∃ ba bs bc, d.b = ⟨ba, bs, bc⟩ := ⟨_, _, _, rfl⟩
  rw [hf] at hc0
  rw [hb] at hc1
  have c0 : W.cell? ⟨Bn, 0, none⟩ = some (.slice fa fs.length fc) := hc0
  have c1 : W.cell? ⟨Bn, 1, none⟩ = some (.slice ba bs.length bc) := hc1
  have HF := Lib.hid hf
  have HB := Lib.hid hb
  have HD := Lib.hid hd
  clear hc0 hc1 hf hb hd
  gi_wp2
  gi_loopw [12] (fun i wr => ∃ k : Nat, k ≤ 2 ∧ i = .int .i64 k ∧ J ((d.upto k).map mk) wr ∧ Below n₀ W wr) (fun i _ => 2 - (intOf i).toNat)
  case atStart => exact ⟨0, by omega, rfl, h0, Below.refl _ _⟩
  case round =>
    obtain ⟨k, hk, rfl, hJs, hnx⟩ := hrel
    by_cases hlt : k < 2
    · have HUS := Lib.hid (d.upto_succ hlt)
      obtain ⟨da, ds, dc, hbk⟩ : ∃ da ds dc, d.bed k = ⟨da, ds, dc⟩ := ⟨_, _, _, rfl⟩
      have hix : ∀ w, (Instr.index 73 (.agg #[.slice fa fs.length fc, .slice ba bs.length bc]) (.int .i64 k)).run Try.prog w = .ok (.slice da ds.length dc) w := by
        obtain rfl | rfl : k = 0 ∨ k = 1 := by omega
        · have := HF.out.symm.trans hbk; cases this; exact fun w => by kernel_rfl
        · have := HB.out.symm.trans hbk; cases this; exact fun w => by kernel_rfl
      have hcv : ∀ w, (convert 3 24 (.int .i64 k)).run Try.prog w = .ok (.int .u8 k) w := by
        obtain rfl | rfl : k = 0 ∨ k = 1 := by omega
        · exact fun w => by kernel_rfl
        · exact fun w => by kernel_rfl
      have HOK : Hid (Bed.ok n₀ wr ⟨da, ds, dc⟩) := Lib.hid (by rw [← hbk]; exact (HD.out.below hnx).bed k)
      have hds : ds.length ≤ 100 := HOK.out.1
      have HLEN : Hid (d.els.length ≥ (d.upto k).length + ds.length) := Lib.hid (by
        have := congrArg List.length HUS.out
        rw [List.length_append, Bed.els_length, hbk] at this
        have h2 : (d.upto (k + 1)).length ≤ d.els.length := by
          obtain rfl | rfl : k = 0 ∨ k = 1 := by omega
          · simp [Bds.upto, Bds.els]
          · simp [Bds.upto]
        simp only at this
        omega)
      have HBK := Lib.hid hbk
      clear hbk
      have hlt2 : decide ((k : Int) < 2) = true := by simp; omega
      gi_wp2
      obtain ⟨wo, rfl⟩ : ∃ wo : World, wo = wr := ⟨_, rfl⟩
      gi_loopw [18] (fun j wr => ∃ i : Nat, i ≤ ds.length ∧ j = .int .i64 i ∧ J ((d.upto k ++ (Bed.els ⟨da, ds, dc⟩ k).take i).map mk) wr ∧ Below n₀ wo wr) (fun j _ => ds.length - (intOf j).toNat)
      case atStart => exact ⟨0, by omega, rfl, by simpa using hJs, Below.refl _ _⟩
      case round =>
        obtain ⟨i, hi, rfl, hJi, hni⟩ := hrel
        by_cases hil : i < ds.length
        · obtain ⟨b, o, rfl, hb, hcc⟩ := (HOK.out.below hni).at (i := i) hil
          obtain ⟨ca, cl, cc, hce⟩ : ∃ ca cl cc, ds[i] = ⟨ca, cl, cc⟩ := ⟨_, _, _, rfl⟩
          have hcell : wr.cell? ⟨b, o + i, none⟩ = some (.slice ca cl.length cc) := by
            have := hcc; simp only at this; rw [hce] at this; exact this
          have hmem : (⟨k, i, ⟨ca, cl, cc⟩⟩ : El) ∈ d.els := by
            have h1 : (⟨k, i, ⟨ca, cl, cc⟩⟩ : El) ∈ (d.bed k).els k := by
              rw [HBK.out]
              simp only [Bed.els, List.mem_mapIdx]
              exact ⟨i, hil, by simp [hce]⟩
            unfold Bds.els
            rw [List.mem_append]
            obtain rfl | rfl : k = 0 ∨ k = 1 := by omega
            · exact .inl h1
            · exact .inr h1
          obtain ⟨fn, tmps, assign, body, hy, hR⟩ := hY _ (mk ⟨k, i, ⟨ca, cl, cc⟩⟩) wr hJi (by
            have := HLEN.out
            simp only [List.length_map, List.length_append, List.length_take, Bed.els_length]
            omega)
          rw [hmk _ hmem] at hy
          have HY : (Instr.yield l #[.agg #[.int .u8 k, .int .i64 ((i : Int) + 1)], .slice ca cl.length cc]).run Try.prog wr = .ok (.round l fn tmps assign body) wr := hy
          have HTS := Lib.hid (Bed.els_take_succ ⟨some ⟨b, o, none⟩, ds, dc⟩ k hil)
          clear hy hcc
          gi_wp2
          refine hR.mono ?_
          rintro e W3 (⟨rfl, hJ3, hk3⟩ | ⟨rfl, hJx3⟩)
          · gi_wp2
            go_roundw
            case rel =>
              refine ⟨i + 1, by omega, by simp, ?_, hni.trans hk3⟩
              rw [HTS.out, ← List.append_assoc, List.map_append]
              simp only [hce]
              exact hJ3
            case measure => simp [intOf]; omega
          · gi_wp2
            refine bodyPost_ret (results_none rfl _ _ _) rfl ?_
            refine ⟨⟨_, rfl⟩, .inr ⟨_, ?_, hJx3⟩⟩
            rw [← List.map_singleton, ← List.map_append]
            refine List.IsPrefix.map mk ?_
            have h2 : (d.upto k ++ (Bed.els ⟨some ⟨b, o, none⟩, ds, dc⟩ k).take i) ++ [⟨k, i, ⟨ca, cl, cc⟩⟩] <+: d.upto (k + 1) := by
              have e := HUS.out
              rw [HBK.out] at e
              have h3 := HTS.out
              rw [hce] at h3
              rw [← e, List.append_assoc, ← h3]
              exact (List.prefix_append_right_inj _).2 (List.take_prefix _ _)
            refine h2.trans ?_
            obtain rfl | rfl : k = 0 ∨ k = 1 := by omega
            · simp [Bds.upto, Bds.els]
            · simp [Bds.upto]
        · obtain rfl : i = ds.length := by omega
          gi_wp2
          go_roundw
          case rel => 
            refine ⟨k + 1, by omega, by simp, ?_, hnx.trans hni⟩
            have e := HUS.out
            rw [HBK.out] at e
            rw [← e]
            rw [List.take_of_length_le (by rw [Bed.els_length]; exact Nat.le_refl _)] at hJi
            exact hJi
          case measure => simp [intOf]; omega
    · obtain rfl : k = 2 := by omega
      gi_wp2
      go_end0
      exact ⟨⟨_, rfl⟩, .inl ⟨_, rfl, hJs⟩⟩

set_option maxHeartbeats 1000000 in
theorem each_in (F : Fence) (n : Nat) (h22 : F.fn 22) (hro : F.round = none) (fa ba : Option Addr) (fn_ fc bn bc : Nat) (w : World) :
    CallsIn F n Try.prog 22 #[.agg #[.slice fa fn_ fc, .slice ba bn bc]] w fun e w' => e = .returned (.func (.func 34) #[] #[.pointer (some ⟨w.heap.size, 0, none⟩)]) ∧ w' = w.alloc (.cells #[.slice fa fn_ fc, .slice ba bn bc] 35) := by
  refine callsIn_of_wp Try.func22 rfl h22 ?_ hro
  simp only [Try.ntmps22, List.size_toArray, List.length_cons, List.length_nil, Nat.reduceAdd, Nat.reduceSub, Array.replicate_succ, Array.replicate_zero, List.push_toArray, List.append_toArray, List.nil_append, List.cons_append]
  gi_wp2
  go_ret
  exact ⟨rfl, rfl⟩

/-- What 'each' hands back gives the stacks with their needles, or the first ones of them. -/
theorem each_stops (F : Fence) (n : Nat) (h34 : F.fn 34) (hro : F.round = none) (hn : 1 ≤ n) (Bn n₀ : Nat) (d : Bds) (w : World) (hBn : Bn < w.heap.size) (hn₀ : n₀ ≤ w.heap.size) {α : Type} (ev : α → El) (mk : El → α) (hmk : ∀ x ∈ d.els, ev (mk x) = x)
    (hc0 : w.cell? ⟨Bn, 0, none⟩ = some d.f.v) (hc1 : w.cell? ⟨Bn, 1, none⟩ = some d.b.v) (hd : d.ok n₀ w) :
    SeqStopsK F n Try.prog 34 #[.pointer (some ⟨Bn, 0, none⟩)] (fun x : α => (ev x).vs) (Below n₀) (fun ys => ys = d.els.map mk) (fun pre => pre <+: d.els.map mk) d.els.length w := fun l J Jx W hW _ _ hY h0 =>
  each1_in F n h34 hro hn l Bn n₀ d ev mk hmk J Jx hY W ((hW.cell (p := ⟨Bn, 0, none⟩) hBn).trans hc0) ((hW.cell (p := ⟨Bn, 1, none⟩) hBn).trans hc1) (hd.below (hW.mono hn₀)) h0
end Go.Proofs.Ytjjnhmbgffdenaa
