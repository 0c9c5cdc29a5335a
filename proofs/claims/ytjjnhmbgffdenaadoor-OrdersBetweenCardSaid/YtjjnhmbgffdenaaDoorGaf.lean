import Derived.Test.YtjjnhmbgffdenaaDoorGae
import Derived.Laws.CopyOwn
import Derived.Deep.OwnRows
import Derived.Deep.RegionLaw
import Derived.Deep.QuietTactic
namespace Go.Proofs.YtjjnhmbgffdenaaDoor
open Go.RowKit Go.Sort

/-- The cells of a list of names, in a row. -/
def cellsOf (ps : List Nm) : List Value := ps.flatMap fun p => [.int .u8 p.y, .int .i64 p.n]
theorem cellsOf_cons (p : Nm) (ps : List Nm) : cellsOf (p :: ps) = .int .u8 p.y :: .int .i64 p.n :: cellsOf ps := rfl
theorem cellsOf_append (a b : List Nm) : cellsOf (a ++ b) = cellsOf a ++ cellsOf b := by simp [cellsOf]
theorem cellsOf_length (ps : List Nm) : (cellsOf ps).length = ps.length * 2 := by
  induction ps with
  | nil => rfl
  | cons p ps ih => rw [cellsOf_cons]; simp [ih]; omega
theorem cellsOf_one (ps : List Nm) : ∀ u ∈ cellsOf ps, u.oneCell' = true := by
  intro u hu
  simp only [cellsOf, List.mem_flatMap] at hu
  obtain ⟨p, _, hu⟩ := hu
  simp at hu
  rcases hu with rfl | rfl <;> rfl
theorem cellsOf_at (ps : List Nm) : ∀ (i : Nat) (p : Nm), ps[i]? = some p →
    (cellsOf ps)[i * 2]? = some (.int .u8 p.y) ∧ (cellsOf ps)[i * 2 + 1]? = some (.int .i64 p.n) := by
  induction ps with
  | nil => intro i p h; simp at h
  | cons q ps ih =>
    intro i p h
    rw [cellsOf_cons]
    cases i with
    | zero => simp at h; subst h; simp
    | succ i =>
      have := ih i p (by simpa using h)
      rw [show (i + 1) * 2 = i * 2 + 2 by omega]
      simpa [Nat.add_assoc] using this
/-- The cells of a stack that lies, one by one. -/
theorem Cel.ok.cells {B : Nat} {w : World} {c : Cel} (h : c.ok B w) : ∀ ad, c.ao = some ad → ∀ j u, (cellsOf c.l)[j]? = some u → w.cell? (ad.add j) = some u := by
  rintro ad e j u hj
  obtain ⟨ao, l, cap⟩ := c
  obtain rfl : ao = some ad := e
  rcases h.2 with h0 | ⟨b, o, h1, h2, h3⟩
  · simp only at h0 hj; subst h0; simp [cellsOf] at hj
  · obtain rfl : ad = ⟨b, o, none⟩ := by simpa using h1
    have hlt : j < l.length * 2 := by rw [← cellsOf_length]; exact (List.getElem?_eq_some_iff.1 hj).1
    have hi : j / 2 < l.length := by omega
    obtain ⟨p, hp⟩ : ∃ p, l[j / 2]? = some p := ⟨_, List.getElem?_eq_getElem hi⟩
    obtain ⟨a0, a1⟩ := cellsOf_at l _ p hp
    obtain ⟨c0, c1⟩ := h3 _ p hp
    have e : (⟨b, o, none⟩ : Addr).add j = ⟨b, o + j, none⟩ := Addr.add_lit ..
    rw [e]
    rcases (by omega : j % 2 = 0 ∨ j % 2 = 1) with h | h
    · rw [show j / 2 * 2 = j by omega] at a0 c0
      rw [hj] at a0; rw [a0]; exact c0
    · rw [show j / 2 * 2 + 1 = j by omega] at a1
      rw [show o + j / 2 * 2 + 1 = o + j by omega] at c1
      rw [hj] at a1; rw [a1]; exact c1
/-- What a row of one's own holds lies. -/
theorem ok_of_row {w : World} {g B cap : Nat} {cur : Array Value} {t : TypeId} {ps : List Nm} (hg : w.heap[g]? = some (.cells cur t (0, 0))) (hc : cur.toList.take (ps.length * 2) = cellsOf ps) (hB : g < B) (hl : ps.length ≤ 100) : Cel.ok B w ⟨some ⟨g, 0, none⟩, ps, cap⟩ := by
  refine ⟨hl, .inr ⟨g, 0, rfl, hB, fun i p hp => ?_⟩⟩
  have hi := (List.getElem?_eq_some_iff.1 hp).1
  simp only at hi hp
  obtain ⟨a0, a1⟩ := cellsOf_at ps i p hp
  have key : ∀ j u, j < ps.length * 2 → (cellsOf ps)[j]? = some u → w.cell? ⟨g, j, none⟩ = some u := fun j u hj hu => by
    rw [cell_of_row w g j cur t (0, 0) hg]
    rw [← hc, List.getElem?_take, if_pos hj] at hu
    simpa using hu
  rw [Nat.zero_add]
  exact ⟨key _ _ (by omega) a0, key _ _ (by omega) a1⟩
/-- A row that the call owns is a stack that lies. -/
theorem ok_of_owns {w : World} {B e : Nat} {v : Value} {n : Nat} {ps : List Nm} (h : w.ownsRow B e 2 v n (cellsOf ps)) (hl : ps.length ≤ 100) : ∃ c : Cel, v = c.v ∧ c.l = ps ∧ c.l.length ≤ c.cap ∧ c.ok w.heap.size w := by
  have hn : n = ps.length := by have := h.1; rw [cellsOf_length] at this; omega
  rcases h.2 with ⟨rfl, rfl⟩ | ⟨g, cap, cur, rfl, hb, hg, hnc, hcm, hcs, htake⟩
  · obtain rfl : ps = [] := List.eq_nil_of_length_eq_zero hn.symm
    exact ⟨Cel.nil, rfl, rfl, Nat.le_refl _, Cel.nil_ok _ _⟩
  · refine ⟨⟨some ⟨g, 0, none⟩, ps, cap⟩, by simp [Cel.v, hn], rfl, by simp only; omega, ok_of_row hg (by rw [← hn]; exact htake) (Array.getElem?_eq_some_iff.1 hg).1 hl⟩

/-- A copy of whole elements of several cells into a row of one's own. -/
theorem run_copy_all {P : Program} (w : World) (dT sT ty e : TypeId) (g : Nat) (n dCap : Nat) (a : Addr) (sCap size : Nat) (cur : Array Value) (t : TypeId) (cs : List Value)
    (hu : P.underlying dT = some (.slice e)) (i : TypeInfo) (hi : P.info? e = some i) (hsz : i.size = size) (hg : w.heap[g]? = some (.cells cur t (0, 0))) (hl : cs.length = n * size)
    (hsrc : ∀ j v, cs[j]? = some v → w.cell? (a.add j) = some v) (hfit : cs.length ≤ cur.size) (h1 : ∀ v ∈ cs, v.oneCell' = true) :
    (Builtin.copy_ #[dT, sT] ty #[.slice (some ⟨g, 0, none⟩) n dCap, .slice (some a) n sCap]).run P w = .ok (goInt n) (w.setRow g (cs ++ cur.toList.drop cs.length).toArray) := by
  subst hsz
  have hf := run_firstCells_some (P := P) w i.size n a n sCap cs hl hsrc
  have hst := run_storeCells_at P g 0 t cs 0 cur w hg (by simpa using hfit) h1
  simp only [Nat.add_zero, Nat.zero_add, List.take_zero, List.nil_append] at hst
  simp [Builtin.copy_, run_underlying hu, Builtin.lenOf, sizeOf, typeInfo, hi, hf, hst]

theorem setRow_alloc (w : World) (cur new : Array Value) (t : TypeId) : (w.alloc (.cells cur t)).setRow w.heap.size new = w.alloc (.cells new t) := by
  unfold World.setRow World.alloc
  simp only
  congr 1
  apply Array.ext
  · simp
  · intro k h1 h2
    simp only [Array.getElem_modify]
    split
    · rename_i hk; subst hk; simp
    · rename_i hk
      simp only [Array.size_modify, Array.size_push] at h1
      rw [Array.getElem_push_lt (by omega), Array.getElem_push_lt (by omega)]

def zero28 : Value := .agg #[.int .u8 0, .int .i64 0]
theorem info28 : (Tryd.prog.info? 35).map (fun i => (i.zero, i.size, i.bytes)) = some (some zero28, 2, 16) := by kernel_rfl
theorem info29 : (Tryd.prog.info? 61).map (fun i => (i.zero, i.size, i.bytes)) = some (some (.slice none 0 0), 1, 24) := by kernel_rfl

def rowNew (n : Nat) : Array Value := madeCells zero28.cells (n * 2)
theorem run_mk (c : Int) (n : Nat) (hc : c = n) (h1 : 16 * n ≤ 281474976710656) (w : World) :
    (Instr.makeSlice 61 (.int .i64 c) (.int .i64 c)).run Tryd.prog w = .ok (.slice (some ⟨w.heap.size, 0, none⟩) n n) (w.alloc (.cells (rowNew n) 35)) := by
  subst hc
  obtain ⟨i0, hi, hz0, hz1, hz2⟩ := info_parts info28
  have hr := run_make (P := Tryd.prog) w 61 35 i0 zero28 Tryd.underlying61 hi hz0 .i64 .i64 n n (by omega) (Int.le_refl _) (by rw [hz2]; omega) (by omega)
  simp only [Int.toNat_natCast, hz1] at hr
  exact hr
theorem run_mk0 (c : Int) (n : Nat) (hc : c = n) (h1 : 16 * n ≤ 281474976710656) (w : World) :
    (Instr.makeSlice 61 (.int .i64 0) (.int .i64 c)).run Tryd.prog w = .ok (.slice (some ⟨w.heap.size, 0, none⟩) 0 n) (w.alloc (.cells (rowNew n) 35)) := by
  subst hc
  obtain ⟨i0, hi, hz0, hz1, hz2⟩ := info_parts info28
  have hr := run_make (P := Tryd.prog) w 61 35 i0 zero28 Tryd.underlying61 hi hz0 .i64 .i64 0 n (by omega) (by omega) (by rw [hz2]; omega) (by omega)
  simp only [Int.toNat_natCast, hz1, Int.toNat_zero] at hr
  exact hr
theorem rowNew_size (n : Nat) : (rowNew n).size = n * 2 := size_madeCells _ _

/-- A slice of stacks that the call makes. -/
theorem run_mkL (c : Int) (n : Nat) (hc : c = n) (h1 : n ≤ 1000000) (w : World) :
    (Instr.makeSlice 24 (.int .i64 c) (.int .i64 c)).run Tryd.prog w = .ok (.slice (some ⟨w.heap.size, 0, none⟩) n n) (w.alloc (.cells (madeCells #[.slice none 0 0] n) 61)) := by
  subst hc
  exact run_make_row' 24 61 (.slice none 0 0) 24 Tryd.underlying24 info29 rfl .i64 .i64 n (by omega) (by omega) w

theorem run_append_nothing {P : Program} (w : World) (base : Nat) (t ty e : TypeId) (i : TypeInfo) (size : Nat) (ht : P.underlying t = some (.slice e)) (hi : P.info? e = some i)
    (v : Value) (n : Nat) (xs : List Value) (hown : w.ownsRow base e size v n xs) (c : Nat) :
    (Builtin.append_ #[t, t] ty #[v, .slice none 0 c]).run P w = .ok v w := by
  rcases hown.2 with ⟨rfl, rfl⟩ | ⟨g, cap, cur, rfl, _, _, hnc, _⟩
  · simp [Builtin.append_, run_underlying ht, sizeOf, typeInfo, hi, Builtin.lenOf, Builtin.firstCells]
  · simp [Builtin.append_, run_underlying ht, sizeOf, typeInfo, hi, Builtin.lenOf, Builtin.firstCells, hnc, storeCells]

/-- 'append' of a stack that lies anywhere, to a row of the call's own. -/
theorem run_append_cel (w : World) (B B' ty : Nat) (v : Value) (n : Nat) (xs : List Nm) (hown : w.ownsRow B 35 2 v n (cellsOf xs)) (c : Cel) (hl : c.ok B' w) (h1 : n ≤ 1000000) (hbase : B ≤ w.heap.size) :
    ∃ v' w', (Builtin.append_ #[61, 61] ty #[v, c.v]).run Tryd.prog w = .ok v' w' ∧ w'.ownsRow B 35 2 v' (n + c.l.length) (cellsOf (xs ++ c.l)) ∧ w.grownBy w' v.ownBlock := by
  obtain ⟨i0, hi, hz0, hz1, hz2⟩ := info_parts info28
  rw [cellsOf_append]
  obtain ⟨ao, ps, cap⟩ := c
  have hlen : ps.length ≤ 100 := hl.1
  cases ao with
  | none =>
    have hp : ps = [] := by
      rcases hl.2 with h | ⟨b, o, h, _⟩
      · exact h
      · cases h
    subst hp
    exact ⟨v, w, run_append_nothing w B 61 ty 35 i0 2 Tryd.underlying61 hi v n _ hown cap, by simpa [cellsOf] using hown, World.grownBy.refl _ _⟩
  | some ad =>
    obtain ⟨v', w', g1, g2, g3, _⟩ := run_append_own (P := Tryd.prog) w B 61 ty 35 i0 zero28 2 16 Tryd.underlying61 hi hz0 hz1 hz2 rfl (by decide) v n (cellsOf xs) hown ad ps.length cap (cellsOf ps) (by rw [cellsOf_length]) (hl.cells ad rfl) (cellsOf_one ps)
      (by unfold maxLen; omega) (by omega) hbase
    exact ⟨v', w', g1, g2, g3⟩
end Go.Proofs.YtjjnhmbgffdenaaDoor
namespace Go.Proofs.YtjjnhmbgffdenaaDoor
open Go.RowKit

def allNamed (l : List Nm) : Bool := l.all namedB
theorem allNamed_take {l : List Nm} {k : Nat} (h : allNamed (l.take k) = true) (hk : k < l.length) (h1 : namedB l[k] = true) : allNamed (l.take (k + 1)) = true := by
  unfold allNamed at h ⊢
  rw [List.take_succ_eq_append_getElem hk, List.all_append, h]
  simp [h1]
theorem allNamed_no {l : List Nm} {k : Nat} (hk : k < l.length) (h1 : namedB l[k] = false) : allNamed l = false := by
  simp only [allNamed, List.all_eq_false]
  exact ⟨l[k], List.getElem_mem hk, by simp [h1]⟩

theorem areNamed_any (c : Cel) (B : Nat) (w : World) (hB : B ≤ w.heap.size) (h : c.ok B w) :
    Calls Tryd.prog 49 #[c.v] w fun e w' => e = .returned (.bool (allNamed c.l)) ∧ Below w.heap.size w w' := by
  obtain ⟨ao, l, cap⟩ := c
  have hm : l.length ≤ 100 := h.1
  have HL := Lib.hid (h.mono hB)
  clear h
  obtain ⟨n, hn⟩ : ∃ n, n = l.length := ⟨_, rfl⟩
  simp only [Cel.v]
  rw [← hn] at hm ⊢
  have HN := Lib.hid hn
  clear hn
  go_enter Tryd.func49, Tryd.ntmps49
  go_wp2_with fail
  go_loopg [7] (n + 1) (fun g i wr => ∃ k : Nat, k ≤ n ∧ g = n + 1 - k ∧ i = .int .i64 k ∧ allNamed (l.take k) = true ∧ Below w.heap.size w wr)
  case atStart => exact ⟨0, by omega, rfl, rfl, rfl, Below.refl _ _⟩
  case round =>
    obtain ⟨k, hk, hg, rfl, hgs, hb⟩ := hrel
    have HM := Lib.hid hg
    have HGS := Lib.hid hgs
    clear hg hgs
    have hsz := hb.size
    by_cases hlt : k < n
    · have hlt' : k < l.length := by rw [← HN.out]; exact hlt
      obtain ⟨b, o, he, hbb, hf⟩ := (HL.out.below hb).at (i := k) hlt'
      obtain rfl : ao = some ⟨b, o, none⟩ := he
      have hq : namedB l[k] = true ∨ namedB l[k] = false := by cases namedB l[k] <;> simp
      obtain ⟨p, hp⟩ : ∃ p, p = l[k] := ⟨_, rfl⟩
      simp only at hf
      rw [← hp] at hf hq
      have HP := Lib.hid hp
      clear hp
      obtain ⟨y, m⟩ := p
      obtain ⟨c0, c1⟩ := hf
      simp only at c0 c1
      rcases hq with hq | hq
      · have HQ := Lib.hid hq
        clear hq
        go_wp2_with (go_at_call 66; refine (named_any ⟨y, m⟩ _ _ HQ.out).mono ?_; rintro e w1 ⟨rfl, hb1⟩; obtain ⟨hc, hf⟩ := bcell hb1; have hz1 := hb1.size)
        go_roundg (gk - 1)
        case measure => have := HM.out; omega
        case rel =>
          exact ⟨k + 1, by omega, by have := HM.out; omega, by go_num, allNamed_take HGS.out hlt' (by rw [← HP.out]; exact HQ.out), (hb.alloc (by omega) _).trans (hb1.mono (by simp; omega))⟩
      · have HQ := Lib.hid hq
        clear hq
        go_wp2_with (go_at_call 66; refine (named_any ⟨y, m⟩ _ _ HQ.out).mono ?_; rintro e w1 ⟨rfl, hb1⟩; obtain ⟨hc, hf⟩ := bcell hb1; have hz1 := hb1.size)
        go_ret
        exact ⟨ret_bool (allNamed_no hlt' (by rw [← HP.out]; exact HQ.out)).symm, (hb.alloc (by omega) _).trans (hb1.mono (by simp; omega))⟩
    · obtain rfl : k = n := by omega
      go_wp2
      go_ret
      refine ⟨ret_bool ?_, hb⟩
      have := HGS.out
      rw [HN.out, List.take_length] at this
      exact this.symm
end Go.Proofs.YtjjnhmbgffdenaaDoor
namespace Go.Proofs.YtjjnhmbgffdenaaDoor
open Go.RowKit

/-- The stack of the needle i + 1 of a bed. -/
def Bed.cel (d : Bed) (i : Nat) : Cel := d.cs.getD i Cel.nil
theorem Bed.ok.cel {n : Nat} {w : World} {d : Bed} (h : d.ok n w) (i : Nat) : (d.cel i).ok n w := by
  unfold Bed.cel
  by_cases hi : i < d.cs.length
  · simp only [List.getD, List.getElem?_eq_getElem hi, Option.getD_some]
    exact h.2.1 _ (List.getElem_mem hi)
  · simp only [List.getD, List.getElem?_eq_none (Nat.le_of_not_lt hi), Option.getD_none]
    exact Cel.nil_ok n w

theorem on_any (d : Bds) (k i : Nat) (B : Nat) (w : World) (hB : B ≤ w.heap.size) (hk : k ≤ 1) (hi : i ≤ 1000000) (h : d.ok B w) :
    Calls Tryd.prog 58 #[d.v, .agg #[.int .u8 k, .int .i64 ((i : Int) + 1)]] w fun e w' => e = .returned ((d.bed k).cel i).v ∧ Below w.heap.size w w' := by
  have HW := Lib.hid ((h.mono hB).bed k)
  obtain ⟨⟨fa, fs, fc⟩, ⟨ba, bs, bc⟩⟩ := d
  have h1 : fs.length ≤ 100 := h.1.1
  have h2 : bs.length ≤ 100 := h.2.1
  clear h
  simp only [Bds.v, Bed.v] at HW ⊢
  obtain rfl | rfl : k = 0 ∨ k = 1 := by omega
  all_goals
    simp only [Bds.bed, if_true, if_false, Nat.one_ne_zero] at HW ⊢
  · by_cases hl : i < fs.length
    · obtain ⟨b, o, he, hbb, hcell⟩ := HW.out.at (i := i) hl
      obtain rfl : fa = some ⟨b, o, none⟩ := he
      obtain ⟨ca, cl, cc, hce⟩ : ∃ ca cl cc, fs[i] = ⟨ca, cl, cc⟩ := ⟨_, _, _, rfl⟩
      simp only at hcell
      rw [hce] at hcell
      simp only [Cel.v] at hcell
      have hcel : Bed.cel ⟨some ⟨b, o, none⟩, fs, fc⟩ i = ⟨ca, cl, cc⟩ := by simp [Bed.cel, List.getD, List.getElem?_eq_getElem hl, hce]
      rw [hcel]
      clear HW hcel
      go_enter Tryd.func58, Tryd.ntmps58
      go_wp2
      go_ret
      exact ⟨rfl, below2 _ _ _⟩
    · have hcel : Bed.cel ⟨fa, fs, fc⟩ i = Cel.nil := by simp [Bed.cel, List.getD, List.getElem?_eq_none (Nat.le_of_not_lt hl)]
      rw [hcel]
      have hl2 : (fs.length : Int) < (i : Int) + 1 := by omega
      clear HW hcel
      go_enter Tryd.func58, Tryd.ntmps58
      go_wp2
      go_ret
      exact ⟨rfl, below2 _ _ _⟩
  · by_cases hl : i < bs.length
    · obtain ⟨b, o, he, hbb, hcell⟩ := HW.out.at (i := i) hl
      obtain rfl : ba = some ⟨b, o, none⟩ := he
      obtain ⟨ca, cl, cc, hce⟩ : ∃ ca cl cc, bs[i] = ⟨ca, cl, cc⟩ := ⟨_, _, _, rfl⟩
      simp only at hcell
      rw [hce] at hcell
      simp only [Cel.v] at hcell
      have hcel : Bed.cel ⟨some ⟨b, o, none⟩, bs, bc⟩ i = ⟨ca, cl, cc⟩ := by simp [Bed.cel, List.getD, List.getElem?_eq_getElem hl, hce]
      rw [hcel]
      clear HW hcel
      go_enter Tryd.func58, Tryd.ntmps58
      go_wp2
      go_ret
      exact ⟨rfl, below2 _ _ _⟩
    · have hcel : Bed.cel ⟨ba, bs, bc⟩ i = Cel.nil := by simp [Bed.cel, List.getD, List.getElem?_eq_none (Nat.le_of_not_lt hl)]
      rw [hcel]
      have hl2 : (bs.length : Int) < (i : Int) + 1 := by omega
      clear HW hcel
      go_enter Tryd.func58, Tryd.ntmps58
      go_wp2
      go_ret
      exact ⟨rfl, below2 _ _ _⟩
end Go.Proofs.YtjjnhmbgffdenaaDoor
namespace Go.Proofs.YtjjnhmbgffdenaaDoor
open Go.RowKit Go.Sort

/-- A stack in new memory that has no room for more. -/
def NewCel (l : List Nm) (w : World) (e : Ending) (w' : World) : Prop := ∃ c : Cel, e = .returned c.v ∧ Hid (c.l = l ∧ c.cap = l.length ∧ c.ok w'.heap.size w') ∧ Below w.heap.size w w'

theorem copied_any (c : Cel) (B : Nat) (w : World) (hB : B ≤ w.heap.size) (h : c.ok B w) :
    Calls Tryd.prog 57 #[c.v] w (NewCel c.l w) := by
  obtain ⟨ao, ps, cap⟩ := c
  have hm : ps.length ≤ 100 := h.1
  have HL := Lib.hid (h.mono hB)
  clear h
  simp only [Cel.v]
  obtain ⟨n, hn⟩ : ∃ n, n = ps.length := ⟨_, rfl⟩
  rw [← hn] at hm ⊢
  have HN := Lib.hid hn
  clear hn
  by_cases h0 : n = 0
  · subst h0
    obtain rfl : ps = [] := List.eq_nil_of_length_eq_zero HN.out.symm
    go_enter Tryd.func57, Tryd.ntmps57
    go_wp2
    go_ret
    exact ⟨Cel.nil, rfl, Lib.hid ⟨rfl, rfl, Cel.nil_ok _ _⟩, Below.refl _ _⟩
  · obtain ⟨b, o, he, hb, -⟩ := HL.out.at (i := 0) (by simp only; rw [← HN.out]; omega)
    obtain rfl : ao = some ⟨b, o, none⟩ := he
    have hmk := fun w => run_mk (n : Int) n rfl (by omega) w
    obtain ⟨i0, hi, hz0, hz1, hz2⟩ := info_parts info28
    have hlen : (cellsOf ps).length = n * 2 := by rw [cellsOf_length, HN.out]
    have hcp : (Builtin.copy_ #[61, 61] 3 #[.slice (some ⟨w.heap.size, 0, none⟩) n n, .slice (some ⟨b, o, none⟩) n cap]).run Tryd.prog (w.alloc (.cells (rowNew n) 35)) = .ok (goInt n) (w.alloc (.cells (cellsOf ps).toArray 35)) := by
      have := run_copy_all (P := Tryd.prog) (w.alloc (.cells (rowNew n) 35)) 61 61 3 35 w.heap.size n n ⟨b, o, none⟩ cap 2 (rowNew n) 35 (cellsOf ps) Tryd.underlying61 i0 hi hz1 (heap_alloc_new w _) hlen
        ((HL.out.below (below1 w _)).cells _ rfl) (by rw [rowNew_size, hlen]; exact Nat.le_refl _) (cellsOf_one ps)
      rw [this, setRow_alloc, List.drop_of_length_le (by rw [Array.length_toList, rowNew_size, hlen]; exact Nat.le_refl _), List.append_nil]
    have HLEN := Lib.hid hlen
    have h00 : ((n : Int) == 0) = false := by simp; omega
    clear hi hz0 hz1 hz2 hlen
    go_enter Tryd.func57, Tryd.ntmps57
    go_wp2_with fail
    go_ret
    refine ⟨⟨some ⟨w.heap.size, 0, none⟩, ps, n⟩, by simp [Cel.v, HN.out], Lib.hid ⟨rfl, HN.out, ?_⟩, below1 _ _⟩
    exact ok_of_row (heap_alloc_new w _) (by rw [List.take_of_length_le]; simp [cellsOf_length]) (by simp) (by rw [← HN.out]; exact hm)

/-- What a needle holds; nothing if it is not valid. -/
def Bds.atM (d : Bds) (b a : Int) : List Nm := if isN b a = true then ((d.bed b.toNat).cel (a - 1).toNat).l else []

theorem at_any (d : Bds) (b a : Int) (hb0 : 0 ≤ b) (B : Nat) (w : World) (hB : B ≤ w.heap.size) (h : d.ok B w) :
    Calls Tryd.prog 30 #[d.v, .agg #[.int .u8 b, .int .i64 a]] w (NewCel (d.atM b a) w) := by
  have HO := Lib.hid (h.mono hB)
  obtain ⟨V, hV⟩ : ∃ V, V = d.v := ⟨_, rfl⟩
  obtain ⟨v0, v1, hv⟩ : ∃ v0 v1, d.v = .agg #[v0, v1] := ⟨_, _, rfl⟩
  have hq : isN b a = true ∨ isN b a = false := by cases isN b a <;> simp
  rcases hq with hq | hq
  · have hr := isN_true hq
    obtain ⟨k, rfl⟩ : ∃ k : Nat, b = k := ⟨b.toNat, by omega⟩
    obtain ⟨i, rfl⟩ : ∃ i : Nat, a = (i : Int) + 1 := ⟨(a - 1).toNat, by omega⟩
    have e : d.atM k ((i : Int) + 1) = ((d.bed k).cel i).l := by
      unfold Bds.atM; rw [if_pos hq]; congr 2; simp
    rw [e]
    have hk : k ≤ 1 := by omega
    have hi : i ≤ 100 := by omega
    have HQ := Lib.hid hq
    have HE := Lib.hid hv
    clear e hq hr hV h hb0
    obtain ⟨⟨fa, fs, fc⟩, ⟨ba, bs, bc⟩⟩ := d
    simp only [Bds.v, Bed.v] at HE ⊢
    go_enter Tryd.func30, Tryd.ntmps30
    go_wp2_with (first
      | (go_at_call 48; refine (isNeedle_any _ _ _ _ HQ.out).mono ?_; rintro e w1 ⟨rfl, hb1⟩; obtain ⟨hc1, hf1⟩ := bcell hb1; have hz1 := hb1.size)
      | (go_at_call 58; refine (on_any ⟨⟨fa, fs, fc⟩, ⟨ba, bs, bc⟩⟩ k i w.heap.size _ (by simp at hz1; omega) hk (by omega) (HO.out.below ((below2 _ _ _).trans (hb1.mono (by simp; omega))))).mono ?_; rintro e w2 ⟨rfl, hb2⟩; obtain ⟨hc2, hf2⟩ := bcell hb2; have hz2 := hb2.size)
      | (go_at_call 57; refine (copied_any _ w.heap.size _ (by simp at hz1; omega) ((((HO.out.below ((below2 _ _ _).trans (hb1.mono (by simp; omega)))).bed k).cel i).below (hb2.mono (by simp at hz1; omega)))).mono ?_; rintro e w3 ⟨c3, rfl, hc3, hb3⟩))
    go_ret
    refine ⟨c3, rfl, hc3, ?_⟩
    have h2 : Below w.heap.size w w1 := (below2 _ _ _).trans (hb1.mono (by simp; omega))
    exact (h2.trans (hb2.mono h2.size)).trans (hb3.mono (Nat.le_trans h2.size hb2.size))
  · have e : d.atM b a = [] := by
      unfold Bds.atM; rw [hq]; rfl
    rw [e]
    have HQ := Lib.hid hq
    clear e hq hV h hb0
    obtain ⟨⟨fa, fs, fc⟩, ⟨ba, bs, bc⟩⟩ := d
    simp only [Bds.v, Bed.v] at hv ⊢
    go_enter Tryd.func30, Tryd.ntmps30
    go_wp2_with (first
      | (go_at_call 48; refine (isNeedle_any _ _ _ _ HQ.out).mono ?_; rintro e w1 ⟨rfl, hb1⟩))
    go_ret
    exact ⟨Cel.nil, rfl, Lib.hid ⟨rfl, rfl, Cel.nil_ok _ _⟩, (below2 _ _ _).trans (hb1.mono (by simp; omega))⟩
end Go.Proofs.YtjjnhmbgffdenaaDoor
namespace Go.Proofs.YtjjnhmbgffdenaaDoor
open Go.RowKit Go.Sort

/-- 'same' of the statements: 1 if the lists are equal, and the first one has no spare room. -/
def sameR (c d : Cel) : Int := if c.l = d.l ∧ c.cap = c.l.length then 1 else 0
end Go.Proofs.YtjjnhmbgffdenaaDoor
namespace Go.Proofs.YtjjnhmbgffdenaaDoor
open Go.RowKit Go.Shelf

/-- What a round may know of the stack that it is handed. -/
def ElOk (n : Nat) (w : World) (x : El) : Prop := x.k ≤ 1 ∧ x.i < 100 ∧ x.c.ok n w
def Al (n : Nat) (w : World) : Type := { x : El // ElOk n w x }
def Al.one (n : Nat) (w : World) : Al n w := ⟨⟨0, 0, Cel.nil⟩, by simp, by simp, Cel.nil_ok _ _⟩
open Classical in
noncomputable def Al.mk (n : Nat) (w : World) (x : El) : Al n w := if h : ElOk n w x then ⟨x, h⟩ else Al.one n w
theorem Bds.ok.els {n : Nat} {w : World} {d : Bds} (h : d.ok n w) {x : El} (hx : x ∈ d.els) : ElOk n w x := by
  unfold Bds.els at hx
  rcases List.mem_append.1 hx with hx | hx
  · simp only [Bed.els, List.mem_mapIdx] at hx
    obtain ⟨i, hi, rfl⟩ := hx
    exact ⟨by simp, by have := h.1.1; simp only; omega, h.1.2.1 _ (List.getElem_mem hi)⟩
  · simp only [Bed.els, List.mem_mapIdx] at hx
    obtain ⟨i, hi, rfl⟩ := hx
    exact ⟨by simp, by have := h.2.1; simp only; omega, h.2.2.1 _ (List.getElem_mem hi)⟩
theorem Al.mk_val {n : Nat} {w : World} {x : El} (h : ElOk n w x) : (Al.mk n w x).1 = x := by simp [Al.mk, h]
theorem Al.map_val {n : Nat} {w : World} {d : Bds} (h : d.ok n w) : (d.els.map (Al.mk n w)).map (fun x => x.1) = d.els := by
  rw [List.map_map]
  conv => rhs; rw [← List.map_id d.els]
  exact List.map_congr_left fun x hx => Al.mk_val (h.els hx)
theorem Al.prefix_val {n : Nat} {w : World} {d : Bds} (h : d.ok n w) {pre : List (Al n w)} (hp : pre <+: d.els.map (Al.mk n w)) : pre.map (fun x => x.1) <+: d.els := by
  have := hp.map (fun x : Al n w => x.1)
  rwa [Al.map_val h] at this
theorem Bds.ok.els_len {n : Nat} {w : World} {d : Bds} (h : d.ok n w) : d.els.length ≤ 200 := by
  rw [Bds.els_length]; have := h.1.1; have := h.2.1; omega
/-- The same, of another predicate. -/
def El.zero : El := ⟨0, 0, Cel.nil⟩
theorem El.zero_ok (n : Nat) (w : World) : ElOk n w El.zero := ⟨by simp [El.zero], by simp [El.zero], Cel.nil_ok _ _⟩
def Ap (P : El → Prop) : Type := { x : El // P x }
open Classical in
noncomputable def Ap.mk {P : El → Prop} (h0 : P El.zero) (x : El) : Ap P := if h : P x then ⟨x, h⟩ else ⟨El.zero, h0⟩
theorem Ap.mk_val {P : El → Prop} (h0 : P El.zero) {x : El} (h : P x) : (Ap.mk h0 x).1 = x := by simp [Ap.mk, h]
theorem Ap.map_val {P : El → Prop} (h0 : P El.zero) {xs : List El} (h : ∀ x ∈ xs, P x) : (xs.map (Ap.mk h0)).map (fun x => x.1) = xs := by
  rw [List.map_map]
  conv => rhs; rw [← List.map_id xs]
  exact List.map_congr_left fun x hx => Ap.mk_val h0 (h x hx)
theorem Ap.prefix_val {P : El → Prop} (h0 : P El.zero) {xs : List El} (h : ∀ x ∈ xs, P x) {pre : List (Ap P)} (hp : pre <+: xs.map (Ap.mk h0)) : pre.map (fun x => x.1) <+: xs := by
  have := hp.map (fun x : Ap P => x.1)
  rwa [Ap.map_val h0 h] at this
/-- The box of a pair. -/
def Boxed2 (W : World) (B : Nat) (t : TypeId) (u v : Value) : Prop := W.heap[B]? = some (.cells #[u, v] t (0, 0))
theorem Boxed2.lt {W : World} {B : Nat} {t : TypeId} {u v : Value} (h : Boxed2 W B t u v) : B < W.heap.size := (Array.getElem?_eq_some_iff.1 h).1
theorem Boxed2.cell0 {W : World} {B : Nat} {t : TypeId} {u v : Value} (h : Boxed2 W B t u v) : W.cell? ⟨B, 0, none⟩ = some u := by simp [World.cell?, show W.heap[B]? = _ from h]
theorem Boxed2.cell1 {W : World} {B : Nat} {t : TypeId} {u v : Value} (h : Boxed2 W B t u v) : W.cell? ⟨B, 1, none⟩ = some v := by simp [World.cell?, show W.heap[B]? = _ from h]
theorem Boxed2.frozen {W : World} {B : Nat} {t : TypeId} {u v : Value} (h : Boxed2 W B t u v) (o : Nat) : W.frozen? ⟨B, o, none⟩ = false := by simp [World.frozen?, show W.heap[B]? = _ from h]
theorem Boxed2.new (W : World) (t : TypeId) (u v : Value) : Boxed2 (W.alloc (.cells #[u, v] t)) W.heap.size t u v := World.alloc_heap_new W _
theorem Boxed2.kept {W W' : World} {row : Option Nat} {B : Nat} {t : TypeId} {u v : Value} (h : Boxed2 W B t u v) (hg : W.grownBy W' row) (hne : some B ≠ row) : Boxed2 W' B t u v := (hg.block B h.lt hne).trans h
theorem Boxed2.alloc {W : World} {B : Nat} {t : TypeId} {u v : Value} (h : Boxed2 W B t u v) (o : Obj) : Boxed2 (W.alloc o) B t u v := h.kept (World.grownBy_alloc W o none) (by simp)
theorem Boxed2.below {W W' : World} {B N : Nat} {t : TypeId} {u v : Value} (h : Boxed2 W B t u v) (hb : Below N W W') (hB : B < N) : Boxed2 W' B t u v := (hb.block B hB).trans h
theorem setCell_block (W : World) (B o : Nat) (v : Value) {cs : Array Value} {t : TypeId} (h : W.heap[B]? = some (.cells cs t (0, 0))) : (W.setCell ⟨B, o, none⟩ v).heap[B]? = some (.cells (cs.setIfInBounds o v) t (0, 0)) := by
  obtain ⟨hlt, hk⟩ := Array.getElem?_eq_some_iff.1 h
  show (W.heap.modify B _)[B]? = _
  rw [Array.getElem?_eq_getElem (by rw [Array.size_modify]; exact hlt), Array.getElem_modify_self, hk]
  rfl
theorem Boxed2.set0 {W : World} {B : Nat} {t : TypeId} {u v : Value} (u' : Value) (h : Boxed2 W B t u v) : Boxed2 (W.setCell ⟨B, 0, none⟩ u') B t u' v := (setCell_block W B 0 u' h).trans rfl
theorem Boxed2.set1 {W : World} {B : Nat} {t : TypeId} {u v : Value} (v' : Value) (h : Boxed2 W B t u v) : Boxed2 (W.setCell ⟨B, 1, none⟩ v') B t u v' := (setCell_block W B 1 v' h).trans rfl
theorem grownBy_setCellAt (W : World) (b o : Nat) (v : Value) : W.grownBy (W.setCell ⟨b, o, none⟩ v) (some b) :=
  ⟨rfl, rfl, rfl, (KeepsWalks.setCell W _ v).size, fun k _ hk => Below.heap_setCell _ _ _ k (fun e => hk (by rw [e]))⟩
theorem Boxed2.other {W : World} {B C o : Nat} {t : TypeId} {u v x : Value} (h : Boxed2 W B t u v) (hne : B ≠ C) : Boxed2 (W.setCell ⟨C, o, none⟩ x) B t u v := h.kept (grownBy_setCellAt W C o x) (by simp [hne])
theorem boxed_other {W : World} {B C o : Nat} {t : TypeId} {v x : Value} (h : Boxed W B t v) (hne : B ≠ C) : Boxed (W.setCell ⟨C, o, none⟩ x) B t v := h.kept (grownBy_setCellAt W C o x) (by simp [hne])
theorem boxed2_own {β : Type} (B : Nat) (t : TypeId) (u v : β → Value) : Own (fun s W => Boxed2 W B t (u s) (v s)) := by
  rintro s X Y row hs hg hrow
  refine hs.kept hg (fun e' => ?_)
  obtain ⟨o, ho, hc⟩ := hrow B e'.symm
  rw [show X.heap[B]? = _ from hs] at ho; cases ho; cases hc
theorem ownFrom_const {β : Type} (B : Nat) (p : β → Prop) : OwnFrom B (fun s (_ : World) => p s) := fun _ _ _ _ hs _ _ => hs
theorem boxed_below {W W' : World} {B N : Nat} {t : TypeId} {v : Value} (h : Boxed W B t v) (hb : Below N W W') (hB : B < N) : Boxed W' B t v := (hb.block B hB).trans h
theorem keepsFrom_below {B n : Nat} {W W' : World} (h : Below n W W') (hn : W.heap.size ≤ n) : KeepsFrom B W W' :=
  ⟨h.size, fun k o _ hk _ => (h.block k (Nat.lt_of_lt_of_le (Array.getElem?_eq_some_iff.1 hk).1 hn)).trans hk⟩
end Go.Proofs.YtjjnhmbgffdenaaDoor
namespace Go.Proofs.YtjjnhmbgffdenaaDoor
open Go.RowKit Go.Shelf
attribute [local go_sem] Oper.semAt_some

def names (xs : List El) : List Nm := xs.flatMap fun x => x.c.l
theorem names_snoc (xs : List El) (x : El) : names (xs ++ [x]) = names xs ++ x.c.l := by simp [names]
/-- What a round may know here: that the names are valid, too. -/
def ElN (n : Nat) (w : World) (x : El) : Prop := ElOk n w x ∧ ∀ p ∈ x.c.l, Named p
theorem names_named {n : Nat} {w : World} (xs : List (Ap (ElN n w))) : ∀ p ∈ names (xs.map fun x => x.1), Named p := by
  intro p hp
  simp only [names, List.mem_flatMap, List.mem_map] at hp
  obtain ⟨x, ⟨y, _, rfl⟩, hx⟩ := hp
  exact y.2.2 p hx
theorem names_len {n : Nat} {w : World} (xs : List (Ap (ElN n w))) : (names (xs.map fun x => x.1)).length ≤ xs.length * 100 := by
  induction xs with
  | nil => simp [names]
  | cons x xs ih =>
    have h : x.1.c.l.length ≤ 100 := x.2.1.2.2.1
    simp only [names, List.map_cons, List.flatMap_cons, List.length_append, List.length_cons] at ih ⊢
    omega
theorem zeroB (w : World) : (zeroValue 4).run Tryd.prog w = .ok (.bool false) w := by kernel_rfl

set_option maxRecDepth 100000 in
set_option maxHeartbeats 2000000 in
theorem twice_any (d : Bds) (B : Nat) (w : World) (hB : B ≤ w.heap.size) (hd : d.ok B w) (hnm : ∀ x ∈ d.els, ∀ p ∈ x.c.l, Named p) :
    Calls Tryd.prog 50 #[d.v] w fun e w' => e = .returned (.bool (decide (¬ (names d.els).Nodup))) ∧ Below w.heap.size w w' := by
  have HD := Lib.hid (hd.mono hB)
  have HNM := Lib.hid hnm
  clear hd hnm
  have hmm := @run_makeMap Tryd.prog
  refine (callsIn_wide (n := 10)).1 ?_
  have hro : Fence.wide.round = none := rfl
  refine callsIn_of_wp_marks Tryd.func50 rfl trivial ?_ hro
  simp only [Tryd.ntmps50, List.size_toArray, List.length_cons, List.length_nil, Nat.reduceAdd, Nat.reduceSub, Array.replicate_succ, Array.replicate_zero, List.push_toArray, List.append_toArray, List.nil_append, List.cons_append]
  obtain ⟨⟨fa, fs, fc⟩, ⟨ba, bs, bc⟩⟩ := d
  simp only [Bds.v, Bed.v]
  gi_wp2_with (refine ⟨trivial, ?_⟩; gi_at_call 47; refine (each_in Fence.wide 9 trivial hro _ _ _ _ _ _ _).mono ?_; rintro e w' ⟨rfl, rfl⟩)
  obtain ⟨O, hO⟩ : ∃ O : Obj, Obj.cells #[.slice fa fs.length fc, .slice ba bs.length bc] 26 = O := ⟨_, rfl⟩
  obtain ⟨W0, hW0⟩ : ∃ W0, ((((w.alloc (.cells #[.slice fa fs.length fc, .slice ba bs.length bc] 26)).alloc (.cells #[.bool false] 4)).alloc (.map #[] 0)).alloc (.cells #[.map (some (w.heap.size + 1 + 1))] 113)).alloc (.cells #[.slice fa fs.length fc, .slice ba bs.length bc] 26) = W0 := ⟨_, rfl⟩
  have hsz : w.heap.size + 5 ≤ W0.heap.size := by rw [← hW0]; simp
  have bR : Boxed W0 (w.heap.size + 1) 4 (.bool false) := by
    rw [← hW0]; have := (((Boxed.new (w.alloc O) 4 (.bool false)).alloc (.map #[] 0)).alloc (.cells #[.map (some (w.heap.size + 1 + 1))] 113)).alloc O
    rw [World.size_alloc, ← hO] at this; exact this
  have bM : Boxed W0 (w.heap.size + 3) 113 (.map (some (w.heap.size + 1 + 1))) := by
    rw [← hW0]; have := (Boxed.new (((w.alloc O).alloc (.cells #[.bool false] 4)).alloc (.map #[] 0)) 113 (.map (some (w.heap.size + 1 + 1)))).alloc O
    rw [World.size_alloc, World.size_alloc, World.size_alloc, ← hO] at this; exact this
  have oM : W0.ownsMap Tryd.prog 35 (plainElem (H := Unit) Tryd.prog 4) (w.heap.size + 1 + 1) 0 (.map []) := by
    rw [← hW0]; have := ((World.ownsMap_made ((w.alloc O).alloc (.cells #[.bool false] 4)) Tryd.prog 35 (plainElem (H := Unit) Tryd.prog 4)).alloc (.cells #[.map (some (w.heap.size + 1 + 1))] 113)).alloc O
    rw [World.size_alloc, World.size_alloc, ← hO] at this; exact this
  have bN : Boxed2 W0 (w.heap.size + 1 + 1 + 1 + 1) 26 (.slice fa fs.length fc) (.slice ba bs.length bc) := by
    rw [← hW0]; have := Boxed2.new ((((w.alloc O).alloc (.cells #[.bool false] 4)).alloc (.map #[] 0)).alloc (.cells #[.map (some (w.heap.size + 1 + 1))] 113)) 26 (.slice fa fs.length fc) (.slice ba bs.length bc)
    rw [World.size_alloc, World.size_alloc, World.size_alloc, World.size_alloc, ← hO] at this; exact this
  have hB0 : Below w.heap.size w W0 := by
    rw [← hW0]; exact ((below3 w _ _ _).alloc (by simp; omega) _).alloc (by simp; omega) _
  rw [hW0]
  clear hW0 hO hmm
  have h34 : Fence.wide.fn 65 := trivial
  have HD0 := Lib.hid (HD.out.below hB0)
  obtain ⟨d, hdd⟩ : ∃ d : Bds, d = ⟨⟨fa, fs, fc⟩, ⟨ba, bs, bc⟩⟩ := ⟨_, rfl⟩
  rw [← hdd] at HD HD0 HNM
  have HDD := Lib.hid hdd
  clear hdd
  have hlen : d.els.length ≤ 200 := HD0.out.els_len
  have HP : Hid (∀ x ∈ d.els, ElN w.heap.size w x) := Lib.hid fun x hx => ⟨HD.out.els hx, HNM.out x hx⟩
  have h0 : ElN w.heap.size w El.zero := ⟨El.zero_ok _ _, fun p hp => by simp [El.zero, Cel.nil] at hp⟩
  refine wpIn_rangeFunc_ownG (α := Ap (ElN w.heap.size w)) hro (by decide) (gf := 65) (lb := #[.pointer (some ⟨w.heap.size + 1 + 1 + 1 + 1, 0, none⟩)]) rfl h34 (enters_of Tryd.func65 (by kernel_rfl) rfl)
    (each_stops Fence.wide 9 h34 hro (by decide) (w.heap.size + 1 + 1 + 1 + 1) w.heap.size d W0 (by omega) (by omega) (fun x => x.1) (Ap.mk h0) (fun x hx => Ap.mk_val h0 (HP.out x hx)) (by rw [HDD.out]; exact bN.cell0) (by rw [HDD.out]; exact bN.cell1) HD0.out)
    belowK_t (belowK_b (by omega)) (Below.refl _ _) (fun _ => rfl)
    (fun (pre : List (Ap (ElN w.heap.size w))) W => ((Boxed W (w.heap.size + 3) 113 (.map (some (w.heap.size + 1 + 1))) ∧ Boxed W (w.heap.size + 1) 4 (.bool false)) ∧ W.ownsMap Tryd.prog 35 (plainElem (H := Unit) Tryd.prog 4) (w.heap.size + 1 + 1) (names (pre.map fun x => x.1)).length (seenD (names (pre.map fun x => x.1))) ∧ Hid (names (pre.map fun x => x.1)).Nodup) ∧ Below w.heap.size w W)
    (fun c (pre : List (Ap (ElN w.heap.size w))) W => (Boxed W (w.heap.size + 1) 4 (.bool true) ∧ c = .ret ∧ Hid (¬ (names (pre.map fun x => x.1)).Nodup)) ∧ Below w.heap.size w W)
    (OwnFrom.and (OwnFrom.and (OwnFrom.and (Own.from (boxed_own _ _ _) _) (Own.from (boxed_own _ _ _) _)) (fun s A B row hs hg hr => ⟨hs.1.kept hg (fun e => by have := (hr _ e.symm).1; omega), hs.2⟩)) (ownFrom_below (Nat.le_refl _) (by omega)))
    (fun c => OwnFrom.and (OwnFrom.and (Own.from (boxed_own _ _ _) _) (ownFrom_const _ _)) (ownFrom_below (Nat.le_refl _) (by omega)))
    ⟨⟨⟨bM, bR⟩, oM, Lib.hid (by simp [names])⟩, hB0⟩
    (fun x => { tmps := #[.agg #[.slice fa fs.length fc, .slice ba bs.length bc], .pointer (some ⟨w.heap.size, 0, none⟩), .pointer (some ⟨w.heap.size + 1, 0, none⟩), .pointer (some ⟨w.heap.size + 1 + 1 + 1, 0, none⟩), undef, x.1.c.v, undef, undef, .map (some (w.heap.size + 1 + 1)), .agg #[.slice fa fs.length fc, .slice ba bs.length bc], .func (.func 65) #[] #[.pointer (some ⟨w.heap.size + 1 + 1 + 1 + 1, 0, none⟩)], x.1.nv, x.1.c.v, undef, undef, undef, undef, undef, undef, undef, undef, undef, undef, undef, undef], defers := [] })
    ?assign ?body ?done ?stop
  case assign =>
    rintro l ⟨⟨k, i, ⟨ca, cl, cc⟩⟩, hx⟩ W K hK
    simp only [El.vs, El.nv, Cel.v] at hK ⊢
    gi_wp2
    exact hK
  case body =>
    rintro l pre ⟨⟨k, i, ⟨ca, cl, cc⟩⟩, hx⟩ W ⟨⟨⟨bM1, bR1⟩, oM1, hnd⟩, hB1⟩ hlt
    have hle := names_len pre
    have HNN := Lib.hid (names_named pre)
    have HX := Lib.hid hx
    obtain ⟨ns, hns⟩ : ∃ ns, ns = names (pre.map fun x => x.1) := ⟨_, rfl⟩
    rw [← hns] at hle HNN oM1 hnd
    have HNS := Lib.hid hns
    clear hns
    have hcl : cl.length ≤ 100 := HX.out.1.2.2.1
    have hle2 : ns.length ≤ 20000 := by omega
    simp only [Cel.v]
    gi_wp2
    obtain ⟨wo, rfl⟩ : ∃ wo : World, wo = W := ⟨_, rfl⟩
    gi_loopw [15] (fun j wr => ∃ i : Nat, i ≤ cl.length ∧ j = .int .i64 i ∧ ((Boxed wr (w.heap.size + 3) 113 (.map (some (w.heap.size + 1 + 1))) ∧ Boxed wr (w.heap.size + 1) 4 (.bool false)) ∧ wr.ownsMap Tryd.prog 35 (plainElem (H := Unit) Tryd.prog 4) (w.heap.size + 1 + 1) (ns.length + i) (seenD (ns ++ cl.take i)) ∧ Hid (ns ++ cl.take i).Nodup) ∧ Below w.heap.size wo wr ∧ KeepsFrom W0.heap.size wo wr) (fun j _ => cl.length - (intOf j).toNat)
    case atStart => exact ⟨0, by omega, rfl, ⟨⟨bM1, bR1⟩, by simpa using oM1, by simpa using hnd⟩, Below.refl _ _, KeepsFrom.refl _ _⟩
    case round =>
      obtain ⟨j, hj, rfl, ⟨⟨bM2, bR2⟩, oM2, hnd2⟩, hB2, hKF⟩ := hrel
      by_cases hjl : j < cl.length
      · obtain ⟨b, o, he, hbb, hf⟩ := (HX.out.1.2.2.below (hB1.trans hB2)).at (i := j) hjl
        obtain rfl : ca = some ⟨b, o, none⟩ := he
        obtain ⟨q, hq⟩ : ∃ q, q = cl[j] := ⟨_, rfl⟩
        simp only at hf
        rw [← hq] at hf
        have hqn : Named q := by rw [hq]; exact HX.out.2 _ (List.getElem_mem hjl)
        have HQ := Lib.hid hq
        have HQN := Lib.hid hqn
        clear hq hqn
        obtain ⟨y, n⟩ := q
        obtain ⟨c0, c1⟩ := hf
        simp only at c0 c1
        have cM := bM2.cell
        have lM := bM2.lt
        have cR := bR2.cell
        have fR := bR2.frozen
        have lR := bR2.lt
        have HNT : Hid (∀ q ∈ ns ++ cl.take j, Named q) := Lib.hid fun q hq => (List.mem_append.1 hq).elim (HNN.out q) (fun h => HX.out.2 q (List.mem_of_mem_take h))
        have HL := Lib.hid (seenD_at (H := Unit) HQN.out HNT.out)
        have hkey := kl_of HQN.out
        have hzB := zeroB
        have oM3 := oM2.alloc (.cells #[.int .u8 y, .int .i64 n] 35)
        gi_wp2_with (first
          | (gi_at_lookup; refine wpListIn_lookup_own_bool _ rfl _ _ 113 rfl 35 4 law28 Tryd.underlying113 Tryd.underlying4 (zeroB _) (w.heap.size + 1 + 1) (ns.length + j) _ rfl oM3 _ _ rfl hkey ?_; intro c hat)
          | (gi_at_mapUpdate; refine wpListIn_mapUpdate_own _ rfl _ _ _ 113 rfl 35 4 law28 Tryd.underlying113 _ (w.heap.size + 1 + 1) (ns.length + j) _ rfl oM3 (by unfold maxLen; omega) _ _ _ rfl rfl hkey _ [] (plainElem_bool Tryd.underlying4 true) ?_; intro w1 hown1 hgrow1))
        · have hct : c = true := by assumption
          have hin : decide ((⟨y, n⟩ : Nm) ∈ ns ++ cl.take j) = true := by
            have := HL.out.symm.trans hat.out
            simpa [hct] using this
          have e : names ((pre.map fun x => x.1) ++ [⟨k, i, ⟨some ⟨b, o, none⟩, cl, cc⟩⟩]) = ns ++ cl := by rw [names_snoc, ← HNS.out]
          have hnn : ¬ (ns ++ cl).Nodup := by
            intro h
            have h1 : ns ++ cl = (ns ++ cl.take j) ++ (⟨y, n⟩ :: cl.drop (j + 1)) := by
              rw [List.append_assoc, HQ.out, ← List.drop_eq_getElem_cons hjl, List.take_append_drop]
            rw [h1, List.nodup_append] at h
            exact h.2.2 _ (of_decide_eq_true hin) _ (List.mem_cons_self ..) rfl
          refine ⟨(hKF.trans ((KeepsOthers.setCell _ _ _).from _)).trans ((KeepsOthers.alloc _ _).from _), ⟨(bR2.set _).alloc _, rfl, Lib.hid ?_⟩, ((hB1.trans hB2).setCell (p := ⟨w.heap.size + 1, 0, none⟩) (by simp) _).alloc (by have := hB1.size; have := hB2.size; simp; omega) _⟩
          rw [List.map_append]
          show ¬ (names ((pre.map fun x => x.1) ++ [⟨k, i, ⟨some ⟨b, o, none⟩, cl, cc⟩⟩])).Nodup
          rw [e]; exact hnn
        · have hct : c = false := by assumption
          have hin : decide ((⟨y, n⟩ : Nm) ∈ ns ++ cl.take j) = false := by
            have := HL.out.symm.trans hat.out
            simpa [hct] using this
          have ets : cl.take (j + 1) = cl.take j ++ [⟨y, n⟩] := by rw [List.take_succ_eq_append_getElem hjl, ← HQ.out]
          go_roundw
          case rel =>
            have hnd3 : (ns ++ cl.take (j + 1)).Nodup := by
              rw [ets, ← List.append_assoc, List.nodup_append]
              exact ⟨hnd2.out, by simp, fun a ha b hb e => by
                rw [List.mem_singleton] at hb
                rw [e, hb] at ha
                rw [decide_eq_true ha] at hin
                cases hin⟩
            refine ⟨j + 1, by omega, by simp, ⟨⟨(bM2.alloc _).kept hgrow1 (by simp), (bR2.alloc _).kept hgrow1 (by simp)⟩, ?_, Lib.hid hnd3⟩, (hB2.alloc (Nat.le_trans hB1.size hB2.size) _).grown hgrow1 (by simp; have := hB1.size; have := hB2.size; omega) (fun k e => by cases e; omega), (hKF.trans ((KeepsOthers.alloc _ _).from _)).trans (KeepsFrom.of_grownBy hgrow1 (fun k e => by cases e; omega))⟩
            rw [ets, ← List.append_assoc, seenD_snoc, ← Nat.add_assoc]
            exact hown1
          case measure => simp [intOf]; omega
      · obtain rfl : j = cl.length := by omega
        gi_wp2
        rw [List.take_length] at oM2 hnd2
        have e : names ((pre.map fun x => x.1) ++ [⟨k, i, ⟨ca, cl, cc⟩⟩]) = ns ++ cl := by rw [names_snoc, ← HNS.out]
        refine ⟨hKF, hB2, ⟨⟨bM2, bR2⟩, ?_⟩, hB1.trans hB2⟩
        rw [List.map_append]
        show World.ownsMap _ _ _ _ _ (names ((pre.map fun x => x.1) ++ [⟨k, i, ⟨ca, cl, cc⟩⟩])).length (seenD (names ((pre.map fun x => x.1) ++ [⟨k, i, ⟨ca, cl, cc⟩⟩]))) ∧ Hid (names ((pre.map fun x => x.1) ++ [⟨k, i, ⟨ca, cl, cc⟩⟩])).Nodup
        rw [e, List.length_append]
        exact ⟨oM2, hnd2⟩
  case done =>
    rintro D ys W hD rfl ⟨⟨⟨bM1, bR1⟩, oM1, hnd⟩, hB1⟩ hK
    rw [Ap.map_val h0 HP.out] at hnd
    have cR := bR1.cell
    have fR := bR1.frozen
    gi_wp2
    have hK' := (KeepsOthers.setCell W ⟨w.heap.size + 1, 0, none⟩ (.bool false)).same D _ hK rfl
    refine ⟨by simp, .inl ⟨_, _, rfl, run_takeDeferred hK', ?_⟩⟩
    have hc5 := cell_kept (World.cell?_setCell_same' W ⟨w.heap.size + 1, 0, none⟩ (.bool false) (by rw [cR]; rfl)) (grownBy_putObj' _ D (.deferred none)) (fun r e => by cases e; exact ⟨_, hK', rfl⟩)
    refine ⟨.bool false, ?_, ?_, (hB1.setCell (p := ⟨w.heap.size + 1, 0, none⟩) (by simp) _).trans (belowK_b (w := w) (Nat.le_refl _) _ D _ _ (by omega) hK' rfl rfl)⟩
    · simp [results, Tryd.f50, go_sem, hc5]
    · rw [← HDD.out]
      exact ret_bool (by simp [hnd.out])
  case stop =>
    rintro D c pre W hD hpre ⟨⟨bR1, rfl, hnd⟩, hB1⟩ hK
    have cR := bR1.cell
    have fR := bR1.frozen
    gi_wp2
    refine ⟨by simp, .inl ⟨_, _, rfl, run_takeDeferred hK, ?_⟩⟩
    have hc5 := cell_kept cR (grownBy_putObj' _ D (.deferred none)) (fun r e => by cases e; exact ⟨_, hK, rfl⟩)
    refine ⟨.bool true, ?_, ?_, hB1.trans (belowK_b (w := w) (Nat.le_refl _) W D _ _ (by omega) hK rfl rfl)⟩
    · simp [results, Tryd.f50, go_sem, hc5]
    · rw [← HDD.out]
      refine ret_bool (decide_eq_true ?_).symm
      intro h
      refine hnd.out ?_
      obtain ⟨r, hr⟩ := Ap.prefix_val h0 HP.out hpre
      have : names d.els = names (pre.map fun x => x.1) ++ names r := by rw [← hr]; simp [names]
      rw [this, List.nodup_append] at h
      exact h.1
end Go.Proofs.YtjjnhmbgffdenaaDoor
namespace Go.Proofs.YtjjnhmbgffdenaaDoor
open Go.RowKit Go.Shelf
attribute [local go_sem] Oper.semAt_some

/-- Beds that are valid. -/
structure Bds.good (d : Bds) : Prop where
  f : d.f.cs.length ≤ 40
  b : d.b.cs.length ≤ 40
  st : ∀ x ∈ d.els, x.c.l.length ≤ 4 ∧ ∀ p ∈ x.c.l, Named p
  once : (names d.els).Nodup
theorem Bds.good.at {d : Bds} (h : d.good) {x : El} (hx : x ∈ d.els) : x.k ≤ 1 ∧ x.i < 40 := by
  unfold Bds.els at hx
  rcases List.mem_append.1 hx with hx | hx
  · simp only [Bed.els, List.mem_mapIdx] at hx
    obtain ⟨i, hi, rfl⟩ := hx
    exact ⟨by simp, by have := h.f; simp only; omega⟩
  · simp only [Bed.els, List.mem_mapIdx] at hx
    obtain ⟨i, hi, rfl⟩ := hx
    exact ⟨by simp, by have := h.b; simp only; omega⟩
def ElG (n : Nat) (w : World) (x : El) : Prop := ElOk n w x ∧ x.i < 40 ∧ x.c.l.length ≤ 4 ∧ ∀ p ∈ x.c.l, Named p
theorem allNamed_mk {l : List Nm} (h : ∀ p ∈ l, Named p) : allNamed l = true := List.all_eq_true.2 fun p hp => decide_eq_true (h p hp)

set_option maxRecDepth 100000 in
set_option maxHeartbeats 2000000 in
theorem check_ok (d : Bds) (B : Nat) (w : World) (hB : B ≤ w.heap.size) (hd : d.ok B w) (hg : d.good) :
    Calls Tryd.prog 19 #[d.v] w fun e w' => e = .returned (.int .i64 0) ∧ Below w.heap.size w w' := by
  have HD := Lib.hid (hd.mono hB)
  have HG := Lib.hid hg
  clear hd hg
  refine (callsIn_wide (n := 10)).1 ?_
  have hro : Fence.wide.round = none := rfl
  have h34 : Fence.wide.fn 65 := trivial
  refine callsIn_of_wp_marks Tryd.func19 rfl trivial ?_ hro
  simp only [Tryd.ntmps19, List.size_toArray, List.length_cons, List.length_nil, Nat.reduceAdd, Nat.reduceSub, Array.replicate_succ, Array.replicate_zero, List.push_toArray, List.append_toArray, List.nil_append, List.cons_append]
  obtain ⟨⟨fa, fs, fc⟩, ⟨ba, bs, bc⟩⟩ := d
  simp only [Bds.v, Bed.v]
  gi_wp2_with (refine ⟨trivial, ?_⟩; gi_at_call 47; refine (each_in Fence.wide 9 trivial hro _ _ _ _ _ _ _).mono ?_; rintro e w' ⟨rfl, rfl⟩)
  obtain ⟨W0, hW0⟩ : ∃ W0, (((w.alloc (.cells #[.slice fa fs.length fc, .slice ba bs.length bc] 26)).alloc (.cells #[.int .i64 0] 29)).alloc (.cells #[.slice fa fs.length fc, .slice ba bs.length bc] 26)) = W0 := ⟨_, rfl⟩
  have hsz : w.heap.size + 3 ≤ W0.heap.size := by rw [← hW0]; simp
  have bB : Boxed2 W0 (w.heap.size) 26 (.slice fa fs.length fc) (.slice ba bs.length bc) := by
    rw [← hW0]; have := (((Boxed2.new w 26 (.slice fa fs.length fc) (.slice ba bs.length bc)).alloc (.cells #[.int .i64 0] 29)).alloc (.cells #[.slice fa fs.length fc, .slice ba bs.length bc] 26))
    exact this
  have bR : Boxed W0 (w.heap.size + 1) 29 (.int .i64 0) := by
    rw [← hW0]; have := ((Boxed.new (w.alloc (.cells #[.slice fa fs.length fc, .slice ba bs.length bc] 26)) 29 (.int .i64 0)).alloc (.cells #[.slice fa fs.length fc, .slice ba bs.length bc] 26))
    simp only [World.size_alloc] at this; exact this
  have bN : Boxed2 W0 (w.heap.size + 1 + 1) 26 (.slice fa fs.length fc) (.slice ba bs.length bc) := by
    rw [← hW0]; have := (Boxed2.new ((w.alloc (.cells #[.slice fa fs.length fc, .slice ba bs.length bc] 26)).alloc (.cells #[.int .i64 0] 29)) 26 (.slice fa fs.length fc) (.slice ba bs.length bc))
    simp only [World.size_alloc] at this; exact this
  have hB0 : Below w.heap.size w W0 := by
    rw [← hW0]; exact (((Below.refl _ _).alloc (by simp; try omega) _).alloc (by simp; try omega) _).alloc (by simp; try omega) _
  rw [hW0]
  clear hW0
  have HD0 := Lib.hid (HD.out.below hB0)
  obtain ⟨d, hdd⟩ : ∃ d : Bds, d = ⟨⟨fa, fs, fc⟩, ⟨ba, bs, bc⟩⟩ := ⟨_, rfl⟩
  rw [← hdd] at HD HD0 HG
  have HDD := Lib.hid hdd
  clear hdd
  have hlen : d.els.length ≤ 200 := HD0.out.els_len
  have HP : Hid (∀ x ∈ d.els, ElG w.heap.size w x) := Lib.hid fun x hx => ⟨HD.out.els hx, (HG.out.at hx).2, HG.out.st x hx⟩
  have h0 : ElG w.heap.size w El.zero := ⟨El.zero_ok _ _, by simp [El.zero], by simp [El.zero, Cel.nil], fun p hp => by simp [El.zero, Cel.nil] at hp⟩
  refine wpIn_rangeFunc_ownH (α := Ap (ElG w.heap.size w)) hro (by decide) (gf := 65) (lb := #[.pointer (some ⟨w.heap.size + 1 + 1, 0, none⟩)]) rfl h34 (enters_of Tryd.func65 (by kernel_rfl) rfl)
    (each_stops Fence.wide 9 h34 hro (by decide) (w.heap.size + 1 + 1) w.heap.size d W0 (by omega) (by omega) (fun x => x.1) (Ap.mk h0) (fun x hx => Ap.mk_val h0 (HP.out x hx)) (by rw [HDD.out]; exact bN.cell0) (by rw [HDD.out]; exact bN.cell1) HD0.out)
    belowK_t (belowK_b (by omega)) (Below.refl _ _) (fun _ => rfl)
    (fun (pre : List (Ap (ElG w.heap.size w))) W => (Boxed2 W w.heap.size 26 (.slice fa fs.length fc) (.slice ba bs.length bc) ∧ Boxed W (w.heap.size + 1) 29 (.int .i64 0)) ∧ Below w.heap.size w W)
    (fun c (pre : List (Ap (ElG w.heap.size w))) W => False)
    (OwnFrom.and (OwnFrom.and (Own.from (boxed2_own _ _ _ _) _) (Own.from (boxed_own _ _ _) _)) (ownFrom_below (Nat.le_refl _) (by omega)))
    (fun _ => ownFrom_const _ _)
    ⟨⟨bB, bR⟩, hB0⟩
    (fun x a' W => ∃ Bx, w.heap.size + 1 + 1 ≤ Bx ∧ Boxed2 W Bx 38 (.int .u8 x.1.k) (.int .i64 ((x.1.i : Int) + 1)) ∧ a' = { tmps := #[.agg #[.slice fa fs.length fc, .slice ba bs.length bc], .pointer (some ⟨w.heap.size, 0, none⟩), .pointer (some ⟨w.heap.size + 1, 0, none⟩), .pointer (some ⟨Bx, 0, none⟩), x.1.c.v, undef, undef, .agg #[.slice fa fs.length fc, .slice ba bs.length bc], .func (.func 65) #[] #[.pointer (some ⟨w.heap.size + 1 + 1, 0, none⟩)], x.1.nv, x.1.c.v, undef, undef, undef, undef, undef, undef, undef, undef, undef, undef, undef, undef, undef, undef, undef, undef, undef], defers := [] })
    (fun x a' _ X Y row hs hg hr => by obtain ⟨Bx, h1, h2, h3⟩ := hs; exact ⟨Bx, h1, boxed2_own Bx 38 (fun (_ : Unit) => Value.int .u8 x.1.k) (fun _ => .int .i64 ((x.1.i : Int) + 1)) () X Y row h2 hg (fun r e => (hr r e).2), h3⟩)
    ?assign ?body ?done ?stop
  case assign =>
    rintro l pre ⟨⟨k, i, ⟨ca, cl, cc⟩⟩, hx⟩ W K ⟨⟨bP1, bR1⟩, hB1⟩ hK
    simp only [El.vs, El.nv, Cel.v] at hK ⊢
    gi_wp2
    exact hK _ _ ((KeepsOthers.alloc _ _).from _) ((Below.refl _ W).alloc hB1.size _) ⟨⟨bP1.alloc _, bR1.alloc _⟩, hB1.alloc hB1.size _⟩ ⟨W.heap.size, bR1.lt, Boxed2.new W 38 _ _, rfl⟩
  case body =>
    rintro l pre ⟨⟨k, i, ⟨ca, cl, cc⟩⟩, hx⟩ a' W hl ⟨r, hr⟩ ⟨⟨bP1, bR1⟩, hB1⟩ ⟨Bx, hBx, bX, rfl⟩ hlt
    simp only at bX
    have c0 := bX.cell0
    have c1 := bX.cell1
    have hk1 : k ≤ 1 := hx.1.1
    have hi1 : i < 40 := hx.2.1
    have hcl : cl.length ≤ 4 := hx.2.2.1
    have hgt : decide ((4 : Int) < (cl.length : Int)) = false := by simp; omega
    have hq : isN k ((i : Int) + 1) = true := isN_mk (by omega)
    have HQ := Lib.hid hq
    clear hq
    simp only [El.nv, Cel.v]
    gi_wp2_with (first
        | (refine ⟨trivial, ?_⟩; gi_at_call 48; refine (CallsIn.inRound l (callsIn_wide.2 (isNeedle_any _ _ _ _ HQ.out))).mono ?_; rintro e w1 ⟨rfl, hb1⟩; obtain ⟨hc1, hf1⟩ := bcell hb1; have hz1 := hb1.size))
    have hw1 : Below w.heap.size W w1 := hb1.mono hB1.size
    exact ⟨keepsFrom_below hb1 (Nat.le_refl _), hw1, ⟨bP1.below hb1 bP1.lt, boxed_below bR1 hb1 bR1.lt⟩, hB1.trans hw1⟩
  case stop =>
    rintro D c pre W _ _ h _
    exact h.elim
  case done =>
    rintro D1 ys W1 hD1 - ⟨⟨bP1, bR1⟩, hB1⟩ hK1
    have p0 := bP1.cell0
    have p1 := bP1.cell1
    gi_wp2_with (refine ⟨trivial, ?_⟩; gi_at_call 47; refine (each_in Fence.wide 9 trivial hro _ _ _ _ _ _ _).mono ?_; rintro e w' ⟨rfl, rfl⟩)
    clear bN bB bR HD0
    have hsz2 : w.heap.size + 3 ≤ W1.heap.size := by have := (Array.getElem?_eq_some_iff.1 hK1).1; omega
    have lD : D1 < W1.heap.size := (Array.getElem?_eq_some_iff.1 hK1).1
    have bN := Boxed2.new W1 26 (.slice fa fs.length fc) (.slice ba bs.length bc)
    have bP2 := bP1.alloc (.cells #[.slice fa fs.length fc, .slice ba bs.length bc] 26)
    have bR2 := bR1.alloc (.cells #[.slice fa fs.length fc, .slice ba bs.length bc] 26)
    have hK2 : (W1.alloc (.cells #[.slice fa fs.length fc, .slice ba bs.length bc] 26)).heap[D1]? = some (.deferred (some [])) := (Below.heap_alloc _ _ _ lD).trans hK1
    have hB2 := hB1.alloc hB1.size (.cells #[.slice fa fs.length fc, .slice ba bs.length bc] 26)
    have hsz3 : W1.heap.size + 1 ≤ (W1.alloc (.cells #[.slice fa fs.length fc, .slice ba bs.length bc] 26)).heap.size := by simp
    obtain ⟨Wz, hWz⟩ : ∃ Wz, W1.heap.size = Wz := ⟨_, rfl⟩
    obtain ⟨W2, hW2⟩ : ∃ W2, W1.alloc (.cells #[.slice fa fs.length fc, .slice ba bs.length bc] 26) = W2 := ⟨_, rfl⟩
    rw [hW2] at bN bP2 bR2 hK2 hB2 hsz3 ⊢
    rw [hWz] at bN hsz3 hsz2 lD ⊢
    clear hW2 p0 p1 bP1 bR1 hK1 hWz hB1
    have HD0 := Lib.hid (HD.out.below hB2)
    refine wpIn_rangeFunc_ownG (α := Ap (ElG w.heap.size w)) hro (by decide) (gf := 65) (lb := #[.pointer (some ⟨Wz, 0, none⟩)]) rfl h34 (enters_of Tryd.func65 (by kernel_rfl) rfl)
      (each_stops Fence.wide 9 h34 hro (by decide) (Wz) w.heap.size d W2 (by omega) (by omega) (fun x => x.1) (Ap.mk h0) (fun x hx => Ap.mk_val h0 (HP.out x hx)) (by rw [HDD.out]; exact bN.cell0) (by rw [HDD.out]; exact bN.cell1) HD0.out)
      belowK_t (belowK_b (by omega)) (Below.refl _ _) (fun _ => rfl)
      (fun (pre : List (Ap (ElG w.heap.size w))) W => ((Boxed2 W w.heap.size 26 (.slice fa fs.length fc) (.slice ba bs.length bc) ∧ Boxed W (w.heap.size + 1) 29 (.int .i64 0)) ∧ Hid (W.heap[D1]? = some (.deferred (some [])))) ∧ Below w.heap.size w W)
      (fun c (pre : List (Ap (ElG w.heap.size w))) W => False)
      (OwnFrom.and (OwnFrom.and (OwnFrom.and (Own.from (boxed2_own _ _ _ _) _) (Own.from (boxed_own _ _ _) _)) (fun s A B row hs hg hr => Lib.hid ((hg.block D1 (Array.getElem?_eq_some_iff.1 hs.out).1 (fun e => by have := (hr _ e.symm).1; omega)).trans hs.out))) (ownFrom_below (Nat.le_refl _) (by omega)))
      (fun _ => ownFrom_const _ _)
      ⟨⟨⟨bP2, bR2⟩, Lib.hid hK2⟩, hB2⟩
      (fun x => { tmps := #[.agg #[.slice fa fs.length fc, .slice ba bs.length bc], .pointer (some ⟨w.heap.size, 0, none⟩), .pointer (some ⟨w.heap.size + 1, 0, none⟩), undef, undef, undef, x.1.c.v, .agg #[.slice fa fs.length fc, .slice ba bs.length bc], .func (.func 65) #[] #[.pointer (some ⟨w.heap.size + 1 + 1, 0, none⟩)], undef, undef, undef, undef, undef, undef, undef, undef, undef, undef, .agg #[.slice fa fs.length fc, .slice ba bs.length bc], .func (.func 65) #[] #[.pointer (some ⟨Wz, 0, none⟩)], x.1.nv, x.1.c.v, undef, undef, undef, undef, undef], defers := [] })
      ?assign2 ?body2 ?done2 ?stop2
    case assign2 =>
      rintro l ⟨⟨k, i, ⟨ca, cl, cc⟩⟩, hx⟩ W K hK
      simp only [El.vs, El.nv, Cel.v] at hK ⊢
      gi_wp2
      exact hK
    case stop2 =>
      rintro D c pre W _ _ h _
      exact h.elim
    case body2 =>
      rintro l pre ⟨⟨k, i, ⟨ca, cl, cc⟩⟩, hx⟩ W ⟨⟨⟨bP1, bR1⟩, hKD⟩, hB1⟩ hlt
      have hok : Cel.ok w.heap.size W ⟨ca, cl, cc⟩ := hx.1.2.2.below hB1
      have HK := Lib.hid hok
      have HA := Lib.hid (allNamed_mk hx.2.2.2)
      clear hok
      simp only [Cel.v]
      gi_wp2_with (first
        | (refine ⟨trivial, ?_⟩; gi_at_call 49; refine (CallsIn.inRound l (callsIn_wide.2 (areNamed_any ⟨ca, cl, cc⟩ w.heap.size W hB1.size HK.out))).mono ?_; rw [HA.out]; rintro e w1 ⟨rfl, hb1⟩; obtain ⟨hc1, hf1⟩ := bcell hb1; have hz1 := hb1.size))
      have hw1 : Below w.heap.size W w1 := hb1.mono hB1.size
      exact ⟨keepsFrom_below hb1 (Nat.le_refl _), hw1, ⟨⟨bP1.below hb1 bP1.lt, boxed_below bR1 hb1 bR1.lt⟩, Lib.hid ((hb1.block D1 (Array.getElem?_eq_some_iff.1 hKD.out).1).trans hKD.out)⟩, hB1.trans hw1⟩
    case done2 =>
      rintro D2 ys2 W hD2 - ⟨⟨⟨bP1, bR1⟩, hKD⟩, hB1⟩ hK
      have p0 := bP1.cell0
      have p1 := bP1.cell1
      have e0 := bR1.cell
      have fE := bR1.frozen
      have lE := bR1.lt
      have HT : Hid (decide (¬ (names (Bds.els ⟨⟨fa, fs, fc⟩, ⟨ba, bs, bc⟩⟩)).Nodup) = false) := Lib.hid (by rw [← HDD.out]; simp [HG.out.once])
      gi_wp2_with (refine ⟨trivial, ?_⟩; gi_at_call 50; refine (callsIn_wide.2 (twice_any ⟨⟨fa, fs, fc⟩, ⟨ba, bs, bc⟩⟩ w.heap.size _ hB1.size (by rw [← HDD.out]; exact HD.out.below hB1) (by rw [← HDD.out]; exact fun x hx => (HG.out.st x hx).2))).mono ?_; rw [HT.out]; rintro e w1 ⟨rfl, hb1⟩; obtain ⟨hc1, hf1⟩ := bcell hb1; have hz1 := hb1.size)
      have hKa := (KeepsOthers.setCell w1 ⟨w.heap.size + 1, 0, none⟩ (.int .i64 0)).same D2 _ ((hb1.block D2 (Array.getElem?_eq_some_iff.1 hK).1).trans hK) rfl
      have hKb := (KeepsOthers.setCell w1 ⟨w.heap.size + 1, 0, none⟩ (.int .i64 0)).same D1 _ ((hb1.block D1 (Array.getElem?_eq_some_iff.1 hKD.out).1).trans hKD.out) rfl
      refine ⟨by simp, .inl ⟨_, _, rfl, run_takeDeferred hKa, ?_⟩⟩
      have lD2 : D1 < D2 := by omega
      have hKc : ((w1.setCell ⟨w.heap.size + 1, 0, none⟩ (.int .i64 0)).putObj D2 (.deferred none)).heap[D1]? = some (.deferred (some [])) := (World.putObj_heap_other (by omega)).trans hKb
      refine ⟨by simp, .inl ⟨_, _, rfl, run_takeDeferred hKc, ?_⟩⟩
      have bE := (boxed_below bR1 hb1 lE).set (.int .i64 0)
      have g1 := cell_kept bE.cell (grownBy_putObj' _ D2 (.deferred none)) (fun r e => by cases e; exact ⟨_, hKa, rfl⟩)
      have g2 := cell_kept g1 (grownBy_putObj' _ D1 (.deferred none)) (fun r e => by cases e; exact ⟨_, hKc, rfl⟩)
      have hw1 : Below w.heap.size W w1 := hb1.mono hB1.size
      have k1 : Below w.heap.size w (w1.setCell ⟨w.heap.size + 1, 0, none⟩ (.int .i64 0)) := (hB1.trans hw1).setCell (p := ⟨w.heap.size + 1, 0, none⟩) (by simp) _
      have k2 := k1.trans (belowK_b (w := w) (Nat.le_refl _) _ D2 _ (.deferred none) (by omega) hKa rfl rfl)
      refine ⟨.int .i64 0, ?_, rfl, k2.trans (belowK_b (w := w) (Nat.le_refl _) _ D1 _ (.deferred none) (by omega) hKc rfl rfl)⟩
      simp [results, Tryd.f19, go_sem, g2]
end Go.Proofs.YtjjnhmbgffdenaaDoor
