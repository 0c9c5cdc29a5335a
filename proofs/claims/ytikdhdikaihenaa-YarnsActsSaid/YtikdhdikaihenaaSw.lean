import Derived.Test.YtikdhdikaihenaaRel
namespace Go.Proofs.Ytikdhdikaihenaa
open Go.RowKit Go.Sort

structure StOk (w : World) (KY k : Nat) (inn : Bool) (pl ct : Int) (nw : Bool) (pend : List Ps) (po : Option Addr) (cp : Nat) (bo : Option Addr) : Prop where
  yarn : Five w KY (.bool inn) (.int .i64 pl) (.int .i64 ct) (.bool nw) (.slice bo pend.length pend.length)
  lieY : Lie w bo pend
  neY : ∀ b o, bo = some ⟨b, o, none⟩ → b ≠ KY
  lieP : Lie w po pend
  neP : ∀ b o, po = some ⟨b, o, none⟩ → b ≠ KY
  room : po = none → cp = 0
  vy : VY inn pl ct nw pend
  count : 0 ≤ ct ∧ ct ≤ k
  len : pend.length ≤ 10 * k
theorem new38 (w : World) : Five (w.alloc (.cells #[.bool false, .int .i64 0, .int .i64 0, .bool false, .slice none 0 0] 38)) w.heap.size (.bool false) (.int .i64 0) (.int .i64 0) (.bool false) (.slice none 0 0) := five1' w false 0 0 false (.slice none 0 0)

structure SwOk (w : World) (KY KN k : Nat) (inn : Bool) (pl ct : Int) (nw : Bool) (pend : List Ps) (inn1 : Bool) (pl1 ct1 : Int) (nw1 : Bool) (pend1 : List Ps) (po1 : Option Addr) (cp1 : Nat) (ev : Int) : Prop where
  lieP : Lie w po1 pend1
  neP : ∀ b o, po1 = some ⟨b, o, none⟩ → b ≠ KY
  room : po1 = none → cp1 = 0
  vy : VY inn1 pl1 ct1 nw1 pend1
  count : 0 ≤ ct1 ∧ ct1 ≤ k + 1
  len : pend1.length ≤ 10 * (k + 1)
  next : (ev ≠ 0 ∧ (∃ v, Five w KN (.bool false) (.int .i64 0) (.int .i64 0) (.bool false) v) ∧ inn1 = inn ∧ pl1 = pl ∧ ct1 = ct ∧ nw1 = nw ∧ pend1 = pend) ∨
    (ev = 0 ∧ ∃ bo1, Five w KN (.bool inn1) (.int .i64 pl1) (.int .i64 ct1) (.bool nw1) (.slice bo1 pend1.length pend1.length) ∧ Lie w bo1 pend1 ∧ ∀ b o, bo1 = some ⟨b, o, none⟩ → b ≠ KY)
section
variable {wr wx : World} {KY KN k : Nat} {inn : Bool} {pl ct : Int} {nw : Bool} {pend : List Ps} {po : Option Addr} {cp : Nat} {bo : Option Addr}
theorem vy_count {i : Bool} {p c : Int} {n : Bool} {ps : List Ps} (h : VY i p c n ps) : 0 ≤ c ∧ c ≤ 2048 := h.1
theorem sw_err (HS : StOk wr KY k inn pl ct nw pend po cp bo) (hb : Below wr.heap.size wr wx) {v : Value} (hf : Five wx KN (.bool false) (.int .i64 0) (.int .i64 0) (.bool false) v) {ev : Int} (hev : ev ≠ 0) :
    SwOk wx KY KN k inn pl ct nw pend inn pl ct nw pend po cp ev :=
  ⟨HS.lieP.below hb, HS.neP, HS.room, HS.vy, ⟨HS.count.1, by have := HS.count.2; omega⟩, by have := HS.len; omega, .inl ⟨hev, ⟨v, hf⟩, rfl, rfl, rfl, rfl, rfl⟩⟩
theorem sw_enter (HS : StOk wr KY k inn pl ct nw pend po cp bo) {p1 : Int} (hp : p1 = -13 ∨ p1 = 179) (hf : Five wx KN (.bool true) (.int .i64 p1) (.int .i64 ct) (.bool true) (.slice none 0 0)) :
    SwOk wx KY KN k inn pl ct nw pend true p1 ct true [] none 0 0 := by
  refine ⟨Lie.nil _ _, (by rintro b o ⟨⟩), fun _ => rfl, ⟨vy_count HS.vy, ?_⟩, ⟨HS.count.1, by have := HS.count.2; omega⟩, by simp, .inr ⟨rfl, none, hf, Lie.nil _ _, by rintro b o ⟨⟩⟩⟩
  simp only [if_true]
  refine ⟨?_, by simp, fun _ h => absurd h (by simp), Red.nil⟩
  rcases hp with rfl | rfl
  · exact ⟨by omega, by omega, by decide⟩
  · exact ⟨by omega, by omega, by decide⟩
theorem sw_leave (HS : StOk wr KY k inn pl ct nw pend po cp bo) (hf : Five wx KN (.bool false) (.int .i64 0) (.int .i64 ct) (.bool false) (.slice none 0 0)) :
    SwOk wx KY KN k inn pl ct nw pend false 0 ct false [] none 0 0 := by
  refine ⟨Lie.nil _ _, (by rintro b o ⟨⟩), fun _ => rfl, ⟨vy_count HS.vy, ?_⟩, ⟨HS.count.1, by have := HS.count.2; omega⟩, by simp, .inr ⟨rfl, none, hf, Lie.nil _ _, by rintro b o ⟨⟩⟩⟩
  simp
theorem vy_go' {p c : Int} {nw : Bool} {ps qs : List Ps} (h : VY true p c nw ps) {pl : Int} (hp : PlaceOk pl) (hq : ∀ p ∈ qs, Good p) (hl : (red (ps ++ qs)).length ≤ 4096) : VY true pl c nw (red (ps ++ qs)) := by
  obtain ⟨h1, h2⟩ := h
  simp only [if_true] at h2
  refine ⟨h1, ?_⟩
  simp only [if_true]
  refine ⟨hp, hl, fun p hpp => ?_, red_red _⟩
  rcases List.mem_append.1 (mem_red hpp) with h | h
  · exact h2.2.2.1 p h
  · exact hq p h
theorem sw_go (hk : k ≤ 30) (HS : StOk wr KY k true pl ct nw pend po cp bo) {p1 : Int} (hp : PlaceOk p1) {qs rs : List Ps} (hq : ∀ p ∈ qs, Good p) (hlen : qs.length ≤ 10) (hrs : rs = red (pend ++ qs)) {po1 bo1 : Option Addr}
    (hf : Five wx KN (.bool true) (.int .i64 p1) (.int .i64 ct) (.bool nw) (.slice bo1 rs.length rs.length)) (hl : Lie wx bo1 rs) (hn : ∀ b o, bo1 = some ⟨b, o, none⟩ → b ≠ KY)
    (hlp : Lie wx po1 rs) (hnp : ∀ b o, po1 = some ⟨b, o, none⟩ → b ≠ KY) (hroom : po1 = none → rs.length = 0) :
    SwOk wx KY KN k true pl ct nw pend true p1 ct nw rs po1 rs.length 0 := by
  have h1 : rs.length ≤ 10 * (k + 1) := by
    rw [hrs]
    have := length_red (pend ++ qs)
    have := HS.len
    simp at *
    omega
  refine ⟨hlp, hnp, hroom, ?_, ⟨HS.count.1, by have := HS.count.2; omega⟩, h1, .inr ⟨rfl, bo1, hf, hl, hn⟩⟩
  rw [hrs] at h1 ⊢
  exact vy_go' HS.vy hp hq (by omega)
theorem sw_make (hk : k ≤ 30) (HS : StOk wr KY k true pl ct nw pend po cp bo) (hf : Five wx KN (.bool true) (.int .i64 pl) (.int .i64 (ct + 1)) (.bool false) (.slice none 0 0)) :
    SwOk wx KY KN k true pl ct nw pend true pl (ct + 1) false [] none 0 0 := by
  have hc := HS.count
  have hv := HS.vy.2
  simp only [if_true] at hv
  refine ⟨Lie.nil _ _, (by rintro b o ⟨⟩), fun _ => rfl, ⟨⟨by omega, by omega⟩, ?_⟩, ⟨by omega, by omega⟩, by simp, .inr ⟨rfl, none, hf, Lie.nil _ _, by rintro b o ⟨⟩⟩⟩
  simp only [if_true]
  exact ⟨hv.1, by simp, fun _ h => absurd h (by simp), Red.nil⟩
theorem good_of' (xs : List Int) (h : Bytes xs) : ∀ p ∈ xs.map pOf, Good p := by
  intro p hp
  obtain ⟨x, hx, rfl⟩ := List.mem_map.1 hp
  have := h x hx
  simp [pOf, Good]
  omega
end
end Go.Proofs.Ytikdhdikaihenaa
