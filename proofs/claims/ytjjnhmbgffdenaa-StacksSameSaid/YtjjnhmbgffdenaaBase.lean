import Derived.WalkKit
import Derived.WalkSpells
import Derived.WalkLawsBesides
import Derived.Lib.Hide
import Derived.Lib.QuietBelow
import Derived.BigQuiet
import Derived.Deep.LoopGhost
import Derived.Outline
import Derived.Test.YtjjnhmbgffdenaaProg
namespace Go.Proofs.Ytjjnhmbgffdenaa
open Go.RowKit

theorem bcell {W w1 : World} (hb : Below W.heap.size W w1) : (∀ b o, b < W.heap.size → w1.cell? ⟨b, o, none⟩ = W.cell? ⟨b, o, none⟩) ∧ (∀ b o, b < W.heap.size → w1.frozen? ⟨b, o, none⟩ = W.frozen? ⟨b, o, none⟩) :=
  ⟨fun b o h => hb.cell (p := ⟨b, o, none⟩) h, fun b o h => hb.frozen (p := ⟨b, o, none⟩) h⟩
theorem below_drewN {B : Nat} {a w : World} (h : Below B a w) (n : Nat) : Below B a (w.drewN n) := ⟨h.os, h.tape, h.output, h.size, h.block⟩
theorem below1 (w : World) (o : Obj) : Below w.heap.size w (w.alloc o) := (Below.refl _ _).alloc (Nat.le_refl _) _
theorem below2 (w : World) (o p : Obj) : Below w.heap.size w ((w.alloc o).alloc p) := (below1 w o).alloc (by simp) _
theorem below3 (w : World) (o p q : Obj) : Below w.heap.size w (((w.alloc o).alloc p).alloc q) := (below2 w o p).alloc (by simp; omega) _
theorem ret_bool {a b : Bool} (h : a = b) : Ending.returned (.bool a) = .returned (.bool b) := by rw [h]
theorem ret_int {k : IntKind} {a b : Int} (h : a = b) : Ending.returned (.int k a) = .returned (.int k b) := by rw [h]

/-- A loop's name. -/
structure Nm where
  y : Int
  n : Int
deriving DecidableEq
def Nm.v (p : Nm) : Value := .agg #[.int .u8 p.y, .int .i64 p.n]
/-- A name that is valid. -/
def Named (p : Nm) : Prop := 1 ≤ p.y ∧ p.y ≤ 6 ∧ 0 ≤ p.n ∧ p.n ≤ 2047
instance (p : Nm) : Decidable (Named p) := by unfold Named; infer_instance
/-- A name that a variable can hold. -/
def Nm.wf (p : Nm) : Prop := (0 ≤ p.y ∧ p.y ≤ 255) ∧ (-9223372036854775808 ≤ p.n ∧ p.n ≤ 9223372036854775807)

def Two (w : World) (b o : Nat) (p : Nm) : Prop := w.cell? ⟨b, o, none⟩ = some (.int .u8 p.y) ∧ w.cell? ⟨b, o + 1, none⟩ = some (.int .i64 p.n)
theorem Two.below {w w' : World} {b o : Nat} {p : Nm} (h : Two w b o p) {B : Nat} (hb : Below B w w') (hB : b < B) : Two w' b o p :=
  ⟨(hb.cell (p := ⟨b, o, none⟩) hB).trans h.1, (hb.cell (p := ⟨b, o + 1, none⟩) hB).trans h.2⟩

/-- A stack as it lies in memory. -/
structure Cel where
  ao : Option Addr
  l : List Nm
  cap : Nat
def Cel.v (c : Cel) : Value := .slice c.ao c.l.length c.cap
def Cel.ok (n : Nat) (w : World) (c : Cel) : Prop := c.l.length ≤ 100 ∧ (c.l = [] ∨ ∃ b o, c.ao = some ⟨b, o, none⟩ ∧ b < n ∧ ∀ i p, c.l[i]? = some p → Two w b (o + i * 2) p)
def Cel.nil : Cel := ⟨none, [], 0⟩
theorem Cel.nil_ok (n : Nat) (w : World) : Cel.nil.ok n w := ⟨by simp [Cel.nil], .inl rfl⟩
theorem Cel.ok.below {n : Nat} {w w' : World} {c : Cel} (h : c.ok n w) (hb : Below n w w') : c.ok n w' := by
  obtain ⟨h1, h2⟩ := h
  refine ⟨h1, h2.imp id ?_⟩
  rintro ⟨b, o, e, hl, hc⟩
  exact ⟨b, o, e, hl, fun i p hp => (hc i p hp).below hb hl⟩
theorem Cel.ok.mono {n m : Nat} {w : World} {c : Cel} (h : c.ok n w) (hm : n ≤ m) : c.ok m w := by
  obtain ⟨h1, h2⟩ := h
  refine ⟨h1, h2.imp id ?_⟩
  rintro ⟨b, o, e, hl, hc⟩
  exact ⟨b, o, e, by omega, hc⟩
/-- The name at a place of a stack that is not empty. -/
theorem Cel.ok.at {n : Nat} {w : World} {c : Cel} (h : c.ok n w) {i : Nat} (hi : i < c.l.length) :
    ∃ b o, c.ao = some ⟨b, o, none⟩ ∧ b < n ∧ Two w b (o + i * 2) (c.l[i]'hi) := by
  rcases h.2 with h0 | ⟨b, o, e, hl, hc⟩
  · rw [h0] at hi; simp at hi
  · exact ⟨b, o, e, hl, hc i _ (List.getElem?_eq_getElem hi)⟩

/-- A bed as it lies in memory. -/
structure Bed where
  ao : Option Addr
  cs : List Cel
  cap : Nat
def Bed.v (d : Bed) : Value := .slice d.ao d.cs.length d.cap
def Bed.ok (n : Nat) (w : World) (d : Bed) : Prop := d.cs.length ≤ 100 ∧ (∀ c ∈ d.cs, c.ok n w) ∧ (d.cs = [] ∨ ∃ b o, d.ao = some ⟨b, o, none⟩ ∧ b < n ∧ ∀ i c, d.cs[i]? = some c → w.cell? ⟨b, o + i, none⟩ = some c.v)
theorem Bed.ok.below {n : Nat} {w w' : World} {c : Bed} (h : c.ok n w) (hb : Below n w w') : c.ok n w' := by
  obtain ⟨h1, h0, h2⟩ := h
  refine ⟨h1, fun c hc => (h0 c hc).below hb, h2.imp id ?_⟩
  rintro ⟨b, o, e, hl, hc⟩
  exact ⟨b, o, e, hl, fun i p hp => (hb.cell (p := ⟨b, o + i, none⟩) hl).trans (hc i p hp)⟩
theorem Bed.ok.mono {n m : Nat} {w : World} {c : Bed} (h : c.ok n w) (hm : n ≤ m) : c.ok m w := by
  obtain ⟨h1, h0, h2⟩ := h
  refine ⟨h1, fun c hc => (h0 c hc).mono hm, h2.imp id ?_⟩
  rintro ⟨b, o, e, hl, hc⟩
  exact ⟨b, o, e, by omega, hc⟩
theorem Bed.ok.at {n : Nat} {w : World} {d : Bed} (h : d.ok n w) {i : Nat} (hi : i < d.cs.length) :
    ∃ b o, d.ao = some ⟨b, o, none⟩ ∧ b < n ∧ w.cell? ⟨b, o + i, none⟩ = some (d.cs[i]'hi).v := by
  rcases h.2.2 with h0 | ⟨b, o, e, hl, hc⟩
  · rw [h0] at hi; simp at hi
  · exact ⟨b, o, e, hl, hc i _ (List.getElem?_eq_getElem hi)⟩

/-- Both beds. -/
structure Bds where
  f : Bed
  b : Bed
def Bds.v (d : Bds) : Value := .agg #[d.f.v, d.b.v]
def Bds.ok (n : Nat) (w : World) (d : Bds) : Prop := d.f.ok n w ∧ d.b.ok n w
theorem Bds.ok.below {n : Nat} {w w' : World} {d : Bds} (h : d.ok n w) (hb : Below n w w') : d.ok n w' := ⟨h.1.below hb, h.2.below hb⟩
theorem Bds.ok.mono {n m : Nat} {w : World} {d : Bds} (h : d.ok n w) (hm : n ≤ m) : d.ok m w := ⟨h.1.mono hm, h.2.mono hm⟩
/-- The bed with a number. -/
def Bds.bed (d : Bds) (k : Nat) : Bed := if k = 0 then d.f else d.b
theorem Bds.ok.bed {n : Nat} {w : World} {d : Bds} (h : d.ok n w) (k : Nat) : (d.bed k).ok n w := by
  unfold Bds.bed; split
  · exact h.1
  · exact h.2

/-- A stack with its needle: the bed, and the number less 1. -/
structure El where
  k : Nat
  i : Nat
  c : Cel
def El.nv (x : El) : Value := .agg #[.int .u8 x.k, .int .i64 ((x.i : Int) + 1)]
def El.vs (x : El) : Array Value := #[x.nv, x.c.v]
def Bed.els (d : Bed) (k : Nat) : List El := d.cs.mapIdx fun i c => ⟨k, i, c⟩
def Bds.els (d : Bds) : List El := d.f.els 0 ++ d.b.els 1
/-- What has come before the bed with a number. -/
def Bds.upto (d : Bds) (k : Nat) : List El := if k = 0 then [] else if k = 1 then d.f.els 0 else d.els
theorem Bed.els_length (d : Bed) (k : Nat) : (d.els k).length = d.cs.length := by simp [Bed.els]
theorem Bds.els_length (d : Bds) : d.els.length = d.f.cs.length + d.b.cs.length := by simp [Bds.els, Bed.els_length]
theorem Bds.upto_succ (d : Bds) {k : Nat} (h : k < 2) : d.upto k ++ (d.bed k).els k = d.upto (k + 1) := by
  obtain rfl | rfl : k = 0 ∨ k = 1 := by omega
  · simp [Bds.upto, Bds.bed]
  · simp [Bds.upto, Bds.bed, Bds.els]
theorem Bed.els_take_succ (d : Bed) (k : Nat) {i : Nat} (hi : i < d.cs.length) : (d.els k).take (i + 1) = (d.els k).take i ++ [⟨k, i, d.cs[i]⟩] := by
  rw [List.take_succ_eq_append_getElem (by rw [Bed.els_length]; exact hi)]
  simp [Bed.els]

end Go.Proofs.Ytjjnhmbgffdenaa
