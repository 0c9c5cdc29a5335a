import Derived.Test.YtikdhdikaihenaaRel2
import Derived.Test.YtikdhdikaihenaaLawReduce
import Derived.Deep.Cut
import Derived.Deep.CutRange
import Derived.Deep.CutBlock
namespace Go.Proofs.Ytikdhdikaihenaa
open Go.RowKit Go.Sort


def blockOf (m : Nat) : Code → Option Code
  | .seq a b => match blockOf m a with
    | some c => some c
    | none => blockOf m b
  | .cond _ a b => match blockOf m a with
    | some c => some c
    | none => blockOf m b
  | .loop c => blockOf m c
  | .block i c => if i = m then some (.block i c) else blockOf m c
  | _ => none
def SwRel (KY k : Nat) (wr : World) (inn : Bool) (pl ct : Int) (nw : Bool) (pend : List Ps) (s4 s5 s6 s7 s8 s10 s12 : Value) (wx : World) : Prop := (∃ inn1 pl1 ct1 nw1 pend1 po1 cp1 ev, s4 = .bool inn1 ∧ s5 = .int .i64 pl1 ∧ s6 = .int .i64 ct1 ∧ s7 = .bool nw1 ∧ s8 = .slice po1 (List.length pend1) cp1 ∧ s10 = .int .i64 ev ∧ s12 = .int .i64 ev ∧ Hid (SwOk wx KY wr.heap.size k inn pl ct nw pend inn1 pl1 ct1 nw1 pend1 po1 cp1 ev) ∧ Below wr.heap.size wr wx)
theorem SwRel.of {KY k : Nat} {wr : World} {inn : Bool} {pl ct : Int} {nw : Bool} {pend : List Ps} {s4 s5 s6 s7 s8 s10 s12 : Value} {wx : World} (h : (∃ inn1 pl1 ct1 nw1 pend1 po1 cp1 ev, s4 = .bool inn1 ∧ s5 = .int .i64 pl1 ∧ s6 = .int .i64 ct1 ∧ s7 = .bool nw1 ∧ s8 = .slice po1 (List.length pend1) cp1 ∧ s10 = .int .i64 ev ∧ s12 = .int .i64 ev ∧ Hid (SwOk wx KY wr.heap.size k inn pl ct nw pend inn1 pl1 ct1 nw1 pend1 po1 cp1 ev) ∧ Below wr.heap.size wr wx)) : SwRel KY k wr inn pl ct nw pend s4 s5 s6 s7 s8 s10 s12 wx := h
noncomputable def blk2 : Code := ((Try.f5.body.bind (blockOf 2)).getD .skip)

end Go.Proofs.Ytikdhdikaihenaa
