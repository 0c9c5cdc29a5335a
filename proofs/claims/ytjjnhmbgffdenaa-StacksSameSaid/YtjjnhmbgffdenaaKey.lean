import Derived.Test.YtjjnhmbgffdenaaBase
import Derived.Maps.OwnIn
import Derived.Maps.Views
import Derived.DeepKeys4
namespace Go.Proofs.Ytjjnhmbgffdenaa
open Go.RowKit Go.WideMaps

theorem laidOut : laidOutB Try.prog = true := by kernel_rfl
theorem row28 : 28 < Try.prog.types.size := of_decide_eq_true (by kernel_rfl)
theorem law28 : Maps.Keyed Try.prog 28 := Maps.Keyed.of_law (deep_law_laid laidOut (m := 3) (by omega) row28 (by kernel_rfl) (by rw [show Try.prog.underlying 28 = _ from Try.underlying28]))

def key28 (y n : Int) : Option Lit :=
  ((do let a ← (if IntKind.u8 = IntKind.u8 ∧ (Lit.int .u8 y).wf = true then some [Lit.int .u8 y] else none)
       let b ← (if IntKind.i64 = IntKind.i64 ∧ (Lit.int .i64 n).wf = true then some [Lit.int .i64 n] else none)
       pure [a, b] : Option (List (List Lit))).map List.flatten).map fun ls => .string (keyBytes ls)
theorem keyOf28 (y n : Int) : keyOf Try.prog 28 (.agg #[.int .u8 y, .int .i64 n]) = key28 y n := by
  kernel_rfl
/-- What a name reads as. -/
def kl (p : Nm) : Lit := (key28 p.y p.n).getD (.bool false)
theorem kl_of {p : Nm} (h : Named p) : keyOf Try.prog 28 (.agg #[.int .u8 p.y, .int .i64 p.n]) = some (kl p) := by
  obtain ⟨h1, h2, h3, h4⟩ := h
  have w1 : (Lit.int .u8 p.y).wf = true := by have a1 : IntKind.u8.min = 0 := rfl; have a2 : IntKind.u8.max = 255 := rfl; have a3 : IntKind.i64.min = -9223372036854775808 := rfl; have a4 : IntKind.i64.max = 9223372036854775807 := rfl; simp [Lit.wf]; omega
  have w2 : (Lit.int .i64 p.n).wf = true := by have a1 : IntKind.u8.min = 0 := rfl; have a2 : IntKind.u8.max = 255 := rfl; have a3 : IntKind.i64.min = -9223372036854775808 := rfl; have a4 : IntKind.i64.max = 9223372036854775807 := rfl; simp [Lit.wf]; omega
  rw [keyOf28]
  simp [kl, key28, w1, w2]
theorem kl_inj {p q : Nm} (h : Named p) (h' : Named q) (e : kl p = kl q) : p = q := by
  have a := kl_of h
  rw [e] at a
  have := law28.inj a (kl_of h')
  obtain ⟨y, n⟩ := p
  obtain ⟨y', n'⟩ := q
  simp at this
  simp [this.1, this.2]
theorem kl_key {p : Nm} (h : Named p) : WideAt.IsKeyLit (kl p) := law28.key (kl_of h)

/-- The names that have been seen, as a map reads. -/
def seenD {H : Type} (ns : List Nm) : DataW H := ns.foldl (fun D p => D.put (kl p) (.lit (.bool true))) (.map [])
theorem seenD_snoc {H : Type} (ns : List Nm) (p : Nm) : seenD (H := H) (ns ++ [p]) = (seenD ns).put (kl p) (.lit (.bool true)) := by simp [seenD]
theorem seenD_from {H : Type} (p : Nm) (hp : Named p) (ns : List Nm) : ∀ (D : DataW H) (b : Bool), (∀ q ∈ ns, Named q) → Maps.IsMap D → D.atKey (kl p) (.lit (.bool false)) = .lit (.bool b) →
    (ns.foldl (fun D p => D.put (kl p) (.lit (.bool true))) D).atKey (kl p) (.lit (.bool false)) = .lit (.bool (b || decide (p ∈ ns))) := by
  induction ns with
  | nil => intro D b _ _ h; simpa using h
  | cons q ns ih =>
    intro D b h hD hb
    rw [List.foldl_cons]
    by_cases e : q = p
    · subst e
      rw [ih _ true (fun x hx => h x (List.mem_cons_of_mem _ hx)) (hD.put _ _) (Maps.atKey_put_same hD (kl_key hp) _ _)]
      simp
    · have hne : kl p ≠ kl q := fun h' => e (kl_inj (h q (List.mem_cons_self ..)) hp h'.symm)
      rw [ih _ b (fun x hx => h x (List.mem_cons_of_mem _ hx)) (hD.put _ _) ((Maps.atKey_put_other hne _ _).trans hb)]
      have e' : ¬ p = q := fun h => e h.symm
      simp [e']
theorem seenD_at {H : Type} {p : Nm} (hp : Named p) {ns : List Nm} (h : ∀ q ∈ ns, Named q) : (seenD (H := H) ns).atKey (kl p) (.lit (.bool false)) = .lit (.bool (decide (p ∈ ns))) := by
  have := seenD_from (H := H) p hp ns (.map []) false h Maps.isMap_empty rfl
  simpa [seenD] using this

theorem plainElem_bool_inv {H : Type} {P : Program} {e : TypeId} (he : P.underlying e = some .bool) {v : Value} {z : DataW H × List MemPlace} (h : plainElem P e v = some z) : ∃ b, v = .bool b ∧ z.1 = .lit (.bool b) := by
  unfold plainElem at h
  rw [he] at h
  cases v <;> simp at h
  obtain ⟨rfl⟩ := h
  exact ⟨_, rfl, rfl⟩

section
variable {F : Fence} {nF : Nat} {P : Program}
theorem wpListIn_lookup_own_bool {H : Type} (w : World) {ops : Array Oper} {rest : List Oper} {o : Oper} {a : Act} {Q : Exit → Act → World → Prop}
    (hg : o.guard = none) (m x : Operand) (t : TypeId) (hop : o.op = Op.lookup t m x false)
    (k e : TypeId) (K : Maps.Keyed P k) (ht : P.underlying t = some (.map k e)) (he : P.underlying e = some .bool) (hz : (zeroValue e).run P w = .ok (.bool false) w) (b n : Nat) (D : DataW H)
    (hm : a.eval m = .map (some b)) (hown : w.ownsMap P k (plainElem P e) b n D) (key : Value) (kl : Lit) (hx : a.eval x = key) (hkey : keyOf P k key = some kl)
    (hK : ∀ c : Bool, Hid (D.atKey kl (.lit (.bool false)) = .lit (.bool c)) → wpListIn F nF P ops Q rest (a.put o.dst (.bool c)) w) :
    wpListIn F nF P ops Q (o :: rest) a w := by
  refine wpListIn_plain hg fun K' hK' => ?_
  obtain ⟨v, ps, hrun, hv⟩ := hown.lookup K ht hz (plainElem_bool he false) hkey
  obtain ⟨c, rfl, hc⟩ := plainElem_bool_inv he hv
  unfold Oper.wpIn
  refine ⟨by simp [Oper.about, hop], ?_⟩
  rw [Oper.semAt_plain F _ _ (by rw [hop]; intro c hc'; cases hc')]
  simp [execOp, hop, hm, hx, hrun, Result.andThen]
  exact hK' _ _ (hK c (Lib.hid hc))
end
end Go.Proofs.Ytjjnhmbgffdenaa
