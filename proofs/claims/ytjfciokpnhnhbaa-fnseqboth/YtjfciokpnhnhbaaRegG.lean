/-
  As RegF, for regions in which operations can be skipped (their slot then holds undef). Operations and frame under letters. No condition.
-/
import Derived.Test.YtjfciokpnhnhbaaRegF
namespace Go.Proofs.Ytjfciokpnhnhbaa
open Go.RowKit
set_option linter.unusedVariables false

/-- the operations under a letter -/
theorem wp_region_skips {P : Program} {l : List Oper} {Q : Exit → Act → World → Prop} {id : Nat} {a0 : Act} {w0 : World} (hm : P.follows .mixedOrders = true) (hback : backB l = true) (ds : List Nat) (slot : Nat → Nat) (F : Nat → Value → World → Prop)
    (hF : ∀ j v w w', F j v w → Below w.heap.size w w' → F j v w')
    (hds : ∀ i, i < l.length → slot i ∈ ds) (hinj : ∀ i j, i < l.length → j < l.length → slot i = slot j → i = j)
    (hstep : ∀ ops, ops = l.toArray → ∀ f w i o, Below w0.heap.size w0 w → ops[i]? = some o → (∀ e ∈ o.after, Region.binds .any e = true → F e.on (f (slot e.on)) w) → wpOp P ops Q i (fun a' w' => ∃ v, a' = (canon a0 ds f).put (some (slot i)) v ∧ F i v w' ∧ Below w.heap.size w w') (canon a0 ds f) w)
    (hdone : ∀ f w, Below w0.heap.size w0 w → (∀ i, i < l.length → F i (f (slot i)) w) → Q .normal (canon a0 ds f) w) :
    (Code.region id l.toArray true).wp P Q a0 w0 := wp_region_facts hm hback ds slot F hF hds hinj (hstep _ rfl) hdone

/-- an operation that its guard passes by -/
theorem wpOp_skipG {P : Program} {ops : Array Oper} {Q : Exit → Act → World → Prop} {i : Nat} {o : Oper} {K : Act → World → Prop} {t : Act} {w : World} (ho : ops[i]? = some o) (hg : Region.wanted o (yielded ops t.tmps) = false) (h : K (t.put o.dst undef) w) : wpOp P ops Q i K t w := by
  refine wpOp_step ho fun K' hK => ?_
  rw [if_neg (by rw [hg]; decide)]
  exact hK _ _ h
/-- a guard, read off its slot -/
theorem wanted_is {ops : Array Oper} {i : Nat} {oi : Oper} (_ : ops[i]? = some oi) {a0 : Act} {ds : List Nat} {f : Nat → Value} (j d : Nat) (b : Bool) (hj : (ops[j]?).bind (·.dst) = some d) (hds : d ∈ ds) (hs : d < a0.tmps.size) : ∀ (o : Oper) (c : Bool), f d = .bool c → o.guard = some (j, b) → Region.wanted o (yielded ops (canon a0 ds f).tmps) = (c == b) := fun o c hf hg => by
  have hc := canon_get ds f d a0
  rw [if_pos ⟨hds, hs⟩] at hc
  cases hq : ops[j]? with
  | none => rw [hq] at hj; cases hj
  | some og =>
    rw [hq] at hj
    have hj' : og.dst = some d := hj
    simp [Region.wanted, hg, yielded, hq, hj', hc, hf]
theorem wanted_undef {ops : Array Oper} {i : Nat} {oi : Oper} (_ : ops[i]? = some oi) {a0 : Act} {ds : List Nat} {f : Nat → Value} (j d : Nat) (b : Bool) (hj : (ops[j]?).bind (·.dst) = some d) (hds : d ∈ ds) (hs : d < a0.tmps.size) : ∀ (o : Oper), f d = undef → o.guard = some (j, b) → Region.wanted o (yielded ops (canon a0 ds f).tmps) = false := fun o hf hg => by
  have hc := canon_get ds f d a0
  rw [if_pos ⟨hds, hs⟩] at hc
  cases hq : ops[j]? with
  | none => rw [hq] at hj; cases hj
  | some og =>
    rw [hq] at hj
    have hj' : og.dst = some d := hj
    simp [Region.wanted, hg, yielded, hq, hj', hc, hf, undef]
/-- the frame under a letter -/
theorem wp_letter {c : Code} {P : Program} {Q : Exit → Act → World → Prop} {a : Act} {w : World} (h : ∀ a', a' = a → c.wp P Q a' w) : c.wp P Q a w := h a rfl
end Go.Proofs.Ytjfciokpnhnhbaa
