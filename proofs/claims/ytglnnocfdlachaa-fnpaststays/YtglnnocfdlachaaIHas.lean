/-
  A set of numbers: is it among them? A circle with the founder alone. No condition.
-/
import Derived.Test.YtglnnocfdlachaaISet
namespace Go.Proofs.Ytglnnocfdlachaa
open Go.RowKit Go.Maps
set_option linter.unusedVariables false

set_option maxHeartbeats 400000 in
theorem hasSet_any (B n : Nat) (E : DataW Value) (z : Int) (w : World) (h : SetI w B n E) (hz : (Lit.int .i64 z).wf = true) :
    Calls Try.prog 50 #[.map (some B), .int .i64 z] w fun e w' => e = .returned (.bool (has E (.int .i64 z))) ∧ Below w.heap.size w w' := by
  have HO : Hid (w.ownsMap Try.prog 2 unitElem B n E) := h
  have hkey : keyOf Try.prog 2 (.int .i64 z) = some (.int .i64 z) := keyOf_int_mk Try.underlying2 hz
  clear h
  go_enter Try.func50, Try.ntmps50
  go_wp2_with (at_lookup; refine wpList_lookup_own_unit _ rfl _ _ 63 rfl 2 90 lawI Try.underlying63 (zeroU _) B n E rfl HO.out _ _ rfl hkey ?_)
  go_ret
  exact ⟨rfl, (Below.refl _ _).alloc (Nat.le_refl _) _⟩
end Go.Proofs.Ytglnnocfdlachaa
