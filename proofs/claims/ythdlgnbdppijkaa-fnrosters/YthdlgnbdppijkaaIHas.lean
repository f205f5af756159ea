/-
  A set of numbers: is it among them? A circle with the founder alone. No condition.
-/
import Derived.Test.YthdlgnbdppijkaaISet
namespace Go.Proofs.Ythdlgnbdppijkaa
open Go.RowKit Go.Maps
set_option linter.unusedVariables false

set_option maxHeartbeats 400000 in
theorem hasSet_any (B n : Nat) (E : DataW Value) (z : Int) (w : World) (h : SetI w B n E) (hz : (Lit.int .i64 z).wf = true) :
    Calls Try.prog 38 #[.map (some B), .int .i64 z] w fun e w' => e = .returned (.bool (has E (.int .i64 z))) ∧ Below w.heap.size w w' := by
  have HO : Hid (w.ownsMap Try.prog 2 unitElem B n E) := h
  have hkey : keyOf Try.prog 2 (.int .i64 z) = some (.int .i64 z) := keyOf_int_mk Try.underlying2 hz
  clear h
  go_enter Try.func38, Try.ntmps38
  go_wp2_with (at_lookup; refine wpList_lookup_own_unit _ rfl _ _ 50 rfl 2 77 lawI Try.underlying50 (zeroU _) B n E rfl HO.out _ _ rfl hkey ?_)
  go_ret
  exact ⟨rfl, (Below.refl _ _).alloc (Nat.le_refl _) _⟩
end Go.Proofs.Ythdlgnbdppijkaa
