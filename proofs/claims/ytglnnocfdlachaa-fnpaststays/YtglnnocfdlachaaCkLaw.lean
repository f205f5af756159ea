/-
  The statement FnExactChainOkSaid: at every slice of events the law returns true, and the slice reads afterwards as it read before. No condition.
-/
import Derived.Test.YtglnnocfdlachaaCk2
import Derived.Test.YtglnnocfdlachaaEvOpen
namespace Go.Proofs.Ytglnnocfdlachaa
open Go.ChangeShapes Go.WideShapes Go.ChangeAt Go.RowKit Go.Deep
set_option linter.unusedVariables false

theorem szEvs_any (a : Option Addr) (len cap : Nat) (left : Int) (w : World) (hl : len ≤ 9223372036854775807) (h0 : 0 ≤ left) (h1 : left ≤ 1048576) :
    Calls Try.prog 5 #[.slice a len cap, .int .i64 left] w fun e w' => ∃ r : Int, e = .returned (.int .i64 r) ∧ (r < 0 ∨ (0 ≤ r ∧ r ≤ left ∧ len ≤ 1048576)) ∧ w' = w := by
  by_cases h : left - (len : Int) < 0
  · go_enter Try.func5, Try.ntmps5
    go_wp2
    go_ret
    exact ⟨_, rfl, .inl (by decide), rfl⟩
  · go_enter Try.func5, Try.ntmps5
    go_wp2
    go_ret
    exact ⟨_, rfl, .inr ⟨by omega, by omega, by omega⟩, rfl⟩
end Go.Proofs.Ytglnnocfdlachaa
