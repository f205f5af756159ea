/-
  The draws of knowledge alone. Condition: the code reads as bytes.
-/
import Derived.Test.YtpcbhjejpebogaaDoorDqK
namespace Go.Proofs.YtpcbhjejpebogaaDoor
open Go.RowKit Go.Maps
set_option linter.unusedVariables false

theorem bigD_any (a : Option Addr) (len cap : Nat) (w : World) : Calls Tryd.prog 26 #[.slice a len cap] w fun e w' => e = .returned (.bool (decide ((1048576 : Int) < (len : Int)))) ∧ w' = w := by
  go_enter Tryd.func26, Tryd.ntmps26
  go_wp2
  go_ret
  exact ⟨rfl, rfl⟩
theorem openD_any (a : Option Addr) (len cap : Nat) (w : World) : Calls Tryd.prog 56 #[.slice a len cap] w fun e w' => e = .returned (.pointer (some ⟨w.heap.size, 0, none⟩)) ∧ Draw w a len cap w.heap.size w' := by
  go_enter Tryd.func56, Tryd.ntmps56
  go_wp2
  go_ret
  exact ⟨rfl, (Below.refl _ _).alloc (Nat.le_refl _) _, Nat.le_refl _, 0, Nat.zero_le _, heap_alloc_new w _⟩

theorem drawOpened_any (a : Option Addr) (len cap : Nat) (Z : Nat → Int) (w : World) (hU : IsU8 w a len cap Z) :
    Calls Tryd.prog 30 #[.slice a len cap] w fun e w' => ∃ g c L, e = .returned (.slice (some ⟨g, 0, none⟩) L.length c) ∧ OwnS w' w.heap.size g c L ∧ L.length ≤ 8 ∧ KLow L ∧ Below w.heap.size w w' := by
  go_enter Tryd.func30, Tryd.ntmps30
  go_wp2_with fail
  refine (openD_any a len cap w).mono ?_
  rintro e w1 ⟨rfl, hD1⟩
  go_wp2_with fail
  refine (drKnown_any hU w1 hD1).mono ?_
  rintro e w2 ⟨g, c, L, rfl, ho, hl, hk, hD2⟩
  go_wp2
  go_ret
  exact ⟨g, c, L, rfl, mono_base ho (by omega), hl, hk, hD2.bel⟩
end Go.Proofs.YtpcbhjejpebogaaDoor
