/-
  The law FnExactEpochsOk returns true at every slice of epochs, and leaves all that was there as it was. No condition but that the argument reads.
-/
import Derived.Test.YtdohjinlgoadoaaSpecOk
import Derived.Test.YtdohjinlgoadoaaRows
import Derived.ProofKit
import Derived.OpenShut
import Derived.ShutString
import Derived.ChangeOld
import Derived.SizedLaws
import Derived.Deep.SlicePairs
namespace Go.Proofs.Ytdohjinlgoadoaa
open Go.ChangeShapes Go.WideShapes Go.ChangeAt Go.RowKit Go.Deep
set_option linter.unusedVariables false

set_option maxHeartbeats 400000 in
theorem law_walk (a : Option Addr) (len cap : Nat) (K : Nat → Int) (L : Nat → Nat) (M : Nat → Nat → Int) (w : World) (h : IsEps w a len cap K L M) :
    Calls Try.prog 3 #[.slice a len cap] w fun e w' => e = .returned (.bool true) ∧ Below w.heap.size w w' := by
  go_enter Try.func3, Try.ntmps3
  go_wp2_with fail
  refine (szEpochS_any a len cap K L M w h).mono ?_
  rintro e w1 ⟨r, rfl, hr, hB1⟩
  rcases hr with hr | ⟨hr, hl, hL⟩
  · go_wp2
    go_ret
    exact ⟨rfl, hB1⟩
  have h1 := h.below hB1
  have HL : Hid (∀ i, i < len → L i ≤ 1048576) := hL
  clear hL
  go_wp2_with fail
  refine (toEpochS_any a len cap K L M _ h1 hl HL).mono ?_
  rintro e w2 ⟨g2, rfl, h2, hB2⟩
  go_wp2_with fail
  refine (specEpochsOk_any _ _ _ K L M _ h2).mono ?_
  rintro e w3 ⟨rfl, hB3⟩
  have hB13 : Below w1.heap.size w1 w3 := hB2.trans (hB3.mono hB2.size)
  have h13 := h1.below hB13
  go_wp2_with fail
  refine (toEpochS_any a len cap K L M _ h13 hl HL).mono ?_
  rintro e w4 ⟨g4, rfl, h4, hB4⟩
  go_wp2_with fail
  refine (implEpochsOk_any _ _ _ K L M _ h4).mono ?_
  rintro e w5 ⟨rfl, hB5⟩
  have h5 := h4.below hB5
  have hB35 : Below w3.heap.size w3 w5 := hB4.trans (hB5.mono hB4.size)
  have h15 := h13.below hB35
  generalize epsB K L M len = x
  have hx : (x != x) = false := by simp
  go_wp2_with fail
  refine (toEpochS_any a len cap K L M _ h15 hl HL).mono ?_
  rintro e w6 ⟨g6, rfl, h6, hB6⟩
  go_wp2_with fail
  refine (eqEpochS_same _ _ _ _ _ K L M _ (h5.below hB6) h6).mono ?_
  rintro e w7 ⟨rfl, hB7⟩
  go_wp2
  go_ret
  refine ⟨rfl, ?_⟩
  have b3 : Below w.heap.size w w3 := hB1.trans (hB13.mono hB1.size)
  have b5 : Below w.heap.size w w5 := b3.trans (hB35.mono b3.size)
  have b6 : Below w.heap.size w w6 := b5.trans (hB6.mono b5.size)
  exact b6.trans (hB7.mono b6.size)

end Go.Proofs.Ytdohjinlgoadoaa
