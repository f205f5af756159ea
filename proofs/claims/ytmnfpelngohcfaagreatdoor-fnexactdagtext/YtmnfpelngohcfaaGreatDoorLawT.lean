/-
  The law of DagText returns true. No condition but that the slice reads and that the tables lie.
-/
import Derived.Test.YtmnfpelngohcfaaGreatDoorDtI
import Derived.Test.YtmnfpelngohcfaaGreatDoorDtS
namespace Go.Proofs.YtmnfpelngohcfaaGreatDoor
open Go.RowKit
set_option linter.unusedVariables false

theorem dagT_at (D : Nat → Nd) (G : Nat → Nat) (len : Nat) : ∀ k, dagT (fun i => (D i).at (G i)) len k = dagT D len k
  | 0 => rfl
  | k + 1 => by
    show dagT (fun i => (D i).at (G i)) len k ++ _ = dagT D len k ++ _
    rw [dagT_at D G len k]
    rfl
theorem dagTR_at (D : Nat → Nd) (G : Nat → Nat) (len : Nat) : dagTR (fun i => (D i).at (G i)) len = dagTR D len := by
  unfold dagTR
  rw [dagT_at]
  rfl

set_option maxHeartbeats 2000000 in
theorem lawT_walk (a : Option Addr) (len cap : Nat) (D : Nat → Nd) (w : World) (h : IsNds w a len cap D) (hf : Fine D len) (hP : AllT w) :
    Calls Tryz.prog 3 #[.slice a len cap] w fun e w' => e = .returned (.bool true) ∧ Below w.heap.size w w' := by
  go_enter Tryz.func3, Tryz.ntmps3
  go_wp2_with fail
  refine (szNodeS_any a len cap D _ h hf).mono ?_
  rintro e w1 ⟨r, rfl, hr, hB1⟩
  rcases hr with hr | ⟨hr, hl, hz⟩
  · go_wp2
    go_ret
    exact ⟨rfl, hB1⟩
  have H1 := h.below hB1
  go_wp2_with fail
  refine (toNodeS_any a len cap D _ H1 hl hz).mono ?_
  rintro e w2 ⟨g2, G2, rfl, i2, hB2⟩
  have b2 := hB1.trans (hB2.mono hB1.size)
  have f2 : Fine (fun i => (D i).at (G2 i)) len := hf
  go_wp2_with fail
  refine (specDagText_any _ len len _ _ i2 f2).mono ?_
  rintro e w3 ⟨rfl, hB3⟩
  rw [dagTR_at]
  have b3 := b2.trans (hB3.mono b2.size)
  go_wp2_with fail
  refine (toNodeS_any a len cap D _ (h.below b3) hl hz).mono ?_
  rintro e w4 ⟨g4, G4, rfl, i4, hB4⟩
  have b4 := b3.trans (hB4.mono b3.size)
  have f4 : Fine (fun i => (D i).at (G4 i)) len := hf
  go_wp2_with fail
  refine (implDagText_any _ len len _ _ i4 f4 (hP.below b4)).mono ?_
  rintro e w5 ⟨rfl, hB5⟩
  rw [dagTR_at]
  have b5 := b4.trans (hB5.mono b4.size)
  have i5 := i4.below hB5
  generalize dagTR D len = x
  have hx : (x.toList != x.toList) = false := by simp
  go_wp2_with fail
  refine (toNodeS_any a len cap D _ (h.below b5) hl hz).mono ?_
  rintro e w6 ⟨g6, G6, rfl, i6, hB6⟩
  have b6 := b5.trans (hB6.mono b5.size)
  go_wp2_with fail
  refine (eqNodeS_like _ _ len len len _ _ _ (i5.below hB6) i6 (fun i hi => ⟨rfl, rfl, rfl, rfl, rfl, rfl, rfl⟩)).mono ?_
  rintro e w7 ⟨rfl, hB7⟩
  go_wp2
  go_ret
  exact ⟨rfl, b6.trans (hB7.mono b6.size)⟩
end Go.Proofs.YtmnfpelngohcfaaGreatDoor
