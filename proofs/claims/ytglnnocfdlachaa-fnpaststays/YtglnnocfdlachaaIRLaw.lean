/-
  The statement FnExactRosterAtSaid: at every slice of events and every number the law returns true, and the slice reads afterwards as it read before. No condition.
-/
import Derived.Test.YtglnnocfdlachaaIRos
import Derived.Test.YtglnnocfdlachaaIRMark
import Derived.Test.YtglnnocfdlachaaCMark4
import Derived.Test.YtglnnocfdlachaaEVal
import Derived.Test.YtglnnocfdlachaaCkLaw
namespace Go.Proofs.Ytglnnocfdlachaa
open Go.ChangeShapes Go.WideShapes Go.ChangeAt Go.RowKit Go.Deep
set_option linter.unusedVariables false

/-- members and administrators that are answered -/
def resR (D : Nat → Ev) (len : Nat) (e : Int) : List Int × List Int := if rosB D len e = true then rosterL D len e.toNat else ([], [])
theorem resR_len (D : Nat → Ev) (len : Nat) (e : Int) : (resR D len e).1.length ≤ 9 ∧ (resR D len e).2.length ≤ 9 := by
  unfold resR
  split
  · exact ⟨(rosterL_ros D len _).1.len, (rosterL_ros D len _).2.len⟩
  · exact ⟨Nat.zero_le _, Nat.zero_le _⟩
theorem specR (a : Option Addr) (len cap : Nat) (D : Nat → Ev) (e : Int) (w : World) (h : IsEvs w a len cap D) :
    Calls Try.prog 21 #[.slice a len cap, .int .i64 e] w fun r w' => ∃ a1 c1 a2 c2, r = .returned (.tuple #[.agg #[.slice a1 (resR D len e).1.length c1, .slice a2 (resR D len e).2.length c2], .bool (rosB D len e)]) ∧ OwnI w' w.heap.size (.slice a1 (resR D len e).1.length c1) (resR D len e).1 ∧ OwnI w' w.heap.size (.slice a2 (resR D len e).2.length c2) (resR D len e).2 ∧ Below w.heap.size w w' := by
  refine (specRoster_any a len cap D e w h).mono ?_
  rintro r w' ⟨vM, vA, rfl, hc, hB⟩
  have hh : OwnI w' w.heap.size vM (resR D len e).1 ∧ OwnI w' w.heap.size vA (resR D len e).2 := by
    unfold resR
    rcases hc with ⟨h1, rfl, rfl⟩ | ⟨h1, h2, h3⟩
    · rw [h1]; exact ⟨OwnI.nil _ _, OwnI.nil _ _⟩
    · rw [h1]; exact ⟨h2, h3⟩
  obtain ⟨a1, c1, rfl⟩ := hh.1.slice
  obtain ⟨a2, c2, rfl⟩ := hh.2.slice
  exact ⟨a1, c1, a2, c2, rfl, hh.1, hh.2, hB⟩
theorem implR (a : Option Addr) (len cap : Nat) (D : Nat → Ev) (e : Int) (w : World) (h : IsEvs w a len cap D) :
    Calls Try.prog 16 #[.slice a len cap, .int .i64 e] w fun r w' => ∃ a1 c1 a2 c2 z, r = .returned (.tuple #[.agg #[.slice a1 (resR D len e).1.length c1, .slice a2 (resR D len e).2.length c2], .bool (rosB D len e)]) ∧ OwnI w' w.heap.size (.slice a1 (resR D len e).1.length c1) (resR D len e).1 ∧ OwnI w' z (.slice a2 (resR D len e).2.length c2) (resR D len e).2 ∧ w.heap.size ≤ z ∧ (∀ k, (Value.slice a1 (resR D len e).1.length c1).ownBlock = some k → k < z) ∧ Below w.heap.size w w' := by
  refine (implRoster_any a len cap D e w h).mono ?_
  rintro r w' ⟨vM, vA, z, rfl, hc, hB⟩
  have hh : ∃ z, OwnI w' w.heap.size vM (resR D len e).1 ∧ OwnI w' z vA (resR D len e).2 ∧ w.heap.size ≤ z ∧ ∀ k, vM.ownBlock = some k → k < z := by
    unfold resR
    rcases hc with ⟨h1, rfl, rfl⟩ | ⟨h1, h2, h3, h4, h5⟩
    · rw [h1]; exact ⟨w.heap.size, OwnI.nil _ _, OwnI.nil _ _, Nat.le_refl _, fun k hk => by cases hk⟩
    · rw [h1]; exact ⟨z, h2, h3, h4, h5⟩
  obtain ⟨z, o1, o2, hz, hd⟩ := hh
  obtain ⟨a1, c1, rfl⟩ := o1.slice
  obtain ⟨a2, c2, rfl⟩ := o2.slice
  exact ⟨a1, c1, a2, c2, z, rfl, o1, o2, hz, hd, hB⟩
end Go.Proofs.Ytglnnocfdlachaa
