/-
  What opens a slice of epochs that comes in. No condition.
-/
import Derived.Test.YtcolcnkjcagbaaaDoorBxN
import Derived.Test.YtcolcnkjcagbaaaDoorRows
import Derived.Test.YtcolcnkjcagbaaaDoorTie
import Derived.Test.YtcolcnkjcagbaaaDoorCards
import Derived.ProofKit
import Derived.OpenShut
import Derived.Deep.DeepHandedRow
import Derived.Lay
import Derived.ShutString
import Derived.ChangeOld
import Derived.MakeChecks
import Derived.Test.YtcolcnkjcagbaaaDoorEpEps
import Derived.Deep.SlicePairs
namespace Go.Proofs.YtcolcnkjcagbaaaDoor
open Go.ChangeShapes Go.WideShapes Go.ChangeAt Go.RowKit Go.Deep
set_option linter.unusedVariables false

theorem ownN : ownKnob Tryd.prog.godebug = none := by kernel_rfl
theorem laidOutN : laidOutB Tryd.prog = true := by kernel_rfl

/-- epochs: keys, lengths, members -/
def IsEps (w : World) (a : Option Addr) (len cap : Nat) (D : (Nat → Int) × (Nat → Nat) × (Nat → Nat → Int)) : Prop := Ep.IsEps w a len cap D.1 D.2.1 D.2.2
def EFine (_ : (Nat → Int) × (Nat → Nat) × (Nat → Nat → Int)) (_ : Nat) : Prop := True
theorem cells2E : Tryd.prog.cellsOf 2 = 1 := by kernel_rfl
theorem cells38E : Tryd.prog.cellsOf 38 = 1 := by kernel_rfl
theorem cells54E : Tryd.prog.cellsOf 54 = 2 := by kernel_rfl

/-- a slice of int64 that came in reads as numbers -/
theorem open_i64 {H : Type} {enc : TypeId × Value → H} {W : World} {n : Nat} {v : Value} {x : DataW H × List MemPlace} (h : DataW.trod enc Tryd.prog W 0 (fun _ => true) true n 38 [v] = some x) :
    ∃ a len cap Z, v = .slice a len cap ∧ Ep.IsI64 W a len cap Z := by
  rcases open_ints Tryd.underlying38 Tryd.underlying2 cells2E h with ⟨hcs, _⟩ | ⟨a, l, c, zs, hcs, _, hl, hm, hz, _, hcell, hwz⟩
  · simp at hcs
    exact ⟨none, 0, 0, fun _ => 0, hcs, Nat.le_refl _, by omega, fun h => absurd h (by omega)⟩
  · simp at hcs
    refine ⟨some a, l, c, fun i => zs.getD i 0, hcs, hl, by unfold maxLen at hm; omega, fun hp => ?_⟩
    obtain ⟨b, off, spot⟩ := a
    have hc0 := hcell 0 (by simp at hz; omega)
    have hspot : spot = none := by simpa [Addr.add] using World.cell?_spot hc0
    subst hspot
    refine ⟨b, off, rfl, ?_, fun i hi => ?_⟩
    · rcases Nat.lt_or_ge b W.heap.size with h' | h'
      · exact h'
      · simp [Addr.add, World.cell?, Array.getElem?_eq_none h'] at hc0
    · have := hcell i (by simp at hz; omega)
      rw [add_plain] at this
      exact this

/-- a slice of epochs that came in reads as epochs -/
theorem open_epsK {H : Type} {enc : TypeId × Value → H} {W : World} {n : Nat} {v : Value} {x : DataW H × List MemPlace} (h : DataW.trod enc Tryd.prog W 0 (fun _ => true) true n 29 [v] = some x) :
    ∃ a len cap D, v = .slice a len cap ∧ IsEps W a len cap D ∧ EFine D len := by
  rcases open_slice_pairs Tryd.underlying29 Tryd.underlying54 cells54E rfl rfl cells2E cells38E h with ⟨hcs, _⟩ | ⟨a, len, cap, m, n', V0, V1, D0, D1, P0, P1, hcs, _, hl, hm, hmm, _, hall⟩
  · simp at hcs
    exact ⟨none, 0, 0, (fun _ => 0, fun _ => 0, fun _ _ => 0), hcs, ⟨Nat.le_refl _, by omega, fun h => absurd h (by omega)⟩, trivial⟩
  · simp at hcs hmm
    subst hmm
    have key : ∀ i, i < len → ∃ q : Int × Option Addr × Nat × Nat × (Nat → Int), W.cell? (a.add (i * 2)) = some (.int .i64 q.1) ∧ W.cell? (a.add (i * 2 + 1)) = some (.slice q.2.1 q.2.2.1 q.2.2.2.1) ∧ Ep.IsI64 W q.2.1 q.2.2.1 q.2.2.2.1 q.2.2.2.2 := by
      intro i hi
      obtain ⟨c0, c1, t0, t1⟩ := hall i (by omega)
      obtain ⟨z, e0, _, _⟩ := DataW.trod_int Tryd.underlying2 t0
      obtain ⟨a', l', c', Z', e1, hI⟩ := open_i64 t1
      simp at e0
      exact ⟨(z, a', l', c', Z'), by rw [c0, e0], by rw [c1, e1], hI⟩
    obtain ⟨q, hq⟩ := choose_lt key
    refine ⟨some a, len, _, (fun i => (q i).1, fun i => (q i).2.2.1, fun i => (q i).2.2.2.2), hcs, ⟨hl, by unfold maxLen at hm; omega, fun hp => ?_⟩, trivial⟩
    obtain ⟨b, off, spot⟩ := a
    have hc0 := (hq 0 hp).1
    have hspot : spot = none := by simpa [Addr.add] using World.cell?_spot hc0
    subst hspot
    refine ⟨b, off, fun i => (q i).2.1, fun i => (q i).2.2.2.1, rfl, ?_, fun i hi => ?_⟩
    · rcases Nat.lt_or_ge b W.heap.size with h' | h'
      · exact h'
      · simp [Addr.add, World.cell?, Array.getElem?_eq_none h'] at hc0
    · obtain ⟨h1, h2, h3⟩ := hq i hi
      rw [add_plain] at h1 h2
      exact ⟨h1, h2, h3⟩
end Go.Proofs.YtcolcnkjcagbaaaDoor
