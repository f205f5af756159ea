/-
  A node that came in reads as its fields. No condition.
-/
import Derived.Test.YtniidjanngajoaaDoorNode4
import Derived.Test.YtniidjanngajoaaDoorRows
import Derived.Test.YtniidjanngajoaaDoorCards
import Derived.Test.YtniidjanngajoaaDoorTie
import Derived.ProofKit
import Derived.OpenShut
import Derived.Deep.DeepHandedRow
import Derived.Lib.LaidTab
import Derived.Lay
import Derived.ShutString
import Derived.ChangeOld
namespace Go.Proofs.YtniidjanngajoaaDoor
open Go.ChangeShapes Go.WideShapes Go.ChangeAt Go.RowKit Go.Deep
set_option linter.unusedVariables false

theorem ownN : ownKnob Tryd.prog.godebug = none := by kernel_rfl
theorem laidOutN : laidOutB Tryd.prog = true := by kernel_rfl
theorem cells9 : Tryd.prog.cellsOf 9 = 1 := by kernel_rfl
theorem cells2 : Tryd.prog.cellsOf 2 = 1 := by kernel_rfl
theorem cells24 : Tryd.prog.cellsOf 24 = 1 := by kernel_rfl
theorem cells26 : Tryd.prog.cellsOf 26 = 6 := by kernel_rfl

theorem list6 {α : Type} {l : List α} (h : l.length = 6) : ∃ a b c d e f, l = [a, b, c, d, e, f] := by
  match l, h with
  | [a, b, c, d, e, f], _ => exact ⟨a, b, c, d, e, f, rfl⟩

/-- a slice of texts that came in reads as texts -/
theorem open_strs {H : Type} {enc : TypeId × Value → H} {W : World} {n : Nat} {v : Value} {x : DataW H × List MemPlace} (h : DataW.trod enc Tryd.prog W 0 (fun _ => true) true n 24 [v] = some x) :
    ∃ a len cap S, v = .slice a len cap ∧ IsStrs W a len cap S ∧ ∀ i, i < len → (S i).size ≤ 9223372036854775807 := by
  rcases open_slice Tryd.underlying24 h with ⟨hcs, _⟩ | ⟨a, len, cap, m, n', D, Pl, hcs, _, hl, hm, hmm, _, hall⟩
  · simp at hcs
    exact ⟨none, 0, 0, fun _ => ⟨#[]⟩, hcs, ⟨Nat.le_refl _, by omega, fun h => absurd h (by omega)⟩, fun i h => absurd h (by omega)⟩
  · simp at hcs hmm
    subst hmm
    rw [cells9] at hall
    have key : ∀ i, i < len → ∃ s : ByteArray, W.cell? (a.add (i * 1)) = some (.string s) ∧ s.size ≤ 9223372036854775807 := by
      intro i hi
      obtain ⟨cs', h1, h2⟩ := hall i (by omega)
      obtain ⟨_, hlen, hcell⟩ := World.cells?_some h1
      obtain ⟨s, rfl, _, hs⟩ := DataW.trod_string Tryd.underlying9 h2
      have e0 := hcell 0 (by omega)
      rw [add_add] at e0
      exact ⟨s, by simpa using e0, by unfold maxLen at hs; omega⟩
    obtain ⟨q, hq⟩ := choose_lt key
    refine ⟨some a, len, _, q, hcs, ⟨hl, by unfold maxLen at hm; omega, fun hp => ?_⟩, fun i hi => (hq i hi).2⟩
    obtain ⟨b, off, spot⟩ := a
    have hc0 := (hq 0 hp).1
    have hspot : spot = none := by simpa [Addr.add] using World.cell?_spot hc0
    subst hspot
    refine ⟨b, off, rfl, ?_, fun i hi => ?_⟩
    · rw [add_plain] at hc0; exact cell_lt hc0
    · have h1 := (hq i hi).1
      rw [add_plain, Nat.mul_one] at h1
      exact h1


theorem open_node {H : Type} {enc : TypeId × Value → H} {W : World} {n : Nat} {cs : Array Value} {x : DataW H × List MemPlace} (h : DataW.trod enc Tryd.prog W 0 (fun _ => true) true n 26 cs.toList = some x) :
    ∃ a s k key text u len cap S, cs = #[.int .i64 a, .int .i64 s, .int .i64 k, .string key, .string text, .slice u len cap] ∧ IsStrs W u len cap S ∧ (∀ i, i < len → (S i).size ≤ 9223372036854775807) ∧ key.size ≤ 9223372036854775807 ∧ text.size ≤ 9223372036854775807 := by
  obtain ⟨xs, m, _, _, hl, hxl, hf⟩ := DataW.trod_struct Tryd.underlying26 h
  rw [cells26] at hl
  obtain ⟨u0, u1, u2, u3, u4, u5, hcs⟩ := list6 hl
  obtain ⟨y0, y1, y2, y3, y4, y5, rfl⟩ := list6 (show xs.length = 6 from hxl)
  have g0 := hf 0 _ rfl
  have g1 := hf 1 _ rfl
  have g2 := hf 2 _ rfl
  have g3 := hf 3 _ rfl
  have g4 := hf 4 _ rfl
  have g5 := hf 5 _ rfl
  rw [hcs] at g0 g1 g2 g3 g4 g5
  simp [cells2, cells9, cells24] at g0 g1 g2 g3 g4 g5
  obtain ⟨z0, q0, _⟩ := DataW.trod_int Tryd.underlying2 g0
  obtain ⟨z1, q1, _⟩ := DataW.trod_int Tryd.underlying2 g1
  obtain ⟨z2, q2, _⟩ := DataW.trod_int Tryd.underlying2 g2
  obtain ⟨s3, q3, _, l3⟩ := DataW.trod_string Tryd.underlying9 g3
  obtain ⟨s4, q4, _, l4⟩ := DataW.trod_string Tryd.underlying9 g4
  obtain ⟨u, len, cap, S, q5, hI, hS⟩ := open_strs g5
  simp at q0 q1 q2 q3 q4
  subst q0 q1 q2 q3 q4 q5
  refine ⟨_, _, _, _, _, _, _, _, S, Array.ext' (by rw [hcs]), hI, hS, ?_, ?_⟩
  · unfold maxLen at l3; omega
  · unfold maxLen at l4; omega
end Go.Proofs.YtniidjanngajoaaDoor
