/-
  Slices of elements that came in read as plain data. No condition.
-/
import Derived.Test.YtmlikcblfkkpjaaEv
import Derived.Test.YtmlikcblfkkpjaaRows
import Derived.ProofKit
import Derived.OpenShut
import Derived.ShutString
import Derived.ChangeOld
import Derived.SizedLaws
namespace Go.Proofs.Ytmlikcblfkkpjaa
open Go.ChangeShapes Go.WideShapes Go.ChangeAt Go.RowKit Go.Deep
set_option linter.unusedVariables false

theorem own : ownKnob Try.prog.godebug = none := by kernel_rfl
theorem laidOut : laidOutB Try.prog = true := by kernel_rfl
theorem cells2 : Try.prog.cellsOf 2 = 1 := by kernel_rfl
theorem cells9 : Try.prog.cellsOf 9 = 1 := by kernel_rfl
theorem cellsEv : Try.prog.cellsOf 47 = 4 := by kernel_rfl

theorem list4 {α : Type} {l : List α} (h : l.length = 4) : ∃ a b c d, l = [a, b, c, d] := by
  match l, h with
  | [a, b, c, d], _ => exact ⟨a, b, c, d, rfl⟩

/-- what is known of every element that came in -/
def Ev.in (x : Ev) : Prop := x.d.size ≤ 9223372036854775807 ∧ (Lit.int .i64 x.c).wf = true

theorem open_ev {H : Type} {enc : TypeId × Value → H} {W : World} {n : Nat} {cs : Array Value} {x : DataW H × List MemPlace} (h : DataW.trod enc Try.prog W 0 (fun _ => true) true n 47 cs.toList = some x) :
    ∃ y : Ev, cs = #[.int .i64 y.a, .int .i64 y.b, .int .i64 y.c, .string y.d] ∧ y.in := by
  obtain ⟨xs, m, _, _, hl, hxl, hf⟩ := DataW.trod_struct Try.underlying47 h
  rw [cellsEv] at hl
  obtain ⟨u0, u1, u2, u3, hcs⟩ := list4 hl
  obtain ⟨y0, y1, y2, y3, rfl⟩ := list4 (show xs.length = 4 from hxl)
  have g0 := hf 0 _ rfl
  have g1 := hf 1 _ rfl
  have g2 := hf 2 _ rfl
  have g3 := hf 3 _ rfl
  rw [hcs] at g0 g1 g2 g3
  simp [cells2, cells9] at g0 g1 g2 g3
  obtain ⟨z0, q0, _⟩ := DataW.trod_int Try.underlying2 g0
  obtain ⟨z1, q1, _⟩ := DataW.trod_int Try.underlying2 g1
  obtain ⟨z2, q2, r2⟩ := DataW.trod_int Try.underlying2 g2
  obtain ⟨z3, q3, _, hz3⟩ := DataW.trod_string Try.underlying9 g3
  simp at q0 q1 q2 q3
  subst q0 q1 q2 q3
  exact ⟨⟨z0, z1, z2, z3⟩, Array.ext' (by rw [hcs]), ⟨Nat.le_trans hz3 (by decide), r2.2⟩⟩

def evNone : Ev := ⟨0, 0, 0, ⟨#[]⟩⟩

/-- elements that came in read as plain data -/
theorem open_evs {H : Type} {enc : TypeId × Value → H} {W : World} {n : Nat} {v : Value} {x : DataW H × List MemPlace} (h : DataW.trod enc Try.prog W 0 (fun _ => true) true n 22 [v] = some x) :
    ∃ a len cap D, v = .slice a len cap ∧ IsEvs W a len cap D ∧ ∀ i, i < len → (D i).in := by
  rcases open_slice Try.underlying22 h with ⟨hcs, _⟩ | ⟨a, len, cap, m, n', D, Pl, hcs, _, hl, hm, hmm, _, hall⟩
  · simp at hcs
    exact ⟨none, 0, 0, fun _ => evNone, hcs, ⟨Nat.le_refl _, by omega, fun h => absurd h (by omega)⟩, fun i h => absurd h (by omega)⟩
  · simp at hcs hmm
    subst hmm
    rw [cellsEv] at hall
    have key : ∀ i, i < len → ∃ d : Ev, (W.cell? (a.add (i * 4)) = some (.int .i64 d.a) ∧ W.cell? (a.add (i * 4 + 1)) = some (.int .i64 d.b) ∧ W.cell? (a.add (i * 4 + 2)) = some (.int .i64 d.c) ∧ W.cell? (a.add (i * 4 + 3)) = some (.string d.d)) ∧ d.in := by
      intro i hi
      obtain ⟨cs', h1, h2⟩ := hall i (by omega)
      obtain ⟨_, hlen, hcell⟩ := World.cells?_some h1
      have e0 := hcell 0 (by omega)
      have e1 := hcell 1 (by omega)
      have e2 := hcell 2 (by omega)
      have e3 := hcell 3 (by omega)
      rw [add_add] at e0 e1 e2 e3
      obtain ⟨y, hcs', hy⟩ := open_ev (cs := cs'.toArray) (by simpa using h2)
      have hcl : cs' = [.int .i64 y.a, .int .i64 y.b, .int .i64 y.c, .string y.d] := by
        have := congrArg Array.toList hcs'
        simpa using this
      subst hcl
      exact ⟨y, ⟨by simpa using e0, by simpa using e1, by simpa using e2, by simpa using e3⟩, hy⟩
    haveI : Inhabited Ev := ⟨evNone⟩
    obtain ⟨q, hq⟩ := choose_lt key
    refine ⟨some a, len, _, q, hcs, ⟨hl, by unfold maxLen at hm; omega, fun hp => ?_⟩, fun i hi => (hq i hi).2⟩
    obtain ⟨b, off, spot⟩ := a
    have hc0 := (hq 0 hp).1.1
    have hspot : spot = none := by simpa [Addr.add] using World.cell?_spot hc0
    subst hspot
    refine ⟨b, off, rfl, ?_, fun i hi => ?_⟩
    · rw [add_plain] at hc0; exact cell_lt hc0
    · obtain ⟨h0, h1, h2, h3⟩ := (hq i hi).1
      rw [add_plain] at h0 h1 h2 h3
      exact ⟨h0, h1, h2, h3⟩
end Go.Proofs.Ytmlikcblfkkpjaa
