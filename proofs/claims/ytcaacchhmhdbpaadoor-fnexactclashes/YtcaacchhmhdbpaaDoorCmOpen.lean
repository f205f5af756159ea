/-
  Commitments that came in read as plain data. No condition.
-/
import Derived.Test.YtcaacchhmhdbpaaDoorSOpen
import Derived.Test.YtcaacchhmhdbpaaDoorCm3
namespace Go.Proofs.YtcaacchhmhdbpaaDoor
open Go.ChangeShapes Go.WideShapes Go.ChangeAt Go.RowKit Go.Deep
set_option linter.unusedVariables false

theorem cellsCm : Tryd.prog.cellsOf 37 = 3 := by kernel_rfl

theorem list3 {α : Type} {l : List α} (h : l.length = 3) : ∃ a b c, l = [a, b, c] := by
  match l, h with
  | [a, b, c], _ => exact ⟨a, b, c, rfl⟩

theorem open_cm {H : Type} {enc : TypeId × Value → H} {W : World} {n : Nat} {cs : Array Value} {x : DataW H × List MemPlace} (h : DataW.trod enc Tryd.prog W 0 (fun _ => true) true n 37 cs.toList = some x) :
    ∃ a c u len cap S, cs = #[.int .i64 a, .int .i64 c, .slice u len cap] ∧ IsStrs W u len cap S ∧ (∀ i, i < len → (S i).size ≤ 9223372036854775807) := by
  obtain ⟨xs, m, _, _, hl, hxl, hf⟩ := DataW.trod_struct Tryd.underlying37 h
  rw [cellsCm] at hl
  obtain ⟨u0, u1, u2, hcs⟩ := list3 hl
  obtain ⟨y0, y1, y2, rfl⟩ := list3 (show xs.length = 3 from hxl)
  have g0 := hf 0 _ rfl
  have g1 := hf 1 _ rfl
  have g2 := hf 2 _ rfl
  rw [hcs] at g0 g1 g2
  simp [cells2, cells24] at g0 g1 g2
  obtain ⟨z0, q0, _⟩ := DataW.trod_int Tryd.underlying2 g0
  obtain ⟨z1, q1, _⟩ := DataW.trod_int Tryd.underlying2 g1
  obtain ⟨u, len, cap, S, q5, hI, hS⟩ := open_strs g2
  simp at q0 q1
  subst q0 q1 q5
  exact ⟨_, _, _, _, _, S, Array.ext' (by rw [hcs]), hI, hS⟩

def cmNone : Cm := ⟨0, 0, none, 0, 0, fun _ => ⟨#[]⟩⟩

/-- commitments that came in read as plain data -/
theorem open_cms {H : Type} {enc : TypeId × Value → H} {W : World} {n : Nat} {v : Value} {x : DataW H × List MemPlace} (h : DataW.trod enc Tryd.prog W 0 (fun _ => true) true n 22 [v] = some x) :
    ∃ a len cap D, v = .slice a len cap ∧ IsCms W a len cap D ∧ CFine D len := by
  rcases open_slice Tryd.underlying22 h with ⟨hcs, _⟩ | ⟨a, len, cap, m, n', D, Pl, hcs, _, hl, hm, hmm, _, hall⟩
  · simp at hcs
    exact ⟨none, 0, 0, fun _ => cmNone, hcs, ⟨Nat.le_refl _, by omega, fun h => absurd h (by omega)⟩, fun i h => absurd h (by omega)⟩
  · simp at hcs hmm
    subst hmm
    rw [cellsCm] at hall
    have key : ∀ i, i < len → ∃ d : Cm, (W.cell? (a.add (i * 3)) = some (.int .i64 d.a) ∧ W.cell? (a.add (i * 3 + 1)) = some (.int .i64 d.c) ∧ W.cell? (a.add (i * 3 + 2)) = some (.slice d.u d.n d.cap) ∧ IsStrs W d.u d.n d.cap d.S) ∧ ∀ j, j < d.n → (d.S j).size ≤ 9223372036854775807 := by
      intro i hi
      obtain ⟨cs', h1, h2⟩ := hall i (by omega)
      obtain ⟨_, hlen, hcell⟩ := World.cells?_some h1
      have e0 := hcell 0 (by omega)
      have e1 := hcell 1 (by omega)
      have e2 := hcell 2 (by omega)
      rw [add_add] at e0 e1 e2
      obtain ⟨za, zc, u, ul, uc, S, hcs', hI, hS⟩ := open_cm (cs := cs'.toArray) (by simpa using h2)
      have hcl : cs' = [.int .i64 za, .int .i64 zc, .slice u ul uc] := by
        have := congrArg Array.toList hcs'
        simpa using this
      subst hcl
      exact ⟨⟨za, zc, u, ul, uc, S⟩, ⟨by simpa using e0, by simpa using e1, by simpa using e2, hI⟩, hS⟩
    haveI : Inhabited Cm := ⟨cmNone⟩
    obtain ⟨q, hq⟩ := choose_lt key
    refine ⟨some a, len, _, q, hcs, ⟨hl, by unfold maxLen at hm; omega, fun hp => ?_⟩, fun i hi => (hq i hi).2⟩
    obtain ⟨b, off, spot⟩ := a
    have hc0 := (hq 0 hp).1.1
    have hspot : spot = none := by simpa [Addr.add] using World.cell?_spot hc0
    subst hspot
    refine ⟨b, off, rfl, ?_, fun i hi => ?_⟩
    · rw [add_plain] at hc0; exact cell_lt hc0
    · obtain ⟨h0, h1, h2, hI⟩ := (hq i hi).1
      rw [add_plain] at h0 h1 h2
      exact ⟨h0, h1, h2, hI⟩
end Go.Proofs.YtcaacchhmhdbpaaDoor
