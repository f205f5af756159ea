/-
  A dag that came in reads as its nodes; the tables that the row lists. No condition.
-/
import Derived.Test.YtlibipbpaigmdaaGreatDoorDag7
import Derived.Test.YtlibipbpaigmdaaGreatDoorRows
import Derived.Test.YtlibipbpaigmdaaGreatDoorCards
import Derived.Test.YtlibipbpaigmdaaGreatDoorTie
import Derived.ProofKit
import Derived.OpenShut
import Derived.Deep.DeepHandedRow
import Derived.Lib.LaidTab
import Derived.Lay
import Derived.ShutString
import Derived.ChangeOld
namespace Go.Proofs.YtlibipbpaigmdaaGreatDoor
open Go.ChangeShapes Go.WideShapes Go.ChangeAt Go.RowKit Go.Deep
set_option linter.unusedVariables false

theorem ownN : ownKnob Tryz.prog.godebug = none := by kernel_rfl
theorem laidOutN : laidOutB Tryz.prog = true := by kernel_rfl
theorem cells9 : Tryz.prog.cellsOf 9 = 1 := by kernel_rfl
theorem cells2 : Tryz.prog.cellsOf 2 = 1 := by kernel_rfl
theorem cells25 : Tryz.prog.cellsOf 25 = 1 := by kernel_rfl
theorem cells74 : Tryz.prog.cellsOf 74 = 6 := by kernel_rfl

theorem list6 {α : Type} {l : List α} (h : l.length = 6) : ∃ a b c d e f, l = [a, b, c, d, e, f] := by
  match l, h with
  | [a, b, c, d, e, f], _ => exact ⟨a, b, c, d, e, f, rfl⟩

/-- a slice of texts that came in reads as texts -/
theorem open_strs {H : Type} {enc : TypeId × Value → H} {W : World} {n : Nat} {v : Value} {x : DataW H × List MemPlace} (h : DataW.trod enc Tryz.prog W 0 (fun _ => true) true n 25 [v] = some x) :
    ∃ a len cap S, v = .slice a len cap ∧ IsStrs W a len cap S ∧ ∀ i, i < len → (S i).size ≤ 9223372036854775807 := by
  rcases open_slice Tryz.underlying25 h with ⟨hcs, _⟩ | ⟨a, len, cap, m, n', D, Pl, hcs, _, hl, hm, hmm, _, hall⟩
  · simp at hcs
    exact ⟨none, 0, 0, fun _ => ⟨#[]⟩, hcs, ⟨Nat.le_refl _, by omega, fun h => absurd h (by omega)⟩, fun i h => absurd h (by omega)⟩
  · simp at hcs hmm
    subst hmm
    rw [cells9] at hall
    have key : ∀ i, i < len → ∃ s : ByteArray, W.cell? (a.add (i * 1)) = some (.string s) ∧ s.size ≤ 9223372036854775807 := by
      intro i hi
      obtain ⟨cs', h1, h2⟩ := hall i (by omega)
      obtain ⟨_, hlen, hcell⟩ := World.cells?_some h1
      obtain ⟨s, rfl, _, hs⟩ := DataW.trod_string Tryz.underlying9 h2
      have e0 := hcell 0 (by omega)
      rw [add_add] at e0
      exact ⟨s, by simpa using e0, by unfold maxLen at hs; omega⟩
    obtain ⟨q, hq⟩ := choose_lt key
    refine ⟨some a, len, _, q, hcs, ⟨hl, by unfold maxLen at hm; omega, fun hp => ?_⟩, fun i hi => (hq i hi).2⟩
    obtain ⟨b, off, spot⟩ := a
    have hc0 := (hq 0 hp).1
    have hspot : spot = none := by simpa [Addr.add] using World.cell?_spot hc0
    subst hspot
    refine ⟨b, off, rfl, ?_, fun i hi => ?_⟩
    · rw [add_plain] at hc0; exact cell_lt hc0
    · have h1 := (hq i hi).1
      rw [add_plain, Nat.mul_one] at h1
      exact h1


theorem open_node {H : Type} {enc : TypeId × Value → H} {W : World} {n : Nat} {cs : Array Value} {x : DataW H × List MemPlace} (h : DataW.trod enc Tryz.prog W 0 (fun _ => true) true n 74 cs.toList = some x) :
    ∃ a s k key text u len cap S, cs = #[.int .i64 a, .int .i64 s, .int .i64 k, .string key, .string text, .slice u len cap] ∧ IsStrs W u len cap S ∧ (∀ i, i < len → (S i).size ≤ 9223372036854775807) ∧ key.size ≤ 9223372036854775807 ∧ text.size ≤ 9223372036854775807 := by
  obtain ⟨xs, m, _, _, hl, hxl, hf⟩ := DataW.trod_struct Tryz.underlying74 h
  rw [cells74] at hl
  obtain ⟨u0, u1, u2, u3, u4, u5, hcs⟩ := list6 hl
  obtain ⟨y0, y1, y2, y3, y4, y5, rfl⟩ := list6 (show xs.length = 6 from hxl)
  have g0 := hf 0 _ rfl
  have g1 := hf 1 _ rfl
  have g2 := hf 2 _ rfl
  have g3 := hf 3 _ rfl
  have g4 := hf 4 _ rfl
  have g5 := hf 5 _ rfl
  rw [hcs] at g0 g1 g2 g3 g4 g5
  simp [cells2, cells9, cells25] at g0 g1 g2 g3 g4 g5
  obtain ⟨z0, q0, _⟩ := DataW.trod_int Tryz.underlying2 g0
  obtain ⟨z1, q1, _⟩ := DataW.trod_int Tryz.underlying2 g1
  obtain ⟨z2, q2, _⟩ := DataW.trod_int Tryz.underlying2 g2
  obtain ⟨s3, q3, _, l3⟩ := DataW.trod_string Tryz.underlying9 g3
  obtain ⟨s4, q4, _, l4⟩ := DataW.trod_string Tryz.underlying9 g4
  obtain ⟨u, len, cap, S, q5, hI, hS⟩ := open_strs g5
  simp at q0 q1 q2 q3 q4
  subst q0 q1 q2 q3 q4 q5
  refine ⟨_, _, _, _, _, _, _, _, S, Array.ext' (by rw [hcs]), hI, hS, ?_, ?_⟩
  · unfold maxLen at l3; omega
  · unfold maxLen at l4; omega

def ndNone : Nd := ⟨0, 0, 0, ⟨#[]⟩, ⟨#[]⟩, none, 0, 0, fun _ => ⟨#[]⟩⟩

/-- a dag that came in reads as nodes -/
theorem open_dag {H : Type} {enc : TypeId × Value → H} {W : World} {n : Nat} {v : Value} {x : DataW H × List MemPlace} (h : DataW.trod enc Tryz.prog W 0 (fun _ => true) true n 22 [v] = some x) :
    ∃ a len cap D, v = .slice a len cap ∧ IsNds W a len cap D ∧ Fine D len := by
  rcases open_slice Tryz.underlying22 h with ⟨hcs, _⟩ | ⟨a, len, cap, m, n', D, Pl, hcs, _, hl, hm, hmm, _, hall⟩
  · simp at hcs
    exact ⟨none, 0, 0, fun _ => ndNone, hcs, ⟨Nat.le_refl _, by omega, fun h => absurd h (by omega)⟩, fun i h => absurd h (by omega)⟩
  · simp at hcs hmm
    subst hmm
    rw [cells74] at hall
    have key : ∀ i, i < len → ∃ d : Nd, (W.cell? (a.add (i * 6)) = some (.int .i64 d.a) ∧ W.cell? (a.add (i * 6 + 1)) = some (.int .i64 d.s) ∧ W.cell? (a.add (i * 6 + 2)) = some (.int .i64 d.k) ∧ W.cell? (a.add (i * 6 + 3)) = some (.string d.key) ∧ W.cell? (a.add (i * 6 + 4)) = some (.string d.text) ∧ W.cell? (a.add (i * 6 + 5)) = some (.slice d.u d.n d.cap) ∧ IsStrs W d.u d.n d.cap d.S) ∧ d.key.size ≤ 9223372036854775807 ∧ d.text.size ≤ 9223372036854775807 ∧ ∀ j, j < d.n → (d.S j).size ≤ 9223372036854775807 := by
      intro i hi
      obtain ⟨cs', h1, h2⟩ := hall i (by omega)
      obtain ⟨_, hlen, hcell⟩ := World.cells?_some h1
      have e0 := hcell 0 (by omega)
      have e1 := hcell 1 (by omega)
      have e2 := hcell 2 (by omega)
      have e3 := hcell 3 (by omega)
      have e4 := hcell 4 (by omega)
      have e5 := hcell 5 (by omega)
      rw [add_add] at e0 e1 e2 e3 e4 e5
      obtain ⟨za, zs, zk, key, text, u, ul, uc, S, hcs', hI, hS, hk, ht⟩ := open_node (cs := cs'.toArray) (by simpa using h2)
      have hcl : cs' = [.int .i64 za, .int .i64 zs, .int .i64 zk, .string key, .string text, .slice u ul uc] := by
        have := congrArg Array.toList hcs'
        simpa using this
      subst hcl
      exact ⟨⟨za, zs, zk, key, text, u, ul, uc, S⟩, ⟨by simpa using e0, by simpa using e1, by simpa using e2, by simpa using e3, by simpa using e4, by simpa using e5, hI⟩, hk, ht, hS⟩
    haveI : Inhabited Nd := ⟨ndNone⟩
    obtain ⟨q, hq⟩ := choose_lt key
    refine ⟨some a, len, _, q, hcs, ⟨hl, by unfold maxLen at hm; omega, fun hp => ?_⟩, fun i hi => (hq i hi).2⟩
    obtain ⟨b, off, spot⟩ := a
    have hc0 := (hq 0 hp).1.1
    have hspot : spot = none := by simpa [Addr.add] using World.cell?_spot hc0
    subst hspot
    refine ⟨b, off, rfl, ?_, fun i hi => ?_⟩
    · rw [add_plain] at hc0; exact cell_lt hc0
    · obtain ⟨h0, h1, h2, h3, h4, h5, hI⟩ := (hq i hi).1
      rw [add_plain] at h0 h1 h2 h3 h4 h5
      exact ⟨h0, h1, h2, h3, h4, h5, hI⟩

theorem gPT : (Tryz.prog.globals[2]?).map (·.type) = some 238 := by kernel_rfl
theorem cells238 : Tryz.prog.cellsOf 238 = 20 := by kernel_rfl
theorem cells176 : Tryz.prog.cellsOf 176 = 1 := by kernel_rfl

theorem pow_of_one {W : World} (h : laidMetH Tryz.prog [("internal/strconv.uint64pow10", Rows.laid_internal_strconv_uint64pow10)] W) : Pow W :=
  Lib.tabIs_of_head (zs := Lib.pow10Tab) (rest := []) gP gPT Tryz.underlying238 Tryz.underlying176 cells176 cells238 h

end Go.Proofs.YtlibipbpaigmdaaGreatDoor
