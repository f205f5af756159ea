/-
  Disks that came in read as plain data. No condition.
-/
import Derived.Test.YtbohaefmokbgbaaDkX2
import Derived.Test.YtbohaefmokbgbaaRows
import Derived.ProofKit
import Derived.OpenShut
import Derived.ShutString
import Derived.ChangeOld
import Derived.SizedLaws
namespace Go.Proofs.Ytbohaefmokbgbaa
open Go.ChangeShapes Go.WideShapes Go.ChangeAt Go.RowKit Go.Deep
set_option linter.unusedVariables false

theorem own : ownKnob Try.prog.godebug = none := by kernel_rfl
theorem laidOut : laidOutB Try.prog = true := by kernel_rfl
theorem cells2 : Try.prog.cellsOf 2 = 1 := by kernel_rfl
theorem cells9 : Try.prog.cellsOf 9 = 1 := by kernel_rfl
theorem cellsDisk : Try.prog.cellsOf 42 = 3 := by kernel_rfl
theorem list2 {α : Type} {l : List α} (h : l.length = 2) : ∃ a b, l = [a, b] := by
  match l, h with
  | [a, b], _ => exact ⟨a, b, rfl⟩
theorem list3 {α : Type} {l : List α} (h : l.length = 3) : ∃ a b c, l = [a, b, c] := by
  match l, h with
  | [a, b, c], _ => exact ⟨a, b, c, rfl⟩
theorem list4 {α : Type} {l : List α} (h : l.length = 4) : ∃ a b c d, l = [a, b, c, d] := by
  match l, h with
  | [a, b, c, d], _ => exact ⟨a, b, c, d, rfl⟩

theorem cellsFile : Try.prog.cellsOf 126 = 2 := by kernel_rfl
theorem cellsFileS : Try.prog.cellsOf 39 = 1 := by kernel_rfl
theorem openFile {H : Type} {enc : TypeId × Value → H} {W : World} {n : Nat} {cs : Array Value} {x : DataW H × List MemPlace} (h : DataW.trod enc Try.prog W 0 (fun _ => true) true n 126 cs.toList = some x) :
    ∃ y : Fl, cs = #[.string y.n, .string y.d] ∧ (y.n.size ≤ 9223372036854775807 ∧ y.d.size ≤ 9223372036854775807) := by
  obtain ⟨xs, m, _, _, hl, hxl, hf⟩ := DataW.trod_struct Try.underlying126 h
  rw [cellsFile] at hl
  obtain ⟨u0, u1, hcs⟩ := list2 hl
  obtain ⟨y0, y1, rfl⟩ := list2 (show xs.length = 2 from hxl)
  have g0 := hf 0 _ rfl
  have g1 := hf 1 _ rfl
  rw [hcs] at g0 g1
  simp [cells9] at g0 g1
  obtain ⟨z0, q0, _, hz0⟩ := DataW.trod_string Try.underlying9 g0
  obtain ⟨z1, q1, _, hz1⟩ := DataW.trod_string Try.underlying9 g1
  simp at q0 q1
  subst q0 q1
  exact ⟨⟨z0, z1⟩, Array.ext' (by rw [hcs]), Nat.le_trans hz0 (by decide), Nat.le_trans hz1 (by decide)⟩
theorem openFileS {H : Type} {enc : TypeId × Value → H} {W : World} {n : Nat} {v : Value} {x : DataW H × List MemPlace} (h : DataW.trod enc Try.prog W 0 (fun _ => true) true n 39 [v] = some x) :
    ∃ L : List Fl, RdF W v L ∧ ∀ y ∈ L, y.n.size ≤ 9223372036854775807 ∧ y.d.size ≤ 9223372036854775807 := by
  rcases open_slice Try.underlying39 h with ⟨hcs, _⟩ | ⟨a, len, cap, m, n', D, Pl, hcs, _, hl, hm, hmm, _, hall⟩
  · simp at hcs
    exact ⟨[], ⟨none, 0, hcs, Nat.le_refl _, by omega, fun h => absurd h (by simp)⟩, fun y h => by cases h⟩
  · simp at hcs hmm
    subst hmm
    rw [cellsFile] at hall
    have key : ∀ i, i < len → ∃ d : Fl, (W.cell? (a.add (i * 2)) = some (.string d.n) ∧ W.cell? (a.add (i * 2 + 1)) = some (.string d.d)) ∧ (d.n.size ≤ 9223372036854775807 ∧ d.d.size ≤ 9223372036854775807) := by
      intro i hi
      obtain ⟨cs', h1, h2⟩ := hall i (by omega)
      obtain ⟨_, hlen, hcell⟩ := World.cells?_some h1
      have e0 := hcell 0 (by omega)
      have e1 := hcell 1 (by omega)
      rw [add_add] at e0 e1
      obtain ⟨y, hcs', hy⟩ := openFile (cs := cs'.toArray) (by simpa using h2)
      have hcl : cs' = [.string y.n, .string y.d] := by
        have := congrArg Array.toList hcs'
        simpa using this
      subst hcl
      exact ⟨y, ⟨by simpa using e0, by simpa using e1⟩, hy⟩
    haveI : Inhabited Fl := ⟨flZ⟩
    obtain ⟨q, hq⟩ := choose_lt key
    refine ⟨List.ofFn fun i : Fin len => q i.val, ⟨some a, _, by rw [hcs, List.length_ofFn], by rw [List.length_ofFn]; exact hl, by unfold maxLen at hm; omega, fun hp => ?_⟩, fun y hy => ?_⟩
    · have hp : 0 < len := by simpa using hp
      obtain ⟨b, off, spot⟩ := a
      have hc0 := (hq 0 hp).1.1
      have hspot : spot = none := by simpa [Addr.add] using World.cell?_spot hc0
      subst hspot
      refine ⟨b, off, rfl, ?_, fun i hi => ?_⟩
      · rw [add_plain] at hc0; exact cell_lt hc0
      · have hg : (List.ofFn fun i : Fin len => q i.val).getD i flZ = q i := by simp [show i < len by simpa using hi]
        rw [hg]
        obtain ⟨h0, h1⟩ := (hq i (by simpa using hi)).1
        rw [add_plain] at h0 h1
        exact ⟨h0, h1⟩
    · obtain ⟨i, rfl⟩ := (List.mem_ofFn).1 hy
      exact (hq i.val i.isLt).2

theorem cellsDOp : Try.prog.cellsOf 44 = 4 := by kernel_rfl
theorem cellsDOpS : Try.prog.cellsOf 40 = 1 := by kernel_rfl
theorem openDOp {H : Type} {enc : TypeId × Value → H} {W : World} {n : Nat} {cs : Array Value} {x : DataW H × List MemPlace} (h : DataW.trod enc Try.prog W 0 (fun _ => true) true n 44 cs.toList = some x) :
    ∃ y : Dop, cs = #[.int .i64 y.k, .string y.n, .string y.t, .string y.d] ∧ (y.n.size ≤ 9223372036854775807 ∧ y.t.size ≤ 9223372036854775807 ∧ y.d.size ≤ 9223372036854775807) := by
  obtain ⟨xs, m, _, _, hl, hxl, hf⟩ := DataW.trod_struct Try.underlying44 h
  rw [cellsDOp] at hl
  obtain ⟨u0, u1, u2, u3, hcs⟩ := list4 hl
  obtain ⟨y0, y1, y2, y3, rfl⟩ := list4 (show xs.length = 4 from hxl)
  have g0 := hf 0 _ rfl
  have g1 := hf 1 _ rfl
  have g2 := hf 2 _ rfl
  have g3 := hf 3 _ rfl
  rw [hcs] at g0 g1 g2 g3
  simp [cells2, cells9] at g0 g1 g2 g3
  obtain ⟨z0, q0, _⟩ := DataW.trod_int Try.underlying2 g0
  obtain ⟨z1, q1, _, hz1⟩ := DataW.trod_string Try.underlying9 g1
  obtain ⟨z2, q2, _, hz2⟩ := DataW.trod_string Try.underlying9 g2
  obtain ⟨z3, q3, _, hz3⟩ := DataW.trod_string Try.underlying9 g3
  simp at q0 q1 q2 q3
  subst q0 q1 q2 q3
  exact ⟨⟨z0, z1, z2, z3⟩, Array.ext' (by rw [hcs]), Nat.le_trans hz1 (by decide), Nat.le_trans hz2 (by decide), Nat.le_trans hz3 (by decide)⟩
theorem openDOpS {H : Type} {enc : TypeId × Value → H} {W : World} {n : Nat} {v : Value} {x : DataW H × List MemPlace} (h : DataW.trod enc Try.prog W 0 (fun _ => true) true n 40 [v] = some x) :
    ∃ L : List Dop, RdO W v L ∧ ∀ y ∈ L, y.n.size ≤ 9223372036854775807 ∧ y.t.size ≤ 9223372036854775807 ∧ y.d.size ≤ 9223372036854775807 := by
  rcases open_slice Try.underlying40 h with ⟨hcs, _⟩ | ⟨a, len, cap, m, n', D, Pl, hcs, _, hl, hm, hmm, _, hall⟩
  · simp at hcs
    exact ⟨[], ⟨none, 0, hcs, Nat.le_refl _, by omega, fun h => absurd h (by simp)⟩, fun y h => by cases h⟩
  · simp at hcs hmm
    subst hmm
    rw [cellsDOp] at hall
    have key : ∀ i, i < len → ∃ d : Dop, (W.cell? (a.add (i * 4)) = some (.int .i64 d.k) ∧ W.cell? (a.add (i * 4 + 1)) = some (.string d.n) ∧ W.cell? (a.add (i * 4 + 2)) = some (.string d.t) ∧ W.cell? (a.add (i * 4 + 3)) = some (.string d.d)) ∧ (d.n.size ≤ 9223372036854775807 ∧ d.t.size ≤ 9223372036854775807 ∧ d.d.size ≤ 9223372036854775807) := by
      intro i hi
      obtain ⟨cs', h1, h2⟩ := hall i (by omega)
      obtain ⟨_, hlen, hcell⟩ := World.cells?_some h1
      have e0 := hcell 0 (by omega)
      have e1 := hcell 1 (by omega)
      have e2 := hcell 2 (by omega)
      have e3 := hcell 3 (by omega)
      rw [add_add] at e0 e1 e2 e3
      obtain ⟨y, hcs', hy⟩ := openDOp (cs := cs'.toArray) (by simpa using h2)
      have hcl : cs' = [.int .i64 y.k, .string y.n, .string y.t, .string y.d] := by
        have := congrArg Array.toList hcs'
        simpa using this
      subst hcl
      exact ⟨y, ⟨by simpa using e0, by simpa using e1, by simpa using e2, by simpa using e3⟩, hy⟩
    haveI : Inhabited Dop := ⟨dopZ⟩
    obtain ⟨q, hq⟩ := choose_lt key
    refine ⟨List.ofFn fun i : Fin len => q i.val, ⟨some a, _, by rw [hcs, List.length_ofFn], by rw [List.length_ofFn]; exact hl, by unfold maxLen at hm; omega, fun hp => ?_⟩, fun y hy => ?_⟩
    · have hp : 0 < len := by simpa using hp
      obtain ⟨b, off, spot⟩ := a
      have hc0 := (hq 0 hp).1.1
      have hspot : spot = none := by simpa [Addr.add] using World.cell?_spot hc0
      subst hspot
      refine ⟨b, off, rfl, ?_, fun i hi => ?_⟩
      · rw [add_plain] at hc0; exact cell_lt hc0
      · have hg : (List.ofFn fun i : Fin len => q i.val).getD i dopZ = q i := by simp [show i < len by simpa using hi]
        rw [hg]
        obtain ⟨h0, h1, h2, h3⟩ := (hq i (by simpa using hi)).1
        rw [add_plain] at h0 h1 h2 h3
        intro t ht
        rcases t with _ | _ | _ | _ | t
        · exact h0
        · exact h1
        · exact h2
        · exact h3
        · omega
    · obtain ⟨i, rfl⟩ := (List.mem_ofFn).1 hy
      exact (hq i.val i.isLt).2

theorem openDisk {H : Type} {enc : TypeId × Value → H} {W : World} {n : Nat} {cs : Array Value} {x : DataW H × List MemPlace} (h : DataW.trod enc Try.prog W 0 (fun _ => true) true n 42 cs.toList = some x) :
    ∃ vL vS vO L S O, cs = #[vL, vS, vO] ∧ RdF W vL L ∧ RdF W vS S ∧ RdO W vO O ∧ InD L S O := by
  obtain ⟨xs, m, _, _, hl, hxl, hf⟩ := DataW.trod_struct Try.underlying42 h
  rw [cellsDisk] at hl
  obtain ⟨u0, u1, u2, hcs⟩ := list3 hl
  obtain ⟨y0, y1, y2, rfl⟩ := list3 (show xs.length = 3 from hxl)
  have g0 := hf 0 _ rfl
  have g1 := hf 1 _ rfl
  have g2 := hf 2 _ rfl
  rw [hcs] at g0 g1 g2
  simp [cellsFileS, cellsDOpS] at g0 g1 g2
  obtain ⟨L, hL, iL⟩ := openFileS g0
  obtain ⟨S, hS, iS⟩ := openFileS g1
  obtain ⟨O, hO, iO⟩ := openDOpS g2
  exact ⟨u0, u1, u2, L, S, O, Array.ext' (by rw [hcs]), hL, hS, hO, iL, iS, iO⟩
end Go.Proofs.Ytbohaefmokbgbaa
