/-
  A peer that came in reads as two dags. No condition.
-/
import Derived.Test.YtjhbccppihledaaGreatDoorDagOpen
import Derived.Test.YtjhbccppihledaaGreatDoorPeer
namespace Go.Proofs.YtjhbccppihledaaGreatDoor
open Go.ChangeShapes Go.WideShapes Go.ChangeAt Go.RowKit Go.Deep
set_option linter.unusedVariables false

theorem cellsPeer : Tryz.prog.cellsOf 38 = 2 := by kernel_rfl
theorem cellsNds : Tryz.prog.cellsOf 22 = 1 := by kernel_rfl

theorem list2 {α : Type} {l : List α} (h : l.length = 2) : ∃ a b, l = [a, b] := by
  match l, h with
  | [a, b], _ => exact ⟨a, b, rfl⟩

theorem open_peer {H : Type} {enc : TypeId × Value → H} {W : World} {n : Nat} {cs : Array Value} {x : DataW H × List MemPlace} (h : DataW.trod enc Tryz.prog W 0 (fun _ => true) true n 38 cs.toList = some x) :
    ∃ a n cap D b m mcap E, cs = #[.slice a n cap, .slice b m mcap] ∧ IsNds W a n cap D ∧ Fine D n ∧ IsNds W b m mcap E ∧ Fine E m := by
  obtain ⟨xs, m, _, _, hl, hxl, hf⟩ := DataW.trod_struct Tryz.underlying38 h
  rw [cellsPeer] at hl
  obtain ⟨u0, u1, hcs⟩ := list2 hl
  obtain ⟨y0, y1, rfl⟩ := list2 (show xs.length = 2 from hxl)
  have g0 := hf 0 _ rfl
  have g1 := hf 1 _ rfl
  rw [hcs] at g0 g1
  simp [cellsNds] at g0 g1
  obtain ⟨a, n, cap, D, q0, hI, hF⟩ := open_dag g0
  obtain ⟨b, m, mcap, E, q1, hI', hF'⟩ := open_dag g1
  subst q0 q1
  exact ⟨_, _, _, D, _, _, _, E, Array.ext' (by rw [hcs]), hI, hF, hI', hF'⟩
end Go.Proofs.YtjhbccppihledaaGreatDoor
