/-
  Rows and numbers that came in read as plain data. No condition.
-/
import Derived.Test.YtjnngncnfbdpkaaRwU
import Derived.Test.YtjnngncnfbdpkaaRows
import Derived.ProofKit
import Derived.OpenShut
import Derived.ShutString
import Derived.ChangeOld
import Derived.SizedLaws
import Derived.Deep.DeepHandedRow
import Derived.Deep.SlicePairs
namespace Go.Proofs.Ytjnngncnfbdpkaa
open Go.ChangeShapes Go.WideShapes Go.ChangeAt Go.RowKit Go.Deep
set_option linter.unusedVariables false

theorem own : ownKnob Try.prog.godebug = none := by kernel_rfl
theorem laidOut : laidOutB Try.prog = true := by kernel_rfl
theorem cells2 : Try.prog.cellsOf 2 = 1 := by kernel_rfl
theorem cells33 : Try.prog.cellsOf 36 = 1 := by kernel_rfl
theorem cellsRw : Try.prog.cellsOf 43 = 2 := by kernel_rfl

/-- numbers that came in read as a list -/
theorem open_i64 {H : Type} {enc : TypeId × Value → H} {W : World} {n : Nat} {v : Value} {x : DataW H × List MemPlace} (h : DataW.trod enc Try.prog W 0 (fun _ => true) true n 36 [v] = some x) :
    ∃ L : List Int, RdI W v L ∧ ∀ z ∈ L, (Lit.int .i64 z).wf = true := by
  rcases open_ints Try.underlying36 Try.underlying2 cells2 h with ⟨hcs, _⟩ | ⟨a, l, c, zs, hcs, _, hl, hm, hz, _, hcell, hwz⟩
  · simp at hcs
    exact ⟨[], ⟨none, 0, hcs, Nat.le_refl _, by omega, fun h => absurd h (Nat.lt_irrefl _)⟩, fun z hz => by cases hz⟩
  · simp at hcs
    have hzc : zs.length = c := by simpa using hz
    have hzl : (zs.take l).length = l := by rw [List.length_take]; omega
    refine ⟨zs.take l, ⟨some a, c, by rw [hzl]; exact hcs, by rw [hzl]; exact hl, by unfold maxLen at hm; omega, fun hp => ?_⟩, fun z hz' => hwz z (List.mem_of_mem_take hz')⟩
    rw [hzl] at hp ⊢
    obtain ⟨b, off, spot⟩ := a
    have hc0 := hcell 0 (by omega)
    have hspot : spot = none := by simpa [Addr.add] using World.cell?_spot hc0
    subst hspot
    refine ⟨b, off, rfl, ?_, fun i hi => ?_⟩
    · rcases Nat.lt_or_ge b W.heap.size with h' | h'
      · exact h'
      · simp [Addr.add, World.cell?, Array.getElem?_eq_none h'] at hc0
    · have := hcell i (by omega)
      rw [add_plain] at this
      have e : (zs.take l).getD i 0 = zs.getD i 0 := by simp [List.getD_eq_getElem?_getD, hi]
      rw [e]
      exact this

/-- rows that came in read as a list -/
theorem open_rows {H : Type} {enc : TypeId × Value → H} {W : World} {n : Nat} {v : Value} {x : DataW H × List MemPlace} (h : DataW.trod enc Try.prog W 0 (fun _ => true) true n 22 [v] = some x) :
    ∃ L : List Rw, RdR W v L := by
  rcases open_slice_pairs Try.underlying22 Try.underlying43 cellsRw rfl rfl cells2 cells33 h with ⟨hcs, _⟩ | ⟨a, len, cap, m, n', V0, V1, D0, D1, P0, P1, hcs, _, hl, hm, hmm, _, hall⟩
  · simp at hcs
    exact ⟨[], none, 0, hcs, Nat.le_refl _, by omega, fun h => absurd h (Nat.lt_irrefl _)⟩
  · simp at hcs hmm
    subst hmm
    have key : ∀ i, i < len → ∃ q : Rw, W.cell? (a.add (i * 2)) = some (.int .i64 q.who) ∧ ∃ u, W.cell? (a.add (i * 2 + 1)) = some u ∧ RdI W u q.cs := by
      intro i hi
      obtain ⟨c0, c1, t0, t1⟩ := hall i (by omega)
      obtain ⟨z, e0, _, _⟩ := DataW.trod_int Try.underlying2 t0
      obtain ⟨L, hI, _⟩ := open_i64 t1
      simp at e0
      exact ⟨⟨z, L⟩, by rw [c0, e0], _, c1, hI⟩
    haveI : Inhabited Rw := ⟨rwZ⟩
    obtain ⟨q, hq⟩ := choose_lt key
    have hll : ((List.range len).map q).length = len := by simp
    have hget : ∀ i, i < len → ((List.range len).map q).getD i rwZ = q i := fun i hi => by simp [hi]
    refine ⟨(List.range len).map q, some a, _, by rw [hll]; exact hcs, by rw [hll]; exact hl, by unfold maxLen at hm; omega, fun hp => ?_⟩
    rw [hll] at hp ⊢
    obtain ⟨b, off, spot⟩ := a
    have hc0 := (hq 0 hp).1
    have hspot : spot = none := by simpa [Addr.add] using World.cell?_spot hc0
    subst hspot
    refine ⟨b, off, rfl, ?_, fun i hi => ?_⟩
    · rcases Nat.lt_or_ge b W.heap.size with h' | h'
      · exact h'
      · simp [Addr.add, World.cell?, Array.getElem?_eq_none h'] at hc0
    · obtain ⟨h1, u, h2, h3⟩ := hq i hi
      rw [add_plain] at h1 h2
      rw [hget i hi]
      exact ⟨h1, u, h2, h3⟩
end Go.Proofs.Ytjnngncnfbdpkaa
