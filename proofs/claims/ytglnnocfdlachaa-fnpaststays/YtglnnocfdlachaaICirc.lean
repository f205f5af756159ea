/-
  A circle with the founder alone. No condition.
-/
import Derived.Test.YtglnnocfdlachaaIHas
namespace Go.Proofs.Ytglnnocfdlachaa
open Go.RowKit Go.Maps
set_option linter.unusedVariables false

theorem hasNil (x : Int) : has (.map [] : DataW Value) (.int .i64 x) = false := by simp [has_eq]

set_option maxHeartbeats 2000000 in
theorem newCircle_any (w : World) :
    Calls Try.prog 33 #[] w fun e w' => ∃ EM EA : DataW Value, e = .returned (.pointer (some ⟨w.heap.size + 2, 0, none⟩)) ∧ w'.heap[w.heap.size + 2]? = some (.cells #[.map (some w.heap.size), .map (some (w.heap.size + 1))] 65 (0, 0)) ∧ SetI w' w.heap.size 1 EM ∧ SetI w' (w.heap.size + 1) 1 EA ∧ (∀ x, has EM (.int .i64 x) = true ↔ x = 1) ∧ (∀ x, has EA (.int .i64 x) = true ↔ x = 1) ∧ Below w.heap.size w w' := by
  have hmm := @run_makeMap Try.prog
  obtain ⟨Y, hY⟩ : ∃ Y, Y = ((w.alloc (.map #[] 0)).alloc (.map #[] 0)).alloc (.cells #[.map (some w.heap.size), .map (some (w.heap.size + 1))] 65) := ⟨_, rfl⟩
  have s0 : SetI Y w.heap.size 0 (.map []) := by
    rw [hY]
    refine SetI.below (SetI.below (World.ownsMap_made w _ _ _) ((Below.refl _ _).alloc (Nat.le_refl _) _)) ((Below.refl _ _).alloc (Nat.le_refl _) _)
  have s1 : SetI Y (w.heap.size + 1) 0 (.map []) := by
    rw [hY]
    refine SetI.below ?_ ((Below.refl _ _).alloc (Nat.le_refl _) _)
    have := World.ownsMap_made (w.alloc (.map #[] 0)) Try.prog 2 (unitElem (H := Value))
    simpa [SetI] using this
  have g : Y.heap[w.heap.size + 2]? = some (.cells #[.map (some w.heap.size), .map (some (w.heap.size + 1))] 65 (0, 0)) := by
    rw [hY]
    have := heap_alloc_new ((w.alloc (.map #[] 0)).alloc (.map #[] 0)) (.cells #[.map (some w.heap.size), .map (some (w.heap.size + 1))] 65)
    simpa using this
  have hB : Below w.heap.size w Y := by rw [hY]; exact (((Below.refl _ _).alloc (Nat.le_refl _) _).alloc (by simp) _).alloc (by simp; omega) _
  have hs : Y.heap.size = w.heap.size + 3 := by rw [hY]; simp
  have HH : Hid (SetI Y w.heap.size 0 (.map []) ∧ SetI Y (w.heap.size + 1) 0 (.map []) ∧ Y.heap[w.heap.size + 2]? = some (.cells #[.map (some w.heap.size), .map (some (w.heap.size + 1))] 65 (0, 0)) ∧ Below w.heap.size w Y ∧ Y.heap.size = w.heap.size + 3) := ⟨s0, s1, g, hB, hs⟩
  have HY : Hid (Y = _) := hY
  clear hY s0 s1 g hB hs
  go_enter Try.func33, Try.ntmps33
  go_wp2_with fail
  rw [← HY.out]
  refine (putI_any w.heap.size 0 (.map []) 1 Y HH.out.1 (by omega) rfl).mono ?_
  rintro e w1 ⟨rfl, hS1, hG1⟩
  have g1 : w1.heap[w.heap.size + 2]? = _ := (hG1.block _ (by have := HH.out.2.2.2.2; omega) (by simp)).trans HH.out.2.2.1
  have t1 : SetI w1 (w.heap.size + 1) 0 (.map []) := HH.out.2.1.kept (hG1.block _ (by have := HH.out.2.2.2.2; omega) (by simp))
  have b1 : Below w.heap.size w w1 := HH.out.2.2.2.1.grown hG1 HH.out.2.2.2.1.size (fun k hk => by cases hk; exact Nat.le_refl _)
  have z1 := hG1.size
  have d1 : w1.cell? ⟨w.heap.size + 2, 1, none⟩ = some (.map (some (w.heap.size + 1))) := cellN g1
  have HK : Hid (_ ∧ _ ∧ _ ∧ _ ∧ _) := ⟨hS1, g1, t1, b1, z1⟩
  clear hS1 g1 t1 b1 z1 hG1
  go_wp2_with fail
  refine (putI_any (w.heap.size + 1) 0 (.map []) 1 w1 HK.out.2.2.1 (by omega) rfl).mono ?_
  rintro e w2 ⟨rfl, hS2, hG2⟩
  have hz : Y.heap.size ≤ w1.heap.size := HK.out.2.2.2.2
  have g2 := (hG2.block (w.heap.size + 2) (by have := HH.out.2.2.2.2; omega) (by simp)).trans HK.out.2.1
  have t2 : SetI w2 w.heap.size 1 (putI (.map []) 1) := HK.out.1.kept (hG2.block _ (by have := HH.out.2.2.2.2; omega) (by simp))
  have b2 : Below w.heap.size w w2 := HK.out.2.2.2.1.grown hG2 HK.out.2.2.2.1.size (fun k hk => by cases hk; exact Nat.le_succ _)
  have hm : ∀ x : Int, has (putI (.map []) 1) (.int .i64 x) = true ↔ x = 1 := fun x => by
    rw [putI_has (by simp [IsMap]), hasNil]
    simp [eq_comm]
  have HE : Hid (_ ∧ _ ∧ _ ∧ _ ∧ _) := ⟨g2, t2, hS2, hm, b2⟩
  clear g2 t2 hS2 hm b2 hG2
  go_wp2
  go_ret
  exact ⟨_, _, rfl, HE.out.1, HE.out.2.1, HE.out.2.2.1, HE.out.2.2.2.1, HE.out.2.2.2.1, HE.out.2.2.2.2⟩
end Go.Proofs.Ytglnnocfdlachaa
