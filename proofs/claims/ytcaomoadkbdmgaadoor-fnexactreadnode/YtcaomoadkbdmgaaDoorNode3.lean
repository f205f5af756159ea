/-
  The laws' own functions over nodes: szNode, toNode, eqNode. No condition but that the ups read.
-/
import Derived.Test.YtcaomoadkbdmgaaDoorNode2
import Derived.Laws.CopyOwn
namespace Go.Proofs.YtcaomoadkbdmgaaDoor
open Go.RowKit
set_option linter.unusedVariables false

theorem info24 : (Tryd.prog.info? 24).map (·.size) = some 6 := by kernel_rfl
theorem frozN {w : World} {b i : Nat} {cs : Array Value} {t : TypeId} (h : w.heap[b]? = some (.cells cs t (0, 0))) : w.frozen? ⟨b, i, none⟩ = false := by simp [World.frozen?, h]

set_option maxHeartbeats 1000000 in
set_option maxHeartbeats 1000000 in
set_option maxHeartbeats 1000000 in
set_option maxHeartbeats 1000000 in
theorem eqNode_same (a s k : Int) (key text : ByteArray) (u u' : Option Addr) (len cap cap' : Nat) (S : Nat → ByteArray) (w : World) (h : IsStrs w u len cap S) (h' : IsStrs w u' len cap' S) :
    Calls Tryd.prog 6 #[.agg #[.int .i64 a, .int .i64 s, .int .i64 k, .string key, .string text, .slice u len cap], .agg #[.int .i64 a, .int .i64 s, .int .i64 k, .string key, .string text, .slice u' len cap']] w fun e w' => e = .returned (.bool true) ∧ Below w.heap.size w w' := by
  have HB : Hid (∀ o o', Below w.heap.size w ((w.alloc o).alloc o')) := fun o o' => ((Below.refl _ _).alloc (Nat.le_refl _) _).alloc (by simp) _
  have HI : Hid (∀ o o', IsStrs ((w.alloc o).alloc o') u len cap S) := fun o o' => h.below (HB.out o o')
  have HI' : Hid (∀ o o', IsStrs ((w.alloc o).alloc o') u' len cap' S) := fun o o' => h'.below (HB.out o o')
  have e1 : (a != a) = false := by simp
  have e2 : (s != s) = false := by simp
  have e3 : (k != k) = false := by simp
  have e4 : (key.toList != key.toList) = false := by simp
  have e5 : (text.toList != text.toList) = false := by simp
  clear h h'
  go_enter Tryd.func6, Tryd.ntmps6
  go_wp2_with fail
  refine (eqStringS_same _ _ _ _ _ S _ (HI.out _ _) (HI'.out _ _)).mono ?_
  rintro e w1 ⟨rfl, hB1⟩
  go_wp2
  go_ret
  exact ⟨rfl, (HB.out _ _).trans (hB1.mono (HB.out _ _).size)⟩

end Go.Proofs.YtcaomoadkbdmgaaDoor
