/-
  The law of NodeOk returns true. No condition but that the ups read.
-/
import Derived.Test.YtlibipbpaigmdaaGreatDoorNode3
import Derived.Deep.RegionHeld3
namespace Go.Proofs.YtlibipbpaigmdaaGreatDoor
open Go.RowKit
set_option linter.unusedVariables false

/-- a node lies at block b -/
structure NodeAt (w : World) (b : Nat) (a s k : Int) (key text : ByteArray) (v : Value) : Prop where
  c0 : w.cell? ⟨b, 0, none⟩ = some (.int .i64 a)
  c1 : w.cell? ⟨b, 1, none⟩ = some (.int .i64 s)
  c2 : w.cell? ⟨b, 2, none⟩ = some (.int .i64 k)
  c3 : w.cell? ⟨b, 3, none⟩ = some (.string key)
  c4 : w.cell? ⟨b, 4, none⟩ = some (.string text)
  c5 : w.cell? ⟨b, 5, none⟩ = some v

theorem NodeAt.new (w : World) (a s k : Int) (key text : ByteArray) (v : Value) (t : TypeId) : NodeAt (w.alloc (.cells #[.int .i64 a, .int .i64 s, .int .i64 k, .string key, .string text, v] t)) w.heap.size a s k key text v :=
  ⟨cellN (heap_alloc_new w _), cellN (heap_alloc_new w _), cellN (heap_alloc_new w _), cellN (heap_alloc_new w _), cellN (heap_alloc_new w _), cellN (heap_alloc_new w _)⟩
theorem NodeAt.below {w w' : World} {b : Nat} {a s k : Int} {key text : ByteArray} {v : Value} (h : NodeAt w b a s k key text v) (hB : Below w.heap.size w w') : NodeAt w' b a s k key text v :=
  ⟨(hB.cell (p := ⟨b, 0, none⟩) (cell_lt h.c0)).trans h.c0, (hB.cell (p := ⟨b, 1, none⟩) (cell_lt h.c0)).trans h.c1, (hB.cell (p := ⟨b, 2, none⟩) (cell_lt h.c0)).trans h.c2, (hB.cell (p := ⟨b, 3, none⟩) (cell_lt h.c0)).trans h.c3, (hB.cell (p := ⟨b, 4, none⟩) (cell_lt h.c0)).trans h.c4, (hB.cell (p := ⟨b, 5, none⟩) (cell_lt h.c0)).trans h.c5⟩

end Go.Proofs.YtlibipbpaigmdaaGreatDoor
