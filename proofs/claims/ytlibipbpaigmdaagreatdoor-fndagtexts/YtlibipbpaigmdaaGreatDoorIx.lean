/-
  A place of an array of words, by value.
-/
import Derived.Test.YtlibipbpaigmdaaGreatDoorSched
namespace Go.Proofs.YtlibipbpaigmdaaGreatDoor
open Go.RowKit
set_option linter.unusedVariables false

theorem info172 : (Tryz.prog.info? 172).map (fun i => (i.zero, i.size, i.bytes)) = some (some (.int .u32 0), 1, 4) := by kernel_rfl

theorem index_agg {c : Array Value} {k : Nat} (hk : k < 64) {x : Int} (hv : c[k]? = some (.int .u32 x)) (w : World) :
    (Instr.index 228 (.agg c) (.int .i64 k)).run Tryz.prog w = .ok (.int .u32 x) w := by
  obtain ⟨i0, hi, hz0, hz1, hz2⟩ := info_parts info172
  have hp : (part 172 c k).run Tryz.prog w = .ok (.int .u32 x) w := by
    simp [part, Tryz.isAgg172, hv]
  simp [Instr.index, run_underlying Tryz.underlying228, asIntOf, typeInfo, Go.sizeOf, hi, hz1, hk, hp]
end Go.Proofs.YtlibipbpaigmdaaGreatDoor
