/-
  A place of an array of words, by value.
-/
import Derived.Test.YtggjldmlhlkepaaDoorSched
namespace Go.Proofs.YtggjldmlhlkepaaDoor
open Go.RowKit
set_option linter.unusedVariables false

theorem info30 : (Tryd.prog.info? 30).map (fun i => (i.zero, i.size, i.bytes)) = some (some (.int .u32 0), 1, 4) := by kernel_rfl

theorem index_agg {c : Array Value} {k : Nat} (hk : k < 64) {x : Int} (hv : c[k]? = some (.int .u32 x)) (w : World) :
    (Instr.index 45 (.agg c) (.int .i64 k)).run Tryd.prog w = .ok (.int .u32 x) w := by
  obtain ⟨i0, hi, hz0, hz1, hz2⟩ := info_parts info30
  have hp : (part 30 c k).run Tryd.prog w = .ok (.int .u32 x) w := by
    simp [part, Tryd.isAgg30, hv]
  simp [Instr.index, run_underlying Tryd.underlying45, asIntOf, typeInfo, Go.sizeOf, hi, hz1, hk, hp]
end Go.Proofs.YtggjldmlhlkepaaDoor
