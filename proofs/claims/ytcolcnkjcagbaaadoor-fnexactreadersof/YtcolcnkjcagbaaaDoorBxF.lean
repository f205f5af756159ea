/-
  A refusal that wraps outOfReach: errors.Is says that it is not errNoBox, errors.As that it leads to an outOfReach; heldBack says yes. Conditions: errNoBox holds a pointer, the errors package's errorType is the type error.
-/
import Derived.Test.YtcolcnkjcagbaaaDoorBxE
namespace Go.Proofs.YtcolcnkjcagbaaaDoor
open Go.RowKit Go.Extern.Stop Go.Stop Go.Extern
set_option linter.unusedVariables false

def rtV (t : Nat) : Value := .iface 115 (.agg #[.pointer (some ⟨6, t, none⟩)])

theorem fValueOfP (t : Addr) (w : World) : (callFunc 48 #[.iface 83 (.pointer (some t))]).run Tryd.prog w = .ok (.value (.agg #[.pointer (some ⟨6, 83, none⟩), .pointer (some ⟨w.heap.size, 0, none⟩), .int .u64 150])) (w.alloc (.cells #[.pointer (some t)] 83)) := by kernel_rfl
theorem fValueOfS (s : ByteArray) (w : World) : (callFunc 48 #[.iface 80 (.agg #[.string s])]).run Tryd.prog w = .ok (.value (.agg #[.pointer (some ⟨6, 80, none⟩), .pointer (some ⟨w.heap.size, 0, none⟩), .int .u64 153])) (w.alloc (.cells #[.string s] 80)) := by kernel_rfl
theorem fType (a : Addr) (w : World) : (callFunc 49 #[.agg #[.pointer (some ⟨6, 83, none⟩), .pointer (some a), .int .u64 150]]).run Tryd.prog w = .ok (.value (.iface 115 (.agg #[.pointer (some ⟨6, 83, none⟩)]))) w := by kernel_rfl
theorem fMethodKind (h : Value) (w : World) : (Go.method 286 115 (.agg #[h]) "Kind").run Tryd.prog w = .ok (80, h) w := by kernel_rfl
theorem fKindP (w : World) : (callFunc 80 #[.pointer (some ⟨6, 83, none⟩)]).run Tryd.prog w = .ok (.value (.int .u8 22)) w := by kernel_rfl
theorem fKindS (w : World) : (callFunc 80 #[.pointer (some ⟨6, 80, none⟩)]).run Tryd.prog w = .ok (.value (.int .u8 25)) w := by kernel_rfl
theorem fMethodElem (h : Value) (w : World) : (Go.method 286 115 (.agg #[h]) "Elem").run Tryd.prog w = .ok (115, .agg #[h]) w := by kernel_rfl
theorem fMethodImplements (h : Value) (w : World) : (Go.method 286 115 (.agg #[h]) "Implements").run Tryd.prog w = .ok (116, .agg #[h]) w := by kernel_rfl
theorem fMethodAssignableTo (h : Value) (w : World) : (Go.method 286 115 (.agg #[h]) "AssignableTo").run Tryd.prog w = .ok (113, .agg #[h]) w := by kernel_rfl
theorem fElem (w : World) : (callFunc 115 #[.agg #[.pointer (some ⟨6, 83, none⟩)]]).run Tryd.prog w = .ok (.value (.iface 115 (.agg #[.pointer (some ⟨6, 80, none⟩)]))) w := by kernel_rfl
theorem fImplements (w : World) : (callFunc 116 #[.agg #[.pointer (some ⟨6, 80, none⟩)], .iface 115 (.agg #[.pointer (some ⟨6, 48, none⟩)])]).run Tryd.prog w = .ok (.value (.bool true)) w := by kernel_rfl
theorem fTypeOfB (v : Value) (w : World) : (callFunc 46 #[.iface 75 v]).run Tryd.prog w = .ok (.value (.iface 115 (.agg #[.pointer (some ⟨6, 75, none⟩)]))) w := by kernel_rfl
theorem fTypeOfS (v : Value) (w : World) : (callFunc 46 #[.iface 80 v]).run Tryd.prog w = .ok (.value (.iface 115 (.agg #[.pointer (some ⟨6, 80, none⟩)]))) w := by kernel_rfl
theorem fAssignB (w : World) : (callFunc 113 #[.agg #[.pointer (some ⟨6, 75, none⟩)], .iface 115 (.agg #[.pointer (some ⟨6, 80, none⟩)])]).run Tryd.prog w = .ok (.value (.bool false)) w := by kernel_rfl
theorem fAssignS (w : World) : (callFunc 113 #[.agg #[.pointer (some ⟨6, 80, none⟩)], .iface 115 (.agg #[.pointer (some ⟨6, 80, none⟩)])]).run Tryd.prog w = .ok (.value (.bool true)) w := by kernel_rfl

theorem fNoIs (v : Value) (xT : TypeId) (w : World) : (Instr.typeAssert (.iface 80 v) xT 117 true).run Tryd.prog w = .ok (.tuple #[.nilIface, .bool false]) w := run_typeAssert_lacksB Tryd.underlying117 (by kernel_rfl) (by kernel_rfl) v xT w
theorem fNoAs (v : Value) (xT : TypeId) (w : World) : (Instr.typeAssert (.iface 75 v) xT 126 true).run Tryd.prog w = .ok (.tuple #[.nilIface, .bool false]) w := run_typeAssert_lacksB Tryd.underlying126 (by kernel_rfl) (by kernel_rfl) v xT w
theorem fNoUnwrap (v : Value) (xT : TypeId) (w : World) : (Instr.typeAssert (.iface 80 v) xT 119 true).run Tryd.prog w = .ok (.tuple #[.nilIface, .bool false]) w := run_typeAssert_lacksB Tryd.underlying119 (by kernel_rfl) (by kernel_rfl) v xT w
theorem fNoUnwraps (v : Value) (xT : TypeId) (w : World) : (Instr.typeAssert (.iface 80 v) xT 121 true).run Tryd.prog w = .ok (.tuple #[.nilIface, .bool false]) w := run_typeAssert_lacksB Tryd.underlying121 (by kernel_rfl) (by kernel_rfl) v xT w

theorem runOf {α β : Type} {P : Program} {W : World} {x : Sem α} (y : Sem β) (f : β → Sem α) {r : Result α} (h : x = y >>= f) (k : (y >>= f).run P W = r) : x.run P W = r := by rw [h]; exact k
theorem fPartsP (a : Addr) (w : World) : (ReflectliteValue.parts (.agg #[.pointer (some ⟨6, 83, none⟩), .pointer (some a), .int .u64 150])).run Tryd.prog w = .ok (some (83, a, 150)) w := by kernel_rfl
theorem fIsNil (a p : Addr) (W : World) (ha : W.cell? a = some (.pointer (some p))) :
    (ReflectliteValue.method (ReflectliteValue.valueError "reflectlite.Value.IsNil" 0) ReflectliteValue.isNil #[.agg #[.pointer (some ⟨6, 83, none⟩), .pointer (some a), .int .u64 150]]).run Tryd.prog W = .ok (.bool false) W := by
  refine runOf _ _ rfl ?_
  dsimp only [Array.getLit, List.getElem_toArray, List.getElem_cons_zero, List.getElem_cons_succ]
  simp only [Sem.run_bind, fPartsP, Result.andThen]
  simp [ReflectliteValue.isNil, loadVar, isAgg, underlying, Tryd.underlying83, ha, Result.andThen]
theorem fElemOf (w : World) : (Rtype.elem? 83).run Tryd.prog w = .ok (some 80) w := by kernel_rfl
theorem fMk (p : Addr) (w : World) : (ReflectliteValue.mk 80 p ReflectliteValue.flagAddr).run Tryd.prog w = .ok (.agg #[.pointer (some ⟨6, 80, none⟩), .pointer (some p), .int .u64 409]) w := by kernel_rfl
theorem fElemV (a p : Addr) (W : World) (ha : W.cell? a = some (.pointer (some p))) :
    (ReflectliteValue.method (ReflectliteValue.valueError "reflectlite.Value.Elem" 0) ReflectliteValue.elem #[.agg #[.pointer (some ⟨6, 83, none⟩), .pointer (some a), .int .u64 150]]).run Tryd.prog W
      = .ok (.agg #[.pointer (some ⟨6, 80, none⟩), .pointer (some p), .int .u64 409]) W := by
  refine runOf _ _ rfl ?_
  dsimp only [Array.getLit, List.getElem_toArray, List.getElem_cons_zero, List.getElem_cons_succ]
  simp only [Sem.run_bind, fPartsP, Result.andThen]
  simp [ReflectliteValue.elem, loadVar, isAgg, underlying, Tryd.underlying83, ha, Result.andThen, fElemOf, fMk]
theorem fPartsA (a : Addr) (w : World) : (ReflectliteValue.parts (.agg #[.pointer (some ⟨6, 80, none⟩), .pointer (some a), .int .u64 409])).run Tryd.prog w = .ok (some (80, a, 409)) w := by kernel_rfl
theorem fPartsS (a : Addr) (w : World) : (ReflectliteValue.parts (.agg #[.pointer (some ⟨6, 80, none⟩), .pointer (some a), .int .u64 153])).run Tryd.prog w = .ok (some (80, a, 153)) w := by kernel_rfl
theorem fDirect (w : World) : (Rtype.directlyAssignable 80 80).run Tryd.prog w = .ok true w := by kernel_rfl
end Go.Proofs.YtcolcnkjcagbaaaDoor
