/-
  errors.Is at a box's refusal and at nil, errors.As at nil; heldBack by these. Condition: the variable errNoBox holds a pointer of errors.New's make.
  A refusal that wraps outOfReach: errors.Is says that it is not errNoBox, errors.As that it leads to an outOfReach; heldBack says yes. Conditions: errNoBox holds a pointer, the errors package's errorType is the type error.
  heldBack says yes to a refusal that wraps outOfReach. Conditions: errNoBox holds a pointer, the errors package's errorType is the type error.
-/
import Derived.Test.YtcolcnkjcagbaaaGreatDoorBase
import Derived.LaidEql
import Derived.Stop.Asserts
import Derived.RowKitTokens
namespace Go.Proofs.YtcolcnkjcagbaaaGreatDoor
open Go.RowKit Go.Extern.Stop Go.Stop Go.Extern
set_option linter.unusedVariables false

theorem eTypeOf (v : Value) (w : World) : (callFunc 81 #[.iface 216 v]).run Tryz.prog w = .ok (.value (.iface 170 (.agg #[.pointer (some ⟨6, 216, none⟩)]))) w := by kernel_rfl
theorem eComparable (w : World) : (callFunc 165 #[.agg #[.pointer (some ⟨6, 216, none⟩)]]).run Tryz.prog w = .ok (.value (.bool true)) w := by kernel_rfl
theorem eMethodComparable (v : Value) (w : World) : (Go.method 348 170 v "Comparable").run Tryz.prog w = .ok (165, v) w := by kernel_rfl
theorem eComp : (Tryz.prog.info? 216).map (·.comparable) = some true := by kernel_rfl
theorem eSize : (Tryz.prog.info? 236).map (·.size) = some 1 := by kernel_rfl
theorem eNoIs (v : Value) (xT : TypeId) (w : World) : (Instr.typeAssert (.iface 97 v) xT 172 true).run Tryz.prog w = .ok (.tuple #[.nilIface, .bool false]) w := run_typeAssert_lacksB Tryz.underlying172 (by kernel_rfl) (by kernel_rfl) v xT w
theorem eHasUnwrap (v : Value) (xT : TypeId) (w : World) : (Instr.typeAssert (.iface 97 v) xT 174 true).run Tryz.prog w = .ok (.tuple #[.iface 97 v, .bool true]) w := run_typeAssert_hasB Tryz.underlying174 (by kernel_rfl) v xT w
theorem eMethodUnwrap (v : Value) (w : World) : (Go.method 348 97 v "Unwrap").run Tryz.prog w = .ok (156, v) w := by kernel_rfl

theorem isNil_any (b : Addr) (w : World) : Calls Tryz.prog 61 #[.nilIface, .iface 216 (.pointer (some b))] w fun e w' => e = .returned (.bool false) ∧ w' = w := by
  have hn := run_eql_iface_nil_left (P := Tryz.prog) w 216 (.pointer (some b)) Tryz.underlying65
  go_enter Tryz.func61, Tryz.ntmps61
  go_wp2
  go_ret
  exact ⟨rfl, rfl⟩
theorem asNil_any (v : Value) (w : World) : Calls Tryz.prog 62 #[.nilIface, v] w fun e w' => e = .returned (.bool false) ∧ w' = w := by
  go_enter Tryz.func62, Tryz.ntmps62
  go_wp2
  go_ret
  exact ⟨rfl, rfl⟩
theorem unwrapBox_any (key : Int) (v : Value) (w : World) : Calls Tryz.prog 156 #[.agg #[.int .i64 key, v]] w fun e w' => e = .returned v ∧ Below w.heap.size w w' := by
  go_enter Tryz.func156, Tryz.ntmps156
  go_wp2
  go_ret
  exact ⟨rfl, (Below.refl _ _).alloc (Nat.le_refl _) _⟩

theorem isLoop_any (key : Int) (b : Addr) (w : World) : Calls Tryz.prog 82 #[.iface 97 (.agg #[.int .i64 key, .iface 216 (.pointer (some b))]), .iface 216 (.pointer (some b)), .bool true] w fun e w' => e = .returned (.bool true) ∧ Below w.heap.size w w' := by
  obtain ⟨i, hi, hcmp⟩ := Option.map_eq_some_iff.1 (@eComp)
  obtain ⟨j, hj, hjs⟩ := Option.map_eq_some_iff.1 (@eSize)
  have nW := @eNoIs
  have uW := @eHasUnwrap
  have mU := @eMethodUnwrap
  have heq : ∀ w, _ := fun w => run_eql_iface_ptr_same (P := Tryz.prog) w b Tryz.underlying65 Tryz.underlying216 hi hcmp hj
  have hty := run_eql_iface_types (P := Tryz.prog) 97 216 (.agg #[.int .i64 key, .iface 216 (.pointer (some b))]) (.pointer (some b)) Tryz.underlying65 (by decide)
  have HU : Hid (∀ w, Calls Tryz.prog 156 #[.agg #[.int .i64 key, .iface 216 (.pointer (some b))]] w fun e w' => e = .returned (.iface 216 (.pointer (some b))) ∧ Below w.heap.size w w') := fun w => unwrapBox_any key _ w
  go_enter Tryz.func82, Tryz.ntmps82
  go_wp2
  refine wp_loop_rounds 2 ?_
  rw [rounds_succ]
  go_wp2_with fail
  refine (HU.out w).mono ?_
  rintro e w1 ⟨rfl, hB1⟩
  go_wp2
  rw [rounds_succ]
  go_wp2
  go_ret
  exact ⟨rfl, hB1⟩
theorem isBox_any (key : Int) (b : Addr) (w : World) : Calls Tryz.prog 61 #[.iface 97 (.agg #[.int .i64 key, .iface 216 (.pointer (some b))]), .iface 216 (.pointer (some b))] w fun e w' => e = .returned (.bool true) ∧ Below w.heap.size w w' := by
  obtain ⟨i, hi, hcmp⟩ := Option.map_eq_some_iff.1 (@eComp)
  obtain ⟨j, hj, hjs⟩ := Option.map_eq_some_iff.1 (@eSize)
  have tT := @eTypeOf
  have cT := @eComparable
  have mR := @eMethodComparable
  have heq : ∀ w, _ := fun w => run_eql_iface_ptr_same (P := Tryz.prog) w b Tryz.underlying65 Tryz.underlying216 hi hcmp hj
  have hty := run_eql_iface_types (P := Tryz.prog) 97 216 (.agg #[.int .i64 key, .iface 216 (.pointer (some b))]) (.pointer (some b)) Tryz.underlying65 (by decide)
  have hn2 := run_eql_iface_nil_left (P := Tryz.prog) w 216 (.pointer (some b)) Tryz.underlying65
  have HL := isLoop_any key b w
  go_enter Tryz.func61, Tryz.ntmps61
  go_wp2_with fail
  refine HL.mono ?_
  rintro e w1 ⟨rfl, hB1⟩
  go_wp2
  go_ret
  exact ⟨rfl, hB1⟩

theorem heldNil_any (b : Addr) (w : World) (hG : w.cell? ⟨0, 0, none⟩ = some (.iface 216 (.pointer (some b)))) (h0 : 0 < w.heap.size) : Calls Tryz.prog 37 #[.nilIface] w fun e w' => e = .returned (.bool false) ∧ Below w.heap.size w w' := by
  have HB : Below w.heap.size w (w.alloc (.cells #[.string ⟨#[]⟩] 95)) := (Below.refl _ _).alloc (Nat.le_refl _) _
  have hG2 : (w.alloc (.cells #[.string ⟨#[]⟩] 95)).cell? ⟨0, 0, none⟩ = some (.iface 216 (.pointer (some b))) := (HB.cell (p := ⟨0, 0, none⟩) h0).trans hG
  have HI := (show Hid (∀ w, Calls Tryz.prog 61 #[.nilIface, .iface 216 (.pointer (some b))] w fun e w' => e = .returned (.bool false) ∧ w' = w) from fun w => isNil_any b w)
  have HA := (show Hid (∀ v w, Calls Tryz.prog 62 #[.nilIface, v] w fun e w' => e = .returned (.bool false) ∧ w' = w) from asNil_any)
  have HB := (show Hid _ from HB)
  go_enter Tryz.func37, Tryz.ntmps37
  go_wp2_with fail
  refine (HI.out _).mono ?_
  rintro e w1 ⟨rfl, hw⟩
  rw [hw]
  clear hw w1
  go_wp2_with fail
  refine (HA.out _ _).mono ?_
  rintro e w1 ⟨rfl, hw⟩
  rw [hw]
  clear hw w1
  go_wp2
  go_ret
  exact ⟨rfl, HB.out⟩
theorem heldBox_any (key : Int) (b : Addr) (w : World) (hG : w.cell? ⟨0, 0, none⟩ = some (.iface 216 (.pointer (some b)))) (h0 : 0 < w.heap.size) : Calls Tryz.prog 37 #[.iface 97 (.agg #[.int .i64 key, .iface 216 (.pointer (some b))])] w fun e w' => e = .returned (.bool true) ∧ Below w.heap.size w w' := by
  have HB : Below w.heap.size w (w.alloc (.cells #[.string ⟨#[]⟩] 95)) := (Below.refl _ _).alloc (Nat.le_refl _) _
  have hG2 : (w.alloc (.cells #[.string ⟨#[]⟩] 95)).cell? ⟨0, 0, none⟩ = some (.iface 216 (.pointer (some b))) := (HB.cell (p := ⟨0, 0, none⟩) h0).trans hG
  have HI := (show Hid (∀ w, Calls Tryz.prog 61 #[.iface 97 (.agg #[.int .i64 key, .iface 216 (.pointer (some b))]), .iface 216 (.pointer (some b))] w fun e w' => e = .returned (.bool true) ∧ Below w.heap.size w w') from fun w => isBox_any key b w)
  have HB := (show Hid _ from HB)
  go_enter Tryz.func37, Tryz.ntmps37
  go_wp2_with fail
  refine (HI.out _).mono ?_
  rintro e w1 ⟨rfl, hB1⟩
  have HB1 := (show Hid _ from hB1)
  clear hB1
  go_wp2
  go_ret
  exact ⟨rfl, HB.out.trans (HB1.out.mono HB.out.size)⟩
end Go.Proofs.YtcolcnkjcagbaaaGreatDoor

namespace Go.Proofs.YtcolcnkjcagbaaaGreatDoor
open Go.RowKit Go.Extern.Stop Go.Stop Go.Extern
set_option linter.unusedVariables false

def rtV (t : Nat) : Value := .iface 170 (.agg #[.pointer (some ⟨6, t, none⟩)])

theorem fValueOfP (t : Addr) (w : World) : (callFunc 83 #[.iface 100 (.pointer (some t))]).run Tryz.prog w = .ok (.value (.agg #[.pointer (some ⟨6, 100, none⟩), .pointer (some ⟨w.heap.size, 0, none⟩), .int .u64 150])) (w.alloc (.cells #[.pointer (some t)] 100)) := by kernel_rfl
theorem fValueOfS (s : ByteArray) (w : World) : (callFunc 83 #[.iface 95 (.agg #[.string s])]).run Tryz.prog w = .ok (.value (.agg #[.pointer (some ⟨6, 95, none⟩), .pointer (some ⟨w.heap.size, 0, none⟩), .int .u64 153])) (w.alloc (.cells #[.string s] 95)) := by kernel_rfl
theorem fType (a : Addr) (w : World) : (callFunc 84 #[.agg #[.pointer (some ⟨6, 100, none⟩), .pointer (some a), .int .u64 150]]).run Tryz.prog w = .ok (.value (.iface 170 (.agg #[.pointer (some ⟨6, 100, none⟩)]))) w := by kernel_rfl
theorem fMethodKind (h : Value) (w : World) : (Go.method 348 170 (.agg #[h]) "Kind").run Tryz.prog w = .ok (150, h) w := by kernel_rfl
theorem fKindP (w : World) : (callFunc 150 #[.pointer (some ⟨6, 100, none⟩)]).run Tryz.prog w = .ok (.value (.int .u8 22)) w := by kernel_rfl
theorem fKindS (w : World) : (callFunc 150 #[.pointer (some ⟨6, 95, none⟩)]).run Tryz.prog w = .ok (.value (.int .u8 25)) w := by kernel_rfl
theorem fMethodElem (h : Value) (w : World) : (Go.method 348 170 (.agg #[h]) "Elem").run Tryz.prog w = .ok (166, .agg #[h]) w := by kernel_rfl
theorem fMethodImplements (h : Value) (w : World) : (Go.method 348 170 (.agg #[h]) "Implements").run Tryz.prog w = .ok (167, .agg #[h]) w := by kernel_rfl
theorem fMethodAssignableTo (h : Value) (w : World) : (Go.method 348 170 (.agg #[h]) "AssignableTo").run Tryz.prog w = .ok (164, .agg #[h]) w := by kernel_rfl
theorem fElem (w : World) : (callFunc 166 #[.agg #[.pointer (some ⟨6, 100, none⟩)]]).run Tryz.prog w = .ok (.value (.iface 170 (.agg #[.pointer (some ⟨6, 95, none⟩)]))) w := by kernel_rfl
theorem fImplements (w : World) : (callFunc 167 #[.agg #[.pointer (some ⟨6, 95, none⟩)], .iface 170 (.agg #[.pointer (some ⟨6, 65, none⟩)])]).run Tryz.prog w = .ok (.value (.bool true)) w := by kernel_rfl
theorem fTypeOfB (v : Value) (w : World) : (callFunc 81 #[.iface 97 v]).run Tryz.prog w = .ok (.value (.iface 170 (.agg #[.pointer (some ⟨6, 97, none⟩)]))) w := by kernel_rfl
theorem fTypeOfS (v : Value) (w : World) : (callFunc 81 #[.iface 95 v]).run Tryz.prog w = .ok (.value (.iface 170 (.agg #[.pointer (some ⟨6, 95, none⟩)]))) w := by kernel_rfl
theorem fAssignB (w : World) : (callFunc 164 #[.agg #[.pointer (some ⟨6, 97, none⟩)], .iface 170 (.agg #[.pointer (some ⟨6, 95, none⟩)])]).run Tryz.prog w = .ok (.value (.bool false)) w := by kernel_rfl
theorem fAssignS (w : World) : (callFunc 164 #[.agg #[.pointer (some ⟨6, 95, none⟩)], .iface 170 (.agg #[.pointer (some ⟨6, 95, none⟩)])]).run Tryz.prog w = .ok (.value (.bool true)) w := by kernel_rfl

theorem fNoIs (v : Value) (xT : TypeId) (w : World) : (Instr.typeAssert (.iface 95 v) xT 172 true).run Tryz.prog w = .ok (.tuple #[.nilIface, .bool false]) w := run_typeAssert_lacksB Tryz.underlying172 (by kernel_rfl) (by kernel_rfl) v xT w
theorem fNoAs (v : Value) (xT : TypeId) (w : World) : (Instr.typeAssert (.iface 97 v) xT 181 true).run Tryz.prog w = .ok (.tuple #[.nilIface, .bool false]) w := run_typeAssert_lacksB Tryz.underlying181 (by kernel_rfl) (by kernel_rfl) v xT w
theorem fNoUnwrap (v : Value) (xT : TypeId) (w : World) : (Instr.typeAssert (.iface 95 v) xT 174 true).run Tryz.prog w = .ok (.tuple #[.nilIface, .bool false]) w := run_typeAssert_lacksB Tryz.underlying174 (by kernel_rfl) (by kernel_rfl) v xT w
theorem fNoUnwraps (v : Value) (xT : TypeId) (w : World) : (Instr.typeAssert (.iface 95 v) xT 176 true).run Tryz.prog w = .ok (.tuple #[.nilIface, .bool false]) w := run_typeAssert_lacksB Tryz.underlying176 (by kernel_rfl) (by kernel_rfl) v xT w

theorem runOf {α β : Type} {P : Program} {W : World} {x : Sem α} (y : Sem β) (f : β → Sem α) {r : Result α} (h : x = y >>= f) (k : (y >>= f).run P W = r) : x.run P W = r := by rw [h]; exact k
theorem fPartsP (a : Addr) (w : World) : (ReflectliteValue.parts (.agg #[.pointer (some ⟨6, 100, none⟩), .pointer (some a), .int .u64 150])).run Tryz.prog w = .ok (some (100, a, 150)) w := by kernel_rfl
theorem fIsNil (a p : Addr) (W : World) (ha : W.cell? a = some (.pointer (some p))) :
    (ReflectliteValue.method (ReflectliteValue.valueError "reflectlite.Value.IsNil" 0) ReflectliteValue.isNil #[.agg #[.pointer (some ⟨6, 100, none⟩), .pointer (some a), .int .u64 150]]).run Tryz.prog W = .ok (.bool false) W := by
  refine runOf _ _ rfl ?_
  dsimp only [Array.getLit, List.getElem_toArray, List.getElem_cons_zero, List.getElem_cons_succ]
  simp only [Sem.run_bind, fPartsP, Result.andThen]
  simp [ReflectliteValue.isNil, loadVar, isAgg, underlying, Tryz.underlying100, ha, Result.andThen]
theorem fElemOf (w : World) : (Rtype.elem? 100).run Tryz.prog w = .ok (some 95) w := by kernel_rfl
theorem fMk (p : Addr) (w : World) : (ReflectliteValue.mk 95 p ReflectliteValue.flagAddr).run Tryz.prog w = .ok (.agg #[.pointer (some ⟨6, 95, none⟩), .pointer (some p), .int .u64 409]) w := by kernel_rfl
theorem fElemV (a p : Addr) (W : World) (ha : W.cell? a = some (.pointer (some p))) :
    (ReflectliteValue.method (ReflectliteValue.valueError "reflectlite.Value.Elem" 0) ReflectliteValue.elem #[.agg #[.pointer (some ⟨6, 100, none⟩), .pointer (some a), .int .u64 150]]).run Tryz.prog W
      = .ok (.agg #[.pointer (some ⟨6, 95, none⟩), .pointer (some p), .int .u64 409]) W := by
  refine runOf _ _ rfl ?_
  dsimp only [Array.getLit, List.getElem_toArray, List.getElem_cons_zero, List.getElem_cons_succ]
  simp only [Sem.run_bind, fPartsP, Result.andThen]
  simp [ReflectliteValue.elem, loadVar, isAgg, underlying, Tryz.underlying100, ha, Result.andThen, fElemOf, fMk]
theorem fPartsA (a : Addr) (w : World) : (ReflectliteValue.parts (.agg #[.pointer (some ⟨6, 95, none⟩), .pointer (some a), .int .u64 409])).run Tryz.prog w = .ok (some (95, a, 409)) w := by kernel_rfl
theorem fPartsS (a : Addr) (w : World) : (ReflectliteValue.parts (.agg #[.pointer (some ⟨6, 95, none⟩), .pointer (some a), .int .u64 153])).run Tryz.prog w = .ok (some (95, a, 153)) w := by kernel_rfl
theorem fDirect (w : World) : (Rtype.directlyAssignable 95 95).run Tryz.prog w = .ok true w := by kernel_rfl
end Go.Proofs.YtcolcnkjcagbaaaGreatDoor

namespace Go.Proofs.YtcolcnkjcagbaaaGreatDoor
open Go.RowKit Go.Extern.Stop Go.Stop Go.Extern
set_option linter.unusedVariables false

theorem unwrapX_any (key : Int) (v : Value) (w : World) : Calls Tryz.prog 156 #[.agg #[.int .i64 key, v]] w fun e w' => e = .returned v ∧ w' = w.alloc (.cells #[.int .i64 key, v] 97) := by
  go_enter Tryz.func156, Tryz.ntmps156
  go_wp2
  go_ret
  exact ⟨rfl, rfl⟩

theorem fSet (ta b : Addr) (s : ByteArray) (old : Value) (W : World) (hb : W.cell? b = some (.string s)) (ht : W.cell? ta = some old) (hf : W.frozen? ta = false) :
    (ReflectliteValue.set #[.agg #[.pointer (some ⟨6, 95, none⟩), .pointer (some ta), .int .u64 409], .agg #[.pointer (some ⟨6, 95, none⟩), .pointer (some b), .int .u64 153]]).run Tryz.prog W
      = .ok (.tuple #[]) (W.setCell ta (.string s)) := by
  refine runOf _ _ rfl ?_
  dsimp only [Array.getLit, List.getElem_toArray, List.getElem_cons_zero, List.getElem_cons_succ]
  simp only [Sem.run_bind, fPartsA, fPartsS, Result.andThen]
  simp [ReflectliteValue.flagAddr, loadVar, isAgg, underlying, Tryz.underlying95, hb, Result.andThen, fDirect, storeVar, Value.cells, storeCells, Addr.add, go_sem]
  simp [ht, hf]

theorem isFarLoop (key : Int) (s : ByteArray) (b : Addr) (w : World) : Calls Tryz.prog 82 #[.iface 97 (.agg #[.int .i64 key, .iface 95 (.agg #[.string s])]), .iface 216 (.pointer (some b)), .bool true] w fun e w' => e = .returned (.bool false) ∧ Below w.heap.size w w' := by
  have nW := @eNoIs
  have nF := @fNoIs
  have nU := @fNoUnwrap
  have nUs := @fNoUnwraps
  have uW := @eHasUnwrap
  have mU := @eMethodUnwrap
  have hty := run_eql_iface_types (P := Tryz.prog) 97 216 (.agg #[.int .i64 key, .iface 95 (.agg #[.string s])]) (.pointer (some b)) Tryz.underlying65 (by decide)
  have hty2 := run_eql_iface_types (P := Tryz.prog) 95 216 (.agg #[.string s]) (.pointer (some b)) Tryz.underlying65 (by decide)
  have HU : Hid (∀ w, Calls Tryz.prog 156 #[.agg #[.int .i64 key, .iface 95 (.agg #[.string s])]] w fun e w' => e = .returned (.iface 95 (.agg #[.string s])) ∧ Below w.heap.size w w') := fun w => unwrapBox_any key _ w
  go_enter Tryz.func82, Tryz.ntmps82
  go_wp2
  refine wp_loop_rounds 2 ?_
  rw [rounds_succ]
  go_wp2_with fail
  refine (HU.out w).mono ?_
  rintro e w1 ⟨rfl, hB1⟩
  go_wp2
  rw [rounds_succ]
  go_wp2
  go_ret
  exact ⟨rfl, hB1⟩
theorem isFar_any (key : Int) (s : ByteArray) (b : Addr) (w : World) : Calls Tryz.prog 61 #[.iface 97 (.agg #[.int .i64 key, .iface 95 (.agg #[.string s])]), .iface 216 (.pointer (some b))] w fun e w' => e = .returned (.bool false) ∧ Below w.heap.size w w' := by
  have tT := @eTypeOf
  have cT := @eComparable
  have mR := @eMethodComparable
  have hn2 := run_eql_iface_nil_left (P := Tryz.prog) w 216 (.pointer (some b)) Tryz.underlying65
  have HL := isFarLoop key s b w
  go_enter Tryz.func61, Tryz.ntmps61
  go_wp2_with fail
  refine HL.mono ?_
  rintro e w1 ⟨rfl, hB1⟩
  go_wp2
  go_ret
  exact ⟨rfl, hB1⟩

set_option maxRecDepth 20000 in
theorem asFarLoop (key : Int) (s : ByteArray) (t q : Addr) (old : Value) (w : World) (n : Nat) (hq : w.cell? q = some (.pointer (some t))) (hqb : q.block < w.heap.size) (ht : w.cell? t = some old) (htb : t.block < w.heap.size) (hf : w.frozen? t = false) (hn : n ≤ t.block) (hnw : n ≤ w.heap.size) :
    Calls Tryz.prog 86 #[.iface 97 (.agg #[.int .i64 key, .iface 95 (.agg #[.string s])]), .iface 100 (.pointer (some t)), .agg #[.pointer (some ⟨6, 100, none⟩), .pointer (some q), .int .u64 150], .iface 170 (.agg #[.pointer (some ⟨6, 95, none⟩)])] w
      fun e w' => e = .returned (.bool true) ∧ Below n w w' := by
  have e11 := @run_callFunc_extern Tryz.prog 104 _ (ReflectliteValue.method (ReflectliteValue.valueError "reflectlite.Value.Elem" 0) ReflectliteValue.elem) Tryz.func104 (by kernel_rfl) (by kernel_rfl) (by kernel_rfl) (by kernel_rfl)
  have e12 := @run_callFunc_extern Tryz.prog 105 _ ReflectliteValue.set Tryz.func105 (by kernel_rfl) (by kernel_rfl) (by kernel_rfl) (by kernel_rfl)
  have nA := @fNoAs
  have uW := @eHasUnwrap
  have mU := @eMethodUnwrap
  have mA := @fMethodAssignableTo
  have aB := @fAssignB
  have aS := @fAssignS
  have tB := @fTypeOfB
  have tS := @fTypeOfS
  have vS := @fValueOfS
  have el := fElemV q t ((w.alloc (.cells #[.pointer (some ⟨6, 100, none⟩), .pointer (some q), .int .u64 150] 141)).alloc (.cells #[.int .i64 key, .iface 95 (.agg #[.string s])] 97)) (by rw [World.cell?_alloc_lt _ _ q (by simp; omega), World.cell?_alloc_lt _ _ q hqb]; exact hq)
  have st := fSet t ⟨w.heap.size + 1 + 1, 0, none⟩ s old (((w.alloc (.cells #[.pointer (some ⟨6, 100, none⟩), .pointer (some q), .int .u64 150] 141)).alloc (.cells #[.int .i64 key, .iface 95 (.agg #[.string s])] 97)).alloc (.cells #[.string s] 95))
    (by rw [World.cell?_alloc_at _ _ _ _ (by simp)]; rfl)
    (by rw [World.cell?_alloc_lt _ _ t (by simp; omega), World.cell?_alloc_lt _ _ t (by simp; omega), World.cell?_alloc_lt _ _ t htb]; exact ht)
    (by rw [World.frozen?_alloc_old _ _ t (by simp; omega), World.frozen?_alloc_old _ _ t (by simp; omega), World.frozen?_alloc_old _ _ t (Nat.ne_of_lt htb)]; exact hf)
  have HU : Hid (∀ w, Calls Tryz.prog 156 #[.agg #[.int .i64 key, .iface 95 (.agg #[.string s])]] w fun e w' => e = .returned (.iface 95 (.agg #[.string s])) ∧ w' = w.alloc (.cells #[.int .i64 key, .iface 95 (.agg #[.string s])] 97)) := fun w => unwrapX_any key _ w
  go_enter Tryz.func86, Tryz.ntmps86
  go_wp2
  refine wp_loop_rounds 2 ?_
  rw [rounds_succ]
  go_wp2_with fail
  refine (HU.out _).mono ?_
  rintro e w1 ⟨rfl, hw1⟩
  rw [hw1]
  clear hw1 w1
  go_wp2
  rw [rounds_succ]
  go_wp2
  go_ret
  exact ⟨rfl, ((((Below.refl _ _).alloc hnw _).alloc (by simp; omega) _).alloc (by simp; omega) _).setCell hn _⟩

set_option maxRecDepth 20000 in
theorem asFar_any (key : Int) (s : ByteArray) (t : Addr) (old : Value) (w : World) (n : Nat) (hg : w.cell? ⟨1, 0, none⟩ = some (.iface 170 (.agg #[.pointer (some ⟨6, 65, none⟩)]))) (h1 : 1 < w.heap.size) (ht : w.cell? t = some old) (htb : t.block < w.heap.size) (hf : w.frozen? t = false) (hn : n ≤ t.block) (hnw : n ≤ w.heap.size) :
    Calls Tryz.prog 62 #[.iface 97 (.agg #[.int .i64 key, .iface 95 (.agg #[.string s])]), .iface 100 (.pointer (some t))] w fun e w' => e = .returned (.bool true) ∧ Below n w w' := by
  have e8 := @run_callFunc_extern Tryz.prog 85 _ (ReflectliteValue.method (ReflectliteValue.valueError "reflectlite.Value.IsNil" 0) ReflectliteValue.isNil) Tryz.func85 (by kernel_rfl) (by kernel_rfl) (by kernel_rfl) (by kernel_rfl)
  have vP := @fValueOfP
  have tY := @fType
  have mK := @fMethodKind
  have kP := @fKindP
  have kS := @fKindS
  have mE := @fMethodElem
  have eL := @fElem
  have mI := @fMethodImplements
  have iM := @fImplements
  have hB1 : Below w.heap.size w (w.alloc (.cells #[.pointer (some t)] 100)) := (Below.refl _ _).alloc (Nat.le_refl _) _
  have hB2 : Below w.heap.size w ((w.alloc (.cells #[.pointer (some t)] 100)).alloc (.cells #[.pointer (some ⟨6, 100, none⟩), .pointer (some ⟨w.heap.size, 0, none⟩), .int .u64 150] 141)) := hB1.alloc (by simp) _
  have n8 := fIsNil ⟨w.heap.size, 0, none⟩ t ((w.alloc (.cells #[.pointer (some t)] 100)).alloc (.cells #[.pointer (some ⟨6, 100, none⟩), .pointer (some ⟨w.heap.size, 0, none⟩), .int .u64 150] 141)) (by simp)
  have hg2 : ((w.alloc (.cells #[.pointer (some t)] 100)).alloc (.cells #[.pointer (some ⟨6, 100, none⟩), .pointer (some ⟨w.heap.size, 0, none⟩), .int .u64 150] 141)).cell? ⟨1, 0, none⟩ = some (.iface 170 (.agg #[.pointer (some ⟨6, 65, none⟩)])) := (hB2.cell (p := ⟨1, 0, none⟩) h1).trans hg
  have HL := asFarLoop key s t ⟨w.heap.size, 0, none⟩ old ((w.alloc (.cells #[.pointer (some t)] 100)).alloc (.cells #[.pointer (some ⟨6, 100, none⟩), .pointer (some ⟨w.heap.size, 0, none⟩), .int .u64 150] 141)) n (by simp) (by simp; omega) ((hB2.cell htb).trans ht) (Nat.lt_of_lt_of_le htb hB2.size)
    (by rw [World.frozen?_alloc_old _ _ t (by simp; omega), World.frozen?_alloc_old _ _ t (Nat.ne_of_lt htb)]; exact hf) hn (Nat.le_trans hnw hB2.size)
  have HB2 := (show Hid _ from hB2.mono hnw)
  clear hB1 hB2
  go_enter Tryz.func62, Tryz.ntmps62
  go_wp2_with fail
  refine HL.mono ?_
  rintro e w1 ⟨rfl, hB3⟩
  go_wp2
  go_ret
  exact ⟨rfl, HB2.out.trans hB3⟩

theorem heldFar_any (key : Int) (s : ByteArray) (b : Addr) (w : World) (hG : w.cell? ⟨0, 0, none⟩ = some (.iface 216 (.pointer (some b)))) (hE : w.cell? ⟨1, 0, none⟩ = some (.iface 170 (.agg #[.pointer (some ⟨6, 65, none⟩)]))) (h1 : 1 < w.heap.size) :
    Calls Tryz.prog 37 #[.iface 97 (.agg #[.int .i64 key, .iface 95 (.agg #[.string s])])] w fun e w' => e = .returned (.bool true) ∧ Below w.heap.size w w' := by
  have HB : Below w.heap.size w (w.alloc (.cells #[.string ⟨#[]⟩] 95)) := (Below.refl _ _).alloc (Nat.le_refl _) _
  have hx : (w.alloc (.cells #[.string ⟨#[]⟩] 95)).heap[w.heap.size]? = some (.cells #[.string ⟨#[]⟩] 95 (0, 0)) := heap_alloc_new w _
  have hG2 : (w.alloc (.cells #[.string ⟨#[]⟩] 95)).cell? ⟨0, 0, none⟩ = some (.iface 216 (.pointer (some b))) := (HB.cell (p := ⟨0, 0, none⟩) (by show 0 < _; omega)).trans hG
  have hE2 : (w.alloc (.cells #[.string ⟨#[]⟩] 95)).cell? ⟨1, 0, none⟩ = some (.iface 170 (.agg #[.pointer (some ⟨6, 65, none⟩)])) := (HB.cell (p := ⟨1, 0, none⟩) h1).trans hE
  have HI := (show Hid (∀ w, Calls Tryz.prog 61 #[.iface 97 (.agg #[.int .i64 key, .iface 95 (.agg #[.string s])]), .iface 216 (.pointer (some b))] w fun e w' => e = .returned (.bool false) ∧ Below w.heap.size w w') from fun w => isFar_any key s b w)
  have HE2 := (show Hid _ from hE2)
  have HX := (show Hid _ from hx)
  have HB := (show Hid _ from HB)
  have H1 := (show Hid _ from h1)
  clear hE2 hx hG hE h1
  go_enter Tryz.func37, Tryz.ntmps37
  go_wp2_with fail
  refine (HI.out _).mono ?_
  rintro e w1 ⟨rfl, hB1⟩
  have x1 := (hB1.block _ (lt_of_block HX.out)).trans HX.out
  have l1 := lt_of_block x1
  have e1 := (hB1.cell (p := ⟨1, 0, none⟩) (Nat.lt_of_lt_of_le H1.out HB.out.size)).trans HE2.out
  have HA := asFar_any key s ⟨w.heap.size, 0, none⟩ (.string ⟨#[]⟩) w1 w.heap.size e1 (Nat.lt_of_lt_of_le H1.out (Nat.le_of_lt l1)) (cell_of_row w1 _ 0 _ _ _ x1) l1 (by simp [World.frozen?, x1]) (Nat.le_refl _) (Nat.le_of_lt l1)
  have HB1 := (show Hid _ from HB.out.trans (hB1.mono HB.out.size))
  clear x1 l1 e1 hB1
  go_wp2_with fail
  refine HA.mono ?_
  rintro e w2 ⟨rfl, hB2⟩
  go_wp2
  go_ret
  exact ⟨rfl, HB1.out.trans hB2⟩
end Go.Proofs.YtcolcnkjcagbaaaGreatDoor
