/-
  errors.Is at a box's refusal and at nil, errors.As at nil; heldBack by these. Condition: the variable errNoBox holds a pointer of errors.New's make.
-/
import Derived.Test.YtcolcnkjcagbaaaDoorBase
import Derived.LaidEql
import Derived.Stop.Asserts
import Derived.RowKitTokens
namespace Go.Proofs.YtcolcnkjcagbaaaDoor
open Go.RowKit Go.Extern.Stop Go.Stop Go.Extern
set_option linter.unusedVariables false

theorem eTypeOf (v : Value) (w : World) : (callFunc 46 #[.iface 133 v]).run Tryd.prog w = .ok (.value (.iface 115 (.agg #[.pointer (some ⟨6, 133, none⟩)]))) w := by kernel_rfl
theorem eComparable (w : World) : (callFunc 114 #[.agg #[.pointer (some ⟨6, 133, none⟩)]]).run Tryd.prog w = .ok (.value (.bool true)) w := by kernel_rfl
theorem eMethodComparable (v : Value) (w : World) : (Go.method 286 115 v "Comparable").run Tryd.prog w = .ok (114, v) w := by kernel_rfl
theorem eComp : (Tryd.prog.info? 133).map (·.comparable) = some true := by kernel_rfl
theorem eSize : (Tryd.prog.info? 173).map (·.size) = some 1 := by kernel_rfl
theorem eNoIs (v : Value) (xT : TypeId) (w : World) : (Instr.typeAssert (.iface 75 v) xT 117 true).run Tryd.prog w = .ok (.tuple #[.nilIface, .bool false]) w := run_typeAssert_lacksB Tryd.underlying117 (by kernel_rfl) (by kernel_rfl) v xT w
theorem eHasUnwrap (v : Value) (xT : TypeId) (w : World) : (Instr.typeAssert (.iface 75 v) xT 119 true).run Tryd.prog w = .ok (.tuple #[.iface 75 v, .bool true]) w := run_typeAssert_hasB Tryd.underlying119 (by kernel_rfl) v xT w
theorem eMethodUnwrap (v : Value) (w : World) : (Go.method 286 75 v "Unwrap").run Tryd.prog w = .ok (102, v) w := by kernel_rfl

theorem isNil_any (b : Addr) (w : World) : Calls Tryd.prog 37 #[.nilIface, .iface 133 (.pointer (some b))] w fun e w' => e = .returned (.bool false) ∧ w' = w := by
  have hn := run_eql_iface_nil_left (P := Tryd.prog) w 133 (.pointer (some b)) Tryd.underlying48
  go_enter Tryd.func37, Tryd.ntmps37
  go_wp2
  go_ret
  exact ⟨rfl, rfl⟩
theorem asNil_any (v : Value) (w : World) : Calls Tryd.prog 38 #[.nilIface, v] w fun e w' => e = .returned (.bool false) ∧ w' = w := by
  go_enter Tryd.func38, Tryd.ntmps38
  go_wp2
  go_ret
  exact ⟨rfl, rfl⟩
theorem unwrapBox_any (key : Int) (v : Value) (w : World) : Calls Tryd.prog 102 #[.agg #[.int .i64 key, v]] w fun e w' => e = .returned v ∧ Below w.heap.size w w' := by
  go_enter Tryd.func102, Tryd.ntmps102
  go_wp2
  go_ret
  exact ⟨rfl, (Below.refl _ _).alloc (Nat.le_refl _) _⟩

theorem isLoop_any (key : Int) (b : Addr) (w : World) : Calls Tryd.prog 47 #[.iface 75 (.agg #[.int .i64 key, .iface 133 (.pointer (some b))]), .iface 133 (.pointer (some b)), .bool true] w fun e w' => e = .returned (.bool true) ∧ Below w.heap.size w w' := by
  obtain ⟨i, hi, hcmp⟩ := Option.map_eq_some_iff.1 (@eComp)
  obtain ⟨j, hj, hjs⟩ := Option.map_eq_some_iff.1 (@eSize)
  have nW := @eNoIs
  have uW := @eHasUnwrap
  have mU := @eMethodUnwrap
  have heq : ∀ w, _ := fun w => run_eql_iface_ptr_same (P := Tryd.prog) w b Tryd.underlying48 Tryd.underlying133 hi hcmp hj
  have hty := run_eql_iface_types (P := Tryd.prog) 75 133 (.agg #[.int .i64 key, .iface 133 (.pointer (some b))]) (.pointer (some b)) Tryd.underlying48 (by decide)
  have HU : Hid (∀ w, Calls Tryd.prog 102 #[.agg #[.int .i64 key, .iface 133 (.pointer (some b))]] w fun e w' => e = .returned (.iface 133 (.pointer (some b))) ∧ Below w.heap.size w w') := fun w => unwrapBox_any key _ w
  go_enter Tryd.func47, Tryd.ntmps47
  go_wp2
  refine wp_loop_rounds 2 ?_
  rw [rounds_succ]
  go_wp2_with fail
  refine (HU.out w).mono ?_
  rintro e w1 ⟨rfl, hB1⟩
  go_wp2
  rw [rounds_succ]
  go_wp2
  go_ret
  exact ⟨rfl, hB1⟩
theorem isBox_any (key : Int) (b : Addr) (w : World) : Calls Tryd.prog 37 #[.iface 75 (.agg #[.int .i64 key, .iface 133 (.pointer (some b))]), .iface 133 (.pointer (some b))] w fun e w' => e = .returned (.bool true) ∧ Below w.heap.size w w' := by
  obtain ⟨i, hi, hcmp⟩ := Option.map_eq_some_iff.1 (@eComp)
  obtain ⟨j, hj, hjs⟩ := Option.map_eq_some_iff.1 (@eSize)
  have tT := @eTypeOf
  have cT := @eComparable
  have mR := @eMethodComparable
  have heq : ∀ w, _ := fun w => run_eql_iface_ptr_same (P := Tryd.prog) w b Tryd.underlying48 Tryd.underlying133 hi hcmp hj
  have hty := run_eql_iface_types (P := Tryd.prog) 75 133 (.agg #[.int .i64 key, .iface 133 (.pointer (some b))]) (.pointer (some b)) Tryd.underlying48 (by decide)
  have hn2 := run_eql_iface_nil_left (P := Tryd.prog) w 133 (.pointer (some b)) Tryd.underlying48
  have HL := isLoop_any key b w
  go_enter Tryd.func37, Tryd.ntmps37
  go_wp2_with fail
  refine HL.mono ?_
  rintro e w1 ⟨rfl, hB1⟩
  go_wp2
  go_ret
  exact ⟨rfl, hB1⟩

theorem heldNil_any (b : Addr) (w : World) (hG : w.cell? ⟨0, 0, none⟩ = some (.iface 133 (.pointer (some b)))) (h0 : 0 < w.heap.size) : Calls Tryd.prog 25 #[.nilIface] w fun e w' => e = .returned (.bool false) ∧ Below w.heap.size w w' := by
  have HB : Below w.heap.size w (w.alloc (.cells #[.string ⟨#[]⟩] 80)) := (Below.refl _ _).alloc (Nat.le_refl _) _
  have hG2 : (w.alloc (.cells #[.string ⟨#[]⟩] 80)).cell? ⟨0, 0, none⟩ = some (.iface 133 (.pointer (some b))) := (HB.cell (p := ⟨0, 0, none⟩) h0).trans hG
  have HI := (show Hid (∀ w, Calls Tryd.prog 37 #[.nilIface, .iface 133 (.pointer (some b))] w fun e w' => e = .returned (.bool false) ∧ w' = w) from fun w => isNil_any b w)
  have HA := (show Hid (∀ v w, Calls Tryd.prog 38 #[.nilIface, v] w fun e w' => e = .returned (.bool false) ∧ w' = w) from asNil_any)
  have HB := (show Hid _ from HB)
  go_enter Tryd.func25, Tryd.ntmps25
  go_wp2_with fail
  refine (HI.out _).mono ?_
  rintro e w1 ⟨rfl, hw⟩
  rw [hw]
  clear hw w1
  go_wp2_with fail
  refine (HA.out _ _).mono ?_
  rintro e w1 ⟨rfl, hw⟩
  rw [hw]
  clear hw w1
  go_wp2
  go_ret
  exact ⟨rfl, HB.out⟩
theorem heldBox_any (key : Int) (b : Addr) (w : World) (hG : w.cell? ⟨0, 0, none⟩ = some (.iface 133 (.pointer (some b)))) (h0 : 0 < w.heap.size) : Calls Tryd.prog 25 #[.iface 75 (.agg #[.int .i64 key, .iface 133 (.pointer (some b))])] w fun e w' => e = .returned (.bool true) ∧ Below w.heap.size w w' := by
  have HB : Below w.heap.size w (w.alloc (.cells #[.string ⟨#[]⟩] 80)) := (Below.refl _ _).alloc (Nat.le_refl _) _
  have hG2 : (w.alloc (.cells #[.string ⟨#[]⟩] 80)).cell? ⟨0, 0, none⟩ = some (.iface 133 (.pointer (some b))) := (HB.cell (p := ⟨0, 0, none⟩) h0).trans hG
  have HI := (show Hid (∀ w, Calls Tryd.prog 37 #[.iface 75 (.agg #[.int .i64 key, .iface 133 (.pointer (some b))]), .iface 133 (.pointer (some b))] w fun e w' => e = .returned (.bool true) ∧ Below w.heap.size w w') from fun w => isBox_any key b w)
  have HB := (show Hid _ from HB)
  go_enter Tryd.func25, Tryd.ntmps25
  go_wp2_with fail
  refine (HI.out _).mono ?_
  rintro e w1 ⟨rfl, hB1⟩
  have HB1 := (show Hid _ from hB1)
  clear hB1
  go_wp2
  go_ret
  exact ⟨rfl, HB.out.trans (HB1.out.mono HB.out.size)⟩
end Go.Proofs.YtcolcnkjcagbaaaDoor
