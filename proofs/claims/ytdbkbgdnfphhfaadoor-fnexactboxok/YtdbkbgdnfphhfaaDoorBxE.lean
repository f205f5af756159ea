/-
  errors.Is at a box's refusal and at nil, errors.As at nil; heldBack by these. Condition: the variable errNoBox holds a pointer of errors.New's make.
-/
import Derived.Test.YtdbkbgdnfphhfaaDoorBase
import Derived.LaidEql
import Derived.Stop.Asserts
import Derived.RowKitTokens
namespace Go.Proofs.YtdbkbgdnfphhfaaDoor
open Go.RowKit Go.Extern.Stop Go.Stop Go.Extern
set_option linter.unusedVariables false

theorem eTypeOf (v : Value) (w : World) : (callFunc 41 #[.iface 127 v]).run Tryd.prog w = .ok (.value (.iface 109 (.agg #[.pointer (some ⟨3, 127, none⟩)]))) w := by kernel_rfl
theorem eComparable (w : World) : (callFunc 94 #[.agg #[.pointer (some ⟨3, 127, none⟩)]]).run Tryd.prog w = .ok (.value (.bool true)) w := by kernel_rfl
theorem eMethodComparable (v : Value) (w : World) : (Go.method 263 109 v "Comparable").run Tryd.prog w = .ok (94, v) w := by kernel_rfl
theorem eComp : (Tryd.prog.info? 127).map (·.comparable) = some true := by kernel_rfl
theorem eSize : (Tryd.prog.info? 150).map (·.size) = some 1 := by kernel_rfl
theorem eNoIs (v : Value) (xT : TypeId) (w : World) : (Instr.typeAssert (.iface 69 v) xT 111 true).run Tryd.prog w = .ok (.tuple #[.nilIface, .bool false]) w := run_typeAssert_lacksB Tryd.underlying111 (by kernel_rfl) (by kernel_rfl) v xT w
theorem eHasUnwrap (v : Value) (xT : TypeId) (w : World) : (Instr.typeAssert (.iface 69 v) xT 113 true).run Tryd.prog w = .ok (.tuple #[.iface 69 v, .bool true]) w := run_typeAssert_hasB Tryd.underlying113 (by kernel_rfl) v xT w
theorem eMethodUnwrap (v : Value) (w : World) : (Go.method 263 69 v "Unwrap").run Tryd.prog w = .ok (81, v) w := by kernel_rfl

theorem isNil_any (b : Addr) (w : World) : Calls Tryd.prog 32 #[.nilIface, .iface 127 (.pointer (some b))] w fun e w' => e = .returned (.bool false) ∧ w' = w := by
  have hn := run_eql_iface_nil_left (P := Tryd.prog) w 127 (.pointer (some b)) Tryd.underlying44
  go_enter Tryd.func32, Tryd.ntmps32
  go_wp2
  go_ret
  exact ⟨rfl, rfl⟩
theorem asNil_any (v : Value) (w : World) : Calls Tryd.prog 33 #[.nilIface, v] w fun e w' => e = .returned (.bool false) ∧ w' = w := by
  go_enter Tryd.func33, Tryd.ntmps33
  go_wp2
  go_ret
  exact ⟨rfl, rfl⟩
theorem unwrapBox_any (key : Int) (v : Value) (w : World) : Calls Tryd.prog 81 #[.agg #[.int .i64 key, v]] w fun e w' => e = .returned v ∧ Below w.heap.size w w' := by
  go_enter Tryd.func81, Tryd.ntmps81
  go_wp2
  go_ret
  exact ⟨rfl, (Below.refl _ _).alloc (Nat.le_refl _) _⟩

theorem isLoop_any (key : Int) (b : Addr) (w : World) : Calls Tryd.prog 42 #[.iface 69 (.agg #[.int .i64 key, .iface 127 (.pointer (some b))]), .iface 127 (.pointer (some b)), .bool true] w fun e w' => e = .returned (.bool true) ∧ Below w.heap.size w w' := by
  obtain ⟨i, hi, hcmp⟩ := Option.map_eq_some_iff.1 (@eComp)
  obtain ⟨j, hj, hjs⟩ := Option.map_eq_some_iff.1 (@eSize)
  have nW := @eNoIs
  have uW := @eHasUnwrap
  have mU := @eMethodUnwrap
  have heq : ∀ w, _ := fun w => run_eql_iface_ptr_same (P := Tryd.prog) w b Tryd.underlying44 Tryd.underlying127 hi hcmp hj
  have hty := run_eql_iface_types (P := Tryd.prog) 69 127 (.agg #[.int .i64 key, .iface 127 (.pointer (some b))]) (.pointer (some b)) Tryd.underlying44 (by decide)
  have HU : Hid (∀ w, Calls Tryd.prog 81 #[.agg #[.int .i64 key, .iface 127 (.pointer (some b))]] w fun e w' => e = .returned (.iface 127 (.pointer (some b))) ∧ Below w.heap.size w w') := fun w => unwrapBox_any key _ w
  go_enter Tryd.func42, Tryd.ntmps42
  go_wp2
  refine wp_loop_rounds 2 ?_
  rw [rounds_succ]
  go_wp2_with fail
  refine (HU.out w).mono ?_
  rintro e w1 ⟨rfl, hB1⟩
  go_wp2
  rw [rounds_succ]
  go_wp2
  go_ret
  exact ⟨rfl, hB1⟩
theorem isBox_any (key : Int) (b : Addr) (w : World) : Calls Tryd.prog 32 #[.iface 69 (.agg #[.int .i64 key, .iface 127 (.pointer (some b))]), .iface 127 (.pointer (some b))] w fun e w' => e = .returned (.bool true) ∧ Below w.heap.size w w' := by
  obtain ⟨i, hi, hcmp⟩ := Option.map_eq_some_iff.1 (@eComp)
  obtain ⟨j, hj, hjs⟩ := Option.map_eq_some_iff.1 (@eSize)
  have tT := @eTypeOf
  have cT := @eComparable
  have mR := @eMethodComparable
  have heq : ∀ w, _ := fun w => run_eql_iface_ptr_same (P := Tryd.prog) w b Tryd.underlying44 Tryd.underlying127 hi hcmp hj
  have hty := run_eql_iface_types (P := Tryd.prog) 69 127 (.agg #[.int .i64 key, .iface 127 (.pointer (some b))]) (.pointer (some b)) Tryd.underlying44 (by decide)
  have hn2 := run_eql_iface_nil_left (P := Tryd.prog) w 127 (.pointer (some b)) Tryd.underlying44
  have HL := isLoop_any key b w
  go_enter Tryd.func32, Tryd.ntmps32
  go_wp2_with fail
  refine HL.mono ?_
  rintro e w1 ⟨rfl, hB1⟩
  go_wp2
  go_ret
  exact ⟨rfl, hB1⟩

theorem heldNil_any (b : Addr) (w : World) (hG : w.cell? ⟨0, 0, none⟩ = some (.iface 127 (.pointer (some b)))) (h0 : 0 < w.heap.size) : Calls Tryd.prog 21 #[.nilIface] w fun e w' => e = .returned (.bool false) ∧ Below w.heap.size w w' := by
  have HB : Below w.heap.size w (w.alloc (.cells #[.string ⟨#[]⟩] 74)) := (Below.refl _ _).alloc (Nat.le_refl _) _
  have hG2 : (w.alloc (.cells #[.string ⟨#[]⟩] 74)).cell? ⟨0, 0, none⟩ = some (.iface 127 (.pointer (some b))) := (HB.cell (p := ⟨0, 0, none⟩) h0).trans hG
  have HI := (show Hid (∀ w, Calls Tryd.prog 32 #[.nilIface, .iface 127 (.pointer (some b))] w fun e w' => e = .returned (.bool false) ∧ w' = w) from fun w => isNil_any b w)
  have HA := (show Hid (∀ v w, Calls Tryd.prog 33 #[.nilIface, v] w fun e w' => e = .returned (.bool false) ∧ w' = w) from asNil_any)
  have HB := (show Hid _ from HB)
  go_enter Tryd.func21, Tryd.ntmps21
  go_wp2_with fail
  refine (HI.out _).mono ?_
  rintro e w1 ⟨rfl, hw⟩
  rw [hw]
  clear hw w1
  go_wp2_with fail
  refine (HA.out _ _).mono ?_
  rintro e w1 ⟨rfl, hw⟩
  rw [hw]
  clear hw w1
  go_wp2
  go_ret
  exact ⟨rfl, HB.out⟩
theorem heldBox_any (key : Int) (b : Addr) (w : World) (hG : w.cell? ⟨0, 0, none⟩ = some (.iface 127 (.pointer (some b)))) (h0 : 0 < w.heap.size) : Calls Tryd.prog 21 #[.iface 69 (.agg #[.int .i64 key, .iface 127 (.pointer (some b))])] w fun e w' => e = .returned (.bool true) ∧ Below w.heap.size w w' := by
  have HB : Below w.heap.size w (w.alloc (.cells #[.string ⟨#[]⟩] 74)) := (Below.refl _ _).alloc (Nat.le_refl _) _
  have hG2 : (w.alloc (.cells #[.string ⟨#[]⟩] 74)).cell? ⟨0, 0, none⟩ = some (.iface 127 (.pointer (some b))) := (HB.cell (p := ⟨0, 0, none⟩) h0).trans hG
  have HI := (show Hid (∀ w, Calls Tryd.prog 32 #[.iface 69 (.agg #[.int .i64 key, .iface 127 (.pointer (some b))]), .iface 127 (.pointer (some b))] w fun e w' => e = .returned (.bool true) ∧ Below w.heap.size w w') from fun w => isBox_any key b w)
  have HB := (show Hid _ from HB)
  go_enter Tryd.func21, Tryd.ntmps21
  go_wp2_with fail
  refine (HI.out _).mono ?_
  rintro e w1 ⟨rfl, hB1⟩
  have HB1 := (show Hid _ from hB1)
  clear hB1
  go_wp2
  go_ret
  exact ⟨rfl, HB.out.trans (HB1.out.mono HB.out.size)⟩
end Go.Proofs.YtdbkbgdnfphhfaaDoor
