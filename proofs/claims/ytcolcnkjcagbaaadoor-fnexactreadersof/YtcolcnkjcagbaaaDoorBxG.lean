/-
  heldBack says yes to a refusal that wraps outOfReach. Conditions: errNoBox holds a pointer, the errors package's errorType is the type error.
-/
import Derived.Test.YtcolcnkjcagbaaaDoorBxF
namespace Go.Proofs.YtcolcnkjcagbaaaDoor
open Go.RowKit Go.Extern.Stop Go.Stop Go.Extern
set_option linter.unusedVariables false

theorem unwrapX_any (key : Int) (v : Value) (w : World) : Calls Tryd.prog 102 #[.agg #[.int .i64 key, v]] w fun e w' => e = .returned v ∧ w' = w.alloc (.cells #[.int .i64 key, v] 75) := by
  go_enter Tryd.func102, Tryd.ntmps102
  go_wp2
  go_ret
  exact ⟨rfl, rfl⟩

theorem fSet (ta b : Addr) (s : ByteArray) (old : Value) (W : World) (hb : W.cell? b = some (.string s)) (ht : W.cell? ta = some old) (hf : W.frozen? ta = false) :
    (ReflectliteValue.set #[.agg #[.pointer (some ⟨6, 80, none⟩), .pointer (some ta), .int .u64 409], .agg #[.pointer (some ⟨6, 80, none⟩), .pointer (some b), .int .u64 153]]).run Tryd.prog W
      = .ok (.tuple #[]) (W.setCell ta (.string s)) := by
  refine runOf _ _ rfl ?_
  dsimp only [Array.getLit, List.getElem_toArray, List.getElem_cons_zero, List.getElem_cons_succ]
  simp only [Sem.run_bind, fPartsA, fPartsS, Result.andThen]
  simp [ReflectliteValue.flagAddr, loadVar, isAgg, underlying, Tryd.underlying80, hb, Result.andThen, fDirect, storeVar, Value.cells, storeCells, Addr.add, go_sem]
  simp [ht, hf]

theorem isFarLoop (key : Int) (s : ByteArray) (b : Addr) (w : World) : Calls Tryd.prog 47 #[.iface 75 (.agg #[.int .i64 key, .iface 80 (.agg #[.string s])]), .iface 133 (.pointer (some b)), .bool true] w fun e w' => e = .returned (.bool false) ∧ Below w.heap.size w w' := by
  have nW := @eNoIs
  have nF := @fNoIs
  have nU := @fNoUnwrap
  have nUs := @fNoUnwraps
  have uW := @eHasUnwrap
  have mU := @eMethodUnwrap
  have hty := run_eql_iface_types (P := Tryd.prog) 75 133 (.agg #[.int .i64 key, .iface 80 (.agg #[.string s])]) (.pointer (some b)) Tryd.underlying48 (by decide)
  have hty2 := run_eql_iface_types (P := Tryd.prog) 80 133 (.agg #[.string s]) (.pointer (some b)) Tryd.underlying48 (by decide)
  have HU : Hid (∀ w, Calls Tryd.prog 102 #[.agg #[.int .i64 key, .iface 80 (.agg #[.string s])]] w fun e w' => e = .returned (.iface 80 (.agg #[.string s])) ∧ Below w.heap.size w w') := fun w => unwrapBox_any key _ w
  go_enter Tryd.func47, Tryd.ntmps47
  go_wp2
  refine wp_loop_rounds 2 ?_
  rw [rounds_succ]
  go_wp2_with fail
  refine (HU.out w).mono ?_
  rintro e w1 ⟨rfl, hB1⟩
  go_wp2
  rw [rounds_succ]
  go_wp2
  go_ret
  exact ⟨rfl, hB1⟩
theorem isFar_any (key : Int) (s : ByteArray) (b : Addr) (w : World) : Calls Tryd.prog 37 #[.iface 75 (.agg #[.int .i64 key, .iface 80 (.agg #[.string s])]), .iface 133 (.pointer (some b))] w fun e w' => e = .returned (.bool false) ∧ Below w.heap.size w w' := by
  have tT := @eTypeOf
  have cT := @eComparable
  have mR := @eMethodComparable
  have hn2 := run_eql_iface_nil_left (P := Tryd.prog) w 133 (.pointer (some b)) Tryd.underlying48
  have HL := isFarLoop key s b w
  go_enter Tryd.func37, Tryd.ntmps37
  go_wp2_with fail
  refine HL.mono ?_
  rintro e w1 ⟨rfl, hB1⟩
  go_wp2
  go_ret
  exact ⟨rfl, hB1⟩

set_option maxRecDepth 20000 in
theorem asFarLoop (key : Int) (s : ByteArray) (t q : Addr) (old : Value) (w : World) (n : Nat) (hq : w.cell? q = some (.pointer (some t))) (hqb : q.block < w.heap.size) (ht : w.cell? t = some old) (htb : t.block < w.heap.size) (hf : w.frozen? t = false) (hn : n ≤ t.block) (hnw : n ≤ w.heap.size) :
    Calls Tryd.prog 51 #[.iface 75 (.agg #[.int .i64 key, .iface 80 (.agg #[.string s])]), .iface 83 (.pointer (some t)), .agg #[.pointer (some ⟨6, 83, none⟩), .pointer (some q), .int .u64 150], .iface 115 (.agg #[.pointer (some ⟨6, 80, none⟩)])] w
      fun e w' => e = .returned (.bool true) ∧ Below n w w' := by
  have e11 := @run_callFunc_extern Tryd.prog 57 _ (ReflectliteValue.method (ReflectliteValue.valueError "reflectlite.Value.Elem" 0) ReflectliteValue.elem) Tryd.func57 (by kernel_rfl) (by kernel_rfl) (by kernel_rfl) (by kernel_rfl)
  have e12 := @run_callFunc_extern Tryd.prog 58 _ ReflectliteValue.set Tryd.func58 (by kernel_rfl) (by kernel_rfl) (by kernel_rfl) (by kernel_rfl)
  have nA := @fNoAs
  have uW := @eHasUnwrap
  have mU := @eMethodUnwrap
  have mA := @fMethodAssignableTo
  have aB := @fAssignB
  have aS := @fAssignS
  have tB := @fTypeOfB
  have tS := @fTypeOfS
  have vS := @fValueOfS
  have el := fElemV q t ((w.alloc (.cells #[.pointer (some ⟨6, 83, none⟩), .pointer (some q), .int .u64 150] 98)).alloc (.cells #[.int .i64 key, .iface 80 (.agg #[.string s])] 75)) (by rw [World.cell?_alloc_lt _ _ q (by simp; omega), World.cell?_alloc_lt _ _ q hqb]; exact hq)
  have st := fSet t ⟨w.heap.size + 1 + 1, 0, none⟩ s old (((w.alloc (.cells #[.pointer (some ⟨6, 83, none⟩), .pointer (some q), .int .u64 150] 98)).alloc (.cells #[.int .i64 key, .iface 80 (.agg #[.string s])] 75)).alloc (.cells #[.string s] 80))
    (by rw [World.cell?_alloc_at _ _ _ _ (by simp)]; rfl)
    (by rw [World.cell?_alloc_lt _ _ t (by simp; omega), World.cell?_alloc_lt _ _ t (by simp; omega), World.cell?_alloc_lt _ _ t htb]; exact ht)
    (by rw [World.frozen?_alloc_old _ _ t (by simp; omega), World.frozen?_alloc_old _ _ t (by simp; omega), World.frozen?_alloc_old _ _ t (Nat.ne_of_lt htb)]; exact hf)
  have HU : Hid (∀ w, Calls Tryd.prog 102 #[.agg #[.int .i64 key, .iface 80 (.agg #[.string s])]] w fun e w' => e = .returned (.iface 80 (.agg #[.string s])) ∧ w' = w.alloc (.cells #[.int .i64 key, .iface 80 (.agg #[.string s])] 75)) := fun w => unwrapX_any key _ w
  go_enter Tryd.func51, Tryd.ntmps51
  go_wp2
  refine wp_loop_rounds 2 ?_
  rw [rounds_succ]
  go_wp2_with fail
  refine (HU.out _).mono ?_
  rintro e w1 ⟨rfl, hw1⟩
  rw [hw1]
  clear hw1 w1
  go_wp2
  rw [rounds_succ]
  go_wp2
  go_ret
  exact ⟨rfl, ((((Below.refl _ _).alloc hnw _).alloc (by simp; omega) _).alloc (by simp; omega) _).setCell hn _⟩

set_option maxRecDepth 20000 in
theorem asFar_any (key : Int) (s : ByteArray) (t : Addr) (old : Value) (w : World) (n : Nat) (hg : w.cell? ⟨1, 0, none⟩ = some (.iface 115 (.agg #[.pointer (some ⟨6, 48, none⟩)]))) (h1 : 1 < w.heap.size) (ht : w.cell? t = some old) (htb : t.block < w.heap.size) (hf : w.frozen? t = false) (hn : n ≤ t.block) (hnw : n ≤ w.heap.size) :
    Calls Tryd.prog 38 #[.iface 75 (.agg #[.int .i64 key, .iface 80 (.agg #[.string s])]), .iface 83 (.pointer (some t))] w fun e w' => e = .returned (.bool true) ∧ Below n w w' := by
  have e8 := @run_callFunc_extern Tryd.prog 50 _ (ReflectliteValue.method (ReflectliteValue.valueError "reflectlite.Value.IsNil" 0) ReflectliteValue.isNil) Tryd.func50 (by kernel_rfl) (by kernel_rfl) (by kernel_rfl) (by kernel_rfl)
  have vP := @fValueOfP
  have tY := @fType
  have mK := @fMethodKind
  have kP := @fKindP
  have kS := @fKindS
  have mE := @fMethodElem
  have eL := @fElem
  have mI := @fMethodImplements
  have iM := @fImplements
  have hB1 : Below w.heap.size w (w.alloc (.cells #[.pointer (some t)] 83)) := (Below.refl _ _).alloc (Nat.le_refl _) _
  have hB2 : Below w.heap.size w ((w.alloc (.cells #[.pointer (some t)] 83)).alloc (.cells #[.pointer (some ⟨6, 83, none⟩), .pointer (some ⟨w.heap.size, 0, none⟩), .int .u64 150] 98)) := hB1.alloc (by simp) _
  have n8 := fIsNil ⟨w.heap.size, 0, none⟩ t ((w.alloc (.cells #[.pointer (some t)] 83)).alloc (.cells #[.pointer (some ⟨6, 83, none⟩), .pointer (some ⟨w.heap.size, 0, none⟩), .int .u64 150] 98)) (by simp)
  have hg2 : ((w.alloc (.cells #[.pointer (some t)] 83)).alloc (.cells #[.pointer (some ⟨6, 83, none⟩), .pointer (some ⟨w.heap.size, 0, none⟩), .int .u64 150] 98)).cell? ⟨1, 0, none⟩ = some (.iface 115 (.agg #[.pointer (some ⟨6, 48, none⟩)])) := (hB2.cell (p := ⟨1, 0, none⟩) h1).trans hg
  have HL := asFarLoop key s t ⟨w.heap.size, 0, none⟩ old ((w.alloc (.cells #[.pointer (some t)] 83)).alloc (.cells #[.pointer (some ⟨6, 83, none⟩), .pointer (some ⟨w.heap.size, 0, none⟩), .int .u64 150] 98)) n (by simp) (by simp; omega) ((hB2.cell htb).trans ht) (Nat.lt_of_lt_of_le htb hB2.size)
    (by rw [World.frozen?_alloc_old _ _ t (by simp; omega), World.frozen?_alloc_old _ _ t (Nat.ne_of_lt htb)]; exact hf) hn (Nat.le_trans hnw hB2.size)
  have HB2 := (show Hid _ from hB2.mono hnw)
  clear hB1 hB2
  go_enter Tryd.func38, Tryd.ntmps38
  go_wp2_with fail
  refine HL.mono ?_
  rintro e w1 ⟨rfl, hB3⟩
  go_wp2
  go_ret
  exact ⟨rfl, HB2.out.trans hB3⟩

theorem heldFar_any (key : Int) (s : ByteArray) (b : Addr) (w : World) (hG : w.cell? ⟨0, 0, none⟩ = some (.iface 133 (.pointer (some b)))) (hE : w.cell? ⟨1, 0, none⟩ = some (.iface 115 (.agg #[.pointer (some ⟨6, 48, none⟩)]))) (h1 : 1 < w.heap.size) :
    Calls Tryd.prog 25 #[.iface 75 (.agg #[.int .i64 key, .iface 80 (.agg #[.string s])])] w fun e w' => e = .returned (.bool true) ∧ Below w.heap.size w w' := by
  have HB : Below w.heap.size w (w.alloc (.cells #[.string ⟨#[]⟩] 80)) := (Below.refl _ _).alloc (Nat.le_refl _) _
  have hx : (w.alloc (.cells #[.string ⟨#[]⟩] 80)).heap[w.heap.size]? = some (.cells #[.string ⟨#[]⟩] 80 (0, 0)) := heap_alloc_new w _
  have hG2 : (w.alloc (.cells #[.string ⟨#[]⟩] 80)).cell? ⟨0, 0, none⟩ = some (.iface 133 (.pointer (some b))) := (HB.cell (p := ⟨0, 0, none⟩) (by show 0 < _; omega)).trans hG
  have hE2 : (w.alloc (.cells #[.string ⟨#[]⟩] 80)).cell? ⟨1, 0, none⟩ = some (.iface 115 (.agg #[.pointer (some ⟨6, 48, none⟩)])) := (HB.cell (p := ⟨1, 0, none⟩) h1).trans hE
  have HI := (show Hid (∀ w, Calls Tryd.prog 37 #[.iface 75 (.agg #[.int .i64 key, .iface 80 (.agg #[.string s])]), .iface 133 (.pointer (some b))] w fun e w' => e = .returned (.bool false) ∧ Below w.heap.size w w') from fun w => isFar_any key s b w)
  have HE2 := (show Hid _ from hE2)
  have HX := (show Hid _ from hx)
  have HB := (show Hid _ from HB)
  have H1 := (show Hid _ from h1)
  clear hE2 hx hG hE h1
  go_enter Tryd.func25, Tryd.ntmps25
  go_wp2_with fail
  refine (HI.out _).mono ?_
  rintro e w1 ⟨rfl, hB1⟩
  have x1 := (hB1.block _ (lt_of_block HX.out)).trans HX.out
  have l1 := lt_of_block x1
  have e1 := (hB1.cell (p := ⟨1, 0, none⟩) (Nat.lt_of_lt_of_le H1.out HB.out.size)).trans HE2.out
  have HA := asFar_any key s ⟨w.heap.size, 0, none⟩ (.string ⟨#[]⟩) w1 w.heap.size e1 (Nat.lt_of_lt_of_le H1.out (Nat.le_of_lt l1)) (cell_of_row w1 _ 0 _ _ _ x1) l1 (by simp [World.frozen?, x1]) (Nat.le_refl _) (Nat.le_of_lt l1)
  have HB1 := (show Hid _ from HB.out.trans (hB1.mono HB.out.size))
  clear x1 l1 e1 hB1
  go_wp2_with fail
  refine HA.mono ?_
  rintro e w2 ⟨rfl, hB2⟩
  go_wp2
  go_ret
  exact ⟨rfl, HB1.out.trans hB2⟩
end Go.Proofs.YtcolcnkjcagbaaaDoor
