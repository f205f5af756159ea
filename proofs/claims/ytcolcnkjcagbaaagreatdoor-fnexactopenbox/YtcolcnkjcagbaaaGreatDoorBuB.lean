/-
  The program's bodyOf: of a box whose term is a sealed body its number, else a refusal. Condition: the variable errNoBox holds a pointer.
  The specification's BoxOk: a box is right just where its term is the text of a body sealed by its key. Condition: the text is not huge.
  Both tests of a box answer the same plain test. Conditions: the text is not huge; the variable errNoBox holds a pointer.
-/
import Derived.Test.YtcolcnkjcagbaaaGreatDoorBuF
import Derived.Test.YtcolcnkjcagbaaaGreatDoorPrB
import Derived.Test.YtcolcnkjcagbaaaGreatDoorFields
namespace Go.Proofs.YtcolcnkjcagbaaaGreatDoor
open Go.RowKit
set_option linter.unusedVariables false

section
variable (v : Value) (w : World)
theorem asK : (Instr.typeAssert (.iface 106 v) 75 106 true).run Tryz.prog w = .ok (.tuple #[v, .bool true]) w := by
  simp [Instr.typeAssert, run_underlying Tryz.underlying106, go_sem, Result.andThen]
theorem asL : (Instr.typeAssert (.iface 104 v) 75 104 true).run Tryz.prog w = .ok (.tuple #[v, .bool true]) w := by
  simp [Instr.typeAssert, run_underlying Tryz.underlying104, go_sem, Result.andThen]
theorem noK (T : TypeId) (h : T ≠ 106) : (Instr.typeAssert (.iface T v) 75 106 true).run Tryz.prog w = .ok (.tuple #[.agg #[.int .i64 0, .int .i64 0, .nilIface], .bool false]) w := by
  have hz : Tryz.t106.zero = some (.agg #[.int .i64 0, .int .i64 0, .nilIface]) := by kernel_rfl
  simp [Instr.typeAssert, run_underlying Tryz.underlying106, go_sem, Result.andThen, h, zeroValue, hz]
theorem noL (T : TypeId) (h : T ≠ 104) : (Instr.typeAssert (.iface T v) 75 104 true).run Tryz.prog w = .ok (.tuple #[.agg #[.int .i64 0, .int .i64 0], .bool false]) w := by
  have hz : Tryz.t104.zero = some (.agg #[.int .i64 0, .int .i64 0]) := by kernel_rfl
  simp [Instr.typeAssert, run_underlying Tryz.underlying104, go_sem, Result.andThen, h, zeroValue, hz]
end
theorem nilK (w : World) : (Instr.typeAssert .nilIface 75 106 true).run Tryz.prog w = .ok (.tuple #[.agg #[.int .i64 0, .int .i64 0, .nilIface], .bool false]) w := by
  have hz : Tryz.t106.zero = some (.agg #[.int .i64 0, .int .i64 0, .nilIface]) := by kernel_rfl
  simp [Instr.typeAssert, run_underlying Tryz.underlying106, go_sem, Result.andThen, zeroValue, hz]

theorem epochKeyOk_any (key : Int) (w : World) : Calls Tryz.prog 69 #[.int .i64 key] w fun e w' => e = .returned (.bool (decide (100 ≤ key) && decide (key ≤ 199))) ∧ w' = w := by
  by_cases h1 : 100 ≤ key
  · by_cases h2 : key ≤ 199
    all_goals
      go_enter Tryz.func69, Tryz.ntmps69
      go_wp2
      go_ret
      exact ⟨by simp [h1, h2], rfl⟩
  · go_enter Tryz.func69, Tryz.ntmps69
    go_wp2
    go_ret
    exact ⟨by simp; intro h; omega, rfl⟩

/-- the number of the body that a term is, sealed by key -/
def bodyT (key : Int) : Tr → Option Nat
  | ⟨.inr (.inr (.inr (k, n, ⟨.inl (j, m)⟩)))⟩ => if k = 6 ∧ (n : Int) = key ∧ 100 ≤ key ∧ key ≤ 199 ∧ j = 1 ∧ m ≤ 60 then some m else none
  | _ => none

def refusal (key : Int) (b : Addr) : Value := .iface 97 (.agg #[.int .i64 key, .iface 216 (.pointer (some b))])
def bodyV (key : Int) (b : Addr) : Option Nat → Value
  | some m => .tuple #[.int .i64 m, .nilIface]
  | none => .tuple #[.int .i64 0, refusal key b]

set_option maxHeartbeats 1000000 in
theorem body_none (key : Int) (s : ByteArray) (b : Addr) (w : World) (hs : s.size ≤ 1048576) (hG : w.cell? ⟨0, 0, none⟩ = some (.iface 216 (.pointer (some b)))) (h0 : 0 < w.heap.size) {c : Bool} (hr : tup2 (rT s) = .tuple #[.nilIface, .bool c]) :
    Calls Tryz.prog 48 #[.agg #[.int .i64 key, .string s]] w fun e w' => e = .returned (bodyV key b none) ∧ Below w.heap.size w w' := by
  have HT : Hid (∀ w, Calls Tryz.prog 68 #[.string s] w fun e w' => e = .returned (tup2 (rT s)) ∧ Below w.heap.size w w') := fun w => termOfText_any s w hs
  rw [hr] at HT
  have HB0 : Hid (Below w.heap.size w (w.alloc (.cells #[.int .i64 key, .string s] 34))) := (Below.refl _ _).alloc (Nat.le_refl _) _
  have HX : Hid ((w.alloc (.cells #[.int .i64 key, .string s] 34)).heap[w.heap.size]? = some (.cells #[.int .i64 key, .string s] 34 (0, 0))) := heap_alloc_new w _
  have HG := (show Hid _ from hG)
  have H0 := (show Hid _ from h0)
  clear hG h0 hs hr
  have nk := @nilK
  go_enter Tryz.func48, Tryz.ntmps48
  go_wp2_with fail
  refine (HT.out _).mono ?_
  rintro e w1 ⟨rfl, hB1⟩
  have HB1 : Hid (Below w.heap.size w w1) := HB0.out.trans (hB1.mono HB0.out.size)
  have hx := (hB1.block _ (lt_of_block HX.out)).trans HX.out
  have hba : Below w1.heap.size w1 (w1.alloc (.cells #[.int .i64 0, .int .i64 0, .nilIface] 106)) := (Below.refl _ _).alloc (Nat.le_refl _) _
  have c0 : (w1.alloc (.cells #[.int .i64 0, .int .i64 0, .nilIface] 106)).cell? ⟨w.heap.size, 0, none⟩ = some (.int .i64 key) := (hba.cell (p := ⟨w.heap.size, 0, none⟩) (lt_of_block hx)).trans (cell_of_row w1 _ 0 _ _ _ hx)
  have g0 : (w1.alloc (.cells #[.int .i64 0, .int .i64 0, .nilIface] 106)).cell? ⟨0, 0, none⟩ = some (.iface 216 (.pointer (some b))) := (hba.cell (p := ⟨0, 0, none⟩) (Nat.lt_of_lt_of_le H0.out HB1.out.size)).trans ((HB1.out.cell (p := ⟨0, 0, none⟩) H0.out).trans HG.out)
  have HBE : Hid (Below w.heap.size w (w1.alloc (.cells #[.int .i64 0, .int .i64 0, .nilIface] 106))) := HB1.out.trans (hba.mono HB1.out.size)
  have hxe := (hba.block _ (lt_of_block hx)).trans hx
  clear hB1 hx hba hxe
  go_wp2_with (go_at_call 69; refine (epochKeyOk_any key _).mono ?_; rintro e w2 ⟨rfl, hw2⟩; rw [hw2])
  go_quiet (fail)
  go_wp2
  go_ret2
  exact ⟨rfl, HBE.out.trans ⟨rfl, rfl, rfl, Nat.le_refl _, fun _ _ => rfl⟩⟩
set_option maxHeartbeats 1000000 in
theorem body_not (key : Int) (s : ByteArray) (b : Addr) (w : World) (hs : s.size ≤ 1048576) (hG : w.cell? ⟨0, 0, none⟩ = some (.iface 216 (.pointer (some b)))) (h0 : 0 < w.heap.size) {c : Bool} (T : TypeId) (x : Value) (hT : T ≠ 106) (hr : tup2 (rT s) = .tuple #[.iface T x, .bool c]) :
    Calls Tryz.prog 48 #[.agg #[.int .i64 key, .string s]] w fun e w' => e = .returned (bodyV key b none) ∧ Below w.heap.size w w' := by
  have HT : Hid (∀ w, Calls Tryz.prog 68 #[.string s] w fun e w' => e = .returned (tup2 (rT s)) ∧ Below w.heap.size w w') := fun w => termOfText_any s w hs
  rw [hr] at HT
  have HB0 : Hid (Below w.heap.size w (w.alloc (.cells #[.int .i64 key, .string s] 34))) := (Below.refl _ _).alloc (Nat.le_refl _) _
  have HX : Hid ((w.alloc (.cells #[.int .i64 key, .string s] 34)).heap[w.heap.size]? = some (.cells #[.int .i64 key, .string s] 34 (0, 0))) := heap_alloc_new w _
  have HG := (show Hid _ from hG)
  have H0 := (show Hid _ from h0)
  clear hG h0 hs hr
  have nk := fun w => noK x w T hT
  clear hT
  go_enter Tryz.func48, Tryz.ntmps48
  go_wp2_with fail
  refine (HT.out _).mono ?_
  rintro e w1 ⟨rfl, hB1⟩
  have HB1 : Hid (Below w.heap.size w w1) := HB0.out.trans (hB1.mono HB0.out.size)
  have hx := (hB1.block _ (lt_of_block HX.out)).trans HX.out
  have hba : Below w1.heap.size w1 (w1.alloc (.cells #[.int .i64 0, .int .i64 0, .nilIface] 106)) := (Below.refl _ _).alloc (Nat.le_refl _) _
  have c0 : (w1.alloc (.cells #[.int .i64 0, .int .i64 0, .nilIface] 106)).cell? ⟨w.heap.size, 0, none⟩ = some (.int .i64 key) := (hba.cell (p := ⟨w.heap.size, 0, none⟩) (lt_of_block hx)).trans (cell_of_row w1 _ 0 _ _ _ hx)
  have g0 : (w1.alloc (.cells #[.int .i64 0, .int .i64 0, .nilIface] 106)).cell? ⟨0, 0, none⟩ = some (.iface 216 (.pointer (some b))) := (hba.cell (p := ⟨0, 0, none⟩) (Nat.lt_of_lt_of_le H0.out HB1.out.size)).trans ((HB1.out.cell (p := ⟨0, 0, none⟩) H0.out).trans HG.out)
  have HBE : Hid (Below w.heap.size w (w1.alloc (.cells #[.int .i64 0, .int .i64 0, .nilIface] 106))) := HB1.out.trans (hba.mono HB1.out.size)
  have hxe := (hba.block _ (lt_of_block hx)).trans hx
  clear hB1 hx hba hxe
  go_wp2_with (go_at_call 69; refine (epochKeyOk_any key _).mono ?_; rintro e w2 ⟨rfl, hw2⟩; rw [hw2])
  go_quiet (fail)
  go_wp2
  go_ret2
  exact ⟨rfl, HBE.out.trans ⟨rfl, rfl, rfl, Nat.le_refl _, fun _ _ => rfl⟩⟩
set_option maxHeartbeats 1000000 in
theorem body_kind (key : Int) (s : ByteArray) (b : Addr) (w : World) (hs : s.size ≤ 1048576) (hG : w.cell? ⟨0, 0, none⟩ = some (.iface 216 (.pointer (some b)))) (h0 : 0 < w.heap.size) {c : Bool} (k n : Nat) (U : TypeId) (y : Value) (hk7 : k ≤ 7) (hn9 : n ≤ 999) (hk : ¬ k = 6) (hr : tup2 (rT s) = .tuple #[.iface 106 (.agg #[.int .i64 k, .int .i64 n, .iface U y]), .bool c]) :
    Calls Tryz.prog 48 #[.agg #[.int .i64 key, .string s]] w fun e w' => e = .returned (bodyV key b none) ∧ Below w.heap.size w w' := by
  have HT : Hid (∀ w, Calls Tryz.prog 68 #[.string s] w fun e w' => e = .returned (tup2 (rT s)) ∧ Below w.heap.size w w') := fun w => termOfText_any s w hs
  rw [hr] at HT
  have HB0 : Hid (Below w.heap.size w (w.alloc (.cells #[.int .i64 key, .string s] 34))) := (Below.refl _ _).alloc (Nat.le_refl _) _
  have HX : Hid ((w.alloc (.cells #[.int .i64 key, .string s] 34)).heap[w.heap.size]? = some (.cells #[.int .i64 key, .string s] 34 (0, 0))) := heap_alloc_new w _
  have HG := (show Hid _ from hG)
  have H0 := (show Hid _ from h0)
  clear hG h0 hs hr
  have ak := @asK
  have hk1 : ((k : Int) != 6) = true := by simp; omega
  clear hk
  go_enter Tryz.func48, Tryz.ntmps48
  go_wp2_with fail
  refine (HT.out _).mono ?_
  rintro e w1 ⟨rfl, hB1⟩
  have HB1 : Hid (Below w.heap.size w w1) := HB0.out.trans (hB1.mono HB0.out.size)
  have hx := (hB1.block _ (lt_of_block HX.out)).trans HX.out
  have hba : Below w1.heap.size w1 (w1.alloc (.cells #[.int .i64 k, .int .i64 n, .iface U y] 106)) := (Below.refl _ _).alloc (Nat.le_refl _) _
  have c0 : (w1.alloc (.cells #[.int .i64 k, .int .i64 n, .iface U y] 106)).cell? ⟨w.heap.size, 0, none⟩ = some (.int .i64 key) := (hba.cell (p := ⟨w.heap.size, 0, none⟩) (lt_of_block hx)).trans (cell_of_row w1 _ 0 _ _ _ hx)
  have g0 : (w1.alloc (.cells #[.int .i64 k, .int .i64 n, .iface U y] 106)).cell? ⟨0, 0, none⟩ = some (.iface 216 (.pointer (some b))) := (hba.cell (p := ⟨0, 0, none⟩) (Nat.lt_of_lt_of_le H0.out HB1.out.size)).trans ((HB1.out.cell (p := ⟨0, 0, none⟩) H0.out).trans HG.out)
  have HBE : Hid (Below w.heap.size w (w1.alloc (.cells #[.int .i64 k, .int .i64 n, .iface U y] 106))) := HB1.out.trans (hba.mono HB1.out.size)
  have hxe := (hba.block _ (lt_of_block hx)).trans hx
  clear hB1 hx hba hxe
  go_wp2_with (go_at_call 69; refine (epochKeyOk_any key _).mono ?_; rintro e w2 ⟨rfl, hw2⟩; rw [hw2])
  go_quiet (fail)
  go_wp2
  go_ret2
  exact ⟨rfl, HBE.out.trans ⟨rfl, rfl, rfl, Nat.le_refl _, fun _ _ => rfl⟩⟩
set_option maxHeartbeats 1000000 in
theorem body_key (key : Int) (s : ByteArray) (b : Addr) (w : World) (hs : s.size ≤ 1048576) (hG : w.cell? ⟨0, 0, none⟩ = some (.iface 216 (.pointer (some b)))) (h0 : 0 < w.heap.size) {c : Bool} (k n : Nat) (U : TypeId) (y : Value) (hk7 : k ≤ 7) (hn9 : n ≤ 999) (hk : k = 6) (hn : ¬ (n : Int) = key) (hr : tup2 (rT s) = .tuple #[.iface 106 (.agg #[.int .i64 k, .int .i64 n, .iface U y]), .bool c]) :
    Calls Tryz.prog 48 #[.agg #[.int .i64 key, .string s]] w fun e w' => e = .returned (bodyV key b none) ∧ Below w.heap.size w w' := by
  have HT : Hid (∀ w, Calls Tryz.prog 68 #[.string s] w fun e w' => e = .returned (tup2 (rT s)) ∧ Below w.heap.size w w') := fun w => termOfText_any s w hs
  rw [hr] at HT
  have HB0 : Hid (Below w.heap.size w (w.alloc (.cells #[.int .i64 key, .string s] 34))) := (Below.refl _ _).alloc (Nat.le_refl _) _
  have HX : Hid ((w.alloc (.cells #[.int .i64 key, .string s] 34)).heap[w.heap.size]? = some (.cells #[.int .i64 key, .string s] 34 (0, 0))) := heap_alloc_new w _
  have HG := (show Hid _ from hG)
  have H0 := (show Hid _ from h0)
  clear hG h0 hs hr
  have ak := @asK
  have hk1 : ((k : Int) != 6) = false := by simp; omega
  have hn1 : ((n : Int) != key) = true := by simpa using hn
  clear hk hn
  go_enter Tryz.func48, Tryz.ntmps48
  go_wp2_with fail
  refine (HT.out _).mono ?_
  rintro e w1 ⟨rfl, hB1⟩
  have HB1 : Hid (Below w.heap.size w w1) := HB0.out.trans (hB1.mono HB0.out.size)
  have hx := (hB1.block _ (lt_of_block HX.out)).trans HX.out
  have hba : Below w1.heap.size w1 (w1.alloc (.cells #[.int .i64 k, .int .i64 n, .iface U y] 106)) := (Below.refl _ _).alloc (Nat.le_refl _) _
  have c0 : (w1.alloc (.cells #[.int .i64 k, .int .i64 n, .iface U y] 106)).cell? ⟨w.heap.size, 0, none⟩ = some (.int .i64 key) := (hba.cell (p := ⟨w.heap.size, 0, none⟩) (lt_of_block hx)).trans (cell_of_row w1 _ 0 _ _ _ hx)
  have g0 : (w1.alloc (.cells #[.int .i64 k, .int .i64 n, .iface U y] 106)).cell? ⟨0, 0, none⟩ = some (.iface 216 (.pointer (some b))) := (hba.cell (p := ⟨0, 0, none⟩) (Nat.lt_of_lt_of_le H0.out HB1.out.size)).trans ((HB1.out.cell (p := ⟨0, 0, none⟩) H0.out).trans HG.out)
  have HBE : Hid (Below w.heap.size w (w1.alloc (.cells #[.int .i64 k, .int .i64 n, .iface U y] 106))) := HB1.out.trans (hba.mono HB1.out.size)
  have hxe := (hba.block _ (lt_of_block hx)).trans hx
  clear hB1 hx hba hxe
  go_wp2_with (go_at_call 69; refine (epochKeyOk_any key _).mono ?_; rintro e w2 ⟨rfl, hw2⟩; rw [hw2])
  go_quiet (fail)
  go_wp2
  go_ret2
  exact ⟨rfl, HBE.out.trans ⟨rfl, rfl, rfl, Nat.le_refl _, fun _ _ => rfl⟩⟩
set_option maxHeartbeats 1000000 in
theorem body_far (key : Int) (s : ByteArray) (b : Addr) (w : World) (hs : s.size ≤ 1048576) (hG : w.cell? ⟨0, 0, none⟩ = some (.iface 216 (.pointer (some b)))) (h0 : 0 < w.heap.size) {c : Bool} (k n : Nat) (U : TypeId) (y : Value) (hk7 : k ≤ 7) (hn9 : n ≤ 999) (hk : k = 6) (hn : (n : Int) = key) (hf : (decide (100 ≤ key) && decide (key ≤ 199)) = false) (hr : tup2 (rT s) = .tuple #[.iface 106 (.agg #[.int .i64 k, .int .i64 n, .iface U y]), .bool c]) :
    Calls Tryz.prog 48 #[.agg #[.int .i64 key, .string s]] w fun e w' => e = .returned (bodyV key b none) ∧ Below w.heap.size w w' := by
  have HT : Hid (∀ w, Calls Tryz.prog 68 #[.string s] w fun e w' => e = .returned (tup2 (rT s)) ∧ Below w.heap.size w w') := fun w => termOfText_any s w hs
  rw [hr] at HT
  have HB0 : Hid (Below w.heap.size w (w.alloc (.cells #[.int .i64 key, .string s] 34))) := (Below.refl _ _).alloc (Nat.le_refl _) _
  have HX : Hid ((w.alloc (.cells #[.int .i64 key, .string s] 34)).heap[w.heap.size]? = some (.cells #[.int .i64 key, .string s] 34 (0, 0))) := heap_alloc_new w _
  have HG := (show Hid _ from hG)
  have H0 := (show Hid _ from h0)
  clear hG h0 hs hr
  have ak := @asK
  have hk1 : ((k : Int) != 6) = false := by simp; omega
  have hn1 : ((n : Int) != key) = false := by simpa using hn
  have HF := (show Hid _ from hf)
  clear hk hn hf
  go_enter Tryz.func48, Tryz.ntmps48
  go_wp2_with fail
  refine (HT.out _).mono ?_
  rintro e w1 ⟨rfl, hB1⟩
  have HB1 : Hid (Below w.heap.size w w1) := HB0.out.trans (hB1.mono HB0.out.size)
  have hx := (hB1.block _ (lt_of_block HX.out)).trans HX.out
  have hba : Below w1.heap.size w1 (w1.alloc (.cells #[.int .i64 k, .int .i64 n, .iface U y] 106)) := (Below.refl _ _).alloc (Nat.le_refl _) _
  have c0 : (w1.alloc (.cells #[.int .i64 k, .int .i64 n, .iface U y] 106)).cell? ⟨w.heap.size, 0, none⟩ = some (.int .i64 key) := (hba.cell (p := ⟨w.heap.size, 0, none⟩) (lt_of_block hx)).trans (cell_of_row w1 _ 0 _ _ _ hx)
  have g0 : (w1.alloc (.cells #[.int .i64 k, .int .i64 n, .iface U y] 106)).cell? ⟨0, 0, none⟩ = some (.iface 216 (.pointer (some b))) := (hba.cell (p := ⟨0, 0, none⟩) (Nat.lt_of_lt_of_le H0.out HB1.out.size)).trans ((HB1.out.cell (p := ⟨0, 0, none⟩) H0.out).trans HG.out)
  have HBE : Hid (Below w.heap.size w (w1.alloc (.cells #[.int .i64 k, .int .i64 n, .iface U y] 106))) := HB1.out.trans (hba.mono HB1.out.size)
  have hxe := (hba.block _ (lt_of_block hx)).trans hx
  clear hB1 hx hba hxe
  go_wp2_with (go_at_call 69; refine (epochKeyOk_any key _).mono ?_; rintro e w2 ⟨rfl, hw2⟩; rw [hw2, HF.out])
  go_quiet (fail)
  go_wp2
  go_ret2
  exact ⟨rfl, HBE.out.trans ⟨rfl, rfl, rfl, Nat.le_refl _, fun _ _ => rfl⟩⟩
set_option maxHeartbeats 1000000 in
theorem body_of (key : Int) (s : ByteArray) (b : Addr) (w : World) (hs : s.size ≤ 1048576) (hG : w.cell? ⟨0, 0, none⟩ = some (.iface 216 (.pointer (some b)))) (h0 : 0 < w.heap.size) {c : Bool} (k n : Nat) (U : TypeId) (y : Value) (hk7 : k ≤ 7) (hn9 : n ≤ 999) (hU : U ≠ 104) (hk : k = 6) (hn : (n : Int) = key) (hf : (decide (100 ≤ key) && decide (key ≤ 199)) = true) (hr : tup2 (rT s) = .tuple #[.iface 106 (.agg #[.int .i64 k, .int .i64 n, .iface U y]), .bool c]) :
    Calls Tryz.prog 48 #[.agg #[.int .i64 key, .string s]] w fun e w' => e = .returned (bodyV key b none) ∧ Below w.heap.size w w' := by
  have HT : Hid (∀ w, Calls Tryz.prog 68 #[.string s] w fun e w' => e = .returned (tup2 (rT s)) ∧ Below w.heap.size w w') := fun w => termOfText_any s w hs
  rw [hr] at HT
  have HB0 : Hid (Below w.heap.size w (w.alloc (.cells #[.int .i64 key, .string s] 34))) := (Below.refl _ _).alloc (Nat.le_refl _) _
  have HX : Hid ((w.alloc (.cells #[.int .i64 key, .string s] 34)).heap[w.heap.size]? = some (.cells #[.int .i64 key, .string s] 34 (0, 0))) := heap_alloc_new w _
  have HG := (show Hid _ from hG)
  have H0 := (show Hid _ from h0)
  clear hG h0 hs hr
  have ak := @asK
  have hk1 : ((k : Int) != 6) = false := by simp; omega
  have hn1 : ((n : Int) != key) = false := by simpa using hn
  have HF := (show Hid _ from hf)
  clear hk hn hf
  have nl := fun w => noL y w U hU
  clear hU
  go_enter Tryz.func48, Tryz.ntmps48
  go_wp2_with fail
  refine (HT.out _).mono ?_
  rintro e w1 ⟨rfl, hB1⟩
  have HB1 : Hid (Below w.heap.size w w1) := HB0.out.trans (hB1.mono HB0.out.size)
  have hx := (hB1.block _ (lt_of_block HX.out)).trans HX.out
  have hba : Below w1.heap.size w1 (w1.alloc (.cells #[.int .i64 k, .int .i64 n, .iface U y] 106)) := (Below.refl _ _).alloc (Nat.le_refl _) _
  have c0 : (w1.alloc (.cells #[.int .i64 k, .int .i64 n, .iface U y] 106)).cell? ⟨w.heap.size, 0, none⟩ = some (.int .i64 key) := (hba.cell (p := ⟨w.heap.size, 0, none⟩) (lt_of_block hx)).trans (cell_of_row w1 _ 0 _ _ _ hx)
  have g0 : (w1.alloc (.cells #[.int .i64 k, .int .i64 n, .iface U y] 106)).cell? ⟨0, 0, none⟩ = some (.iface 216 (.pointer (some b))) := (hba.cell (p := ⟨0, 0, none⟩) (Nat.lt_of_lt_of_le H0.out HB1.out.size)).trans ((HB1.out.cell (p := ⟨0, 0, none⟩) H0.out).trans HG.out)
  have HBE : Hid (Below w.heap.size w (w1.alloc (.cells #[.int .i64 k, .int .i64 n, .iface U y] 106))) := HB1.out.trans (hba.mono HB1.out.size)
  have hxe := (hba.block _ (lt_of_block hx)).trans hx
  have hba2 : Below (w1.alloc (.cells #[.int .i64 k, .int .i64 n, .iface U y] 106)).heap.size (w1.alloc (.cells #[.int .i64 k, .int .i64 n, .iface U y] 106)) ((w1.alloc (.cells #[.int .i64 k, .int .i64 n, .iface U y] 106)).alloc (.cells #[.int .i64 0, .int .i64 0] 104)) := (Below.refl _ _).alloc (Nat.le_refl _) _
  have c02 : ((w1.alloc (.cells #[.int .i64 k, .int .i64 n, .iface U y] 106)).alloc (.cells #[.int .i64 0, .int .i64 0] 104)).cell? ⟨w.heap.size, 0, none⟩ = some (.int .i64 key) := (hba2.cell (p := ⟨w.heap.size, 0, none⟩) (lt_of_block hxe)).trans c0
  have g02 : ((w1.alloc (.cells #[.int .i64 k, .int .i64 n, .iface U y] 106)).alloc (.cells #[.int .i64 0, .int .i64 0] 104)).cell? ⟨0, 0, none⟩ = some (.iface 216 (.pointer (some b))) := (hba2.cell (p := ⟨0, 0, none⟩) (Nat.lt_of_lt_of_le H0.out HBE.out.size)).trans g0
  have HBE2 : Hid (Below w.heap.size w ((w1.alloc (.cells #[.int .i64 k, .int .i64 n, .iface U y] 106)).alloc (.cells #[.int .i64 0, .int .i64 0] 104))) := HBE.out.trans (hba2.mono HBE.out.size)
  clear hB1 hx hba hxe hba2
  go_wp2_with (go_at_call 69; refine (epochKeyOk_any key _).mono ?_; rintro e w2 ⟨rfl, hw2⟩; rw [hw2, HF.out])
  go_quiet (fail)
  go_wp2
  go_ret2
  exact ⟨rfl, HBE2.out.trans ⟨rfl, rfl, rfl, Nat.le_refl _, fun _ _ => rfl⟩⟩
set_option maxHeartbeats 1000000 in
theorem body_leaf (key : Int) (s : ByteArray) (b : Addr) (w : World) (hs : s.size ≤ 1048576) (hG : w.cell? ⟨0, 0, none⟩ = some (.iface 216 (.pointer (some b)))) (h0 : 0 < w.heap.size) {c : Bool} (k n : Nat) (hk7 : k ≤ 7) (hn9 : n ≤ 999) (j m : Nat) (hj7 : j ≤ 7) (hm9 : m ≤ 999) (hk : k = 6) (hn : (n : Int) = key) (hf : (decide (100 ≤ key) && decide (key ≤ 199)) = true) (hj : ¬ j = 1) (hr : tup2 (rT s) = .tuple #[.iface 106 (.agg #[.int .i64 k, .int .i64 n, .iface 104 (.agg #[.int .i64 j, .int .i64 m])]), .bool c]) :
    Calls Tryz.prog 48 #[.agg #[.int .i64 key, .string s]] w fun e w' => e = .returned (bodyV key b none) ∧ Below w.heap.size w w' := by
  have HT : Hid (∀ w, Calls Tryz.prog 68 #[.string s] w fun e w' => e = .returned (tup2 (rT s)) ∧ Below w.heap.size w w') := fun w => termOfText_any s w hs
  rw [hr] at HT
  have HB0 : Hid (Below w.heap.size w (w.alloc (.cells #[.int .i64 key, .string s] 34))) := (Below.refl _ _).alloc (Nat.le_refl _) _
  have HX : Hid ((w.alloc (.cells #[.int .i64 key, .string s] 34)).heap[w.heap.size]? = some (.cells #[.int .i64 key, .string s] 34 (0, 0))) := heap_alloc_new w _
  have HG := (show Hid _ from hG)
  have H0 := (show Hid _ from h0)
  clear hG h0 hs hr
  have ak := @asK
  have hk1 : ((k : Int) != 6) = false := by simp; omega
  have hn1 : ((n : Int) != key) = false := by simpa using hn
  have HF := (show Hid _ from hf)
  clear hk hn hf
  have al := @asL
  have hj1 : ((j : Int) != 1) = true := by simp; omega
  clear hj
  go_enter Tryz.func48, Tryz.ntmps48
  go_wp2_with fail
  refine (HT.out _).mono ?_
  rintro e w1 ⟨rfl, hB1⟩
  have HB1 : Hid (Below w.heap.size w w1) := HB0.out.trans (hB1.mono HB0.out.size)
  have hx := (hB1.block _ (lt_of_block HX.out)).trans HX.out
  have hba : Below w1.heap.size w1 (w1.alloc (.cells #[.int .i64 k, .int .i64 n, .iface 104 (.agg #[.int .i64 j, .int .i64 m])] 106)) := (Below.refl _ _).alloc (Nat.le_refl _) _
  have c0 : (w1.alloc (.cells #[.int .i64 k, .int .i64 n, .iface 104 (.agg #[.int .i64 j, .int .i64 m])] 106)).cell? ⟨w.heap.size, 0, none⟩ = some (.int .i64 key) := (hba.cell (p := ⟨w.heap.size, 0, none⟩) (lt_of_block hx)).trans (cell_of_row w1 _ 0 _ _ _ hx)
  have g0 : (w1.alloc (.cells #[.int .i64 k, .int .i64 n, .iface 104 (.agg #[.int .i64 j, .int .i64 m])] 106)).cell? ⟨0, 0, none⟩ = some (.iface 216 (.pointer (some b))) := (hba.cell (p := ⟨0, 0, none⟩) (Nat.lt_of_lt_of_le H0.out HB1.out.size)).trans ((HB1.out.cell (p := ⟨0, 0, none⟩) H0.out).trans HG.out)
  have HBE : Hid (Below w.heap.size w (w1.alloc (.cells #[.int .i64 k, .int .i64 n, .iface 104 (.agg #[.int .i64 j, .int .i64 m])] 106))) := HB1.out.trans (hba.mono HB1.out.size)
  have hxe := (hba.block _ (lt_of_block hx)).trans hx
  have hba2 : Below (w1.alloc (.cells #[.int .i64 k, .int .i64 n, .iface 104 (.agg #[.int .i64 j, .int .i64 m])] 106)).heap.size (w1.alloc (.cells #[.int .i64 k, .int .i64 n, .iface 104 (.agg #[.int .i64 j, .int .i64 m])] 106)) ((w1.alloc (.cells #[.int .i64 k, .int .i64 n, .iface 104 (.agg #[.int .i64 j, .int .i64 m])] 106)).alloc (.cells #[.int .i64 j, .int .i64 m] 104)) := (Below.refl _ _).alloc (Nat.le_refl _) _
  have c02 : ((w1.alloc (.cells #[.int .i64 k, .int .i64 n, .iface 104 (.agg #[.int .i64 j, .int .i64 m])] 106)).alloc (.cells #[.int .i64 j, .int .i64 m] 104)).cell? ⟨w.heap.size, 0, none⟩ = some (.int .i64 key) := (hba2.cell (p := ⟨w.heap.size, 0, none⟩) (lt_of_block hxe)).trans c0
  have g02 : ((w1.alloc (.cells #[.int .i64 k, .int .i64 n, .iface 104 (.agg #[.int .i64 j, .int .i64 m])] 106)).alloc (.cells #[.int .i64 j, .int .i64 m] 104)).cell? ⟨0, 0, none⟩ = some (.iface 216 (.pointer (some b))) := (hba2.cell (p := ⟨0, 0, none⟩) (Nat.lt_of_lt_of_le H0.out HBE.out.size)).trans g0
  have HBE2 : Hid (Below w.heap.size w ((w1.alloc (.cells #[.int .i64 k, .int .i64 n, .iface 104 (.agg #[.int .i64 j, .int .i64 m])] 106)).alloc (.cells #[.int .i64 j, .int .i64 m] 104))) := HBE.out.trans (hba2.mono HBE.out.size)
  clear hB1 hx hba hxe hba2
  go_wp2_with (go_at_call 69; refine (epochKeyOk_any key _).mono ?_; rintro e w2 ⟨rfl, hw2⟩; rw [hw2, HF.out])
  go_quiet (fail)
  go_wp2
  go_ret2
  exact ⟨rfl, HBE2.out.trans ⟨rfl, rfl, rfl, Nat.le_refl _, fun _ _ => rfl⟩⟩
set_option maxHeartbeats 1000000 in
theorem body_high (key : Int) (s : ByteArray) (b : Addr) (w : World) (hs : s.size ≤ 1048576) (hG : w.cell? ⟨0, 0, none⟩ = some (.iface 216 (.pointer (some b)))) (h0 : 0 < w.heap.size) {c : Bool} (k n : Nat) (hk7 : k ≤ 7) (hn9 : n ≤ 999) (j m : Nat) (hj7 : j ≤ 7) (hm9 : m ≤ 999) (hk : k = 6) (hn : (n : Int) = key) (hf : (decide (100 ≤ key) && decide (key ≤ 199)) = true) (hj : j = 1) (hm : 60 < m) (hr : tup2 (rT s) = .tuple #[.iface 106 (.agg #[.int .i64 k, .int .i64 n, .iface 104 (.agg #[.int .i64 j, .int .i64 m])]), .bool c]) :
    Calls Tryz.prog 48 #[.agg #[.int .i64 key, .string s]] w fun e w' => e = .returned (bodyV key b none) ∧ Below w.heap.size w w' := by
  have HT : Hid (∀ w, Calls Tryz.prog 68 #[.string s] w fun e w' => e = .returned (tup2 (rT s)) ∧ Below w.heap.size w w') := fun w => termOfText_any s w hs
  rw [hr] at HT
  have HB0 : Hid (Below w.heap.size w (w.alloc (.cells #[.int .i64 key, .string s] 34))) := (Below.refl _ _).alloc (Nat.le_refl _) _
  have HX : Hid ((w.alloc (.cells #[.int .i64 key, .string s] 34)).heap[w.heap.size]? = some (.cells #[.int .i64 key, .string s] 34 (0, 0))) := heap_alloc_new w _
  have HG := (show Hid _ from hG)
  have H0 := (show Hid _ from h0)
  clear hG h0 hs hr
  have ak := @asK
  have hk1 : ((k : Int) != 6) = false := by simp; omega
  have hn1 : ((n : Int) != key) = false := by simpa using hn
  have HF := (show Hid _ from hf)
  clear hk hn hf
  have al := @asL
  have hj1 : ((j : Int) != 1) = false := by simp; omega
  have hm1 : decide ((60 : Int) < (m : Int)) = true := by simp; omega
  have hm2 : (60 : Int) < (m : Int) := by omega
  clear hj hm
  go_enter Tryz.func48, Tryz.ntmps48
  go_wp2_with fail
  refine (HT.out _).mono ?_
  rintro e w1 ⟨rfl, hB1⟩
  have HB1 : Hid (Below w.heap.size w w1) := HB0.out.trans (hB1.mono HB0.out.size)
  have hx := (hB1.block _ (lt_of_block HX.out)).trans HX.out
  have hba : Below w1.heap.size w1 (w1.alloc (.cells #[.int .i64 k, .int .i64 n, .iface 104 (.agg #[.int .i64 j, .int .i64 m])] 106)) := (Below.refl _ _).alloc (Nat.le_refl _) _
  have c0 : (w1.alloc (.cells #[.int .i64 k, .int .i64 n, .iface 104 (.agg #[.int .i64 j, .int .i64 m])] 106)).cell? ⟨w.heap.size, 0, none⟩ = some (.int .i64 key) := (hba.cell (p := ⟨w.heap.size, 0, none⟩) (lt_of_block hx)).trans (cell_of_row w1 _ 0 _ _ _ hx)
  have g0 : (w1.alloc (.cells #[.int .i64 k, .int .i64 n, .iface 104 (.agg #[.int .i64 j, .int .i64 m])] 106)).cell? ⟨0, 0, none⟩ = some (.iface 216 (.pointer (some b))) := (hba.cell (p := ⟨0, 0, none⟩) (Nat.lt_of_lt_of_le H0.out HB1.out.size)).trans ((HB1.out.cell (p := ⟨0, 0, none⟩) H0.out).trans HG.out)
  have HBE : Hid (Below w.heap.size w (w1.alloc (.cells #[.int .i64 k, .int .i64 n, .iface 104 (.agg #[.int .i64 j, .int .i64 m])] 106))) := HB1.out.trans (hba.mono HB1.out.size)
  have hxe := (hba.block _ (lt_of_block hx)).trans hx
  have hba2 : Below (w1.alloc (.cells #[.int .i64 k, .int .i64 n, .iface 104 (.agg #[.int .i64 j, .int .i64 m])] 106)).heap.size (w1.alloc (.cells #[.int .i64 k, .int .i64 n, .iface 104 (.agg #[.int .i64 j, .int .i64 m])] 106)) ((w1.alloc (.cells #[.int .i64 k, .int .i64 n, .iface 104 (.agg #[.int .i64 j, .int .i64 m])] 106)).alloc (.cells #[.int .i64 j, .int .i64 m] 104)) := (Below.refl _ _).alloc (Nat.le_refl _) _
  have c02 : ((w1.alloc (.cells #[.int .i64 k, .int .i64 n, .iface 104 (.agg #[.int .i64 j, .int .i64 m])] 106)).alloc (.cells #[.int .i64 j, .int .i64 m] 104)).cell? ⟨w.heap.size, 0, none⟩ = some (.int .i64 key) := (hba2.cell (p := ⟨w.heap.size, 0, none⟩) (lt_of_block hxe)).trans c0
  have g02 : ((w1.alloc (.cells #[.int .i64 k, .int .i64 n, .iface 104 (.agg #[.int .i64 j, .int .i64 m])] 106)).alloc (.cells #[.int .i64 j, .int .i64 m] 104)).cell? ⟨0, 0, none⟩ = some (.iface 216 (.pointer (some b))) := (hba2.cell (p := ⟨0, 0, none⟩) (Nat.lt_of_lt_of_le H0.out HBE.out.size)).trans g0
  have HBE2 : Hid (Below w.heap.size w ((w1.alloc (.cells #[.int .i64 k, .int .i64 n, .iface 104 (.agg #[.int .i64 j, .int .i64 m])] 106)).alloc (.cells #[.int .i64 j, .int .i64 m] 104))) := HBE.out.trans (hba2.mono HBE.out.size)
  clear hB1 hx hba hxe hba2
  go_wp2_with (go_at_call 69; refine (epochKeyOk_any key _).mono ?_; rintro e w2 ⟨rfl, hw2⟩; rw [hw2, HF.out])
  go_quiet (fail)
  go_wp2
  go_ret2
  exact ⟨rfl, HBE2.out.trans ⟨rfl, rfl, rfl, Nat.le_refl _, fun _ _ => rfl⟩⟩
set_option maxHeartbeats 1000000 in
theorem body_yes (key : Int) (s : ByteArray) (b : Addr) (w : World) (hs : s.size ≤ 1048576) (hG : w.cell? ⟨0, 0, none⟩ = some (.iface 216 (.pointer (some b)))) (h0 : 0 < w.heap.size) {c : Bool} (k n : Nat) (hk7 : k ≤ 7) (hn9 : n ≤ 999) (j m : Nat) (hj7 : j ≤ 7) (hm9 : m ≤ 999) (hk : k = 6) (hn : (n : Int) = key) (hf : (decide (100 ≤ key) && decide (key ≤ 199)) = true) (hj : j = 1) (hm : m ≤ 60) (hr : tup2 (rT s) = .tuple #[.iface 106 (.agg #[.int .i64 k, .int .i64 n, .iface 104 (.agg #[.int .i64 j, .int .i64 m])]), .bool c]) :
    Calls Tryz.prog 48 #[.agg #[.int .i64 key, .string s]] w fun e w' => e = .returned (bodyV key b (some m)) ∧ Below w.heap.size w w' := by
  have HT : Hid (∀ w, Calls Tryz.prog 68 #[.string s] w fun e w' => e = .returned (tup2 (rT s)) ∧ Below w.heap.size w w') := fun w => termOfText_any s w hs
  rw [hr] at HT
  have HB0 : Hid (Below w.heap.size w (w.alloc (.cells #[.int .i64 key, .string s] 34))) := (Below.refl _ _).alloc (Nat.le_refl _) _
  have HX : Hid ((w.alloc (.cells #[.int .i64 key, .string s] 34)).heap[w.heap.size]? = some (.cells #[.int .i64 key, .string s] 34 (0, 0))) := heap_alloc_new w _
  have HG := (show Hid _ from hG)
  have H0 := (show Hid _ from h0)
  clear hG h0 hs hr
  have ak := @asK
  have hk1 : ((k : Int) != 6) = false := by simp; omega
  have hn1 : ((n : Int) != key) = false := by simpa using hn
  have HF := (show Hid _ from hf)
  clear hk hn hf
  have al := @asL
  have hj1 : ((j : Int) != 1) = false := by simp; omega
  have hm1 : decide ((60 : Int) < (m : Int)) = false := by simp; omega
  have hm2 : ¬ (60 : Int) < (m : Int) := by omega
  clear hj hm
  go_enter Tryz.func48, Tryz.ntmps48
  go_wp2_with fail
  refine (HT.out _).mono ?_
  rintro e w1 ⟨rfl, hB1⟩
  have HB1 : Hid (Below w.heap.size w w1) := HB0.out.trans (hB1.mono HB0.out.size)
  have hx := (hB1.block _ (lt_of_block HX.out)).trans HX.out
  have hba : Below w1.heap.size w1 (w1.alloc (.cells #[.int .i64 k, .int .i64 n, .iface 104 (.agg #[.int .i64 j, .int .i64 m])] 106)) := (Below.refl _ _).alloc (Nat.le_refl _) _
  have c0 : (w1.alloc (.cells #[.int .i64 k, .int .i64 n, .iface 104 (.agg #[.int .i64 j, .int .i64 m])] 106)).cell? ⟨w.heap.size, 0, none⟩ = some (.int .i64 key) := (hba.cell (p := ⟨w.heap.size, 0, none⟩) (lt_of_block hx)).trans (cell_of_row w1 _ 0 _ _ _ hx)
  have g0 : (w1.alloc (.cells #[.int .i64 k, .int .i64 n, .iface 104 (.agg #[.int .i64 j, .int .i64 m])] 106)).cell? ⟨0, 0, none⟩ = some (.iface 216 (.pointer (some b))) := (hba.cell (p := ⟨0, 0, none⟩) (Nat.lt_of_lt_of_le H0.out HB1.out.size)).trans ((HB1.out.cell (p := ⟨0, 0, none⟩) H0.out).trans HG.out)
  have HBE : Hid (Below w.heap.size w (w1.alloc (.cells #[.int .i64 k, .int .i64 n, .iface 104 (.agg #[.int .i64 j, .int .i64 m])] 106))) := HB1.out.trans (hba.mono HB1.out.size)
  have hxe := (hba.block _ (lt_of_block hx)).trans hx
  have hba2 : Below (w1.alloc (.cells #[.int .i64 k, .int .i64 n, .iface 104 (.agg #[.int .i64 j, .int .i64 m])] 106)).heap.size (w1.alloc (.cells #[.int .i64 k, .int .i64 n, .iface 104 (.agg #[.int .i64 j, .int .i64 m])] 106)) ((w1.alloc (.cells #[.int .i64 k, .int .i64 n, .iface 104 (.agg #[.int .i64 j, .int .i64 m])] 106)).alloc (.cells #[.int .i64 j, .int .i64 m] 104)) := (Below.refl _ _).alloc (Nat.le_refl _) _
  have c02 : ((w1.alloc (.cells #[.int .i64 k, .int .i64 n, .iface 104 (.agg #[.int .i64 j, .int .i64 m])] 106)).alloc (.cells #[.int .i64 j, .int .i64 m] 104)).cell? ⟨w.heap.size, 0, none⟩ = some (.int .i64 key) := (hba2.cell (p := ⟨w.heap.size, 0, none⟩) (lt_of_block hxe)).trans c0
  have g02 : ((w1.alloc (.cells #[.int .i64 k, .int .i64 n, .iface 104 (.agg #[.int .i64 j, .int .i64 m])] 106)).alloc (.cells #[.int .i64 j, .int .i64 m] 104)).cell? ⟨0, 0, none⟩ = some (.iface 216 (.pointer (some b))) := (hba2.cell (p := ⟨0, 0, none⟩) (Nat.lt_of_lt_of_le H0.out HBE.out.size)).trans g0
  have HBE2 : Hid (Below w.heap.size w ((w1.alloc (.cells #[.int .i64 k, .int .i64 n, .iface 104 (.agg #[.int .i64 j, .int .i64 m])] 106)).alloc (.cells #[.int .i64 j, .int .i64 m] 104))) := HBE.out.trans (hba2.mono HBE.out.size)
  clear hB1 hx hba hxe hba2
  go_wp2_with (go_at_call 69; refine (epochKeyOk_any key _).mono ?_; rintro e w2 ⟨rfl, hw2⟩; rw [hw2, HF.out])
  go_ret2
  exact ⟨rfl, HBE2.out⟩
end Go.Proofs.YtcolcnkjcagbaaaGreatDoor

namespace Go.Proofs.YtcolcnkjcagbaaaGreatDoor
open Go.RowKit
set_option linter.unusedVariables false

def boxTr (K n : Nat) : Tr := ⟨.inr (.inr (.inr (6, K, ⟨.inl (1, n)⟩)))⟩
theorem box_txt (K n : Nat) : (boxTr K n).txt = ((((⟨#[101, 40, 107]⟩ ++ decB K) ++ ⟨#[44, 97]⟩) ++ decB n) ++ ⟨#[41]⟩) := by
  unfold boxTr
  rw [txt_keyed, txt_leaf]
  apply ba_ext
  simp only [app_list, List.append_assoc]
  rfl
def hitB (key : Int) (s : ByteArray) (n : Nat) : Bool := s.toList == (boxTr key.toNat n).txt.toList
def anyB (key : Int) (s : ByteArray) (k : Nat) : Bool := (List.range k).any (hitB key s)
def rangeB (key : Int) : Bool := decide (100 ≤ key) && decide (key ≤ 199)
def boxB (key : Int) (s : ByteArray) : Bool := rangeB key && anyB key s 61
theorem anyB_succ (key : Int) (s : ByteArray) (k : Nat) : anyB key s (k + 1) = (anyB key s k || hitB key s k) := by
  unfold anyB
  rw [List.range_succ, List.any_append]
  simp
theorem anyB_hit {key : Int} {s : ByteArray} {k m : Nat} (hk : k < m) (h : hitB key s k = true) : anyB key s m = true := by
  unfold anyB
  rw [List.any_eq_true]
  exact ⟨k, List.mem_range.2 hk, h⟩

theorem tenpow : ∀ k, k ≤ 19 → (10 : Int) ^ k ≤ 10 ^ 19 := by decide
set_option maxRecDepth 4000 in
set_option maxHeartbeats 400000 in
theorem l1Dec_nat (n : Nat) (h2 : n ≤ 9223372036854775807) (w : World) :
    Calls Tryz.prog 46 #[.int .i64 n] w fun e w' => (e = .returned (.string (decB n)) ∧ (decB n).size ≤ 30) ∧ Below w.heap.size w w' := by
  go_enter Tryz.func46, Tryz.ntmps46
  go_wp2
  go_loopw [0, 3] (fun x y wr => ∃ (m : Nat) (j : Nat) (t : ByteArray), x = .int .i64 m ∧ y = .string t ∧ Hid ((m : Int) < 10 ^ (19 - j)) ∧ j ≤ 19 ∧ Hid (t.size = j) ∧ Hid (decB n = decB m ++ t) ∧ Below w.heap.size w wr) (fun x _ _ => (intOf x).toNat)
  case atStart => exact ⟨n, 0, _, rfl, rfl, (by show _ < _; simp; omega), Nat.zero_le _, rfl, by show _ = _; exact ByteArray.append_empty.symm, Below.refl _ _⟩
  case round =>
    obtain ⟨m, j, t, rfl, rfl, hm, hj, ht, hd, hB⟩ := hrel
    have hadd : ∀ (c : Int) (w' : World), (Op.stringOp .add (dgI c) t).run Tryz.prog w' = .ok (.string (dgI c ++ t)) w' := fun c w' => run_string_add_sum w' _ _ (by have := ht.out; have := dgI_size c; omega)
    have hcv := byte_string wr
    have hm19 : m < 10000000000000000000 := by
      have := tenpow (19 - j) (by omega)
      have h3 := hm.out
      have e10 : (10 : Int) ^ 19 = 10000000000000000000 := by decide
      omega
    by_cases h10 : m < 10
    · have hlt : (m : Int) < 10 := by omega
      have hr : Hid (decB n = dgI (48 + (m : Int)) ++ t) := by
        show _ = _
        rw [hd.out, decB_one h10]
      go_wp2
      go_ret
      exact ⟨⟨by rw [hr.out]; rfl, by rw [hr.out, ByteArray.size_append, dgI_size, ht.out]; omega⟩, hB.alloc hB.size _⟩
    · have hlt : (10 : Int) ≤ (m : Int) := by omega
      have hr : Hid (decB n = decB (m / 10) ++ (dgI (48 + (m : Int) % 10) ++ t)) := by
        show _ = _
        rw [hd.out, decB_more h10, ByteArray.append_assoc]
      have hj2 : j < 18 := by
        rcases Nat.lt_or_ge j 18 with h | h
        · exact h
        · have h3 := hm.out
          have : (10 : Int) ^ (19 - j) ≤ 10 := by
            rcases Nat.lt_or_ge 18 j with h4 | h4
            · rw [show 19 - j = 0 by omega]; decide
            · rw [show 19 - j = 1 by omega]; decide
          omega
      have hp : Hid (((m / 10 : Nat) : Int) < 10 ^ (19 - (j + 1))) := by
        show _ < _
        have h3 := hm.out
        have e : (10 : Int) ^ (19 - j) = 10 * 10 ^ (19 - (j + 1)) := by rw [show 19 - j = (19 - (j + 1)) + 1 by omega, Int.pow_succ]; omega
        omega
      have hj3 : j + 1 ≤ 19 := by omega
      have hts : Hid ((dgI (48 + (m : Int) % 10) ++ t).size = j + 1) := by
        show _ = _
        rw [ByteArray.size_append, dgI_size, ht.out]
        omega
      clear h10 h2
      go_wp2
      go_roundw
      case rel => exact ⟨m / 10, j + 1, _, by go_num, rfl, hp, hj3, hts, hr, hB.alloc hB.size _⟩
      case measure => simp [intOf]; omega
/-- a number in decimal, whatever the number -/
def decI (n : Int) : ByteArray := if 0 ≤ n then decB n.toNat else dgI ((48 + n) % 256)
set_option maxRecDepth 4000 in
set_option maxHeartbeats 400000 in
theorem l1Dec_neg (n : Int) (h1 : -9223372036854775808 ≤ n) (h2 : n < 0) (w : World) :
    Calls Tryz.prog 46 #[.int .i64 n] w fun e w' => e = .returned (.string (dgI ((48 + n) % 256))) ∧ Below w.heap.size w w' := by
  have hcv := byte_string w
  have h10 : ¬ (10 : Int) ≤ n := by omega
  have hadd : ∀ (c : Int) (w' : World), (Op.stringOp .add (dgI c) ⟨#[]⟩).run Tryz.prog w' = .ok (.string (dgI c ++ ⟨#[]⟩)) w' := fun c w' => run_string_add_sum w' _ _ (by have := dgI_size c; show _ + 0 ≤ _; omega)
  go_enter Tryz.func46, Tryz.ntmps46
  go_wp2
  refine wp_loop_rounds 1 ?_
  rw [rounds_succ]
  go_wp2
  go_ret
  exact ⟨congrArg (fun t => Ending.returned (Value.string t)) (ByteArray.append_empty (b := dgI ((48 + n) % 256))), (Below.refl _ _).alloc (Nat.le_refl _) _⟩
theorem l1Dec_int (n : Int) (h1 : -9223372036854775808 ≤ n) (h2 : n ≤ 9223372036854775807) (w : World) :
    Calls Tryz.prog 46 #[.int .i64 n] w fun e w' => e = .returned (.string (decI n)) ∧ Below w.heap.size w w' := by
  unfold decI
  by_cases h : 0 ≤ n
  · obtain ⟨k, rfl⟩ : ∃ k : Nat, n = k := ⟨n.toNat, by omega⟩
    rw [if_pos h]
    refine (l1Dec_nat k (by omega) w).mono ?_
    rintro e w' ⟨⟨rfl, _⟩, hB⟩
    exact ⟨by simp, hB⟩
  · rw [if_neg h]
    exact l1Dec_neg n h1 (by omega) w
theorem decB_len : ∀ (k n : Nat), n < 10 ^ (k + 1) → (decB n).size ≤ k + 1
  | 0, n, h => by rw [decB_one (by simpa using h), dgI_size]; exact Nat.le_refl _
  | k + 1, n, h => by
    by_cases h1 : n < 10
    · rw [decB_one h1, dgI_size]; omega
    · rw [decB_more h1, ByteArray.size_append, dgI_size]
      have e : (10 : Nat) ^ (k + 1 + 1) = 10 * 10 ^ (k + 1) := by rw [Nat.pow_succ]; omega
      have := decB_len k (n / 10) (by omega)
      omega
theorem decI_size (n : Int) (h2 : n ≤ 9223372036854775807) : (decI n).size ≤ 30 := by
  unfold decI
  split
  · have e : (10 : Nat) ^ (18 + 1) = 10000000000000000000 := by decide
    have := decB_len 18 n.toNat (by omega)
    omega
  · rw [dgI_size]; omega

/-- the text that the specification holds a box's term against -/
def boxI (key : Int) (n : Nat) : ByteArray := (((⟨#[101, 40, 107]⟩ ++ decI key) ++ ⟨#[44, 97]⟩) ++ decB n) ++ ⟨#[41]⟩
theorem boxI_txt {key : Int} (h : 0 ≤ key) (n : Nat) : boxI key n = (boxTr key.toNat n).txt := by
  unfold boxI decI
  rw [if_pos h, box_txt]

def anyI (key : Int) (s : ByteArray) (k : Nat) : Bool := (List.range k).any fun n => s.toList == (boxI key n).toList
theorem anyI_succ (key : Int) (s : ByteArray) (k : Nat) : anyI key s (k + 1) = (anyI key s k || (s.toList == (boxI key k).toList)) := by
  unfold anyI
  rw [List.range_succ, List.any_append]
  simp
theorem anyI_hit {key : Int} {s : ByteArray} {k m : Nat} (hk : k < m) (h : (s.toList == (boxI key k).toList) = true) : anyI key s m = true := by
  unfold anyI
  rw [List.any_eq_true]
  exact ⟨k, List.mem_range.2 hk, h⟩

/-- x is the number of the body in a right box's term -/
def NumI (key : Int) (s : ByteArray) (x : Int) : Prop := anyI key s 61 = true → ∃ n : Nat, x = n ∧ n ≤ 60 ∧ s.toList = (boxI key n).toList
set_option maxRecDepth 4000 in
set_option maxHeartbeats 1000000 in
theorem l12Body_num (key : Int) (s : ByteArray) (h1 : -9223372036854775808 ≤ key) (h2 : key ≤ 9223372036854775807) (w : World) :
    Calls Tryz.prog 34 #[.agg #[.int .i64 key, .string s]] w fun e w' => ∃ x, e = .returned (.tuple #[.int .i64 x, .bool (anyI key s 61)]) ∧ Hid (NumI key s x) ∧ Below w.heap.size w w' := by
  have HD : Hid (∀ w, Calls Tryz.prog 46 #[.int .i64 key] w fun e w' => e = .returned (.string (decI key)) ∧ Below w.heap.size w w') := fun w => l1Dec_int key h1 h2 w
  have HB0 : Hid (Below w.heap.size w (w.alloc (.cells #[.int .i64 key, .string s] 34))) := (Below.refl _ _).alloc (Nat.le_refl _) _
  have HX : Hid ((w.alloc (.cells #[.int .i64 key, .string s] 34)).heap[w.heap.size]? = some (.cells #[.int .i64 key, .string s] 34 (0, 0))) := heap_alloc_new w _
  have hds := decI_size key h2
  clear h1 h2
  go_enter Tryz.func34, Tryz.ntmps34
  go_wp2
  go_loopw [4] (fun i wr => ∃ (k : Nat), k ≤ 61 ∧ i = .int .i64 k ∧ Hid (anyI key s k = false) ∧ Hid (wr.heap[w.heap.size]? = some (.cells #[.int .i64 key, .string s] 34 (0, 0))) ∧ Below w.heap.size w wr) (fun i _ => 61 - (intOf i).toNat)
  case atStart => exact ⟨0, by omega, rfl, rfl, HX, HB0.out⟩
  case round =>
    obtain ⟨k, hk, rfl, HA, HR, hB⟩ := hrel
    by_cases hlt : k ≤ 60
    · have hltI : (k : Int) ≤ 60 := by omega
      have q0 : ∀ u : Later wr, u.val.cell? ⟨w.heap.size, 0, none⟩ = some (.int .i64 key) := fun u => u.cell (cell_of_row wr _ 0 _ _ _ HR.out)
      have q1 : ∀ u : Later wr, u.val.cell? ⟨w.heap.size, 1, none⟩ = some (.string s) := fun u => u.cell (cell_of_row wr _ 1 _ _ _ HR.out)
      have hne := Later.any wr
      have zk := decB_size k
      have z1 : (ByteArray.mk #[101, 40, 107]).size = 3 := rfl
      have z2 : (ByteArray.mk #[44, 97]).size = 2 := rfl
      have z3 : (ByteArray.mk #[41]).size = 1 := rfl
      have ha1 := add_ok (a := ⟨#[101, 40, 107]⟩) (b := decI key) (by omega)
      have ha2 := add_ok (a := ⟨#[101, 40, 107]⟩ ++ decI key) (b := ⟨#[44, 97]⟩) (by rw [ByteArray.size_append, z1, z2]; omega)
      have ha3 := add_ok (a := (⟨#[101, 40, 107]⟩ ++ decI key) ++ ⟨#[44, 97]⟩) (b := decB k) (by rw [ByteArray.size_append, ByteArray.size_append, z1, z2]; omega)
      have ha4 := add_ok (a := ((⟨#[101, 40, 107]⟩ ++ decI key) ++ ⟨#[44, 97]⟩) ++ decB k) (b := ⟨#[41]⟩) (by rw [ByteArray.size_append, ByteArray.size_append, ByteArray.size_append, z1, z2, z3]; omega)
      have HDk : Hid (∀ w, Calls Tryz.prog 46 #[.int .i64 k] w fun e w' => e = .returned (.string (decB k)) ∧ Below w.heap.size w w') := fun w => l1Dec_any k (by omega) w
      have HB := (show Hid _ from hB)
      clear zk z1 z2 z3 hB
      cases hq : (s.toList == (boxI key k).toList) with
      | true =>
        have HY : Hid (anyI key s 61 = true) := anyI_hit (by omega) hq
        have HN : Hid (NumI key s (k : Int)) := fun _ => ⟨k, rfl, hlt, by simpa using hq⟩
        unfold boxI at hq
        go_wp2
        refine wp_region_later (by kernel_rfl) (by kernel_rfl) ?_
        repeat (go_big_quiet_step ((first | with_reducible exact Calls.later (HD.out _) | with_reducible exact Calls.later (HDk.out _))))
        refine wpQuiet_nil ?_
        rintro _ ⟨⟨w', hB2⟩, rfl⟩
        go_wp2
        go_ret2
        rw [HY.out]
        exact ⟨k, rfl, HN, HB.out.trans (hB2.mono HB.out.size)⟩
      | false =>
        have HY : Hid (anyI key s (k + 1) = false) := by show _ = _; rw [anyI_succ, HA.out, hq]; rfl
        unfold boxI at hq
        go_wp2
        refine wp_region_later (by kernel_rfl) (by kernel_rfl) ?_
        repeat (go_big_quiet_step ((first | with_reducible exact Calls.later (HD.out _) | with_reducible exact Calls.later (HDk.out _))))
        refine wpQuiet_nil ?_
        rintro _ ⟨⟨w', hB2⟩, rfl⟩
        have hB3 := HB.out.trans (hB2.mono HB.out.size)
        have hx3 := (hB2.block _ (lt_of_block HR.out)).trans HR.out
        have HX3 := (show Hid _ from hx3)
        clear hx3
        clear hB2
        go_wp2
        go_roundw
        case rel => exact ⟨k + 1, by omega, by go_num, HY, HX3, hB3⟩
        case measure => simp [intOf]; omega
    · have hltI : ¬ (k : Int) ≤ 60 := by omega
      have hke : k = 61 := by omega
      subst hke
      have HN : Hid (NumI key s 0) := fun h => by rw [HA.out] at h; cases h
      go_wp2
      go_ret2
      rw [HA.out]
      exact ⟨0, rfl, HN, hB⟩
theorem l12Body_any (key : Int) (s : ByteArray) (h1 : -9223372036854775808 ≤ key) (h2 : key ≤ 9223372036854775807) (w : World) :
    Calls Tryz.prog 34 #[.agg #[.int .i64 key, .string s]] w fun e w' => ∃ x, e = .returned (.tuple #[.int .i64 x, .bool (anyI key s 61)]) ∧ Below w.heap.size w w' :=
  (l12Body_num key s h1 h2 w).mono fun _ _ ⟨x, h, _, hB⟩ => ⟨x, h, hB⟩
end Go.Proofs.YtcolcnkjcagbaaaGreatDoor

namespace Go.Proofs.YtcolcnkjcagbaaaGreatDoor
open Go.RowKit
set_option linter.unusedVariables false

/-- a box is right -/
def okB (key : Int) (s : ByteArray) : Bool := rangeB key && anyI key s 61

theorem toL_inj {a b : ByteArray} (h : a.toList = b.toList) : a = b := by
  apply ba_ext
  rw [← Lib.toList_data, ← Lib.toList_data, h]
theorem okB_iff (key : Int) (s : ByteArray) : okB key s = true ↔ ∃ n, n ≤ 60 ∧ 100 ≤ key ∧ key ≤ 199 ∧ s = (boxTr key.toNat n).txt := by
  unfold okB rangeB anyI
  rw [Bool.and_eq_true, Bool.and_eq_true, List.any_eq_true, decide_eq_true_eq, decide_eq_true_eq]
  constructor
  · rintro ⟨⟨h1, h2⟩, n, hn, he⟩
    have h3 : s = boxI key n := toL_inj (by simpa using he)
    exact ⟨n, by have := List.mem_range.1 hn; omega, h1, h2, by rw [h3, boxI_txt (by omega)]⟩
  · rintro ⟨n, hn, h1, h2, h3⟩
    refine ⟨⟨h1, h2⟩, n, List.mem_range.2 (by omega), ?_⟩
    rw [boxI_txt (by omega), h3]
    simp
theorem box_ok {K n : Nat} (hK : K ≤ 199) (hn : n ≤ 60) : rT (boxTr K n).txt = some (boxTr K n).val :=
  rT_txt ⟨.inl rfl, by omega, .inl rfl, by omega⟩ (by show 1 + 1 ≤ 40; omega) (by show 1 + 1 ≤ 10; omega)
theorem val_if (t : Tr) : ∃ U y, t.val = .iface U y ∧ ((∀ j m, t ≠ ⟨.inl (j, m)⟩) → U ≠ 104) ∧ ((∀ k n u, t ≠ ⟨.inr (.inr (.inr (k, n, u)))⟩) → U ≠ 106) := by
  match t with
  | ⟨.inl (k, n)⟩ => exact ⟨_, _, by rw [Tr.val], fun h => absurd rfl (h k n), fun _ => by decide⟩
  | ⟨.inr (.inl t)⟩ => exact ⟨_, _, by rw [Tr.val], fun _ => by decide, fun _ => by decide⟩
  | ⟨.inr (.inr (.inl (t, u)))⟩ => exact ⟨_, _, by rw [Tr.val], fun _ => by decide, fun _ => by decide⟩
  | ⟨.inr (.inr (.inr (k, n, t)))⟩ => exact ⟨_, _, by rw [Tr.val], fun _ => by decide, fun h => absurd rfl (h k n t)⟩

def BodyC (key : Int) (s : ByteArray) (b : Addr) (w : World) : Prop := ∃ r : Option Nat, r.isSome = okB key s ∧ (∀ n, r = some n → n ≤ 60 ∧ 0 ≤ key ∧ key ≤ 199 ∧ s = (boxTr key.toNat n).txt) ∧ Calls Tryz.prog 48 #[.agg #[.int .i64 key, .string s]] w fun e w' => e = .returned (bodyV key b r) ∧ Below w.heap.size w w'
theorem bodyOf_any (key : Int) (s : ByteArray) (b : Addr) (w : World) (hs : s.size ≤ 1048576) (hG : w.cell? ⟨0, 0, none⟩ = some (.iface 216 (.pointer (some b)))) (h0 : 0 < w.heap.size) : BodyC key s b w := by
  by_cases hq : okB key s = true
  · obtain ⟨n, hn, h1, h2, rfl⟩ := (okB_iff key s).1 hq
    have hr := box_ok (K := key.toNat) (n := n) (by omega) hn
    refine ⟨some n, by rw [hq]; rfl, fun m e => (by cases e; exact ⟨hn, by omega, h2, rfl⟩), body_yes key _ b w hs hG h0 6 key.toNat (by omega) (by omega) 1 n (by omega) (by omega) rfl (by omega) (by simp; omega) rfl hn (c := true) ?_⟩
    rw [hr]
    unfold tup2 boxTr
    rw [Tr.val, Tr.val]
  · have hq' : okB key s = false := by simpa using hq
    refine ⟨none, by rw [hq']; rfl, fun m e => (by cases e), ?_⟩
    cases hrt : rT s with
    | none => exact body_none key s b w hs hG h0 (c := false) (by rw [hrt]; rfl)
    | some v =>
      obtain ⟨t, _, hok, _, htx, rfl⟩ := rT_tr hrt
      by_cases hk : ∃ k n u, t = ⟨.inr (.inr (.inr (k, n, u)))⟩
      · obtain ⟨k, n, u, rfl⟩ := hk
        obtain ⟨hk67, hn9, hou⟩ := hok
        obtain ⟨U, y, hu, hul, _⟩ := val_if u
        have hv : tup2 (rT s) = .tuple #[.iface 106 (.agg #[.int .i64 k, .int .i64 n, .iface U y]), .bool true] := by
          rw [hrt]
          unfold tup2
          rw [Tr.val, hu]
        by_cases h6 : k = 6
        · by_cases hnk : (n : Int) = key
          · cases hf : (decide (100 ≤ key) && decide (key ≤ 199)) with
            | false => exact body_far key s b w hs hG h0 k n U y (by omega) hn9 h6 hnk hf hv
            | true =>
              by_cases hl : ∃ j m, u = ⟨.inl (j, m)⟩
              · obtain ⟨j, m, rfl⟩ := hl
                obtain ⟨hj3, hm9⟩ := hou
                have hv2 : tup2 (rT s) = .tuple #[.iface 106 (.agg #[.int .i64 k, .int .i64 n, .iface 104 (.agg #[.int .i64 j, .int .i64 m])]), .bool true] := by
                  rw [hrt]
                  unfold tup2
                  rw [Tr.val, Tr.val]
                by_cases hj : j = 1
                · by_cases hm : 60 < m
                  · exact body_high key s b w hs hG h0 k n (by omega) hn9 j m (by omega) hm9 h6 hnk hf hj hm hv2
                  · exfalso
                    apply hq
                    rw [Bool.and_eq_true, decide_eq_true_eq, decide_eq_true_eq] at hf
                    refine (okB_iff key s).2 ⟨m, by omega, hf.1, hf.2, ?_⟩
                    rw [← htx, h6, hj]
                    unfold boxTr
                    rw [show key.toNat = n by omega]
                · exact body_leaf key s b w hs hG h0 k n (by omega) hn9 j m (by omega) hm9 h6 hnk hf hj hv2
              · exact body_of key s b w hs hG h0 k n U y (by omega) hn9 (hul (fun j m e => hl ⟨j, m, e⟩)) h6 hnk hf hv
          · exact body_key key s b w hs hG h0 k n U y (by omega) hn9 h6 hnk hv
        · exact body_kind key s b w hs hG h0 k n U y (by omega) hn9 h6 hv
      · obtain ⟨U, y, hu, _, huk⟩ := val_if t
        exact body_not key s b w hs hG h0 U y (huk (fun k n u e => hk ⟨k, n, u, e⟩)) (c := true) (by rw [hrt]; unfold tup2; rw [hu])

theorem implBoxOk_any (key : Int) (s : ByteArray) (b : Addr) (w : World) (hs : s.size ≤ 1048576) (hG : w.cell? ⟨0, 0, none⟩ = some (.iface 216 (.pointer (some b)))) (h0 : 0 < w.heap.size) :
    Calls Tryz.prog 23 #[.agg #[.int .i64 key, .string s]] w fun e w' => e = .returned (.bool (okB key s)) ∧ Below w.heap.size w w' := by
  have hB0 : Below w.heap.size w (w.alloc (.cells #[.int .i64 key, .string s] 34)) := (Below.refl _ _).alloc (Nat.le_refl _) _
  have hG' : (w.alloc (.cells #[.int .i64 key, .string s] 34)).cell? ⟨0, 0, none⟩ = some (.iface 216 (.pointer (some b))) := (hB0.cell (p := ⟨0, 0, none⟩) h0).trans hG
  have h0' : 0 < (w.alloc (.cells #[.int .i64 key, .string s] 34)).heap.size := Nat.lt_of_lt_of_le h0 hB0.size
  obtain ⟨r, hr, _, HC⟩ := bodyOf_any key s b _ hs hG' h0'
  have HG := (show Hid _ from hG')
  have H0 := (show Hid _ from h0')
  have HB0 := (show Hid _ from hB0)
  clear hG h0 hs hG' h0' hB0
  go_enter Tryz.func23, Tryz.ntmps23
  go_wp2_with fail
  refine HC.mono ?_
  rintro e w1 ⟨rfl, hB1⟩
  have g1 : w1.cell? ⟨0, 0, none⟩ = some (.iface 216 (.pointer (some b))) := (hB1.cell (p := ⟨0, 0, none⟩) H0.out).trans HG.out
  have z1 : 0 < w1.heap.size := Nat.lt_of_lt_of_le H0.out hB1.size
  cases r with
  | some m =>
    have HH := heldNil_any b w1 g1 z1
    unfold bodyV
    clear g1 z1
    go_wp2_with fail
    refine HH.mono ?_
    rintro e w2 ⟨rfl, hB2⟩
    go_wp2
    go_ret
    exact ⟨by rw [← hr]; rfl, HB0.out.trans ((hB1.trans (hB2.mono hB1.size)).mono HB0.out.size)⟩
  | none =>
    have HH := heldBox_any key b w1 g1 z1
    unfold bodyV refusal
    clear g1 z1
    go_wp2_with fail
    refine HH.mono ?_
    rintro e w2 ⟨rfl, hB2⟩
    go_wp2
    go_ret
    exact ⟨by rw [← hr]; rfl, HB0.out.trans ((hB1.trans (hB2.mono hB1.size)).mono HB0.out.size)⟩

theorem specBoxOk_any (key : Int) (s : ByteArray) (h1 : -9223372036854775808 ≤ key) (h2 : key ≤ 9223372036854775807) (w : World) :
    Calls Tryz.prog 27 #[.agg #[.int .i64 key, .string s]] w fun e w' => e = .returned (.bool (okB key s)) ∧ Below w.heap.size w w' := by
  have HB0 : Hid (Below w.heap.size w (w.alloc (.cells #[.int .i64 key, .string s] 34))) := (Below.refl _ _).alloc (Nat.le_refl _) _
  have HX : Hid ((w.alloc (.cells #[.int .i64 key, .string s] 34)).heap[w.heap.size]? = some (.cells #[.int .i64 key, .string s] 34 (0, 0))) := heap_alloc_new w _
  have HL : Hid (∀ w, Calls Tryz.prog 34 #[.agg #[.int .i64 key, .string s]] w fun e w' => ∃ x, e = .returned (.tuple #[.int .i64 x, .bool (anyI key s 61)]) ∧ Below w.heap.size w w') := fun w => l12Body_any key s h1 h2 w
  obtain ⟨c, hc⟩ : ∃ c, c = anyI key s 61 := ⟨_, rfl⟩
  obtain ⟨r, hr⟩ : ∃ r, r = inB key 100 199 := ⟨_, rfl⟩
  have HOK : Hid (okB key s = (r && c)) := by
    show _ = _
    unfold okB rangeB
    rw [hr, hc]
    unfold inB
    rfl
  rw [← hc] at HL
  have HI : Hid (∀ w, Calls Tryz.prog 45 #[.int .i64 key, .int .i64 100, .int .i64 199] w fun e w' => e = .returned (.bool r) ∧ w' = w) := fun w => by rw [hr]; exact l1In_any key 100 199 w
  clear hc hr h1 h2
  go_enter Tryz.func27, Tryz.ntmps27
  go_wp2_with fail
  refine (HL.out _).mono ?_
  rintro e w1 ⟨x, rfl, hB1⟩
  have HB1 := HB0.out.trans (hB1.mono HB0.out.size)
  have c0 : w1.cell? ⟨w.heap.size, 0, none⟩ = some (.int .i64 key) := cell_of_row w1 _ 0 _ _ _ ((hB1.block _ (lt_of_block HX.out)).trans HX.out)
  clear hB1
  go_wp2_with fail
  refine (HI.out _).mono ?_
  rintro e w2 ⟨rfl, hw⟩
  rw [hw]
  clear hw w2
  cases r with
  | false =>
    go_wp2
    go_ret
    exact ⟨by rw [HOK.out]; rfl, HB1⟩
  | true =>
    go_wp2
    go_ret
    exact ⟨by rw [HOK.out]; rfl, HB1⟩

theorem szBox_any (key : Int) (s : ByteArray) (hs : s.size ≤ 9223372036854775807) (w : World) :
    Calls Tryz.prog 9 #[.agg #[.int .i64 key, .string s], .int .i64 1048576] w fun e w' => ∃ r : Int, e = .returned (.int .i64 r) ∧ Hid (r < 0 ∨ 0 ≤ r ∧ s.size ≤ 1048576) ∧ Below w.heap.size w w' := by
  by_cases h : s.size ≤ 1048576
  · have hI : ¬ ((1048576 : Int) - (s.size : Int) < 0) := by omega
    have HH : Hid ((1048576 : Int) - s.size < 0 ∨ 0 ≤ (1048576 : Int) - s.size ∧ s.size ≤ 1048576) := .inr ⟨by omega, h⟩
    clear h
    go_enter Tryz.func9, Tryz.ntmps9
    go_wp2
    go_ret
    exact ⟨_, rfl, HH, (Below.refl _ _).alloc (Nat.le_refl _) _⟩
  · have hI : ((1048576 : Int) - (s.size : Int) < 0) := by omega
    have HH : Hid ((-1 : Int) < 0 ∨ 0 ≤ (-1 : Int) ∧ s.size ≤ 1048576) := .inl (by omega)
    clear h
    go_enter Tryz.func9, Tryz.ntmps9
    go_wp2
    go_ret
    exact ⟨_, rfl, HH, (Below.refl _ _).alloc (Nat.le_refl _) _⟩
theorem toBox_any (key : Int) (s : ByteArray) (w : World) :
    Calls Tryz.prog 13 #[.agg #[.int .i64 key, .string s]] w fun e w' => e = .returned (.agg #[.int .i64 key, .string s]) ∧ Below w.heap.size w w' := by
  go_enter Tryz.func13, Tryz.ntmps13
  go_wp2
  have hz : ((w.alloc (.cells #[.int .i64 key, .string s] 25)).alloc (.cells #[.int .i64 key, .string s] 34)).heap[w.heap.size + 1]? = some (.cells #[.int .i64 key, .string s] 34 (0, 0)) := by
    have := heap_alloc_new (w.alloc (.cells #[.int .i64 key, .string s] 25)) (.cells #[.int .i64 key, .string s] 34)
    simpa using this
  have hz2 := (Below.heap_alloc ((w.alloc (.cells #[.int .i64 key, .string s] 25)).alloc (.cells #[.int .i64 key, .string s] 34)) (.cells #[.int .i64 key, .string s] 34) _ (lt_of_block hz)).trans hz
  exact bodyPost_ret (v := .agg #[.int .i64 key, .string s]) (results_cell_row rfl _ _ (w.heap.size + 1) 34 _ _ _ rfl hz2 Tryz.underlying34 rfl (by kernel_rfl)) rfl ⟨rfl, (((Below.refl _ _).alloc (Nat.le_refl _) _).alloc (by simp) _).alloc (by simp; omega) _⟩
end Go.Proofs.YtcolcnkjcagbaaaGreatDoor
