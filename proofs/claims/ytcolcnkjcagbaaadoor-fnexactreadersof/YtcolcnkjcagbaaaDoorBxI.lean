/-
  The program's bodyOf: of a box whose term is a sealed body its number, else a refusal. Condition: the variable errNoBox holds a pointer.
-/
import Derived.Test.YtcolcnkjcagbaaaDoorBxE
import Derived.Test.YtcolcnkjcagbaaaDoorPrB
namespace Go.Proofs.YtcolcnkjcagbaaaDoor
open Go.RowKit
set_option linter.unusedVariables false

section
variable (v : Value) (w : World)
theorem asK : (Instr.typeAssert (.iface 71 v) 61 71 true).run Tryd.prog w = .ok (.tuple #[v, .bool true]) w := by
  simp [Instr.typeAssert, run_underlying Tryd.underlying71, go_sem, Result.andThen]
theorem asL : (Instr.typeAssert (.iface 77 v) 61 77 true).run Tryd.prog w = .ok (.tuple #[v, .bool true]) w := by
  simp [Instr.typeAssert, run_underlying Tryd.underlying77, go_sem, Result.andThen]
theorem noK (T : TypeId) (h : T ≠ 71) : (Instr.typeAssert (.iface T v) 61 71 true).run Tryd.prog w = .ok (.tuple #[.agg #[.int .i64 0, .int .i64 0, .nilIface], .bool false]) w := by
  have hz : Tryd.t71.zero = some (.agg #[.int .i64 0, .int .i64 0, .nilIface]) := by kernel_rfl
  simp [Instr.typeAssert, run_underlying Tryd.underlying71, go_sem, Result.andThen, h, zeroValue, hz]
theorem noL (T : TypeId) (h : T ≠ 77) : (Instr.typeAssert (.iface T v) 61 77 true).run Tryd.prog w = .ok (.tuple #[.agg #[.int .i64 0, .int .i64 0], .bool false]) w := by
  have hz : Tryd.t77.zero = some (.agg #[.int .i64 0, .int .i64 0]) := by kernel_rfl
  simp [Instr.typeAssert, run_underlying Tryd.underlying77, go_sem, Result.andThen, h, zeroValue, hz]
end
theorem nilK (w : World) : (Instr.typeAssert .nilIface 61 71 true).run Tryd.prog w = .ok (.tuple #[.agg #[.int .i64 0, .int .i64 0, .nilIface], .bool false]) w := by
  have hz : Tryd.t71.zero = some (.agg #[.int .i64 0, .int .i64 0, .nilIface]) := by kernel_rfl
  simp [Instr.typeAssert, run_underlying Tryd.underlying71, go_sem, Result.andThen, zeroValue, hz]

theorem epochKeyOk_any (key : Int) (w : World) : Calls Tryd.prog 36 #[.int .i64 key] w fun e w' => e = .returned (.bool (decide (100 ≤ key) && decide (key ≤ 199))) ∧ w' = w := by
  by_cases h1 : 100 ≤ key
  · by_cases h2 : key ≤ 199
    all_goals
      go_enter Tryd.func36, Tryd.ntmps36
      go_wp2
      go_ret
      exact ⟨by simp [h1, h2], rfl⟩
  · go_enter Tryd.func36, Tryd.ntmps36
    go_wp2
    go_ret
    exact ⟨by simp; intro h; omega, rfl⟩

/-- the number of the body that a term is, sealed by key -/
def bodyT (key : Int) : Tr → Option Nat
  | ⟨.inr (.inr (.inr (k, n, ⟨.inl (j, m)⟩)))⟩ => if k = 6 ∧ (n : Int) = key ∧ 100 ≤ key ∧ key ≤ 199 ∧ j = 1 ∧ m ≤ 60 then some m else none
  | _ => none

def refusal (key : Int) (b : Addr) : Value := .iface 75 (.agg #[.int .i64 key, .iface 133 (.pointer (some b))])
def bodyV (key : Int) (b : Addr) : Option Nat → Value
  | some m => .tuple #[.int .i64 m, .nilIface]
  | none => .tuple #[.int .i64 0, refusal key b]

set_option maxHeartbeats 1000000 in
theorem body_none (key : Int) (s : ByteArray) (b : Addr) (w : World) (hs : s.size ≤ 1048576) (hG : w.cell? ⟨0, 0, none⟩ = some (.iface 133 (.pointer (some b)))) (h0 : 0 < w.heap.size) {c : Bool} (hr : tup2 (rT s) = .tuple #[.nilIface, .bool c]) :
    Calls Tryd.prog 24 #[.agg #[.int .i64 key, .string s]] w fun e w' => e = .returned (bodyV key b none) ∧ Below w.heap.size w w' := by
  have HT : Hid (∀ w, Calls Tryd.prog 35 #[.string s] w fun e w' => e = .returned (tup2 (rT s)) ∧ Below w.heap.size w w') := fun w => termOfText_any s w hs
  rw [hr] at HT
  have HB0 : Hid (Below w.heap.size w (w.alloc (.cells #[.int .i64 key, .string s] 26))) := (Below.refl _ _).alloc (Nat.le_refl _) _
  have HX : Hid ((w.alloc (.cells #[.int .i64 key, .string s] 26)).heap[w.heap.size]? = some (.cells #[.int .i64 key, .string s] 26 (0, 0))) := heap_alloc_new w _
  have HG := (show Hid _ from hG)
  have H0 := (show Hid _ from h0)
  clear hG h0 hs hr
  have nk := @nilK
  go_enter Tryd.func24, Tryd.ntmps24
  go_wp2_with fail
  refine (HT.out _).mono ?_
  rintro e w1 ⟨rfl, hB1⟩
  have HB1 : Hid (Below w.heap.size w w1) := HB0.out.trans (hB1.mono HB0.out.size)
  have hx := (hB1.block _ (lt_of_block HX.out)).trans HX.out
  have hba : Below w1.heap.size w1 (w1.alloc (.cells #[.int .i64 0, .int .i64 0, .nilIface] 71)) := (Below.refl _ _).alloc (Nat.le_refl _) _
  have c0 : (w1.alloc (.cells #[.int .i64 0, .int .i64 0, .nilIface] 71)).cell? ⟨w.heap.size, 0, none⟩ = some (.int .i64 key) := (hba.cell (p := ⟨w.heap.size, 0, none⟩) (lt_of_block hx)).trans (cell_of_row w1 _ 0 _ _ _ hx)
  have g0 : (w1.alloc (.cells #[.int .i64 0, .int .i64 0, .nilIface] 71)).cell? ⟨0, 0, none⟩ = some (.iface 133 (.pointer (some b))) := (hba.cell (p := ⟨0, 0, none⟩) (Nat.lt_of_lt_of_le H0.out HB1.out.size)).trans ((HB1.out.cell (p := ⟨0, 0, none⟩) H0.out).trans HG.out)
  have HBE : Hid (Below w.heap.size w (w1.alloc (.cells #[.int .i64 0, .int .i64 0, .nilIface] 71))) := HB1.out.trans (hba.mono HB1.out.size)
  have hxe := (hba.block _ (lt_of_block hx)).trans hx
  clear hB1 hx hba hxe
  go_wp2_with (go_at_call 36; refine (epochKeyOk_any key _).mono ?_; rintro e w2 ⟨rfl, hw2⟩; rw [hw2])
  go_quiet (fail)
  go_wp2
  go_ret2
  exact ⟨rfl, HBE.out.trans ⟨rfl, rfl, rfl, Nat.le_refl _, fun _ _ => rfl⟩⟩
set_option maxHeartbeats 1000000 in
theorem body_not (key : Int) (s : ByteArray) (b : Addr) (w : World) (hs : s.size ≤ 1048576) (hG : w.cell? ⟨0, 0, none⟩ = some (.iface 133 (.pointer (some b)))) (h0 : 0 < w.heap.size) {c : Bool} (T : TypeId) (x : Value) (hT : T ≠ 71) (hr : tup2 (rT s) = .tuple #[.iface T x, .bool c]) :
    Calls Tryd.prog 24 #[.agg #[.int .i64 key, .string s]] w fun e w' => e = .returned (bodyV key b none) ∧ Below w.heap.size w w' := by
  have HT : Hid (∀ w, Calls Tryd.prog 35 #[.string s] w fun e w' => e = .returned (tup2 (rT s)) ∧ Below w.heap.size w w') := fun w => termOfText_any s w hs
  rw [hr] at HT
  have HB0 : Hid (Below w.heap.size w (w.alloc (.cells #[.int .i64 key, .string s] 26))) := (Below.refl _ _).alloc (Nat.le_refl _) _
  have HX : Hid ((w.alloc (.cells #[.int .i64 key, .string s] 26)).heap[w.heap.size]? = some (.cells #[.int .i64 key, .string s] 26 (0, 0))) := heap_alloc_new w _
  have HG := (show Hid _ from hG)
  have H0 := (show Hid _ from h0)
  clear hG h0 hs hr
  have nk := fun w => noK x w T hT
  clear hT
  go_enter Tryd.func24, Tryd.ntmps24
  go_wp2_with fail
  refine (HT.out _).mono ?_
  rintro e w1 ⟨rfl, hB1⟩
  have HB1 : Hid (Below w.heap.size w w1) := HB0.out.trans (hB1.mono HB0.out.size)
  have hx := (hB1.block _ (lt_of_block HX.out)).trans HX.out
  have hba : Below w1.heap.size w1 (w1.alloc (.cells #[.int .i64 0, .int .i64 0, .nilIface] 71)) := (Below.refl _ _).alloc (Nat.le_refl _) _
  have c0 : (w1.alloc (.cells #[.int .i64 0, .int .i64 0, .nilIface] 71)).cell? ⟨w.heap.size, 0, none⟩ = some (.int .i64 key) := (hba.cell (p := ⟨w.heap.size, 0, none⟩) (lt_of_block hx)).trans (cell_of_row w1 _ 0 _ _ _ hx)
  have g0 : (w1.alloc (.cells #[.int .i64 0, .int .i64 0, .nilIface] 71)).cell? ⟨0, 0, none⟩ = some (.iface 133 (.pointer (some b))) := (hba.cell (p := ⟨0, 0, none⟩) (Nat.lt_of_lt_of_le H0.out HB1.out.size)).trans ((HB1.out.cell (p := ⟨0, 0, none⟩) H0.out).trans HG.out)
  have HBE : Hid (Below w.heap.size w (w1.alloc (.cells #[.int .i64 0, .int .i64 0, .nilIface] 71))) := HB1.out.trans (hba.mono HB1.out.size)
  have hxe := (hba.block _ (lt_of_block hx)).trans hx
  clear hB1 hx hba hxe
  go_wp2_with (go_at_call 36; refine (epochKeyOk_any key _).mono ?_; rintro e w2 ⟨rfl, hw2⟩; rw [hw2])
  go_quiet (fail)
  go_wp2
  go_ret2
  exact ⟨rfl, HBE.out.trans ⟨rfl, rfl, rfl, Nat.le_refl _, fun _ _ => rfl⟩⟩
set_option maxHeartbeats 1000000 in
theorem body_kind (key : Int) (s : ByteArray) (b : Addr) (w : World) (hs : s.size ≤ 1048576) (hG : w.cell? ⟨0, 0, none⟩ = some (.iface 133 (.pointer (some b)))) (h0 : 0 < w.heap.size) {c : Bool} (k n : Nat) (U : TypeId) (y : Value) (hk7 : k ≤ 7) (hn9 : n ≤ 999) (hk : ¬ k = 6) (hr : tup2 (rT s) = .tuple #[.iface 71 (.agg #[.int .i64 k, .int .i64 n, .iface U y]), .bool c]) :
    Calls Tryd.prog 24 #[.agg #[.int .i64 key, .string s]] w fun e w' => e = .returned (bodyV key b none) ∧ Below w.heap.size w w' := by
  have HT : Hid (∀ w, Calls Tryd.prog 35 #[.string s] w fun e w' => e = .returned (tup2 (rT s)) ∧ Below w.heap.size w w') := fun w => termOfText_any s w hs
  rw [hr] at HT
  have HB0 : Hid (Below w.heap.size w (w.alloc (.cells #[.int .i64 key, .string s] 26))) := (Below.refl _ _).alloc (Nat.le_refl _) _
  have HX : Hid ((w.alloc (.cells #[.int .i64 key, .string s] 26)).heap[w.heap.size]? = some (.cells #[.int .i64 key, .string s] 26 (0, 0))) := heap_alloc_new w _
  have HG := (show Hid _ from hG)
  have H0 := (show Hid _ from h0)
  clear hG h0 hs hr
  have ak := @asK
  have hk1 : ((k : Int) != 6) = true := by simp; omega
  clear hk
  go_enter Tryd.func24, Tryd.ntmps24
  go_wp2_with fail
  refine (HT.out _).mono ?_
  rintro e w1 ⟨rfl, hB1⟩
  have HB1 : Hid (Below w.heap.size w w1) := HB0.out.trans (hB1.mono HB0.out.size)
  have hx := (hB1.block _ (lt_of_block HX.out)).trans HX.out
  have hba : Below w1.heap.size w1 (w1.alloc (.cells #[.int .i64 k, .int .i64 n, .iface U y] 71)) := (Below.refl _ _).alloc (Nat.le_refl _) _
  have c0 : (w1.alloc (.cells #[.int .i64 k, .int .i64 n, .iface U y] 71)).cell? ⟨w.heap.size, 0, none⟩ = some (.int .i64 key) := (hba.cell (p := ⟨w.heap.size, 0, none⟩) (lt_of_block hx)).trans (cell_of_row w1 _ 0 _ _ _ hx)
  have g0 : (w1.alloc (.cells #[.int .i64 k, .int .i64 n, .iface U y] 71)).cell? ⟨0, 0, none⟩ = some (.iface 133 (.pointer (some b))) := (hba.cell (p := ⟨0, 0, none⟩) (Nat.lt_of_lt_of_le H0.out HB1.out.size)).trans ((HB1.out.cell (p := ⟨0, 0, none⟩) H0.out).trans HG.out)
  have HBE : Hid (Below w.heap.size w (w1.alloc (.cells #[.int .i64 k, .int .i64 n, .iface U y] 71))) := HB1.out.trans (hba.mono HB1.out.size)
  have hxe := (hba.block _ (lt_of_block hx)).trans hx
  clear hB1 hx hba hxe
  go_wp2_with (go_at_call 36; refine (epochKeyOk_any key _).mono ?_; rintro e w2 ⟨rfl, hw2⟩; rw [hw2])
  go_quiet (fail)
  go_wp2
  go_ret2
  exact ⟨rfl, HBE.out.trans ⟨rfl, rfl, rfl, Nat.le_refl _, fun _ _ => rfl⟩⟩
set_option maxHeartbeats 1000000 in
theorem body_key (key : Int) (s : ByteArray) (b : Addr) (w : World) (hs : s.size ≤ 1048576) (hG : w.cell? ⟨0, 0, none⟩ = some (.iface 133 (.pointer (some b)))) (h0 : 0 < w.heap.size) {c : Bool} (k n : Nat) (U : TypeId) (y : Value) (hk7 : k ≤ 7) (hn9 : n ≤ 999) (hk : k = 6) (hn : ¬ (n : Int) = key) (hr : tup2 (rT s) = .tuple #[.iface 71 (.agg #[.int .i64 k, .int .i64 n, .iface U y]), .bool c]) :
    Calls Tryd.prog 24 #[.agg #[.int .i64 key, .string s]] w fun e w' => e = .returned (bodyV key b none) ∧ Below w.heap.size w w' := by
  have HT : Hid (∀ w, Calls Tryd.prog 35 #[.string s] w fun e w' => e = .returned (tup2 (rT s)) ∧ Below w.heap.size w w') := fun w => termOfText_any s w hs
  rw [hr] at HT
  have HB0 : Hid (Below w.heap.size w (w.alloc (.cells #[.int .i64 key, .string s] 26))) := (Below.refl _ _).alloc (Nat.le_refl _) _
  have HX : Hid ((w.alloc (.cells #[.int .i64 key, .string s] 26)).heap[w.heap.size]? = some (.cells #[.int .i64 key, .string s] 26 (0, 0))) := heap_alloc_new w _
  have HG := (show Hid _ from hG)
  have H0 := (show Hid _ from h0)
  clear hG h0 hs hr
  have ak := @asK
  have hk1 : ((k : Int) != 6) = false := by simp; omega
  have hn1 : ((n : Int) != key) = true := by simpa using hn
  clear hk hn
  go_enter Tryd.func24, Tryd.ntmps24
  go_wp2_with fail
  refine (HT.out _).mono ?_
  rintro e w1 ⟨rfl, hB1⟩
  have HB1 : Hid (Below w.heap.size w w1) := HB0.out.trans (hB1.mono HB0.out.size)
  have hx := (hB1.block _ (lt_of_block HX.out)).trans HX.out
  have hba : Below w1.heap.size w1 (w1.alloc (.cells #[.int .i64 k, .int .i64 n, .iface U y] 71)) := (Below.refl _ _).alloc (Nat.le_refl _) _
  have c0 : (w1.alloc (.cells #[.int .i64 k, .int .i64 n, .iface U y] 71)).cell? ⟨w.heap.size, 0, none⟩ = some (.int .i64 key) := (hba.cell (p := ⟨w.heap.size, 0, none⟩) (lt_of_block hx)).trans (cell_of_row w1 _ 0 _ _ _ hx)
  have g0 : (w1.alloc (.cells #[.int .i64 k, .int .i64 n, .iface U y] 71)).cell? ⟨0, 0, none⟩ = some (.iface 133 (.pointer (some b))) := (hba.cell (p := ⟨0, 0, none⟩) (Nat.lt_of_lt_of_le H0.out HB1.out.size)).trans ((HB1.out.cell (p := ⟨0, 0, none⟩) H0.out).trans HG.out)
  have HBE : Hid (Below w.heap.size w (w1.alloc (.cells #[.int .i64 k, .int .i64 n, .iface U y] 71))) := HB1.out.trans (hba.mono HB1.out.size)
  have hxe := (hba.block _ (lt_of_block hx)).trans hx
  clear hB1 hx hba hxe
  go_wp2_with (go_at_call 36; refine (epochKeyOk_any key _).mono ?_; rintro e w2 ⟨rfl, hw2⟩; rw [hw2])
  go_quiet (fail)
  go_wp2
  go_ret2
  exact ⟨rfl, HBE.out.trans ⟨rfl, rfl, rfl, Nat.le_refl _, fun _ _ => rfl⟩⟩
set_option maxHeartbeats 1000000 in
theorem body_far (key : Int) (s : ByteArray) (b : Addr) (w : World) (hs : s.size ≤ 1048576) (hG : w.cell? ⟨0, 0, none⟩ = some (.iface 133 (.pointer (some b)))) (h0 : 0 < w.heap.size) {c : Bool} (k n : Nat) (U : TypeId) (y : Value) (hk7 : k ≤ 7) (hn9 : n ≤ 999) (hk : k = 6) (hn : (n : Int) = key) (hf : (decide (100 ≤ key) && decide (key ≤ 199)) = false) (hr : tup2 (rT s) = .tuple #[.iface 71 (.agg #[.int .i64 k, .int .i64 n, .iface U y]), .bool c]) :
    Calls Tryd.prog 24 #[.agg #[.int .i64 key, .string s]] w fun e w' => e = .returned (bodyV key b none) ∧ Below w.heap.size w w' := by
  have HT : Hid (∀ w, Calls Tryd.prog 35 #[.string s] w fun e w' => e = .returned (tup2 (rT s)) ∧ Below w.heap.size w w') := fun w => termOfText_any s w hs
  rw [hr] at HT
  have HB0 : Hid (Below w.heap.size w (w.alloc (.cells #[.int .i64 key, .string s] 26))) := (Below.refl _ _).alloc (Nat.le_refl _) _
  have HX : Hid ((w.alloc (.cells #[.int .i64 key, .string s] 26)).heap[w.heap.size]? = some (.cells #[.int .i64 key, .string s] 26 (0, 0))) := heap_alloc_new w _
  have HG := (show Hid _ from hG)
  have H0 := (show Hid _ from h0)
  clear hG h0 hs hr
  have ak := @asK
  have hk1 : ((k : Int) != 6) = false := by simp; omega
  have hn1 : ((n : Int) != key) = false := by simpa using hn
  have HF := (show Hid _ from hf)
  clear hk hn hf
  go_enter Tryd.func24, Tryd.ntmps24
  go_wp2_with fail
  refine (HT.out _).mono ?_
  rintro e w1 ⟨rfl, hB1⟩
  have HB1 : Hid (Below w.heap.size w w1) := HB0.out.trans (hB1.mono HB0.out.size)
  have hx := (hB1.block _ (lt_of_block HX.out)).trans HX.out
  have hba : Below w1.heap.size w1 (w1.alloc (.cells #[.int .i64 k, .int .i64 n, .iface U y] 71)) := (Below.refl _ _).alloc (Nat.le_refl _) _
  have c0 : (w1.alloc (.cells #[.int .i64 k, .int .i64 n, .iface U y] 71)).cell? ⟨w.heap.size, 0, none⟩ = some (.int .i64 key) := (hba.cell (p := ⟨w.heap.size, 0, none⟩) (lt_of_block hx)).trans (cell_of_row w1 _ 0 _ _ _ hx)
  have g0 : (w1.alloc (.cells #[.int .i64 k, .int .i64 n, .iface U y] 71)).cell? ⟨0, 0, none⟩ = some (.iface 133 (.pointer (some b))) := (hba.cell (p := ⟨0, 0, none⟩) (Nat.lt_of_lt_of_le H0.out HB1.out.size)).trans ((HB1.out.cell (p := ⟨0, 0, none⟩) H0.out).trans HG.out)
  have HBE : Hid (Below w.heap.size w (w1.alloc (.cells #[.int .i64 k, .int .i64 n, .iface U y] 71))) := HB1.out.trans (hba.mono HB1.out.size)
  have hxe := (hba.block _ (lt_of_block hx)).trans hx
  clear hB1 hx hba hxe
  go_wp2_with (go_at_call 36; refine (epochKeyOk_any key _).mono ?_; rintro e w2 ⟨rfl, hw2⟩; rw [hw2, HF.out])
  go_quiet (fail)
  go_wp2
  go_ret2
  exact ⟨rfl, HBE.out.trans ⟨rfl, rfl, rfl, Nat.le_refl _, fun _ _ => rfl⟩⟩
set_option maxHeartbeats 1000000 in
theorem body_of (key : Int) (s : ByteArray) (b : Addr) (w : World) (hs : s.size ≤ 1048576) (hG : w.cell? ⟨0, 0, none⟩ = some (.iface 133 (.pointer (some b)))) (h0 : 0 < w.heap.size) {c : Bool} (k n : Nat) (U : TypeId) (y : Value) (hk7 : k ≤ 7) (hn9 : n ≤ 999) (hU : U ≠ 77) (hk : k = 6) (hn : (n : Int) = key) (hf : (decide (100 ≤ key) && decide (key ≤ 199)) = true) (hr : tup2 (rT s) = .tuple #[.iface 71 (.agg #[.int .i64 k, .int .i64 n, .iface U y]), .bool c]) :
    Calls Tryd.prog 24 #[.agg #[.int .i64 key, .string s]] w fun e w' => e = .returned (bodyV key b none) ∧ Below w.heap.size w w' := by
  have HT : Hid (∀ w, Calls Tryd.prog 35 #[.string s] w fun e w' => e = .returned (tup2 (rT s)) ∧ Below w.heap.size w w') := fun w => termOfText_any s w hs
  rw [hr] at HT
  have HB0 : Hid (Below w.heap.size w (w.alloc (.cells #[.int .i64 key, .string s] 26))) := (Below.refl _ _).alloc (Nat.le_refl _) _
  have HX : Hid ((w.alloc (.cells #[.int .i64 key, .string s] 26)).heap[w.heap.size]? = some (.cells #[.int .i64 key, .string s] 26 (0, 0))) := heap_alloc_new w _
  have HG := (show Hid _ from hG)
  have H0 := (show Hid _ from h0)
  clear hG h0 hs hr
  have ak := @asK
  have hk1 : ((k : Int) != 6) = false := by simp; omega
  have hn1 : ((n : Int) != key) = false := by simpa using hn
  have HF := (show Hid _ from hf)
  clear hk hn hf
  have nl := fun w => noL y w U hU
  clear hU
  go_enter Tryd.func24, Tryd.ntmps24
  go_wp2_with fail
  refine (HT.out _).mono ?_
  rintro e w1 ⟨rfl, hB1⟩
  have HB1 : Hid (Below w.heap.size w w1) := HB0.out.trans (hB1.mono HB0.out.size)
  have hx := (hB1.block _ (lt_of_block HX.out)).trans HX.out
  have hba : Below w1.heap.size w1 (w1.alloc (.cells #[.int .i64 k, .int .i64 n, .iface U y] 71)) := (Below.refl _ _).alloc (Nat.le_refl _) _
  have c0 : (w1.alloc (.cells #[.int .i64 k, .int .i64 n, .iface U y] 71)).cell? ⟨w.heap.size, 0, none⟩ = some (.int .i64 key) := (hba.cell (p := ⟨w.heap.size, 0, none⟩) (lt_of_block hx)).trans (cell_of_row w1 _ 0 _ _ _ hx)
  have g0 : (w1.alloc (.cells #[.int .i64 k, .int .i64 n, .iface U y] 71)).cell? ⟨0, 0, none⟩ = some (.iface 133 (.pointer (some b))) := (hba.cell (p := ⟨0, 0, none⟩) (Nat.lt_of_lt_of_le H0.out HB1.out.size)).trans ((HB1.out.cell (p := ⟨0, 0, none⟩) H0.out).trans HG.out)
  have HBE : Hid (Below w.heap.size w (w1.alloc (.cells #[.int .i64 k, .int .i64 n, .iface U y] 71))) := HB1.out.trans (hba.mono HB1.out.size)
  have hxe := (hba.block _ (lt_of_block hx)).trans hx
  have hba2 : Below (w1.alloc (.cells #[.int .i64 k, .int .i64 n, .iface U y] 71)).heap.size (w1.alloc (.cells #[.int .i64 k, .int .i64 n, .iface U y] 71)) ((w1.alloc (.cells #[.int .i64 k, .int .i64 n, .iface U y] 71)).alloc (.cells #[.int .i64 0, .int .i64 0] 77)) := (Below.refl _ _).alloc (Nat.le_refl _) _
  have c02 : ((w1.alloc (.cells #[.int .i64 k, .int .i64 n, .iface U y] 71)).alloc (.cells #[.int .i64 0, .int .i64 0] 77)).cell? ⟨w.heap.size, 0, none⟩ = some (.int .i64 key) := (hba2.cell (p := ⟨w.heap.size, 0, none⟩) (lt_of_block hxe)).trans c0
  have g02 : ((w1.alloc (.cells #[.int .i64 k, .int .i64 n, .iface U y] 71)).alloc (.cells #[.int .i64 0, .int .i64 0] 77)).cell? ⟨0, 0, none⟩ = some (.iface 133 (.pointer (some b))) := (hba2.cell (p := ⟨0, 0, none⟩) (Nat.lt_of_lt_of_le H0.out HBE.out.size)).trans g0
  have HBE2 : Hid (Below w.heap.size w ((w1.alloc (.cells #[.int .i64 k, .int .i64 n, .iface U y] 71)).alloc (.cells #[.int .i64 0, .int .i64 0] 77))) := HBE.out.trans (hba2.mono HBE.out.size)
  clear hB1 hx hba hxe hba2
  go_wp2_with (go_at_call 36; refine (epochKeyOk_any key _).mono ?_; rintro e w2 ⟨rfl, hw2⟩; rw [hw2, HF.out])
  go_quiet (fail)
  go_wp2
  go_ret2
  exact ⟨rfl, HBE2.out.trans ⟨rfl, rfl, rfl, Nat.le_refl _, fun _ _ => rfl⟩⟩
set_option maxHeartbeats 1000000 in
theorem body_leaf (key : Int) (s : ByteArray) (b : Addr) (w : World) (hs : s.size ≤ 1048576) (hG : w.cell? ⟨0, 0, none⟩ = some (.iface 133 (.pointer (some b)))) (h0 : 0 < w.heap.size) {c : Bool} (k n : Nat) (hk7 : k ≤ 7) (hn9 : n ≤ 999) (j m : Nat) (hj7 : j ≤ 7) (hm9 : m ≤ 999) (hk : k = 6) (hn : (n : Int) = key) (hf : (decide (100 ≤ key) && decide (key ≤ 199)) = true) (hj : ¬ j = 1) (hr : tup2 (rT s) = .tuple #[.iface 71 (.agg #[.int .i64 k, .int .i64 n, .iface 77 (.agg #[.int .i64 j, .int .i64 m])]), .bool c]) :
    Calls Tryd.prog 24 #[.agg #[.int .i64 key, .string s]] w fun e w' => e = .returned (bodyV key b none) ∧ Below w.heap.size w w' := by
  have HT : Hid (∀ w, Calls Tryd.prog 35 #[.string s] w fun e w' => e = .returned (tup2 (rT s)) ∧ Below w.heap.size w w') := fun w => termOfText_any s w hs
  rw [hr] at HT
  have HB0 : Hid (Below w.heap.size w (w.alloc (.cells #[.int .i64 key, .string s] 26))) := (Below.refl _ _).alloc (Nat.le_refl _) _
  have HX : Hid ((w.alloc (.cells #[.int .i64 key, .string s] 26)).heap[w.heap.size]? = some (.cells #[.int .i64 key, .string s] 26 (0, 0))) := heap_alloc_new w _
  have HG := (show Hid _ from hG)
  have H0 := (show Hid _ from h0)
  clear hG h0 hs hr
  have ak := @asK
  have hk1 : ((k : Int) != 6) = false := by simp; omega
  have hn1 : ((n : Int) != key) = false := by simpa using hn
  have HF := (show Hid _ from hf)
  clear hk hn hf
  have al := @asL
  have hj1 : ((j : Int) != 1) = true := by simp; omega
  clear hj
  go_enter Tryd.func24, Tryd.ntmps24
  go_wp2_with fail
  refine (HT.out _).mono ?_
  rintro e w1 ⟨rfl, hB1⟩
  have HB1 : Hid (Below w.heap.size w w1) := HB0.out.trans (hB1.mono HB0.out.size)
  have hx := (hB1.block _ (lt_of_block HX.out)).trans HX.out
  have hba : Below w1.heap.size w1 (w1.alloc (.cells #[.int .i64 k, .int .i64 n, .iface 77 (.agg #[.int .i64 j, .int .i64 m])] 71)) := (Below.refl _ _).alloc (Nat.le_refl _) _
  have c0 : (w1.alloc (.cells #[.int .i64 k, .int .i64 n, .iface 77 (.agg #[.int .i64 j, .int .i64 m])] 71)).cell? ⟨w.heap.size, 0, none⟩ = some (.int .i64 key) := (hba.cell (p := ⟨w.heap.size, 0, none⟩) (lt_of_block hx)).trans (cell_of_row w1 _ 0 _ _ _ hx)
  have g0 : (w1.alloc (.cells #[.int .i64 k, .int .i64 n, .iface 77 (.agg #[.int .i64 j, .int .i64 m])] 71)).cell? ⟨0, 0, none⟩ = some (.iface 133 (.pointer (some b))) := (hba.cell (p := ⟨0, 0, none⟩) (Nat.lt_of_lt_of_le H0.out HB1.out.size)).trans ((HB1.out.cell (p := ⟨0, 0, none⟩) H0.out).trans HG.out)
  have HBE : Hid (Below w.heap.size w (w1.alloc (.cells #[.int .i64 k, .int .i64 n, .iface 77 (.agg #[.int .i64 j, .int .i64 m])] 71))) := HB1.out.trans (hba.mono HB1.out.size)
  have hxe := (hba.block _ (lt_of_block hx)).trans hx
  have hba2 : Below (w1.alloc (.cells #[.int .i64 k, .int .i64 n, .iface 77 (.agg #[.int .i64 j, .int .i64 m])] 71)).heap.size (w1.alloc (.cells #[.int .i64 k, .int .i64 n, .iface 77 (.agg #[.int .i64 j, .int .i64 m])] 71)) ((w1.alloc (.cells #[.int .i64 k, .int .i64 n, .iface 77 (.agg #[.int .i64 j, .int .i64 m])] 71)).alloc (.cells #[.int .i64 j, .int .i64 m] 77)) := (Below.refl _ _).alloc (Nat.le_refl _) _
  have c02 : ((w1.alloc (.cells #[.int .i64 k, .int .i64 n, .iface 77 (.agg #[.int .i64 j, .int .i64 m])] 71)).alloc (.cells #[.int .i64 j, .int .i64 m] 77)).cell? ⟨w.heap.size, 0, none⟩ = some (.int .i64 key) := (hba2.cell (p := ⟨w.heap.size, 0, none⟩) (lt_of_block hxe)).trans c0
  have g02 : ((w1.alloc (.cells #[.int .i64 k, .int .i64 n, .iface 77 (.agg #[.int .i64 j, .int .i64 m])] 71)).alloc (.cells #[.int .i64 j, .int .i64 m] 77)).cell? ⟨0, 0, none⟩ = some (.iface 133 (.pointer (some b))) := (hba2.cell (p := ⟨0, 0, none⟩) (Nat.lt_of_lt_of_le H0.out HBE.out.size)).trans g0
  have HBE2 : Hid (Below w.heap.size w ((w1.alloc (.cells #[.int .i64 k, .int .i64 n, .iface 77 (.agg #[.int .i64 j, .int .i64 m])] 71)).alloc (.cells #[.int .i64 j, .int .i64 m] 77))) := HBE.out.trans (hba2.mono HBE.out.size)
  clear hB1 hx hba hxe hba2
  go_wp2_with (go_at_call 36; refine (epochKeyOk_any key _).mono ?_; rintro e w2 ⟨rfl, hw2⟩; rw [hw2, HF.out])
  go_quiet (fail)
  go_wp2
  go_ret2
  exact ⟨rfl, HBE2.out.trans ⟨rfl, rfl, rfl, Nat.le_refl _, fun _ _ => rfl⟩⟩
set_option maxHeartbeats 1000000 in
theorem body_high (key : Int) (s : ByteArray) (b : Addr) (w : World) (hs : s.size ≤ 1048576) (hG : w.cell? ⟨0, 0, none⟩ = some (.iface 133 (.pointer (some b)))) (h0 : 0 < w.heap.size) {c : Bool} (k n : Nat) (hk7 : k ≤ 7) (hn9 : n ≤ 999) (j m : Nat) (hj7 : j ≤ 7) (hm9 : m ≤ 999) (hk : k = 6) (hn : (n : Int) = key) (hf : (decide (100 ≤ key) && decide (key ≤ 199)) = true) (hj : j = 1) (hm : 60 < m) (hr : tup2 (rT s) = .tuple #[.iface 71 (.agg #[.int .i64 k, .int .i64 n, .iface 77 (.agg #[.int .i64 j, .int .i64 m])]), .bool c]) :
    Calls Tryd.prog 24 #[.agg #[.int .i64 key, .string s]] w fun e w' => e = .returned (bodyV key b none) ∧ Below w.heap.size w w' := by
  have HT : Hid (∀ w, Calls Tryd.prog 35 #[.string s] w fun e w' => e = .returned (tup2 (rT s)) ∧ Below w.heap.size w w') := fun w => termOfText_any s w hs
  rw [hr] at HT
  have HB0 : Hid (Below w.heap.size w (w.alloc (.cells #[.int .i64 key, .string s] 26))) := (Below.refl _ _).alloc (Nat.le_refl _) _
  have HX : Hid ((w.alloc (.cells #[.int .i64 key, .string s] 26)).heap[w.heap.size]? = some (.cells #[.int .i64 key, .string s] 26 (0, 0))) := heap_alloc_new w _
  have HG := (show Hid _ from hG)
  have H0 := (show Hid _ from h0)
  clear hG h0 hs hr
  have ak := @asK
  have hk1 : ((k : Int) != 6) = false := by simp; omega
  have hn1 : ((n : Int) != key) = false := by simpa using hn
  have HF := (show Hid _ from hf)
  clear hk hn hf
  have al := @asL
  have hj1 : ((j : Int) != 1) = false := by simp; omega
  have hm1 : decide ((60 : Int) < (m : Int)) = true := by simp; omega
  have hm2 : (60 : Int) < (m : Int) := by omega
  clear hj hm
  go_enter Tryd.func24, Tryd.ntmps24
  go_wp2_with fail
  refine (HT.out _).mono ?_
  rintro e w1 ⟨rfl, hB1⟩
  have HB1 : Hid (Below w.heap.size w w1) := HB0.out.trans (hB1.mono HB0.out.size)
  have hx := (hB1.block _ (lt_of_block HX.out)).trans HX.out
  have hba : Below w1.heap.size w1 (w1.alloc (.cells #[.int .i64 k, .int .i64 n, .iface 77 (.agg #[.int .i64 j, .int .i64 m])] 71)) := (Below.refl _ _).alloc (Nat.le_refl _) _
  have c0 : (w1.alloc (.cells #[.int .i64 k, .int .i64 n, .iface 77 (.agg #[.int .i64 j, .int .i64 m])] 71)).cell? ⟨w.heap.size, 0, none⟩ = some (.int .i64 key) := (hba.cell (p := ⟨w.heap.size, 0, none⟩) (lt_of_block hx)).trans (cell_of_row w1 _ 0 _ _ _ hx)
  have g0 : (w1.alloc (.cells #[.int .i64 k, .int .i64 n, .iface 77 (.agg #[.int .i64 j, .int .i64 m])] 71)).cell? ⟨0, 0, none⟩ = some (.iface 133 (.pointer (some b))) := (hba.cell (p := ⟨0, 0, none⟩) (Nat.lt_of_lt_of_le H0.out HB1.out.size)).trans ((HB1.out.cell (p := ⟨0, 0, none⟩) H0.out).trans HG.out)
  have HBE : Hid (Below w.heap.size w (w1.alloc (.cells #[.int .i64 k, .int .i64 n, .iface 77 (.agg #[.int .i64 j, .int .i64 m])] 71))) := HB1.out.trans (hba.mono HB1.out.size)
  have hxe := (hba.block _ (lt_of_block hx)).trans hx
  have hba2 : Below (w1.alloc (.cells #[.int .i64 k, .int .i64 n, .iface 77 (.agg #[.int .i64 j, .int .i64 m])] 71)).heap.size (w1.alloc (.cells #[.int .i64 k, .int .i64 n, .iface 77 (.agg #[.int .i64 j, .int .i64 m])] 71)) ((w1.alloc (.cells #[.int .i64 k, .int .i64 n, .iface 77 (.agg #[.int .i64 j, .int .i64 m])] 71)).alloc (.cells #[.int .i64 j, .int .i64 m] 77)) := (Below.refl _ _).alloc (Nat.le_refl _) _
  have c02 : ((w1.alloc (.cells #[.int .i64 k, .int .i64 n, .iface 77 (.agg #[.int .i64 j, .int .i64 m])] 71)).alloc (.cells #[.int .i64 j, .int .i64 m] 77)).cell? ⟨w.heap.size, 0, none⟩ = some (.int .i64 key) := (hba2.cell (p := ⟨w.heap.size, 0, none⟩) (lt_of_block hxe)).trans c0
  have g02 : ((w1.alloc (.cells #[.int .i64 k, .int .i64 n, .iface 77 (.agg #[.int .i64 j, .int .i64 m])] 71)).alloc (.cells #[.int .i64 j, .int .i64 m] 77)).cell? ⟨0, 0, none⟩ = some (.iface 133 (.pointer (some b))) := (hba2.cell (p := ⟨0, 0, none⟩) (Nat.lt_of_lt_of_le H0.out HBE.out.size)).trans g0
  have HBE2 : Hid (Below w.heap.size w ((w1.alloc (.cells #[.int .i64 k, .int .i64 n, .iface 77 (.agg #[.int .i64 j, .int .i64 m])] 71)).alloc (.cells #[.int .i64 j, .int .i64 m] 77))) := HBE.out.trans (hba2.mono HBE.out.size)
  clear hB1 hx hba hxe hba2
  go_wp2_with (go_at_call 36; refine (epochKeyOk_any key _).mono ?_; rintro e w2 ⟨rfl, hw2⟩; rw [hw2, HF.out])
  go_quiet (fail)
  go_wp2
  go_ret2
  exact ⟨rfl, HBE2.out.trans ⟨rfl, rfl, rfl, Nat.le_refl _, fun _ _ => rfl⟩⟩
set_option maxHeartbeats 1000000 in
theorem body_yes (key : Int) (s : ByteArray) (b : Addr) (w : World) (hs : s.size ≤ 1048576) (hG : w.cell? ⟨0, 0, none⟩ = some (.iface 133 (.pointer (some b)))) (h0 : 0 < w.heap.size) {c : Bool} (k n : Nat) (hk7 : k ≤ 7) (hn9 : n ≤ 999) (j m : Nat) (hj7 : j ≤ 7) (hm9 : m ≤ 999) (hk : k = 6) (hn : (n : Int) = key) (hf : (decide (100 ≤ key) && decide (key ≤ 199)) = true) (hj : j = 1) (hm : m ≤ 60) (hr : tup2 (rT s) = .tuple #[.iface 71 (.agg #[.int .i64 k, .int .i64 n, .iface 77 (.agg #[.int .i64 j, .int .i64 m])]), .bool c]) :
    Calls Tryd.prog 24 #[.agg #[.int .i64 key, .string s]] w fun e w' => e = .returned (bodyV key b (some m)) ∧ Below w.heap.size w w' := by
  have HT : Hid (∀ w, Calls Tryd.prog 35 #[.string s] w fun e w' => e = .returned (tup2 (rT s)) ∧ Below w.heap.size w w') := fun w => termOfText_any s w hs
  rw [hr] at HT
  have HB0 : Hid (Below w.heap.size w (w.alloc (.cells #[.int .i64 key, .string s] 26))) := (Below.refl _ _).alloc (Nat.le_refl _) _
  have HX : Hid ((w.alloc (.cells #[.int .i64 key, .string s] 26)).heap[w.heap.size]? = some (.cells #[.int .i64 key, .string s] 26 (0, 0))) := heap_alloc_new w _
  have HG := (show Hid _ from hG)
  have H0 := (show Hid _ from h0)
  clear hG h0 hs hr
  have ak := @asK
  have hk1 : ((k : Int) != 6) = false := by simp; omega
  have hn1 : ((n : Int) != key) = false := by simpa using hn
  have HF := (show Hid _ from hf)
  clear hk hn hf
  have al := @asL
  have hj1 : ((j : Int) != 1) = false := by simp; omega
  have hm1 : decide ((60 : Int) < (m : Int)) = false := by simp; omega
  have hm2 : ¬ (60 : Int) < (m : Int) := by omega
  clear hj hm
  go_enter Tryd.func24, Tryd.ntmps24
  go_wp2_with fail
  refine (HT.out _).mono ?_
  rintro e w1 ⟨rfl, hB1⟩
  have HB1 : Hid (Below w.heap.size w w1) := HB0.out.trans (hB1.mono HB0.out.size)
  have hx := (hB1.block _ (lt_of_block HX.out)).trans HX.out
  have hba : Below w1.heap.size w1 (w1.alloc (.cells #[.int .i64 k, .int .i64 n, .iface 77 (.agg #[.int .i64 j, .int .i64 m])] 71)) := (Below.refl _ _).alloc (Nat.le_refl _) _
  have c0 : (w1.alloc (.cells #[.int .i64 k, .int .i64 n, .iface 77 (.agg #[.int .i64 j, .int .i64 m])] 71)).cell? ⟨w.heap.size, 0, none⟩ = some (.int .i64 key) := (hba.cell (p := ⟨w.heap.size, 0, none⟩) (lt_of_block hx)).trans (cell_of_row w1 _ 0 _ _ _ hx)
  have g0 : (w1.alloc (.cells #[.int .i64 k, .int .i64 n, .iface 77 (.agg #[.int .i64 j, .int .i64 m])] 71)).cell? ⟨0, 0, none⟩ = some (.iface 133 (.pointer (some b))) := (hba.cell (p := ⟨0, 0, none⟩) (Nat.lt_of_lt_of_le H0.out HB1.out.size)).trans ((HB1.out.cell (p := ⟨0, 0, none⟩) H0.out).trans HG.out)
  have HBE : Hid (Below w.heap.size w (w1.alloc (.cells #[.int .i64 k, .int .i64 n, .iface 77 (.agg #[.int .i64 j, .int .i64 m])] 71))) := HB1.out.trans (hba.mono HB1.out.size)
  have hxe := (hba.block _ (lt_of_block hx)).trans hx
  have hba2 : Below (w1.alloc (.cells #[.int .i64 k, .int .i64 n, .iface 77 (.agg #[.int .i64 j, .int .i64 m])] 71)).heap.size (w1.alloc (.cells #[.int .i64 k, .int .i64 n, .iface 77 (.agg #[.int .i64 j, .int .i64 m])] 71)) ((w1.alloc (.cells #[.int .i64 k, .int .i64 n, .iface 77 (.agg #[.int .i64 j, .int .i64 m])] 71)).alloc (.cells #[.int .i64 j, .int .i64 m] 77)) := (Below.refl _ _).alloc (Nat.le_refl _) _
  have c02 : ((w1.alloc (.cells #[.int .i64 k, .int .i64 n, .iface 77 (.agg #[.int .i64 j, .int .i64 m])] 71)).alloc (.cells #[.int .i64 j, .int .i64 m] 77)).cell? ⟨w.heap.size, 0, none⟩ = some (.int .i64 key) := (hba2.cell (p := ⟨w.heap.size, 0, none⟩) (lt_of_block hxe)).trans c0
  have g02 : ((w1.alloc (.cells #[.int .i64 k, .int .i64 n, .iface 77 (.agg #[.int .i64 j, .int .i64 m])] 71)).alloc (.cells #[.int .i64 j, .int .i64 m] 77)).cell? ⟨0, 0, none⟩ = some (.iface 133 (.pointer (some b))) := (hba2.cell (p := ⟨0, 0, none⟩) (Nat.lt_of_lt_of_le H0.out HBE.out.size)).trans g0
  have HBE2 : Hid (Below w.heap.size w ((w1.alloc (.cells #[.int .i64 k, .int .i64 n, .iface 77 (.agg #[.int .i64 j, .int .i64 m])] 71)).alloc (.cells #[.int .i64 j, .int .i64 m] 77))) := HBE.out.trans (hba2.mono HBE.out.size)
  clear hB1 hx hba hxe hba2
  go_wp2_with (go_at_call 36; refine (epochKeyOk_any key _).mono ?_; rintro e w2 ⟨rfl, hw2⟩; rw [hw2, HF.out])
  go_ret2
  exact ⟨rfl, HBE2.out⟩
end Go.Proofs.YtcolcnkjcagbaaaDoor
