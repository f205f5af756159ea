/-
  filled, and both Padded functions, answer the plain function padB, for texts of at most a million bytes.
-/
import Derived.Test.YtgjoppllhegkoaaDoorSize
import Derived.Test.YtgjoppllhegkoaaDoorShelf
import Derived.Laws.BytesString
import Derived.Laws.Concat
import Derived.Laws.MakeOwn
import Derived.Laws.Cells
namespace Go.Proofs.YtgjoppllhegkoaaDoor
open Go.RowKit
set_option linter.unusedVariables false

theorem ret_val {a b : Value} (h : a = b) : Ending.returned a = .returned b := by rw [h]

theorem add_ok {a b : ByteArray} (h : a.size + b.size ≤ 100000000) (w : World) : (Op.stringOp .add a b).run Tryd.prog w = .ok (.string (a ++ b)) w := run_string_add_sum w _ _ (by omega)

/-- so many bytes 0 -/
def zeros (k : Nat) : ByteArray := ⟨(Lib.repeatL [0] k).toArray⟩
theorem zeros_size (k : Nat) : (zeros k).size = k := by
  show (Lib.repeatL [0] k).toArray.size = k
  simp [Lib.repeatL_length]

/-- s, a byte 128, and so many bytes 0 -/
def padB (s : ByteArray) (k : Nat) : ByteArray := (s ++ ⟨#[128]⟩) ++ zeros k

theorem padB_size (s : ByteArray) (k : Nat) : (padB s k).size = s.size + 1 + k := by
  unfold padB
  rw [ByteArray.size_append, ByteArray.size_append, zeros_size]
  rfl

theorem repeat0 (c : Int) (h0 : 0 ≤ c) (h1 : c ≤ 100000000) (w : World) :
    Calls Tryd.prog 36 #[.string ⟨#[0]⟩, .int .i64 c] w fun e w' => e = .returned (.string (zeros c.toNat)) ∧ Below w.heap.size w w' := by
  obtain ⟨n, rfl⟩ := Int.eq_ofNat_of_zero_le h0
  exact Tryd.strings_Repeat ⟨#[0]⟩ n w (by omega) (by show 1 * n ≤ _; omega)

set_option maxRecDepth 4000 in
theorem filled_any (s : ByteArray) (z : Nat) (hs : s.size < z) (hz : z ≤ 10000000) (w : World) :
    Calls Tryd.prog 23 #[.string s, .int .i64 z] w fun e w' => e = .returned (.string (padB s (z - s.size - 1))) ∧ Below w.heap.size w w' := by
  have ha1 := add_ok (a := s) (b := ⟨#[128]⟩) (by have : (ByteArray.mk #[128]).size = 1 := rfl; omega)
  have ha2 := add_ok (a := s ++ ⟨#[128]⟩) (b := zeros (z - s.size - 1)) (by rw [ByteArray.size_append, zeros_size, show (ByteArray.mk #[128]).size = 1 from rfl]; omega)
  go_enter Tryd.func23, Tryd.ntmps23
  go_wp2_with (go_at_call 36; refine (repeat0 _ (by omega) (by omega) _).mono ?_; rintro e w' ⟨rfl, hB⟩)
  go_ret
  exact ⟨rfl, hB⟩

/-- what both Padded functions answer -/
def padR (s : ByteArray) : Value := if s.size ≤ 200 then .tuple #[.string (padB s ((sizeOf s.size).toNat - s.size - 1)), .bool true] else .tuple #[.string ⟨#[]⟩, .bool false]

theorem sizeOf_big {n : Nat} (h : ¬ n ≤ 200) : sizeOf (n : Int) = -1 := by unfold sizeOf; rw [if_pos (by omega)]
theorem sizeOf_fits {n : Nat} (h : n ≤ 200) : ∃ z : Nat, sizeOf (n : Int) = z ∧ n < z ∧ z ≤ 256 := by
  have : (n : Int) < sizeOf n ∧ sizeOf n ≤ 256 := by unfold sizeOf; split <;> (try split) <;> (try split) <;> (try split) <;> (try split) <;> omega
  exact ⟨(sizeOf n).toNat, by omega, by omega, by omega⟩

set_option maxRecDepth 4000 in
theorem implPadded_any (s : ByteArray) (hs : s.size ≤ 9223372036854775807) (w : World) (hS : Sizes w) :
    Calls Tryd.prog 8 #[.string s] w fun e w' => e = .returned (padR s) ∧ Below w.heap.size w w' := by
  by_cases h : s.size ≤ 200
  · obtain ⟨z, hz, hz1, hz2⟩ := sizeOf_fits h
    have hr : Hid (padR s = .tuple #[.string (padB s (z - s.size - 1)), .bool true]) := by
      show _ = _
      unfold padR
      rw [if_pos h, hz]
      rfl
    have hne : ((z : Int) == -1) = false := by simp
    go_enter Tryd.func8, Tryd.ntmps8
    go_wp2_with (first | (go_at_call 11; refine (implSize_any _ _ hS).mono ?_; rintro e w' ⟨rfl, rfl⟩; rw [hz]) | (go_at_call 23; refine (filled_any s z hz1 (by omega) _).mono ?_; rintro e w' ⟨rfl, hB⟩))
    go_ret2
    exact ⟨ret_val hr.out.symm, hB⟩
  · have hz := sizeOf_big h
    have hr : Hid (padR s = .tuple #[.string ⟨#[]⟩, .bool false]) := by
      show _ = _
      unfold padR
      rw [if_neg h]
    clear h
    go_enter Tryd.func8, Tryd.ntmps8
    go_wp2_with (go_at_call 11; refine (implSize_any _ _ hS).mono ?_; rintro e w' ⟨rfl, rfl⟩; rw [hz])
    go_ret2
    exact ⟨ret_val hr.out.symm, Below.refl _ _⟩


theorem info5 : (Tryd.prog.info? 5).map (fun i => (i.zero, i.size, i.bytes)) = some (some (.int .u8 0), 1, 1) := by kernel_rfl

theorem foldl_zeros : ∀ (k : Nat) (a : ByteArray), (List.replicate k (0 : Int)).foldl (fun r n => r.push (UInt8.ofNat n.toNat)) a = a ++ zeros k
  | 0, a => by
    rw [List.replicate_zero, List.foldl_nil]
    exact ByteArray.append_empty.symm
  | k + 1, a => by
    rw [List.replicate_succ, List.foldl_cons, foldl_zeros k]
    apply ByteArray.ext
    apply Array.ext'
    simp [zeros, Lib.repeatL]

theorem made_zeros (k : Nat) : madeCells #[Value.int .u8 0] k = ((List.replicate k (0 : Int)).map (Value.int .u8)).toArray := by
  apply Array.ext'
  apply List.ext_getElem?
  intro i
  simp only [madeCells]
  by_cases h : i < k
  · simp [h, Nat.mod_one]
  · simp [h]

/-- a new slice of k bytes 0, as a text -/
theorem zeros_string (w : World) (k : Nat) (cs : Array Value) (h : cs = ((List.replicate k (0 : Int)).map (Value.int .u8)).toArray) :
    (convert 22 9 (.slice (some ⟨w.heap.size, 0, none⟩) k k)).run Tryd.prog (w.alloc (.cells cs 5)) = .ok (.string (zeros k)) (w.alloc (.cells cs 5)) := by
  subst h
  rw [run_convert_bytes_string _ 22 9 5 _ _ _ Tryd.underlying22 Tryd.underlying5 Tryd.underlying9]
  rw [run_bytesToString _ _ k k (List.replicate k 0)]
  · rw [foldl_zeros]
    simp
  · have := run_loadCells_list (P := Tryd.prog) (w.alloc (.cells ((List.replicate k (0 : Int)).map (Value.int .u8)).toArray 5)) ⟨w.heap.size, 0, none⟩ ((List.replicate k (0 : Int)).map (Value.int .u8)) (by
      intro j v hv
      have hh := heap_alloc_new w (.cells ((List.replicate k (0 : Int)).map (Value.int .u8)).toArray 5)
      rw [Go.WideShapes.add_plain]
      simp only [World.cell?, Nat.zero_add, hh]
      rw [if_neg (by simp), List.getElem?_toArray]
      exact hv)
    simpa using this

set_option maxRecDepth 4000 in
theorem specPadded_any (s : ByteArray) (hs : s.size ≤ 9223372036854775807) (w : World) :
    Calls Tryd.prog 9 #[.string s] w fun e w' => e = .returned (padR s) ∧ Below w.heap.size w w' := by
  by_cases h : s.size ≤ 200
  · obtain ⟨z, hz, hz1, hz2⟩ := sizeOf_fits h
    obtain ⟨i0, hi, hz0, hzs, hzb⟩ := info_parts info5
    have hr : Hid (padR s = .tuple #[.string (padB s (z - s.size - 1)), .bool true]) := by
      show _ = _
      unfold padR
      rw [if_pos h, hz]
      rfl
    have hki : (z : Int) - (s.size : Int) - 1 = ((z - s.size - 1 : Nat) : Int) := by omega
    have hmk : ∀ w, (Instr.makeSlice 22 (.int .i64 ((z - s.size - 1 : Nat) : Int)) (.int .i64 ((z - s.size - 1 : Nat) : Int))).run Tryd.prog w = .ok (.slice (some ⟨w.heap.size, 0, none⟩) (z - s.size - 1) (z - s.size - 1)) (w.alloc (.cells (madeCells #[Value.int .u8 0] (z - s.size - 1)) 5)) := by
      intro w
      have := run_make (P := Tryd.prog) w 22 5 i0 (.int .u8 0) Tryd.underlying22 hi hz0 .i64 .i64 ((z - s.size - 1 : Nat) : Int) ((z - s.size - 1 : Nat) : Int) (by omega) (by omega) (by rw [hzb]; omega) (by omega)
      rw [hzs] at this
      simpa [Value.cells] using this
    have hcv := fun w : World => zeros_string w (z - s.size - 1) (madeCells #[Value.int .u8 0] (z - s.size - 1)) (made_zeros _)
    have ha1 := add_ok (a := s) (b := ⟨#[128]⟩) (by have : (ByteArray.mk #[128]).size = 1 := rfl; omega)
    have ha2 := add_ok (a := s ++ ⟨#[128]⟩) (b := zeros (z - s.size - 1)) (by rw [ByteArray.size_append, zeros_size, show (ByteArray.mk #[128]).size = 1 from rfl]; omega)
    have hnl : ¬ (z : Int) < 0 := by omega
    go_enter Tryd.func9, Tryd.ntmps9
    go_wp2_with (go_at_call 15; refine (specSize_any _ _).mono ?_; rintro e w' ⟨rfl, rfl⟩; rw [hz])
    go_ret2
    exact ⟨ret_val hr.out.symm, (Below.refl _ _).alloc (Nat.le_refl _) _⟩
  · have hz := sizeOf_big h
    have hr : Hid (padR s = .tuple #[.string ⟨#[]⟩, .bool false]) := by
      show _ = _
      unfold padR
      rw [if_neg h]
    clear h
    go_enter Tryd.func9, Tryd.ntmps9
    go_wp2_with (go_at_call 15; refine (specSize_any _ _).mono ?_; rintro e w' ⟨rfl, rfl⟩; rw [hz])
    go_ret2
    exact ⟨ret_val hr.out.symm, Below.refl _ _⟩

end Go.Proofs.YtgjoppllhegkoaaDoor
