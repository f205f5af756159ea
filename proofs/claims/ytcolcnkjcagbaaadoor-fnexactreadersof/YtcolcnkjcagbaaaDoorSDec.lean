/-
  The specification's l1Dec gives a number in decimal, up to 999.
-/
import Derived.Test.YtcolcnkjcagbaaaDoorSTermG
import Derived.Laws.BytesString
import Derived.Laws.Concat
namespace Go.Proofs.YtcolcnkjcagbaaaDoor
open Go.RowKit
set_option linter.unusedVariables false

/-- the text of one byte -/
def dgI (c : Int) : ByteArray := ⟨#[UInt8.ofNat c.toNat]⟩
theorem dgI_size (c : Int) : (dgI c).size = 1 := rfl

/-- a number in decimal -/
def decB : Nat → ByteArray
  | n => if h : n < 10 then dgI (48 + (n : Int)) else decB (n / 10) ++ dgI (48 + (n : Int) % 10)

theorem decB_one {n : Nat} (h : n < 10) : decB n = dgI (48 + (n : Int)) := by unfold decB; rw [dif_pos h]
theorem decB_more {n : Nat} (h : ¬ n < 10) : decB n = decB (n / 10) ++ dgI (48 + (n : Int) % 10) := by conv => lhs; unfold decB; rw [dif_neg h]

theorem byte_string (w : World) (c : Int) : (convert 84 9 (.slice (some ⟨w.heap.size, 0, none⟩) 1 1)).run Tryd.prog (w.alloc (.cells #[.int .u8 c] 5)) = .ok (.string (dgI c)) (w.alloc (.cells #[.int .u8 c] 5)) := by
  rw [run_convert_bytes_string _ 84 9 5 _ _ _ Tryd.underlying84 Tryd.underlying5 Tryd.underlying9]
  rw [run_bytesToString _ _ 1 1 [c] (by simp [loadCells, go_sem])]
  rfl

set_option maxRecDepth 4000 in
set_option maxHeartbeats 400000 in
theorem l1Dec_any (n : Nat) (hn : n ≤ 999) (w : World) :
    Calls Tryd.prog 29 #[.int .i64 n] w fun e w' => e = .returned (.string (decB n)) ∧ Below w.heap.size w w' := by
  go_enter Tryd.func29, Tryd.ntmps29
  go_wp2
  go_loopw [0, 3] (fun x y wr => ∃ (m : Nat) (t : ByteArray), m ≤ n ∧ x = .int .i64 m ∧ y = .string t ∧ Hid (t.size + m ≤ n) ∧ Hid (decB n = decB m ++ t) ∧ Below w.heap.size w wr) (fun x _ _ => (intOf x).toNat)
  case atStart => exact ⟨n, _, Nat.le_refl _, rfl, rfl, by show _ ≤ _; exact Nat.le_of_eq (Nat.zero_add _), by show _ = _; exact ByteArray.append_empty.symm, Below.refl _ _⟩
  case round =>
    obtain ⟨m, t, hm, rfl, rfl, hts, hd, hB⟩ := hrel
    have hadd : ∀ (c : Int) (w' : World), (Op.stringOp .add (dgI c) t).run Tryd.prog w' = .ok (.string (dgI c ++ t)) w' := fun c w' => run_string_add_sum w' _ _ (by have := hts.out; have := dgI_size c; omega)
    have hcv := byte_string wr
    by_cases h10 : m < 10
    · have hlt : (m : Int) < 10 := by omega
      have hr : Hid (decB n = dgI (48 + (m : Int)) ++ t) := by
        show _ = _
        rw [hd.out, decB_one h10]
      go_wp2
      go_ret
      exact ⟨retv (by rw [hr.out]; rfl), hB.alloc hB.size _⟩
    · have hlt : (10 : Int) ≤ (m : Int) := by omega
      have hr : Hid (decB n = decB (m / 10) ++ (dgI (48 + (m : Int) % 10) ++ t)) := by
        show _ = _
        rw [hd.out, decB_more h10, ByteArray.append_assoc]
      clear h10
      go_wp2
      go_roundw
      case rel =>
        refine ⟨m / 10, _, by omega, by go_num, rfl, ?_, hr.out, hB.alloc hB.size _⟩
        show _ ≤ _
        have := hts.out
        rw [ByteArray.size_append, dgI_size]
        omega
      case measure => simp [intOf]; omega

end Go.Proofs.YtcolcnkjcagbaaaDoor
