/-
  Texts: their bytes; noughts behind a text. No condition but lengths.
-/
import Derived.Test.YtlibipbpaigmdaaGreatDoorBase
import Derived.Laws.BytesString
import Derived.Laws.Concat
import Derived.Laws.MakeOwn
import Derived.Laws.Cells
import Derived.Lib.Repeat
import Derived.Lib.Strings
import Derived.Lib.IndexBytes
namespace Go.Proofs.YtlibipbpaigmdaaGreatDoor
open Go.RowKit
set_option linter.unusedVariables false

theorem ret_val {a b : Value} (h : a = b) : Ending.returned a = .returned b := by rw [h]

theorem add_ok {a b : ByteArray} (h : a.size + b.size ≤ 100000000) (w : World) : (Op.stringOp .add a b).run Tryz.prog w = .ok (.string (a ++ b)) w := run_string_add_sum w _ _ (by omega)

def zeros (k : Nat) : ByteArray := ⟨(Lib.repeatL [0] k).toArray⟩
theorem zeros_size (k : Nat) : (zeros k).size = k := by
  show (Lib.repeatL [0] k).toArray.size = k
  simp [Lib.repeatL_length]

def padB (s : ByteArray) (k : Nat) : ByteArray := (s ++ ⟨#[128]⟩) ++ zeros k

theorem padB_size (s : ByteArray) (k : Nat) : (padB s k).size = s.size + 1 + k := by
  unfold padB
  rw [ByteArray.size_append, ByteArray.size_append, zeros_size]
  rfl

theorem info5 : (Tryz.prog.info? 5).map (fun i => (i.zero, i.size, i.bytes)) = some (some (.int .u8 0), 1, 1) := by kernel_rfl

theorem foldl_zeros : ∀ (k : Nat) (a : ByteArray), (List.replicate k (0 : Int)).foldl (fun r n => r.push (UInt8.ofNat n.toNat)) a = a ++ zeros k
  | 0, a => by
    rw [List.replicate_zero, List.foldl_nil]
    exact ByteArray.append_empty.symm
  | k + 1, a => by
    rw [List.replicate_succ, List.foldl_cons, foldl_zeros k]
    apply ByteArray.ext
    apply Array.ext'
    simp [zeros, Lib.repeatL]

theorem made_zeros (k : Nat) : madeCells #[Value.int .u8 0] k = ((List.replicate k (0 : Int)).map (Value.int .u8)).toArray := by
  apply Array.ext'
  apply List.ext_getElem?
  intro i
  simp only [madeCells]
  by_cases h : i < k
  · simp [h, Nat.mod_one]
  · simp [h]

def bt (s : ByteArray) (i : Nat) : Int := if h : i < s.size then (s[i].toNat : Int) else -1
theorem bt_in {s : ByteArray} {i : Nat} (h : i < s.size) : (s[i].toNat : Int) = bt s i := by unfold bt; rw [dif_pos h]
theorem bt_range {s : ByteArray} {i : Nat} (h : i < s.size) : 0 ≤ bt s i ∧ bt s i ≤ 255 := by
  rw [← bt_in h]
  have := s[i].toNat_lt
  omega

theorem get_list {s : ByteArray} {i : Nat} (h : i < s.size) : s.data.toList[i]? = some s[i] := by
  rw [Array.getElem?_toList]
  exact Array.getElem?_eq_getElem h

theorem byte_of_bt {s : ByteArray} {i : Nat} {b : UInt8} (h : i < s.size) (hb : bt s i = (b.toNat : Int)) : s.data.toList[i]? = some b := by
  rw [get_list h]
  rw [← bt_in h] at hb
  congr 1
  apply UInt8.toNat_inj.1
  omega

theorem bt_of_byte {s : ByteArray} {i : Nat} {b : UInt8} (hb : s.data.toList[i]? = some b) : i < s.size ∧ bt s i = (b.toNat : Int) := by
  have h : i < s.size := by
    rw [Lib.size_eq]
    rcases Nat.lt_or_ge i s.data.toList.length with h | h
    · exact h
    · rw [List.getElem?_eq_none h] at hb; cases hb
  rw [get_list h] at hb
  cases hb
  exact ⟨h, (bt_in h).symm⟩

end Go.Proofs.YtlibipbpaigmdaaGreatDoor
