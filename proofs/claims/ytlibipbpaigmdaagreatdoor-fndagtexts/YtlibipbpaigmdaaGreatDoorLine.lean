/-
  Numbers in decimal, and the lines of a node's text, the program's and the specification's. No condition but bounds.
-/
import Derived.Test.YtlibipbpaigmdaaGreatDoorNode4
import Derived.Lib.AppendIntMem
import Derived.Lib.LaidTab
namespace Go.Proofs.YtlibipbpaigmdaaGreatDoor
open Go.RowKit
set_option linter.unusedVariables false

/-- the text of one byte -/
def dgI (c : Int) : ByteArray := ⟨#[UInt8.ofNat c.toNat]⟩
theorem dgI_size (c : Int) : (dgI c).size = 1 := rfl

/-- a number in decimal -/
def decB (n : Nat) : ByteArray := ⟨(Lib.decDigits n).toArray⟩

theorem decB_one {n : Nat} (h : n < 10) : decB n = dgI (48 + (n : Int)) := by
  unfold decB dgI
  rw [Lib.decDigits_one h, show (48 + (n : Int)).toNat = 48 + n by omega]
theorem decB_more {n : Nat} (h : ¬ n < 10) : decB n = decB (n / 10) ++ dgI (48 + (n : Int) % 10) := by
  apply ByteArray.ext
  apply Array.ext'
  unfold decB dgI
  conv => lhs; rw [Lib.decDigits, dif_neg h]
  rw [show (48 + (n : Int) % 10).toNat = 48 + n % 10 by omega]
  simp

theorem byte_string (w : World) (c : Int) : (convert 44 9 (.slice (some ⟨w.heap.size, 0, none⟩) 1 1)).run Tryz.prog (w.alloc (.cells #[.int .u8 c] 5)) = .ok (.string (dgI c)) (w.alloc (.cells #[.int .u8 c] 5)) := by
  rw [run_convert_bytes_string _ 44 9 5 _ _ _ Tryz.underlying44 Tryz.underlying5 Tryz.underlying9]
  rw [run_bytesToString _ _ 1 1 [c] (by simp [loadCells, go_sem])]
  rfl

set_option maxRecDepth 4000 in
set_option maxHeartbeats 400000 in
theorem l1Dec_any (n : Nat) (hn : n ≤ 1000000) (w : World) :
    Calls Tryz.prog 173 #[.int .i64 n] w fun e w' => e = .returned (.string (decB n)) ∧ Below w.heap.size w w' := by
  go_enter Tryz.func173, Tryz.ntmps173
  go_wp2
  go_loopw [0, 3] (fun x y wr => ∃ (m : Nat) (t : ByteArray), m ≤ n ∧ x = .int .i64 m ∧ y = .string t ∧ Hid (t.size + m ≤ n) ∧ Hid (decB n = decB m ++ t) ∧ Below w.heap.size w wr) (fun x _ _ => (intOf x).toNat)
  case atStart => exact ⟨n, _, Nat.le_refl _, rfl, rfl, by show _ ≤ _; exact Nat.le_of_eq (Nat.zero_add _), by show _ = _; exact ByteArray.append_empty.symm, Below.refl _ _⟩
  case round =>
    obtain ⟨m, t, hm, rfl, rfl, hts, hd, hB⟩ := hrel
    have hadd : ∀ (c : Int) (w' : World), (Op.stringOp .add (dgI c) t).run Tryz.prog w' = .ok (.string (dgI c ++ t)) w' := fun c w' => run_string_add_sum w' _ _ (by have := hts.out; have := dgI_size c; omega)
    have hcv := byte_string wr
    by_cases h10 : m < 10
    · have hlt : (m : Int) < 10 := by omega
      have hr : Hid (decB n = dgI (48 + (m : Int)) ++ t) := by
        show _ = _
        rw [hd.out, decB_one h10]
      go_wp2
      go_ret
      exact ⟨ret_val (by rw [hr.out]; rfl), hB.alloc hB.size _⟩
    · have hlt : (10 : Int) ≤ (m : Int) := by omega
      have hr : Hid (decB n = decB (m / 10) ++ (dgI (48 + (m : Int) % 10) ++ t)) := by
        show _ = _
        rw [hd.out, decB_more h10, ByteArray.append_assoc]
      clear h10
      go_wp2
      go_roundw
      case rel =>
        refine ⟨m / 10, _, by omega, by go_num, rfl, ?_, hr.out, hB.alloc hB.size _⟩
        show _ ≤ _
        have := hts.out
        rw [ByteArray.size_append, dgI_size]
        omega
      case measure => simp [intOf]; omega


theorem decB_digits (n : Nat) : decB n = ⟨(Lib.decDigits n).toArray⟩ := rfl

theorem decB_size (n : Nat) : (decB n).size ≤ n + 1 := by
  induction n using Nat.strongRecOn with
  | ind n ih =>
    by_cases h : n < 10
    · rw [decB_one h, dgI_size]; omega
    · have := ih (n / 10) (by omega)
      rw [decB_more h, ByteArray.size_append, dgI_size]
      omega

/-- the library's table of powers of ten holds what it is laid with -/
def Pow (w : World) : Prop := Lib.TabIs Tryz.prog w "internal/strconv.uint64pow10" .u64 Lib.pow10Tab
theorem gP : Tryz.prog.globalNamed "internal/strconv.uint64pow10" = some 2 := by kernel_rfl
theorem Pow.below {w w' : World} (h : Pow w) (hB : Below w.heap.size w w') : Pow w' := by
  unfold Pow at h ⊢
  have hlt : 2 < w.heap.size := cell_lt (h.cell gP 0 (by decide))
  unfold Lib.TabIs World.var? at h ⊢
  rw [gP] at h ⊢
  simp only [Option.bind_some] at h ⊢
  rw [hB.block 2 hlt]
  exact h

theorem fmt_any (n : Nat) (hn : n ≤ 1000000) (w : World) (hP : Pow w) :
    Calls Tryz.prog 169 #[.int .i64 n, .int .i64 10] w fun e w' => e = .returned (.string (decB n)) ∧ Below w.heap.size w w' := by
  refine (Tryz.strconv_FormatInt_10 (n : Int) (by omega) (by omega) w hP).mono ?_
  rintro e w' ⟨rfl, k, os, rfl⟩
  refine ⟨?_, Lib.below_grow _ _ (Nat.le_refl _) _ _⟩
  rw [decB_digits]
  unfold Lib.itoa
  rw [if_neg (by omega)]
  rfl

/-- a word, a blank, a value, the line's end -/
def lineB (word v : ByteArray) : ByteArray := ((word ++ ⟨#[32]⟩) ++ v) ++ ⟨#[10]⟩
theorem lineB_size (word v : ByteArray) : (lineB word v).size = word.size + v.size + 2 := by
  unfold lineB
  rw [ByteArray.size_append, ByteArray.size_append, ByteArray.size_append, show (ByteArray.mk #[32]).size = 1 from rfl, show (ByteArray.mk #[10]).size = 1 from rfl]
  omega

set_option maxRecDepth 4000 in
theorem lineOf_any (word v : ByteArray) (h1 : word.size ≤ 1000) (h2 : v.size ≤ 10000000) (w : World) :
    Calls Tryz.prog 122 #[.string word, .string v] w fun e w' => e = .returned (.string (lineB word v)) ∧ w' = w := by
  have s1 : (ByteArray.mk #[32]).size = 1 := rfl
  have s2 : (ByteArray.mk #[10]).size = 1 := rfl
  have a1 := add_ok (a := word) (b := ⟨#[32]⟩) (by omega)
  have a2 := add_ok (a := word ++ ⟨#[32]⟩) (b := v) (by rw [ByteArray.size_append]; omega)
  have a3 := add_ok (a := (word ++ ⟨#[32]⟩) ++ v) (b := ⟨#[10]⟩) (by rw [ByteArray.size_append, ByteArray.size_append]; omega)
  clear s1 s2
  go_enter Tryz.func122, Tryz.ntmps122
  go_wp2
  go_ret
  exact ⟨rfl, rfl⟩

theorem lineOfNumber_any (word : ByteArray) (n : Nat) (h1 : word.size ≤ 1000) (hn : n ≤ 1000000) (w : World) (hP : Pow w) :
    Calls Tryz.prog 121 #[.string word, .int .i64 n] w fun e w' => e = .returned (.string (lineB word (decB n))) ∧ Below w.heap.size w w' := by
  have hd := decB_size n
  go_enter Tryz.func121, Tryz.ntmps121
  go_wp2_with (first | (go_at_call 169; refine (fmt_any n hn _ hP).mono ?_; rintro e w1 ⟨rfl, hB1⟩) | (go_at_call 122; refine (lineOf_any word (decB n) h1 (by omega) _).mono ?_; rintro e w2 ⟨rfl, rfl⟩))
  go_ret
  exact ⟨rfl, hB1⟩

/-- the lines ahead of the ups -/
def headB (a s k : Nat) (key text : ByteArray) : ByteArray :=
  ((lineB ⟨#[97, 117, 116, 104, 111, 114]⟩ (decB a) ++ lineB ⟨#[115, 101, 113]⟩ (decB s)) ++ lineB ⟨#[107, 105, 110, 100]⟩ (decB k)) ++ (lineB ⟨#[107, 101, 121]⟩ key ++ lineB ⟨#[116, 101, 120, 116]⟩ text)
/-- with j ups -/
def upsB (H : ByteArray) (S : Nat → ByteArray) : Nat → ByteArray
  | 0 => H
  | j + 1 => upsB H S j ++ lineB ⟨#[117, 112]⟩ (S j)
end Go.Proofs.YtlibipbpaigmdaaGreatDoor
