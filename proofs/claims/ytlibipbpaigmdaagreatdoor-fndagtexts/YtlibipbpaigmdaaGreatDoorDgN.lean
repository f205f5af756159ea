/-
  The text of a dag, plainly, and the specification's NodeText. No condition but that the slices read.
  isDigit, readDecimal and l1Int answer plain tests of bytes. No condition.
  l1Cut answers what stands ahead of the first such byte and behind it. No condition but that the text is not huge.
  Contracts of the library at this program.
  The program's reader of lines: a value, a number. No condition but that the texts are not huge and that the reader lies in memory.
  What the program's ReadNode keeps while it reads: its result's box, its reader, its node, the ups behind j lines. No condition.
  The program's ReadNode, walked: what it answers, by the lines that it reads. No condition but that the text has at most 1000 bytes.
  The specification's reader of nodes as plain data. No condition.
  The specification's ReadNode, walked: what it answers, by the lines that it reads. No condition but that the text is not huge.
  Lines, plainly: both readers at a line, back and forth; a number's text. No condition.
  Both readers take the same texts and give the same node. No condition.
  Both ReadNodes at a text of more than 1000 bytes: neither takes it. No condition but that the text is not huge.
  Both ReadNodes by one plain answer; the laws' own marks on a node; the law, whole. No condition but that bytealg's variable lies in block 0.
  A right node's text is read as that node: plain data alone. No condition.
  Single operations, over any frame. No condition.
  A text hurt by the reader of codes. Condition: the code reads as bytes.
  The law FnNodes returns true at every code. Condition: the code reads as bytes, the tables lie, bytealg's variable holds a number.
  The law FnNodes returns true at every code. Condition: the code reads as bytes, the tables lie, bytealg's variable holds a number.
-/
import Derived.Test.YtlibipbpaigmdaaGreatDoorDag7
import Derived.Test.YtlibipbpaigmdaaGreatDoorNT3
import Derived.Test.YtlibipbpaigmdaaGreatDoorTxt
import Derived.Test.YtlibipbpaigmdaaGreatDoorBase
import Derived.Deep.Quiet
import Derived.Shelf.Strings.Builder1
import Derived.Shelf.Strings.Builder2
import Derived.Shelf.Strings.Trim
import Derived.Shelf.Small.Utf8
import Derived.Shelf.Small.Strs
import Derived.Shelf.Small.Wraps
import Derived.Shelf.Strings.BuilderF
import Derived.Shelf.Strings.Builder2Cap
import Derived.Shelf.Strconv.Itoa0
import Derived.Shelf.Strconv.Itoa1
import Derived.Shelf.LaysM
import Derived.Shelf.Strconv.Itoa2
import Derived.Shelf.Strconv.Itoa3
import Derived.Shelf.Strconv.Itoa4
import Derived.Shelf.Strings.Search1
import Derived.Shelf.Strings.Search2
import Derived.Shelf.Strings.Cut
import Derived.Shelf.Strings.Shaped
import Derived.Shelf.Strings.Prefix
import Derived.Shelf.Unicode.Decode
import Derived.Shelf.Strings.Runes
import Derived.Shelf.Strings.AsciiSet
import Derived.Shelf.Bits.Mul64
import Derived.Shelf.Strings.Repeat
import Derived.Shelf.Unicode.DecodeSlow
import Derived.Shelf.Unicode.DecodeAny
import Derived.Shelf.Unicode.DecodeLast
import Derived.Test.YtlibipbpaigmdaaGreatDoorProg
import Derived.Test.YtlibipbpaigmdaaGreatDoorNode4
import Derived.Deep.RegionHeld3
import Derived.Deep.AppendLies
import Derived.Laws.AppendOwn
import Derived.Deep.RegionLaw
import Derived.Laws.ResultCell
import Derived.Test.YtlibipbpaigmdaaGreatDoorNT2
import Derived.Test.YtlibipbpaigmdaaGreatDoorDgA
import Derived.Test.YtlibipbpaigmdaaGreatDoorId
import Derived.Test.YtlibipbpaigmdaaGreatDoorDgD
import Derived.Test.YtlibipbpaigmdaaGreatDoorDgF
import Derived.Shelf.Abstract
import Derived.Laws.BytesString
import Derived.Laws.Cells
import Derived.Test.YtlibipbpaigmdaaGreatDoorDgG
namespace Go.Proofs.YtlibipbpaigmdaaGreatDoor
open Go.RowKit
set_option linter.unusedVariables false

/-- the text of a node -/
def Nd.txt (d : Nd) : ByteArray := textR d.a d.s d.k d.key d.text d.S d.n
/-- the first k nodes, behind the head line -/
def dagT (D : Nat → Nd) (len : Nat) : Nat → ByteArray
  | 0 => lineB ⟨#[100, 97, 103]⟩ (decB len)
  | k + 1 => dagT D len k ++ ((D k).txt ++ ⟨#[10]⟩)
def dagTR (D : Nat → Nd) (len : Nat) : ByteArray := if dagB D len = true then dagT D len len else ⟨#[]⟩
theorem txt_size (d : Nd) : d.txt.size ≤ 1048576 := by
  unfold Nd.txt textR
  cases h : nodeB d.a d.s d.k d.key d.text d.S d.n with
  | false => show (ByteArray.mk #[]).size ≤ _; decide
  | true => rw [if_pos rfl]; exact (text_size h).1
theorem dagT_size (D : Nat → Nd) (len : Nat) (hl : len ≤ 30) : ∀ k, (dagT D len k).size ≤ 1000 + k * 1048577
  | 0 => by
    show (lineB _ _).size ≤ _
    rw [lineB_size]
    have := decB_size len
    have e : (ByteArray.mk #[100, 97, 103]).size = 3 := rfl
    omega
  | k + 1 => by
    show (dagT D len k ++ ((D k).txt ++ ⟨#[10]⟩)).size ≤ _
    rw [ByteArray.size_append, ByteArray.size_append]
    have h1 := dagT_size D len hl k
    have h2 := txt_size (D k)
    have e : (ByteArray.mk #[10]).size = 1 := rfl
    omega
theorem addT {a b : ByteArray} (h : a.size + b.size ≤ 2000000000) (w : World) : (Op.stringOp .add a b).run Tryz.prog w = .ok (.string (a ++ b)) w := run_string_add_sum w _ _ (by omega)

set_option maxHeartbeats 2000000 in
theorem specNodeTextD_any (a s k : Int) (key text : ByteArray) (u : Option Addr) (len cap : Nat) (S : Nat → ByteArray) (w : World) (h : IsStrs w u len cap S) (hS : ∀ i, i < len → (S i).size ≤ 9223372036854775807) (hkey : key.size ≤ 9223372036854775807) (htext : text.size ≤ 9223372036854775807) :
    Calls Tryz.prog 57 #[.agg #[.int .i64 a, .int .i64 s, .int .i64 k, .string key, .string text, .slice u len cap]] w fun e w' => e = .returned (.string (textR a s k key text S len)) ∧ Below w.heap.size w w' := by
  have HB : Hid (Below w.heap.size w (w.alloc (.cells #[.int .i64 a, .int .i64 s, .int .i64 k, .string key, .string text, .slice u len cap] 50))) := (Below.refl _ _).alloc (Nat.le_refl _) _
  have HN : Hid (NodeAt (w.alloc (.cells #[.int .i64 a, .int .i64 s, .int .i64 k, .string key, .string text, .slice u len cap] 50)) w.heap.size a s k key text (.slice u len cap)) := NodeAt.new _ _ _ _ _ _ _ _
  have HI : Hid (IsStrs (w.alloc (.cells #[.int .i64 a, .int .i64 s, .int .i64 k, .string key, .string text, .slice u len cap] 50)) u len cap S) := h.below ((Below.refl _ _).alloc (Nat.le_refl _) _)
  have HC : Hid (Calls Tryz.prog 114 #[.agg #[.int .i64 a, .int .i64 s, .int .i64 k, .string key, .string text, .slice u len cap]] (w.alloc (.cells #[.int .i64 a, .int .i64 s, .int .i64 k, .string key, .string text, .slice u len cap] 50)) fun e w' => e = .returned (.bool (nodeB a s k key text S len)) ∧ Below (w.alloc (.cells #[.int .i64 a, .int .i64 s, .int .i64 k, .string key, .string text, .slice u len cap] 50)).heap.size (w.alloc (.cells #[.int .i64 a, .int .i64 s, .int .i64 k, .string key, .string text, .slice u len cap] 50)) w') := specNodeOk_any a s k key text u len cap S _ (h.below ((Below.refl _ _).alloc (Nat.le_refl _) _)) hS hkey htext
  clear h hS hkey htext
  cases hb : nodeB a s k key text S len with
  | false =>
    have hr : Hid (textR a s k key text S len = ⟨#[]⟩) := by show _ = _; unfold textR; rw [hb]; rfl
    go_enter Tryz.func57, Tryz.ntmps57
    go_wp2_with (go_at_call 114; refine HC.out.mono ?_; rintro e w1 ⟨rfl, hB1⟩; rw [hb])
    go_ret
    exact ⟨ret_val (by rw [hr.out]; rfl), HB.out.trans (hB1.mono HB.out.size)⟩
  | true =>
    have hr : Hid (textR a s k key text S len = upsB (headB a.toNat s.toNat k.toNat key text) S len) := by show _ = _; unfold textR; rw [if_pos hb]
    obtain ⟨⟨p1, p2⟩, ⟨p3, p4⟩, ⟨p5, p6⟩, p7, p8, p9, p10⟩ := node_right hb
    obtain ⟨na, rfl⟩ : ∃ n : Nat, a = n := ⟨a.toNat, by omega⟩
    obtain ⟨ns, rfl⟩ : ∃ n : Nat, s = n := ⟨s.toNat, by omega⟩
    obtain ⟨nk, rfl⟩ : ∃ n : Nat, k = n := ⟨k.toNat, by omega⟩
    have HT : Hid (∀ v : World, IsStrs v u len cap S → Calls Tryz.prog 125 #[.agg #[.int .i64 (na : Int), .int .i64 (ns : Int), .int .i64 (nk : Int), .string key, .string text, .slice u len cap]] v fun e w' => e = .returned (.string (upsB (headB na ns nk key text) S len)) ∧ Below v.heap.size v w') := fun v hv => l6Text_any na ns nk key text u len cap S (by omega) (by omega) (by omega) p7 p8 p9 p10 v hv
    clear p1 p2 p3 p4 p5 p6 p7 p8 p9 p10
    go_enter Tryz.func57, Tryz.ntmps57
    go_wp2_with (go_at_call 114; refine HC.out.mono ?_; rintro e w1 ⟨rfl, hB1⟩; rw [hb]; obtain ⟨c0, c1, c2, c3, c4, c5⟩ := HN.out.below hB1)
    go_wp2_with (go_at_call 125; refine (HT.out w1 (HI.out.below hB1)).mono ?_; rintro e w2 ⟨rfl, hB2⟩)
    go_ret
    have b1 := HB.out.trans (hB1.mono HB.out.size)
    exact ⟨ret_val (by rw [hr.out]; rfl), b1.trans (hB2.mono b1.size)⟩
end Go.Proofs.YtlibipbpaigmdaaGreatDoor

namespace Go.Proofs.YtlibipbpaigmdaaGreatDoor
open Go.RowKit
set_option linter.unusedVariables false

def digB (b : Int) : Bool := decide (48 ≤ b) && decide (b ≤ 57)
theorem digB_true {b : Int} (h : 48 ≤ b ∧ b ≤ 57) : digB b = true := by simp [digB, h.1, h.2]
theorem digB_false {b : Int} (h : ¬ (48 ≤ b ∧ b ≤ 57)) : digB b = false := by
  have : ¬ (digB b = true) := by simp [digB]; omega
  simpa using this
theorem digB_iff {b : Int} : digB b = true ↔ 48 ≤ b ∧ b ≤ 57 := by simp [digB]

theorem isDigit_any (b : Int) (w : World) : Calls Tryz.prog 198 #[.int .u8 b] w fun e w' => e = .returned (.bool (digB b)) ∧ w' = w := by
  by_cases h1 : 48 ≤ b
  · by_cases h2 : b ≤ 57
    · have hr : Hid (digB b = true) := digB_true ⟨h1, h2⟩
      go_enter Tryz.func198, Tryz.ntmps198
      go_wp2
      go_ret
      exact ⟨ret_bool hr.out.symm, rfl⟩
    · have hr : Hid (digB b = false) := digB_false (by omega)
      go_enter Tryz.func198, Tryz.ntmps198
      go_wp2
      go_ret
      exact ⟨ret_bool hr.out.symm, rfl⟩
  · have hr : Hid (digB b = false) := digB_false (by omega)
    go_enter Tryz.func198, Tryz.ntmps198
    go_wp2
    go_ret
    exact ⟨ret_bool hr.out.symm, rfl⟩

/-- the number of the first k bytes from place i on, all digits -/
def numD (s : ByteArray) (i : Nat) : Nat → Int
  | 0 => 0
  | k + 1 => 10 * numD s i k + (bt s (i + k) - 48)
def digsB (s : ByteArray) (i k : Nat) : Bool := (List.range k).all fun j => digB (bt s (i + j))

theorem digsB_succ (s : ByteArray) (i k : Nat) : digsB s i (k + 1) = (digsB s i k && digB (bt s (i + k))) := by
  unfold digsB
  rw [List.range_succ, List.all_append]
  simp
theorem digsB_false {s : ByteArray} {i k j : Nat} (hj : j < k) (h : digB (bt s (i + j)) = false) : digsB s i k = false := by
  have : ¬ (digsB s i k = true) := by
    unfold digsB
    rw [List.all_eq_true]
    intro h'
    have := h' j (List.mem_range.2 hj)
    rw [h] at this
    cases this
  simpa using this
theorem numOf_bound {s : ByteArray} {i : Nat} : ∀ k, digsB s i k = true → 0 ≤ numD s i k ∧ numD s i k < 10 ^ k
  | 0, _ => by simp [numD]
  | k + 1, h => by
    rw [digsB_succ, Bool.and_eq_true] at h
    have ih := numOf_bound k h.1
    have hd := digB_iff.1 h.2
    have e : (10 : Int) ^ (k + 1) = 10 * 10 ^ k := by rw [Int.pow_succ]; omega
    unfold numD
    rw [e]
    omega
theorem numOf_ten {s : ByteArray} {i k : Nat} (hk : k ≤ 10) (h : digsB s i k = true) : 0 ≤ numD s i k ∧ numD s i k ≤ 9999999999 := by
  have hb := numOf_bound k h
  have hall : ∀ k, k ≤ 10 → (10 : Int) ^ k ≤ 10 ^ 10 := by decide
  have := hall k hk
  have e10 : (10 : Int) ^ 10 = 10000000000 := by decide
  omega

/-- what readDecimal answers -/
def rdec (t : ByteArray) : Int × Bool :=
  if t.size < 1 ∨ 10 < t.size ∨ (1 < t.size ∧ bt t 0 = 48) then (0, false)
  else if digsB t 0 t.size = true then (numD t 0 t.size, true) else (0, false)

theorem rdec_no {t : ByteArray} (h : t.size < 1 ∨ 10 < t.size ∨ (1 < t.size ∧ bt t 0 = 48)) : rdec t = (0, false) := by unfold rdec; rw [if_pos h]
theorem rdec_bad {t : ByteArray} (h : digsB t 0 t.size = false) : rdec t = (0, false) := by
  unfold rdec; rw [h]; split <;> rfl
theorem rdec_yes {t : ByteArray} (h : ¬ (t.size < 1 ∨ 10 < t.size ∨ (1 < t.size ∧ bt t 0 = 48))) (h2 : digsB t 0 t.size = true) : rdec t = (numD t 0 t.size, true) := by
  unfold rdec; rw [if_neg h, if_pos h2]

theorem retv {a b : Value} (h : a = b) : Ending.returned a = .returned b := by rw [h]

set_option maxHeartbeats 1000000 in
theorem readDecimal_any (t : ByteArray) (w : World) (ht : t.size ≤ 1048576) :
    Calls Tryz.prog 170 #[.string t] w fun e w' => e = .returned (.tuple #[.int .i64 (rdec t).1, .bool (rdec t).2]) ∧ w' = w := by
  by_cases h1 : (t.size : Int) < 1
  · have hr : Hid (rdec t = (0, false)) := rdec_no (by omega)
    go_enter Tryz.func170, Tryz.ntmps170
    go_wp2
    go_ret2
    exact ⟨retv (by rw [hr.out]; rfl), rfl⟩
  by_cases h2 : (10 : Int) < (t.size : Int)
  · have hr : Hid (rdec t = (0, false)) := rdec_no (by omega)
    go_enter Tryz.func170, Tryz.ntmps170
    go_wp2
    go_ret2
    exact ⟨retv (by rw [hr.out]; rfl), rfl⟩
  have hp : 0 < t.size := by omega
  have hb0 := bt_in hp
  have h1' : (1 : Int) ≤ (t.size : Int) := by omega
  have h2' : (t.size : Int) ≤ 10 := by omega
  by_cases h3 : (1 : Int) < (t.size : Int) ∧ bt t 0 = 48
  · have hr : Hid (rdec t = (0, false)) := rdec_no (by omega)
    have h3a := h3.1
    have h3b : (bt t 0 == 48) = true := by simpa using h3.2
    clear h3 h1 h2
    go_enter Tryz.func170, Tryz.ntmps170
    go_wp2
    go_ret2
    exact ⟨retv (by rw [hr.out]; rfl), rfl⟩
  have hno : Hid (¬ (t.size < 1 ∨ 10 < t.size ∨ (1 < t.size ∧ bt t 0 = 48))) := by
    show ¬ _
    intro h
    omega
  clear h1 h2
  by_cases h4 : (1 : Int) < (t.size : Int)
  · have h5 : (bt t 0 == 48) = false := by
      have : ¬ bt t 0 = 48 := fun h => h3 ⟨h4, h⟩
      simpa using this
    clear h3
    go_enter Tryz.func170, Tryz.ntmps170
    go_wp2
    go_loop [4, 5, 26] (fun n _ c => ∃ j : Nat, j ≤ t.size ∧ c = .int .i64 j ∧ n = .int .i64 (numD t 0 j) ∧ Hid (digsB t 0 j = true)) (fun _ _ c => t.size - (intOf c).toNat)
    case atStart => exact ⟨0, Nat.zero_le _, rfl, rfl, rfl⟩
    case round =>
      obtain ⟨j, hj, rfl, rfl, hds⟩ := hrel
      have hnb := numOf_ten (by omega) hds.out
      by_cases hlt : j < t.size
      · have hbj := bt_in hlt
        have hrg := bt_range hlt
        by_cases hdg : digB (bt t j) = true
        · have hd2 := digB_iff.1 hdg
          have hds' : Hid (digsB t 0 (j + 1) = true) := by
            show _ = _
            rw [digsB_succ, hds.out, Nat.zero_add, hdg]; rfl
          have hnum : Hid (numD t 0 (j + 1) = 10 * numD t 0 j + (bt t j - 48)) := by
            show _ = _
            rw [show numD t 0 (j + 1) = 10 * numD t 0 j + (bt t (0 + j) - 48) from rfl, Nat.zero_add]
          go_wp2_with (go_at_call 198; refine (isDigit_any _ _).mono ?_; rintro e w' ⟨rfl, rfl⟩; rw [hdg])
          go_round
          case rel => exact ⟨j + 1, by omega, by go_num, by rw [hnum.out], hds'⟩
          case measure => simp [intOf]; omega
        · have hdg : digB (bt t j) = false := by simpa using hdg
          have hr : Hid (rdec t = (0, false)) := rdec_bad (digsB_false hlt (by rw [Nat.zero_add]; exact hdg))
          go_wp2_with (go_at_call 198; refine (isDigit_any _ _).mono ?_; rintro e w' ⟨rfl, rfl⟩; rw [hdg])
          go_ret2
          exact ⟨retv (by rw [hr.out]; rfl), rfl⟩
      · have hje : j = t.size := by omega
        subst hje
        have hr : Hid (rdec t = (numD t 0 t.size, true)) := rdec_yes hno.out hds.out
        go_wp2
        go_ret2
        exact ⟨retv (by rw [hr.out]; rfl), rfl⟩
  · clear h3
    go_enter Tryz.func170, Tryz.ntmps170
    go_wp2
    go_loop [4, 5, 26] (fun n _ c => ∃ j : Nat, j ≤ t.size ∧ c = .int .i64 j ∧ n = .int .i64 (numD t 0 j) ∧ Hid (digsB t 0 j = true)) (fun _ _ c => t.size - (intOf c).toNat)
    case atStart => exact ⟨0, Nat.zero_le _, rfl, rfl, rfl⟩
    case round =>
      obtain ⟨j, hj, rfl, rfl, hds⟩ := hrel
      have hnb := numOf_ten (by omega) hds.out
      by_cases hlt : j < t.size
      · have hbj := bt_in hlt
        have hrg := bt_range hlt
        by_cases hdg : digB (bt t j) = true
        · have hd2 := digB_iff.1 hdg
          have hds' : Hid (digsB t 0 (j + 1) = true) := by
            show _ = _
            rw [digsB_succ, hds.out, Nat.zero_add, hdg]; rfl
          have hnum : Hid (numD t 0 (j + 1) = 10 * numD t 0 j + (bt t j - 48)) := by
            show _ = _
            rw [show numD t 0 (j + 1) = 10 * numD t 0 j + (bt t (0 + j) - 48) from rfl, Nat.zero_add]
          go_wp2_with (go_at_call 198; refine (isDigit_any _ _).mono ?_; rintro e w' ⟨rfl, rfl⟩; rw [hdg])
          go_round
          case rel => exact ⟨j + 1, by omega, by go_num, by rw [hnum.out], hds'⟩
          case measure => simp [intOf]; omega
        · have hdg : digB (bt t j) = false := by simpa using hdg
          have hr : Hid (rdec t = (0, false)) := rdec_bad (digsB_false hlt (by rw [Nat.zero_add]; exact hdg))
          go_wp2_with (go_at_call 198; refine (isDigit_any _ _).mono ?_; rintro e w' ⟨rfl, rfl⟩; rw [hdg])
          go_ret2
          exact ⟨retv (by rw [hr.out]; rfl), rfl⟩
      · have hje : j = t.size := by omega
        subst hje
        have hr : Hid (rdec t = (numD t 0 t.size, true)) := rdec_yes hno.out hds.out
        go_wp2
        go_ret2
        exact ⟨retv (by rw [hr.out]; rfl), rfl⟩


set_option maxHeartbeats 1000000 in
theorem l1Int_any (t : ByteArray) (w : World) (ht : t.size ≤ 1048576) :
    Calls Tryz.prog 134 #[.string t] w fun e w' => e = .returned (.tuple #[.int .i64 (rdec t).1, .bool (rdec t).2]) ∧ w' = w := by
  by_cases h1 : (t.size : Int) < 1
  · have hr : Hid (rdec t = (0, false)) := rdec_no (by omega)
    go_enter Tryz.func134, Tryz.ntmps134
    go_wp2
    go_ret2
    exact ⟨retv (by rw [hr.out]; rfl), rfl⟩
  by_cases h2 : (10 : Int) < (t.size : Int)
  · have hr : Hid (rdec t = (0, false)) := rdec_no (by omega)
    go_enter Tryz.func134, Tryz.ntmps134
    go_wp2
    go_ret2
    exact ⟨retv (by rw [hr.out]; rfl), rfl⟩
  have hp : 0 < t.size := by omega
  have hb0 := bt_in hp
  have h1' : (1 : Int) ≤ (t.size : Int) := by omega
  have h2' : (t.size : Int) ≤ 10 := by omega
  by_cases h3 : (1 : Int) < (t.size : Int) ∧ bt t 0 = 48
  · have hr : Hid (rdec t = (0, false)) := rdec_no (by omega)
    have h3a := h3.1
    have h3b : (bt t 0 == 48) = true := by simpa using h3.2
    clear h3 h1 h2
    go_enter Tryz.func134, Tryz.ntmps134
    go_wp2
    go_ret2
    exact ⟨retv (by rw [hr.out]; rfl), rfl⟩
  have hno : Hid (¬ (t.size < 1 ∨ 10 < t.size ∨ (1 < t.size ∧ bt t 0 = 48))) := by
    show ¬ _
    intro h
    omega
  clear h1 h2
  by_cases h5 : bt t 0 = 48
  · have h5b : (bt t 0 == 48) = true := by simpa using h5
    have h4 : (t.size : Int) ≤ 1 := by omega
    have h4d : decide ((1 : Int) < (t.size : Int)) = false := by simp; omega
    clear h3 h5
    go_enter Tryz.func134, Tryz.ntmps134
    go_wp2
    go_loop [4, 5] (fun n c => ∃ j : Nat, j ≤ t.size ∧ c = .int .i64 j ∧ n = .int .i64 (numD t 0 j) ∧ Hid (digsB t 0 j = true)) (fun _ c => t.size - (intOf c).toNat)
    case atStart => exact ⟨0, Nat.zero_le _, rfl, rfl, rfl⟩
    case round =>
      obtain ⟨j, hj, rfl, rfl, hds⟩ := hrel
      have hnb := numOf_ten (by omega) hds.out
      by_cases hlt : j < t.size
      · have hbj := bt_in hlt
        have hrg := bt_range hlt
        by_cases hlo : bt t j < 48
        · have hr : Hid (rdec t = (0, false)) := rdec_bad (digsB_false hlt (by rw [Nat.zero_add]; exact digB_false (by omega)))
          go_wp2
          go_ret2
          exact ⟨retv (by rw [hr.out]; rfl), rfl⟩
        · have hlo' : 48 ≤ bt t j := by omega
          have hlod : decide (bt t j < 48) = false := by simpa using hlo'
          clear hlo
          by_cases hhi : 57 < bt t j
          · have hr : Hid (rdec t = (0, false)) := rdec_bad (digsB_false hlt (by rw [Nat.zero_add]; exact digB_false (by omega)))
            go_wp2
            go_ret2
            exact ⟨retv (by rw [hr.out]; rfl), rfl⟩
          · have hhi' : bt t j ≤ 57 := by omega
            clear hhi
            have hds' : Hid (digsB t 0 (j + 1) = true) := by
              show _ = _
              rw [digsB_succ, hds.out, Nat.zero_add, digB_true ⟨hlo', hhi'⟩]; rfl
            have hnum : Hid (numD t 0 (j + 1) = numD t 0 j * 10 + (bt t j - 48)) := by
              show _ = _
              rw [show numD t 0 (j + 1) = 10 * numD t 0 j + (bt t (0 + j) - 48) from rfl, Nat.zero_add]
              omega
            go_wp2
            go_round
            case rel => exact ⟨j + 1, by omega, by go_num, by rw [hnum.out], hds'⟩
            case measure => simp [intOf]; omega
      · have hje : j = t.size := by omega
        subst hje
        have hr : Hid (rdec t = (numD t 0 t.size, true)) := rdec_yes hno.out hds.out
        go_wp2
        go_ret2
        exact ⟨retv (by rw [hr.out]; rfl), rfl⟩
  · have h5b : (bt t 0 == 48) = false := by simpa using h5
    clear h3 h5
    go_enter Tryz.func134, Tryz.ntmps134
    go_wp2
    go_loop [4, 5] (fun n c => ∃ j : Nat, j ≤ t.size ∧ c = .int .i64 j ∧ n = .int .i64 (numD t 0 j) ∧ Hid (digsB t 0 j = true)) (fun _ c => t.size - (intOf c).toNat)
    case atStart => exact ⟨0, Nat.zero_le _, rfl, rfl, rfl⟩
    case round =>
      obtain ⟨j, hj, rfl, rfl, hds⟩ := hrel
      have hnb := numOf_ten (by omega) hds.out
      by_cases hlt : j < t.size
      · have hbj := bt_in hlt
        have hrg := bt_range hlt
        by_cases hlo : bt t j < 48
        · have hr : Hid (rdec t = (0, false)) := rdec_bad (digsB_false hlt (by rw [Nat.zero_add]; exact digB_false (by omega)))
          go_wp2
          go_ret2
          exact ⟨retv (by rw [hr.out]; rfl), rfl⟩
        · have hlo' : 48 ≤ bt t j := by omega
          have hlod : decide (bt t j < 48) = false := by simpa using hlo'
          clear hlo
          by_cases hhi : 57 < bt t j
          · have hr : Hid (rdec t = (0, false)) := rdec_bad (digsB_false hlt (by rw [Nat.zero_add]; exact digB_false (by omega)))
            go_wp2
            go_ret2
            exact ⟨retv (by rw [hr.out]; rfl), rfl⟩
          · have hhi' : bt t j ≤ 57 := by omega
            clear hhi
            have hds' : Hid (digsB t 0 (j + 1) = true) := by
              show _ = _
              rw [digsB_succ, hds.out, Nat.zero_add, digB_true ⟨hlo', hhi'⟩]; rfl
            have hnum : Hid (numD t 0 (j + 1) = numD t 0 j * 10 + (bt t j - 48)) := by
              show _ = _
              rw [show numD t 0 (j + 1) = 10 * numD t 0 j + (bt t (0 + j) - 48) from rfl, Nat.zero_add]
              omega
            go_wp2
            go_round
            case rel => exact ⟨j + 1, by omega, by go_num, by rw [hnum.out], hds'⟩
            case measure => simp [intOf]; omega
      · have hje : j = t.size := by omega
        subst hje
        have hr : Hid (rdec t = (numD t 0 t.size, true)) := rdec_yes hno.out hds.out
        go_wp2
        go_ret2
        exact ⟨retv (by rw [hr.out]; rfl), rfl⟩

end Go.Proofs.YtlibipbpaigmdaaGreatDoor

namespace Go.Proofs.YtlibipbpaigmdaaGreatDoor
open Go.RowKit
set_option linter.unusedVariables false

/-- i is the first place of c in s, or its end -/
structure FirstAt (s : ByteArray) (c : Int) (i : Nat) : Prop where
  le : i ≤ s.size
  no : ∀ j, j < i → bt s j ≠ c
  yes : i < s.size → bt s i = c

/-- what l1Cut answers, where the first place is i -/
def cutV (s : ByteArray) (i : Nat) : Value :=
  if i < s.size then .tuple #[.string (s.extract 0 i), .string (s.extract (i + 1) s.size), .bool true] else .tuple #[.string s, .string ⟨#[]⟩, .bool false]

set_option maxHeartbeats 1000000 in
theorem l1Cut_any (s : ByteArray) (c : Int) (w : World) (hs : s.size ≤ 1048576) :
    Calls Tryz.prog 133 #[.string s, .int .u8 c] w fun e w' => ∃ i, FirstAt s c i ∧ e = .returned (cutV s i) ∧ ∃ n, w' = w.drewN n := by
  go_enter Tryz.func133, Tryz.ntmps133
  go_wp2
  go_loop [7] (fun i => ∃ (k : Nat), k ≤ s.size ∧ i = .int .i64 k ∧ Hid (∀ j, j < k → bt s j ≠ c)) (fun i => s.size - (intOf i).toNat)
  case atStart => exact ⟨0, Nat.zero_le _, rfl, fun j hj => absurd hj (Nat.not_lt_zero _)⟩
  case round =>
    obtain ⟨k, hk, rfl, HR⟩ := hrel
    by_cases hlt : k < s.size
    · have hbk := bt_in hlt
      have hltI : (k : Int) < (s.size : Int) := by omega
      by_cases hq : bt s k = c
      · have hqb : (bt s k == c) = true := by simpa using hq
        have hF : Hid (FirstAt s c k) := ⟨hk, HR.out, fun _ => hq⟩
        have hv : Hid (cutV s k = .tuple #[.string (s.extract 0 k), .string (s.extract (k + 1) s.size), .bool true]) := by show _ = _; unfold cutV; rw [if_pos hlt]
        clear hq
        have hk1 : ((k + 1 : Nat) : Int) ≤ (s.size : Int) := by omega
        go_wp2
        go_region
        all_goals
          go_wp2
          go_ret3
          exact ⟨k, hF.out, ret_val (by rw [hv.out]; rfl), 1, rfl⟩
      · have hqb : (bt s k == c) = false := by simpa using hq
        have HR' : Hid (∀ j, j < k + 1 → bt s j ≠ c) := by
          intro j hj
          rcases Nat.lt_succ_iff_lt_or_eq.1 hj with h1 | rfl
          · exact HR.out j h1
          · exact hq
        clear hq
        go_wp2
        go_round
        case rel => exact ⟨k + 1, by omega, by go_num, HR'⟩
        case measure => simp [intOf]; omega
    · have hke : k = s.size := by omega
      have hF : Hid (FirstAt s c k) := ⟨hk, HR.out, fun h => absurd h hlt⟩
      have hv : Hid (cutV s k = .tuple #[.string s, .string ⟨#[]⟩, .bool false]) := by show _ = _; unfold cutV; rw [if_neg hlt]
      go_wp2
      go_ret3
      exact ⟨k, hF.out, ret_val (by rw [hv.out]; rfl), 0, rfl⟩
end Go.Proofs.YtlibipbpaigmdaaGreatDoor

namespace Go.Proofs
open Go.Shelf
def Tryz.lays103_ren : Go.Shelf.Ren := ⟨fun | 103 => 172 | 210 => 200 | 206 => 234 | n => n, fun | 9 => 9 | 4 => 4 | 24 => 71 | 3 => 3 | n => n, fun | n => n⟩
theorem Tryz.lays103 : Go.Proofs.Lays.n103 Tryz.prog Tryz.lays103_ren := {
  mixed := by kernel_rfl
  f103 := Tryz.func172.trans (congrArg some (by kernel_rfl))
  f206 := Tryz.func234.trans (congrArg some (by kernel_rfl))
  f210 := Tryz.func200.trans (congrArg some (by kernel_rfl))
  t3 := Tryz.underlying3
  a3 := Tryz.isAgg3
  z3 := Tryz.sizeOf3
  v3 := Tryz.zeroValue3
  t4 := Tryz.underlying4
  a4 := Tryz.isAgg4
  z4 := Tryz.sizeOf4
  v4 := Tryz.zeroValue4
  t9 := Tryz.underlying9
  a9 := Tryz.isAgg9
  z9 := Tryz.sizeOf9
  v9 := Tryz.zeroValue9
  t24 := Tryz.underlying71
  a24 := Tryz.isAgg71
  z24 := Tryz.sizeOf71
  v24 := Tryz.zeroValue71 }
open Go.RowKit in
theorem Tryz.strings_CutPrefix (s p : ByteArray) (w : World) :
    Calls Tryz.prog 172 #[.string s, .string p] w fun e w' => e = .returned (.tuple #[.string ⟨(Lib.trimPrefix s.data.toList p.data.toList).toArray⟩, .bool (Lib.hasPrefix s.data.toList p.data.toList)]) ∧ w' = w := Any.strings_CutPrefix Tryz.lays103 s p w
def Tryz.lays145_ren : Go.Shelf.Ren := ⟨fun | 145 => 171 | 220 => 199 | 219 => 233 | 217 => 252 | 225 => 253 | 224 => 254 | 267 => 255 | 266 => 276 | 314 => 277 | n => n, fun | 9 => 9 | 4 => 4 | 59 => 102 | 3 => 3 | 5 => 5 | 46 => 127 | 146 => 255 | 51 => 172 | n => n, fun | 1 => 3 | n => n⟩
theorem Tryz.lays145 : Go.Proofs.Lays.n145 Tryz.prog Tryz.lays145_ren := {
  mixed := by kernel_rfl
  f145 := Tryz.func171.trans (congrArg some (by kernel_rfl))
  f217 := Tryz.func252.trans (congrArg some (by kernel_rfl))
  f219 := Tryz.func233.trans (congrArg some (by kernel_rfl))
  f220 := Tryz.func199.trans (congrArg some (by kernel_rfl))
  f224 := Tryz.func254.trans (congrArg some (by kernel_rfl))
  f225 := Tryz.func253.trans (congrArg some (by kernel_rfl))
  f266 := Tryz.func276.trans (congrArg some (by kernel_rfl))
  f267 := Tryz.func255.trans (congrArg some (by kernel_rfl))
  f314 := Tryz.func277.trans (congrArg some (by kernel_rfl))
  t3 := Tryz.underlying3
  a3 := Tryz.isAgg3
  z3 := Tryz.sizeOf3
  v3 := Tryz.zeroValue3
  t4 := Tryz.underlying4
  a4 := Tryz.isAgg4
  z4 := Tryz.sizeOf4
  v4 := Tryz.zeroValue4
  t5 := Tryz.underlying5
  a5 := Tryz.isAgg5
  z5 := Tryz.sizeOf5
  v5 := Tryz.zeroValue5
  t9 := Tryz.underlying9
  a9 := Tryz.isAgg9
  z9 := Tryz.sizeOf9
  v9 := Tryz.zeroValue9
  t46 := Tryz.underlying127
  a46 := Tryz.isAgg127
  z46 := Tryz.sizeOf127
  v46 := Tryz.zeroValue127
  t51 := Tryz.underlying172
  a51 := Tryz.isAgg172
  z51 := Tryz.sizeOf172
  v51 := Tryz.zeroValue172
  t59 := Tryz.underlying102
  a59 := Tryz.isAgg102
  z59 := Tryz.sizeOf102
  v59 := Tryz.zeroValue102
  t146 := Tryz.underlying255
  a146 := Tryz.isAgg255
  z146 := Tryz.sizeOf255
  v146 := Tryz.zeroValue255
  g1 := by kernel_rfl }
open Go.RowKit Go.Lib in
theorem Tryz.strings_Cut (s sep : ByteArray) (m : Int) (w : World) (hs : s.size < 4294967281) (hm : w.cell? ⟨3, 0, none⟩ = some (.int .i64 m)) :
    Calls Tryz.prog 171 #[.string s, .string sep] w fun e w' => e = .returned (.tuple #[.string ⟨(Lib.cut s.data.toList sep.data.toList).1.toArray⟩, .string ⟨(Lib.cut s.data.toList sep.data.toList).2.1.toArray⟩, .bool (Lib.cut s.data.toList sep.data.toList).2.2]) ∧ ∃ n, w' = w.drewN n := Any.strings_Cut Tryz.lays145 s sep m w hs hm
end Go.Proofs

namespace Go.Proofs.YtlibipbpaigmdaaGreatDoor
open Go.RowKit
set_option linter.unusedVariables false

/-- bytes as a text -/
def bs (l : List UInt8) : ByteArray := ⟨l.toArray⟩
theorem bs_list (l : List UInt8) : (bs l).data.toList = l := by simp [bs]
theorem bs_data (s : ByteArray) : bs s.data.toList = s := by simp [bs]
theorem bs_size (l : List UInt8) : (bs l).size = l.length := by show l.toArray.size = _; simp

/-- a reader of lines lies at block B: what is left, and whether it has failed -/
structure Rd (w : World) (B : Nat) (r : ByteArray) (f : Bool) : Prop where
  c0 : w.cell? ⟨B, 0, none⟩ = some (.string r)
  c1 : w.cell? ⟨B, 1, none⟩ = some (.bool f)
  z0 : w.frozen? ⟨B, 0, none⟩ = false
  z1 : w.frozen? ⟨B, 1, none⟩ = false

/-- the first line, what is left, whether it was ended -/
def cutN (r : ByteArray) : List UInt8 × List UInt8 × Bool := Lib.cut r.data.toList [10]
/-- what value answers -/
def valV (r word : ByteArray) : ByteArray := bs (Lib.trimPrefix (cutN r).1 (word.data.toList ++ [32]))
def valN (r word : ByteArray) : Bool := Lib.hasPrefix (cutN r).1 (word.data.toList ++ [32])
/-- has it failed behind a value -/
def valF (r word : ByteArray) (f : Bool) : Bool := f || !(cutN r).2.2 || !(valN r word)

theorem word_sp (word : ByteArray) : (word ++ ⟨#[32]⟩).data.toList = word.data.toList ++ [32] := by simp

theorem Rd.set1 {w : World} {B : Nat} {r : ByteArray} {f : Bool} (h : Rd w B r f) (g : Bool) : Rd (w.setCell ⟨B, 1, none⟩ (.bool g)) B r g :=
  ⟨by rw [World.cell?_setCell_other _ _ _ _ (by simp)]; exact h.c0, World.cell?_setCell_same _ _ _ h.c1, by rw [World.frozen?_setCell]; exact h.z0, by rw [World.frozen?_setCell]; exact h.z1⟩
theorem Rd.set0 {w : World} {B : Nat} {r : ByteArray} {f : Bool} (h : Rd w B r f) (x : ByteArray) : Rd (w.setCell ⟨B, 0, none⟩ (.string x)) B x f :=
  ⟨World.cell?_setCell_same _ _ _ h.c0, by rw [World.cell?_setCell_other _ _ _ _ (by simp)]; exact h.c1, by rw [World.frozen?_setCell]; exact h.z0, by rw [World.frozen?_setCell]; exact h.z1⟩
theorem grown_set {w w' : World} {B : Nat} (h : w.grownBy w' (some B)) (o : Nat) (v : Value) : w.grownBy (w'.setCell ⟨B, o, none⟩ v) (some B) :=
  ⟨h.os, h.tape, h.output, by simpa [World.setCell] using h.size, fun k hk hne => (Below.heap_setCell _ _ _ _ (fun e => hne (by rw [e]))).trans (h.block k hk hne)⟩
theorem grown_drewN (w : World) (n : Nat) (row : Option Nat) : w.grownBy (w.drewN n) row := ⟨rfl, rfl, rfl, Nat.le_refl _, fun _ _ _ => rfl⟩

set_option maxHeartbeats 1000000 in
theorem value_any (B : Nat) (r word : ByteArray) (f : Bool) (m : Int) (w : World) (hr : r.size ≤ 1048576) (hw : word.size ≤ 1000) (h : Rd w B r f) (hm : w.cell? ⟨3, 0, none⟩ = some (.int .i64 m)) :
    Calls Tryz.prog 124 #[.pointer (some ⟨B, 0, none⟩), .string word] w fun e w' => e = .returned (.string (valV r word)) ∧ Rd w' B (bs (cutN r).2.1) (valF r word f) ∧ w.grownBy w' (some B) := by
  obtain ⟨c0, c1, z0, z1⟩ := h
  have s1 : (ByteArray.mk #[32]).size = 1 := rfl
  have a1 := add_ok (a := word) (b := ⟨#[32]⟩) (by omega)
  clear s1
  have HC : Hid (Calls Tryz.prog 171 #[.string r, .string ⟨#[10]⟩] w fun e w' => e = .returned (.tuple #[.string (bs (cutN r).1), .string (bs (cutN r).2.1), .bool (cutN r).2.2]) ∧ ∃ n, w' = w.drewN n) := Tryz.strings_Cut r ⟨#[10]⟩ m w (by omega) hm
  have HP : Hid (∀ v : World, Calls Tryz.prog 172 #[.string (bs (cutN r).1), .string (word ++ ⟨#[32]⟩)] v fun e w' => e = .returned (.tuple #[.string (valV r word), .bool (valN r word)]) ∧ w' = v) := fun v => by
    have := Tryz.strings_CutPrefix (bs (cutN r).1) (word ++ ⟨#[32]⟩) v
    rw [bs_list, word_sp] at this
    exact this
  have HF : Hid (valF r word f = (f || !(cutN r).2.2 || !(valN r word))) := rfl
  generalize valF r word f = ff at *
  generalize hen : (cutN r).2.2 = en at *
  generalize hnm : valN r word = nm at *
  clear hen hnm
  go_enter Tryz.func124, Tryz.ntmps124
  cases f <;> cases en <;> cases nm <;>
  · go_wp2_with (first
      | (go_at_call 171; refine HC.out.mono ?_; rintro e w1 ⟨rfl, n, hw1⟩; rw [hw1]; clear hw1 w1)
      | (go_at_call 172; refine (HP.out _).mono ?_; rintro e w2 ⟨rfl, hw2⟩; rw [hw2]; clear hw2 w2))
    go_ret
    have hff := HF.out
    subst hff
    have hR : Rd (w.drewN n) B r _ := ⟨c0, c1, z0, z1⟩
    exact ⟨rfl, (hR.set0 _).set1 _, grown_set (grown_set (grown_drewN w n _) _ _) _ _⟩

/-- has it failed behind a number -/
def numF (r word : ByteArray) (f : Bool) : Bool := valF r word f || !(rdec (valV r word)).2

theorem valV_size (r word : ByteArray) : (valV r word).size ≤ r.size := by
  have h1 : (cutN r).1.length ≤ r.size := by
    unfold cutN Lib.cut
    split
    · simp only [List.length_take]
      rw [Lib.size_eq]
      omega
    · rw [Lib.size_eq]
      exact Nat.le_refl _
  unfold valV Lib.trimPrefix
  rw [bs_size]
  split
  · rw [List.length_drop]
    omega
  · exact h1

set_option maxHeartbeats 1000000 in
theorem number_any (B : Nat) (r word : ByteArray) (f : Bool) (m : Int) (w : World) (hr : r.size ≤ 1048576) (hw : word.size ≤ 1000) (h : Rd w B r f) (hm : w.cell? ⟨3, 0, none⟩ = some (.int .i64 m)) :
    Calls Tryz.prog 123 #[.pointer (some ⟨B, 0, none⟩), .string word] w fun e w' => e = .returned (.int .i64 (rdec (valV r word)).1) ∧ Rd w' B (bs (cutN r).2.1) (numF r word f) ∧ w.grownBy w' (some B) := by
  have hv := valV_size r word
  have HV : Hid (Calls Tryz.prog 124 #[.pointer (some ⟨B, 0, none⟩), .string word] w fun e w' => e = .returned (.string (valV r word)) ∧ Rd w' B (bs (cutN r).2.1) (valF r word f) ∧ w.grownBy w' (some B)) := value_any B r word f m w hr hw h hm
  have HD : Hid (∀ v : World, Calls Tryz.prog 170 #[.string (valV r word)] v fun e w' => e = .returned (.tuple #[.int .i64 (rdec (valV r word)).1, .bool (rdec (valV r word)).2]) ∧ w' = v) := fun v => readDecimal_any _ v (by omega)
  have HF : Hid (numF r word f = (valF r word f || !(rdec (valV r word)).2)) := rfl
  generalize numF r word f = ff at *
  generalize valF r word f = vf at *
  generalize hok : (rdec (valV r word)).2 = ok at *
  clear hok h
  go_enter Tryz.func123, Tryz.ntmps123
  cases vf <;> cases ok <;>
  · go_wp2_with (first
      | (go_at_call 124; refine HV.out.mono ?_; rintro e w1 ⟨rfl, hR, hg⟩; obtain ⟨c0, c1, z0, z1⟩ := hR)
      | (go_at_call 170; refine (HD.out _).mono ?_; rintro e w2 ⟨rfl, hw2⟩; rw [hw2]; clear hw2 w2))
    go_ret
    have hff := HF.out
    subst hff
    have hR : Rd w1 B _ _ := ⟨c0, c1, z0, z1⟩
    exact ⟨rfl, hR.set1 _, grown_set hg _ _⟩
end Go.Proofs.YtlibipbpaigmdaaGreatDoor

namespace Go.Proofs.YtlibipbpaigmdaaGreatDoor
open Go.RowKit
set_option linter.unusedVariables false

abbrev wAuthor : ByteArray := ⟨#[97, 117, 116, 104, 111, 114]⟩
abbrev wSeq : ByteArray := ⟨#[115, 101, 113]⟩
abbrev wKind : ByteArray := ⟨#[107, 105, 110, 100]⟩
abbrev wKey : ByteArray := ⟨#[107, 101, 121]⟩
abbrev wText : ByteArray := ⟨#[116, 101, 120, 116]⟩
abbrev wUp : ByteArray := ⟨#[117, 112]⟩

/-- what is left behind a line -/
def restN (r : ByteArray) : ByteArray := bs (cutN r).2.1
theorem restN_size (r : ByteArray) : (restN r).size ≤ r.size := by
  unfold restN cutN Lib.cut
  rw [bs_size]
  split
  · simp only [List.length_drop]
    rw [Lib.size_eq]
    omega
  · simp

/-- ReadNode under way: its result's box, its reader -/
structure RS (w0 w : World) (r : ByteArray) (f : Bool) (m : Int) : Prop where
  rd : Rd w (w0.heap.size + 1) r f
  m : w.cell? ⟨3, 0, none⟩ = some (.int .i64 m)
  b : Below w0.heap.size w0 w
  z : w.heap[w0.heap.size]? = some (.cells #[.int .i64 0, .int .i64 0, .int .i64 0, .string ⟨#[]⟩, .string ⟨#[]⟩, .slice none 0 0] 50)
  lt : 3 < w0.heap.size

theorem RS.step {w0 w w' : World} {r r' : ByteArray} {f f' : Bool} {m : Int} (h : RS w0 w r f m) (hr : Rd w' (w0.heap.size + 1) r' f') (hg : w.grownBy w' (some (w0.heap.size + 1))) : RS w0 w' r' f' m :=
  ⟨hr, hg.cell h.m (by have := h.lt; simp; omega), h.b.grown hg h.b.size (fun j hj => by cases hj; omega), (hg.block _ (lt_of_block h.z) (by simp)).trans h.z, h.lt⟩
theorem RS.own {w0 w w' : World} {r : ByteArray} {f : Bool} {m : Int} {N : Nat} (h : RS w0 w r f m) (hN : w0.heap.size + 1 < N) (hg : w.grownBy w' (some N)) : RS w0 w' r f m := by
  have h3 := h.lt
  have k0 : w'.heap[w0.heap.size + 1]? = w.heap[w0.heap.size + 1]? := hg.block _ (cell_lt h.rd.c0) (by simp; omega)
  refine ⟨⟨(World.cell?_of_block k0).trans h.rd.c0, (World.cell?_of_block k0).trans h.rd.c1, (World.frozen?_of_block k0).trans h.rd.z0, (World.frozen?_of_block k0).trans h.rd.z1⟩, hg.cell h.m (by simp; omega), h.b.grown hg h.b.size (fun j hj => by cases hj; omega), (hg.block _ (lt_of_block h.z) (by simp; omega)).trans h.z, h.lt⟩
theorem RS.grown {w0 w w' : World} {r : ByteArray} {f : Bool} {m : Int} {row : Option Nat} (h : RS w0 w r f m) (hrow : ∀ k, row = some k → w0.heap.size + 1 < k) (hg : w.grownBy w' row) : RS w0 w' r f m := by
  have h3 := h.lt
  have hne : ∀ k, k ≤ w0.heap.size + 1 → some k ≠ row := fun k hk e => by have := hrow k e.symm; omega
  have k0 : w'.heap[w0.heap.size + 1]? = w.heap[w0.heap.size + 1]? := hg.block _ (cell_lt h.rd.c0) (hne _ (Nat.le_refl _))
  exact ⟨⟨(World.cell?_of_block k0).trans h.rd.c0, (World.cell?_of_block k0).trans h.rd.c1, (World.frozen?_of_block k0).trans h.rd.z0, (World.frozen?_of_block k0).trans h.rd.z1⟩, hg.cell h.m (hne 3 (by omega)), h.b.grown hg h.b.size (fun j hj => by have := hrow j hj; omega), (hg.block _ (lt_of_block h.z) (hne _ (by omega))).trans h.z, h.lt⟩
theorem RS.drew {w0 w : World} {r : ByteArray} {f : Bool} {m : Int} (h : RS w0 w r f m) : RS w0 w.drew r f m := ⟨⟨h.rd.c0, h.rd.c1, h.rd.z0, h.rd.z1⟩, h.m, h.b.drew, h.z, h.lt⟩
theorem own_kept {w w' : World} {base e size : Nat} {v : Value} {n : Nat} {xs : List Value} {row : Option Nat} (h : w.ownsRow base e size v n xs) (hg : w.grownBy w' row) (hr : ∀ k, row = some k → k < base) : w'.ownsRow base e size v n xs :=
  h.kept hg (by
    cases hv : v.ownBlock with
    | none => exact .inl rfl
    | some k => exact .inr (fun e => by have := (h.lt k hv).1; have := hr k e.symm; omega))
/-- how much the reader has left -/
def rdLen (w : World) (B : Nat) : Nat := match w.cell? ⟨B, 0, none⟩ with | some (.string r) => r.size | _ => 0
theorem rdLen_eq {w : World} {B : Nat} {r : ByteArray} {f : Bool} (h : Rd w B r f) : rdLen w B = r.size := by unfold rdLen; rw [h.c0]
theorem info9' : (Tryz.prog.info? 9).map (fun i => (i.zero, i.size, i.bytes)) = some (some (.string ⟨#[]⟩), 1, 16) := by kernel_rfl
theorem RS.alloc {w0 w : World} {r : ByteArray} {f : Bool} {m : Int} (h : RS w0 w r f m) (o : Obj) : RS w0 (w.alloc o) r f m := by
  have h3 := h.lt
  have hg := World.grownBy_alloc w o none
  have k0 : (w.alloc o).heap[w0.heap.size + 1]? = w.heap[w0.heap.size + 1]? := hg.block _ (cell_lt h.rd.c0) (by simp)
  exact ⟨⟨(World.cell?_of_block k0).trans h.rd.c0, (World.cell?_of_block k0).trans h.rd.c1, (World.frozen?_of_block k0).trans h.rd.z0, (World.frozen?_of_block k0).trans h.rd.z1⟩, hg.cell h.m (by simp), h.b.alloc h.b.size o, (hg.block _ (lt_of_block h.z) (by simp)).trans h.z, h.lt⟩

/-- a node under way lies at block N -/
structure ND (w : World) (N : Nat) (a s k : Int) (key text : ByteArray) (v : Value) : Prop where
  c0 : w.cell? ⟨N, 0, none⟩ = some (.int .i64 a)
  c1 : w.cell? ⟨N, 1, none⟩ = some (.int .i64 s)
  c2 : w.cell? ⟨N, 2, none⟩ = some (.int .i64 k)
  c3 : w.cell? ⟨N, 3, none⟩ = some (.string key)
  c4 : w.cell? ⟨N, 4, none⟩ = some (.string text)
  c5 : w.cell? ⟨N, 5, none⟩ = some v
  z : ∀ i, w.frozen? ⟨N, i, none⟩ = false
theorem ND.new (w : World) (a s k : Int) (key text : ByteArray) (v : Value) (t : TypeId) : ND (w.alloc (.cells #[.int .i64 a, .int .i64 s, .int .i64 k, .string key, .string text, v] t)) w.heap.size a s k key text v :=
  ⟨cellN (heap_alloc_new w _), cellN (heap_alloc_new w _), cellN (heap_alloc_new w _), cellN (heap_alloc_new w _), cellN (heap_alloc_new w _), cellN (heap_alloc_new w _), fun i => frozN (heap_alloc_new w _)⟩
theorem ND.kept {w w' : World} {N : Nat} {a s k : Int} {key text : ByteArray} {v : Value} {row : Option Nat} (h : ND w N a s k key text v) (hg : w.grownBy w' row) (hne : some N ≠ row) : ND w' N a s k key text v := by
  have k0 : w'.heap[N]? = w.heap[N]? := hg.block _ (cell_lt h.c0) hne
  exact ⟨(World.cell?_of_block k0).trans h.c0, (World.cell?_of_block k0).trans h.c1, (World.cell?_of_block k0).trans h.c2, (World.cell?_of_block k0).trans h.c3, (World.cell?_of_block k0).trans h.c4, (World.cell?_of_block k0).trans h.c5, fun i => (World.frozen?_of_block k0).trans (h.z i)⟩
theorem ND.set3 {w : World} {N : Nat} {a s k : Int} {key text : ByteArray} {v : Value} (h : ND w N a s k key text v) (x : ByteArray) : ND (w.setCell ⟨N, 3, none⟩ (.string x)) N a s k x text v := by
  refine ⟨?_, ?_, ?_, World.cell?_setCell_same _ _ _ h.c3, ?_, ?_, fun i => by rw [World.frozen?_setCell]; exact h.z i⟩
  all_goals rw [World.cell?_setCell_other _ _ _ _ (by simp)]
  · exact h.c0
  · exact h.c1
  · exact h.c2
  · exact h.c4
  · exact h.c5
theorem ND.set4 {w : World} {N : Nat} {a s k : Int} {key text : ByteArray} {v : Value} (h : ND w N a s k key text v) (x : ByteArray) : ND (w.setCell ⟨N, 4, none⟩ (.string x)) N a s k key x v := by
  refine ⟨?_, ?_, ?_, ?_, World.cell?_setCell_same _ _ _ h.c4, ?_, fun i => by rw [World.frozen?_setCell]; exact h.z i⟩
  all_goals rw [World.cell?_setCell_other _ _ _ _ (by simp)]
  · exact h.c0
  · exact h.c1
  · exact h.c2
  · exact h.c3
  · exact h.c5
theorem ND.set5 {w : World} {N : Nat} {a s k : Int} {key text : ByteArray} {v : Value} (h : ND w N a s k key text v) (x : Value) : ND (w.setCell ⟨N, 5, none⟩ x) N a s k key text x := by
  refine ⟨?_, ?_, ?_, ?_, ?_, World.cell?_setCell_same _ _ _ h.c5, fun i => by rw [World.frozen?_setCell]; exact h.z i⟩
  all_goals rw [World.cell?_setCell_other _ _ _ _ (by simp)]
  · exact h.c0
  · exact h.c1
  · exact h.c2
  · exact h.c3
  · exact h.c4
theorem grown_refl (w : World) (row : Option Nat) : w.grownBy w row := ⟨rfl, rfl, rfl, Nat.le_refl _, fun _ _ _ => rfl⟩

/-- the reader behind j ups -/
def stU (r : ByteArray) (f : Bool) : Nat → ByteArray × Bool
  | 0 => (r, f)
  | j + 1 => (restN (stU r f j).1, valF (stU r f j).1 wUp (stU r f j).2)
/-- goes the reader on there -/
def goes (x : ByteArray × Bool) : Bool := !x.1.toList.isEmpty && !x.2
theorem restN_lt {r : ByteArray} (h : r.toList.isEmpty = false) : (restN r).size < r.size := by
  have h0 : 0 < r.size := by
    rw [ByteArray.toList_eq] at h
    rw [Lib.size_eq]
    cases hq : r.data.toList with
    | nil => rw [hq] at h; cases h
    | cons a l => simp
  unfold restN cutN Lib.cut
  rw [bs_size]
  split
  · simp only [List.length_drop]
    rw [Lib.size_eq] at h0 ⊢
    simp only [List.length_cons, List.length_nil]
    omega
  · exact h0

end Go.Proofs.YtlibipbpaigmdaaGreatDoor

namespace Go.Proofs.YtlibipbpaigmdaaGreatDoor
open Go.RowKit
set_option linter.unusedVariables false

def keyR (s : ByteArray) : ByteArray := valV (restN (restN (restN s))) wKey
def txtR (s : ByteArray) : ByteArray := valV (restN (restN (restN (restN s)))) wText
def r5R (s : ByteArray) : ByteArray := restN (restN (restN (restN (restN s))))
def f5R (s : ByteArray) : Bool := valF (restN (restN (restN (restN s)))) wText (valF (restN (restN (restN s))) wKey (numF (restN (restN s)) wKind (numF (restN s) wSeq (numF s wAuthor false))))
def upR (s : ByteArray) (i : Nat) : ByteArray := valV (stU (r5R s) (f5R s) i).1 wUp
/-- has all been read, and is it right, behind j ups -/
def okRd (s : ByteArray) (j : Nat) : Bool := !(stU (r5R s) (f5R s) j).2 && nodeB (rdec (valV s wAuthor)).1 (rdec (valV (restN s) wSeq)).1 (rdec (valV (restN (restN s)) wKind)).1 (keyR s) (txtR s) (upR s) j
abbrev zeroQ : Array Value := #[.int .i64 0, .int .i64 0, .int .i64 0, .string ⟨#[]⟩, .string ⟨#[]⟩, .slice none 0 0]

theorem results_row_tmpN {P : Program} {fn : Func} {p u : Tmp} {ty : TypeId} (h : fn.results = #[.cell p ty, .tmp u]) (tmps : Array Value) (w : World) (g : Nat) (t : TypeId) (cs : Array Value) (fr : Nat × Nat) (d : TypeDesc)
    (hp : tmps.getD p undef = .pointer (some ⟨g, 0, none⟩)) (hg : w.heap[g]? = some (.cells cs t fr))
    (hu : P.underlying ty = some d) (hd : (match d with | .struct _ | .array _ _ => true | _ => false) = true) (hi : (P.info? ty).map (·.size) = some cs.size) :
    (results fn tmps).run P w = .ok (.tuple #[.agg cs, tmps.getD u undef]) w := by
  have hp' : tmps[p]?.getD undef = .pointer (some ⟨g, 0, none⟩) := by simpa using hp
  rw [results_cell_tmp h]
  simp [hp', asAddr, run_loadVar_row w g t ty cs fr d hg hu hd hi, Result.andThen]

theorem strs_of_own' {w : World} {base : Nat} {v : Value} {n : Nat} {xs : List Value} {S : Nat → ByteArray} (h : w.ownsRow base 9 1 v n xs) (hx : ∀ i, i < n → xs[i]? = some (.string (S i))) :
    ∃ a cap, v = .slice a n cap ∧ IsStrs w a n cap S := by
  rcases h.2 with ⟨rfl, rfl⟩ | ⟨g, cap, cur, rfl, hb, hg, hnc, hcm, hcs, htake⟩
  · exact ⟨none, 0, rfl, Nat.le_refl _, by omega, fun h => absurd h (Nat.lt_irrefl _)⟩
  · refine ⟨_, cap, rfl, hnc, by unfold maxLen at hcm; omega, fun hp => ⟨g, 0, rfl, (Array.getElem?_eq_some_iff.1 hg).1, fun i hi => ?_⟩⟩
    have := h.cells (g := g) rfl i _ (hx i hi)
    have hadd : (⟨g, 0, none⟩ : Addr).add i = ⟨g, i, none⟩ := by unfold Addr.add; split <;> simp_all
    rw [hadd] at this
    rw [Nat.zero_add]
    exact this
theorem stU_size (r : ByteArray) (f : Bool) : ∀ i, (stU r f i).1.size ≤ r.size
  | 0 => Nat.le_refl _
  | i + 1 => Nat.le_trans (restN_size _) (stU_size r f i)
theorem mono_baseR {w : World} {base base' : Nat} {e : TypeId} {size : Nat} {v : Value} {n : Nat} {xs : List Value} (h : w.ownsRow base e size v n xs) (hb : base' ≤ base) : w.ownsRow base' e size v n xs := by
  obtain ⟨h1, h2⟩ := h
  refine ⟨h1, ?_⟩
  rcases h2 with h2 | ⟨g, cap, cur, hv, hg, r⟩
  · exact Or.inl h2
  · exact Or.inr ⟨g, cap, cur, hv, Nat.le_trans hb hg, r⟩
theorem own_setRow {w : World} {base e size g : Nat} {v : Value} {n : Nat} {xs : List Value} (h : w.ownsRow base e size v n xs) (hg : g < base) (cs : Array Value) : (w.setRow g cs).ownsRow base e size v n xs := by
  obtain ⟨h1, h2⟩ := h
  refine ⟨h1, ?_⟩
  rcases h2 with h2 | ⟨g', cap, cur, hv, hg', hh, r⟩
  · exact Or.inl h2
  · exact Or.inr ⟨g', cap, cur, hv, hg', (setRow_other _ _ _ _ (by omega)).trans hh, r⟩

set_option maxRecDepth 20000 in
set_option maxHeartbeats 4000000 in
theorem implRead_any (s : ByteArray) (m : Int) (w : World) (hs : s.size ≤ 1000) (hm : w.cell? ⟨3, 0, none⟩ = some (.int .i64 m)) :
    Calls Tryz.prog 55 #[.string s] w fun e w' => ∃ (j : Nat) (v : Value) (xs : List Value) (q : Array Value), e = .returned (.tuple #[.agg q, .bool (okRd s j)]) ∧ (∀ i, i < j → goes (stU (r5R s) (f5R s) i) = true) ∧ goes (stU (r5R s) (f5R s) j) = false ∧ (okRd s j = true → q = #[.int .i64 (rdec (valV s wAuthor)).1, .int .i64 (rdec (valV (restN s) wSeq)).1, .int .i64 (rdec (valV (restN (restN s)) wKind)).1, .string (keyR s), .string (txtR s), v]) ∧ (okRd s j = false → q = zeroQ) ∧ w'.ownsRow w.heap.size 9 1 v j xs ∧ (∀ i, i < j → xs[i]? = some (.string (upR s i))) ∧ j ≤ 1000 ∧ Below w.heap.size w w' := by
  have hlen : decide ((1000 : Int) < (s.size : Int)) = false := by simp; omega
  have s1 := restN_size s
  have s2 := restN_size (restN s)
  have s3 := restN_size (restN (restN s))
  have s4 := restN_size (restN (restN (restN s)))
  have s5 := restN_size (restN (restN (restN (restN s))))
  go_enter Tryz.func55, Tryz.ntmps55
  go_wp2_with fail
  obtain ⟨wa, hwa⟩ : ∃ wa, wa = (w.alloc (.cells #[.int .i64 0, .int .i64 0, .int .i64 0, .string ⟨#[]⟩, .string ⟨#[]⟩, .slice none 0 0] 50)).alloc (.cells #[.string s, .bool false] 123) := ⟨_, rfl⟩
  rw [← hwa]
  have S0 : RS w wa s false m := by
    have h3 : 3 < w.heap.size := cell_lt hm
    have hb := heap_alloc_new (w.alloc (.cells #[.int .i64 0, .int .i64 0, .int .i64 0, .string ⟨#[]⟩, .string ⟨#[]⟩, .slice none 0 0] 50)) (.cells #[.string s, .bool false] 123)
    have hb' : wa.heap[w.heap.size + 1]? = some (.cells #[.string s, .bool false] 123) := by rw [hwa]; simpa using hb
    have hB : Below w.heap.size w wa := by rw [hwa]; exact ((Below.refl _ _).alloc (Nat.le_refl _) _).alloc (by simp) _
    refine ⟨⟨cellN hb', cellN hb', frozN hb', frozN hb'⟩, (hB.cell (p := ⟨3, 0, none⟩) h3).trans hm, hB, ?_, h3⟩
    rw [hwa, Below.heap_alloc _ _ _ (by simp)]
    exact heap_alloc_new w _
  clear hwa hm
  refine (number_any _ s wAuthor false m wa (by omega) (by decide) S0.rd S0.m).mono ?_
  rintro e w1 ⟨rfl, R1, g1⟩
  have S1 := S0.step R1 g1
  clear S0 R1 g1
  go_wp2_with fail
  refine (number_any _ (restN s) wSeq _ m w1 (by omega) (by decide) S1.rd S1.m).mono ?_
  rintro e w2 ⟨rfl, R2, g2⟩
  have S2 := S1.step R2 g2
  clear S1 R2 g2
  go_wp2_with fail
  refine (number_any _ (restN (restN s)) wKind _ m w2 (by omega) (by decide) S2.rd S2.m).mono ?_
  rintro e w3 ⟨rfl, R3, g3⟩
  have S3 := S2.step R3 g3
  clear S2 R3 g3
  generalize hna_ : (rdec (valV s wAuthor)).1 = na at *
  have Hna_ : Hid ((rdec (valV s wAuthor)).1 = na) := hna_
  clear hna_
  generalize hns_ : (rdec (valV (restN s) wSeq)).1 = ns at *
  have Hns_ : Hid ((rdec (valV (restN s) wSeq)).1 = ns) := hns_
  clear hns_
  generalize hnk_ : (rdec (valV (restN (restN s)) wKind)).1 = nk at *
  have Hnk_ : Hid ((rdec (valV (restN (restN s)) wKind)).1 = nk) := hnk_
  clear hnk_
  go_wp2_with fail
  have hN : w.heap.size + 1 < w3.heap.size := cell_lt S3.rd.c0
  have T4 := S3.alloc (.cells #[.int .i64 na, .int .i64 ns, .int .i64 nk, .string ⟨#[]⟩, .string ⟨#[]⟩, .slice none 0 0] 50)
  have N4 := ND.new w3 na ns nk ⟨#[]⟩ ⟨#[]⟩ (.slice none 0 0) 50
  refine (value_any _ (restN (restN (restN s))) wKey _ m _ (by omega) (by decide) T4.rd T4.m).mono ?_
  generalize w3.heap.size = N at *
  rintro e w5 ⟨rfl, R5, g5⟩
  have S5 := T4.step R5 g5
  have N5 := N4.kept g5 (by simp; omega)
  have c53 := N5.c3
  have f53 := N5.z 3
  clear S3 T4 N4 R5 g5 hlen
  go_wp2_with fail
  have S6 := S5.own hN (grown_set (grown_refl w5 _) 3 (.string (valV (restN (restN (restN s))) wKey)))
  have N6 := N5.set3 (valV (restN (restN (restN s))) wKey)
  refine (value_any _ (restN (restN (restN (restN s)))) wText _ m _ (by omega) (by decide) S6.rd S6.m).mono ?_
  rintro e w7 ⟨rfl, R7, g7⟩
  have S7 := S6.step R7 g7
  have N7 := N6.kept g7 (by simp; omega)
  have c74 := N7.c4
  have f74 := N7.z 4
  clear S5 S6 N5 N6 R7 g7 c53 f53
  go_wp2_with fail
  have S8 := S7.own hN (grown_set (grown_refl w7 _) 4 (.string (valV (restN (restN (restN (restN s)))) wText)))
  have N8 := N7.set4 (valV (restN (restN (restN (restN s)))) wText)
  have hk0 := valV_size (restN (restN (restN s))) wKey
  have ht0 := valV_size (restN (restN (restN (restN s)))) wText
  have hr5 : (restN (restN (restN (restN (restN s))))).size ≤ 1000 := by omega
  have hkey : (valV (restN (restN (restN s))) wKey).size ≤ 1000 := by omega
  have htx : (valV (restN (restN (restN (restN s)))) wText).size ≤ 1000 := by omega
  have S8' : RS w _ (restN (restN (restN (restN (restN s))))) _ m := S8
  clear S8 S7 N7 c74 f74 s1 s2 s3 s4 s5 hk0 ht0
  generalize htx_ : valV (restN (restN (restN (restN s)))) wText = tx at *
  have Htx_ : Hid (valV (restN (restN (restN (restN s)))) wText = tx) := htx_
  clear htx_
  generalize hkey_ : valV (restN (restN (restN s))) wKey = key at *
  have Hkey_ : Hid (valV (restN (restN (restN s))) wKey = key) := hkey_
  clear hkey_
  generalize w7.setCell ⟨N, 4, none⟩ (.string tx) = w8 at *
  generalize hr5_ : restN (restN (restN (restN (restN s)))) = r5 at *
  have Hr5_ : Hid (restN (restN (restN (restN (restN s)))) = r5) := hr5_
  clear hr5_
  generalize hf5_ : valF (restN (restN (restN (restN s)))) wText (valF (restN (restN (restN s))) wKey (numF (restN (restN s)) wKind (numF (restN s) wSeq (numF s wAuthor false)))) = f5 at *
  have Hf5_ : Hid (valF (restN (restN (restN (restN s)))) wText (valF (restN (restN (restN s))) wKey (numF (restN (restN s)) wKind (numF (restN s) wSeq (numF s wAuthor false)))) = f5) := hf5_
  clear hf5_
  obtain ⟨i0, hi, hz0, hz1, hz2⟩ := info_parts info9'
  have he := empty_list
  go_loopw [20] (fun _ wr => ∃ (j : Nat) (v : Value) (xs : List Value), RS w wr (stU r5 f5 j).1 (stU r5 f5 j).2 m ∧ ND wr N na ns nk key tx v ∧ wr.ownsRow (N + 1) 9 1 v j xs ∧ Hid (∀ i, i < j → xs[i]? = some (.string (valV (stU r5 f5 i).1 wUp))) ∧ Hid (∀ i, i < j → goes (stU r5 f5 i) = true) ∧ j + (stU r5 f5 j).1.size ≤ 1000)
    (fun _ wr => rdLen wr (w.heap.size + 1))
  case atStart => exact ⟨0, .slice none 0 0, [], S8', N8, World.ownsRow_nil _ _ _ _, fun i hi => absurd hi (Nat.not_lt_zero _), fun i hi => absurd hi (Nat.not_lt_zero _), by show 0 + r5.size ≤ 1000; omega⟩
  case round =>
    obtain ⟨j, v, xs, S, Nd0, how, HX, HG, hjs⟩ := hrel
    have HS := (show Hid (RS w wr (stU r5 f5 j).1 (stU r5 f5 j).2 m) from S)
    have HN := (show Hid (ND wr N na ns nk key tx v) from Nd0)
    have HO := (show Hid (wr.ownsRow (N + 1) 9 1 v j xs) from how)
    have c0 := S.rd.c0
    have c1 := S.rd.c1
    have c5 := Nd0.c5
    have f5' := Nd0.z 5
    have hNl := cell_lt Nd0.c0
    clear S Nd0 how S8' N8
    cases hE : (stU r5 f5 j).1.toList.isEmpty with
    | true =>
      cases hF : (stU r5 f5 j).2 with
      | true =>
        have hgf : goes (stU r5 f5 j) = false := by unfold goes; rw [hF]; simp
        obtain ⟨q, hq⟩ : ∃ q, q = zeroQ := ⟨_, rfl⟩
        have hi6 : (Tryz.prog.info? 50).map (·.size) = some q.size := by rw [hq]; exact info50
        have ho6 : (#[Value.int .i64 0, .int .i64 0, .int .i64 0, .string ⟨#[]⟩, .string ⟨#[]⟩, .slice none 0 0] : Array Value).size = q.size := by rw [hq]
        have h16 : q.all (·.oneCell') = true := by rw [hq]; simp [Value.oneCell']
        have HQQ : Hid (q = zeroQ) := hq
        clear hq
        have HOK : Hid (okRd s j = false) := by
          show _ = _
          unfold okRd
          rw [show r5R s = r5 from Hr5_.out, show f5R s = f5 from Hf5_.out, hF]
          rfl
        have HGF : Hid (goes (stU r5 f5 j) = false) := hgf
        rw [hF] at c1
        clear hF hgf
        go_wp2_with (refine wpList_store_row rfl 50 _ _ rfl w.heap.size q rfl (congrArg Value.agg HQQ.out.symm) 50 _ HS.out.z hi6 ho6 h16 ?_)
        refine bodyPost_ret (results_row_tmpN rfl _ _ w.heap.size 50 _ _ _ rfl (setRow_heap _ _ _ _ _ _ HS.out.z) Tryz.underlying50 rfl hi6) rfl ⟨j, v, xs, q, ?_, ?_, ?_, ?_, ?_, ?_, ?_, ?_, ?_⟩
        · exact ret_val (by rw [HOK.out]; rfl)
        · rw [show r5R s = r5 from Hr5_.out, show f5R s = f5 from Hf5_.out]; exact HG.out
        · rw [show r5R s = r5 from Hr5_.out, show f5R s = f5 from Hf5_.out]; exact HGF.out
        · intro h; rw [HOK.out] at h; cases h
        · exact fun _ => HQQ.out
        · exact mono_baseR (own_setRow HO.out (by omega) _) (by omega)
        · intro i hi
          unfold upR
          rw [show r5R s = r5 from Hr5_.out, show f5R s = f5 from Hf5_.out]
          exact HX.out i hi
        · omega
        · exact below_setRow HS.out.b (Nat.le_refl _) _
      | false =>
        have hgf : goes (stU r5 f5 j) = false := by unfold goes; rw [hE]; rfl
        have HGF : Hid (goes (stU r5 f5 j) = false) := hgf
        obtain ⟨ua, uc, hv, hIS⟩ := strs_of_own' HO.out HX.out
        subst hv
        have hsz : ∀ i, i < j → (valV (stU r5 f5 i).1 wUp).size ≤ 9223372036854775807 := fun i _ => by
          have h1 := valV_size (stU r5 f5 i).1 wUp
          have h2 := stU_size r5 f5 i
          omega
        have HC : Hid (Calls Tryz.prog 59 #[.agg #[.int .i64 na, .int .i64 ns, .int .i64 nk, .string key, .string tx, .slice ua j uc]] wr fun e w' => e = .returned (.bool (nodeB na ns nk key tx (fun i => valV (stU r5 f5 i).1 wUp) j)) ∧ Below wr.heap.size wr w') := implNodeOk_any na ns nk key tx ua j uc (fun i => valV (stU r5 f5 i).1 wUp) wr hIS hsz (by omega) (by omega)
        have HOK : Hid (okRd s j = nodeB na ns nk key tx (fun i => valV (stU r5 f5 i).1 wUp) j) := by
          show _ = _
          unfold okRd
          have e1 : upR s = fun i => valV (stU r5 f5 i).1 wUp := by
            funext i
            unfold upR
            rw [show r5R s = r5 from Hr5_.out, show f5R s = f5 from Hf5_.out]
          rw [e1, show r5R s = r5 from Hr5_.out, show f5R s = f5 from Hf5_.out, hF, Hna_.out, Hns_.out, Hnk_.out, show keyR s = key from Hkey_.out, show txtR s = tx from Htx_.out]
          rfl
        have d0 := HN.out.c0
        have d1 := HN.out.c1
        have d2 := HN.out.c2
        have d3 := HN.out.c3
        have d4 := HN.out.c4
        rw [hF] at c1
        clear hF hgf hIS hsz
        cases hb : nodeB na ns nk key tx (fun i => valV (stU r5 f5 i).1 wUp) j with
        | false =>
          obtain ⟨q, hq⟩ : ∃ q, q = zeroQ := ⟨_, rfl⟩
          have hi6 : (Tryz.prog.info? 50).map (·.size) = some q.size := by rw [hq]; exact info50
          have ho6 : (#[Value.int .i64 0, .int .i64 0, .int .i64 0, .string ⟨#[]⟩, .string ⟨#[]⟩, .slice none 0 0] : Array Value).size = q.size := by rw [hq]
          have h16 : q.all (·.oneCell') = true := by rw [hq]; simp [Value.oneCell']
          have HQQ : Hid (q = zeroQ) := hq
          clear hq
          rw [hb] at HC HOK
          clear hb
          go_wp2_with (first
            | (go_at_call 59; refine HC.out.mono ?_; rintro e w2 ⟨rfl, hB2⟩; have HB2 : Hid (Below wr.heap.size wr w2) := hB2; have HZ2 : Hid (w2.heap[w.heap.size]? = some (.cells #[.int .i64 0, .int .i64 0, .int .i64 0, .string ⟨#[]⟩, .string ⟨#[]⟩, .slice none 0 0] 50)) := (hB2.block _ (lt_of_block HS.out.z)).trans HS.out.z; clear hB2)
            | (refine wpList_store_row rfl 50 _ _ rfl w.heap.size q rfl (congrArg Value.agg HQQ.out.symm) 50 _ HZ2.out hi6 ho6 h16 ?_))
          refine bodyPost_ret (results_row_tmpN rfl _ _ w.heap.size 50 _ _ _ rfl (setRow_heap _ _ _ _ _ _ HZ2.out) Tryz.underlying50 rfl hi6) rfl ⟨j, .slice ua j uc, xs, q, ?_, ?_, ?_, ?_, ?_, ?_, ?_, ?_, ?_⟩
          · exact ret_val (by rw [HOK.out]; rfl)
          · rw [show r5R s = r5 from Hr5_.out, show f5R s = f5 from Hf5_.out]; exact HG.out
          · rw [show r5R s = r5 from Hr5_.out, show f5R s = f5 from Hf5_.out]; exact HGF.out
          · intro h; rw [HOK.out] at h; cases h
          · exact fun _ => HQQ.out
          · exact mono_baseR (own_setRow (ownsRow_below HO.out HB2.out) (by omega) _) (by omega)
          · intro i hi
            unfold upR
            rw [show r5R s = r5 from Hr5_.out, show f5R s = f5 from Hf5_.out]
            exact HX.out i hi
          · omega
          · exact below_setRow (HS.out.b.trans (HB2.out.mono HS.out.b.size)) (Nat.le_refl _) _
        | true =>
          obtain ⟨q, hq⟩ : ∃ q, q = #[Value.int .i64 na, .int .i64 ns, .int .i64 nk, .string key, .string tx, .slice ua j uc] := ⟨_, rfl⟩
          have hi6 : (Tryz.prog.info? 50).map (·.size) = some q.size := by rw [hq]; exact info50
          have ho6 : (#[Value.int .i64 0, .int .i64 0, .int .i64 0, .string ⟨#[]⟩, .string ⟨#[]⟩, .slice none 0 0] : Array Value).size = q.size := by rw [hq]; rfl
          have h16 : q.all (·.oneCell') = true := by rw [hq]; simp [Value.oneCell']
          have HQQ : Hid (q = #[Value.int .i64 na, .int .i64 ns, .int .i64 nk, .string key, .string tx, .slice ua j uc]) := hq
          clear hq
          rw [hb] at HC HOK
          clear hb
          go_wp2_with (first
            | (go_at_call 59; refine HC.out.mono ?_; rintro e w2 ⟨rfl, hB2⟩; have HB2 : Hid (Below wr.heap.size wr w2) := hB2; have HZ2 : Hid (w2.heap[w.heap.size]? = some (.cells #[.int .i64 0, .int .i64 0, .int .i64 0, .string ⟨#[]⟩, .string ⟨#[]⟩, .slice none 0 0] 50)) := (hB2.block _ (lt_of_block HS.out.z)).trans HS.out.z; have N2 := HN.out.kept (row := none) ⟨hB2.os, hB2.tape, hB2.output, hB2.size, fun k hk _ => hB2.block k hk⟩ (by simp); have k0 := N2.c0; have k1 := N2.c1; have k2 := N2.c2; have k3 := N2.c3; have k4 := N2.c4; have k5 := N2.c5; clear hB2 N2)
            | (refine wpList_store_row rfl 50 _ _ rfl w.heap.size q rfl (congrArg Value.agg HQQ.out.symm) 50 _ HZ2.out hi6 ho6 h16 ?_))
          refine bodyPost_ret (results_row_tmpN rfl _ _ w.heap.size 50 _ _ _ rfl (setRow_heap _ _ _ _ _ _ HZ2.out) Tryz.underlying50 rfl hi6) rfl ⟨j, .slice ua j uc, xs, q, ?_, ?_, ?_, ?_, ?_, ?_, ?_, ?_, ?_⟩
          · exact ret_val (by rw [HOK.out]; rfl)
          · rw [show r5R s = r5 from Hr5_.out, show f5R s = f5 from Hf5_.out]; exact HG.out
          · rw [show r5R s = r5 from Hr5_.out, show f5R s = f5 from Hf5_.out]; exact HGF.out
          · intro _
            rw [HQQ.out, Hna_.out, Hns_.out, Hnk_.out, show keyR s = key from Hkey_.out, show txtR s = tx from Htx_.out]
          · intro h; rw [HOK.out] at h; cases h
          · exact mono_baseR (own_setRow (ownsRow_below HO.out HB2.out) (by omega) _) (by omega)
          · intro i hi
            unfold upR
            rw [show r5R s = r5 from Hr5_.out, show f5R s = f5 from Hf5_.out]
            exact HX.out i hi
          · omega
          · exact below_setRow (HS.out.b.trans (HB2.out.mono HS.out.b.size)) (Nat.le_refl _) _
    | false =>
      cases hF : (stU r5 f5 j).2 with
      | true =>
        have hgf : goes (stU r5 f5 j) = false := by unfold goes; rw [hF]; simp
        obtain ⟨q, hq⟩ : ∃ q, q = zeroQ := ⟨_, rfl⟩
        have hi6 : (Tryz.prog.info? 50).map (·.size) = some q.size := by rw [hq]; exact info50
        have ho6 : (#[Value.int .i64 0, .int .i64 0, .int .i64 0, .string ⟨#[]⟩, .string ⟨#[]⟩, .slice none 0 0] : Array Value).size = q.size := by rw [hq]
        have h16 : q.all (·.oneCell') = true := by rw [hq]; simp [Value.oneCell']
        have HQQ : Hid (q = zeroQ) := hq
        clear hq
        have HOK : Hid (okRd s j = false) := by
          show _ = _
          unfold okRd
          rw [show r5R s = r5 from Hr5_.out, show f5R s = f5 from Hf5_.out, hF]
          rfl
        have HGF : Hid (goes (stU r5 f5 j) = false) := hgf
        rw [hF] at c1
        clear hF hgf
        go_wp2_with (refine wpList_store_row rfl 50 _ _ rfl w.heap.size q rfl (congrArg Value.agg HQQ.out.symm) 50 _ HS.out.z hi6 ho6 h16 ?_)
        refine bodyPost_ret (results_row_tmpN rfl _ _ w.heap.size 50 _ _ _ rfl (setRow_heap _ _ _ _ _ _ HS.out.z) Tryz.underlying50 rfl hi6) rfl ⟨j, v, xs, q, ?_, ?_, ?_, ?_, ?_, ?_, ?_, ?_, ?_⟩
        · exact ret_val (by rw [HOK.out]; rfl)
        · rw [show r5R s = r5 from Hr5_.out, show f5R s = f5 from Hf5_.out]; exact HG.out
        · rw [show r5R s = r5 from Hr5_.out, show f5R s = f5 from Hf5_.out]; exact HGF.out
        · intro h; rw [HOK.out] at h; cases h
        · exact fun _ => HQQ.out
        · exact mono_baseR (own_setRow HO.out (by omega) _) (by omega)
        · intro i hi
          unfold upR
          rw [show r5R s = r5 from Hr5_.out, show f5R s = f5 from Hf5_.out]
          exact HX.out i hi
        · omega
        · exact below_setRow HS.out.b (Nat.le_refl _) _
      | false =>
        have hgo : goes (stU r5 f5 j) = true := by unfold goes; rw [hE, hF]; rfl
        have hlt := restN_lt hE
        have hst1 : (stU r5 f5 (j + 1)).1 = restN (stU r5 f5 j).1 := rfl
        have hst2 : (stU r5 f5 (j + 1)).2 = valF (stU r5 f5 j).1 wUp (stU r5 f5 j).2 := rfl
        have HV : Hid (Calls Tryz.prog 124 #[.pointer (some ⟨w.heap.size + 1, 0, none⟩), .string wUp] wr.drew fun e w' => e = .returned (.string (valV (stU r5 f5 j).1 wUp)) ∧ Rd w' (w.heap.size + 1) (restN (stU r5 f5 j).1) (valF (stU r5 f5 j).1 wUp (stU r5 f5 j).2) ∧ wr.drew.grownBy w' (some (w.heap.size + 1))) := value_any _ _ wUp _ m wr.drew (by omega) (by decide) HS.out.drew.rd HS.out.drew.m
        have hmx : j + 1 ≤ maxLen := by unfold maxLen; omega
        have hbt : (j + 1) * 16 ≤ 140737488355328 := by omega
        have HX' : Hid (∀ i, i < j + 1 → (xs ++ [Value.string (valV (stU r5 f5 j).1 wUp)])[i]? = some (.string (valV (stU r5 f5 i).1 wUp))) := by
          have hxl : xs.length = j := by have := HO.out.1; omega
          intro i hi
          rcases Nat.lt_succ_iff_lt_or_eq.1 hi with h1 | rfl
          · rw [List.getElem?_append_left (by omega)]; exact HX.out i h1
          · rw [List.getElem?_append_right (by omega), hxl, Nat.sub_self]; rfl
        have HG' : Hid (∀ i, i < j + 1 → goes (stU r5 f5 i) = true) := by
          intro i hi
          rcases Nat.lt_succ_iff_lt_or_eq.1 hi with h1 | rfl
          · exact HG.out i h1
          · exact hgo
        have HJ : Hid (j + 1 + (restN (stU r5 f5 j).1).size ≤ 1000 ∧ (restN (stU r5 f5 j).1).size < (stU r5 f5 j).1.size) := ⟨by omega, hlt⟩
        have H1 := (show Hid ((stU r5 f5 (j + 1)).1 = restN (stU r5 f5 j).1) from hst1)
        have H2 := (show Hid ((stU r5 f5 (j + 1)).2 = valF (stU r5 f5 j).1 wUp (stU r5 f5 j).2) from hst2)
        rw [hF] at c1
        have hso : ∀ x ∈ [Value.string (valV (stU r5 f5 j).1 wUp)], x.oneCell' = true := by simp [Value.oneCell']
        clear hst1 hst2 hgo hlt hF HX HG
        go_wp2
        go_region_law (first
          | (go_simp; go_at_call 124; refine HV.out.mono ?_; rintro e wv ⟨rfl, Rv, gv⟩; have h7 : wv.cell? ⟨N, 5, none⟩ = some v := gv.cell (show wr.drew.cell? ⟨N, 5, none⟩ = some v from c5) (by simp; omega); have h7a : (wv.alloc (.cells #[.string (valV (stU r5 f5 j).1 wUp)] 9)).cell? ⟨N, 5, none⟩ = some v := (World.grownBy_alloc wv _ none).cell h7 (by simp); have h7f : wv.frozen? ⟨N, 5, none⟩ = false := (World.frozen?_of_block (gv.block N hNl (by simp; omega))).trans f5')
          | (refine step_append_lies _ rfl _ _ 25 rfl (N + 1) 9 i0 (.string ⟨#[]⟩) 1 16 Tryz.underlying25 hi hz0 hz1 hz2 rfl (by decide) v j xs rfl ((own_kept (show wr.drew.ownsRow (N + 1) 9 1 v j xs from HO.out) gv (fun k hk => by cases hk; omega)).alloc _) ⟨wv.heap.size, 0, none⟩ 1 1 [.string (valV (stU r5 f5 j).1 wUp)] rfl rfl (World.news_of_block (heap_alloc_new _ _)) hso (by decide) hmx hbt (by have := gv.size; have h9 : wr.drew.heap.size = wr.heap.size := rfl; simp; omega) _ rfl ?_; intro g cap' w9 hown9 hgrow9 hat9 hlt9; have h8 : w9.cell? ⟨N, 5, none⟩ = some v := hgrow9.cell ((World.grownBy_alloc wv _ none).cell h7 (by simp)) (fun e => by have := ((own_kept (show wr.drew.ownsRow (N + 1) 9 1 v j xs from HO.out) gv (fun k hk => by cases hk; omega)).lt N e.symm).1; omega); have h8f : w9.frozen? ⟨N, 5, none⟩ = false := (World.frozen?_of_block (hgrow9.block N (by have := gv.size; have h9 : wr.drew.heap.size = wr.heap.size := rfl; simp; omega) (fun e => by have := ((own_kept (show wr.drew.ownsRow (N + 1) 9 1 v j xs from HO.out) gv (fun k hk => by cases hk; omega)).lt N e.symm).1; omega))).trans ((World.frozen?_of_block ((World.grownBy_alloc wv _ none).block N (by have := gv.size; have h9 : wr.drew.heap.size = wr.heap.size := rfl; omega) (by simp))).trans h7f)))
        all_goals
          have hOB : ∀ k, v.ownBlock = some k → N + 1 ≤ k := fun k hk => (HO.out.lt k hk).1
          have HSf : Hid (RS w (w9.setCell ⟨N, 5, none⟩ (.slice (some ⟨g, 0, none⟩) (j + 1) cap')) (stU r5 f5 (j + 1)).1 (stU r5 f5 (j + 1)).2 m) := by
            rw [H1.out, H2.out]
            exact (((HS.out.drew.step Rv gv).alloc (.cells #[.string (valV (stU r5 f5 j).1 wUp)] 9)).grown (fun k hk => by have := hOB k hk; omega) hgrow9).own hN (grown_set (grown_refl w9 _) 5 _)
          have HNf : Hid (ND (w9.setCell ⟨N, 5, none⟩ (.slice (some ⟨g, 0, none⟩) (j + 1) cap')) N na ns nk key tx (.slice (some ⟨g, 0, none⟩) (j + 1) cap')) :=
            ((((show ND wr.drew N na ns nk key tx v from ⟨HN.out.c0, HN.out.c1, HN.out.c2, HN.out.c3, HN.out.c4, HN.out.c5, HN.out.z⟩).kept gv (by simp; omega)).kept (World.grownBy_alloc wv _ none) (by simp)).kept hgrow9 (fun e => by have := hOB N e.symm; omega)).set5 _
          have HOf : Hid ((w9.setCell ⟨N, 5, none⟩ (.slice (some ⟨g, 0, none⟩) (j + 1) cap')).ownsRow (N + 1) 9 1 (.slice (some ⟨g, 0, none⟩) (j + 1) cap') (j + 1) (xs ++ [.string (valV (stU r5 f5 j).1 wUp)])) := own_kept hown9 (grown_set (grown_refl w9 (some N)) 5 _) (fun k hk => by cases hk; omega)
          clear hown9 hgrow9 hat9 hlt9 h8 h8f h7 h7a h7f Rv gv hOB
          go_wp2
          go_roundw
          case rel => exact ⟨j + 1, _, _, HSf.out, HNf.out, HOf.out, HX', HG', by rw [H1.out]; exact HJ.out.1⟩
          case measure => rw [rdLen_eq HSf.out.rd, rdLen_eq HS.out.rd, H1.out]; exact HJ.out.2
end Go.Proofs.YtlibipbpaigmdaaGreatDoor

namespace Go.Proofs.YtlibipbpaigmdaaGreatDoor
open Go.RowKit
set_option linter.unusedVariables false

/-- the bytes ahead of the first c, those behind it, whether there was one -/
def cutL (c : UInt8) : List UInt8 → List UInt8 × List UInt8 × Bool
  | [] => ([], [], false)
  | x :: l => if x = c then ([], l, true) else (x :: (cutL c l).1, (cutL c l).2.1, (cutL c l).2.2)
theorem cutL_yes (c : UInt8) (b : List UInt8) : ∀ a : List UInt8, c ∉ a → cutL c (a ++ c :: b) = (a, b, true)
  | [], _ => by simp [cutL]
  | x :: a, h => by
    have h1 : ¬ x = c := fun e => h (by rw [e]; exact List.mem_cons_self)
    have ih := cutL_yes c b a (fun hh => h (List.mem_cons_of_mem _ hh))
    show cutL c (x :: (a ++ c :: b)) = _
    rw [cutL, if_neg h1, ih]
theorem cutL_no (c : UInt8) : ∀ a : List UInt8, c ∉ a → cutL c a = (a, [], false)
  | [], _ => rfl
  | x :: a, h => by
    have h1 : ¬ x = c := fun e => h (by rw [e]; exact List.mem_cons_self)
    have ih := cutL_no c a (fun hh => h (List.mem_cons_of_mem _ hh))
    rw [cutL, if_neg h1, ih]
theorem cutL_len (c : UInt8) : ∀ l : List UInt8, (cutL c l).1.length ≤ l.length ∧ (cutL c l).2.1.length ≤ l.length ∧ (l ≠ [] → (cutL c l).2.1.length < l.length)
  | [] => by simp [cutL]
  | x :: l => by
    obtain ⟨h1, h2, h3⟩ := cutL_len c l
    unfold cutL
    split
    · simp
    · simp only [List.length_cons]
      exact ⟨by omega, by omega, fun _ => by omega⟩

theorem bt_list {s : ByteArray} {i : Nat} (h : i < s.size) : ∃ x, s.data.toList[i]? = some x ∧ bt s i = (x.toNat : Int) := by
  refine ⟨s[i], ?_, (bt_in h).symm⟩
  rw [Array.getElem?_toList]
  exact Array.getElem?_eq_getElem h

/-- l1Cut's answer is cutL's -/
theorem cutV_is {s : ByteArray} {c : UInt8} {i : Nat} (h : FirstAt s (c.toNat : Int) i) : cutV s i = .tuple #[.string (bs (cutL c s.data.toList).1), .string (bs (cutL c s.data.toList).2.1), .bool (cutL c s.data.toList).2.2] := by
  obtain ⟨hle, hno, hyes⟩ := h
  have hsz : s.data.toList.length = s.size := by rw [Array.length_toList]; rfl
  have hnot : c ∉ s.data.toList.take i := by
    intro hm
    obtain ⟨j, hj, e⟩ := List.mem_iff_getElem.1 hm
    rw [List.length_take] at hj
    obtain ⟨x, hx, hb⟩ := bt_list (s := s) (i := j) (by omega)
    rw [List.getElem_take] at e
    rw [List.getElem?_eq_getElem (by omega), e] at hx
    simp at hx
    subst hx
    exact hno j (by omega) hb
  unfold cutV
  by_cases hi : i < s.size
  · rw [if_pos hi]
    obtain ⟨x, hx, hb⟩ := bt_list hi
    have hxc : x = c := by
      have := hyes hi
      rw [hb] at this
      exact UInt8.toNat_inj.1 (by omega)
    subst hxc
    have hsplit : s.data.toList = s.data.toList.take i ++ x :: s.data.toList.drop (i + 1) := by
      have hg : s.data.toList[i]'(by omega) = x := by
        rw [List.getElem?_eq_getElem (by omega)] at hx
        simpa using hx
      conv => lhs; rw [← List.take_append_drop i s.data.toList]
      rw [List.drop_eq_getElem_cons (by omega), hg]
    have hcut : cutL x s.data.toList = (s.data.toList.take i, s.data.toList.drop (i + 1), true) := by
      conv => lhs; rw [hsplit]
      exact cutL_yes x _ _ hnot
    rw [hcut]
    have e1 : s.extract 0 i = bs (s.data.toList.take i) := by
      apply ByteArray.ext
      apply Array.ext'
      simp [bs, List.extract]
    have e2 : s.extract (i + 1) s.size = bs (s.data.toList.drop (i + 1)) := by
      apply ByteArray.ext
      apply Array.ext'
      rw [ByteArray.data_extract, Array.toList_extract]
      show List.take (s.size - (i + 1)) (List.drop (i + 1) s.data.toList) = (List.drop (i + 1) s.data.toList).toArray.toList
      rw [List.take_of_length_le (by rw [List.length_drop, hsz]; omega)]
    rw [e1, e2]
  · rw [if_neg hi]
    have hie : i = s.size := by omega
    subst hie
    rw [List.take_of_length_le (by omega)] at hnot
    rw [cutL_no c _ hnot, bs_data]
    rfl

/-- a node under way -/
structure PN where
  a : Int
  s : Int
  k : Int
  key : ByteArray
  text : ByteArray
  ups : List ByteArray
def pnZ : PN := ⟨0, 0, 0, ⟨#[]⟩, ⟨#[]⟩, []⟩
def PN.S (p : PN) (i : Nat) : ByteArray := p.ups.getD i ⟨#[]⟩
def PN.ok (p : PN) : Bool := nodeB p.a p.s p.k p.key p.text p.S p.ups.length
/-- what a line does -/
def step (p : PN) (line : List UInt8) : PN :=
  let w := (cutL 32 line).1
  let t := bs (cutL 32 line).2.1
  if w = [97, 117, 116, 104, 111, 114] then { p with a := (rdec t).1 }
  else if w = [115, 101, 113] then { p with s := (rdec t).1 }
  else if w = [107, 105, 110, 100] then { p with k := (rdec t).1 }
  else if w = [107, 101, 121] then { p with key := t }
  else if w = [116, 101, 120, 116] then { p with text := t }
  else if w = [117, 112] then { p with ups := p.ups ++ [t] }
  else p
/-- all lines; none where the last one is not ended -/
def run : Nat → List UInt8 → PN → Option PN
  | 0, _, _ => none
  | f + 1, l, p => if l = [] then some p else if (cutL 10 l).2.2 = true then run f (cutL 10 l).2.1 (step p (cutL 10 l).1) else none
end Go.Proofs.YtlibipbpaigmdaaGreatDoor

namespace Go.Proofs.YtlibipbpaigmdaaGreatDoor
open Go.RowKit
set_option linter.unusedVariables false

theorem cutS_any (s : ByteArray) (c : UInt8) (z : Int) (hz : z = (c.toNat : Int)) (w : World) (hs : s.size ≤ 1048576) :
    Calls Tryz.prog 133 #[.string s, .int .u8 z] w fun e w' => e = .returned (.tuple #[.string (bs (cutL c s.data.toList).1), .string (bs (cutL c s.data.toList).2.1), .bool (cutL c s.data.toList).2.2]) ∧ ∃ n, w' = w.drewN n := by
  subst hz
  refine (l1Cut_any s _ w hs).mono ?_
  rintro e w' ⟨i, hF, rfl, n, rfl⟩
  exact ⟨ret_val (cutV_is hF), n, rfl⟩

theorem ND.set0 {w : World} {N : Nat} {a s k : Int} {key text : ByteArray} {v : Value} (h : ND w N a s k key text v) (x : Int) : ND (w.setCell ⟨N, 0, none⟩ (.int .i64 x)) N x s k key text v := by
  refine ⟨World.cell?_setCell_same _ _ _ h.c0, ?_, ?_, ?_, ?_, ?_, fun i => by rw [World.frozen?_setCell]; exact h.z i⟩
  all_goals rw [World.cell?_setCell_other _ _ _ _ (by simp)]
  · exact h.c1
  · exact h.c2
  · exact h.c3
  · exact h.c4
  · exact h.c5
theorem ND.set1 {w : World} {N : Nat} {a s k : Int} {key text : ByteArray} {v : Value} (h : ND w N a s k key text v) (x : Int) : ND (w.setCell ⟨N, 1, none⟩ (.int .i64 x)) N a x k key text v := by
  refine ⟨?_, World.cell?_setCell_same _ _ _ h.c1, ?_, ?_, ?_, ?_, fun i => by rw [World.frozen?_setCell]; exact h.z i⟩
  all_goals rw [World.cell?_setCell_other _ _ _ _ (by simp)]
  · exact h.c0
  · exact h.c2
  · exact h.c3
  · exact h.c4
  · exact h.c5
theorem ND.set2 {w : World} {N : Nat} {a s k : Int} {key text : ByteArray} {v : Value} (h : ND w N a s k key text v) (x : Int) : ND (w.setCell ⟨N, 2, none⟩ (.int .i64 x)) N a s x key text v := by
  refine ⟨?_, ?_, World.cell?_setCell_same _ _ _ h.c2, ?_, ?_, ?_, fun i => by rw [World.frozen?_setCell]; exact h.z i⟩
  all_goals rw [World.cell?_setCell_other _ _ _ _ (by simp)]
  · exact h.c0
  · exact h.c1
  · exact h.c3
  · exact h.c4
  · exact h.c5

/-- all texts of a node under way are short -/
def Small (p : PN) (n : Nat) : Prop := p.key.size ≤ n ∧ p.text.size ≤ n ∧ ∀ x, x ∈ p.ups → x.size ≤ n
theorem step_small {p : PN} {line : List UInt8} {n : Nat} (h : Small p n) (hl : line.length ≤ n) : Small (step p line) n := by
  have ht : (bs (cutL 32 line).2.1).size ≤ n := by rw [bs_size]; have := (cutL_len 32 line).2.1; omega
  obtain ⟨h1, h2, h3⟩ := h
  unfold step
  simp only
  repeat' split
  all_goals first
    | exact ⟨h1, h2, h3⟩
    | exact ⟨ht, h2, h3⟩
    | exact ⟨h1, ht, h3⟩
    | exact ⟨h1, h2, fun x hx => by
        rcases List.mem_append.1 hx with h | h
        · exact h3 x h
        · simp at h; subst h; exact ht⟩

/-- the specification's ReadNode under way -/
structure SS (w0 w : World) (p : PN) (v : Value) : Prop where
  nd : ND w (w0.heap.size + 1) p.a p.s p.k p.key p.text v
  own : w.ownsRow (w0.heap.size + 2) 9 1 v p.ups.length (p.ups.map Value.string)
  z : w.heap[w0.heap.size]? = some (.cells zeroQ 50)
  b : Below w0.heap.size w0 w
theorem SS.set {w0 w : World} {p p' : PN} {v : Value} {o : Nat} {x : Value} (h : SS w0 w p v) (hn : ND (w.setCell ⟨w0.heap.size + 1, o, none⟩ x) (w0.heap.size + 1) p'.a p'.s p'.k p'.key p'.text v) (hu : p'.ups = p.ups) : SS w0 (w.setCell ⟨w0.heap.size + 1, o, none⟩ x) p' v := by
  refine ⟨hn, ?_, (Below.heap_setCell _ _ _ _ (by simp)).trans h.z, h.b.setCell (by simp) _⟩
  rw [hu]
  exact own_kept h.own (grown_set (grown_refl w (some (w0.heap.size + 1))) o x) (fun k hk => by cases hk; omega)
theorem SS.drewN {w0 w : World} {p : PN} {v : Value} (h : SS w0 w p v) (n : Nat) : SS w0 (w.drewN n) p v := ⟨⟨h.nd.c0, h.nd.c1, h.nd.c2, h.nd.c3, h.nd.c4, h.nd.c5, h.nd.z⟩, h.own, h.z, ⟨h.b.os, h.b.tape, h.b.output, h.b.size, h.b.block⟩⟩

theorem cell_alloc5 {w : World} {o : Obj} {b i : Nat} {v : Value} (h : w.cell? ⟨b, i, none⟩ = some v) : (w.alloc o).cell? ⟨b, i, none⟩ = some v := (((Below.refl w.heap.size w).alloc (Nat.le_refl _) o).cell (p := ⟨b, i, none⟩) (cell_lt h)).trans h
theorem froz_alloc5 {w : World} {o : Obj} {M : Nat} {a s k : Int} {key text : ByteArray} {v : Value} (h : ND w M a s k key text v) : (w.alloc o).frozen? ⟨M, 5, none⟩ = false := (((Below.refl w.heap.size w).alloc (Nat.le_refl _) o).frozen (p := ⟨M, 5, none⟩) (cell_lt h.c0)).trans (h.z 5)
theorem SS.app {w0 w w9 : World} {p : PN} {v v' : Value} {t : ByteArray} {o : Obj} (h : SS w0 w p v) (hob : ∀ k, v.ownBlock = some k → w0.heap.size + 2 ≤ k) (hown : w9.ownsRow (w0.heap.size + 2) 9 1 v' (p.ups.length + 1) (p.ups.map Value.string ++ [.string t])) (hg : (w.alloc o).grownBy w9 v.ownBlock) (hsz : w0.heap.size + 2 ≤ w.heap.size) :
    SS w0 (w9.setCell ⟨w0.heap.size + 1, 5, none⟩ v') { p with ups := p.ups ++ [t] } v' := by
  have hne : ∀ k, k ≤ w0.heap.size + 1 → some k ≠ v.ownBlock := fun k hk e => by have := hob k e.symm; omega
  have hga := World.grownBy_alloc w o none
  have k1 : ND w9 (w0.heap.size + 1) p.a p.s p.k p.key p.text v := (h.nd.kept hga (by simp)).kept hg (hne _ (Nat.le_refl _))
  have hz : w9.heap[w0.heap.size]? = some (.cells zeroQ 50) := (hg.block _ (by simp; omega) (hne _ (by omega))).trans ((hga.block _ (by omega) (by simp)).trans h.z)
  have hb : Below w0.heap.size w0 w9 := (h.b.alloc h.b.size o).grown hg (by have := h.b.size; simp; omega) (fun k hk => by have := hob k hk; omega)
  refine ⟨k1.set5 v', ?_, (Below.heap_setCell _ _ _ _ (by simp)).trans hz, hb.setCell (by simp) _⟩
  show (w9.setCell _ _).ownsRow _ 9 1 v' (p.ups ++ [t]).length ((p.ups ++ [t]).map Value.string)
  rw [List.length_append, List.map_append]
  exact own_kept hown (grown_set (grown_refl w9 (some (w0.heap.size + 1))) 5 v') (fun k hk => by cases hk; omega)
theorem own_sliceR {w : World} {base : Nat} {e : TypeId} {z : Nat} {v : Value} {n : Nat} {xs : List Value} (h : w.ownsRow base e z v n xs) : ∃ a cap, v = .slice a n cap := by
  rcases h.2 with ⟨rfl, rfl⟩ | ⟨g, cap, cur, rfl, _⟩
  · exact ⟨_, _, rfl⟩
  · exact ⟨_, _, rfl⟩
def strLen : Value → Nat
  | .string s => s.size
  | _ => 0
set_option maxRecDepth 20000 in
set_option maxHeartbeats 4000000 in
theorem specRead_any (s : ByteArray) (w : World) (hs : s.size ≤ 1000) :
    Calls Tryz.prog 63 #[.string s] w fun e w' => ∃ (v : Value) (q : Array Value) (b : Bool), e = .returned (.tuple #[.agg q, .bool b]) ∧ Below w.heap.size w w' ∧
      (b = true → ∃ p, run (s.data.toList.length + 1) s.data.toList pnZ = some p ∧ s.toList ≠ [] ∧ textR p.a p.s p.k p.key p.text p.S p.ups.length = s ∧ q = #[.int .i64 p.a, .int .i64 p.s, .int .i64 p.k, .string p.key, .string p.text, v] ∧ w'.ownsRow w.heap.size 9 1 v p.ups.length (p.ups.map Value.string)) ∧
      (b = false → q = zeroQ ∧ ¬ ∃ p, run (s.data.toList.length + 1) s.data.toList pnZ = some p ∧ s.toList ≠ [] ∧ textR p.a p.s p.k p.key p.text p.S p.ups.length = s) := by
  have hlen : (s.size : Int) ≤ 1000 := by omega
  obtain ⟨i0, hi, hz0, hz1, hz2⟩ := info_parts info9'
  have he := empty_list
  have hi6 : (Tryz.prog.info? 50).map (·.size) = some zeroQ.size := info50
  obtain ⟨wa, hwa⟩ : ∃ wa, wa = (w.alloc (.cells #[.int .i64 0, .int .i64 0, .int .i64 0, .string ⟨#[]⟩, .string ⟨#[]⟩, .slice none 0 0] 50)).alloc (.cells #[.int .i64 0, .int .i64 0, .int .i64 0, .string ⟨#[]⟩, .string ⟨#[]⟩, .slice none 0 0] 50) := ⟨_, rfl⟩
  have S0 : SS w wa pnZ (.slice none 0 0) := by
    have hsz : (w.alloc (.cells #[.int .i64 0, .int .i64 0, .int .i64 0, .string ⟨#[]⟩, .string ⟨#[]⟩, .slice none 0 0] 50)).heap.size = w.heap.size + 1 := by simp
    refine ⟨?_, World.ownsRow_nil _ _ _ _, ?_, ?_⟩
    · rw [hwa, ← hsz]; exact ND.new _ _ _ _ _ _ _ _
    · rw [hwa, Below.heap_alloc _ _ _ (by simp)]; exact heap_alloc_new w _
    · rw [hwa]; exact ((Below.refl _ _).alloc (Nat.le_refl _) _).alloc (by simp) _
  have HS0 : Hid (SS w wa pnZ (.slice none 0 0)) := S0
  have HWA : Hid (wa = (w.alloc (.cells #[.int .i64 0, .int .i64 0, .int .i64 0, .string ⟨#[]⟩, .string ⟨#[]⟩, .slice none 0 0] 50)).alloc (.cells #[.int .i64 0, .int .i64 0, .int .i64 0, .string ⟨#[]⟩, .string ⟨#[]⟩, .slice none 0 0] 50)) := hwa
  clear S0 hwa
  go_enter Tryz.func63, Tryz.ntmps63
  go_wp2
  rw [← HWA.out]
  go_loopw [5] (fun rv wr => ∃ (rest : ByteArray) (p : PN) (v : Value) (f : Nat), rv = .string rest ∧ rest.size ≤ 1000 ∧ p.ups.length + rest.size ≤ 1000 ∧ SS w wr p v ∧ Hid (Small p 1000) ∧ Hid (run (s.data.toList.length + 1) s.data.toList pnZ = run f rest.data.toList p ∧ rest.data.toList.length < f)) (fun rv _ => strLen rv)
  case atStart => exact ⟨s, pnZ, _, s.data.toList.length + 1, rfl, hs, by show 0 + s.size ≤ 1000; omega, HS0.out, ⟨Nat.zero_le _, Nat.zero_le _, fun x hx => by simp [pnZ] at hx⟩, ⟨rfl, Nat.lt_succ_self _⟩⟩
  case round =>
    clear HS0 HWA wa
    obtain ⟨rest, p, v, f, rfl, hr, hpr, hS, HM, HR⟩ := hrel
    have HS : Hid (SS w wr p v) := hS
    clear hS
    cases hE : rest.toList.isEmpty with
    | true =>
      have hrn : rest.data.toList = [] := by rw [ByteArray.toList_eq] at hE; simpa using hE
      have HRU : Hid (run (s.data.toList.length + 1) s.data.toList pnZ = some p) := by
        obtain ⟨f', rfl⟩ : ∃ f', f = f' + 1 := ⟨f - 1, by have := HR.out.2; omega⟩
        show _ = _
        rw [HR.out.1, hrn, run, if_pos rfl]
      have hx : ∀ i, i < p.ups.length → (p.ups.map Value.string)[i]? = some (.string (p.S i)) := fun i hi => by
        rw [List.getElem?_map, List.getElem?_eq_getElem hi]
        simp [PN.S, List.getD_eq_getElem?_getD, List.getElem?_eq_getElem hi]
      obtain ⟨ua, uc, hv, hIS⟩ := strs_of_own' HS.out.own hx
      subst hv
      have HT : Hid (Calls Tryz.prog 57 #[.agg #[.int .i64 p.a, .int .i64 p.s, .int .i64 p.k, .string p.key, .string p.text, .slice ua p.ups.length uc]] wr fun e w' => e = .returned (.string (textR p.a p.s p.k p.key p.text p.S p.ups.length)) ∧ Below wr.heap.size wr w') := specNodeTextD_any _ _ _ _ _ _ _ _ p.S wr hIS (fun i hi => by
        have : p.S i ∈ p.ups := by
          unfold PN.S
          rw [List.getD_eq_getElem?_getD, List.getElem?_eq_getElem hi]
          exact List.getElem_mem hi
        have := HM.out.2.2 _ this
        omega) (by have := HM.out.1; omega) (by have := HM.out.2.1; omega)
      have d0 := HS.out.nd.c0
      have d1 := HS.out.nd.c1
      have d2 := HS.out.nd.c2
      have d3 := HS.out.nd.c3
      have d4 := HS.out.nd.c4
      have d5 := HS.out.nd.c5
      clear hx hIS hrn
      cases hs0 : (s.toList == []) with
      | true =>
        have HNO : Hid (¬ ∃ p, run (s.data.toList.length + 1) s.data.toList pnZ = some p ∧ s.toList ≠ [] ∧ textR p.a p.s p.k p.key p.text p.S p.ups.length = s) := fun ⟨_, _, h, _⟩ => h (eq_of_beq hs0)
        obtain ⟨q, hq⟩ : ∃ q, q = zeroQ := ⟨_, rfl⟩
        have hq6 : (Tryz.prog.info? 50).map (·.size) = some q.size := by rw [hq]; exact info50
        have ho6 : zeroQ.size = q.size := by rw [hq]
        have h16 : q.all (·.oneCell') = true := by rw [hq]; simp [Value.oneCell']
        have HQQ : Hid (q = zeroQ) := hq
        clear hq
        go_wp2_with (first
          | (refine wpList_store_row rfl 50 _ _ rfl w.heap.size q rfl (congrArg Value.agg HQQ.out.symm) 50 _ HS.out.z hq6 ho6 h16 ?_))
        refine bodyPost_ret (results_row_tmpN rfl _ _ w.heap.size 50 _ _ _ rfl (setRow_heap _ _ _ _ _ _ HS.out.z) Tryz.underlying50 rfl hq6) rfl ⟨.slice ua p.ups.length uc, q, false, ret_val rfl, below_setRow HS.out.b (Nat.le_refl _) _, fun h => (by cases h), fun _ => ⟨HQQ.out, HNO.out⟩⟩
      | false =>
        have hsn : s.toList ≠ [] := fun h => by rw [h] at hs0; simp at hs0
        have HSN : Hid (s.toList ≠ []) := hsn
        clear hsn
        cases hte : ((textR p.a p.s p.k p.key p.text p.S p.ups.length).toList == s.toList) with
        | false =>
          have HNO : Hid (¬ ∃ p, run (s.data.toList.length + 1) s.data.toList pnZ = some p ∧ s.toList ≠ [] ∧ textR p.a p.s p.k p.key p.text p.S p.ups.length = s) := fun ⟨p', h1, _, h3⟩ => by
            rw [HRU.out] at h1
            cases h1
            rw [h3] at hte
            simp at hte
          obtain ⟨q, hq⟩ : ∃ q, q = zeroQ := ⟨_, rfl⟩
          have hq6 : (Tryz.prog.info? 50).map (·.size) = some q.size := by rw [hq]; exact info50
          have ho6 : zeroQ.size = q.size := by rw [hq]
          have h16 : q.all (·.oneCell') = true := by rw [hq]; simp [Value.oneCell']
          have HQQ : Hid (q = zeroQ) := hq
          clear hq
          go_wp2_with (first
            | (go_at_call 57; refine HT.out.mono ?_; rintro e w2 ⟨rfl, hB2⟩; have HB2 : Hid (Below wr.heap.size wr w2) := hB2; have HZ2 : Hid (w2.heap[w.heap.size]? = some (.cells zeroQ 50)) := (hB2.block _ (lt_of_block HS.out.z)).trans HS.out.z; clear hB2)
            | (refine wpList_store_row rfl 50 _ _ rfl w.heap.size q rfl (congrArg Value.agg HQQ.out.symm) 50 _ HZ2.out hq6 ho6 h16 ?_))
          refine bodyPost_ret (results_row_tmpN rfl _ _ w.heap.size 50 _ _ _ rfl (setRow_heap _ _ _ _ _ _ HZ2.out) Tryz.underlying50 rfl hq6) rfl ⟨.slice ua p.ups.length uc, q, false, ret_val rfl, below_setRow (HS.out.b.trans (HB2.out.mono HS.out.b.size)) (Nat.le_refl _) _, fun h => (by cases h), fun _ => ⟨HQQ.out, HNO.out⟩⟩
        | true =>
          have HTE : Hid (textR p.a p.s p.k p.key p.text p.S p.ups.length = s) := by
            have h1 : (textR p.a p.s p.k p.key p.text p.S p.ups.length).toList = s.toList := by simpa using hte
            rw [ByteArray.toList_eq, ByteArray.toList_eq] at h1
            exact ByteArray.ext (Array.ext' h1)
          obtain ⟨q, hq⟩ : ∃ q, q = #[Value.int .i64 p.a, .int .i64 p.s, .int .i64 p.k, .string p.key, .string p.text, .slice ua p.ups.length uc] := ⟨_, rfl⟩
          have hq6 : (Tryz.prog.info? 50).map (·.size) = some q.size := by rw [hq]; exact info50
          have ho6 : zeroQ.size = q.size := by rw [hq]; rfl
          have h16 : q.all (·.oneCell') = true := by rw [hq]; simp [Value.oneCell']
          have HQQ : Hid (q = #[Value.int .i64 p.a, .int .i64 p.s, .int .i64 p.k, .string p.key, .string p.text, .slice ua p.ups.length uc]) := hq
          clear hq
          go_wp2_with (first
            | (go_at_call 57; refine HT.out.mono ?_; rintro e w2 ⟨rfl, hB2⟩; have HB2 : Hid (Below wr.heap.size wr w2) := hB2; have HZ2 : Hid (w2.heap[w.heap.size]? = some (.cells zeroQ 50)) := (hB2.block _ (lt_of_block HS.out.z)).trans HS.out.z; have N2 := HS.out.nd.kept (row := none) ⟨hB2.os, hB2.tape, hB2.output, hB2.size, fun k hk _ => hB2.block k hk⟩ (by simp); have k0 := N2.c0; have k1 := N2.c1; have k2 := N2.c2; have k3 := N2.c3; have k4 := N2.c4; have k5 := N2.c5; clear hB2 N2)
            | (refine wpList_store_row rfl 50 _ _ rfl w.heap.size q rfl (congrArg Value.agg HQQ.out.symm) 50 _ HZ2.out hq6 ho6 h16 ?_))
          refine bodyPost_ret (results_row_tmpN rfl _ _ w.heap.size 50 _ _ _ rfl (setRow_heap _ _ _ _ _ _ HZ2.out) Tryz.underlying50 rfl hq6) rfl ⟨.slice ua p.ups.length uc, q, true, ret_val rfl, below_setRow (HS.out.b.trans (HB2.out.mono HS.out.b.size)) (Nat.le_refl _) _, fun _ => ⟨p, HRU.out, HSN.out, HTE.out, HQQ.out, mono_baseR (own_setRow (ownsRow_below HS.out.own HB2.out) (by omega) _) (by omega)⟩, fun h => by cases h⟩
    | false =>
      have hne : rest.data.toList ≠ [] := by rw [ByteArray.toList_eq] at hE; intro h; rw [h] at hE; cases hE
      obtain ⟨f', rfl⟩ : ∃ f', f = f' + 1 := ⟨f - 1, by have := HR.out.2; omega⟩
      have hcl := cutL_len 10 rest.data.toList
      have hrl : rest.data.toList.length = rest.size := by rw [Array.length_toList]; rfl
      have HC : Hid (Calls Tryz.prog 133 #[.string rest, .int .u8 10] wr fun e w' => e = .returned (.tuple #[.string (bs (cutL 10 rest.data.toList).1), .string (bs (cutL 10 rest.data.toList).2.1), .bool (cutL 10 rest.data.toList).2.2]) ∧ ∃ n, w' = wr.drewN n) := cutS_any rest 10 10 rfl wr (by omega)
      cases hen : (cutL 10 rest.data.toList).2.2 with
      | false =>
        have HN : Hid (run (s.data.toList.length + 1) s.data.toList pnZ = none) := by
          show _ = _
          rw [HR.out.1, run, if_neg hne, if_neg (by rw [hen]; decide)]
        rw [hen] at HC
        obtain ⟨q, hq⟩ : ∃ q, q = zeroQ := ⟨_, rfl⟩
        have hq6 : (Tryz.prog.info? 50).map (·.size) = some q.size := by rw [hq]; exact info50
        have ho6 : zeroQ.size = q.size := by rw [hq]
        have h16 : q.all (·.oneCell') = true := by rw [hq]; simp [Value.oneCell']
        have HQQ : Hid (q = zeroQ) := hq
        clear hq
        go_wp2_with (first
          | (go_at_call 133; refine HC.out.mono ?_; rintro e w1 ⟨rfl, n, hw1⟩; rw [hw1]; clear hw1 w1)
          | (refine wpList_store_row rfl 50 _ _ rfl w.heap.size q rfl (congrArg Value.agg HQQ.out.symm) 50 _ (HS.out.drewN n).z hq6 ho6 h16 ?_))
        refine bodyPost_ret (results_row_tmpN rfl _ _ w.heap.size 50 _ _ _ rfl (setRow_heap _ _ _ _ _ _ (HS.out.drewN n).z) Tryz.underlying50 rfl hq6) rfl ⟨v, q, false, ret_val rfl, below_setRow (HS.out.drewN n).b (Nat.le_refl _) _, fun h => (by cases h), fun _ => ⟨HQQ.out, fun ⟨p, hp, _⟩ => by rw [HN.out] at hp; cases hp⟩⟩
      | true =>
        have HR' : Hid (run (s.data.toList.length + 1) s.data.toList pnZ = run f' (cutL 10 rest.data.toList).2.1 (step p (cutL 10 rest.data.toList).1) ∧ (cutL 10 rest.data.toList).2.1.length < f') := by
          refine ⟨?_, by have := HR.out.2; have := hcl.2.2 hne; omega⟩
          rw [HR.out.1, run, if_neg hne, if_pos hen]
        have HM' : Hid (Small (step p (cutL 10 rest.data.toList).1) 1000) := step_small HM.out (by omega)
        rw [hen] at HC
        have hl1 : (bs (cutL 10 rest.data.toList).1).size ≤ 1000 := by rw [bs_size]; omega
        have hl2 : (bs (cutL 10 rest.data.toList).2.1).size < rest.size := by rw [bs_size]; have := hcl.2.2 hne; omega
        have hdl : (bs (cutL 10 rest.data.toList).2.1).data.toList = (cutL 10 rest.data.toList).2.1 := bs_list _
        have hdl1 : (bs (cutL 10 rest.data.toList).1).data.toList = (cutL 10 rest.data.toList).1 := bs_list _
        generalize hLn : (cutL 10 rest.data.toList).1 = line at *
        generalize hMr : (cutL 10 rest.data.toList).2.1 = more at *
        clear hLn hMr hcl hen hne HR HM hrl
        have hc2 := cutL_len 32 line
        have HC2 : Hid (∀ v, Calls Tryz.prog 133 #[.string (bs line), .int .u8 32] v fun e w' => e = .returned (.tuple #[.string (bs (cutL 32 line).1), .string (bs (cutL 32 line).2.1), .bool (cutL 32 line).2.2]) ∧ ∃ n, w' = v.drewN n) := fun v => by
          have := cutS_any (bs line) 32 32 rfl v (by omega)
          rw [hdl1] at this
          exact this
        have HI : Hid (∀ v, Calls Tryz.prog 134 #[.string (bs (cutL 32 line).2.1)] v fun e w' => e = .returned (.tuple #[.int .i64 (rdec (bs (cutL 32 line).2.1)).1, .bool (rdec (bs (cutL 32 line).2.1)).2]) ∧ w' = v) := fun v => l1Int_any _ v (by rw [bs_size]; rw [bs_size] at hl1; omega)
        have HST : Hid (step p line = step p line) := rfl
        have hst := (rfl : step p line = step p line)
        unfold step at hst
        simp only at hst
        have HSTEP : Hid (step p line = (if (cutL 32 line).1 = [97, 117, 116, 104, 111, 114] then { p with a := (rdec (bs (cutL 32 line).2.1)).1 } else if (cutL 32 line).1 = [115, 101, 113] then { p with s := (rdec (bs (cutL 32 line).2.1)).1 } else if (cutL 32 line).1 = [107, 105, 110, 100] then { p with k := (rdec (bs (cutL 32 line).2.1)).1 } else if (cutL 32 line).1 = [107, 101, 121] then { p with key := bs (cutL 32 line).2.1 } else if (cutL 32 line).1 = [116, 101, 120, 116] then { p with text := bs (cutL 32 line).2.1 } else if (cutL 32 line).1 = [117, 112] then { p with ups := p.ups ++ [bs (cutL 32 line).2.1] } else p)) := rfl
        clear hst HST hc2
        have HHD : Hid ((bs more).data.toList = more) := hdl
        generalize (cutL 32 line).1 = wd at *
        generalize (cutL 32 line).2.1 = tl at *
        generalize (cutL 32 line).2.2 = en2 at *
        have c0 := HS.out.nd.c0
        have c1 := HS.out.nd.c1
        have c2 := HS.out.nd.c2
        have c3 := HS.out.nd.c3
        have c4 := HS.out.nd.c4
        have c5 := HS.out.nd.c5
        have z0 := HS.out.nd.z 0
        have z1 := HS.out.nd.z 1
        have z2 := HS.out.nd.z 2
        have z3 := HS.out.nd.z 3
        have z4 := HS.out.nd.z 4
        have z5 := HS.out.nd.z 5
        clear hdl hdl1
        by_cases w0 : wd = [97, 117, 116, 104, 111, 114]
        · have e0 : ((bs wd).toList == ([97, 117, 116, 104, 111, 114] : List UInt8)) = true := by rw [w0, ByteArray.toList_eq]; rfl
          have HP' : Hid (step p line = { p with a := (rdec (bs tl)).1 }) := by show _ = _; rw [HSTEP.out, if_pos w0]
          clear w0
          go_wp2_with (first
            | (go_at_call_of 133 rest; refine HC.out.mono ?_; rintro e w1 ⟨rfl, n, hw1⟩; rw [hw1]; clear hw1 w1)
            | (go_at_call_of 133 line; refine (HC2.out _).mono ?_; rintro e w1 ⟨rfl, n2, hw1⟩; rw [hw1]; clear hw1 w1)
            | (go_at_call 134; refine (HI.out _).mono ?_; rintro e w1 ⟨rfl, hw1⟩; rw [hw1]; clear hw1 w1))
          go_roundw
          case rel => exact ⟨bs more, step p line, v, f', rfl, by omega, by rw [HP'.out]; show p.ups.length + _ ≤ 1000; omega, by rw [HP'.out]; exact (HS.out.drewN (n + n2)).set (p' := { p with a := (rdec (bs tl)).1 }) ((HS.out.drewN (n + n2)).nd.set0 _) rfl, HM', by rw [HHD.out]; exact HR'⟩
          case measure => exact hl2
        · have e0 : ((bs wd).toList == ([97, 117, 116, 104, 111, 114] : List UInt8)) = false := by rw [ByteArray.toList_eq, bs_list]; simpa using w0
          by_cases w1 : wd = [115, 101, 113]
          · have e1 : ((bs wd).toList == ([115, 101, 113] : List UInt8)) = true := by rw [w1, ByteArray.toList_eq]; rfl
            have HP' : Hid (step p line = { p with s := (rdec (bs tl)).1 }) := by show _ = _; rw [HSTEP.out, if_neg w0, if_pos w1]
            clear w1 w0
            go_wp2_with (first
              | (go_at_call_of 133 rest; refine HC.out.mono ?_; rintro e w1 ⟨rfl, n, hw1⟩; rw [hw1]; clear hw1 w1)
              | (go_at_call_of 133 line; refine (HC2.out _).mono ?_; rintro e w1 ⟨rfl, n2, hw1⟩; rw [hw1]; clear hw1 w1)
              | (go_at_call 134; refine (HI.out _).mono ?_; rintro e w1 ⟨rfl, hw1⟩; rw [hw1]; clear hw1 w1))
            go_roundw
            case rel => exact ⟨bs more, step p line, v, f', rfl, by omega, by rw [HP'.out]; show p.ups.length + _ ≤ 1000; omega, by rw [HP'.out]; exact (HS.out.drewN (n + n2)).set (p' := { p with s := (rdec (bs tl)).1 }) ((HS.out.drewN (n + n2)).nd.set1 _) rfl, HM', by rw [HHD.out]; exact HR'⟩
            case measure => exact hl2
          · have e1 : ((bs wd).toList == ([115, 101, 113] : List UInt8)) = false := by rw [ByteArray.toList_eq, bs_list]; simpa using w1
            by_cases w2 : wd = [107, 105, 110, 100]
            · have e2 : ((bs wd).toList == ([107, 105, 110, 100] : List UInt8)) = true := by rw [w2, ByteArray.toList_eq]; rfl
              have HP' : Hid (step p line = { p with k := (rdec (bs tl)).1 }) := by show _ = _; rw [HSTEP.out, if_neg w0, if_neg w1, if_pos w2]
              clear w2 w0 w1
              go_wp2_with (first
                | (go_at_call_of 133 rest; refine HC.out.mono ?_; rintro e w1 ⟨rfl, n, hw1⟩; rw [hw1]; clear hw1 w1)
                | (go_at_call_of 133 line; refine (HC2.out _).mono ?_; rintro e w1 ⟨rfl, n2, hw1⟩; rw [hw1]; clear hw1 w1)
                | (go_at_call 134; refine (HI.out _).mono ?_; rintro e w1 ⟨rfl, hw1⟩; rw [hw1]; clear hw1 w1))
              go_roundw
              case rel => exact ⟨bs more, step p line, v, f', rfl, by omega, by rw [HP'.out]; show p.ups.length + _ ≤ 1000; omega, by rw [HP'.out]; exact (HS.out.drewN (n + n2)).set (p' := { p with k := (rdec (bs tl)).1 }) ((HS.out.drewN (n + n2)).nd.set2 _) rfl, HM', by rw [HHD.out]; exact HR'⟩
              case measure => exact hl2
            · have e2 : ((bs wd).toList == ([107, 105, 110, 100] : List UInt8)) = false := by rw [ByteArray.toList_eq, bs_list]; simpa using w2
              by_cases w3 : wd = [107, 101, 121]
              · have e3 : ((bs wd).toList == ([107, 101, 121] : List UInt8)) = true := by rw [w3, ByteArray.toList_eq]; rfl
                have HP' : Hid (step p line = { p with key := bs tl }) := by show _ = _; rw [HSTEP.out, if_neg w0, if_neg w1, if_neg w2, if_pos w3]
                clear w3 w0 w1 w2
                go_wp2_with (first
                  | (go_at_call_of 133 rest; refine HC.out.mono ?_; rintro e w1 ⟨rfl, n, hw1⟩; rw [hw1]; clear hw1 w1)
                  | (go_at_call_of 133 line; refine (HC2.out _).mono ?_; rintro e w1 ⟨rfl, n2, hw1⟩; rw [hw1]; clear hw1 w1)
                  | (go_at_call 134; refine (HI.out _).mono ?_; rintro e w1 ⟨rfl, hw1⟩; rw [hw1]; clear hw1 w1))
                go_roundw
                case rel => exact ⟨bs more, step p line, v, f', rfl, by omega, by rw [HP'.out]; show p.ups.length + _ ≤ 1000; omega, by rw [HP'.out]; exact (HS.out.drewN (n + n2)).set (p' := { p with key := bs tl }) ((HS.out.drewN (n + n2)).nd.set3 _) rfl, HM', by rw [HHD.out]; exact HR'⟩
                case measure => exact hl2
              · have e3 : ((bs wd).toList == ([107, 101, 121] : List UInt8)) = false := by rw [ByteArray.toList_eq, bs_list]; simpa using w3
                by_cases w4 : wd = [116, 101, 120, 116]
                · have e4 : ((bs wd).toList == ([116, 101, 120, 116] : List UInt8)) = true := by rw [w4, ByteArray.toList_eq]; rfl
                  have HP' : Hid (step p line = { p with text := bs tl }) := by show _ = _; rw [HSTEP.out, if_neg w0, if_neg w1, if_neg w2, if_neg w3, if_pos w4]
                  clear w4 w0 w1 w2 w3
                  go_wp2_with (first
                    | (go_at_call_of 133 rest; refine HC.out.mono ?_; rintro e w1 ⟨rfl, n, hw1⟩; rw [hw1]; clear hw1 w1)
                    | (go_at_call_of 133 line; refine (HC2.out _).mono ?_; rintro e w1 ⟨rfl, n2, hw1⟩; rw [hw1]; clear hw1 w1)
                    | (go_at_call 134; refine (HI.out _).mono ?_; rintro e w1 ⟨rfl, hw1⟩; rw [hw1]; clear hw1 w1))
                  go_roundw
                  case rel => exact ⟨bs more, step p line, v, f', rfl, by omega, by rw [HP'.out]; show p.ups.length + _ ≤ 1000; omega, by rw [HP'.out]; exact (HS.out.drewN (n + n2)).set (p' := { p with text := bs tl }) ((HS.out.drewN (n + n2)).nd.set4 _) rfl, HM', by rw [HHD.out]; exact HR'⟩
                  case measure => exact hl2
                · have e4 : ((bs wd).toList == ([116, 101, 120, 116] : List UInt8)) = false := by rw [ByteArray.toList_eq, bs_list]; simpa using w4
                  by_cases w5 : wd = [117, 112]
                  · have e5 : ((bs wd).toList == ([117, 112] : List UInt8)) = true := by rw [w5, ByteArray.toList_eq]; rfl
                    have HP' : Hid (step p line = { p with ups := p.ups ++ [bs tl] }) := by show _ = _; rw [HSTEP.out, if_neg w0, if_neg w1, if_neg w2, if_neg w3, if_neg w4, if_pos w5]
                    clear w5 w0 w1 w2 w3 w4
                    have hmx : p.ups.length + 1 ≤ maxLen := by unfold maxLen; omega
                    have hbt : (p.ups.length + 1) * 16 ≤ 140737488355328 := by omega
                    have hmx' : Hid (p.ups.length + 1 ≤ maxLen) := hmx
                    have hbt' : Hid ((p.ups.length + 1) * 16 ≤ 140737488355328) := hbt
                    clear hmx hbt
                    have HOB : Hid (∀ k, v.ownBlock = some k → w.heap.size + 2 ≤ k) := fun k hk => (HS.out.own.lt k hk).1
                    have HSZ : Hid (w.heap.size + 2 ≤ wr.heap.size) := cell_lt HS.out.nd.c0
                    go_wp2_with (first
                      | (go_at_call_of 133 rest; refine HC.out.mono ?_; rintro e w1 ⟨rfl, n, hw1⟩; rw [hw1]; clear hw1 w1)
                      | (go_at_call_of 133 line; refine (HC2.out _).mono ?_; rintro e w1 ⟨rfl, n2, hw1⟩; rw [hw1]; clear hw1 w1)
                      | (go_at_call 134; refine (HI.out _).mono ?_; rintro e w1 ⟨rfl, hw1⟩; rw [hw1]; clear hw1 w1)
                      | (at_builtin; refine wpList_append_own _ rfl _ _ 25 rfl (w.heap.size + 2) 9 i0 (.string ⟨#[]⟩) 1 16 Tryz.underlying25 hi hz0 hz1 hz2 rfl (by decide) v p.ups.length (p.ups.map Value.string) rfl (World.ownsRow.alloc (HS.out.drewN (n + n2)).own _) ⟨wr.heap.size, 0, none⟩ 1 1 [.string (bs tl)] rfl rfl (World.news_of_block (heap_alloc_new _ _)) (fun u hu => by simp at hu; subst hu; rfl) hmx'.out hbt'.out (by have h9 := HSZ.out; have h8 : ((wr.drewN n).drewN n2).heap.size = wr.heap.size := rfl; simp; omega) ?_; intro v' w9 hown9 hgrow9 _; obtain ⟨pa, pc, hv'⟩ := own_sliceR hown9; subst hv'; have k5 : w9.cell? ⟨w.heap.size + 1, 5, none⟩ = some v := hgrow9.cell (cell_alloc5 (HS.out.drewN (n + n2)).nd.c5) (fun e => by have := HOB.out _ e.symm; simp at this); have kz : w9.frozen? ⟨w.heap.size + 1, 5, none⟩ = false := (World.frozen?_of_block (hgrow9.block (w.heap.size + 1) (by have h9 := HSZ.out; have h8 : ((wr.drewN n).drewN n2).heap.size = wr.heap.size := rfl; simp; omega) (fun e => by have := HOB.out _ e.symm; omega))).trans (froz_alloc5 (HS.out.drewN (n + n2)).nd)))
                    go_roundw
                    case rel =>
                      refine ⟨bs more, step p line, .slice pa (p.ups.length + 1) pc, f', rfl, by omega, by rw [HP'.out]; show (p.ups ++ [bs tl]).length + _ ≤ 1000; rw [List.length_append]; show p.ups.length + 1 + _ ≤ 1000; omega, ?_, HM', by rw [HHD.out]; exact HR'⟩
                      rw [HP'.out]
                      exact SS.app (HS.out.drewN (n + n2)) HOB.out hown9 hgrow9 HSZ.out
                    case measure => exact hl2
                  · have e5 : ((bs wd).toList == ([117, 112] : List UInt8)) = false := by rw [ByteArray.toList_eq, bs_list]; simpa using w5
                    have hp' : step p line = p := by rw [HSTEP.out, if_neg w0, if_neg w1, if_neg w2, if_neg w3, if_neg w4, if_neg w5]
                    have HP' : Hid (step p line = p) := hp'
                    clear hp' w0 w1 w2 w3 w4 w5
                    go_wp2_with (first
                      | (go_at_call_of 133 rest; refine HC.out.mono ?_; rintro e w1 ⟨rfl, n, hw1⟩; rw [hw1]; clear hw1 w1)
                      | (go_at_call_of 133 line; refine (HC2.out _).mono ?_; rintro e w1 ⟨rfl, n2, hw1⟩; rw [hw1]; clear hw1 w1)
                      | (go_at_call 134; refine (HI.out _).mono ?_; rintro e w1 ⟨rfl, hw1⟩; rw [hw1]; clear hw1 w1))
                    go_roundw
                    case rel => exact ⟨bs more, step p line, v, f', rfl, by omega, by rw [HP'.out]; omega, by rw [HP'.out]; exact HS.out.drewN (n + n2), HM', by rw [HHD.out]; exact HR'⟩
                    case measure => exact hl2
end Go.Proofs.YtlibipbpaigmdaaGreatDoor

namespace Go.Proofs.YtlibipbpaigmdaaGreatDoor
open Go.RowKit
set_option linter.unusedVariables false

/-- a line as bytes -/
def lineL (w v : List UInt8) : List UInt8 := w ++ 32 :: (v ++ [10])
theorem lineB_list (w v : ByteArray) : (lineB w v).data.toList = lineL w.data.toList v.data.toList := by
  unfold lineB lineL
  simp

theorem cut_cutL : ∀ l : List UInt8, Lib.cut l [10] = cutL 10 l
  | [] => by decide
  | x :: l => by
    have ih := cut_cutL l
    have hg := Lib.index_ge l [10]
    by_cases hx : x = 10
    · subst hx
      have h0 : Lib.index (10 :: l) [10] = 0 := by unfold Lib.index; simp
      unfold Lib.cut
      rw [h0]
      simp [cutL]
    · have hi : Lib.index (x :: l) [10] = if Lib.index l [10] == -1 then -1 else Lib.index l [10] + 1 := by
        conv => lhs; unfold Lib.index
        have : ([10].isPrefixOf (x :: l)) = false := by
          simp only [List.isPrefixOf, Bool.and_true, beq_eq_false_iff_ne]
          exact fun e => hx e.symm
        rw [this]
        rfl
      rw [cutL, if_neg hx, ← ih]
      unfold Lib.cut
      rw [hi]
      by_cases h1 : Lib.index l [10] = -1
      · rw [h1]; simp
      · obtain ⟨n, hn⟩ := Int.eq_ofNat_of_zero_le (show 0 ≤ Lib.index l [10] by omega)
        have h2 : ((n : Int) == -1) = false := by rw [beq_eq_false_iff_ne]; omega
        have h3 : ((n : Int) + 1).toNat = n + 1 := by omega
        have h4 : (0 : Int) ≤ (n : Int) + 1 := by omega
        rw [hn, h2]
        simp [h3, h4]
theorem cutL_back (c : UInt8) : ∀ l : List UInt8, (cutL c l).2.2 = true → l = (cutL c l).1 ++ c :: (cutL c l).2.1
  | [], h => by simp [cutL] at h
  | x :: l, h => by
    by_cases hx : x = c
    · subst hx; simp [cutL]
    · rw [cutL, if_neg hx] at h ⊢
      have := cutL_back c l h
      simp only [List.cons_append]
      rw [← this]

theorem val_back {r word : ByteArray} {f : Bool} (h : valF r word f = false) : f = false ∧ r.data.toList = lineL word.data.toList (valV r word).data.toList ++ (restN r).data.toList := by
  unfold valF at h
  simp only [Bool.or_eq_false_iff, Bool.not_eq_false'] at h
  obtain ⟨⟨hf, he⟩, hn⟩ := h
  refine ⟨hf, ?_⟩
  have hc : cutN r = cutL 10 r.data.toList := cut_cutL _
  rw [hc] at he
  have hb := cutL_back 10 _ he
  have hv : (valV r word).data.toList = (cutN r).1.drop (word.data.toList ++ [32]).length := by
    unfold valV
    rw [bs_list]
    unfold Lib.trimPrefix
    rw [if_pos (show Lib.hasPrefix (cutN r).1 (word.data.toList ++ [32]) = true from hn)]
  have hp : (word.data.toList ++ [32]) <+: (cutN r).1 := List.isPrefixOf_iff_prefix.1 hn
  obtain ⟨t, ht⟩ := hp
  have hv2 : (valV r word).data.toList = t := by rw [hv, ← ht, List.drop_left]
  have hr : (restN r).data.toList = (cutN r).2.1 := by unfold restN; rw [bs_list]
  rw [hv2, hr]
  rw [hc] at ht ⊢
  conv => lhs; rw [hb, ← ht]
  unfold lineL
  simp
theorem val_line {r word : ByteArray} {v rest : List UInt8} (h : r.data.toList = lineL word.data.toList v ++ rest) (hw : 10 ∉ word.data.toList) (hv : 10 ∉ v) : valV r word = bs v ∧ (∀ f, valF r word f = f) ∧ restN r = bs rest := by
  have hc : cutN r = (word.data.toList ++ 32 :: v, rest, true) := by
    show Lib.cut _ [10] = _
    rw [cut_cutL, h]
    have e : lineL word.data.toList v ++ rest = (word.data.toList ++ 32 :: v) ++ 10 :: rest := by unfold lineL; simp
    rw [e]
    exact cutL_yes 10 rest _ (by simp [hw, hv])
  have hp : Lib.hasPrefix (word.data.toList ++ 32 :: v) (word.data.toList ++ [32]) = true := List.isPrefixOf_iff_prefix.2 ⟨v, by simp⟩
  refine ⟨?_, fun f => ?_, ?_⟩
  · unfold valV Lib.trimPrefix
    rw [hc, if_pos hp]
    show bs ((word.data.toList ++ 32 :: v).drop _) = _
    rw [show word.data.toList ++ 32 :: v = (word.data.toList ++ [32]) ++ v by simp, List.drop_left]
  · unfold valF valN
    rw [hc]
    show (f || !true || !(Lib.hasPrefix (word.data.toList ++ 32 :: v) (word.data.toList ++ [32]))) = f
    rw [hp]
    simp
  · unfold restN
    rw [hc]

/-- the lines of the ups -/
def upsL : List ByteArray → List UInt8
  | [] => []
  | u :: L => lineL [117, 112] u.data.toList ++ upsL L
theorem upsL_append (A B : List ByteArray) : upsL (A ++ B) = upsL A ++ upsL B := by
  induction A with
  | nil => rfl
  | cons u A ih => show lineL _ _ ++ upsL (A ++ B) = (lineL _ _ ++ upsL A) ++ upsL B; rw [ih, List.append_assoc]
theorem upsB_list (H : ByteArray) (S : Nat → ByteArray) : ∀ j, (upsB H S j).data.toList = H.data.toList ++ upsL ((List.range j).map S)
  | 0 => by simp [upsB, upsL]
  | j + 1 => by
    unfold upsB
    rw [ByteArray.data_append, Array.toList_append, upsB_list H S j, lineB_list, List.range_succ, List.map_append, upsL_append, List.append_assoc]
    simp [upsL]
theorem headB_list (a s k : Nat) (key text : ByteArray) : (headB a s k key text).data.toList = lineL wAuthor.data.toList (decB a).data.toList ++ (lineL wSeq.data.toList (decB s).data.toList ++ (lineL wKind.data.toList (decB k).data.toList ++ (lineL wKey.data.toList key.data.toList ++ lineL wText.data.toList text.data.toList))) := by
  unfold headB
  simp only [ByteArray.data_append, Array.toList_append, lineB_list, List.append_assoc]

theorem stU_back (r : ByteArray) (f : Bool) : ∀ j, (stU r f j).2 = false → f = false ∧ r.data.toList = upsL ((List.range j).map fun i => valV (stU r f i).1 wUp) ++ (stU r f j).1.data.toList
  | 0, h => ⟨h, by simp [upsL, stU]⟩
  | j + 1, h => by
    have hv := val_back (show valF (stU r f j).1 wUp (stU r f j).2 = false from h)
    obtain ⟨hf, he⟩ := stU_back r f j hv.1
    refine ⟨hf, ?_⟩
    rw [List.range_succ, List.map_append, upsL_append]
    conv => lhs; rw [he, hv.2]
    show _ = _ ++ (restN (stU r f j).1).data.toList
    simp [upsL, List.append_assoc]
theorem stU_line {r : ByteArray} {L : List ByteArray} (h : r.data.toList = upsL L) (hL : ∀ u, u ∈ L → 10 ∉ u.data.toList) : ∀ i, i ≤ L.length → stU r false i = (bs (upsL (L.drop i)), false)
  | 0, _ => by
    show (r, false) = _
    rw [List.drop_zero, ← h, bs_data]
  | i + 1, hi => by
    have ih := stU_line h hL i (by omega)
    have hd : L.drop i = L[i] :: L.drop (i + 1) := List.drop_eq_getElem_cons (by omega)
    have hl := val_line (r := bs (upsL (L.drop i))) (word := wUp) (v := L[i].data.toList) (rest := upsL (L.drop (i + 1))) (by rw [bs_list, hd]; rfl) (by decide) (hL _ (List.getElem_mem _))
    show (restN (stU r false i).1, valF (stU r false i).1 wUp (stU r false i).2) = _
    rw [ih]
    exact Prod.ext hl.2.2 (hl.2.1 false)
theorem stU_val {r : ByteArray} {L : List ByteArray} (h : r.data.toList = upsL L) (hL : ∀ u, u ∈ L → 10 ∉ u.data.toList) (i : Nat) (hi : i < L.length) : valV (stU r false i).1 wUp = L[i] := by
  have hd : L.drop i = L[i] :: L.drop (i + 1) := List.drop_eq_getElem_cons hi
  have hl := val_line (r := bs (upsL (L.drop i))) (word := wUp) (v := L[i].data.toList) (rest := upsL (L.drop (i + 1))) (by rw [bs_list, hd]; rfl) (by decide) (hL _ (List.getElem_mem _))
  rw [stU_line h hL i (by omega)]
  exact hl.1.trans (bs_data _)
theorem goes_line {r : ByteArray} {L : List ByteArray} (h : r.data.toList = upsL L) (hL : ∀ u, u ∈ L → 10 ∉ u.data.toList) (i : Nat) (hi : i ≤ L.length) : goes (stU r false i) = decide (i < L.length) := by
  rw [stU_line h hL i hi]
  unfold goes
  rw [ByteArray.toList_eq, bs_list]
  by_cases hl : i < L.length
  · have hd : L.drop i = L[i] :: L.drop (i + 1) := List.drop_eq_getElem_cons hl
    rw [hd]
    simp [upsL, lineL, hl]
  · have : i = L.length := by omega
    subst this
    simp [upsL]

theorem run_line {word : List UInt8} {v rest : List UInt8} (h1 : 10 ∉ word) (h2 : 32 ∉ word) (h3 : 10 ∉ v) (f : Nat) (p : PN) : run (f + 1) (lineL word v ++ rest) p = run f rest (step p (word ++ 32 :: v)) := by
  have e : lineL word v ++ rest = (word ++ 32 :: v) ++ 10 :: rest := by unfold lineL; simp
  have hc := cutL_yes 10 rest (word ++ 32 :: v) (by simp [h1, h3])
  rw [run, if_neg (by rw [e]; simp), e, hc, if_pos rfl]
theorem step_word {word v : List UInt8} (h2 : 32 ∉ word) : cutL 32 (word ++ 32 :: v) = (word, v, true) := cutL_yes 32 v word h2
theorem run_ups : ∀ (L : List ByteArray) (p : PN), (∀ u, u ∈ L → 10 ∉ u.data.toList) → run (L.length + 1) (upsL L) p = some { p with ups := p.ups ++ L }
  | [], p, _ => by simp [run, upsL]
  | u :: L, p, h => by
    show run (L.length + 1 + 1) (lineL [117, 112] u.data.toList ++ upsL L) p = _
    rw [run_line (by decide) (by decide) (h u List.mem_cons_self)]
    have hs : step p ([117, 112] ++ 32 :: u.data.toList) = { p with ups := p.ups ++ [u] } := by
      unfold step
      rw [step_word (by decide)]
      simp [bs_data]
    rw [hs, run_ups L _ (fun x hx => h x (List.mem_cons_of_mem _ hx))]
    simp
theorem run_mono : ∀ (f : Nat) (l : List UInt8) (p q : PN) (d : Nat), run f l p = some q → run (f + d) l p = some q
  | 0, _, _, _, _, h => by simp [run] at h
  | f + 1, l, p, q, d, h => by
    rw [show f + 1 + d = (f + d) + 1 by omega]
    rw [run] at h ⊢
    by_cases h0 : l = []
    · rw [if_pos h0] at h ⊢; exact h
    · rw [if_neg h0] at h ⊢
      by_cases h1 : (cutL 10 l).2.2 = true
      · rw [if_pos h1] at h ⊢; exact run_mono f _ _ _ d h
      · rw [if_neg h1] at h; cases h

theorem numOf_pos {t : ByteArray} (h0 : bt t 0 ≠ 48) : ∀ k, 1 ≤ k → digsB t 0 k = true → 1 ≤ numD t 0 k
  | 0, h, _ => by omega
  | 1, _, h => by
    rw [digsB_succ, Bool.and_eq_true] at h
    have := digB_iff.1 h.2
    simp only [Nat.zero_add] at this
    simp only [numD, Nat.zero_add]
    omega
  | k + 2, _, h => by
    rw [digsB_succ, Bool.and_eq_true] at h
    have ih := numOf_pos h0 (k + 1) (by omega) h.1
    have := digB_iff.1 h.2
    show 1 ≤ 10 * numD t 0 (k + 1) + (bt t (0 + (k + 1)) - 48)
    omega
theorem dgI_bt {t : ByteArray} {i : Nat} (h : i < t.size) : (dgI (bt t i)).data.toList = [t.data.toList[i]'(by rw [← Lib.size_eq]; exact h)] := by
  have : bt t i = (t[i].toNat : Int) := (bt_in h).symm
  rw [this]
  unfold dgI
  simp
  rfl
theorem dec_num {t : ByteArray} (h0 : 1 < t.size → bt t 0 ≠ 48) : ∀ k, 1 ≤ k → k ≤ t.size → digsB t 0 k = true → (decB (numD t 0 k).toNat).data.toList = t.data.toList.take k
  | 0, h, _, _ => by omega
  | 1, _, hk, h => by
    rw [digsB_succ, Bool.and_eq_true] at h
    have hd := digB_iff.1 h.2
    simp only [Nat.zero_add] at hd
    have e : numD t 0 1 = bt t 0 - 48 := by simp [numD]
    rw [e, decB_one (by omega)]
    rw [show (48 : Int) + ((bt t 0 - 48).toNat : Int) = bt t 0 by omega, dgI_bt (by omega)]
    have hl := Lib.size_eq t
    rw [List.take_add_one, List.take_zero, List.getElem?_eq_getElem (by omega)]
    rfl
  | k + 2, _, hk, h => by
    rw [digsB_succ, Bool.and_eq_true] at h
    have ih := dec_num h0 (k + 1) (by omega) (by omega) h.1
    have hp := numOf_pos (h0 (by omega)) (k + 1) (by omega) h.1
    have hd := digB_iff.1 h.2
    rw [Nat.zero_add] at hd
    have e : numD t 0 (k + 2) = 10 * numD t 0 (k + 1) + (bt t (k + 1) - 48) := by
      show 10 * numD t 0 (k + 1) + (bt t (0 + (k + 1)) - 48) = _
      rw [Nat.zero_add]
    generalize hm : numD t 0 (k + 1) = m at *
    have hn : ¬ (numD t 0 (k + 2)).toNat < 10 := by rw [e]; omega
    rw [decB_more hn]
    have e1 : (numD t 0 (k + 2)).toNat / 10 = m.toNat := by rw [e]; omega
    have e2 : (48 : Int) + ((numD t 0 (k + 2)).toNat : Int) % 10 = bt t (k + 1) := by rw [e]; omega
    have hl := Lib.size_eq t
    rw [e1, e2, ByteArray.data_append, Array.toList_append, ih, dgI_bt (by omega)]
    conv => rhs; rw [List.take_add_one, List.getElem?_eq_getElem (by omega)]
    rfl
theorem rdec_dec {t : ByteArray} (h : (rdec t).2 = true) : decB (rdec t).1.toNat = t := by
  unfold rdec at h ⊢
  split at h
  · cases h
  · rename_i h1
    split at h
    · rename_i h2
      rw [if_neg h1, if_pos h2]
      apply ByteArray.ext
      apply Array.ext'
      have := dec_num (t := t) (fun h9 e => h1 (.inr (.inr ⟨h9, e⟩))) t.size (by omega) (Nat.le_refl _) h2
      rw [this, List.take_of_length_le (by rw [← Lib.size_eq]; exact Nat.le_refl _)]
    · cases h
theorem rdec_snd {t : ByteArray} (h : (rdec t).1 ≠ 0) : (rdec t).2 = true := by
  unfold rdec at h ⊢
  split
  · rename_i h1; rw [if_pos h1] at h; exact absurd rfl h
  · rename_i h1
    rw [if_neg h1] at h
    split
    · rfl
    · rename_i h2; rw [if_neg h2] at h; exact absurd rfl h
end Go.Proofs.YtlibipbpaigmdaaGreatDoor

namespace Go.Proofs.YtlibipbpaigmdaaGreatDoor
open Go.RowKit
set_option linter.unusedVariables false

theorem clean_of {s : ByteArray} (h : ∀ i, i < s.size → bt s i ≠ 10) : (10 : UInt8) ∉ s.data.toList := by
  intro hm
  obtain ⟨i, hi, e⟩ := List.mem_iff_getElem.1 hm
  have hb := bt_of_byte (s := s) (i := i) (b := 10) (by rw [List.getElem?_eq_getElem hi, e])
  exact h i hb.1 hb.2
theorem decB_clean (n : Nat) : (10 : UInt8) ∉ (decB n).data.toList := by
  have hd : ∀ c : Int, 48 ≤ c → c ≤ 57 → (10 : UInt8) ∉ (dgI c).data.toList := by
    intro c h1 h2 hm
    have : (10 : UInt8) = UInt8.ofNat c.toNat := by simpa [dgI] using hm
    have := congrArg UInt8.toNat this
    rw [UInt8.toNat_ofNat'] at this
    have h3 : c.toNat % 2 ^ 8 = c.toNat := Nat.mod_eq_of_lt (by omega)
    rw [h3] at this
    have h4 : (10 : UInt8).toNat = 10 := rfl
    omega
  induction n using Nat.strongRecOn with
  | ind n ih =>
    by_cases h : n < 10
    · rw [decB_one h]; exact hd _ (by omega) (by omega)
    · rw [decB_more h, ByteArray.data_append, Array.toList_append]
      intro hm
      rcases List.mem_append.1 hm with h1 | h1
      · exact ih (n / 10) (by omega) h1
      · exact hd _ (by omega) (by omega) h1
theorem plain_clean {s : ByteArray} (h : plainB s = true) : (10 : UInt8) ∉ s.data.toList := by
  unfold plainB at h
  rw [Bool.and_eq_true] at h
  refine clean_of fun i hi e => ?_
  have := h.2
  unfold allB at this
  rw [List.all_eq_true] at this
  have := this i (List.mem_range.2 hi)
  rw [e] at this
  simp [signB] at this
theorem id_clean {s : ByteArray} (h : idB s = true) : (10 : UInt8) ∉ s.data.toList := by
  unfold idB at h
  rw [Bool.and_eq_true] at h
  refine clean_of fun i hi e => ?_
  have := h.2
  unfold allB at this
  rw [List.all_eq_true] at this
  have := this i (List.mem_range.2 hi)
  rw [e] at this
  simp [hexB] at this
theorem node_clean {a s k : Int} {key text : ByteArray} {S : Nat → ByteArray} {len : Nat} (h : nodeB a s k key text S len = true) : (10 : UInt8) ∉ key.data.toList ∧ (10 : UInt8) ∉ text.data.toList ∧ ∀ i, i < len → (10 : UInt8) ∉ (S i).data.toList := by
  unfold nodeB at h
  simp only [Bool.and_eq_true] at h
  obtain ⟨⟨⟨⟨⟨h1, h2⟩, h3⟩, h4⟩, h5⟩, h6⟩ := h
  refine ⟨plain_clean h3, plain_clean h4, fun i hi => ?_⟩
  unfold idsB at h6
  simp only [Bool.and_eq_true, decide_eq_true_eq] at h6
  have := h6.2
  unfold allB at this
  rw [List.all_eq_true] at this
  exact id_clean (this i (List.mem_range.2 hi))
theorem node_congr {a s k : Int} {key text : ByteArray} {S S' : Nat → ByteArray} {len : Nat} (h : ∀ i, i < len → S i = S' i) : nodeB a s k key text S len = nodeB a s k key text S' len := by
  have h1 : riseB S len = riseB S' len := by
    unfold riseB
    rw [Bool.eq_iff_iff, List.all_eq_true, List.all_eq_true]
    constructor
    · intro hh x hx
      have hl := List.mem_range.1 hx
      have := hh x hx
      unfold upB at this ⊢
      rw [← h x hl, ← h (x - 1) (by omega)]
      exact this
    · intro hh x hx
      have hl := List.mem_range.1 hx
      have := hh x hx
      unfold upB at this ⊢
      rw [h x hl, h (x - 1) (by omega)]
      exact this
  have h2 : allB (fun k => idB (S k)) len = allB (fun k => idB (S' k)) len := by
    unfold allB
    rw [Bool.eq_iff_iff, List.all_eq_true, List.all_eq_true]
    constructor
    · intro hh x hx
      have hl := List.mem_range.1 hx
      have := hh x hx
      rw [← h x hl]
      exact this
    · intro hh x hx
      have hl := List.mem_range.1 hx
      have := hh x hx
      rw [h x hl]
      exact this
  unfold nodeB idsB
  rw [h1, h2]

/-- a text by its values -/
def TextOf (s a b k key text : ByteArray) (L : List ByteArray) : Prop :=
  s.data.toList = lineL wAuthor.data.toList a.data.toList ++ (lineL wSeq.data.toList b.data.toList ++ (lineL wKind.data.toList k.data.toList ++ (lineL wKey.data.toList key.data.toList ++ (lineL wText.data.toList text.data.toList ++ upsL L))))
structure Clean (a b k key text : ByteArray) (L : List ByteArray) : Prop where
  a : (10 : UInt8) ∉ a.data.toList
  b : (10 : UInt8) ∉ b.data.toList
  k : (10 : UInt8) ∉ k.data.toList
  key : (10 : UInt8) ∉ key.data.toList
  text : (10 : UInt8) ∉ text.data.toList
  ups : ∀ u, u ∈ L → (10 : UInt8) ∉ u.data.toList

theorem upsL_len : ∀ L : List ByteArray, L.length ≤ (upsL L).length
  | [] => Nat.le_refl _
  | u :: L => by
    have := upsL_len L
    show L.length + 1 ≤ (lineL _ _ ++ upsL L).length
    rw [List.length_append]
    simp only [lineL, List.length_append, List.length_cons]
    omega
theorem run_all {s a b k key text : ByteArray} {L : List ByteArray} (h : TextOf s a b k key text L) (c : Clean a b k key text L) :
    run (s.data.toList.length + 1) s.data.toList pnZ = some ⟨(rdec a).1, (rdec b).1, (rdec k).1, key, text, L⟩ := by
  have hl : L.length + 6 ≤ s.data.toList.length + 1 := by
    rw [h]
    have := upsL_len L
    simp only [lineL, List.length_append, List.length_cons]
    omega
  have hr : run (L.length + 1 + 1 + 1 + 1 + 1 + 1) s.data.toList pnZ = some ⟨(rdec a).1, (rdec b).1, (rdec k).1, key, text, L⟩ := by
    rw [h, run_line (by decide) (by decide) c.a]
    have s1 : step pnZ (wAuthor.data.toList ++ 32 :: a.data.toList) = ⟨(rdec a).1, 0, 0, ⟨#[]⟩, ⟨#[]⟩, []⟩ := by
      unfold step
      rw [step_word (by decide)]
      simp [bs_data, pnZ]
    rw [s1, run_line (by decide) (by decide) c.b]
    have s2 : step ⟨(rdec a).1, 0, 0, ⟨#[]⟩, ⟨#[]⟩, []⟩ (wSeq.data.toList ++ 32 :: b.data.toList) = ⟨(rdec a).1, (rdec b).1, 0, ⟨#[]⟩, ⟨#[]⟩, []⟩ := by
      unfold step
      rw [step_word (by decide)]
      simp [bs_data]
    rw [s2, run_line (by decide) (by decide) c.k]
    have s3 : step ⟨(rdec a).1, (rdec b).1, 0, ⟨#[]⟩, ⟨#[]⟩, []⟩ (wKind.data.toList ++ 32 :: k.data.toList) = ⟨(rdec a).1, (rdec b).1, (rdec k).1, ⟨#[]⟩, ⟨#[]⟩, []⟩ := by
      unfold step
      rw [step_word (by decide)]
      simp [bs_data]
    rw [s3, run_line (by decide) (by decide) c.key]
    have s4 : step ⟨(rdec a).1, (rdec b).1, (rdec k).1, ⟨#[]⟩, ⟨#[]⟩, []⟩ (wKey.data.toList ++ 32 :: key.data.toList) = ⟨(rdec a).1, (rdec b).1, (rdec k).1, key, ⟨#[]⟩, []⟩ := by
      unfold step
      rw [step_word (by decide)]
      simp [bs_data]
    rw [s4, run_line (by decide) (by decide) c.text]
    have s5 : step ⟨(rdec a).1, (rdec b).1, (rdec k).1, key, ⟨#[]⟩, []⟩ (wText.data.toList ++ 32 :: text.data.toList) = ⟨(rdec a).1, (rdec b).1, (rdec k).1, key, text, []⟩ := by
      unfold step
      rw [step_word (by decide)]
      simp [bs_data]
    rw [s5, run_ups L _ c.ups]
    simp
  have := run_mono _ _ _ _ (s.data.toList.length + 1 - (L.length + 6)) hr
  rw [show L.length + 1 + 1 + 1 + 1 + 1 + 1 + (s.data.toList.length + 1 - (L.length + 6)) = s.data.toList.length + 1 by omega] at this
  exact this
theorem impl_all {s a b k key text : ByteArray} {L : List ByteArray} (h : TextOf s a b k key text L) (c : Clean a b k key text L) :
    valV s wAuthor = a ∧ valV (restN s) wSeq = b ∧ valV (restN (restN s)) wKind = k ∧ keyR s = key ∧ txtR s = text ∧ (r5R s).data.toList = upsL L ∧ ((rdec a).2 = true → (rdec b).2 = true → (rdec k).2 = true → f5R s = false) := by
  obtain ⟨a1, a2, a3⟩ := val_line (r := s) (word := wAuthor) h (by decide) c.a
  obtain ⟨b1, b2, b3⟩ := val_line (r := restN s) (word := wSeq) (by rw [a3, bs_list]) (by decide) c.b
  obtain ⟨k1, k2, k3⟩ := val_line (r := restN (restN s)) (word := wKind) (by rw [b3, bs_list]) (by decide) c.k
  obtain ⟨y1, y2, y3⟩ := val_line (r := restN (restN (restN s))) (word := wKey) (by rw [k3, bs_list]) (by decide) c.key
  obtain ⟨t1, t2, t3⟩ := val_line (r := restN (restN (restN (restN s)))) (word := wText) (by rw [y3, bs_list]) (by decide) c.text
  rw [bs_data] at a1 b1 k1 y1 t1
  refine ⟨a1, b1, k1, y1, t1, by unfold r5R; rw [t3, bs_list], fun ha hb hk => ?_⟩
  unfold f5R numF
  rw [a1, b1, k1, ha, hb, hk, a2, b2, k2, y2, t2]
  rfl
theorem impl_back {s : ByteArray} (h : f5R s = false) : s.data.toList = lineL wAuthor.data.toList (valV s wAuthor).data.toList ++ (lineL wSeq.data.toList (valV (restN s) wSeq).data.toList ++ (lineL wKind.data.toList (valV (restN (restN s)) wKind).data.toList ++ (lineL wKey.data.toList (keyR s).data.toList ++ (lineL wText.data.toList (txtR s).data.toList ++ (r5R s).data.toList)))) ∧
    (rdec (valV s wAuthor)).2 = true ∧ (rdec (valV (restN s) wSeq)).2 = true ∧ (rdec (valV (restN (restN s)) wKind)).2 = true := by
  unfold f5R at h
  obtain ⟨h, t1⟩ := val_back h
  obtain ⟨h, y1⟩ := val_back h
  unfold numF at h
  rw [Bool.or_eq_false_iff] at h
  obtain ⟨h, k2⟩ := h
  obtain ⟨h, k1⟩ := val_back h
  rw [Bool.or_eq_false_iff] at h
  obtain ⟨h, b2⟩ := h
  obtain ⟨h, b1⟩ := val_back h
  rw [Bool.or_eq_false_iff] at h
  obtain ⟨h, a2⟩ := h
  obtain ⟨h, a1⟩ := val_back h
  refine ⟨?_, by simpa using a2, by simpa using b2, by simpa using k2⟩
  conv => lhs; rw [a1, b1, k1, y1, t1]
  rfl

/-- the specification takes s and gives p -/
def Good (s : ByteArray) (p : PN) : Prop := run (s.data.toList.length + 1) s.data.toList pnZ = some p ∧ s.toList ≠ [] ∧ textR p.a p.s p.k p.key p.text p.S p.ups.length = s
theorem ups_range (p : PN) : (List.range p.ups.length).map p.S = p.ups := by
  apply List.ext_getElem
  · simp
  · intro i h1 h2
    simp [PN.S, List.getD_eq_getElem?_getD, List.getElem?_eq_getElem h2]
theorem S_at (p : PN) (i : Nat) (h : i < p.ups.length) : p.S i = p.ups[i] := by
  simp [PN.S, List.getD_eq_getElem?_getD, List.getElem?_eq_getElem h]

theorem textOf_node {a s k : Nat} {key text t : ByteArray} {S : Nat → ByteArray} {len : Nat} (h : upsB (headB a s k key text) S len = t) : TextOf t (decB a) (decB s) (decB k) key text ((List.range len).map S) := by
  unfold TextOf
  rw [← h, upsB_list, headB_list]
  simp only [List.append_assoc]

/-- where the specification takes a text, the program takes it, and gives the same -/
theorem good_impl {s : ByteArray} {p : PN} (h : Good s p) (j : Nat) (hg : ∀ i, i < j → goes (stU (r5R s) (f5R s) i) = true) (hj : goes (stU (r5R s) (f5R s) j) = false) :
    okRd s j = true ∧ p.a = (rdec (valV s wAuthor)).1 ∧ p.s = (rdec (valV (restN s) wSeq)).1 ∧ p.k = (rdec (valV (restN (restN s)) wKind)).1 ∧ p.key = keyR s ∧ p.text = txtR s ∧ p.ups.length = j ∧ ∀ i, i < j → p.S i = upR s i := by
  obtain ⟨h1, h2, h3⟩ := h
  unfold textR at h3
  split at h3
  · rename_i hn
    have hT := textOf_node h3
    rw [ups_range] at hT
    obtain ⟨ra, rs, rk, _⟩ := node_right hn
    obtain ⟨c1, c2, c3⟩ := node_clean hn
    have hups : ∀ u, u ∈ p.ups → (10 : UInt8) ∉ u.data.toList := by
      intro u hu
      obtain ⟨i, hi, e⟩ := List.mem_iff_getElem.1 hu
      have := c3 i hi
      rw [S_at p i hi, e] at this
      exact this
    have hC : Clean (decB p.a.toNat) (decB p.s.toNat) (decB p.k.toNat) p.key p.text p.ups := ⟨decB_clean _, decB_clean _, decB_clean _, c1, c2, hups⟩
    have hr := run_all hT hC
    rw [h1] at hr
    have hp := Option.some.inj hr
    have ea : p.a = (rdec (decB p.a.toNat)).1 := congrArg PN.a hp
    have es : p.s = (rdec (decB p.s.toNat)).1 := congrArg PN.s hp
    have ek : p.k = (rdec (decB p.k.toNat)).1 := congrArg PN.k hp
    obtain ⟨v1, v2, v3, v4, v5, v6, v7⟩ := impl_all hT hC
    have hf : f5R s = false := v7 (rdec_snd (by rw [← ea]; omega)) (rdec_snd (by rw [← es]; omega)) (rdec_snd (by rw [← ek]; omega))
    rw [hf] at hg hj
    have hlen : p.ups.length = j := by
      rcases Nat.lt_trichotomy p.ups.length j with hl | hl | hl
      · have := hg _ hl
        rw [goes_line v6 hups _ (Nat.le_refl _)] at this
        simp at this
      · exact hl
      · rw [goes_line v6 hups _ (by omega)] at hj
        simp at hj
        omega
    have hu : ∀ i, i < j → p.S i = upR s i := by
      intro i hi
      unfold upR
      rw [hf, stU_val v6 hups i (by omega), S_at p i (by omega)]
    refine ⟨?_, by rw [v1]; exact ea, by rw [v2]; exact es, by rw [v3]; exact ek, v4.symm, v5.symm, hlen, hu⟩
    unfold okRd
    rw [v1, v2, v3, v4, v5, ← ea, ← es, ← ek, hf, stU_line v6 hups j (by omega), ← node_congr hu, ← hlen, hn]
    rfl
  · exact absurd (by rw [← h3]; exact ByteArray.toList_eq _) h2
/-- where the program takes a text, the specification takes it -/
theorem impl_good {s : ByteArray} (j : Nat) (hj : goes (stU (r5R s) (f5R s) j) = false) (h : okRd s j = true) : ∃ p, Good s p := by
  unfold okRd at h
  rw [Bool.and_eq_true, Bool.not_eq_true'] at h
  obtain ⟨hb, hn⟩ := h
  obtain ⟨hf, hu⟩ := stU_back _ _ _ hb
  obtain ⟨hs, d1, d2, d3⟩ := impl_back hf
  have he : (stU (r5R s) (f5R s) j).1.data.toList = [] := by
    unfold goes at hj
    rw [hb, ByteArray.toList_eq] at hj
    simpa using hj
  rw [he, List.append_nil] at hu
  have hT : TextOf s (valV s wAuthor) (valV (restN s) wSeq) (valV (restN (restN s)) wKind) (keyR s) (txtR s) ((List.range j).map (upR s)) := by
    unfold TextOf
    rw [hs, hu]
    rfl
  obtain ⟨c1, c2, c3⟩ := node_clean hn
  have hd : ∀ {t : ByteArray}, (rdec t).2 = true → (10 : UInt8) ∉ t.data.toList := fun {t} h => by
    rw [← rdec_dec h]; exact decB_clean _
  have hC : Clean (valV s wAuthor) (valV (restN s) wSeq) (valV (restN (restN s)) wKind) (keyR s) (txtR s) ((List.range j).map (upR s)) := ⟨hd d1, hd d2, hd d3, c1, c2, fun u hu => by
    obtain ⟨i, hi, e⟩ := List.mem_map.1 hu
    rw [← e]
    exact c3 i (List.mem_range.1 hi)⟩
  refine ⟨_, run_all hT hC, ?_, ?_⟩
  · rw [ByteArray.toList_eq, hT]
    simp [lineL]
  · have hS : ∀ i, i < j → PN.S ⟨(rdec (valV s wAuthor)).1, (rdec (valV (restN s) wSeq)).1, (rdec (valV (restN (restN s)) wKind)).1, keyR s, txtR s, (List.range j).map (upR s)⟩ i = upR s i := by
      intro i hi
      rw [S_at _ i (by simpa using hi)]
      simp
    unfold textR
    simp only [List.length_map, List.length_range]
    rw [node_congr hS, if_pos hn]
    apply ByteArray.ext
    apply Array.ext'
    have hm := List.map_congr_left (l := List.range j) (fun i hi => hS i (List.mem_range.1 hi))
    rw [upsB_list, headB_list, hm, rdec_dec d1, rdec_dec d2, rdec_dec d3, hT]
    simp only [List.append_assoc]
end Go.Proofs.YtlibipbpaigmdaaGreatDoor

namespace Go.Proofs.YtlibipbpaigmdaaGreatDoor
open Go.RowKit
set_option linter.unusedVariables false

set_option maxRecDepth 20000 in
set_option maxHeartbeats 2000000 in
theorem implRead_big (s : ByteArray) (w : World) (hs : 1000 < s.size) (hb : s.size ≤ 1048576) :
    Calls Tryz.prog 55 #[.string s] w fun e w' => e = .returned (.tuple #[.agg zeroQ, .bool false]) ∧ Below w.heap.size w w' := by
  have hlen : decide ((1000 : Int) < (s.size : Int)) = true := by simp; omega
  obtain ⟨wa, hwa⟩ : ∃ wa, wa = w.alloc (.cells #[.int .i64 0, .int .i64 0, .int .i64 0, .string ⟨#[]⟩, .string ⟨#[]⟩, .slice none 0 0] 50) := ⟨_, rfl⟩
  have HZ : Hid (wa.heap[w.heap.size]? = some (.cells zeroQ 50)) := by show _ = _; rw [hwa]; exact heap_alloc_new w _
  have HB : Hid (Below w.heap.size w wa) := by rw [hwa]; exact (Below.refl _ _).alloc (Nat.le_refl _) _
  have HWA : Hid (wa = w.alloc (.cells #[.int .i64 0, .int .i64 0, .int .i64 0, .string ⟨#[]⟩, .string ⟨#[]⟩, .slice none 0 0] 50)) := hwa
  obtain ⟨q, hq⟩ : ∃ q, q = zeroQ := ⟨_, rfl⟩
  have hq6 : (Tryz.prog.info? 50).map (·.size) = some q.size := by rw [hq]; exact info50
  have ho6 : zeroQ.size = q.size := by rw [hq]
  have h16 : q.all (·.oneCell') = true := by rw [hq]; simp [Value.oneCell']
  have HQQ : Hid (q = zeroQ) := hq
  clear hq hwa
  go_enter Tryz.func55, Tryz.ntmps55
  go_wp2_with (first
    | (rw [← HWA.out]; refine wpList_store_row rfl 50 _ _ rfl w.heap.size q rfl (congrArg Value.agg HQQ.out.symm) 50 _ HZ.out hq6 ho6 h16 ?_))
  refine bodyPost_ret (results_row_tmpN rfl _ _ w.heap.size 50 _ _ _ rfl (setRow_heap _ _ _ _ _ _ HZ.out) Tryz.underlying50 rfl hq6) rfl ⟨ret_val (by rw [HQQ.out]; rfl), below_setRow HB.out (Nat.le_refl _) _⟩

theorem zero_text : (textR pnZ.a pnZ.s pnZ.k pnZ.key pnZ.text pnZ.S pnZ.ups.length) = ⟨#[]⟩ := by
  unfold textR
  rw [if_neg (by simp [nodeB, pnZ, inB])]

set_option maxRecDepth 20000 in
set_option maxHeartbeats 2000000 in
theorem specRead_big (s : ByteArray) (w : World) (hs : 1000 < s.size) (hb : s.size ≤ 1048576) :
    Calls Tryz.prog 63 #[.string s] w fun e w' => e = .returned (.tuple #[.agg zeroQ, .bool false]) ∧ Below w.heap.size w w' := by
  have hlen : decide ((s.size : Int) ≤ 1000) = false := by simp; omega
  have hne : s.data.toList ≠ [] := by
    intro h
    have h2 : s.size = 0 := by rw [Lib.size_eq, h]; rfl
    omega
  have hE : s.toList.isEmpty = false := by rw [ByteArray.toList_eq]; cases h : s.data.toList with | nil => exact absurd h hne | cons _ _ => rfl
  have hs0 : (s.toList == []) = false := by rw [ByteArray.toList_eq]; cases h : s.data.toList with | nil => exact absurd h hne | cons _ _ => rfl
  obtain ⟨t0, ht0⟩ : ∃ t0, t0 = textR pnZ.a pnZ.s pnZ.k pnZ.key pnZ.text pnZ.S pnZ.ups.length := ⟨_, rfl⟩
  have hte : (t0.toList == s.toList) = false := by
    rw [ht0, zero_text, ByteArray.toList_eq, ByteArray.toList_eq]
    cases h : s.data.toList with
    | nil => exact absurd h hne
    | cons _ _ => rfl
  have HT0 : Hid (t0 = textR pnZ.a pnZ.s pnZ.k pnZ.key pnZ.text pnZ.S pnZ.ups.length) := ht0
  clear ht0
  obtain ⟨wa, hwa⟩ : ∃ wa, wa = (w.alloc (.cells #[.int .i64 0, .int .i64 0, .int .i64 0, .string ⟨#[]⟩, .string ⟨#[]⟩, .slice none 0 0] 50)).alloc (.cells #[.int .i64 0, .int .i64 0, .int .i64 0, .string ⟨#[]⟩, .string ⟨#[]⟩, .slice none 0 0] 50) := ⟨_, rfl⟩
  have S0 : SS w wa pnZ (.slice none 0 0) := by
    have hsz : (w.alloc (.cells #[.int .i64 0, .int .i64 0, .int .i64 0, .string ⟨#[]⟩, .string ⟨#[]⟩, .slice none 0 0] 50)).heap.size = w.heap.size + 1 := by simp
    refine ⟨?_, World.ownsRow_nil _ _ _ _, ?_, ?_⟩
    · rw [hwa, ← hsz]; exact ND.new _ _ _ _ _ _ _ _
    · rw [hwa, Below.heap_alloc _ _ _ (by simp)]; exact heap_alloc_new w _
    · rw [hwa]; exact ((Below.refl _ _).alloc (Nat.le_refl _) _).alloc (by simp) _
  have HS0 : Hid (SS w wa pnZ (.slice none 0 0)) := S0
  have HWA : Hid (wa = (w.alloc (.cells #[.int .i64 0, .int .i64 0, .int .i64 0, .string ⟨#[]⟩, .string ⟨#[]⟩, .slice none 0 0] 50)).alloc (.cells #[.int .i64 0, .int .i64 0, .int .i64 0, .string ⟨#[]⟩, .string ⟨#[]⟩, .slice none 0 0] 50)) := hwa
  obtain ⟨q, hq⟩ : ∃ q, q = zeroQ := ⟨_, rfl⟩
  have hq6 : (Tryz.prog.info? 50).map (·.size) = some q.size := by rw [hq]; exact info50
  have ho6 : zeroQ.size = q.size := by rw [hq]
  have h16 : q.all (·.oneCell') = true := by rw [hq]; simp [Value.oneCell']
  have HQQ : Hid (q = zeroQ) := hq
  have HL : Hid (decide ((s.size : Int) ≤ 1000) = false) := hlen
  have HEE : Hid (s.toList.isEmpty = false) := hE
  have HSS : Hid ((s.toList == []) = false) := hs0
  have HTE : Hid ((t0.toList == s.toList) = false) := hte
  have H6 : Hid ((Tryz.prog.info? 50).map (·.size) = some q.size) := hq6
  have HO6 : Hid (zeroQ.size = q.size) := ho6
  have H16 : Hid (q.all (·.oneCell') = true) := h16
  clear S0 hwa hq hne hlen hE hs0 hte hq6 ho6 h16
  go_enter Tryz.func63, Tryz.ntmps63
  go_wp2
  rw [← HWA.out]
  go_loopw [5] (fun rv wr => ∃ (r : ByteArray), rv = .string r ∧ r = s ∧ SS w wr pnZ (.slice none 0 0)) (fun rv _ => strLen rv)
  case atStart => exact ⟨s, rfl, rfl, HS0.out⟩
  case round =>
    clear HS0 HWA wa
    obtain ⟨r, rfl, rfl, hS⟩ := hrel
    have HS : Hid (SS w wr pnZ (.slice none 0 0)) := hS
    clear hS
    have HT : Hid (Calls Tryz.prog 57 #[.agg #[.int .i64 0, .int .i64 0, .int .i64 0, .string ⟨#[]⟩, .string ⟨#[]⟩, .slice none 0 0]] wr fun e w' => e = .returned (.string t0) ∧ Below wr.heap.size wr w') := by
      have := specNodeTextD_any 0 0 0 ⟨#[]⟩ ⟨#[]⟩ none 0 0 pnZ.S wr ⟨Nat.le_refl _, by omega, fun h => absurd h (Nat.lt_irrefl _)⟩ (fun i hi => absurd hi (Nat.not_lt_zero _)) (by decide) (by decide)
      rw [HT0.out]
      exact this
    have hlen := HL.out
    have hE := HEE.out
    have hs0 := HSS.out
    have hte := HTE.out
    have d0 : wr.cell? ⟨w.heap.size + 1, 0, none⟩ = some (.int .i64 0) := HS.out.nd.c0
    have d1 : wr.cell? ⟨w.heap.size + 1, 1, none⟩ = some (.int .i64 0) := HS.out.nd.c1
    have d2 : wr.cell? ⟨w.heap.size + 1, 2, none⟩ = some (.int .i64 0) := HS.out.nd.c2
    have d3 : wr.cell? ⟨w.heap.size + 1, 3, none⟩ = some (.string ⟨#[]⟩) := HS.out.nd.c3
    have d4 : wr.cell? ⟨w.heap.size + 1, 4, none⟩ = some (.string ⟨#[]⟩) := HS.out.nd.c4
    have d5 := HS.out.nd.c5
    go_wp2_with (first
      | (go_at_call 57; refine HT.out.mono ?_; rintro e w2 ⟨rfl, hB2⟩; have HB2 : Hid (Below wr.heap.size wr w2) := hB2; have HZ2 : Hid (w2.heap[w.heap.size]? = some (.cells zeroQ 50)) := (hB2.block _ (lt_of_block HS.out.z)).trans HS.out.z; clear hB2)
      | (refine wpList_store_row rfl 50 _ _ rfl w.heap.size q rfl (congrArg Value.agg HQQ.out.symm) 50 _ HZ2.out H6.out HO6.out H16.out ?_))
    refine bodyPost_ret (results_row_tmpN rfl _ _ w.heap.size 50 _ _ _ rfl (setRow_heap _ _ _ _ _ _ HZ2.out) Tryz.underlying50 rfl H6.out) rfl ⟨ret_val (by rw [HQQ.out]; rfl), below_setRow (HS.out.b.trans (HB2.out.mono HS.out.b.size)) (Nat.le_refl _) _⟩
end Go.Proofs.YtlibipbpaigmdaaGreatDoor

namespace Go.Proofs.YtlibipbpaigmdaaGreatDoor
open Go.RowKit
set_option linter.unusedVariables false

/-- what ReadNode answers at s -/
def Reads (s : ByteArray) (p : PN) (b : Bool) : Prop := (b = true ∧ s.size ≤ 1000 ∧ Good s p) ∨ (b = false ∧ p = pnZ ∧ (s.size ≤ 1000 → ¬ ∃ p, Good s p))
theorem Reads.unique {s : ByteArray} {p p' : PN} {b b' : Bool} (h : Reads s p b) (h' : Reads s p' b') : p' = p ∧ b' = b := by
  rcases h with ⟨rfl, hs, hg⟩ | ⟨rfl, rfl, hn⟩
  · rcases h' with ⟨rfl, hs', hg'⟩ | ⟨rfl, rfl, hn'⟩
    · have := hg.1
      rw [hg'.1] at this
      exact ⟨Option.some.inj this, rfl⟩
    · exact absurd ⟨p, hg⟩ (hn' hs)
  · rcases h' with ⟨rfl, hs', hg'⟩ | ⟨rfl, rfl, hn'⟩
    · exact absurd ⟨p', hg'⟩ (hn hs')
    · exact ⟨rfl, rfl⟩
def nodeQ (p : PN) (v : Value) : Array Value := #[.int .i64 p.a, .int .i64 p.s, .int .i64 p.k, .string p.key, .string p.text, v]
theorem Reads.len {s : ByteArray} {p : PN} {b : Bool} (h : Reads s p b) : p.ups.length ≤ 5 := by
  rcases h with ⟨rfl, hs, hg⟩ | ⟨rfl, rfl, hn⟩
  · obtain ⟨_, h2, h3⟩ := hg
    unfold textR at h3
    split at h3
    · rename_i hn
      exact (node_right hn).2.2.2.2.2.1
    · exact absurd (by rw [← h3]; exact ByteArray.toList_eq _) h2
  · exact Nat.zero_le _

theorem specRead (s : ByteArray) (w : World) (hs : s.size ≤ 1048576) :
    Calls Tryz.prog 63 #[.string s] w fun e w' => ∃ (p : PN) (b : Bool) (a : Option Addr) (cap : Nat), e = .returned (.tuple #[.agg (nodeQ p (.slice a p.ups.length cap)), .bool b]) ∧ Reads s p b ∧ w'.ownsRow w.heap.size 9 1 (.slice a p.ups.length cap) p.ups.length (p.ups.map Value.string) ∧ Below w.heap.size w w' := by
  by_cases h : s.size ≤ 1000
  · refine (specRead_any s w h).mono ?_
    rintro e w' ⟨v, q, b, rfl, hB, ht, hf⟩
    cases b with
    | true =>
      obtain ⟨p, h1, h2, h3, hq, ho⟩ := ht rfl
      obtain ⟨a, cap, rfl⟩ := own_sliceR ho
      exact ⟨p, true, a, cap, by rw [hq]; rfl, .inl ⟨rfl, h, h1, h2, h3⟩, ho, hB⟩
    | false =>
      obtain ⟨hq, hn⟩ := hf rfl
      exact ⟨pnZ, false, none, 0, by rw [hq]; rfl, .inr ⟨rfl, rfl, fun _ => hn⟩, World.ownsRow_nil _ _ _ _, hB⟩
  · refine (specRead_big s w (by omega) hs).mono ?_
    rintro e w' ⟨rfl, hB⟩
    exact ⟨pnZ, false, none, 0, rfl, .inr ⟨rfl, rfl, fun h' => absurd h' h⟩, World.ownsRow_nil _ _ _ _, hB⟩
theorem implRead (s : ByteArray) (m : Int) (w : World) (hs : s.size ≤ 1048576) (hm : w.cell? ⟨3, 0, none⟩ = some (.int .i64 m)) :
    Calls Tryz.prog 55 #[.string s] w fun e w' => ∃ (p : PN) (b : Bool) (a : Option Addr) (cap : Nat), e = .returned (.tuple #[.agg (nodeQ p (.slice a p.ups.length cap)), .bool b]) ∧ Reads s p b ∧ w'.ownsRow w.heap.size 9 1 (.slice a p.ups.length cap) p.ups.length (p.ups.map Value.string) ∧ Below w.heap.size w w' := by
  by_cases h : s.size ≤ 1000
  · refine (implRead_any s m w h hm).mono ?_
    rintro e w' ⟨j, v, xs, q, rfl, hg, hj, ht, hf, ho, hx, _, hB⟩
    cases hk : okRd s j with
    | true =>
      obtain ⟨p, hp⟩ := impl_good j hj hk
      obtain ⟨_, e1, e2, e3, e4, e5, e6, e7⟩ := good_impl hp j hg hj
      have hq := ht hk
      obtain ⟨a, cap, rfl⟩ := own_sliceR ho
      subst e6
      have hxs : xs = p.ups.map Value.string := by
        apply List.ext_getElem?
        intro i
        by_cases hi : i < p.ups.length
        · rw [hx i hi, ← e7 i hi, S_at p i hi, List.getElem?_map, List.getElem?_eq_getElem hi]
          rfl
        · rw [List.getElem?_eq_none (by have := ho.1; omega), List.getElem?_eq_none (by rw [List.length_map]; omega)]
      rw [hxs] at ho
      exact ⟨p, true, a, cap, by rw [hq, ← e1, ← e2, ← e3, ← e4, ← e5]; rfl, .inl ⟨rfl, h, hp⟩, ho, hB⟩
    | false =>
      have hq := hf hk
      refine ⟨pnZ, false, none, 0, by rw [hq]; rfl, .inr ⟨rfl, rfl, fun _ => ?_⟩, World.ownsRow_nil _ _ _ _, hB⟩
      rintro ⟨p, hp⟩
      have := (good_impl hp j hg hj).1
      rw [hk] at this
      cases this
  · refine (implRead_big s w (by omega) hs).mono ?_
    rintro e w' ⟨rfl, hB⟩
    exact ⟨pnZ, false, none, 0, rfl, .inr ⟨rfl, rfl, fun h' => absurd h' h⟩, World.ownsRow_nil _ _ _ _, hB⟩

end Go.Proofs.YtlibipbpaigmdaaGreatDoor

namespace Go.Proofs.YtlibipbpaigmdaaGreatDoor
open Go.RowKit
set_option linter.unusedVariables false

theorem bt_left {a b : ByteArray} {i : Nat} (h : i < a.size) : bt (a ++ b) i = bt a i := by
  have h2 : i < (a ++ b).size := by rw [ByteArray.size_append]; omega
  rw [← bt_in h2, ← bt_in h]
  congr 2
  exact ByteArray.getElem_append_left h
theorem bt_last (a : ByteArray) (c : Int) (h0 : 0 ≤ c) (h1 : c ≤ 255) : bt (a ++ dgI c) a.size = c := by
  have h2 : a.size < (a ++ dgI c).size := by rw [ByteArray.size_append, dgI_size]; omega
  rw [← bt_in h2, ByteArray.getElem_append_right (Nat.le_refl _)]
  have e : ∀ (x : ByteArray) (k : Nat) (hk : k < x.size), k = 0 → x = dgI c → ((x[k].toNat : Nat) : Int) = c := by
    rintro x k hk rfl rfl
    show (((UInt8.ofNat c.toNat).toNat : Nat) : Int) = c
    rw [UInt8.toNat_ofNat']
    omega
  exact e _ _ _ (Nat.sub_self _) rfl
theorem num_congr {s t : ByteArray} : ∀ k, (∀ j, j < k → bt s j = bt t j) → numD s 0 k = numD t 0 k ∧ digsB s 0 k = digsB t 0 k
  | 0, _ => ⟨rfl, rfl⟩
  | k + 1, h => by
    obtain ⟨h1, h2⟩ := num_congr k (fun j hj => h j (by omega))
    have h3 := h k (by omega)
    refine ⟨?_, ?_⟩
    · show 10 * numD s 0 k + (bt s (0 + k) - 48) = 10 * numD t 0 k + (bt t (0 + k) - 48)
      rw [h1, Nat.zero_add, h3]
    · rw [digsB_succ, digsB_succ, h2, Nat.zero_add, h3]
theorem decB_one_is {n : Nat} (h : n < 10) : (decB n).size = 1 ∧ bt (decB n) 0 = 48 + n := by
  rw [decB_one h]
  refine ⟨rfl, ?_⟩
  have := bt_last ⟨#[]⟩ (48 + (n : Int)) (by omega) (by omega)
  have e : (⟨#[]⟩ : ByteArray) ++ dgI (48 + (n : Int)) = dgI (48 + (n : Int)) := by
    apply ByteArray.ext
    simp [dgI]
  rw [e] at this
  exact this
theorem decB_is : ∀ k n : Nat, n < 10 ^ (k + 1) → 1 ≤ (decB n).size ∧ (decB n).size ≤ k + 1 ∧ digsB (decB n) 0 (decB n).size = true ∧ numD (decB n) 0 (decB n).size = (n : Int) ∧ (1 ≤ n → bt (decB n) 0 ≠ 48) ∧ (1 < (decB n).size → 1 ≤ n)
  | 0, n, h => by
    have h10 : n < 10 := by simpa using h
    obtain ⟨h1, h2⟩ := decB_one_is h10
    rw [h1]
    refine ⟨Nat.le_refl _, Nat.le_refl _, ?_, ?_, fun hn => ?_, fun h => absurd h (by omega)⟩
    · rw [digsB_succ, Nat.zero_add, h2]
      rw [digB_iff.2 ⟨by omega, by omega⟩]
      rfl
    · show 10 * numD (decB n) 0 0 + (bt (decB n) (0 + 0) - 48) = _
      rw [Nat.zero_add, h2]
      simp [numD]
      omega
    · rw [h2]; omega
  | k + 1, n, h => by
    by_cases h10 : n < 10
    · obtain ⟨a1, a2, a3, a4, a5, a6⟩ := decB_is 0 n (by simpa using h10)
      exact ⟨a1, by omega, a3, a4, a5, a6⟩
    · have e : (10 : Nat) ^ (k + 1 + 1) = 10 * 10 ^ (k + 1) := by rw [Nat.pow_succ]; omega
      obtain ⟨a1, a2, a3, a4, a5, a6⟩ := decB_is k (n / 10) (by omega)
      rw [decB_more h10]
      have hz : (decB (n / 10) ++ dgI (48 + (n : Int) % 10)).size = (decB (n / 10)).size + 1 := by rw [ByteArray.size_append, dgI_size]
      have hl := bt_last (decB (n / 10)) (48 + (n : Int) % 10) (by omega) (by omega)
      obtain ⟨c1, c2⟩ := num_congr (s := decB (n / 10) ++ dgI (48 + (n : Int) % 10)) (t := decB (n / 10)) (decB (n / 10)).size (fun j hj => bt_left hj)
      rw [hz]
      refine ⟨by omega, by omega, ?_, ?_, fun _ => ?_, fun _ => by omega⟩
      · rw [digsB_succ, c2, a3, Nat.zero_add, hl, digB_iff.2 ⟨by omega, by omega⟩]
        rfl
      · show 10 * numD _ 0 _ + (bt _ (0 + _) - 48) = _
        rw [c1, a4, Nat.zero_add, hl]
        omega
      · rw [bt_left (by omega)]
        exact a5 (by omega)
theorem rdec_back {n : Nat} (h : n ≤ 1000000) : rdec (decB n) = ((n : Int), true) := by
  obtain ⟨a1, a2, a3, a4, a5, a6⟩ := decB_is 6 n (by omega)
  unfold rdec
  rw [if_neg (by
    rintro (h1 | h1 | ⟨h1, h2⟩)
    · omega
    · omega
    · exact a5 (a6 h1) h2), if_pos a3, a4]

theorem good_node {a s k : Int} {key text : ByteArray} {S : Nat → ByteArray} {len : Nat} (hn : nodeB a s k key text S len = true) : Good (textR a s k key text S len) ⟨a, s, k, key, text, (List.range len).map S⟩ := by
  obtain ⟨ra, rs, rk, _, _, _, _⟩ := node_right hn
  obtain ⟨c1, c2, c3⟩ := node_clean hn
  have e : textR a s k key text S len = upsB (headB a.toNat s.toNat k.toNat key text) S len := by unfold textR; rw [if_pos hn]
  have hT := textOf_node e.symm
  have hC : Clean (decB a.toNat) (decB s.toNat) (decB k.toNat) key text ((List.range len).map S) := ⟨decB_clean _, decB_clean _, decB_clean _, c1, c2, fun u hu => by
    obtain ⟨i, hi, e⟩ := List.mem_map.1 hu
    rw [← e]
    exact c3 i (List.mem_range.1 hi)⟩
  have hr := run_all hT hC
  rw [rdec_back (by omega), rdec_back (by omega), rdec_back (by omega)] at hr
  rw [show ((a.toNat : Nat) : Int) = a by omega, show ((s.toNat : Nat) : Int) = s by omega, show ((k.toNat : Nat) : Int) = k by omega] at hr
  have hS : ∀ i, i < len → PN.S ⟨a, s, k, key, text, (List.range len).map S⟩ i = S i := fun i hi => by
    rw [S_at _ i (by simpa using hi)]
    simp
  refine ⟨hr, ?_, ?_⟩
  · rw [ByteArray.toList_eq, hT]
    simp [lineL]
  · show textR a s k key text (PN.S ⟨a, s, k, key, text, (List.range len).map S⟩) ((List.range len).map S).length = _
    rw [List.length_map, List.length_range]
    unfold textR
    rw [node_congr hS, if_pos hn, if_pos hn]
    have hm := List.map_congr_left (l := List.range len) (fun i hi => hS i (List.mem_range.1 hi))
    apply ByteArray.ext
    apply Array.ext'
    rw [upsB_list, upsB_list, hm]
theorem textR_1000 (a s k : Int) (key text : ByteArray) (S : Nat → ByteArray) (len : Nat) : (textR a s k key text S len).size ≤ 1000 := by
  unfold textR
  split
  · rename_i hn
    obtain ⟨ra, rs, rk, h1, h2, h3, h4⟩ := node_right hn
    rw [upsB_size _ _ _ h4, headB_size]
    have := decB_size7 a.toNat (by omega)
    have := decB_size7 s.toNat (by omega)
    have := decB_size7 k.toNat (by omega)
    omega
  · show 0 ≤ 1000; omega
theorem reads_node {a s k : Int} {key text : ByteArray} {S : Nat → ByteArray} {len : Nat} {p : PN} {b : Bool} (h : Reads (textR a s k key text S len) p b) : b = nodeB a s k key text S len ∧ (b = true → p = ⟨a, s, k, key, text, (List.range len).map S⟩) := by
  have hz := textR_1000 a s k key text S len
  cases hn : nodeB a s k key text S len with
  | true =>
    have hg := good_node hn
    obtain ⟨h1, h2⟩ := Reads.unique (.inl ⟨rfl, hz, hg⟩) h
    exact ⟨h2, fun _ => h1⟩
  | false =>
    rcases h with ⟨rfl, _, hg⟩ | ⟨rfl, _, _⟩
    · exfalso
      have e : textR a s k key text S len = ⟨#[]⟩ := by unfold textR; rw [if_neg (by rw [hn]; simp)]
      rw [e] at hg
      exact hg.2.1 (ByteArray.toList_eq _)
    · exact ⟨rfl, fun h => by cases h⟩
theorem reads_text {t : ByteArray} {p : PN} (h : Reads t p true) : textR p.a p.s p.k p.key p.text p.S p.ups.length = t := by
  rcases h with ⟨_, _, hg⟩ | ⟨h, _⟩
  · exact hg.2.2
  · cases h
theorem pn_strs {w : World} {base : Nat} {a : Option Addr} {cap : Nat} {p : PN} (h : w.ownsRow base 9 1 (.slice a p.ups.length cap) p.ups.length (p.ups.map Value.string)) : IsStrs w a p.ups.length cap p.S := by
  obtain ⟨a', cap', e, hI⟩ := strs_of_own (S := p.S) h (fun i hi => by
    rw [List.getElem?_map, List.getElem?_eq_getElem hi, S_at p i hi]
    rfl)
  simp only [Value.slice.injEq, true_and] at e
  obtain ⟨rfl, rfl⟩ := e
  exact hI
end Go.Proofs.YtlibipbpaigmdaaGreatDoor

namespace Go.Proofs.YtlibipbpaigmdaaGreatDoor
open Go.RowKit
set_option linter.unusedVariables false

theorem qo_move (ev : Operand → Value) (o : Oper) (w : World) (x : Operand) (h : o.op = .move x) : (execOp ev o).run Tryz.prog w = .ok (.value (ev x)) w := by simp [execOp, h]
theorem qo_assign (ev : Operand → Value) (o : Oper) (w : World) (x : Operand) (h : o.op = .assign x) : (execOp ev o).run Tryz.prog w = .ok (.value (ev x)) w := by simp [execOp, h]
theorem q_call1 (ev : Operand → Value) (o : Oper) (w : World) (f : FuncId) (he : ∀ args w, (callFunc f args).run Tryz.prog w = .ok (.enter f args) w) (x : Operand) (ts : Array TypeId) (h : o.op = .call { callee := .value (.func f), args := #[x], argTypes := ts }) (hf : ev (.func f) = .func (.func f) #[] #[]) : (execOp ev o).run Tryz.prog w = .ok (.enter f #[ev x]) w := by
  simp [execOp, h, resolve, invoke, hf, Deferred.ofValue, he]
theorem qo_call2 (ev : Operand → Value) (o : Oper) (w : World) (f : FuncId) (he : ∀ args w, (callFunc f args).run Tryz.prog w = .ok (.enter f args) w) (x y : Operand) (ts : Array TypeId) (h : o.op = .call { callee := .value (.func f), args := #[x, y], argTypes := ts }) (hf : ev (.func f) = .func (.func f) #[] #[]) : (execOp ev o).run Tryz.prog w = .ok (.enter f #[ev x, ev y]) w := by
  simp [execOp, h, resolve, invoke, hf, Deferred.ofValue, he]
theorem qo_call3 (ev : Operand → Value) (o : Oper) (w : World) (f : FuncId) (he : ∀ args w, (callFunc f args).run Tryz.prog w = .ok (.enter f args) w) (x y z : Operand) (ts : Array TypeId) (h : o.op = .call { callee := .value (.func f), args := #[x, y, z], argTypes := ts }) (hf : ev (.func f) = .func (.func f) #[] #[]) : (execOp ev o).run Tryz.prog w = .ok (.enter f #[ev x, ev y, ev z]) w := by
  simp [execOp, h, resolve, invoke, hf, Deferred.ofValue, he]
theorem q_ext0 (ev : Operand → Value) (o : Oper) (w : World) (x : Operand) (u v : Value) (h : o.op = .extract x 0) (hx : ev x = .tuple #[u, v]) : (execOp ev o).run Tryz.prog w = .ok (.value u) w := by
  simp [execOp, h, hx]
  go_simp
theorem q_ext1 (ev : Operand → Value) (o : Oper) (w : World) (x : Operand) (u v : Value) (h : o.op = .extract x 1) (hx : ev x = .tuple #[u, v]) : (execOp ev o).run Tryz.prog w = .ok (.value v) w := by
  simp [execOp, h, hx]
  go_simp
theorem q_not (ev : Operand → Value) (o : Oper) (w : World) (x : Operand) (b : Bool) (h : o.op = .unOp .not 4 x) (hx : ev x = .bool b) : (execOp ev o).run Tryz.prog w = .ok (.value (.bool (!b))) w := by
  simp [execOp, h, hx]
  go_simp
theorem qo_pick (ev : Operand → Value) (o : Oper) (w : World) (x y z : Operand) (h : o.op = .pick x y z) (hx : ev x = .bool true) : (execOp ev o).run Tryz.prog w = .ok (.value (ev y)) w := by
  simp [execOp, h, hx]
  go_simp
theorem q_pickF (ev : Operand → Value) (o : Oper) (w : World) (x y z : Operand) (h : o.op = .pick x y z) (hx : ev x = .bool false) : (execOp ev o).run Tryz.prog w = .ok (.value (ev z)) w := by
  simp [execOp, h, hx]
  go_simp
theorem q_shr (ev : Operand → Value) (o : Oper) (w : World) (x y : Operand) (n : Nat) (h : o.op = .binOp .shr 3 x y 127) (hx : ev x = .int .i64 n) (k : Nat) (hk : k < 64) (hy : ev y = .int .u64 k) : (execOp ev o).run Tryz.prog w = .ok (.value (.int .i64 ((n : Int) / 2 ^ k))) w := by
  simp [execOp, h, hx, hy]
  go_simp
theorem q_toU8 (ev : Operand → Value) (o : Oper) (w : World) (x : Operand) (n : Int) (h : o.op = .convert 3 5 x) (hx : ev x = .int .i64 n) : (execOp ev o).run Tryz.prog w = .ok (.value (.int .u8 (n % 256))) w := by
  simp [execOp, h, hx]
  go_simp
  exact IntKind.wrap_u8 n

/-- what holds of the values of a region: of one G, of the others which they are -/
def VF (vl : List Value) (m : Nat) (G : Value → World → Prop) (j : Nat) (v : Value) (w : World) : Prop := if j = m then G v w else v = vl.getD j undef
theorem VF.below {vl : List Value} {m : Nat} {G : Value → World → Prop} (hG : ∀ v w w', G v w → Below w.heap.size w w' → G v w') {j : Nat} {v : Value} {w w' : World} (h : VF vl m G j v w) (hB : Below w.heap.size w w') : VF vl m G j v w' := by
  unfold VF at h ⊢
  split at h
  · rename_i q
    rw [if_pos q]
    exact hG _ _ _ h hB
  · rename_i q
    rw [if_neg q]
    exact h
theorem VF.eq {vl : List Value} {m : Nat} {G : Value → World → Prop} {j : Nat} {v : Value} {w : World} (h : VF vl m G j v w) (h1 : j ≠ m) : v = vl.getD j undef := by
  unfold VF at h
  rw [if_neg h1] at h
  exact h
theorem VF.mk {vl : List Value} {m : Nat} {G : Value → World → Prop} {j : Nat} {v : Value} {w : World} (h1 : j ≠ m) (h : v = vl.getD j undef) : VF vl m G j v w := by
  unfold VF
  rw [if_neg h1]
  exact h
theorem VF.get {vl : List Value} {m : Nat} {G : Value → World → Prop} {v : Value} {w : World} (h : VF vl m G m v w) : G v w := by
  unfold VF at h
  rw [if_pos rfl] at h
  exact h
theorem VF.put {vl : List Value} {m : Nat} {G : Value → World → Prop} {v : Value} {w : World} (h : G v w) : VF vl m G m v w := by
  unfold VF
  rw [if_pos rfl]
  exact h
end Go.Proofs.YtlibipbpaigmdaaGreatDoor

namespace Go.Proofs.YtlibipbpaigmdaaGreatDoor
open Go.RowKit Go.Shelf
set_option linter.unusedVariables false

theorem cellQ {w : World} {p : Nat} {cs : Array Value} {t : TypeId} {z : Nat × Nat} {i : Nat} {v : Value} (h : w.heap[p]? = some (.cells cs t z)) (hv : cs[i]? = some v) : w.cell? ⟨p, i, none⟩ = some v := by
  simp [World.cell?, h, hv]
theorem q_add (ev : Operand → Value) (o : Oper) (w : World) (x y : Operand) (a b : ByteArray) (h : o.op = .binOp .add 9 x y 9) (hx : ev x = .string a) (hy : ev y = .string b) (hs : a.size + b.size ≤ 100000000) : (execOp ev o).run Tryz.prog w = .ok (.value (.string (a ++ b))) w := by
  have ha := add_ok hs w
  simp [execOp, h, hx, hy]
  go_simp
  omega
theorem wp_letterP {c : Code} {P : Program} {Q : Exit → Act → World → Prop} {a : Act} {w : World} (h : ∀ a', a' = a → c.wp P Q a' w) : c.wp P Q a w := h a rfl
theorem size_add1 {s c : ByteArray} (hs : s.size ≤ 1000) (hc : c.size = 1) : (s ++ c).size ≤ 2300 := by rw [ByteArray.size_append]; omega

def six : Array Value := #[.string ⟨#[48]⟩, .string ⟨#[49]⟩, .string ⟨#[40]⟩, .string ⟨#[41]⟩, .string ⟨#[44]⟩, .string ⟨#[107]⟩]
theorem six_at (y : Nat) (h : y < 6) : ∃ c : ByteArray, c.size = 1 ∧ six[y]? = some (.string c) := by
  rcases (show y = 0 ∨ y = 1 ∨ y = 2 ∨ y = 3 ∨ y = 4 ∨ y = 5 by omega) with rfl | rfl | rfl | rfl | rfl | rfl <;> exact ⟨_, rfl, rfl⟩
theorem six_new (w : World) (y : Nat) (c : ByteArray) (h : six[y]? = some (.string c)) : (w.alloc (.cells six 9)).cell? ⟨w.heap.size, y, none⟩ = some (.string c) := cellQ (heap_alloc_new w (.cells six 9)) h
theorem six_list (y : Nat) (h : y < 6) (c : ByteArray) (hc : six[y]? = some (.string c)) : ([Value.string ⟨#[48]⟩, Value.string ⟨#[49]⟩, Value.string ⟨#[40]⟩, Value.string ⟨#[41]⟩, Value.string ⟨#[44]⟩, Value.string ⟨#[107]⟩] : List Value)[y]'h = .string c := by
  rcases (show y = 0 ∨ y = 1 ∨ y = 2 ∨ y = 3 ∨ y = 4 ∨ y = 5 by omega) with rfl | rfl | rfl | rfl | rfl | rfl <;> exact Option.some.inj hc
theorem lit_drew {R : Nat} {w w' : World} {cs : Array Value} {t : TypeId} (hM : Mut R (w.alloc (.cells cs t)).drew w') : Mut R (w.alloc (.cells cs t)) w' := (Mut.of_below (Below.refl _ _).drew).trans hM
theorem three_le {s c : ByteArray} {x y n : Nat} (hs : s.size ≤ 1000) (hc : c.size = 1) : (s.extract 0 x ++ c ++ s.extract y n).size ≤ 2300 := by
  rw [ByteArray.size_append, ByteArray.size_append, ByteArray.size_extract, ByteArray.size_extract]; omega

def dsH : List Nat := [26, 27, 28, 29, 30, 31, 32, 33, 34, 35, 36, 37, 38, 39, 4]
def slotH (j : Nat) : Nat := dsH.getD j 0
theorem slotH_inj (i j : Nat) (hi : i < 15) (hj : j < 15) (q : slotH i = slotH j) : i = j := by
  have h : ∀ i : Fin 15, ∀ j : Fin 15, slotH i.val = slotH j.val → i.val = j.val := by decide
  exact h ⟨i, hi⟩ ⟨j, hj⟩ q
theorem slotH_mem (i : Nat) (hi : i < 15) : slotH i ∈ dsH := by
  have h : ∀ i : Fin 15, slotH i.val ∈ dsH := by decide
  exact h ⟨i, hi⟩
/-- of the values of hurt's region -/
def HF (R : Nat) (s : ByteArray) (x x1 : Nat) : Nat → Value → World → Prop
  | 0, v, _ => v = .string s
  | 1, v, _ => v = .int .i64 x
  | 2, v, _ => v = .string (s.extract 0 x)
  | 3, v, w => ∃ p, v = .slice (some ⟨p, 0, none⟩) 6 6 ∧ p ≠ R ∧ w.heap[p]? = some (.cells six 9 (0, 0))
  | 4, v, _ => v = .pointer (some ⟨R, 0, none⟩)
  | 5, v, _ => ∃ y : Nat, y < 6 ∧ v = .int .i64 y
  | 6, v, w => ∃ p y : Nat, y < 6 ∧ p ≠ R ∧ v = .pointer (some ⟨p, y, none⟩) ∧ w.heap[p]? = some (.cells six 9 (0, 0))
  | 7, v, _ => ∃ c : ByteArray, c.size = 1 ∧ v = .string c
  | 8, v, _ => ∃ c : ByteArray, c.size = 1 ∧ v = .string (s.extract 0 x ++ c)
  | 9, v, _ => v = .string s
  | 10, v, _ => v = .int .i64 x
  | 11, v, _ => v = .int .i64 x1
  | 12, v, _ => v = .string (s.extract x1 s.size)
  | 13, v, _ => ∃ t : ByteArray, t.size ≤ 2300 ∧ v = .string t
  | 14, v, _ => ∃ t : ByteArray, t.size ≤ 2300 ∧ v = .string t
  | _, _, _ => True
theorem HF.mut {R : Nat} {s : ByteArray} {x x1 j : Nat} {v : Value} {w w' : World} (h : HF R s x x1 j v w) (hM : Mut R w w') : HF R s x x1 j v w' := by
  match j, h with
  | 0, h => exact h
  | 1, h => exact h
  | 2, h => exact h
  | 3, ⟨p, e, hp, hb⟩ => exact ⟨p, e, hp, (hM.block p (lt_of_block hb) hp).trans hb⟩
  | 4, h => exact h
  | 5, h => exact h
  | 6, ⟨p, y, hy, hp, e, hb⟩ => exact ⟨p, y, hy, hp, e, (hM.block p (lt_of_block hb) hp).trans hb⟩
  | 7, h => exact h
  | 8, h => exact h
  | 9, h => exact h
  | 10, h => exact h
  | 11, h => exact h
  | 12, h => exact h
  | 13, h => exact h
  | 14, h => exact h
  | (n + 15), _ => trivial
theorem q_six (ev : Operand → Value) (o : Oper) (w : World) (h : o.op = .buildSlice 25 6 #[(0, .const (.string ⟨#[48]⟩)), (1, .const (.string ⟨#[49]⟩)), (2, .const (.string ⟨#[40]⟩)), (3, .const (.string ⟨#[41]⟩)), (4, .const (.string ⟨#[44]⟩)), (5, .const (.string ⟨#[107]⟩))]) (hev : ∀ v, ev (.const v) = v) : (execOp ev o).run Tryz.prog w = .ok (.value (.slice (some ⟨w.heap.size, 0, none⟩) 6 6)) (w.alloc (.cells six 9)) := by
  simp [execOp, h, hev]
  go_simp
  rfl
theorem q_idxS (ev : Operand → Value) (o : Oper) (w : World) (x y : Operand) (p k : Nat) (h : o.op = .indexAddr 25 x y) (hx : ev x = .slice (some ⟨p, 0, none⟩) 6 6) (hy : ev y = .int .i64 k) (hk : k < 6) : (execOp ev o).run Tryz.prog w = .ok (.value (.pointer (some ⟨p, k, none⟩))) w := by
  have hkI : (k : Int) < 6 := by omega
  simp [execOp, h, hx, hy]
  go_simp
theorem q_loadS (ev : Operand → Value) (o : Oper) (w : World) (x : Operand) (p k : Nat) (c : ByteArray) (h : o.op = .load 9 x) (hx : ev x = .pointer (some ⟨p, k, none⟩)) (hc : w.cell? ⟨p, k, none⟩ = some (.string c)) : (execOp ev o).run Tryz.prog w = .ok (.value (.string c)) w := by
  simp [execOp, h, hx]
  go_simp
theorem q_sliceH (ev : Operand → Value) (o : Oper) (w : World) (x y : Operand) (s : ByteArray) (k : Nat) (h : o.op = .slice 9 x none (some y) none) (hx : ev x = .string s) (hy : ev y = .int .i64 k) (hk : k < s.size) : (execOp ev o).run Tryz.prog w = .ok (.value (.string (s.extract 0 k))) w := by
  have hkI : (k : Int) ≤ (s.size : Int) := by omega
  have hk' : k ≤ s.size := by omega
  simp [execOp, h, hx, hy]
  go_simp
theorem q_sliceL (ev : Operand → Value) (o : Oper) (w : World) (x y : Operand) (s : ByteArray) (k : Nat) (h : o.op = .slice 9 x (some y) none none) (hx : ev x = .string s) (hy : ev y = .int .i64 k) (hk : k ≤ s.size) : (execOp ev o).run Tryz.prog w = .ok (.value (.string (s.extract k s.size))) w := by
  have hkI : (k : Int) ≤ (s.size : Int) := by omega
  simp [execOp, h, hx, hy]
  go_simp
theorem q_inc (ev : Operand → Value) (o : Oper) (w : World) (x y : Operand) (k k1 : Nat) (h : o.op = .binOp .add 3 x y 3) (hx : ev x = .int .i64 k) (hy : ev y = .int .i64 1) (hk : (k : Int) + 1 = (k1 : Int)) (hl : k ≤ 1000) : (execOp ev o).run Tryz.prog w = .ok (.value (.int .i64 k1)) w := by
  have hw : IntKind.i64.wrap ((k : Int) + 1) = (k1 : Int) := by rw [IntKind.wrap_i64]; omega
  clear hk
  simp [execOp, h, hx, hy]
  go_simp


section
variable {W : World} {a : Option Addr} {len cap R : Nat} {Z : Nat → Int}
theorem belowW_any (hU : IsU8 W a len cap Z) (n : Nat) (hn : 1 ≤ n) (hn2 : n ≤ 65536) (w : World) (h : Draw W a len cap R w) :
    Calls Tryz.prog 111 #[.pointer (some ⟨R, 0, none⟩), .int .i64 (n : Int)] w fun e w' => ∃ y : Nat, y < n ∧ e = .returned (.int .i64 (y : Int)) ∧ Draw W a len cap R w' ∧ Mut R w w' := by
  by_cases h1 : n ≤ 256
  · exact belowN_any hU n hn h1 w h
  · have HU := (show Hid _ from hU)
    have H := (show Hid _ from h)
    have h2 : ¬ (n : Int) ≤ 1 := by omega
    have h3 : ¬ (n : Int) ≤ 256 := by omega
    have h0 : ¬ (n : Int) = 0 := by omega
    clear hU h
    go_enter Tryz.func111, Tryz.ntmps111
    go_wp2_with fail
    refine (next_any HU.out _ H.out).mono ?_
    rintro e w1 ⟨x, hx0, hx1, rfl, hD1, hM1⟩
    have HD1 := (show Hid _ from hD1)
    have HM1 := (show Hid _ from hM1)
    clear hD1 hM1
    go_wp2_with fail
    refine (next_any HU.out _ HD1.out).mono ?_
    rintro e w2 ⟨z, hz0, hz1, rfl, hD2, hM2⟩
    have HD2 := (show Hid _ from hD2)
    have HM2 := (show Hid _ from HM1.out.trans hM2)
    clear hD2 hM2
    have hxz : 0 ≤ x * 256 + z ∧ x * 256 + z ≤ 65535 := by omega
    go_wp2
    go_ret
    exact ⟨((x * 256 + z) % n).toNat, by have := Int.emod_lt_of_pos (x * 256 + z) (show (0 : Int) < n by omega); have := Int.emod_nonneg (x * 256 + z) (show (n : Int) ≠ 0 by omega); omega, by rw [Int.toNat_of_nonneg (Int.emod_nonneg _ (by omega))]; rfl, HD2.out, HM2.out⟩

set_option maxRecDepth 4000 in
set_option maxHeartbeats 2000000 in
theorem hurt_any (hU : IsU8 W a len cap Z) (s : ByteArray) (hs : s.size ≤ 1000) (w : World) (h : Draw W a len cap R w) :
    Calls Tryz.prog 132 #[.pointer (some ⟨R, 0, none⟩), .string s] w fun e w' => ∃ t : ByteArray, t.size ≤ 2300 ∧ e = .returned (.string t) ∧ Draw W a len cap R w' := by
  obtain ⟨n, hn⟩ : ∃ n, n = s.size := ⟨_, rfl⟩
  have hnI : (s.size : Int) = (n : Int) := by rw [hn]
  have hn1 : n ≤ 1000 := by omega
  have HN : Hid (n = s.size) := hn
  clear hn
  go_enter Tryz.func132, Tryz.ntmps132
  go_wp2_with fail
  refine (below_any hU 6 (by omega) (by omega) _ h).mono ?_
  rintro e w1 ⟨y, hy0, hy1, rfl, hD1, hM1⟩
  have HD1 := (show Hid _ from hD1)
  clear hD1 hM1 h
  have hy : y = 0 ∨ y = 1 ∨ y = 2 ∨ y = 3 ∨ y = 4 ∨ y = 5 := by omega
  rcases hy with rfl | rfl | rfl | rfl | rfl | rfl
  · go_wp2
    go_ret
    exact ⟨s, by omega, rfl, HD1.out⟩
  · obtain ⟨n1, hn1'⟩ : ∃ n1, n1 = n + 1 := ⟨_, rfl⟩
    have hi : (n : Int) + 1 = (n1 : Int) := by omega
    have hl1 : 1 ≤ n1 ∧ n1 ≤ 1001 := by omega
    have HN1 : Hid (n1 = n + 1) := hn1'
    clear hn1'
    go_wp2_with fail
    refine (belowW_any hU n1 hl1.1 (by omega) w1 HD1.out).mono ?_
    rintro e w2 ⟨x, hx, rfl, hD2, _⟩
    have hxI : (x : Int) ≤ (n : Int) := by have := HN1.out; omega
    have hx2 : x ≤ s.size := by have := HN.out; omega
    clear hi hl1 hx
    have HD2 := (show Hid _ from hD2)
    clear hD2
    go_wp2
    go_ret
    exact ⟨_, by rw [ByteArray.size_extract]; omega, rfl, HD2.out⟩
  · by_cases h0 : 0 < n
    · have h0I : (0 : Int) < (n : Int) := by omega
      go_wp2_with fail
      refine (belowW_any hU n (by omega) (by omega) w1 HD1.out).mono ?_
      rintro e w2 ⟨x, hx, rfl, hD2, _⟩
      have hxI : (x : Int) < (n : Int) := by omega
      have hx2 : x < s.size := by have := HN.out; omega
      obtain ⟨x1, hx1⟩ : ∃ x1, x1 = x + 1 := ⟨_, rfl⟩
      have hi : (x : Int) + 1 = (x1 : Int) := by omega
      have hx3 : (x1 : Int) ≤ (n : Int) := by omega
      have hx4 : x1 ≤ s.size := by omega
      have hx5 : x1 ≤ n := by omega
      have hx6 : (x1 : Int) ≤ (s.size : Int) := by omega
      have hx7 : (0 : Int) ≤ (x1 : Int) := by omega
      have hxn : x ≤ n := by omega
      have hxs : (x : Int) ≤ (s.size : Int) := by omega
      have hw1 : IntKind.i64.wrap ((x : Int) + 1) = (x1 : Int) := by rw [IntKind.wrap_i64]; omega
      have HD2 := (show Hid _ from hD2)
      clear hD2 hx1
      have en1 : ∀ args w, (callFunc 111 args).run Tryz.prog w = .ok (.enter 111 args) w := enters_of Tryz.func111 (by kernel_rfl) rfl
      have HEN := (show Hid _ from en1)
      clear en1
      go_wp2
      refine wp_cut_to (fun a0 t w' => ∃ f tt, t = canon a0 dsH f ∧ tt.size ≤ 2300 ∧ f 4 = .string tt ∧ Draw W a len cap R w') ?_ ?_
      · rintro _ wy ⟨f, tt, rfl, ht, h4, hy⟩
        simp only [canon, dsH, List.foldl, Act.put, List.setIfInBounds_toArray, List.set_cons_succ, List.set_cons_zero]
        rw [h4]
        have HY := (show Hid _ from hy)
        clear hy
        go_wp2
        go_ret
        exact ⟨tt, ht, rfl, HY.out⟩
      intro J K' hJ hK
      refine wp_letterP ?_
      intro fr hfr
      have hs7 : 39 < fr.tmps.size := by rw [hfr]; exact Nat.le_of_ble_eq_true rfl
      have t0 : fr.eval (.tmp 0) = .pointer (some ⟨R, 0, none⟩) := by rw [hfr]; rfl
      have t1 : fr.eval (.tmp 1) = .string s := by rw [hfr]; rfl
      have t5 : fr.eval (.tmp 5) = .int .i64 (x : Int) := by rw [hfr]; rfl
      have HFR := (show Hid _ from hfr)
      clear hfr
      have rr : ∀ w', (fun v v' => Mut R v v' ∧ (Draw W a len cap R v → Draw W a len cap R v')) w' w' := fun w' => ⟨Mut.refl R w', fun h => h⟩
      refine wp_region_rel (Rel := fun v v' => Mut R v v' ∧ (Draw W a len cap R v → Draw W a len cap R v')) rr (fun h k => ⟨h.1.trans k.1, fun q => k.2 (h.2 q)⟩) (fun v => ⟨Mut.of_below (Below.refl _ _).drew, fun h => h.below (Below.refl _ _).drew⟩) (by kernel_rfl) (by kernel_rfl) dsH slotH (HF R s x x1) (fun _ _ _ _ h hB => h.mut hB.1) ?_ ?_ ?_ ?_
      · intro i hi
        exact slotH_mem i hi
      · intro i j hi hj q
        exact slotH_inj i j hi hj q
      · intro ops hops f wy i o hy ho hd
        have ho2 := ho
        rw [hops] at ho
        have N0 := (canon_eval_ne fr dsH f 0 (by decide)).trans t0
        have N1 := (canon_eval_ne fr dsH f 1 (by decide)).trans t1
        have N5 := (canon_eval_ne fr dsH f 5 (by decide)).trans t5
        have hi : i < 15 := by
          rcases Nat.lt_or_ge i 15 with h | h
          · exact h
          · rw [Array.getElem?_eq_none (by simpa using h)] at ho; cases ho
        have hi' : i = 0 ∨ i = 1 ∨ i = 2 ∨ i = 3 ∨ i = 4 ∨ i = 5 ∨ i = 6 ∨ i = 7 ∨ i = 8 ∨ i = 9 ∨ i = 10 ∨ i = 11 ∨ i = 12 ∨ i = 13 ∨ i = 14 := by omega
        clear hops
        rcases hi' with rfl | rfl | rfl | rfl | rfl | rfl | rfl | rfl | rfl | rfl | rfl | rfl | rfl | rfl | rfl <;> simp only [List.getElem?_toArray, List.getElem?_cons_succ, List.getElem?_cons_zero, Option.some.injEq] at ho <;> subst ho
        · refine wpOp_runG ho2 (wanted_none rfl) (qo_move (canon fr dsH f).eval _ wy _ rfl) ?_
          exact ⟨_, rfl, N1, rr wy⟩
        · refine wpOp_runG ho2 (wanted_none rfl) (qo_move (canon fr dsH f).eval _ wy _ rfl) ?_
          exact ⟨_, rfl, N5, rr wy⟩
        · refine wpOp_runG ho2 (wanted_none rfl) (q_sliceH (canon fr dsH f).eval _ wy _ _ s x rfl ((canon_eval fr dsH f 26 (by decide) (Nat.lt_of_le_of_lt (by decide) hs7)).trans (hd ⟨0, .data⟩ (by simp) rfl)) ((canon_eval fr dsH f 27 (by decide) (Nat.lt_of_le_of_lt (by decide) hs7)).trans (hd ⟨1, .data⟩ (by simp) rfl)) hx2) ?_
          exact ⟨_, rfl, rfl, rr wy⟩
        · refine wpOp_runG ho2 (wanted_none rfl) (q_six (canon fr dsH f).eval _ wy rfl (fun _ => rfl)) ?_
          exact ⟨_, rfl, ⟨_, rfl, Nat.ne_of_gt (Nat.lt_of_lt_of_le (Draw.lt HD2.out) hy.1.size), heap_alloc_new _ _⟩, ⟨(Mut.refl R wy).alloc _, fun h => h.alloc _⟩⟩
        · refine wpOp_runG ho2 (wanted_none rfl) (qo_move (canon fr dsH f).eval _ wy _ rfl) ?_
          exact ⟨_, rfl, N0, rr wy⟩
        · refine wpOp_enterG ho2 (wanted_none rfl) (qo_call2 (canon fr dsH f).eval _ wy _ HEN.out _ _ _ rfl rfl) ?_
          rw [(canon_eval fr dsH f 30 (by decide) (Nat.lt_of_le_of_lt (by decide) hs7)).trans (hd ⟨4, .data⟩ (by simp) rfl)]
          refine (belowN_any hU 6 (by omega) (by omega) wy (hy.2 HD2.out)).mono ?_
          rintro e wz ⟨y, hy6, rfl, hDz, hMz⟩
          exact ⟨_, rfl, _, rfl, ⟨y, hy6, rfl⟩, hMz, fun _ => hDz⟩
        · obtain ⟨p, hp, hpR, hpb⟩ := hd ⟨3, .data⟩ (by simp) rfl
          obtain ⟨y, hy6, hyv⟩ := hd ⟨5, .data⟩ (by simp) rfl
          refine wpOp_runG ho2 (wanted_none rfl) (q_idxS (canon fr dsH f).eval _ wy _ _ p y rfl ((canon_eval fr dsH f 29 (by decide) (Nat.lt_of_le_of_lt (by decide) hs7)).trans hp) ((canon_eval fr dsH f 31 (by decide) (Nat.lt_of_le_of_lt (by decide) hs7)).trans hyv) hy6) ?_
          exact ⟨_, rfl, ⟨p, y, hy6, hpR, rfl, hpb⟩, rr wy⟩
        · obtain ⟨p, y, hy6, hpR, hpv, hpb⟩ := hd ⟨6, .data⟩ (by simp) rfl
          obtain ⟨c, hc1, hcs⟩ := six_at y hy6
          refine wpOp_runG ho2 (wanted_none rfl) (q_loadS (canon fr dsH f).eval _ wy _ p y c rfl ((canon_eval fr dsH f 32 (by decide) (Nat.lt_of_le_of_lt (by decide) hs7)).trans hpv) (cellQ hpb hcs)) ?_
          exact ⟨_, rfl, ⟨c, hc1, rfl⟩, rr wy⟩
        · obtain ⟨c, hc1, hc⟩ := hd ⟨7, .data⟩ (by simp) rfl
          refine wpOp_runG ho2 (wanted_none rfl) (q_add (canon fr dsH f).eval _ wy _ _ _ c rfl ((canon_eval fr dsH f 28 (by decide) (Nat.lt_of_le_of_lt (by decide) hs7)).trans (hd ⟨2, .data⟩ (by simp) rfl)) ((canon_eval fr dsH f 33 (by decide) (Nat.lt_of_le_of_lt (by decide) hs7)).trans hc) (by rw [ByteArray.size_extract]; omega)) ?_
          exact ⟨_, rfl, ⟨c, hc1, rfl⟩, rr wy⟩
        · refine wpOp_runG ho2 (wanted_none rfl) (qo_move (canon fr dsH f).eval _ wy _ rfl) ?_
          exact ⟨_, rfl, N1, rr wy⟩
        · refine wpOp_runG ho2 (wanted_none rfl) (qo_move (canon fr dsH f).eval _ wy _ rfl) ?_
          exact ⟨_, rfl, N5, rr wy⟩
        · refine wpOp_runG ho2 (wanted_none rfl) (q_inc (canon fr dsH f).eval _ wy _ _ x x1 rfl ((canon_eval fr dsH f 36 (by decide) (Nat.lt_of_le_of_lt (by decide) hs7)).trans (hd ⟨10, .data⟩ (by simp) rfl)) rfl (by omega) (by omega)) ?_
          exact ⟨_, rfl, rfl, rr wy⟩
        · refine wpOp_runG ho2 (wanted_none rfl) (q_sliceL (canon fr dsH f).eval _ wy _ _ s x1 rfl ((canon_eval fr dsH f 35 (by decide) (Nat.lt_of_le_of_lt (by decide) hs7)).trans (hd ⟨9, .data⟩ (by simp) rfl)) ((canon_eval fr dsH f 37 (by decide) (Nat.lt_of_le_of_lt (by decide) hs7)).trans (hd ⟨11, .data⟩ (by simp) rfl)) hx4) ?_
          exact ⟨_, rfl, rfl, rr wy⟩
        · obtain ⟨c, hc1, hc⟩ := hd ⟨8, .data⟩ (by simp) rfl
          refine wpOp_runG ho2 (wanted_none rfl) (q_add (canon fr dsH f).eval _ wy _ _ _ _ rfl ((canon_eval fr dsH f 34 (by decide) (Nat.lt_of_le_of_lt (by decide) hs7)).trans hc) ((canon_eval fr dsH f 38 (by decide) (Nat.lt_of_le_of_lt (by decide) hs7)).trans (hd ⟨12, .data⟩ (by simp) rfl)) (by rw [ByteArray.size_append, ByteArray.size_extract, ByteArray.size_extract]; omega)) ?_
          exact ⟨_, rfl, ⟨_, three_le hs hc1, rfl⟩, rr wy⟩
        · obtain ⟨t, ht, hte⟩ := hd ⟨13, .data⟩ (by simp) rfl
          refine wpOp_runG ho2 (wanted_none rfl) (qo_assign (canon fr dsH f).eval _ wy _ rfl) ?_
          exact ⟨_, rfl, ⟨t, ht, (canon_eval fr dsH f 39 (by decide) (Nat.lt_of_le_of_lt (by decide) hs7)).trans hte⟩, rr wy⟩
      · intro f wy hy hall
        obtain ⟨t, ht, hte⟩ := hall 14 (by decide)
        exact hK _ _ (Met.intro (hJ _ _ ⟨f, t, congrArg (fun z => canon z dsH f) HFR.out, ht, hte, hy.2 HD2.out⟩))
    · have h0I : ¬ (0 : Int) < (n : Int) := by omega
      go_wp2
      go_ret
      exact ⟨s, by omega, rfl, HD1.out⟩
  · go_wp2_with fail
    refine (below_any hU 4 (by omega) (by omega) _ (Draw.alloc HD1.out _)).mono ?_
    rintro e w3 ⟨y, hy0, hy1, rfl, hD3, hM3⟩
    have hc := lit_cells hM3 (Draw.lt HD1.out)
    have c0 := hc 0
    have c1 := hc 1
    have c2 := hc 2
    have c3 := hc 3
    clear hc hM3
    have hadd : ∀ (c : ByteArray) (w' : World), c.size = 1 → (Op.stringOp .add s c).run Tryz.prog w' = .ok (.string (s ++ c)) w' := fun c w' hc => add_ok (by omega) w'
    have a0 := hadd ⟨#[32]⟩ w3 rfl
    have a1 := hadd ⟨#[41]⟩ w3 rfl
    have a2 := hadd ⟨#[48]⟩ w3 rfl
    have a3 := hadd ⟨#[97]⟩ w3 rfl
    clear hadd
    have HD3 := (show Hid _ from hD3)
    clear hD3
    have hy : y = 0 ∨ y = 1 ∨ y = 2 ∨ y = 3 := by omega
    rcases hy with rfl | rfl | rfl | rfl <;> (go_wp2; go_ret; exact ⟨_, size_add1 hs rfl, rfl, HD3.out⟩)
  · go_wp2
    go_ret
    exact ⟨s, by omega, rfl, HD1.out⟩
  · go_wp2
    go_ret
    exact ⟨s, by omega, rfl, HD1.out⟩

end
end Go.Proofs.YtlibipbpaigmdaaGreatDoor

namespace Go.Proofs.YtlibipbpaigmdaaGreatDoor
open Go.RowKit
set_option linter.unusedVariables false

theorem IsU8.below {w w' : World} {a : Option Addr} {len cap : Nat} {Z : Nat → Int} (h : IsU8 w a len cap Z) (hB : Below w.heap.size w w') : IsU8 w' a len cap Z := by
  obtain ⟨h1, h2, h3, h4⟩ := h
  refine ⟨h1, h2, h3, fun hp => ?_⟩
  obtain ⟨b, off, e, hb, e2⟩ := h4 hp
  exact ⟨b, off, e, Nat.lt_of_lt_of_le hb hB.size, fun i hi => (hB.cell (p := ⟨b, off + i, none⟩) (cell_lt (e2 i hi))).trans (e2 i hi)⟩
abbrev ndQ (x : Nd) : Array Value := #[.int .i64 x.a, .int .i64 x.s, .int .i64 x.k, .string x.key, .string x.text, .slice x.u x.n x.cap]
abbrev nzQ : Array Value := #[.int .i64 0, .int .i64 0, .int .i64 0, .string ⟨#[]⟩, .string ⟨#[]⟩, .slice none 0 0]
theorem box_of (w : World) (q : Array Value) : ((w.alloc (.cells nzQ 50)).setRow w.heap.size q).heap[w.heap.size]? = some (.cells q 50 (0, 0)) ∧ Below w.heap.size w ((w.alloc (.cells nzQ 50)).setRow w.heap.size q) :=
  ⟨setRow_heap _ _ _ _ _ _ (heap_alloc_new w _), below_setRow ((Below.refl _ _).alloc (Nat.le_refl _) _) (Nat.le_refl _) _⟩

section
variable {a : Option Addr} {len cap : Nat} {Z : Nat → Int}
set_option maxHeartbeats 4000000 in
theorem drawNodeText_any (w : World) (hU : IsU8 w a len cap Z) :
    Calls Tryz.prog 53 #[.slice a len cap] w fun e w' => ∃ x : Nd, e = .returned (.agg (ndQ x)) ∧ IsStrs w' x.u x.n x.cap x.S ∧ FineN x ∧ Below w.heap.size w w' := by
  obtain ⟨w0, hw0⟩ : ∃ w0, w0 = w.alloc (.cells nzQ 50) := ⟨_, rfl⟩
  have HW0 := (show Hid _ from hw0)
  have HB0 : Hid (Below w.heap.size w w0) := by show Below _ _ _; rw [hw0]; exact (Below.refl _ _).alloc (Nat.le_refl _) _
  have HG0 : Hid (w0.heap[w.heap.size]? = some (.cells nzQ 50 (0, 0))) := by show _ = _; rw [hw0]; exact heap_alloc_new w _
  have HU : Hid (IsU8 w0 a len cap Z) := hU.below HB0.out
  clear hU hw0
  go_enter Tryz.func53, Tryz.ntmps53
  go_wp2_with fail
  rw [← HW0.out]
  refine (open_any a len cap w0).mono ?_
  rintro e w1 ⟨rfl, hD1⟩
  have HD1 := (show Hid _ from hD1)
  clear hD1
  go_wp2_with fail
  refine (dag_any HU.out 4 (by omega) w1 HD1.out).mono ?_
  rintro e w2 ⟨g, gc, L, n, hn, rfl, hs2⟩
  have HN : Hid (Calls Tryz.prog 120 #[.pointer (some ⟨w0.heap.size, 0, none⟩), .slice (some ⟨g, 0, none⟩) n gc] w2 fun e w' => ∃ x : Nd, e = .returned (.agg (ndQ x)) ∧ UpO w' w2.heap.size x ∧ DN L x ∧ Draw w0 a len cap w0.heap.size w' ∧ Mut w0.heap.size w2 w') := by
    subst hn
    exact node_any HU.out w1.heap.size g gc L w2 hs2.draw hs2.own hs2.lt hs2.mt0.size hs2.few.fine hs2.few.1
  have HZ2 : Hid (w0.heap.size < w2.heap.size) := hs2.draw.lt
  clear hn hs2
  go_wp2_with fail
  refine HN.out.mono ?_
  rintro e w3 ⟨x, rfl, hx, hd, hD3, _⟩
  have HX : Hid (UpO w3 w2.heap.size x) := hx
  have HFN : Hid (FineN x) := hd.fine
  have HB3 : Hid (Below w0.heap.size w0 w3) := hD3.bel
  obtain ⟨q, hq⟩ : ∃ q, q = ndQ x := ⟨_, rfl⟩
  have hi6 : (Tryz.prog.info? 50).map (·.size) = some q.size := by rw [hq]; kernel_rfl
  have ho6 : nzQ.size = q.size := by rw [hq]; rfl
  have h16 : q.all (·.oneCell') = true := by rw [hq]; simp [Value.oneCell']
  have HQ : Hid (q = ndQ x) := hq
  have HZ0 : Hid (w.heap.size < w0.heap.size) := lt_of_block HG0.out
  have HG3 : Hid (w3.heap[w.heap.size]? = some (.cells nzQ 50 (0, 0))) := (HB3.out.block _ HZ0.out).trans HG0.out
  clear hx hd hD3 hq HN
  go_wp2_with (refine wpList_store_row rfl 50 _ _ rfl w.heap.size q rfl (congrArg Value.agg HQ.out.symm) 50 _ HG3.out hi6 ho6 h16 ?_)
  refine bodyPost_ret (v := .agg q) (results_cell_row rfl _ _ w.heap.size 50 _ _ _ rfl (setRow_heap _ _ _ _ _ _ HG3.out) Tryz.underlying50 rfl hi6) rfl ⟨x, ret_val (congrArg Value.agg HQ.out), ?_, HFN.out, below_setRow (HB0.out.trans (HB3.out.mono HB0.out.size)) (Nat.le_refl _) _⟩
  have h1 := HZ2.out
  have h2 := HZ0.out
  exact (HX.out.keep (fun k hk _ => setRow_other _ _ _ _ (by omega))).strs

set_option maxHeartbeats 4000000 in
theorem drawReadNode_any (w : World) (hU : IsU8 w a len cap Z) :
    Calls Tryz.prog 62 #[.slice a len cap] w fun e w' => ∃ t : ByteArray, e = .returned (.string t) ∧ t.size ≤ 2300 ∧ Below w.heap.size w w' := by
  have HU := (show Hid _ from hU)
  clear hU
  go_enter Tryz.func62, Tryz.ntmps62
  go_wp2_with fail
  refine (open_any a len cap w).mono ?_
  rintro e w1 ⟨rfl, hD1⟩
  have HD1 := (show Hid _ from hD1)
  clear hD1
  go_wp2_with fail
  refine (dag_any HU.out 3 (by omega) w1 HD1.out).mono ?_
  rintro e w2 ⟨g, gc, L, n, hn, rfl, hs2⟩
  have HN : Hid (Calls Tryz.prog 120 #[.pointer (some ⟨w.heap.size, 0, none⟩), .slice (some ⟨g, 0, none⟩) n gc] w2 fun e w' => ∃ x : Nd, e = .returned (.agg (ndQ x)) ∧ UpO w' w2.heap.size x ∧ DN L x ∧ Draw w a len cap w.heap.size w' ∧ Mut w.heap.size w2 w') := by
    subst hn
    exact node_any HU.out w1.heap.size g gc L w2 hs2.draw hs2.own hs2.lt hs2.mt0.size hs2.few.fine hs2.few.1
  clear hn hs2
  go_wp2_with fail
  refine HN.out.mono ?_
  rintro e w3 ⟨x, rfl, hx, hd, hD3, _⟩
  obtain ⟨t, ht⟩ : ∃ t, t = textR x.a x.s x.k x.key x.text x.S x.n := ⟨_, rfl⟩
  have HT : Hid (t.size ≤ 1000) := by show _ ≤ _; rw [ht]; exact textR_1000 _ _ _ _ _ _ _
  have HC : Hid (Calls Tryz.prog 57 #[.agg (ndQ x)] w3 fun e w' => e = .returned (.string t) ∧ Below w3.heap.size w3 w') := by
    rw [ht]
    exact specNodeTextD_any x.a x.s x.k x.key x.text x.u x.n x.cap x.S w3 hx.strs hd.fine.2.2 hd.fine.1 hd.fine.2.1
  have HD3 : Hid (Draw w a len cap w.heap.size w3) := hD3
  clear hx hd hD3 ht HN
  go_wp2_with fail
  refine HC.out.mono ?_
  rintro e w4 ⟨rfl, hB4⟩
  have HD4 : Hid (Draw w a len cap w.heap.size w4) := HD3.out.below hB4
  clear hB4
  go_wp2_with fail
  refine (hurt_any HU.out t HT.out w4 HD4.out).mono ?_
  rintro e w5 ⟨u, hu, rfl, hD5⟩
  have HD5 : Hid (Draw w a len cap w.heap.size w5) := hD5
  clear hD5
  go_wp2
  go_ret
  exact ⟨u, rfl, hu, HD5.out.bel⟩
end

set_option maxHeartbeats 2000000 in
theorem sameNode_same (x : Nd) (u : Option Addr) (uc : Nat) (w : World) (h : IsStrs w u x.n uc x.S) (h' : IsStrs w x.u x.n x.cap x.S) :
    Calls Tryz.prog 60 #[.agg #[.int .i64 x.a, .int .i64 x.s, .int .i64 x.k, .string x.key, .string x.text, .slice u x.n uc], .agg (ndQ x)] w fun e w' => e = .returned (.bool true) ∧ Below w.heap.size w w' := by
  obtain ⟨a, s, k, key, text, xu, n, xc, S⟩ := x
  have HB : Hid (∀ o o', Below w.heap.size w ((w.alloc o).alloc o')) := fun o o' => ((Below.refl _ _).alloc (Nat.le_refl _) _).alloc (by simp) _
  have HS : Hid (∀ o o', Calls Tryz.prog 36 #[.slice u n uc, .slice xu n xc] ((w.alloc o).alloc o') fun e w' => e = .returned (.bool true) ∧ Below ((w.alloc o).alloc o').heap.size ((w.alloc o).alloc o') w') := fun o o' => by
    refine (lawSame_any u n uc S xu n xc S _ (h.below (HB.out o o')) (h'.below (HB.out o o'))).mono ?_
    rintro e w' ⟨rfl, hB⟩
    exact ⟨by rw [sameB_refl]; simp, hB⟩
  have e1 : (a == a) = true := by simp
  have e2 : (s == s) = true := by simp
  have e3 : (k == k) = true := by simp
  have e4 : (key.toList == key.toList) = true := by simp
  have e5 : (text.toList == text.toList) = true := by simp
  clear h h'
  go_enter Tryz.func60, Tryz.ntmps60
  go_wp2_with fail
  refine (HS.out _ _).mono ?_
  rintro e w1 ⟨rfl, hB1⟩
  go_wp2
  go_ret
  exact ⟨rfl, (HB.out _ _).trans (hB1.mono (HB.out _ _).size)⟩
end Go.Proofs.YtlibipbpaigmdaaGreatDoor

namespace Go.Proofs.YtlibipbpaigmdaaGreatDoor
open Go.RowKit
set_option linter.unusedVariables false

theorem strs_congr {w : World} {a : Option Addr} {len cap : Nat} {S T : Nat → ByteArray} (h : IsStrs w a len cap S) (e : ∀ i, i < len → S i = T i) : IsStrs w a len cap T := by
  obtain ⟨h1, h2, h3⟩ := h
  refine ⟨h1, h2, fun hp => ?_⟩
  obtain ⟨b, off, e1, hb, hc⟩ := h3 hp
  exact ⟨b, off, e1, hb, fun i hi => by rw [← e i hi]; exact hc i hi⟩
theorem id_sum {a s k : Int} {key text : ByteArray} {S : Nat → ByteArray} {len : Nat} (h : nodeB a s k key text S len = true) : idR a s k key text S len = sumT (textR a s k key text S len) := by
  unfold idR textR
  rw [if_pos h, if_pos h]
theorem nodeQ_ok (p : PN) (a : Option Addr) (c : Nat) (q : Array Value) (h : q = nodeQ p (.slice a p.ups.length c)) : (Tryz.prog.info? 50).map (·.size) = some q.size ∧ nzQ.size = q.size ∧ q.all (·.oneCell') = true := by
  subst h
  refine ⟨?_, rfl, by simp [nodeQ, Value.oneCell']⟩
  show _ = some 6
  kernel_rfl
theorem ndQ_ok (x : Nd) (q : Array Value) (h : q = ndQ x) : (Tryz.prog.info? 50).map (·.size) = some q.size ∧ nzQ.size = q.size ∧ q.all (·.oneCell') = true := by
  subst h
  refine ⟨?_, rfl, by simp [Value.oneCell']⟩
  show _ = some 6
  kernel_rfl
theorem box_at {w w3 : World} {q : Array Value} (h : w3 = (w.alloc (.cells nzQ 50)).setRow w.heap.size q) : w3.heap[w.heap.size]? = some (.cells q 50 (0, 0)) ∧ Below w.heap.size w w3 := by
  subst h
  exact box_of w q

theorem reads_fine {s : ByteArray} {p : PN} (h : Reads s p true) : p.key.size ≤ 9223372036854775807 ∧ p.text.size ≤ 9223372036854775807 ∧ ∀ i, i < p.ups.length → (p.S i).size ≤ 9223372036854775807 := by
  rcases h with ⟨_, hs, hg⟩ | ⟨h, _⟩
  · obtain ⟨_, h2, h3⟩ := hg
    unfold textR at h3
    split at h3
    · rename_i hn
      obtain ⟨_, _, _, h4, h5, _, h6⟩ := node_right hn
      exact ⟨by omega, by omega, fun i hi => by have := h6 i hi; omega⟩
    · exact absurd (by rw [← h3]; exact ByteArray.toList_eq _) h2
  · cases h

set_option maxRecDepth 20000 in
set_option maxHeartbeats 8000000 in
theorem fnNodes_walk {a : Option Addr} {len cap : Nat} {Z : Nat → Int} (W : World) (m : Int) (hU : IsU8 W a len cap Z) (hP : AllT W) (hm : W.cell? ⟨3, 0, none⟩ = some (.int .i64 m)) :
    Calls Tryz.prog 10 #[.slice a len cap] W fun e w' => e = .returned (.bool true) ∧ Below W.heap.size W w' := by
  have HU : Hid (IsU8 W a len cap Z) := hU
  have HP := (show Hid _ from hP)
  have HM := (show Hid _ from hm)
  clear hU hP hm
  obtain ⟨big, hbig⟩ : ∃ b, b = decide ((1048576 : Int) < (len : Int)) := ⟨_, rfl⟩
  have HBig : Hid (Calls Tryz.prog 34 #[.slice a len cap] W fun e w' => e = .returned (.bool big) ∧ w' = W) := by rw [hbig]; exact big_any a len cap W
  clear hbig
  go_enter Tryz.func10, Tryz.ntmps10
  go_wp2_with fail
  refine HBig.out.mono ?_
  rintro e w0 ⟨rfl, hw0⟩
  rw [hw0]
  clear hw0 w0 HBig
  cases big with
  | true =>
    go_wp2
    go_ret
    exact ⟨rfl, Below.refl _ _⟩
  | false =>
  go_wp2_with fail
  refine (drawNodeText_any W HU.out).mono ?_
  rintro e w1 ⟨x, rfl, hI, hF, b1⟩
  have HF : Hid (FineN x) := hF
  obtain ⟨q, hq⟩ : ∃ q, q = ndQ x := ⟨_, rfl⟩
  rw [← hq]
  obtain ⟨hi6, ho6, h16⟩ := ndQ_ok x q hq
  obtain ⟨w3, hw3⟩ : ∃ w3, w3 = (w1.alloc (.cells nzQ 50)).setRow w1.heap.size q := ⟨_, rfl⟩
  obtain ⟨hg3, hb3⟩ := box_at hw3
  have HG3 : Hid (w3.heap[w1.heap.size]? = some (.cells (ndQ x) 50 (0, 0))) := by show _ = _; rw [← hq]; exact hg3
  have HB3 : Hid (Below W.heap.size W w3) := b1.trans (hb3.mono b1.size)
  have HI3 : Hid (IsStrs w3 x.u x.n x.cap x.S) := hI.below hb3
  have HZ1 : Hid ((w1.alloc (.cells nzQ 50)).heap[w1.heap.size]? = some (.cells nzQ 50 (0, 0))) := heap_alloc_new w1 _
  have HW3 := (show Hid _ from hw3)
  obtain ⟨c0, c1, c2, c3, c4, c5⟩ := row_cells HG3.out
  obtain ⟨T, hT⟩ : ∃ T, T = textR x.a x.s x.k x.key x.text x.S x.n := ⟨_, rfl⟩
  have HT : Hid (T = textR x.a x.s x.k x.key x.text x.S x.n) := hT
  have HT1 : Hid (T.size ≤ 1000) := by show _ ≤ _; rw [hT]; exact textR_1000 _ _ _ _ _ _ _
  have H54 : Hid (Calls Tryz.prog 54 #[.agg (ndQ x)] w3 fun e w' => e = .returned (.string T) ∧ Below w3.heap.size w3 w') := by
    rw [hT]
    exact implNodeText_any x.a x.s x.k x.key x.text x.u x.n x.cap x.S w3 HI3.out hF.2.2 hF.1 hF.2.1 (HP.out.below HB3.out).p
  clear hI hF b1 hq hw3 hg3 hb3 hT
  go_wp2_with (refine wpList_store_row rfl 50 _ _ rfl w1.heap.size q rfl rfl 50 _ HZ1.out hi6 ho6 h16 ?_; rw [← HW3.out])
  refine H54.out.mono ?_
  rintro e w4 ⟨rfl, hB4⟩
  have HB4 : Hid (Below W.heap.size W w4) := HB3.out.trans (hB4.mono HB3.out.size)
  have HG4 : Hid (w4.heap[w1.heap.size]? = some (.cells (ndQ x) 50 (0, 0))) := (hB4.block _ (lt_of_block HG3.out)).trans HG3.out
  have HI4 : Hid (IsStrs w4 x.u x.n x.cap x.S) := HI3.out.below hB4
  clear hB4 H54 c0 c1 c2 c3 c4 c5 HZ1 HW3 hi6 ho6 h16
  go_wp2_with fail
  refine (implRead T m w4 (Nat.le_trans HT1.out (by decide)) ((HB4.out.cell (cell_lt HM.out)).trans HM.out)).mono ?_
  rintro e w5 ⟨p, b, a5, k5, rfl, hr, ho, hB5⟩
  have HR : Hid (Reads T p b) := hr
  obtain ⟨q5, hq5⟩ : ∃ q5, q5 = nodeQ p (.slice a5 p.ups.length k5) := ⟨_, rfl⟩
  rw [← hq5]
  obtain ⟨hi6, ho6, h16⟩ := nodeQ_ok p a5 k5 q5 hq5
  obtain ⟨w6, hw6⟩ : ∃ w6, w6 = (w5.alloc (.cells nzQ 50)).setRow w5.heap.size q5 := ⟨_, rfl⟩
  obtain ⟨hg6, hb6⟩ := box_at hw6
  have HG6 : Hid (w6.heap[w5.heap.size]? = some (.cells (nodeQ p (.slice a5 p.ups.length k5)) 50 (0, 0))) := by show _ = _; rw [← hq5]; exact hg6
  have HO6 : Hid (IsStrs w6 a5 p.ups.length k5 p.S) := (pn_strs ho).below hb6
  have HB46 : Hid (Below w4.heap.size w4 w6) := hB5.trans (hb6.mono hB5.size)
  have HB6 : Hid (Below W.heap.size W w6) := HB4.out.trans (HB46.out.mono HB4.out.size)
  have HG46 : Hid (w6.heap[w1.heap.size]? = some (.cells (ndQ x) 50 (0, 0))) := (HB46.out.block _ (lt_of_block HG4.out)).trans HG4.out
  have HI6 : Hid (IsStrs w6 x.u x.n x.cap x.S) := HI4.out.below HB46.out
  have HZ5 : Hid ((w5.alloc (.cells nzQ 50)).heap[w5.heap.size]? = some (.cells nzQ 50 (0, 0))) := heap_alloc_new w5 _
  have HW6 := (show Hid _ from hw6)
  obtain ⟨c0, c1, c2, c3, c4, c5⟩ := row_cells HG46.out
  obtain ⟨I, hI⟩ : ∃ I, I = idR x.a x.s x.k x.key x.text x.S x.n := ⟨_, rfl⟩
  have HID : Hid (I = idR x.a x.s x.k x.key x.text x.S x.n) := hI
  have H56 : Hid (Calls Tryz.prog 56 #[.agg (ndQ x)] w6 fun e w' => e = .returned (.string I) ∧ Below w6.heap.size w6 w') := by
    rw [hI]
    exact implIdOf_any x.a x.s x.k x.key x.text x.u x.n x.cap x.S w6 HI6.out HF.out.2.2 HF.out.1 HF.out.2.1 (HP.out.below HB6.out)
  clear hr ho hB5 hq5 hw6 hg6 hb6 hI
  go_wp2_with (refine wpList_store_row rfl 50 _ _ rfl w5.heap.size q5 rfl rfl 50 _ HZ5.out hi6 ho6 h16 ?_; rw [← HW6.out])
  refine H56.out.mono ?_
  rintro e w7 ⟨rfl, hB7⟩
  have HB7 : Hid (Below W.heap.size W w7) := HB6.out.trans (hB7.mono HB6.out.size)
  have HG7 : Hid (w7.heap[w1.heap.size]? = some (.cells (ndQ x) 50 (0, 0))) := (hB7.block _ (lt_of_block HG46.out)).trans HG46.out
  have HGp : Hid (w7.heap[w5.heap.size]? = some (.cells (nodeQ p (.slice a5 p.ups.length k5)) 50 (0, 0))) := (hB7.block _ (lt_of_block HG6.out)).trans HG6.out
  have HI7 : Hid (IsStrs w7 x.u x.n x.cap x.S) := HI6.out.below hB7
  have HO7 : Hid (IsStrs w7 a5 p.ups.length k5 p.S) := HO6.out.below hB7
  clear hB7 H56 c0 c1 c2 c3 c4 c5 HZ5 HW6 hi6 ho6 h16
  have hrn := reads_node (by rw [← HT.out]; exact HR.out)
  have HNB : Hid (b = nodeB x.a x.s x.k x.key x.text x.S x.n) := hrn.1
  have HPP : Hid (b = true → p = ⟨x.a, x.s, x.k, x.key, x.text, (List.range x.n).map x.S⟩) := hrn.2
  clear hrn
  obtain ⟨c0, c1, c2, c3, c4, c5⟩ := row_cells HG7.out
  have H57 : Hid (∀ v, Below w7.heap.size w7 v → Calls Tryz.prog 57 #[.agg (ndQ x)] v fun e w' => e = .returned (.string T) ∧ Below v.heap.size v w') := fun v hv => by
    rw [HT.out]
    exact specNodeTextD_any x.a x.s x.k x.key x.text x.u x.n x.cap x.S v (HI7.out.below hv) HF.out.2.2 HF.out.1 HF.out.2.1
  have H58 : Hid (∀ v, Below w7.heap.size w7 v → Calls Tryz.prog 58 #[.agg (ndQ x)] v fun e w' => e = .returned (.string I) ∧ Below v.heap.size v w') := fun v hv => by
    rw [HID.out]
    exact specIdOf_any x.a x.s x.k x.key x.text x.u x.n x.cap x.S v (HI7.out.below hv) HF.out.2.2 HF.out.1 HF.out.2.1
  have H59 : Hid (∀ v, Below w7.heap.size w7 v → Calls Tryz.prog 59 #[.agg (ndQ x)] v fun e w' => e = .returned (.bool b) ∧ Below v.heap.size v w') := fun v hv => by
    rw [HNB.out]
    exact implNodeOk_any x.a x.s x.k x.key x.text x.u x.n x.cap x.S v (HI7.out.below hv) HF.out.2.2 HF.out.1 HF.out.2.1
  have hTT : (T.toList != T.toList) = false := by simp
  have hII : (I.toList != I.toList) = false := by simp
  have HEnd : Hid (∀ w8, Below w7.heap.size w7 w8 → Below W.heap.size W w8) := fun w8 h => HB7.out.trans (h.mono HB7.out.size)
  cases b with
  | false =>
    go_wp2_with fail
    refine (H57.out w7 (Below.refl _ _)).mono ?_
    rintro e v1 ⟨rfl, hB1⟩
    have HV1 : Hid (Below w7.heap.size w7 v1) := hB1
    clear hB1 c0 c1 c2 c3 c4 c5
    have HV := (show Hid _ from HV1.out)
    clear HV1
    obtain ⟨c0, c1, c2, c3, c4, c5⟩ := row_cells ((HV.out.block _ (lt_of_block HG7.out)).trans HG7.out)
    go_wp2_with fail
    refine (H58.out v1 HV.out).mono ?_
    rintro e v2 ⟨rfl, hB2⟩
    have HV2 : Hid (Below w7.heap.size w7 v2) := HV.out.trans (hB2.mono HV.out.size)
    clear hB2 c0 c1 c2 c3 c4 c5
    clear HV
    have HV := (show Hid _ from HV2.out)
    clear HV2
    obtain ⟨c0, c1, c2, c3, c4, c5⟩ := row_cells ((HV.out.block _ (lt_of_block HG7.out)).trans HG7.out)
    go_wp2_with fail
    refine (H59.out v2 HV.out).mono ?_
    rintro e v3 ⟨rfl, hB3⟩
    have HV3 : Hid (Below w7.heap.size w7 v3) := HV.out.trans (hB3.mono HV.out.size)
    clear hB3 c0 c1 c2 c3 c4 c5
    clear HV
    have HV := (show Hid _ from HV3.out)
    clear HV3
    obtain ⟨c0, c1, c2, c3, c4, c5⟩ := row_cells ((HV.out.block _ (lt_of_block HG7.out)).trans HG7.out)
    go_wp2_with fail
    clear c0 c1 c2 c3 c4 c5
    have HB8 : Hid (Below W.heap.size W v3) := HEnd.out v3 HV.out
    obtain ⟨w8, hw8⟩ : ∃ w8, w8 = v3 := ⟨_, rfl⟩
    rw [← hw8] at HB8 ⊢
    clear hw8 HV HEnd H57 H58 H59 hTT hII HI7 HG7 HGp HO7 HPP HNB HR HT HT1 HID HF HB7 HB6 HB46 HB4 HB3 HO6 HI6 HI4 HI3 HG6 HG46 HG4 HG3
    refine (drawReadNode_any w8 (HU.out.below HB8.out)).mono ?_
    rintro e w9 ⟨Y, rfl, hY, hB9⟩
    have HY : Hid (Y.size ≤ 2300) := hY
    have HB9 : Hid (Below W.heap.size W w9) := HB8.out.trans (hB9.mono HB8.out.size)
    clear hY hB9
    go_wp2_with fail
    refine (implRead Y m w9 (Nat.le_trans HY.out (by decide)) ((HB9.out.cell (cell_lt HM.out)).trans HM.out)).mono ?_
    rintro e wa ⟨p1, b1, a1, k1, rfl, hr1, ho1, hBa⟩
    have HR1 : Hid (Reads Y p1 b1) := hr1
    obtain ⟨u1, hu1⟩ : ∃ u1, u1 = nodeQ p1 (.slice a1 p1.ups.length k1) := ⟨_, rfl⟩
    rw [← hu1]
    obtain ⟨hi6, ho6, h16⟩ := nodeQ_ok p1 a1 k1 u1 hu1
    obtain ⟨wb, hwb⟩ : ∃ wb, wb = (wa.alloc (.cells nzQ 50)).setRow wa.heap.size u1 := ⟨_, rfl⟩
    obtain ⟨hgb, hbb⟩ := box_at hwb
    have HGb : Hid (wb.heap[wa.heap.size]? = some (.cells (nodeQ p1 (.slice a1 p1.ups.length k1)) 50 (0, 0))) := by show _ = _; rw [← hu1]; exact hgb
    have HOb : Hid (IsStrs wb a1 p1.ups.length k1 p1.S) := (pn_strs ho1).below hbb
    have HBb : Hid (Below W.heap.size W wb) := HB9.out.trans ((hBa.trans (hbb.mono hBa.size)).mono HB9.out.size)
    have HZa : Hid ((wa.alloc (.cells nzQ 50)).heap[wa.heap.size]? = some (.cells nzQ 50 (0, 0))) := heap_alloc_new wa _
    have HWb := (show Hid _ from hwb)
    clear hr1 ho1 hBa hu1 hwb hgb hbb
    go_wp2_with (refine wpList_store_row rfl 50 _ _ rfl wa.heap.size u1 rfl rfl 50 _ HZa.out hi6 ho6 h16 ?_; rw [← HWb.out])
    refine (specRead Y wb (Nat.le_trans HY.out (by decide))).mono ?_
    rintro e wc ⟨p2, b2, a2, k2, rfl, hr2, _, hBc⟩
    obtain ⟨_, hb2⟩ := HR1.out.unique hr2
    rw [hb2]
    obtain ⟨u2, hu2⟩ : ∃ u2, u2 = nodeQ p2 (.slice a2 p2.ups.length k2) := ⟨_, rfl⟩
    rw [← hu2]
    obtain ⟨ji6, jo6, j16⟩ := nodeQ_ok p2 a2 k2 u2 hu2
    obtain ⟨wd, hwd⟩ : ∃ wd, wd = (wc.alloc (.cells nzQ 50)).setRow wc.heap.size u2 := ⟨_, rfl⟩
    obtain ⟨_, hbd⟩ := box_at hwd
    have HBbd : Hid (Below wb.heap.size wb wd) := hBc.trans (hbd.mono hBc.size)
    have HBd : Hid (Below W.heap.size W wd) := HBb.out.trans (HBbd.out.mono HBb.out.size)
    have HGd : Hid (wd.heap[wa.heap.size]? = some (.cells (nodeQ p1 (.slice a1 p1.ups.length k1)) 50 (0, 0))) := (HBbd.out.block _ (lt_of_block HGb.out)).trans HGb.out
    have HOd : Hid (IsStrs wd a1 p1.ups.length k1 p1.S) := HOb.out.below HBbd.out
    have HZc : Hid ((wc.alloc (.cells nzQ 50)).heap[wc.heap.size]? = some (.cells nzQ 50 (0, 0))) := heap_alloc_new wc _
    have HWd := (show Hid _ from hwd)
    have hYY : (Y.toList == Y.toList) = true := by simp
    clear hr2 hBc hb2 hu2 hwd hbd HZa HWb hi6 ho6 h16
    cases b1 with
    | false =>
      go_wp2_with (refine wpList_store_row rfl 50 _ _ rfl wc.heap.size u2 rfl rfl 50 _ HZc.out ji6 jo6 j16 ?_; rw [← HWd.out])
      go_ret
      exact ⟨rfl, HBd.out⟩
    | true =>
      have H54 : Hid (Calls Tryz.prog 54 #[.agg #[.int .i64 p1.a, .int .i64 p1.s, .int .i64 p1.k, .string p1.key, .string p1.text, .slice a1 p1.ups.length k1]] wd fun e w' => e = .returned (.string Y) ∧ Below wd.heap.size wd w') := by
        obtain ⟨f1, f2, f3⟩ := reads_fine HR1.out
        have := implNodeText_any p1.a p1.s p1.k p1.key p1.text a1 p1.ups.length k1 p1.S wd HOd.out f3 f1 f2 (HP.out.below HBd.out).p
        rw [reads_text HR1.out] at this
        exact this
      obtain ⟨d0, d1, d2, d3, d4, d5⟩ := row_cells HGd.out
      go_wp2_with (refine wpList_store_row rfl 50 _ _ rfl wc.heap.size u2 rfl rfl 50 _ HZc.out ji6 jo6 j16 ?_; rw [← HWd.out])
      refine H54.out.mono ?_
      rintro e we ⟨rfl, hBe⟩
      have HBe : Hid (Below W.heap.size W we) := HBd.out.trans (hBe.mono HBd.out.size)
      clear hBe
      go_wp2
      go_ret
      exact ⟨rfl, HBe.out⟩
  | true =>
    have hp := HPP.out rfl
    have HGx : Hid (w7.heap[w5.heap.size]? = some (.cells #[.int .i64 x.a, .int .i64 x.s, .int .i64 x.k, .string x.key, .string x.text, .slice a5 x.n k5] 50 (0, 0))) := by
      have h := HGp.out
      rw [hp] at h
      have e : ((List.range x.n).map x.S).length = x.n := by rw [List.length_map, List.length_range]
      have h2 : w7.heap[w5.heap.size]? = some (.cells #[.int .i64 x.a, .int .i64 x.s, .int .i64 x.k, .string x.key, .string x.text, .slice a5 ((List.range x.n).map x.S).length k5] 50 (0, 0)) := h
      rw [e] at h2
      exact h2
    have HOx : Hid (IsStrs w7 a5 x.n k5 x.S) := by
      have h := HO7.out
      rw [hp] at h
      have e : ((List.range x.n).map x.S).length = x.n := by rw [List.length_map, List.length_range]
      have h2 : IsStrs w7 a5 ((List.range x.n).map x.S).length k5 (PN.S ⟨x.a, x.s, x.k, x.key, x.text, (List.range x.n).map x.S⟩) := h
      rw [e] at h2
      refine strs_congr h2 fun i hi => ?_
      rw [S_at _ i (by simpa using hi)]
      simp
    have H60 : Hid (∀ v, Below w7.heap.size w7 v → Calls Tryz.prog 60 #[.agg #[.int .i64 x.a, .int .i64 x.s, .int .i64 x.k, .string x.key, .string x.text, .slice a5 x.n k5], .agg (ndQ x)] v fun e w' => e = .returned (.bool true) ∧ Below v.heap.size v w') := fun v hv => sameNode_same x a5 k5 v (HOx.out.below hv) (HI7.out.below hv)
    have H61 : Hid (∀ v, Below w7.heap.size w7 v → Calls Tryz.prog 61 #[.string T] v fun e w' => e = .returned (.string I) ∧ Below v.heap.size v w') := fun v hv => by
      rw [HID.out, id_sum HNB.out.symm, ← HT.out]
      exact implSumText_any T (Nat.le_trans HT1.out (by decide)) v ((HP.out.below HB7.out).below hv).t
    obtain ⟨d0, d1, d2, d3, d4, d5⟩ := row_cells HGx.out
    clear hp
    have HGV : Hid (∀ v, Below w7.heap.size w7 v → v.heap[w5.heap.size]? = some (.cells #[.int .i64 x.a, .int .i64 x.s, .int .i64 x.k, .string x.key, .string x.text, .slice a5 x.n k5] 50 (0, 0))) := fun v hv => (hv.block _ (lt_of_block HGx.out)).trans HGx.out
    go_wp2_with fail
    refine (H57.out w7 (Below.refl _ _)).mono ?_
    rintro e v1 ⟨rfl, hB1⟩
    have HV1 : Hid (Below w7.heap.size w7 v1) := hB1
    clear hB1 c0 c1 c2 c3 c4 c5 d0 d1 d2 d3 d4 d5
    have HV := (show Hid _ from HV1.out)
    clear HV1
    obtain ⟨c0, c1, c2, c3, c4, c5⟩ := row_cells ((HV.out.block _ (lt_of_block HG7.out)).trans HG7.out)
    obtain ⟨d0, d1, d2, d3, d4, d5⟩ := row_cells (HGV.out _ HV.out)
    go_wp2_with fail
    refine (H58.out v1 HV.out).mono ?_
    rintro e v2 ⟨rfl, hB2⟩
    have HV2 : Hid (Below w7.heap.size w7 v2) := HV.out.trans (hB2.mono HV.out.size)
    clear hB2 c0 c1 c2 c3 c4 c5 d0 d1 d2 d3 d4 d5
    clear HV
    have HV := (show Hid _ from HV2.out)
    clear HV2
    obtain ⟨c0, c1, c2, c3, c4, c5⟩ := row_cells ((HV.out.block _ (lt_of_block HG7.out)).trans HG7.out)
    obtain ⟨d0, d1, d2, d3, d4, d5⟩ := row_cells (HGV.out _ HV.out)
    go_wp2_with fail
    refine (H59.out v2 HV.out).mono ?_
    rintro e v3 ⟨rfl, hB3⟩
    have HV3 : Hid (Below w7.heap.size w7 v3) := HV.out.trans (hB3.mono HV.out.size)
    clear hB3 c0 c1 c2 c3 c4 c5 d0 d1 d2 d3 d4 d5
    clear HV
    have HV := (show Hid _ from HV3.out)
    clear HV3
    obtain ⟨c0, c1, c2, c3, c4, c5⟩ := row_cells ((HV.out.block _ (lt_of_block HG7.out)).trans HG7.out)
    obtain ⟨d0, d1, d2, d3, d4, d5⟩ := row_cells (HGV.out _ HV.out)
    go_wp2_with fail
    refine (H60.out v3 HV.out).mono ?_
    rintro e v4 ⟨rfl, hB4⟩
    have HV4 : Hid (Below w7.heap.size w7 v4) := HV.out.trans (hB4.mono HV.out.size)
    clear hB4 c0 c1 c2 c3 c4 c5 d0 d1 d2 d3 d4 d5
    clear HV
    have HV := (show Hid _ from HV4.out)
    clear HV4
    obtain ⟨c0, c1, c2, c3, c4, c5⟩ := row_cells ((HV.out.block _ (lt_of_block HG7.out)).trans HG7.out)
    obtain ⟨d0, d1, d2, d3, d4, d5⟩ := row_cells (HGV.out _ HV.out)
    go_wp2_with fail
    refine (H61.out v4 HV.out).mono ?_
    rintro e v5 ⟨rfl, hB5⟩
    have HV5 : Hid (Below w7.heap.size w7 v5) := HV.out.trans (hB5.mono HV.out.size)
    clear hB5 c0 c1 c2 c3 c4 c5 d0 d1 d2 d3 d4 d5
    clear HV
    have HV := (show Hid _ from HV5.out)
    clear HV5
    obtain ⟨c0, c1, c2, c3, c4, c5⟩ := row_cells ((HV.out.block _ (lt_of_block HG7.out)).trans HG7.out)
    obtain ⟨d0, d1, d2, d3, d4, d5⟩ := row_cells (HGV.out _ HV.out)
    go_wp2_with fail
    clear c0 c1 c2 c3 c4 c5 d0 d1 d2 d3 d4 d5
    have HB8 : Hid (Below W.heap.size W v5) := HEnd.out v5 HV.out
    obtain ⟨w8, hw8⟩ : ∃ w8, w8 = v5 := ⟨_, rfl⟩
    rw [← hw8] at HB8 ⊢
    clear hw8 HV HGV HGx HOx H60 H61 HEnd H57 H58 H59 hTT hII HI7 HG7 HGp HO7 HPP HNB HR HT HT1 HID HF HB7 HB6 HB46 HB4 HB3 HO6 HI6 HI4 HI3 HG6 HG46 HG4 HG3
    refine (drawReadNode_any w8 (HU.out.below HB8.out)).mono ?_
    rintro e w9 ⟨Y, rfl, hY, hB9⟩
    have HY : Hid (Y.size ≤ 2300) := hY
    have HB9 : Hid (Below W.heap.size W w9) := HB8.out.trans (hB9.mono HB8.out.size)
    clear hY hB9
    go_wp2_with fail
    refine (implRead Y m w9 (Nat.le_trans HY.out (by decide)) ((HB9.out.cell (cell_lt HM.out)).trans HM.out)).mono ?_
    rintro e wa ⟨p1, b1, a1, k1, rfl, hr1, ho1, hBa⟩
    have HR1 : Hid (Reads Y p1 b1) := hr1
    obtain ⟨u1, hu1⟩ : ∃ u1, u1 = nodeQ p1 (.slice a1 p1.ups.length k1) := ⟨_, rfl⟩
    rw [← hu1]
    obtain ⟨hi6, ho6, h16⟩ := nodeQ_ok p1 a1 k1 u1 hu1
    obtain ⟨wb, hwb⟩ : ∃ wb, wb = (wa.alloc (.cells nzQ 50)).setRow wa.heap.size u1 := ⟨_, rfl⟩
    obtain ⟨hgb, hbb⟩ := box_at hwb
    have HGb : Hid (wb.heap[wa.heap.size]? = some (.cells (nodeQ p1 (.slice a1 p1.ups.length k1)) 50 (0, 0))) := by show _ = _; rw [← hu1]; exact hgb
    have HOb : Hid (IsStrs wb a1 p1.ups.length k1 p1.S) := (pn_strs ho1).below hbb
    have HBb : Hid (Below W.heap.size W wb) := HB9.out.trans ((hBa.trans (hbb.mono hBa.size)).mono HB9.out.size)
    have HZa : Hid ((wa.alloc (.cells nzQ 50)).heap[wa.heap.size]? = some (.cells nzQ 50 (0, 0))) := heap_alloc_new wa _
    have HWb := (show Hid _ from hwb)
    clear hr1 ho1 hBa hu1 hwb hgb hbb
    go_wp2_with (refine wpList_store_row rfl 50 _ _ rfl wa.heap.size u1 rfl rfl 50 _ HZa.out hi6 ho6 h16 ?_; rw [← HWb.out])
    refine (specRead Y wb (Nat.le_trans HY.out (by decide))).mono ?_
    rintro e wc ⟨p2, b2, a2, k2, rfl, hr2, _, hBc⟩
    obtain ⟨_, hb2⟩ := HR1.out.unique hr2
    rw [hb2]
    obtain ⟨u2, hu2⟩ : ∃ u2, u2 = nodeQ p2 (.slice a2 p2.ups.length k2) := ⟨_, rfl⟩
    rw [← hu2]
    obtain ⟨ji6, jo6, j16⟩ := nodeQ_ok p2 a2 k2 u2 hu2
    obtain ⟨wd, hwd⟩ : ∃ wd, wd = (wc.alloc (.cells nzQ 50)).setRow wc.heap.size u2 := ⟨_, rfl⟩
    obtain ⟨_, hbd⟩ := box_at hwd
    have HBbd : Hid (Below wb.heap.size wb wd) := hBc.trans (hbd.mono hBc.size)
    have HBd : Hid (Below W.heap.size W wd) := HBb.out.trans (HBbd.out.mono HBb.out.size)
    have HGd : Hid (wd.heap[wa.heap.size]? = some (.cells (nodeQ p1 (.slice a1 p1.ups.length k1)) 50 (0, 0))) := (HBbd.out.block _ (lt_of_block HGb.out)).trans HGb.out
    have HOd : Hid (IsStrs wd a1 p1.ups.length k1 p1.S) := HOb.out.below HBbd.out
    have HZc : Hid ((wc.alloc (.cells nzQ 50)).heap[wc.heap.size]? = some (.cells nzQ 50 (0, 0))) := heap_alloc_new wc _
    have HWd := (show Hid _ from hwd)
    have hYY : (Y.toList == Y.toList) = true := by simp
    clear hr2 hBc hb2 hu2 hwd hbd HZa HWb hi6 ho6 h16
    cases b1 with
    | false =>
      go_wp2_with (refine wpList_store_row rfl 50 _ _ rfl wc.heap.size u2 rfl rfl 50 _ HZc.out ji6 jo6 j16 ?_; rw [← HWd.out])
      go_ret
      exact ⟨rfl, HBd.out⟩
    | true =>
      have H54 : Hid (Calls Tryz.prog 54 #[.agg #[.int .i64 p1.a, .int .i64 p1.s, .int .i64 p1.k, .string p1.key, .string p1.text, .slice a1 p1.ups.length k1]] wd fun e w' => e = .returned (.string Y) ∧ Below wd.heap.size wd w') := by
        obtain ⟨f1, f2, f3⟩ := reads_fine HR1.out
        have := implNodeText_any p1.a p1.s p1.k p1.key p1.text a1 p1.ups.length k1 p1.S wd HOd.out f3 f1 f2 (HP.out.below HBd.out).p
        rw [reads_text HR1.out] at this
        exact this
      obtain ⟨d0, d1, d2, d3, d4, d5⟩ := row_cells HGd.out
      go_wp2_with (refine wpList_store_row rfl 50 _ _ rfl wc.heap.size u2 rfl rfl 50 _ HZc.out ji6 jo6 j16 ?_; rw [← HWd.out])
      refine H54.out.mono ?_
      rintro e we ⟨rfl, hBe⟩
      have HBe : Hid (Below W.heap.size W we) := HBd.out.trans (hBe.mono HBd.out.size)
      clear hBe
      go_wp2
      go_ret
      exact ⟨rfl, HBe.out⟩
end Go.Proofs.YtlibipbpaigmdaaGreatDoor
