/-
  The program's isDigit and readDecimal answer plain tests of bytes. No condition.
-/
import Derived.Test.YtcolcnkjcagbaaaDoorBase
namespace Go.Proofs.YtcolcnkjcagbaaaDoor
open Go.RowKit
set_option linter.unusedVariables false

/-- the byte of s at place i; -1 where there is none -/
def bt (s : ByteArray) (i : Nat) : Int := if h : i < s.size then (s[i].toNat : Int) else -1
theorem bt_in {s : ByteArray} {i : Nat} (h : i < s.size) : (s[i].toNat : Int) = bt s i := by unfold bt; rw [dif_pos h]
theorem bt_range {s : ByteArray} {i : Nat} (h : i < s.size) : 0 ≤ bt s i ∧ bt s i ≤ 255 := by
  rw [← bt_in h]
  have := s[i].toNat_lt
  omega

def digB (b : Int) : Bool := decide (48 ≤ b) && decide (b ≤ 57)
theorem digB_true {b : Int} (h : 48 ≤ b ∧ b ≤ 57) : digB b = true := by simp [digB, h.1, h.2]
theorem digB_false {b : Int} (h : ¬ (48 ≤ b ∧ b ≤ 57)) : digB b = false := by
  have : ¬ (digB b = true) := by simp [digB]; omega
  simpa using this
theorem digB_iff {b : Int} : digB b = true ↔ 48 ≤ b ∧ b ≤ 57 := by simp [digB]

theorem isDigit_any (b : Int) (w : World) : Calls Tryd.prog 61 #[.int .u8 b] w fun e w' => e = .returned (.bool (digB b)) ∧ w' = w := by
  by_cases h1 : 48 ≤ b
  · by_cases h2 : b ≤ 57
    · have hr : Hid (digB b = true) := digB_true ⟨h1, h2⟩
      go_enter Tryd.func61, Tryd.ntmps61
      go_wp2
      go_ret
      exact ⟨ret_bool hr.out.symm, rfl⟩
    · have hr : Hid (digB b = false) := digB_false (by omega)
      go_enter Tryd.func61, Tryd.ntmps61
      go_wp2
      go_ret
      exact ⟨ret_bool hr.out.symm, rfl⟩
  · have hr : Hid (digB b = false) := digB_false (by omega)
    go_enter Tryd.func61, Tryd.ntmps61
    go_wp2
    go_ret
    exact ⟨ret_bool hr.out.symm, rfl⟩

/-- the number of the first k bytes from place i on, all digits -/
def numOf (s : ByteArray) (i : Nat) : Nat → Int
  | 0 => 0
  | k + 1 => 10 * numOf s i k + (bt s (i + k) - 48)
def digsB (s : ByteArray) (i k : Nat) : Bool := (List.range k).all fun j => digB (bt s (i + j))

theorem digsB_succ (s : ByteArray) (i k : Nat) : digsB s i (k + 1) = (digsB s i k && digB (bt s (i + k))) := by
  unfold digsB
  rw [List.range_succ, List.all_append]
  simp
theorem digsB_false {s : ByteArray} {i k j : Nat} (hj : j < k) (h : digB (bt s (i + j)) = false) : digsB s i k = false := by
  have : ¬ (digsB s i k = true) := by
    unfold digsB
    rw [List.all_eq_true]
    intro h'
    have := h' j (List.mem_range.2 hj)
    rw [h] at this
    cases this
  simpa using this
theorem numOf_bound {s : ByteArray} {i : Nat} : ∀ k, digsB s i k = true → 0 ≤ numOf s i k ∧ numOf s i k < 10 ^ k
  | 0, _ => by simp [numOf]
  | k + 1, h => by
    rw [digsB_succ, Bool.and_eq_true] at h
    have ih := numOf_bound k h.1
    have hd := digB_iff.1 h.2
    have e : (10 : Int) ^ (k + 1) = 10 * 10 ^ k := by rw [Int.pow_succ]; omega
    unfold numOf
    rw [e]
    omega
theorem numOf_ten {s : ByteArray} {i k : Nat} (hk : k ≤ 10) (h : digsB s i k = true) : 0 ≤ numOf s i k ∧ numOf s i k ≤ 9999999999 := by
  have hb := numOf_bound k h
  have hall : ∀ k, k ≤ 10 → (10 : Int) ^ k ≤ 10 ^ 10 := by decide
  have := hall k hk
  have e10 : (10 : Int) ^ 10 = 10000000000 := by decide
  omega

/-- what readDecimal answers -/
def rdec (t : ByteArray) : Int × Bool :=
  if t.size < 1 ∨ 10 < t.size ∨ (1 < t.size ∧ bt t 0 = 48) then (0, false)
  else if digsB t 0 t.size = true then (numOf t 0 t.size, true) else (0, false)

theorem rdec_no {t : ByteArray} (h : t.size < 1 ∨ 10 < t.size ∨ (1 < t.size ∧ bt t 0 = 48)) : rdec t = (0, false) := by unfold rdec; rw [if_pos h]
theorem rdec_bad {t : ByteArray} (h : digsB t 0 t.size = false) : rdec t = (0, false) := by
  unfold rdec; rw [h]; split <;> rfl
theorem rdec_yes {t : ByteArray} (h : ¬ (t.size < 1 ∨ 10 < t.size ∨ (1 < t.size ∧ bt t 0 = 48))) (h2 : digsB t 0 t.size = true) : rdec t = (numOf t 0 t.size, true) := by
  unfold rdec; rw [if_neg h, if_pos h2]

theorem retv {a b : Value} (h : a = b) : Ending.returned a = .returned b := by rw [h]

set_option maxHeartbeats 1000000 in
theorem readDecimal_any (t : ByteArray) (w : World) (ht : t.size ≤ 1048576) :
    Calls Tryd.prog 62 #[.string t] w fun e w' => e = .returned (.tuple #[.int .i64 (rdec t).1, .bool (rdec t).2]) ∧ w' = w := by
  by_cases h1 : (t.size : Int) < 1
  · have hr : Hid (rdec t = (0, false)) := rdec_no (by omega)
    go_enter Tryd.func62, Tryd.ntmps62
    go_wp2
    go_ret2
    exact ⟨retv (by rw [hr.out]; rfl), rfl⟩
  by_cases h2 : (10 : Int) < (t.size : Int)
  · have hr : Hid (rdec t = (0, false)) := rdec_no (by omega)
    go_enter Tryd.func62, Tryd.ntmps62
    go_wp2
    go_ret2
    exact ⟨retv (by rw [hr.out]; rfl), rfl⟩
  have hp : 0 < t.size := by omega
  have hb0 := bt_in hp
  have h1' : (1 : Int) ≤ (t.size : Int) := by omega
  have h2' : (t.size : Int) ≤ 10 := by omega
  by_cases h3 : (1 : Int) < (t.size : Int) ∧ bt t 0 = 48
  · have hr : Hid (rdec t = (0, false)) := rdec_no (by omega)
    have h3a := h3.1
    have h3b : (bt t 0 == 48) = true := by simpa using h3.2
    clear h3 h1 h2
    go_enter Tryd.func62, Tryd.ntmps62
    go_wp2
    go_ret2
    exact ⟨retv (by rw [hr.out]; rfl), rfl⟩
  have hno : Hid (¬ (t.size < 1 ∨ 10 < t.size ∨ (1 < t.size ∧ bt t 0 = 48))) := by
    show ¬ _
    intro h
    omega
  clear h1 h2
  by_cases h4 : (1 : Int) < (t.size : Int)
  · have h5 : (bt t 0 == 48) = false := by
      have : ¬ bt t 0 = 48 := fun h => h3 ⟨h4, h⟩
      simpa using this
    clear h3
    go_enter Tryd.func62, Tryd.ntmps62
    go_wp2
    go_loop [4, 5, 26] (fun n _ c => ∃ j : Nat, j ≤ t.size ∧ c = .int .i64 j ∧ n = .int .i64 (numOf t 0 j) ∧ Hid (digsB t 0 j = true)) (fun _ _ c => t.size - (intOf c).toNat)
    case atStart => exact ⟨0, Nat.zero_le _, rfl, rfl, rfl⟩
    case round =>
      obtain ⟨j, hj, rfl, rfl, hds⟩ := hrel
      have hnb := numOf_ten (by omega) hds.out
      by_cases hlt : j < t.size
      · have hbj := bt_in hlt
        have hrg := bt_range hlt
        by_cases hdg : digB (bt t j) = true
        · have hd2 := digB_iff.1 hdg
          have hds' : Hid (digsB t 0 (j + 1) = true) := by
            show _ = _
            rw [digsB_succ, hds.out, Nat.zero_add, hdg]; rfl
          have hnum : Hid (numOf t 0 (j + 1) = 10 * numOf t 0 j + (bt t j - 48)) := by
            show _ = _
            rw [show numOf t 0 (j + 1) = 10 * numOf t 0 j + (bt t (0 + j) - 48) from rfl, Nat.zero_add]
          go_wp2_with (go_at_call 61; refine (isDigit_any _ _).mono ?_; rintro e w' ⟨rfl, rfl⟩; rw [hdg])
          go_round
          case rel => exact ⟨j + 1, by omega, by go_num, by rw [hnum.out], hds'⟩
          case measure => simp [intOf]; omega
        · have hdg : digB (bt t j) = false := by simpa using hdg
          have hr : Hid (rdec t = (0, false)) := rdec_bad (digsB_false hlt (by rw [Nat.zero_add]; exact hdg))
          go_wp2_with (go_at_call 61; refine (isDigit_any _ _).mono ?_; rintro e w' ⟨rfl, rfl⟩; rw [hdg])
          go_ret2
          exact ⟨retv (by rw [hr.out]; rfl), rfl⟩
      · have hje : j = t.size := by omega
        subst hje
        have hr : Hid (rdec t = (numOf t 0 t.size, true)) := rdec_yes hno.out hds.out
        go_wp2
        go_ret2
        exact ⟨retv (by rw [hr.out]; rfl), rfl⟩
  · clear h3
    go_enter Tryd.func62, Tryd.ntmps62
    go_wp2
    go_loop [4, 5, 26] (fun n _ c => ∃ j : Nat, j ≤ t.size ∧ c = .int .i64 j ∧ n = .int .i64 (numOf t 0 j) ∧ Hid (digsB t 0 j = true)) (fun _ _ c => t.size - (intOf c).toNat)
    case atStart => exact ⟨0, Nat.zero_le _, rfl, rfl, rfl⟩
    case round =>
      obtain ⟨j, hj, rfl, rfl, hds⟩ := hrel
      have hnb := numOf_ten (by omega) hds.out
      by_cases hlt : j < t.size
      · have hbj := bt_in hlt
        have hrg := bt_range hlt
        by_cases hdg : digB (bt t j) = true
        · have hd2 := digB_iff.1 hdg
          have hds' : Hid (digsB t 0 (j + 1) = true) := by
            show _ = _
            rw [digsB_succ, hds.out, Nat.zero_add, hdg]; rfl
          have hnum : Hid (numOf t 0 (j + 1) = 10 * numOf t 0 j + (bt t j - 48)) := by
            show _ = _
            rw [show numOf t 0 (j + 1) = 10 * numOf t 0 j + (bt t (0 + j) - 48) from rfl, Nat.zero_add]
          go_wp2_with (go_at_call 61; refine (isDigit_any _ _).mono ?_; rintro e w' ⟨rfl, rfl⟩; rw [hdg])
          go_round
          case rel => exact ⟨j + 1, by omega, by go_num, by rw [hnum.out], hds'⟩
          case measure => simp [intOf]; omega
        · have hdg : digB (bt t j) = false := by simpa using hdg
          have hr : Hid (rdec t = (0, false)) := rdec_bad (digsB_false hlt (by rw [Nat.zero_add]; exact hdg))
          go_wp2_with (go_at_call 61; refine (isDigit_any _ _).mono ?_; rintro e w' ⟨rfl, rfl⟩; rw [hdg])
          go_ret2
          exact ⟨retv (by rw [hr.out]; rfl), rfl⟩
      · have hje : j = t.size := by omega
        subst hje
        have hr : Hid (rdec t = (numOf t 0 t.size, true)) := rdec_yes hno.out hds.out
        go_wp2
        go_ret2
        exact ⟨retv (by rw [hr.out]; rfl), rfl⟩

end Go.Proofs.YtcolcnkjcagbaaaDoor
