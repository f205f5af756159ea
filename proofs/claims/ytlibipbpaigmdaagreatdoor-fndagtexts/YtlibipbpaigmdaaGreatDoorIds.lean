/-
  The tests of a node's fields: signs, ids. The program's and the specification's answer the same plain tests. No condition but lengths.
-/
import Derived.Test.YtlibipbpaigmdaaGreatDoorStr
import Derived.Test.YtlibipbpaigmdaaGreatDoorShelfN
import Derived.Shelf.Strings.SlTrimAscii
namespace Go.Proofs.YtlibipbpaigmdaaGreatDoor
open Go.RowKit
set_option linter.unusedVariables false

def allB (p : Nat → Bool) (n : Nat) : Bool := (List.range n).all p
theorem allB_succ (p : Nat → Bool) (n : Nat) : allB p (n + 1) = (allB p n && p n) := by
  unfold allB
  rw [List.range_succ, List.all_append]
  simp
theorem allB_false {p : Nat → Bool} {n k : Nat} (hk : k < n) (h : p k = false) : allB p n = false := by
  have : ¬ (allB p n = true) := by
    unfold allB
    rw [List.all_eq_true]
    intro h'
    have := h' k (List.mem_range.2 hk)
    rw [h] at this
    cases this
  simpa using this

def signB (x : Int) : Bool := decide (32 ≤ x) && decide (x ≤ 126)
/-- at most 20 bytes 32 .. 126 -/
def plainB (s : ByteArray) : Bool := decide (s.size ≤ 20) && allB (fun i => signB (bt s i)) s.size
def hexB (x : Int) : Bool := (decide (48 ≤ x) && decide (x ≤ 57)) || (decide (97 ≤ x) && decide (x ≤ 102))
/-- 64 digits -/
def idB (s : ByteArray) : Bool := decide (s.size = 64) && allB (fun i => hexB (bt s i)) s.size
/-- at most 5 ids that rise -/
def idsB (S : Nat → ByteArray) (n : Nat) : Bool := decide (n ≤ 5) && riseB S n && allB (fun k => idB (S k)) n

set_option maxHeartbeats 400000 in
theorem plain_any (s : ByteArray) (hs : s.size ≤ 9223372036854775807) (w : World) :
    Calls Tryz.prog 164 #[.string s] w fun e w' => e = .returned (.bool (plainB s)) ∧ w' = w := by
  go_enter Tryz.func164, Tryz.ntmps164
  go_wp2
  go_loop [3] (fun i => ∃ k : Nat, k ≤ s.size ∧ i = .int .i64 k ∧ Hid (allB (fun i => signB (bt s i)) k = true)) (fun i => s.size - (intOf i).toNat)
  case atStart => exact ⟨0, Nat.zero_le _, rfl, rfl⟩
  case round =>
    obtain ⟨k, hk, rfl, HA⟩ := hrel
    by_cases hlt : k < s.size
    · have hltI : (k : Int) < (s.size : Int) := by omega
      have hb := bt_in hlt
      have hr := bt_range hlt
      have HS : Hid (∀ b, signB (bt s k) = b → (b = true → allB (fun i => signB (bt s i)) (k + 1) = true) ∧ (b = false → plainB s = false)) := by
        intro b hb
        refine ⟨fun h => ?_, fun h => ?_⟩
        · rw [allB_succ, HA.out, hb, h]; rfl
        · unfold plainB
          rw [allB_false hlt (hb.trans h), Bool.and_false]
      generalize bt s k = x at hb hr HS
      by_cases h1 : x < 32
      · have hf : Hid (plainB s = false) := (HS.out false (by unfold signB; simp; omega)).2 rfl
        go_wp2
        go_ret
        exact ⟨ret_bool hf.out.symm, rfl⟩
      · by_cases h2 : (126 : Int) < x
        · have h1' : decide (x < 32) = false := by simpa using h1
          have hf : Hid (plainB s = false) := (HS.out false (by unfold signB; simp; omega)).2 rfl
          go_wp2
          go_ret
          exact ⟨ret_bool hf.out.symm, rfl⟩
        · have h1' : decide (x < 32) = false := by simpa using h1
          have h2' : decide ((126 : Int) < x) = false := by simpa using h2
          have hf : Hid (allB (fun i => signB (bt s i)) (k + 1) = true) := (HS.out true (by unfold signB; simp; omega)).1 rfl
          go_wp2
          go_round
          case rel => exact ⟨k + 1, by omega, by go_num, hf⟩
          case measure => simp [intOf]; omega
    · have hke : k = s.size := by omega
      subst hke
      have hf : Hid (plainB s = decide ((s.size : Int) ≤ 20)) := by
        show _ = _
        unfold plainB
        rw [HA.out, Bool.and_true]
        exact decide_eq_decide.2 (by omega)
      go_wp2
      go_ret
      exact ⟨ret_bool hf.out.symm, rfl⟩
set_option maxHeartbeats 400000 in
theorem signs_any (s : ByteArray) (hs : s.size ≤ 9223372036854775807) (w : World) :
    Calls Tryz.prog 128 #[.string s] w fun e w' => e = .returned (.bool (plainB s)) ∧ w' = w := by
  by_cases h20 : (20 : Int) < (s.size : Int)
  · have hf : Hid (plainB s = false) := by
      show _ = _
      unfold plainB
      rw [show decide (s.size ≤ 20) = false by simp; omega, Bool.false_and]
    go_enter Tryz.func128, Tryz.ntmps128
    go_wp2
    go_ret
    exact ⟨ret_bool hf.out.symm, rfl⟩
  have HD : Hid (decide (s.size ≤ 20) = true) := by show _ = _; simp; omega
  go_enter Tryz.func128, Tryz.ntmps128
  go_wp2
  go_loop [9] (fun i => ∃ k : Nat, k ≤ s.size ∧ i = .int .i64 k ∧ Hid (allB (fun i => signB (bt s i)) k = true)) (fun i => s.size - (intOf i).toNat)
  case atStart => exact ⟨0, Nat.zero_le _, rfl, rfl⟩
  case round =>
    obtain ⟨k, hk, rfl, HA⟩ := hrel
    by_cases hlt : k < s.size
    · have hltI : (k : Int) < (s.size : Int) := by omega
      have hb := bt_in hlt
      have hr := bt_range hlt
      have HS : Hid (∀ b, signB (bt s k) = b → (b = true → allB (fun i => signB (bt s i)) (k + 1) = true) ∧ (b = false → plainB s = false)) := by
        intro b hb
        refine ⟨fun h => ?_, fun h => ?_⟩
        · rw [allB_succ, HA.out, hb, h]; rfl
        · unfold plainB
          rw [allB_false hlt (hb.trans h), Bool.and_false]
      generalize bt s k = x at hb hr HS
      by_cases h1 : x < 32
      · have hf : Hid (plainB s = false) := (HS.out false (by unfold signB; simp; omega)).2 rfl
        go_wp2
        go_ret
        exact ⟨ret_bool hf.out.symm, rfl⟩
      · by_cases h2 : (126 : Int) < x
        · have h1' : decide (x < 32) = false := by simpa using h1
          have hf : Hid (plainB s = false) := (HS.out false (by unfold signB; simp; omega)).2 rfl
          go_wp2
          go_ret
          exact ⟨ret_bool hf.out.symm, rfl⟩
        · have h1' : decide (x < 32) = false := by simpa using h1
          have h2' : decide ((126 : Int) < x) = false := by simpa using h2
          have hf : Hid (allB (fun i => signB (bt s i)) (k + 1) = true) := (HS.out true (by unfold signB; simp; omega)).1 rfl
          go_wp2
          go_round
          case rel => exact ⟨k + 1, by omega, by go_num, hf⟩
          case measure => simp [intOf]; omega
    · have hke : k = s.size := by omega
      subst hke
      have hf : Hid (plainB s = true) := by
        show _ = _
        unfold plainB
        rw [HA.out, HD.out]
        rfl
      go_wp2
      go_ret
      exact ⟨ret_bool hf.out.symm, rfl⟩

set_option maxHeartbeats 400000 in
theorem specId_any (s : ByteArray) (hs : s.size ≤ 9223372036854775807) (w : World) :
    Calls Tryz.prog 196 #[.string s] w fun e w' => e = .returned (.bool (idB s)) ∧ w' = w := by
  go_enter Tryz.func196, Tryz.ntmps196
  go_wp2
  go_loop [3] (fun i => ∃ k : Nat, k ≤ s.size ∧ i = .int .i64 k ∧ Hid (allB (fun i => hexB (bt s i)) k = true)) (fun i => s.size - (intOf i).toNat)
  case atStart => exact ⟨0, Nat.zero_le _, rfl, rfl⟩
  case round =>
    obtain ⟨k, hk, rfl, HA⟩ := hrel
    by_cases hlt : k < s.size
    · have hltI : (k : Int) < (s.size : Int) := by omega
      have hb := bt_in hlt
      have hr := bt_range hlt
      have HS : Hid (∀ b, hexB (bt s k) = b → (b = true → allB (fun i => hexB (bt s i)) (k + 1) = true) ∧ (b = false → idB s = false)) := by
        intro b hb
        refine ⟨fun h => ?_, fun h => ?_⟩
        · rw [allB_succ, HA.out, hb, h]; rfl
        · unfold idB
          rw [allB_false hlt (hb.trans h), Bool.and_false]
      generalize bt s k = x at hb hr HS
      by_cases hA : 48 ≤ x ∧ x ≤ 57
      · obtain ⟨a1, a2⟩ := hA
        have h1' : decide (x < 48) = false := by simpa using a1
        have h2' : decide ((57 : Int) < x) = false := by simpa using a2
        have hf : Hid (allB (fun i => hexB (bt s i)) (k + 1) = true) := (HS.out true (by unfold hexB; simp; omega)).1 rfl
        go_wp2
        go_round
        case rel => exact ⟨k + 1, by omega, by go_num, hf⟩
        case measure => simp [intOf]; omega
      by_cases hB : 97 ≤ x ∧ x ≤ 102
      · obtain ⟨a1, a2⟩ := hB
        have h1' : decide (x < 48) = false := by simp; omega
        have h2' : (57 : Int) < x := by omega
        have h3' : decide (x < 97) = false := by simpa using a1
        have h4' : decide ((102 : Int) < x) = false := by simpa using a2
        have hf : Hid (allB (fun i => hexB (bt s i)) (k + 1) = true) := (HS.out true (by unfold hexB; simp; omega)).1 rfl
        clear hA
        go_wp2
        go_round
        case rel => exact ⟨k + 1, by omega, by go_num, hf⟩
        case measure => simp [intOf]; omega
      have hf : Hid (idB s = false) := (HS.out false (by unfold hexB; simp; omega)).2 rfl
      by_cases h1 : x < 48
      · have h3 : x < 97 := by omega
        clear hA hB
        go_wp2
        go_ret
        exact ⟨ret_bool hf.out.symm, rfl⟩
      have h1' : decide (x < 48) = false := by simpa using h1
      have h2 : (57 : Int) < x := by omega
      by_cases h3 : x < 97
      · clear hA hB
        go_wp2
        go_ret
        exact ⟨ret_bool hf.out.symm, rfl⟩
      have h3' : decide (x < 97) = false := by simpa using h3
      have h4 : (102 : Int) < x := by omega
      clear hA hB
      go_wp2
      go_ret
      exact ⟨ret_bool hf.out.symm, rfl⟩
    · have hke : k = s.size := by omega
      subst hke
      have hf : Hid (idB s = ((s.size : Int) == 64)) := by
        show _ = _
        unfold idB
        rw [HA.out, Bool.and_true]
        by_cases h : s.size = 64
        · rw [h]; rfl
        · have h2 : ((s.size : Int) == 64) = false := by simp; omega
          rw [h2]; simp [h]
      go_wp2
      go_ret
      exact ⟨ret_bool hf.out.symm, rfl⟩

theorem dropWhile_nil {p : UInt8 → Bool} : ∀ (l : List UInt8), l.dropWhile p = [] ↔ ∀ b ∈ l, p b = true
  | [] => by simp
  | a :: l => by
    rw [List.dropWhile_cons]
    by_cases h : p a = true
    · rw [if_pos h, dropWhile_nil l]
      simp [h]
    · rw [if_neg h]
      simp [h]

def hexC : ByteArray := ⟨#[48, 49, 50, 51, 52, 53, 54, 55, 56, 57, 97, 98, 99, 100, 101, 102]⟩

theorem hexC_in : ∀ n : Fin 256, hexC.data.toList.contains (UInt8.ofNat n.val) = hexB (n.val : Int) := by decide +kernel

theorem trim_nil (s : ByteArray) : Lib.trimS s.data.toList hexC.data.toList = [] ↔ allB (fun i => hexB (bt s i)) s.size = true := by
  have e1 : Lib.trimS s.data.toList hexC.data.toList = [] ↔ ∀ b ∈ s.data.toList, hexC.data.toList.contains b = true := by
    unfold Lib.trimS Lib.trimLeftS Lib.trimRightS
    rw [dropWhile_nil]
    refine ⟨fun h => ?_, fun h b hb => ?_⟩
    · have hall : ∀ b ∈ s.data.toList.reverse.dropWhile (hexC.data.toList.contains ·), hexC.data.toList.contains b = true := fun b hb => h b (by simpa using hb)
      have hnil : s.data.toList.reverse.dropWhile (hexC.data.toList.contains ·) = [] := by
        cases hd : s.data.toList.reverse.dropWhile (hexC.data.toList.contains ·) with
        | nil => rfl
        | cons a t =>
          have h1 := List.head_dropWhile_not (hexC.data.toList.contains ·) (l := s.data.toList.reverse) (by rw [hd]; simp)
          have h2 := hall ((s.data.toList.reverse.dropWhile (hexC.data.toList.contains ·)).head (by rw [hd]; simp)) (List.head_mem _)
          rw [h2] at h1
          cases h1
      intro b hb
      exact (dropWhile_nil _).1 hnil b (by simpa using hb)
    · exact h b (by
        have := List.mem_reverse.1 hb
        exact List.mem_reverse.1 ((List.dropWhile_sublist _).mem this))
  rw [e1]
  unfold allB
  rw [List.all_eq_true]
  refine ⟨fun h i hi => ?_, fun h b hb => ?_⟩
  · have hi' := List.mem_range.1 hi
    have h1 := h s[i] (List.mem_of_getElem? (get_list hi'))
    have h2 := hexC_in ⟨s[i].toNat, s[i].toNat_lt⟩
    rw [show UInt8.ofNat (s[i].toNat) = s[i] by simp, h1] at h2
    rw [← bt_in hi']
    exact h2.symm
  · obtain ⟨i, hi⟩ := List.getElem?_of_mem hb
    obtain ⟨h1, h2⟩ := bt_of_byte hi
    have h3 := h i (List.mem_range.2 h1)
    rw [h2] at h3
    have h4 := hexC_in ⟨b.toNat, b.toNat_lt⟩
    rw [show UInt8.ofNat b.toNat = b by simp] at h4
    rw [h4]
    exact h3
end Go.Proofs.YtlibipbpaigmdaaGreatDoor
