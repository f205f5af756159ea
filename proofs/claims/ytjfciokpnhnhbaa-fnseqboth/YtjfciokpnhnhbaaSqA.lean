/-
  Small functions over ops of a sequence: sizes, where an Id stands, whether a sign is one. No condition but that the slices read.
-/
import Derived.Test.YtjfciokpnhnhbaaEL
import Derived.Test.YtjfciokpnhnhbaaEvOpen
import Derived.Lib.Small
namespace Go.Proofs.Ytjfciokpnhnhbaa
open Go.RowKit
set_option linter.unusedVariables false

def inB (lo hi x : Int) : Bool := decide (lo ≤ x) && decide (x ≤ hi)
def allB (p : Nat → Bool) (n : Nat) : Bool := (List.range n).all p
theorem allB_succ (p : Nat → Bool) (n : Nat) : allB p (n + 1) = (allB p n && p n) := by
  unfold allB
  rw [List.range_succ, List.all_append]
  simp
theorem allB_at {p : Nat → Bool} {n k : Nat} (h : allB p n = true) (hk : k < n) : p k = true := by
  unfold allB at h
  rw [List.all_eq_true] at h
  exact h k (List.mem_range.2 hk)
theorem allB_false {p : Nat → Bool} {n k : Nat} (hk : k < n) (h : p k = false) : allB p n = false := by
  have : ¬ (allB p n = true) := fun h' => by rw [allB_at h' hk] at h; cases h
  simpa using this

theorem in_any (n lo hi : Int) (b : Bool) (hb : inB lo hi n = b) (w : World) : Calls Try.prog 31 #[.int .i64 n, .int .i64 lo, .int .i64 hi] w fun e w' => e = .returned (.bool b) ∧ w' = w := by
  subst hb
  by_cases h1 : lo ≤ n
  · have hr : Hid (inB lo hi n = decide (n ≤ hi)) := by show _ = _; unfold inB; simp [h1]
    go_enter Try.func31, Try.ntmps31
    go_wp2
    go_ret
    exact ⟨ret_bool hr.out.symm, rfl⟩
  · have hr : Hid (inB lo hi n = false) := by show _ = _; unfold inB; simp [h1]
    have h1' : decide (lo ≤ n) = false := by simpa using h1
    go_enter Try.func31, Try.ntmps31
    go_wp2
    go_ret
    exact ⟨ret_bool hr.out.symm, rfl⟩

/-- the first place of an Id among the first n ops -/
def firstA (D : Nat → Ev) (z : Int) : Nat → Option Nat
  | 0 => none
  | n + 1 => match firstA D z n with
    | some j => some j
    | none => if (D n).a = z then some n else none
theorem firstA_none {D : Nat → Ev} {z : Int} : ∀ {n : Nat}, firstA D z n = none → ∀ j, j < n → (D j).a ≠ z
  | 0, _, j, hj => absurd hj (Nat.not_lt_zero _)
  | n + 1, h, j, hj => by
    unfold firstA at h
    split at h
    · cases h
    · rename_i h0
      split at h
      · cases h
      · rename_i h1
        rcases Nat.lt_succ_iff_lt_or_eq.1 hj with h2 | rfl
        · exact firstA_none h0 j h2
        · exact h1
theorem firstA_some {D : Nat → Ev} {z : Int} : ∀ {n j : Nat}, firstA D z n = some j → j < n ∧ (D j).a = z
  | 0, j, h => by cases h
  | n + 1, j, h => by
    unfold firstA at h
    split at h
    · rename_i h0
      cases h
      have := firstA_some h0
      exact ⟨by omega, this.2⟩
    · split at h
      · rename_i h1
        cases h
        exact ⟨Nat.lt_succ_self _, h1⟩
      · cases h
theorem firstA_at {D : Nat → Ev} {z : Int} {k : Nat} (hn : ∀ j, j < k → (D j).a ≠ z) (hk : (D k).a = z) : ∀ n, k < n → firstA D z n = some k
  | 0, h => absurd h (Nat.not_lt_zero _)
  | n + 1, h => by
    unfold firstA
    rcases Nat.lt_succ_iff_lt_or_eq.1 h with h1 | rfl
    · rw [firstA_at hn hk n h1]
    · have : firstA D z k = none := by
        cases he : firstA D z k with
        | none => rfl
        | some j => have := firstA_some he; exact absurd this.2 (hn j this.1)
      rw [this, if_pos hk]
theorem firstA_no {D : Nat → Ev} {z : Int} {n : Nat} (hn : ∀ j, j < n → (D j).a ≠ z) : firstA D z n = none := by
  cases he : firstA D z n with
  | none => rfl
  | some j => have := firstA_some he; exact absurd this.2 (hn j this.1)
def atZ : Option Nat → Int
  | none => -1
  | some j => (j : Int)

set_option maxHeartbeats 1000000 in
theorem at_any (a : Option Addr) (len cap : Nat) (D : Nat → Ev) (z : Int) (w : World) (h : IsEvs w a len cap D) :
    Calls Try.prog 45 #[.slice a len cap, .int .i64 z] w fun e w' => e = .returned (.int .i64 (atZ (firstA D z len))) ∧ w' = w := by
  obtain ⟨hlc, hcm, hc⟩ := h
  go_enter Try.func45, Try.ntmps45
  go_wp2
  go_loop [5] (fun i => ∃ (k : Nat), k ≤ len ∧ i = .int .i64 k ∧ Hid (∀ j, j < k → (D j).a ≠ z)) (fun i => len - (intOf i).toNat)
  case atStart => exact ⟨0, Nat.zero_le _, rfl, fun j hj => absurd hj (Nat.not_lt_zero _)⟩
  case round =>
    obtain ⟨k, hk, rfl, HA⟩ := hrel
    by_cases hlt : k < len
    · obtain ⟨b, off, rfl, hbs, hcell⟩ := hc (by omega)
      obtain ⟨c0, c1, c2, c3⟩ := hcell k hlt
      have hltI : (k : Int) < (len : Int) := by omega
      clear hcell hc c1 c2 c3
      by_cases he : (D k).a = z
      · have hb : ((D k).a == z) = true := by simp [he]
        have hr : Hid (atZ (firstA D z len) = (k : Int)) := by show _ = _; rw [firstA_at HA.out he len hlt]; rfl
        clear he
        go_wp2
        go_ret
        exact ⟨ret_int hr.out.symm, rfl⟩
      · have hb : ((D k).a == z) = false := by simp [he]
        have HA' : Hid (∀ j, j < k + 1 → (D j).a ≠ z) := by
          intro j hj
          rcases Nat.lt_succ_iff_lt_or_eq.1 hj with h1 | rfl
          · exact HA.out j h1
          · exact he
        clear he
        go_wp2
        go_round
        case rel => exact ⟨k + 1, by omega, by go_num, HA'⟩
        case measure => simp [intOf]; omega
    · have hke : k = len := by omega
      subst hke
      have hr : Hid (atZ (firstA D z k) = -1) := by show _ = _; rw [firstA_no HA.out]; rfl
      clear hc
      go_wp2
      go_ret
      exact ⟨ret_int hr.out.symm, rfl⟩

def bt (s : ByteArray) (i : Nat) : Int := if h : i < s.size then (s[i].toNat : Int) else -1
theorem bt_in {s : ByteArray} {i : Nat} (h : i < s.size) : (s[i].toNat : Int) = bt s i := by unfold bt; rw [dif_pos h]
theorem bt_range {s : ByteArray} {i : Nat} (h : i < s.size) : 0 ≤ bt s i ∧ bt s i ≤ 255 := by
  rw [← bt_in h]
  have := s[i].toNat_lt
  omega
/-- one byte that can be seen -/
def sgB (s : ByteArray) : Bool := decide (s.size = 1) && (decide (32 ≤ bt s 0) && decide (bt s 0 ≤ 126))

set_option maxHeartbeats 1000000 in
theorem specSign_any (s : ByteArray) (hs : s.size ≤ 9223372036854775807) (b : Bool) (hb : sgB s = b) (w : World) : Calls Try.prog 49 #[.string s] w fun e w' => e = .returned (.bool b) ∧ w' = w := by
  subst hb
  by_cases h1 : s.size = 1
  · have e1 : ((s.size : Int) == 1) = true := by simp [h1]
    have hlt : 0 < s.size := by omega
    have hbt := bt_in hlt
    have hr := bt_range hlt
    have HS : Hid (sgB s = (decide (32 ≤ bt s 0) && decide (bt s 0 ≤ 126))) := by show _ = _; unfold sgB; simp [h1]
    generalize bt s 0 = x at hbt hr HS
    have hszI : (s.size : Int) = 1 := by omega
    by_cases h2 : 32 ≤ x
    · have hr2 : Hid (sgB s = decide (x ≤ 126)) := by show _ = _; rw [HS.out]; simp [h2]
      go_enter Try.func49, Try.ntmps49
      go_wp2
      go_ret
      exact ⟨ret_bool hr2.out.symm, rfl⟩
    · have hr2 : Hid (sgB s = false) := by show _ = _; rw [HS.out]; simp [h2]
      have h2' : decide (32 ≤ x) = false := by simpa using h2
      clear h2
      go_enter Try.func49, Try.ntmps49
      go_wp2
      go_ret
      exact ⟨ret_bool hr2.out.symm, rfl⟩
  · have e1 : ((s.size : Int) == 1) = false := by simp; omega
    have hr2 : Hid (sgB s = false) := by show _ = _; unfold sgB; simp [h1]
    clear h1
    go_enter Try.func49, Try.ntmps49
    go_wp2
    go_ret
    exact ⟨ret_bool hr2.out.symm, rfl⟩

set_option maxHeartbeats 1000000 in
theorem signs_any (s : ByteArray) (h1 : s.size = 1) (b : Bool) (hb : sgB s = b) (w : World) : Calls Try.prog 77 #[.string s] w fun e w' => e = .returned (.bool b) ∧ w' = w := by
  subst hb
  have hlt : 0 < s.size := by omega
  have hbt := bt_in hlt
  have hr := bt_range hlt
  have HS : Hid (sgB s = (decide (32 ≤ bt s 0) && decide (bt s 0 ≤ 126))) := by show _ = _; unfold sgB; simp [h1]
  generalize bt s 0 = x at hbt hr HS
  have hszI : (s.size : Int) = 1 := by omega
  by_cases h2 : x < 32
  · have hr2 : Hid (sgB s = false) := by show _ = _; rw [HS.out, decide_eq_false (by omega)]; rfl
    go_enter Try.func77, Try.ntmps77
    go_wp2
    refine wp_loop_rounds 2 ?_
    rw [rounds_succ]; go_wp2
    go_ret
    exact ⟨ret_bool hr2.out.symm, rfl⟩
  · have h2' : decide (x < 32) = false := by simpa using h2
    by_cases h3 : 126 < x
    · have hr2 : Hid (sgB s = false) := by show _ = _; rw [HS.out, decide_eq_false (show ¬ x ≤ 126 by omega), Bool.and_false]
      clear h2
      go_enter Try.func77, Try.ntmps77
      go_wp2
      refine wp_loop_rounds 2 ?_
      rw [rounds_succ]; go_wp2
      go_ret
      exact ⟨ret_bool hr2.out.symm, rfl⟩
    · have hr2 : Hid (sgB s = true) := by show _ = _; rw [HS.out, decide_eq_true (by omega), decide_eq_true (show x ≤ 126 by omega)]; rfl
      have h3' : decide (126 < x) = false := by simpa using h3
      clear h2 h3
      go_enter Try.func77, Try.ntmps77
      go_wp2
      refine wp_loop_rounds 2 ?_
      rw [rounds_succ]; go_wp2
      rw [rounds_succ]; go_wp2
      go_ret
      exact ⟨ret_bool hr2.out.symm, rfl⟩

set_option maxHeartbeats 1000000 in
theorem sign_any (s : ByteArray) (hs : s.size ≤ 9223372036854775807) (b : Bool) (hb : sgB s = b) (w : World) : Calls Try.prog 63 #[.string s] w fun e w' => e = .returned (.bool b) ∧ w' = w := by
  by_cases h1 : s.size = 1
  · have e1 : ((s.size : Int) == 1) = true := by simp [h1]
    have H1 : Hid (s.size = 1) := h1
    clear h1
    go_enter Try.func63, Try.ntmps63
    go_wp2_with (go_at_call 77; refine (signs_any s H1.out b hb _).mono ?_; rintro e w1 ⟨rfl, rfl⟩)
    go_ret
    exact ⟨rfl, rfl⟩
  · have e1 : ((s.size : Int) == 1) = false := by simp; omega
    have hr2 : Hid (b = false) := by show _ = _; rw [← hb]; unfold sgB; simp [h1]
    clear h1 hb
    go_enter Try.func63, Try.ntmps63
    go_wp2
    go_ret
    exact ⟨ret_bool hr2.out.symm, rfl⟩
end Go.Proofs.Ytjfciokpnhnhbaa
