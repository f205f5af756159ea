/-
  The specification's looking up of ids. No condition but that the slices read.
-/
import Derived.Test.YtlibipbpaigmdaaGreatDoorDag2
import Derived.Test.YtlibipbpaigmdaaGreatDoorId
namespace Go.Proofs.YtlibipbpaigmdaaGreatDoor
open Go.RowKit
set_option linter.unusedVariables false

/-- id is none of the first n of I -/
def outB (I : Nat → ByteArray) (n : Nat) (id : ByteArray) : Bool := allB (fun i => !((I i).toList == id.toList)) n
/-- each of the first m of S is among the first n of I -/
def hasB (I : Nat → ByteArray) (n : Nat) (S : Nat → ByteArray) (m : Nat) : Bool := allB (fun j => !(outB I n (S j))) m

set_option maxHeartbeats 400000 in
theorem l6At_any (a : Option Addr) (len cap : Nat) (I : Nat → ByteArray) (id : ByteArray) (w : World) (h : IsStrs w a len cap I) :
    Calls Tryz.prog 95 #[.slice a len cap, .string id] w fun e w' => ∃ r : Int, e = .returned (.int .i64 r) ∧ decide (r < 0) = outB I len id ∧ w' = w := by
  obtain ⟨hlc, hcm, hc⟩ := h
  go_enter Tryz.func95, Tryz.ntmps95
  go_wp2
  go_loop [5] (fun i => ∃ (k : Nat), k ≤ len ∧ i = .int .i64 k ∧ Hid (outB I k id = true)) (fun i => len - (intOf i).toNat)
  case atStart => exact ⟨0, Nat.zero_le _, rfl, rfl⟩
  case round =>
    obtain ⟨k, hk, rfl, HR⟩ := hrel
    by_cases hlt : k < len
    · obtain ⟨b, off, rfl, hbs, hcell⟩ := hc (by omega)
      have d1 := hcell k hlt
      have hltI : (k : Int) < (len : Int) := by omega
      clear hcell hc
      cases hq : ((I k).toList == id.toList) with
      | true =>
        have hr : Hid (decide ((k : Int) < 0) = outB I len id) := by
          show _ = _
          unfold outB
          rw [allB_false hlt (by rw [hq]; rfl)]
          simp
        go_wp2
        go_ret
        exact ⟨_, rfl, hr.out, rfl⟩
      | false =>
        have HR' : Hid (outB I (k + 1) id = true) := by
          show _ = _
          have := HR.out
          unfold outB at this ⊢
          rw [allB_succ, this, hq]; rfl
        go_wp2
        go_round
        case rel => exact ⟨k + 1, by omega, by go_num, HR'⟩
        case measure => simp [intOf]; omega
    · have hke : k = len := by omega
      subst hke
      go_wp2
      go_ret
      exact ⟨_, rfl, HR.out.symm ▸ by decide, rfl⟩

set_option maxHeartbeats 1000000 in
theorem l6Has_any (i : Option Addr) (n icap : Nat) (I : Nat → ByteArray) (a s k : Int) (key text : ByteArray) (u : Option Addr) (len cap : Nat) (S : Nat → ByteArray) (w : World) (hi : IsStrs w i n icap I) (h : IsStrs w u len cap S) :
    Calls Tryz.prog 115 #[.slice i n icap, .agg #[.int .i64 a, .int .i64 s, .int .i64 k, .string key, .string text, .slice u len cap]] w fun e w' => e = .returned (.bool (hasB I n S len)) ∧ Below w.heap.size w w' := by
  obtain ⟨wa, hwa⟩ : ∃ wa, wa = w.alloc (.cells #[.int .i64 a, .int .i64 s, .int .i64 k, .string key, .string text, .slice u len cap] 50) := ⟨_, rfl⟩
  have na : NodeAt wa w.heap.size a s k key text (.slice u len cap) := by rw [hwa]; exact NodeAt.new _ _ _ _ _ _ _ _
  have hBa : Below w.heap.size w wa := by rw [hwa]; exact (Below.refl _ _).alloc (Nat.le_refl _) _
  obtain ⟨hlc, hcm, hc⟩ := h.below hBa
  have HC : Hid (∀ j, Calls Tryz.prog 95 #[.slice i n icap, .string (S j)] wa fun e w' => ∃ r : Int, e = .returned (.int .i64 r) ∧ decide (r < 0) = outB I n (S j) ∧ w' = wa) := fun j => l6At_any i n icap I (S j) wa (hi.below hBa)
  have c5 := na.c5
  go_enter Tryz.func115, Tryz.ntmps115
  go_wp2
  rw [← hwa]
  clear hwa na hi h
  go_loop [5] (fun i => ∃ (k : Nat), k ≤ len ∧ i = .int .i64 k ∧ Hid (hasB I n S k = true)) (fun i => len - (intOf i).toNat)
  case atStart => exact ⟨0, Nat.zero_le _, rfl, rfl⟩
  case round =>
    obtain ⟨k, hk, rfl, HR⟩ := hrel
    by_cases hlt : k < len
    · obtain ⟨b, off, rfl, hbs, hcell⟩ := hc (by omega)
      have d1 := hcell k hlt
      have hltI : (k : Int) < (len : Int) := by omega
      clear hcell hc
      cases hq : outB I n (S k) with
      | true =>
        have hr : Hid (hasB I n S len = false) := by
          show _ = _
          unfold hasB
          rw [allB_false hlt (by rw [hq]; rfl)]
        go_wp2_with (go_at_call 95; refine (HC.out k).mono ?_; rintro e w1 ⟨r, rfl, hr1, rfl⟩; rw [hq] at hr1)
        go_ret
        exact ⟨ret_bool hr.out.symm, hBa⟩
      | false =>
        have HR' : Hid (hasB I n S (k + 1) = true) := by
          show _ = _
          have := HR.out
          unfold hasB at this ⊢
          rw [allB_succ, this, hq]; rfl
        go_wp2_with (go_at_call 95; refine (HC.out k).mono ?_; rintro e w1 ⟨r, rfl, hr1, rfl⟩; rw [hq] at hr1)
        go_round
        case rel => exact ⟨k + 1, by omega, by go_num, HR'⟩
        case measure => simp [intOf]; omega
    · have hke : k = len := by omega
      subst hke
      go_wp2
      go_ret
      exact ⟨ret_bool HR.out.symm, hBa⟩
end Go.Proofs.YtlibipbpaigmdaaGreatDoor
