/-
  KnownOk, the program's and the specification's, answer the same plain test. No condition but that the slice reads and the texts' lengths.
-/
import Derived.Test.YtcolcnkjcagbaaaGreatDoorStrs
namespace Go.Proofs.YtcolcnkjcagbaaaGreatDoor
open Go.RowKit
set_option linter.unusedVariables false

/-- the first n texts are terms -/
def termsB (S : Nat → ByteArray) (n : Nat) : Bool := (List.range n).all fun k => (rT (S k)).isSome
theorem termsB_succ (S : Nat → ByteArray) (n : Nat) : termsB S (n + 1) = (termsB S n && (rT (S n)).isSome) := by
  unfold termsB
  rw [List.range_succ, List.all_append]
  simp
theorem termsB_false {S : Nat → ByteArray} {n k : Nat} (hk : k < n) (h : rT (S k) = none) : termsB S n = false := by
  have : ¬ (termsB S n = true) := by
    unfold termsB
    rw [List.all_eq_true]
    intro h'
    have := h' k (List.mem_range.2 hk)
    rw [h] at this
    cases this
  simpa using this

/-- right knowledge -/
def knownB (S : Nat → ByteArray) (len : Nat) : Bool := decide (len ≤ 30) && riseB S len && termsB S len

set_option maxHeartbeats 1000000 in
theorem specKnown_any (a : Option Addr) (len cap : Nat) (S : Nat → ByteArray) (w : World) (h : IsStrs w a len cap S) (hS : ∀ i, i < len → (S i).size ≤ 1048576) :
    Calls Tryz.prog 31 #[.slice a len cap] w fun e w' => e = .returned (.bool (knownB S len)) ∧ Below w.heap.size w w' := by
  obtain ⟨hlc, hcm, hc⟩ := h
  by_cases h30 : (30 : Int) < (len : Int)
  · have hr : Hid (knownB S len = false) := by
      show _ = _
      unfold knownB
      rw [show decide (len ≤ 30) = false by simp; omega]; rfl
    go_enter Tryz.func31, Tryz.ntmps31
    go_wp2
    go_ret
    exact ⟨ret_bool hr.out.symm, Below.refl _ _⟩
  have hk30 : Hid (decide (len ≤ 30) = true) := by show _ = _; simp; omega
  have h30' : (len : Int) ≤ 30 := by omega
  clear h30
  go_enter Tryz.func31, Tryz.ntmps31
  go_wp2
  go_loopw [3, 4] (fun i _ wr => ∃ (k : Nat), k ≤ len ∧ i = .int .i64 k ∧ Hid (riseB S k = true ∧ termsB S k = true) ∧ Below w.heap.size w wr)
    (fun i _ _ => len - (intOf i).toNat)
  case atStart => exact ⟨0, Nat.zero_le _, rfl, ⟨rfl, rfl⟩, Below.refl _ _⟩
  case round =>
    obtain ⟨k, hk, rfl, HR, hB⟩ := hrel
    by_cases hlt : k < len
    · obtain ⟨b, off, rfl, hbs, hcell⟩ := hc (by omega)
      have d1 := (hB.cell (p := ⟨b, off + k, none⟩) hbs).trans (hcell k hlt)
      have hsz := hS k hlt
      have hltI : (k : Int) < (len : Int) := by omega
      have hcl : ∀ i, i < len → wr.cell? ⟨b, off + i, none⟩ = some (.string (S i)) := fun i hi => (hB.cell (p := ⟨b, off + i, none⟩) hbs).trans (hcell i hi)
      have hbw : b < wr.heap.size := by have := hB.size; omega
      have HC := (show Hid _ from hcl)
      clear hcell hc hcl
      cases hrt : rT (S k) with
      | none =>
        have hr : Hid (knownB S len = false) := by
          show _ = _
          unfold knownB
          rw [termsB_false hlt hrt, Bool.and_false]
        have HRT := (show Hid _ from hrt)
        clear hrt
        go_wp2_with fail
        refine (specRead_no (S k) _ hsz HRT.out).mono ?_
        rintro e w2 ⟨rfl, hB2⟩
        go_wp2
        go_quiet (fail)
        go_wp2
        go_ret
        exact ⟨ret_bool hr.out.symm, hB.trans ((hB2.mono hB.size).trans ⟨rfl, rfl, rfl, Nat.le_refl _, fun _ _ => rfl⟩)⟩
      | some v =>
        have HRT := (show Hid (rT (S k) = some v) from hrt)
        clear hrt
        go_wp2_with fail
        refine (specRead_yes (S k) _ hsz v HRT.out).mono ?_
        rintro e w2 ⟨t, a2, cap2, _, _, _, _, rfl, _, hB2⟩
        have e1 := (hB2.cell (p := ⟨b, off + k, none⟩) hbw).trans d1
        rcases Nat.eq_zero_or_pos k with rfl | hpos
        · go_wp2
          go_quiet (fail)
          go_wp2
          go_roundw
          case rel =>
            refine ⟨1, by omega, by go_num, ⟨rfl, ?_⟩, hB.trans ((hB2.mono hB.size).trans ⟨rfl, rfl, rfl, Nat.le_refl _, fun _ _ => rfl⟩)⟩
            show termsB S (0 + 1) = true
            rw [termsB_succ, HR.out.2, HRT.out]; rfl
          case measure => simp [intOf]; omega
        · obtain ⟨p, rfl⟩ : ∃ p, k = p + 1 := ⟨k - 1, by omega⟩
          have e2 := (hB2.cell (p := ⟨b, off + p, none⟩) hbw).trans (HC.out p (by omega))
          have hup : upB S (p + 1) = Op.bytesLess (S p).toList (S (p + 1)).toList := rfl
          cases hu : upB S (p + 1) with
          | true =>
            rw [hu] at hup
            have hup' := hup.symm
            have HR' : Hid (riseB S (p + 1 + 1) = true ∧ termsB S (p + 1 + 1) = true) := by
              refine ⟨?_, ?_⟩
              · rw [riseB_succ, HR.out.1, hu]; simp
              · rw [termsB_succ, HR.out.2, HRT.out]; rfl
            clear hup hu
            go_wp2
            go_quiet (fail)
            go_wp2
            go_roundw
            case rel => exact ⟨p + 1 + 1, by omega, by go_num, HR', hB.trans ((hB2.mono hB.size).trans ⟨rfl, rfl, rfl, Nat.le_refl _, fun _ _ => rfl⟩)⟩
            case measure => simp [intOf]; omega
          | false =>
            rw [hu] at hup
            have hup' := hup.symm
            have hr : Hid (knownB S len = false) := by
              show _ = _
              unfold knownB
              rw [riseB_false hlt (by omega) hu, Bool.and_false, Bool.false_and]
            clear hup hu
            go_wp2
            go_quiet (fail)
            go_wp2
            go_ret
            exact ⟨ret_bool hr.out.symm, hB.trans ((hB2.mono hB.size).trans ⟨rfl, rfl, rfl, Nat.le_refl _, fun _ _ => rfl⟩)⟩
    · have hke : k = len := by omega
      subst hke
      have hr : Hid (knownB S k = true) := by
        show _ = _
        unfold knownB
        rw [hk30.out, HR.out.1, HR.out.2]; rfl
      go_wp2
      go_ret
      exact ⟨ret_bool hr.out.symm, hB⟩

end Go.Proofs.YtcolcnkjcagbaaaGreatDoor
