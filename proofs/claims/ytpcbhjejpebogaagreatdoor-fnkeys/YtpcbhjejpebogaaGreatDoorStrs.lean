/-
  The functions over []string that the laws call, and rises, return what plain data says. No condition but that the slices read.
-/
import Derived.Test.YtpcbhjejpebogaaGreatDoorPr4
namespace Go.Proofs.YtpcbhjejpebogaaGreatDoor
open Go.RowKit
set_option linter.unusedVariables false

/-- a slice of texts that reads as S 0, S 1, .. in world w -/
def IsStrs (w : World) (a : Option Addr) (len cap : Nat) (S : Nat → ByteArray) : Prop :=
  len ≤ cap ∧ cap ≤ 9223372036854775807 ∧ (0 < len → ∃ b off, a = some ⟨b, off, none⟩ ∧ b < w.heap.size ∧ ∀ i, i < len → w.cell? ⟨b, off + i, none⟩ = some (.string (S i)))

theorem IsStrs.below {w w' : World} {a : Option Addr} {len cap : Nat} {S : Nat → ByteArray} (h : IsStrs w a len cap S) (hB : Below w.heap.size w w') : IsStrs w' a len cap S := by
  obtain ⟨h1, h2, h3⟩ := h
  refine ⟨h1, h2, fun hp => ?_⟩
  obtain ⟨b, off, e, hb, hc⟩ := h3 hp
  exact ⟨b, off, e, by have := hB.size; omega, fun i hi => (hB.cell (p := ⟨b, off + i, none⟩) hb).trans (hc i hi)⟩

theorem info9 : (Tryz.prog.info? 9).map (fun i => (i.zero, i.size, i.bytes)) = some (some (.string ⟨#[]⟩), 1, 16) := by kernel_rfl

/-- the text at k - 1 stands ahead of the one at k -/
def upB (S : Nat → ByteArray) (k : Nat) : Bool := Op.bytesLess (S (k - 1)).toList (S k).toList
/-- the first n texts rise -/
def riseB (S : Nat → ByteArray) (n : Nat) : Bool := (List.range n).all fun k => k == 0 || upB S k

theorem riseB_succ (S : Nat → ByteArray) (n : Nat) : riseB S (n + 1) = (riseB S n && (n == 0 || upB S n)) := by
  unfold riseB
  rw [List.range_succ, List.all_append]
  simp
theorem riseB_false {S : Nat → ByteArray} {n k : Nat} (hk : k < n) (h0 : 0 < k) (h : upB S k = false) : riseB S n = false := by
  have : ¬ (riseB S n = true) := by
    unfold riseB
    rw [List.all_eq_true]
    intro h'
    have := h' k (List.mem_range.2 hk)
    rw [h] at this
    simp at this
    omega
  simpa using this

set_option maxHeartbeats 400000 in
theorem rises_any (a : Option Addr) (len cap : Nat) (S : Nat → ByteArray) (w : World) (h : IsStrs w a len cap S) (hl : len ≤ 1048576) :
    Calls Tryz.prog 60 #[.slice a len cap] w fun e w' => e = .returned (.bool (riseB S len)) ∧ Below w.heap.size w w' := by
  obtain ⟨hlc, hcm, hc⟩ := h
  go_enter Tryz.func60, Tryz.ntmps60
  go_wp2
  go_loopw [3] (fun i wr => ∃ (k : Nat), 1 ≤ k ∧ k ≤ max len 1 ∧ i = .int .i64 k ∧ Hid (riseB S k = true) ∧ ∃ n, wr = w.drewN n)
    (fun i _ => len - (intOf i).toNat)
  case atStart => exact ⟨1, Nat.le_refl _, by omega, rfl, rfl, 0, rfl⟩
  case round =>
    obtain ⟨k, hk1, hk, rfl, HR, n, rfl⟩ := hrel
    by_cases hlt : k < len
    · obtain ⟨b, off, rfl, hbs, hcell⟩ := hc (by omega)
      have d1 := hcell k hlt
      have d2 := hcell (k - 1) (by omega)
      obtain ⟨p, rfl⟩ : ∃ p, k = p + 1 := ⟨k - 1, by omega⟩
      rw [Nat.add_sub_cancel] at d2
      clear hcell hc
      have hltI : ((p + 1 : Nat) : Int) < (len : Int) := by omega
      have hup : upB S (p + 1) = Op.bytesLess (S p).toList (S (p + 1)).toList := rfl
      cases hu : upB S (p + 1) with
      | true =>
        rw [hu] at hup
        have hup' := hup.symm
        have HR' : Hid (riseB S (p + 1 + 1) = true) := by
          show _ = _
          rw [riseB_succ, HR.out, hu]; simp
        clear hup hu
        go_wp2
        go_quiet (fail)
        go_wp2
        go_roundw
        case rel => exact ⟨p + 1 + 1, by omega, by omega, by go_num, HR', _, rfl⟩
        case measure => simp [intOf]; omega
      | false =>
        rw [hu] at hup
        have hup' := hup.symm
        have HR' : Hid (riseB S len = false) := riseB_false hlt (by omega) hu
        clear hup hu
        go_wp2
        go_quiet (fail)
        go_wp2
        go_ret
        exact ⟨ret_bool HR'.out.symm, ⟨rfl, rfl, rfl, Nat.le_refl _, fun _ _ => rfl⟩⟩
    · have hr : Hid (riseB S len = true) := by
        show _ = _
        rcases (show len = k ∨ (len = 0 ∧ k = 1) by omega) with rfl | ⟨rfl, rfl⟩
        · exact HR.out
        · rfl
      have hge : (len : Int) ≤ (k : Int) := by omega
      go_wp2
      go_ret
      exact ⟨ret_bool hr.out.symm, ⟨rfl, rfl, rfl, Nat.le_refl _, fun _ _ => rfl⟩⟩

end Go.Proofs.YtpcbhjejpebogaaGreatDoor
