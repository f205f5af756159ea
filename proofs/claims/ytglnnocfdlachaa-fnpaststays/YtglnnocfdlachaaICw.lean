/-
  The statement FnExactCanWriteSaid: at every slice of events and every two numbers the law returns true, and the slice reads afterwards as it read before. No condition.
-/
import Derived.Test.YtglnnocfdlachaaIRLaw
namespace Go.Proofs.Ytglnnocfdlachaa
open Go.ChangeShapes Go.WideShapes Go.ChangeAt Go.RowKit Go.Deep
set_option linter.unusedVariables false

set_option maxHeartbeats 1000000 in
theorem contains_any (v : Value) (L : List Int) (n : Int) (w : World) (h : RdI w v L) :
    Calls Try.prog 25 #[v, .int .i64 n] w fun e w' => e = .returned (.bool (hasI L n)) ∧ Below w.heap.size w w' := by
  obtain ⟨a, cap, rfl, hlc, hcm, hc⟩ := h
  obtain ⟨m, hm⟩ : ∃ m, m = L.length := ⟨_, rfl⟩
  have HM : Hid (m = L.length) := hm
  rw [← hm] at hlc hc ⊢
  clear hm
  have hidx : Calls Try.prog 42 #[.slice a m cap, .int .i64 n] w fun e w' => ∃ j : Int, e = .returned (.int .i64 j) ∧ decide (0 ≤ j) = hasI L n ∧ Below w.heap.size w w' := by
    go_enter Try.func42, Try.ntmps42
    go_wp2
    go_loopw [8] (fun i wr => ∃ (k : Nat), k ≤ m ∧ i = .int .i64 k ∧ Hid (∀ j, j < k → (L.getD j 0 == n) = false) ∧ Hid (Below w.heap.size w wr)) (fun i _ => m - (intOf i).toNat)
    case atStart => exact ⟨0, Nat.zero_le _, rfl, fun j hj => absurd hj (Nat.not_lt_zero _), Below.refl _ _⟩
    case round =>
      obtain ⟨k, hk, rfl, HA, HB⟩ := hrel
      by_cases hlt : k < m
      · obtain ⟨b, off, rfl, hbs, hcell⟩ := hc (by omega)
        have hck := (HB.out.cell (p := ⟨b, off + k, none⟩) hbs).trans (hcell k hlt)
        have hltI : (k : Int) < (m : Int) := by omega
        obtain ⟨y, hy⟩ : ∃ y, y = L.getD k 0 := ⟨_, rfl⟩
        rw [← hy] at hck
        have HY : Hid (y = L.getD k 0) := hy
        clear hy hcell hc
        have hyn : (y == n) = (n == y) := by
          by_cases h : y = n
          · subst h; rfl
          · have h' : ¬ n = y := fun q => h q.symm
            rw [beq_eq_false_iff_ne.2 h, beq_eq_false_iff_ne.2 h']
        have HYN : Hid ((y == n) = (n == y)) := hyn
        clear hyn
        cases hq : (n == y) with
        | true =>
          have hr : decide (0 ≤ (k : Int)) = hasI L n := by
            rw [hasI_yes (k := k) (by rw [← HM.out]; exact hlt) (by rw [← HY.out, HYN.out]; exact hq)]
            exact decide_eq_true (by omega)
          have HR : Hid (decide (0 ≤ (k : Int)) = hasI L n) := hr
          clear hr
          go_wp2
          go_ret
          exact ⟨k, rfl, HR.out, HB.out⟩
        | false =>
          have HS : Hid (∀ j, j < k + 1 → (L.getD j 0 == n) = false) := fun j hj => by
            rcases Nat.lt_succ_iff_lt_or_eq.1 hj with h1 | rfl
            · exact HA.out j h1
            · rw [← HY.out, HYN.out]; exact hq
          go_wp2
          go_roundw
          case rel => exact ⟨k + 1, by omega, by go_num, HS, HB⟩
          case measure => simp [intOf]; omega
      · have hke : k = m := by omega
        subst hke
        have hr : hasI L n = false := hasI_no (fun j hj => HA.out j (by rw [HM.out]; exact hj))
        go_wp2
        go_ret
        exact ⟨-1, rfl, by rw [hr]; rfl, HB.out⟩
  have HX := (show Hid (Calls Try.prog 42 #[.slice a m cap, .int .i64 n] w fun e w' => ∃ j : Int, e = .returned (.int .i64 j) ∧ decide (0 ≤ j) = hasI L n ∧ Below w.heap.size w w') from hidx)
  clear hidx hc
  go_enter Try.func25, Try.ntmps25
  go_wp2_with fail
  refine HX.out.mono ?_
  rintro e w1 ⟨j, rfl, hj, hB1⟩
  have HJ : Hid (decide (0 ≤ j) = hasI L n) := hj
  have HB := (show Hid _ from hB1)
  clear hj hB1
  go_wp2
  go_ret
  exact ⟨ret_bool HJ.out, HB.out⟩
end Go.Proofs.Ytglnnocfdlachaa
