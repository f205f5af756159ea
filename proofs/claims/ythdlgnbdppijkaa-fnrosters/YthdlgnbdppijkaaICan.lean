/-
  Who may write: what both functions answer. No condition but that the slices read.
-/
import Derived.Test.YthdlgnbdppijkaaIRes
namespace Go.Proofs.Ythdlgnbdppijkaa
open Go.RowKit
set_option linter.unusedVariables false

set_option maxHeartbeats 1000000 in
theorem contains_any (v : Value) (L : List Int) (n : Int) (w : World) (h : RdI w v L) :
    Calls Try.prog 26 #[v, .int .i64 n] w fun e w' => e = .returned (.bool (hasI L n)) ∧ Below w.heap.size w w' := by
  obtain ⟨a, cap, rfl, hlc, hcm, hc⟩ := h
  obtain ⟨m, hm⟩ : ∃ m, m = L.length := ⟨_, rfl⟩
  have HM : Hid (m = L.length) := hm
  rw [← hm] at hlc hc ⊢
  clear hm
  have hidx : Calls Try.prog 45 #[.slice a m cap, .int .i64 n] w fun e w' => ∃ j : Int, e = .returned (.int .i64 j) ∧ decide (0 ≤ j) = hasI L n ∧ Below w.heap.size w w' := by
    go_enter Try.func45, Try.ntmps45
    go_wp2
    go_loopw [8] (fun i wr => ∃ (k : Nat), k ≤ m ∧ i = .int .i64 k ∧ Hid (∀ j, j < k → (L.getD j 0 == n) = false) ∧ Hid (Below w.heap.size w wr)) (fun i _ => m - (intOf i).toNat)
    case atStart => exact ⟨0, Nat.zero_le _, rfl, fun j hj => absurd hj (Nat.not_lt_zero _), Below.refl _ _⟩
    case round =>
      obtain ⟨k, hk, rfl, HA, HB⟩ := hrel
      by_cases hlt : k < m
      · obtain ⟨b, off, rfl, hbs, hcell⟩ := hc (by omega)
        have hck := (HB.out.cell (p := ⟨b, off + k, none⟩) hbs).trans (hcell k hlt)
        have hltI : (k : Int) < (m : Int) := by omega
        obtain ⟨y, hy⟩ : ∃ y, y = L.getD k 0 := ⟨_, rfl⟩
        rw [← hy] at hck
        have HY : Hid (y = L.getD k 0) := hy
        clear hy hcell hc
        have hyn : (y == n) = (n == y) := by
          by_cases h : y = n
          · subst h; rfl
          · have h' : ¬ n = y := fun q => h q.symm
            rw [beq_eq_false_iff_ne.2 h, beq_eq_false_iff_ne.2 h']
        have HYN : Hid ((y == n) = (n == y)) := hyn
        clear hyn
        cases hq : (n == y) with
        | true =>
          have hr : decide (0 ≤ (k : Int)) = hasI L n := by
            rw [hasI_yes (k := k) (by rw [← HM.out]; exact hlt) (by rw [← HY.out, HYN.out]; exact hq)]
            exact decide_eq_true (by omega)
          have HR : Hid (decide (0 ≤ (k : Int)) = hasI L n) := hr
          clear hr
          go_wp2
          go_ret
          exact ⟨k, rfl, HR.out, HB.out⟩
        | false =>
          have HS : Hid (∀ j, j < k + 1 → (L.getD j 0 == n) = false) := fun j hj => by
            rcases Nat.lt_succ_iff_lt_or_eq.1 hj with h1 | rfl
            · exact HA.out j h1
            · rw [← HY.out, HYN.out]; exact hq
          go_wp2
          go_roundw
          case rel => exact ⟨k + 1, by omega, by go_num, HS, HB⟩
          case measure => simp [intOf]; omega
      · have hke : k = m := by omega
        subst hke
        have hr : hasI L n = false := hasI_no (fun j hj => HA.out j (by rw [HM.out]; exact hj))
        go_wp2
        go_ret
        exact ⟨-1, rfl, by rw [hr]; rfl, HB.out⟩
  have HX := (show Hid (Calls Try.prog 45 #[.slice a m cap, .int .i64 n] w fun e w' => ∃ j : Int, e = .returned (.int .i64 j) ∧ decide (0 ≤ j) = hasI L n ∧ Below w.heap.size w w') from hidx)
  clear hidx hc
  go_enter Try.func26, Try.ntmps26
  go_wp2_with fail
  refine HX.out.mono ?_
  rintro e w1 ⟨j, rfl, hj, hB1⟩
  have HJ : Hid (decide (0 ≤ j) = hasI L n) := hj
  have HB := (show Hid _ from hB1)
  clear hj hB1
  go_wp2
  go_ret
  exact ⟨ret_bool HJ.out, HB.out⟩

set_option maxRecDepth 10000 in
set_option maxHeartbeats 2000000 in
theorem implCan (a : Option Addr) (len cap : Nat) (D : Nat → Ev) (n e : Int) (w : World) (h : IsEvs w a len cap D) :
    Calls Try.prog 11 #[.slice a len cap, .int .i64 n, .int .i64 e] w fun r w' => r = .returned (.bool (rosB D len e && hasI (resR D len e).1 n)) ∧ Below w.heap.size w w' := by
  have HC : Hid (IsEvs w a len cap D) := h
  obtain ⟨ok, hok⟩ : ∃ ok, ok = rosB D len e := ⟨_, rfl⟩
  obtain ⟨R1, hR1⟩ : ∃ R1, R1 = (resR D len e).1 := ⟨_, rfl⟩
  obtain ⟨R2, hR2⟩ : ∃ R2, R2 = (resR D len e).2 := ⟨_, rfl⟩
  have HI : Hid (Calls Try.prog 8 #[.slice a len cap, .int .i64 e] w fun r w' => ∃ a1 c1 a2 c2 z, r = .returned (.tuple #[.agg #[.slice a1 R1.length c1, .slice a2 R2.length c2], .bool ok]) ∧ OwnI w' w.heap.size (.slice a1 R1.length c1) R1 ∧ OwnI w' z (.slice a2 R2.length c2) R2 ∧ w.heap.size ≤ z ∧ (∀ k, (Value.slice a1 R1.length c1).ownBlock = some k → k < z) ∧ Below w.heap.size w w') := by rw [hR1, hR2, hok]; exact implR a len cap D e w h
  rw [← hok, ← hR1]
  clear h hok hR1 hR2
  go_enter Try.func11, Try.ntmps11
  go_wp2_with fail
  refine HI.out.mono ?_
  rintro r w1 ⟨a1, c1, a2, c2, z, rfl, o1, o2, _, _, hB1⟩
  clear HI o2
  have HB : Hid (Below w.heap.size w (w1.alloc (.cells #[.slice a1 R1.length c1, .slice a2 R2.length c2] 29))) := hB1.alloc hB1.size _
  have HO : Hid (RdI (w1.alloc (.cells #[.slice a1 R1.length c1, .slice a2 R2.length c2] 29)) (.slice a1 R1.length c1) R1) := (o1.below ((Below.refl _ _).alloc (Nat.le_refl _) _)).rd
  clear o1 hB1
  cases ok with
  | false =>
    go_wp2
    go_ret
    exact ⟨ret_bool (by simp), HB.out⟩
  | true =>
    go_wp2_with fail
    refine (contains_any _ R1 n _ HO.out).mono ?_
    rintro r w2 ⟨rfl, hB2⟩
    have HB2 : Hid (Below w.heap.size w w2) := HB.out.trans (hB2.mono HB.out.size)
    clear hB2
    go_wp2
    go_ret
    exact ⟨ret_bool (by simp), HB2.out⟩

set_option maxRecDepth 10000 in
set_option maxHeartbeats 2000000 in
theorem specCan (a : Option Addr) (len cap : Nat) (D : Nat → Ev) (n e : Int) (w : World) (h : IsEvs w a len cap D) :
    Calls Try.prog 12 #[.slice a len cap, .int .i64 n, .int .i64 e] w fun r w' => r = .returned (.bool (rosB D len e && hasI (resR D len e).1 n)) ∧ Below w.heap.size w w' := by
  have HC : Hid (IsEvs w a len cap D) := h
  obtain ⟨ok, hok⟩ : ∃ ok, ok = rosB D len e := ⟨_, rfl⟩
  obtain ⟨R1, hR1⟩ : ∃ R1, R1 = (resR D len e).1 := ⟨_, rfl⟩
  obtain ⟨R2, hR2⟩ : ∃ R2, R2 = (resR D len e).2 := ⟨_, rfl⟩
  have HI : Hid (Calls Try.prog 9 #[.slice a len cap, .int .i64 e] w fun r w' => ∃ a1 c1 a2 c2, r = .returned (.tuple #[.agg #[.slice a1 R1.length c1, .slice a2 R2.length c2], .bool ok]) ∧ OwnI w' w.heap.size (.slice a1 R1.length c1) R1 ∧ OwnI w' w.heap.size (.slice a2 R2.length c2) R2 ∧ Below w.heap.size w w') := by rw [hR1, hR2, hok]; exact specR a len cap D e w h
  rw [← hok, ← hR1]
  clear h hok hR1 hR2
  go_enter Try.func12, Try.ntmps12
  go_wp2_with fail
  refine HI.out.mono ?_
  rintro r w1 ⟨a1, c1, a2, c2, rfl, o1, o2, hB1⟩
  clear HI o2
  have HB : Hid (Below w.heap.size w (w1.alloc (.cells #[.slice a1 R1.length c1, .slice a2 R2.length c2] 29))) := hB1.alloc hB1.size _
  have HO : Hid (RdI (w1.alloc (.cells #[.slice a1 R1.length c1, .slice a2 R2.length c2] 29)) (.slice a1 R1.length c1) R1) := (o1.below ((Below.refl _ _).alloc (Nat.le_refl _) _)).rd
  clear o1 hB1
  cases ok with
  | false =>
    go_wp2
    go_ret
    exact ⟨ret_bool (by simp), HB.out⟩
  | true =>
    go_wp2_with fail
    refine (has_any _ R1 n _ HO.out).mono ?_
    rintro r w2 ⟨rfl, hw2⟩
    rw [hw2]; clear hw2 w2
    go_wp2
    go_ret
    exact ⟨ret_bool (by simp), HB.out⟩
end Go.Proofs.Ythdlgnbdppijkaa
