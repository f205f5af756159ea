/-
  The specification's TermOk answers the plain test of the nodes. No condition but that the slice reads.
-/
import Derived.Test.YtcolcnkjcagbaaaGreatDoorSpecTree
namespace Go.Proofs.YtcolcnkjcagbaaaGreatDoor
open Go.RowKit
set_option linter.unusedVariables false

theorem fOk_ways {k n a b : Int} : fOk k n a b = true ↔ (1 ≤ k ∧ k ≤ 7) ∧ (0 ≤ n ∧ n ≤ 999) ∧ (k = 4 ∨ k = 5 → n = 0) ∧ (kidsI k = 0 → a = 0) ∧ (kidsI k < 2 → b = 0) := by
  by_cases hk : k < 1 ∨ 7 < k
  · rw [fOk_none hk]
    constructor
    · intro h; cases h
    · intro h; omega
  · rcases (show k = 1 ∨ k = 2 ∨ k = 3 ∨ k = 4 ∨ k = 5 ∨ k = 6 ∨ k = 7 by omega) with rfl | rfl | rfl | rfl | rfl | rfl | rfl
    all_goals
      simp [fOk, numB, kidsI]
      try omega

theorem fOk_off {k n a b : Int} (h : ¬ ((1 ≤ k ∧ k ≤ 7) ∧ (0 ≤ n ∧ n ≤ 999) ∧ (k = 4 ∨ k = 5 → n = 0) ∧ (kidsI k = 0 → a = 0) ∧ (kidsI k < 2 → b = 0))) : fOk k n a b = false := by
  have : ¬ (fOk k n a b = true) := fun h' => h (fOk_ways.1 h')
  simpa using this

section
variable {Kd N A B : Nat → Int}

theorem allOk_succ (n : Nat) : allOk Kd N A B (n + 1) = (allOk Kd N A B n && fOk (Kd n) (N n) (A n) (B n)) := by
  unfold allOk
  rw [List.range_succ, List.all_append]
  simp

theorem allOk_false {n k : Nat} (hk : k < n) (h : fOk (Kd k) (N k) (A k) (B k) = false) : allOk Kd N A B n = false := by
  have : ¬ (allOk Kd N A B n = true) := by
    unfold allOk
    rw [List.all_eq_true]
    intro h'
    have := h' k (List.mem_range.2 hk)
    rw [h] at this
    cases this
  simpa using this

theorem sOk_no {len : Nat} (h : len < 1 ∨ 40 < len) : sOk Kd N A B len = false := by unfold sOk; rw [if_pos h]
theorem sOk_bad {len : Nat} (h : allOk Kd N A B len = false) : sOk Kd N A B len = false := by
  unfold sOk; rw [h]; split <;> rfl
theorem sOk_all {len : Nat} (h : ¬ (len < 1 ∨ 40 < len)) (h2 : allOk Kd N A B len = true) : sOk Kd N A B len = ((sT Kd A B len (len - 1)).1 == 0 && decide ((sT Kd A B len (len - 1)).2 ≤ 10)) := by
  unfold sOk; rw [if_neg h, h2]; rfl

set_option maxHeartbeats 4000000 in
theorem specTermOk_any (a : Option Addr) (len cap : Nat) (w : World) (h : IsNodes w a len cap Kd N A B) :
    Calls Tryz.prog 95 #[.slice a len cap] w fun e w' => e = .returned (.bool (sOk Kd N A B len)) ∧ Below w.heap.size w w' := by
  have hI := h
  obtain ⟨hlc, hcm, hc⟩ := h
  by_cases h1 : (len : Int) < 1
  · have hr : Hid (sOk Kd N A B len = false) := sOk_no (by omega)
    go_enter Tryz.func95, Tryz.ntmps95
    go_wp2
    go_ret
    exact ⟨ret_bool hr.out.symm, Below.refl _ _⟩
  by_cases h2 : (40 : Int) < (len : Int)
  · have hr : Hid (sOk Kd N A B len = false) := sOk_no (by omega)
    go_enter Tryz.func95, Tryz.ntmps95
    go_wp2
    go_ret
    exact ⟨ret_bool hr.out.symm, Below.refl _ _⟩
  have hno : Hid (¬ (len < 1 ∨ 40 < len)) := by show ¬ _; omega
  have h1' : (1 : Int) ≤ (len : Int) := by omega
  have h2' : (len : Int) ≤ 40 := by omega
  clear h1 h2
  go_enter Tryz.func95, Tryz.ntmps95
  go_wp2
  go_loopw [3] (fun i wr => ∃ k : Nat, k ≤ len ∧ i = .int .i64 k ∧ Hid (allOk Kd N A B k = true) ∧ Below w.heap.size w wr) (fun i _ => len - (intOf i).toNat)
  case atStart => exact ⟨0, Nat.zero_le _, rfl, rfl, Below.refl _ _⟩
  case round =>
    obtain ⟨k, hk, rfl, hm, hB⟩ := hrel
    by_cases hlt : k < len
    · obtain ⟨b, off, rfl, hbs, hcell⟩ := hc (by omega)
      obtain ⟨c1, c2, c3, c4⟩ := hcell k hlt
      have d1 := (hB.cell (p := ⟨b, off + k * 4, none⟩) hbs).trans c1
      have d2 := (hB.cell (p := ⟨b, off + k * 4 + 1, none⟩) hbs).trans c2
      have d3 := (hB.cell (p := ⟨b, off + k * 4 + 2, none⟩) hbs).trans c3
      have d4 := (hB.cell (p := ⟨b, off + k * 4 + 3, none⟩) hbs).trans c4
      clear hcell hc c1 c2 c3 c4
      have hBA : Below w.heap.size w (wr.alloc (.cells #[.int .i64 (Kd k), .int .i64 (N k), .int .i64 (A k), .int .i64 (B k)] 158)) := hB.alloc hB.size _
      by_cases hk1 : 1 ≤ Kd k ∧ Kd k ≤ 7
      · have b1 := inB_true hk1
        by_cases hk2 : 0 ≤ N k ∧ N k ≤ 999
        · have b2 := inB_true hk2
          by_cases hn : N k = 0
          · have hnb : (N k != 0) = false := by simpa using hn
            by_cases hkz : kidsI (Kd k) = 0
            · have hkzb : (kidsI (Kd k) == 0) = true := by simpa using hkz
              by_cases ha : A k = 0
              · have hab : (A k != 0) = false := by simpa using ha
                by_cases hks : kidsI (Kd k) < 2
                · by_cases hb : B k = 0
                  · have hbb : (B k != 0) = false := by simpa using hb
                    have hm' : Hid (allOk Kd N A B (k + 1) = true) := by
                      show _ = _
                      rw [allOk_succ, hm.out, fOk_ways.2 (by omega)]; rfl
                    clear hk1 hk2 hn hkz ha hb
                    go_wp2_with (first | (go_at_call 112; refine (l1Kids_any _ _).mono ?_; rintro e w' ⟨rfl, rfl⟩) | (go_at_call 45; refine (l1In_any _ _ _ _).mono ?_; rintro e w' ⟨rfl, rfl⟩))
                    go_roundw
                    case rel => exact ⟨k + 1, by omega, by go_num, hm', hBA⟩
                    case measure => simp [intOf]; omega
                  · have hbb : (B k != 0) = true := by simpa using hb
                    have hr : Hid (sOk Kd N A B len = false) := sOk_bad (allOk_false hlt (fOk_off (by omega)))
                    clear hk1 hk2 hn hkz ha hb
                    go_wp2_with (first | (go_at_call 112; refine (l1Kids_any _ _).mono ?_; rintro e w' ⟨rfl, rfl⟩) | (go_at_call 45; refine (l1In_any _ _ _ _).mono ?_; rintro e w' ⟨rfl, rfl⟩))
                    go_ret
                    exact ⟨ret_bool hr.out.symm, hBA⟩
                · have hksb : decide (kidsI (Kd k) < 2) = false := by simpa using hks
                  have hm' : Hid (allOk Kd N A B (k + 1) = true) := by
                    show _ = _
                    rw [allOk_succ, hm.out, fOk_ways.2 (by omega)]; rfl
                  clear hk1 hk2 hn hkz ha hks
                  go_wp2_with (first | (go_at_call 112; refine (l1Kids_any _ _).mono ?_; rintro e w' ⟨rfl, rfl⟩) | (go_at_call 45; refine (l1In_any _ _ _ _).mono ?_; rintro e w' ⟨rfl, rfl⟩))
                  go_roundw
                  case rel => exact ⟨k + 1, by omega, by go_num, hm', hBA⟩
                  case measure => simp [intOf]; omega
              · have hab : (A k != 0) = true := by simpa using ha
                have hr : Hid (sOk Kd N A B len = false) := sOk_bad (allOk_false hlt (fOk_off (by omega)))
                clear hk1 hk2 hn hkz ha
                go_wp2_with (first | (go_at_call 112; refine (l1Kids_any _ _).mono ?_; rintro e w' ⟨rfl, rfl⟩) | (go_at_call 45; refine (l1In_any _ _ _ _).mono ?_; rintro e w' ⟨rfl, rfl⟩))
                go_ret
                exact ⟨ret_bool hr.out.symm, hBA⟩
            · have hkzb : (kidsI (Kd k) == 0) = false := by simpa using hkz
              by_cases hks : kidsI (Kd k) < 2
              · by_cases hb : B k = 0
                · have hbb : (B k != 0) = false := by simpa using hb
                  have hm' : Hid (allOk Kd N A B (k + 1) = true) := by
                    show _ = _
                    rw [allOk_succ, hm.out, fOk_ways.2 (by omega)]; rfl
                  clear hk1 hk2 hn hkz hb
                  go_wp2_with (first | (go_at_call 112; refine (l1Kids_any _ _).mono ?_; rintro e w' ⟨rfl, rfl⟩) | (go_at_call 45; refine (l1In_any _ _ _ _).mono ?_; rintro e w' ⟨rfl, rfl⟩))
                  go_roundw
                  case rel => exact ⟨k + 1, by omega, by go_num, hm', hBA⟩
                  case measure => simp [intOf]; omega
                · have hbb : (B k != 0) = true := by simpa using hb
                  have hr : Hid (sOk Kd N A B len = false) := sOk_bad (allOk_false hlt (fOk_off (by omega)))
                  clear hk1 hk2 hn hkz hb
                  go_wp2_with (first | (go_at_call 112; refine (l1Kids_any _ _).mono ?_; rintro e w' ⟨rfl, rfl⟩) | (go_at_call 45; refine (l1In_any _ _ _ _).mono ?_; rintro e w' ⟨rfl, rfl⟩))
                  go_ret
                  exact ⟨ret_bool hr.out.symm, hBA⟩
              · have hksb : decide (kidsI (Kd k) < 2) = false := by simpa using hks
                have hm' : Hid (allOk Kd N A B (k + 1) = true) := by
                  show _ = _
                  rw [allOk_succ, hm.out, fOk_ways.2 (by omega)]; rfl
                clear hk1 hk2 hn hkz hks
                go_wp2_with (first | (go_at_call 112; refine (l1Kids_any _ _).mono ?_; rintro e w' ⟨rfl, rfl⟩) | (go_at_call 45; refine (l1In_any _ _ _ _).mono ?_; rintro e w' ⟨rfl, rfl⟩))
                go_roundw
                case rel => exact ⟨k + 1, by omega, by go_num, hm', hBA⟩
                case measure => simp [intOf]; omega
          · have hnb : (N k != 0) = true := by simpa using hn
            by_cases hk4 : Kd k = 4
            · have hk4b : (Kd k == 4) = true := by simpa using hk4
              have hr : Hid (sOk Kd N A B len = false) := sOk_bad (allOk_false hlt (fOk_off (by omega)))
              clear hk1 hk2 hn hk4
              go_wp2_with (first | (go_at_call 112; refine (l1Kids_any _ _).mono ?_; rintro e w' ⟨rfl, rfl⟩) | (go_at_call 45; refine (l1In_any _ _ _ _).mono ?_; rintro e w' ⟨rfl, rfl⟩))
              go_ret
              exact ⟨ret_bool hr.out.symm, hBA⟩
            · have hk4b : (Kd k == 4) = false := by simpa using hk4
              by_cases hk5 : Kd k = 5
              · have hk5b : (Kd k == 5) = true := by simpa using hk5
                have hr : Hid (sOk Kd N A B len = false) := sOk_bad (allOk_false hlt (fOk_off (by omega)))
                clear hk1 hk2 hn hk4 hk5
                go_wp2_with (first | (go_at_call 112; refine (l1Kids_any _ _).mono ?_; rintro e w' ⟨rfl, rfl⟩) | (go_at_call 45; refine (l1In_any _ _ _ _).mono ?_; rintro e w' ⟨rfl, rfl⟩))
                go_ret
                exact ⟨ret_bool hr.out.symm, hBA⟩
              · have hk5b : (Kd k == 5) = false := by simpa using hk5
                by_cases hkz : kidsI (Kd k) = 0
                · have hkzb : (kidsI (Kd k) == 0) = true := by simpa using hkz
                  by_cases ha : A k = 0
                  · have hab : (A k != 0) = false := by simpa using ha
                    by_cases hks : kidsI (Kd k) < 2
                    · by_cases hb : B k = 0
                      · have hbb : (B k != 0) = false := by simpa using hb
                        have hm' : Hid (allOk Kd N A B (k + 1) = true) := by
                          show _ = _
                          rw [allOk_succ, hm.out, fOk_ways.2 (by omega)]; rfl
                        clear hk1 hk2 hn hk4 hk5 hkz ha hb
                        go_wp2_with (first | (go_at_call 112; refine (l1Kids_any _ _).mono ?_; rintro e w' ⟨rfl, rfl⟩) | (go_at_call 45; refine (l1In_any _ _ _ _).mono ?_; rintro e w' ⟨rfl, rfl⟩))
                        go_roundw
                        case rel => exact ⟨k + 1, by omega, by go_num, hm', hBA⟩
                        case measure => simp [intOf]; omega
                      · have hbb : (B k != 0) = true := by simpa using hb
                        have hr : Hid (sOk Kd N A B len = false) := sOk_bad (allOk_false hlt (fOk_off (by omega)))
                        clear hk1 hk2 hn hk4 hk5 hkz ha hb
                        go_wp2_with (first | (go_at_call 112; refine (l1Kids_any _ _).mono ?_; rintro e w' ⟨rfl, rfl⟩) | (go_at_call 45; refine (l1In_any _ _ _ _).mono ?_; rintro e w' ⟨rfl, rfl⟩))
                        go_ret
                        exact ⟨ret_bool hr.out.symm, hBA⟩
                    · have hksb : decide (kidsI (Kd k) < 2) = false := by simpa using hks
                      have hm' : Hid (allOk Kd N A B (k + 1) = true) := by
                        show _ = _
                        rw [allOk_succ, hm.out, fOk_ways.2 (by omega)]; rfl
                      clear hk1 hk2 hn hk4 hk5 hkz ha hks
                      go_wp2_with (first | (go_at_call 112; refine (l1Kids_any _ _).mono ?_; rintro e w' ⟨rfl, rfl⟩) | (go_at_call 45; refine (l1In_any _ _ _ _).mono ?_; rintro e w' ⟨rfl, rfl⟩))
                      go_roundw
                      case rel => exact ⟨k + 1, by omega, by go_num, hm', hBA⟩
                      case measure => simp [intOf]; omega
                  · have hab : (A k != 0) = true := by simpa using ha
                    have hr : Hid (sOk Kd N A B len = false) := sOk_bad (allOk_false hlt (fOk_off (by omega)))
                    clear hk1 hk2 hn hk4 hk5 hkz ha
                    go_wp2_with (first | (go_at_call 112; refine (l1Kids_any _ _).mono ?_; rintro e w' ⟨rfl, rfl⟩) | (go_at_call 45; refine (l1In_any _ _ _ _).mono ?_; rintro e w' ⟨rfl, rfl⟩))
                    go_ret
                    exact ⟨ret_bool hr.out.symm, hBA⟩
                · have hkzb : (kidsI (Kd k) == 0) = false := by simpa using hkz
                  by_cases hks : kidsI (Kd k) < 2
                  · by_cases hb : B k = 0
                    · have hbb : (B k != 0) = false := by simpa using hb
                      have hm' : Hid (allOk Kd N A B (k + 1) = true) := by
                        show _ = _
                        rw [allOk_succ, hm.out, fOk_ways.2 (by omega)]; rfl
                      clear hk1 hk2 hn hk4 hk5 hkz hb
                      go_wp2_with (first | (go_at_call 112; refine (l1Kids_any _ _).mono ?_; rintro e w' ⟨rfl, rfl⟩) | (go_at_call 45; refine (l1In_any _ _ _ _).mono ?_; rintro e w' ⟨rfl, rfl⟩))
                      go_roundw
                      case rel => exact ⟨k + 1, by omega, by go_num, hm', hBA⟩
                      case measure => simp [intOf]; omega
                    · have hbb : (B k != 0) = true := by simpa using hb
                      have hr : Hid (sOk Kd N A B len = false) := sOk_bad (allOk_false hlt (fOk_off (by omega)))
                      clear hk1 hk2 hn hk4 hk5 hkz hb
                      go_wp2_with (first | (go_at_call 112; refine (l1Kids_any _ _).mono ?_; rintro e w' ⟨rfl, rfl⟩) | (go_at_call 45; refine (l1In_any _ _ _ _).mono ?_; rintro e w' ⟨rfl, rfl⟩))
                      go_ret
                      exact ⟨ret_bool hr.out.symm, hBA⟩
                  · have hksb : decide (kidsI (Kd k) < 2) = false := by simpa using hks
                    have hm' : Hid (allOk Kd N A B (k + 1) = true) := by
                      show _ = _
                      rw [allOk_succ, hm.out, fOk_ways.2 (by omega)]; rfl
                    clear hk1 hk2 hn hk4 hk5 hkz hks
                    go_wp2_with (first | (go_at_call 112; refine (l1Kids_any _ _).mono ?_; rintro e w' ⟨rfl, rfl⟩) | (go_at_call 45; refine (l1In_any _ _ _ _).mono ?_; rintro e w' ⟨rfl, rfl⟩))
                    go_roundw
                    case rel => exact ⟨k + 1, by omega, by go_num, hm', hBA⟩
                    case measure => simp [intOf]; omega
        · have b2 := inB_false hk2
          have hr : Hid (sOk Kd N A B len = false) := sOk_bad (allOk_false hlt (fOk_off (by omega)))
          clear hk1 hk2
          go_wp2_with (first | (go_at_call 112; refine (l1Kids_any _ _).mono ?_; rintro e w' ⟨rfl, rfl⟩) | (go_at_call 45; refine (l1In_any _ _ _ _).mono ?_; rintro e w' ⟨rfl, rfl⟩))
          go_ret
          exact ⟨ret_bool hr.out.symm, hBA⟩
      · have b1 := inB_false hk1
        have hr : Hid (sOk Kd N A B len = false) := sOk_bad (allOk_false hlt (fOk_off (by omega)))
        clear hk1
        go_wp2_with (first | (go_at_call 112; refine (l1Kids_any _ _).mono ?_; rintro e w' ⟨rfl, rfl⟩) | (go_at_call 45; refine (l1In_any _ _ _ _).mono ?_; rintro e w' ⟨rfl, rfl⟩))
        go_ret
        exact ⟨ret_bool hr.out.symm, hBA⟩
    · have hke : k = len := by omega
      subst hke
      have hr : Hid (sOk Kd N A B k = ((sT Kd A B k (k - 1)).1 == 0 && decide ((sT Kd A B k (k - 1)).2 ≤ 10))) := sOk_all hno.out hm.out
      clear hc
      go_wp2_with fail
      refine (tree_any (Kd := Kd) (N := N) (A := A) (B := B) (a := a) (len := k) (cap := cap) (by omega) k (by omega) ((k : Int) - 1) _ (by omega) (by omega) (by omega) (hI.below hB)).mono ?_
      rintro e w2 ⟨rfl, hB2⟩
      have hBF : Below w.heap.size w w2 := hB.trans (hB2.mono hB.size)
      rw [show ((k : Int) - 1).toNat = k - 1 by omega]
      generalize (sT Kd A B k (k - 1)).1 = x at *
      generalize (sT Kd A B k (k - 1)).2 = d at *
      by_cases hx : x = 0
      · have hxb : (x == 0) = true := by simpa using hx
        rw [hxb] at hr
        clear hx
        go_wp2
        go_ret
        exact ⟨ret_bool (by rw [hr.out]; simp), hBF⟩
      · have hxb : (x == 0) = false := by simpa using hx
        rw [hxb] at hr
        clear hx
        go_wp2
        go_ret
        exact ⟨ret_bool (by rw [hr.out]; simp), hBF⟩

end
end Go.Proofs.YtcolcnkjcagbaaaGreatDoor
