/-
  The specification's l1Int, and its reader's number and add, do what plain data says. No condition but that the reader lies in memory.
-/
import Derived.Test.YtcolcnkjcagbaaaGreatDoorSRd
import Derived.Deep.RegionLaw
namespace Go.Proofs.YtcolcnkjcagbaaaGreatDoor
open Go.RowKit
set_option linter.unusedVariables false

set_option maxHeartbeats 1000000 in
theorem l1Int_any (t : ByteArray) (w : World) (ht : t.size ≤ 1048576) :
    Calls Tryz.prog 111 #[.string t] w fun e w' => e = .returned (.tuple #[.int .i64 (rdec t).1, .bool (rdec t).2]) ∧ w' = w := by
  by_cases h1 : (t.size : Int) < 1
  · have hr : Hid (rdec t = (0, false)) := rdec_no (by omega)
    go_enter Tryz.func111, Tryz.ntmps111
    go_wp2
    go_ret2
    exact ⟨retv (by rw [hr.out]; rfl), rfl⟩
  by_cases h2 : (10 : Int) < (t.size : Int)
  · have hr : Hid (rdec t = (0, false)) := rdec_no (by omega)
    go_enter Tryz.func111, Tryz.ntmps111
    go_wp2
    go_ret2
    exact ⟨retv (by rw [hr.out]; rfl), rfl⟩
  have hp : 0 < t.size := by omega
  have hb0 := bt_in hp
  have h1' : (1 : Int) ≤ (t.size : Int) := by omega
  have h2' : (t.size : Int) ≤ 10 := by omega
  by_cases h3 : (1 : Int) < (t.size : Int) ∧ bt t 0 = 48
  · have hr : Hid (rdec t = (0, false)) := rdec_no (by omega)
    have h3a := h3.1
    have h3b : (bt t 0 == 48) = true := by simpa using h3.2
    clear h3 h1 h2
    go_enter Tryz.func111, Tryz.ntmps111
    go_wp2
    go_ret2
    exact ⟨retv (by rw [hr.out]; rfl), rfl⟩
  have hno : Hid (¬ (t.size < 1 ∨ 10 < t.size ∨ (1 < t.size ∧ bt t 0 = 48))) := by
    show ¬ _
    intro h
    omega
  clear h1 h2
  by_cases h5 : bt t 0 = 48
  · have h5b : (bt t 0 == 48) = true := by simpa using h5
    have h4 : (t.size : Int) ≤ 1 := by omega
    have h4d : decide ((1 : Int) < (t.size : Int)) = false := by simp; omega
    clear h3 h5
    go_enter Tryz.func111, Tryz.ntmps111
    go_wp2
    go_loop [4, 5] (fun n c => ∃ j : Nat, j ≤ t.size ∧ c = .int .i64 j ∧ n = .int .i64 (numOf t 0 j) ∧ Hid (digsB t 0 j = true)) (fun _ c => t.size - (intOf c).toNat)
    case atStart => exact ⟨0, Nat.zero_le _, rfl, rfl, rfl⟩
    case round =>
      obtain ⟨j, hj, rfl, rfl, hds⟩ := hrel
      have hnb := numOf_ten (by omega) hds.out
      by_cases hlt : j < t.size
      · have hbj := bt_in hlt
        have hrg := bt_range hlt
        by_cases hlo : bt t j < 48
        · have hr : Hid (rdec t = (0, false)) := rdec_bad (digsB_false hlt (by rw [Nat.zero_add]; exact digB_false (by omega)))
          go_wp2
          go_ret2
          exact ⟨retv (by rw [hr.out]; rfl), rfl⟩
        · have hlo' : 48 ≤ bt t j := by omega
          have hlod : decide (bt t j < 48) = false := by simpa using hlo'
          clear hlo
          by_cases hhi : 57 < bt t j
          · have hr : Hid (rdec t = (0, false)) := rdec_bad (digsB_false hlt (by rw [Nat.zero_add]; exact digB_false (by omega)))
            go_wp2
            go_ret2
            exact ⟨retv (by rw [hr.out]; rfl), rfl⟩
          · have hhi' : bt t j ≤ 57 := by omega
            clear hhi
            have hds' : Hid (digsB t 0 (j + 1) = true) := by
              show _ = _
              rw [digsB_succ, hds.out, Nat.zero_add, digB_true ⟨hlo', hhi'⟩]; rfl
            have hnum : Hid (numOf t 0 (j + 1) = numOf t 0 j * 10 + (bt t j - 48)) := by
              show _ = _
              rw [show numOf t 0 (j + 1) = 10 * numOf t 0 j + (bt t (0 + j) - 48) from rfl, Nat.zero_add]
              omega
            go_wp2
            go_round
            case rel => exact ⟨j + 1, by omega, by go_num, by rw [hnum.out], hds'⟩
            case measure => simp [intOf]; omega
      · have hje : j = t.size := by omega
        subst hje
        have hr : Hid (rdec t = (numOf t 0 t.size, true)) := rdec_yes hno.out hds.out
        go_wp2
        go_ret2
        exact ⟨retv (by rw [hr.out]; rfl), rfl⟩
  · have h5b : (bt t 0 == 48) = false := by simpa using h5
    clear h3 h5
    go_enter Tryz.func111, Tryz.ntmps111
    go_wp2
    go_loop [4, 5] (fun n c => ∃ j : Nat, j ≤ t.size ∧ c = .int .i64 j ∧ n = .int .i64 (numOf t 0 j) ∧ Hid (digsB t 0 j = true)) (fun _ c => t.size - (intOf c).toNat)
    case atStart => exact ⟨0, Nat.zero_le _, rfl, rfl, rfl⟩
    case round =>
      obtain ⟨j, hj, rfl, rfl, hds⟩ := hrel
      have hnb := numOf_ten (by omega) hds.out
      by_cases hlt : j < t.size
      · have hbj := bt_in hlt
        have hrg := bt_range hlt
        by_cases hlo : bt t j < 48
        · have hr : Hid (rdec t = (0, false)) := rdec_bad (digsB_false hlt (by rw [Nat.zero_add]; exact digB_false (by omega)))
          go_wp2
          go_ret2
          exact ⟨retv (by rw [hr.out]; rfl), rfl⟩
        · have hlo' : 48 ≤ bt t j := by omega
          have hlod : decide (bt t j < 48) = false := by simpa using hlo'
          clear hlo
          by_cases hhi : 57 < bt t j
          · have hr : Hid (rdec t = (0, false)) := rdec_bad (digsB_false hlt (by rw [Nat.zero_add]; exact digB_false (by omega)))
            go_wp2
            go_ret2
            exact ⟨retv (by rw [hr.out]; rfl), rfl⟩
          · have hhi' : bt t j ≤ 57 := by omega
            clear hhi
            have hds' : Hid (digsB t 0 (j + 1) = true) := by
              show _ = _
              rw [digsB_succ, hds.out, Nat.zero_add, digB_true ⟨hlo', hhi'⟩]; rfl
            have hnum : Hid (numOf t 0 (j + 1) = numOf t 0 j * 10 + (bt t j - 48)) := by
              show _ = _
              rw [show numOf t 0 (j + 1) = 10 * numOf t 0 j + (bt t (0 + j) - 48) from rfl, Nat.zero_add]
              omega
            go_wp2
            go_round
            case rel => exact ⟨j + 1, by omega, by go_num, by rw [hnum.out], hds'⟩
            case measure => simp [intOf]; omega
      · have hje : j = t.size := by omega
        subst hje
        have hr : Hid (rdec t = (numOf t 0 t.size, true)) := rdec_yes hno.out hds.out
        go_wp2
        go_ret2
        exact ⟨retv (by rw [hr.out]; rfl), rfl⟩

/-- the place that the reader in block R is at -/
theorem atOf_sd {w : World} {R : Nat} {s : ByteArray} {i : Int} {b : Bool} {v : Value} (h : Sd w R s i b v) : atOf R w = i.toNat := by unfold atOf; rw [h.c1]; rfl

set_option maxHeartbeats 1000000 in
theorem snumber_any (R : Nat) (s : ByteArray) (i : Nat) (b : Bool) (v : Value) (w : World) (h : Sd w R s i b v) (hi : i ≤ s.size) (hs : s.size ≤ 1048576) :
    Calls Tryz.prog 93 #[.pointer (some ⟨R, 0, none⟩)] w fun e w' => e = .returned (.int .i64 (rdec (s.extract i (dEnd s i))).1) ∧ Sd w' R s (dEnd s i) (b || !(rdec (s.extract i (dEnd s i))).2) v ∧ Mut R w w' := by
  have c0 := h.c0
  have c1 := h.c1
  have HS : Hid (Sd w R s i b v) := h
  clear h
  go_enter Tryz.func93, Tryz.ntmps93
  go_wp2
  go_loopw [43] (fun _ wr => ∃ j : Nat, i ≤ j ∧ j ≤ s.size ∧ Hid (∀ t, i ≤ t → t < j → digB (bt s t) = true) ∧ Sd wr R s j b v ∧ Mut R w wr) (fun _ wr => s.size - atOf R wr)
  case atStart => exact ⟨i, Nat.le_refl _, hi, fun t h1 h2 => absurd h1 (by omega), HS.out, Mut.refl _ _⟩
  case round =>
    obtain ⟨j, hij, hjs, hds, hS, hM⟩ := hrel
    have c0' := hS.c0
    have c1' := hS.c1
    have c2' := hS.c2
    have f1' := hS.fr 1
    have f2' := hS.fr 2
    have HSj : Hid (Sd wr R s j b v) := hS
    have HM : Hid (Mut R w wr) := hM
    clear hS hM c0 c1
    by_cases hlt : j < s.size
    · have hltI : (j : Int) < (s.size : Int) := by omega
      have hltd : decide ((j : Int) < (s.size : Int)) = true := by simpa using hltI
      have hbj := bt_in hlt
      by_cases hlo : bt s j < 48
      · have hEnd : IsEnd s i j := ⟨hij, hjs, hds.out, fun _ => digB_false (by omega)⟩
        have hlod : decide (48 ≤ bt s j) = false := by simpa using hlo
        go_wp2
        go_quiet (fail)
        have hE : dEnd s i = j := dEnd_of hEnd
        have hNR : Hid (rdec (s.extract i (dEnd s i)) = rdec (s.extract i j)) := by
          show _ = _
          rw [hE]
        have HE : Hid (dEnd s i = j) := hE
        clear hE hEnd
        have hxs : (s.extract i j).size ≤ 1048576 := by simp; omega
        have hjI : (j : Int) ≤ (s.size : Int) := by omega
        have hijI : (i : Int) ≤ (j : Int) := by omega
        go_wp2
        go_quiet ((go_at_call 111; refine (l1Int_any _ _ hxs).mono ?_; rintro e w1 ⟨rfl, rfl⟩; exact ⟨rfl, _, rfl⟩))
        cases hrd : rdec (s.extract i j) with
        | mk n ok =>
        rw [hrd] at hNR
        dsimp only at hNR ⊢
        clear hrd
        cases ok with
        | false =>
          go_wp2
          go_ret
          rw [hNR.out, HE.out]
          exact ⟨rfl, by simpa using (HSj.out.drewN _).set2 true, (HM.out.drewN _).setCell 2 _⟩
        | true =>
          go_wp2
          go_ret
          rw [hNR.out, HE.out]
          exact ⟨rfl, by simpa using HSj.out.drewN _, HM.out.drewN _⟩
      · have hlo' : 48 ≤ bt s j := by omega
        clear hlo
        by_cases hhi : 57 < bt s j
        · have hEnd : IsEnd s i j := ⟨hij, hjs, hds.out, fun _ => digB_false (by omega)⟩
          have hhid : decide (bt s j ≤ 57) = false := by simpa using hhi
          go_wp2
          go_quiet (fail)
          have hE : dEnd s i = j := dEnd_of hEnd
          have hNR : Hid (rdec (s.extract i (dEnd s i)) = rdec (s.extract i j)) := by
            show _ = _
            rw [hE]
          have HE : Hid (dEnd s i = j) := hE
          clear hE hEnd
          have hxs : (s.extract i j).size ≤ 1048576 := by simp; omega
          have hjI : (j : Int) ≤ (s.size : Int) := by omega
          have hijI : (i : Int) ≤ (j : Int) := by omega
          go_wp2
          go_quiet ((go_at_call 111; refine (l1Int_any _ _ hxs).mono ?_; rintro e w1 ⟨rfl, rfl⟩; exact ⟨rfl, _, rfl⟩))
          cases hrd : rdec (s.extract i j) with
          | mk n ok =>
          rw [hrd] at hNR
          dsimp only at hNR ⊢
          clear hrd
          cases ok with
          | false =>
            go_wp2
            go_ret
            rw [hNR.out, HE.out]
            exact ⟨rfl, by simpa using (HSj.out.drewN _).set2 true, (HM.out.drewN _).setCell 2 _⟩
          | true =>
            go_wp2
            go_ret
            rw [hNR.out, HE.out]
            exact ⟨rfl, by simpa using HSj.out.drewN _, HM.out.drewN _⟩
        · have hhi' : bt s j ≤ 57 := by omega
          clear hhi
          have hds' : Hid (∀ t, i ≤ t → t < j + 1 → digB (bt s t) = true) := by
            intro t h1 h2
            rcases Nat.lt_succ_iff_lt_or_eq.1 h2 with h3 | rfl
            · exact hds.out t h1 h3
            · exact digB_true ⟨hlo', hhi'⟩
          go_wp2
          go_quiet (fail)
          go_wp2
          go_roundw
          case rel => exact ⟨j + 1, by omega, by omega, hds', (HSj.out.drewN _).set1 _, ((HM.out.drewN _).setCell 1 _)⟩
          case measure =>
            rw [atOf_sd HSj.out, atOf_sd ((HSj.out.drewN _).set1 _)]
            omega
    · have hltI : (s.size : Int) ≤ (j : Int) := by omega
      have hltd : decide ((j : Int) < (s.size : Int)) = false := by simp; omega
      have hEnd : IsEnd s i j := ⟨hij, hjs, hds.out, fun h => absurd h hlt⟩
      go_wp2
      go_quiet (fail)
      have hE : dEnd s i = j := dEnd_of hEnd
      have hNR : Hid (rdec (s.extract i (dEnd s i)) = rdec (s.extract i j)) := by
        show _ = _
        rw [hE]
      have HE : Hid (dEnd s i = j) := hE
      clear hE hEnd
      have hxs : (s.extract i j).size ≤ 1048576 := by simp; omega
      have hjI : (j : Int) ≤ (s.size : Int) := by omega
      have hijI : (i : Int) ≤ (j : Int) := by omega
      go_wp2
      go_quiet ((go_at_call 111; refine (l1Int_any _ _ hxs).mono ?_; rintro e w1 ⟨rfl, rfl⟩; exact ⟨rfl, _, rfl⟩))
      cases hrd : rdec (s.extract i j) with
      | mk n ok =>
      rw [hrd] at hNR
      dsimp only at hNR ⊢
      clear hrd
      cases ok with
      | false =>
        go_wp2
        go_ret
        rw [hNR.out, HE.out]
        exact ⟨rfl, by simpa using (HSj.out.drewN _).set2 true, (HM.out.drewN _).setCell 2 _⟩
      | true =>
        go_wp2
        go_ret
        rw [hNR.out, HE.out]
        exact ⟨rfl, by simpa using HSj.out.drewN _, HM.out.drewN _⟩

end Go.Proofs.YtcolcnkjcagbaaaGreatDoor
