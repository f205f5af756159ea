/-
  Lists of ids, numbers in their bounds. No condition but lengths.
-/
import Derived.Test.YtlibipbpaigmdaaGreatDoorIds
namespace Go.Proofs.YtlibipbpaigmdaaGreatDoor
open Go.RowKit
set_option linter.unusedVariables false

theorem specId_b (s : ByteArray) (hs : s.size ≤ 9223372036854775807) (b : Bool) (hb : idB s = b) (w : World) :
    Calls Tryz.prog 196 #[.string s] w fun e w' => e = .returned (.bool b) ∧ w' = w := by
  rw [← hb]; exact specId_any s hs w

theorem trim_any (s : ByteArray) (hs : s.size ≤ 9223372036854775807) (w : World) :
    Calls Tryz.prog 175 #[.string s, .string ⟨#[48, 49, 50, 51, 52, 53, 54, 55, 56, 57, 97, 98, 99, 100, 101, 102]⟩] w fun e w' => e = .returned (.string ⟨(Lib.trimS s.data.toList hexC.data.toList).toArray⟩) ∧ Below w.heap.size w w' :=
  Any.strings_Trim_laid Tryz.lays160 (by kernel_rfl) s hexC w hs (by decide) (ascii_of_all (by decide))

theorem trim_yes (s : ByteArray) (hs : s.size ≤ 9223372036854775807) (h : allB (fun i => hexB (bt s i)) s.size = true) (w : World) :
    Calls Tryz.prog 175 #[.string s, .string ⟨#[48, 49, 50, 51, 52, 53, 54, 55, 56, 57, 97, 98, 99, 100, 101, 102]⟩] w fun e w' => e = .returned (.string ⟨#[]⟩) ∧ Below w.heap.size w w' := by
  have := trim_any s hs w
  rw [(trim_nil s).2 h] at this
  exact this

theorem trim_no (s : ByteArray) (hs : s.size ≤ 9223372036854775807) (h : allB (fun i => hexB (bt s i)) s.size = false) (w : World) :
    Calls Tryz.prog 175 #[.string s, .string ⟨#[48, 49, 50, 51, 52, 53, 54, 55, 56, 57, 97, 98, 99, 100, 101, 102]⟩] w fun e w' => ∃ t : ByteArray, e = .returned (.string t) ∧ t.toList.isEmpty = false ∧ Below w.heap.size w w' := by
  refine (trim_any s hs w).mono ?_
  rintro e w' ⟨rfl, hB⟩
  refine ⟨_, rfl, ?_, hB⟩
  rw [ByteArray.toList_eq]
  cases hq : Lib.trimS s.data.toList hexC.data.toList with
  | nil =>
    have := (trim_nil s).1 hq
    rw [h] at this
    cases this
  | cons a l => rfl

theorem empty_list : (⟨#[]⟩ : ByteArray).toList = [] := by rw [ByteArray.toList_eq]

set_option maxHeartbeats 1000000 in
theorem specIds_any (a : Option Addr) (len cap : Nat) (S : Nat → ByteArray) (w : World) (h : IsStrs w a len cap S) (hS : ∀ i, i < len → (S i).size ≤ 9223372036854775807) :
    Calls Tryz.prog 165 #[.slice a len cap, .int .i64 5] w fun e w' => e = .returned (.bool (idsB S len)) ∧ Below w.heap.size w w' := by
  obtain ⟨hlc, hcm, hc⟩ := h
  go_enter Tryz.func165, Tryz.ntmps165
  go_wp2
  go_loopw [5] (fun i wr => ∃ (k n : Nat), k ≤ len ∧ i = .int .i64 k ∧ wr = w.drewN n ∧ Hid (riseB S k = true ∧ allB (fun k => idB (S k)) k = true)) (fun i _ => len - (intOf i).toNat)
  case atStart => exact ⟨0, 0, Nat.zero_le _, rfl, rfl, ⟨rfl, rfl⟩⟩
  case round =>
    obtain ⟨k, n, hk, rfl, rfl, HR⟩ := hrel
    by_cases hlt : k < len
    · obtain ⟨b, off, rfl, hbs, hcell⟩ := hc (by omega)
      have d1 := hcell k hlt
      have hsz := hS k hlt
      have hltI : (k : Int) < (len : Int) := by omega
      cases hid : idB (S k) with
      | false =>
        have hr : Hid (idsB S len = false) := by
          show _ = _
          unfold idsB
          rw [allB_false hlt hid, Bool.and_false]
        clear hcell hc hS
        go_wp2
        go_quiet ((go_at_call 196; refine (specId_b (S k) hsz false hid _).mono ?_; rintro e w1 ⟨rfl, rfl⟩; exact ⟨rfl, _, rfl⟩))
        go_wp2
        go_ret
        exact ⟨ret_bool hr.out.symm, below_drewN (below_drewN (Below.refl _ _) _) _⟩
      | true =>
        rcases Nat.eq_zero_or_pos k with hk0 | hpos
        · have HR' : Hid (riseB S (k + 1) = true ∧ allB (fun k => idB (S k)) (k + 1) = true) := by
            refine ⟨?_, ?_⟩
            · rw [hk0]; rfl
            · rw [allB_succ, HR.out.2, hid]; rfl
          have g0 : decide ((0 : Int) < (k : Int)) = false := by simp; omega
          have g1 : decide (0 < k) = false := by simp; omega
          clear hcell hc hS hk0
          go_wp2
          go_quiet ((go_at_call 196; refine (specId_b (S k) hsz true hid _).mono ?_; rintro e w1 ⟨rfl, rfl⟩; exact ⟨rfl, _, rfl⟩))
          go_wp2
          go_roundw
          case rel => exact ⟨k + 1, n + nq, by omega, by go_num, rfl, HR'⟩
          case measure => simp [intOf]; omega
        · obtain ⟨p, rfl⟩ : ∃ p, k = p + 1 := ⟨k - 1, by omega⟩
          have d2 := hcell p (by omega)
          have g1 : (0 : Int) < ((p + 1 : Nat) : Int) := by omega
          have hup : upB S (p + 1) = Op.bytesLess (S p).toList (S (p + 1)).toList := rfl
          clear hcell hc hS
          cases hu : upB S (p + 1) with
          | true =>
            rw [hu] at hup
            have hup' := hup.symm
            have HR' : Hid (riseB S (p + 1 + 1) = true ∧ allB (fun k => idB (S k)) (p + 1 + 1) = true) := by
              refine ⟨?_, ?_⟩
              · rw [riseB_succ, HR.out.1, hu]; simp
              · rw [allB_succ, HR.out.2, hid]; rfl
            clear hup hu
            go_wp2
            go_quiet ((go_at_call 196; refine (specId_b (S (p + 1)) hsz true hid _).mono ?_; rintro e w1 ⟨rfl, rfl⟩; exact ⟨rfl, _, rfl⟩))
            go_wp2
            go_roundw
            case rel => exact ⟨p + 1 + 1, n + nq, by omega, by go_num, rfl, HR'⟩
            case measure => simp [intOf]; omega
          | false =>
            rw [hu] at hup
            have hup' := hup.symm
            have hr : Hid (idsB S len = false) := by
              show _ = _
              unfold idsB
              rw [riseB_false hlt (by omega) hu, Bool.and_false, Bool.false_and]
            clear hup hu
            go_wp2
            go_quiet ((go_at_call 196; refine (specId_b (S (p + 1)) hsz true hid _).mono ?_; rintro e w1 ⟨rfl, rfl⟩; exact ⟨rfl, _, rfl⟩))
            go_wp2
            go_ret
            exact ⟨ret_bool hr.out.symm, below_drewN (below_drewN (Below.refl _ _) _) _⟩
    · have hke : k = len := by omega
      subst hke
      have hr : Hid (idsB S k = decide ((k : Int) ≤ 5)) := by
        show _ = _
        unfold idsB
        rw [HR.out.1, HR.out.2, Bool.and_true, Bool.and_true]
        exact decide_eq_decide.2 (by omega)
      go_wp2
      go_ret
      exact ⟨ret_bool hr.out.symm, below_drewN (Below.refl _ _) _⟩

set_option maxHeartbeats 1000000 in
theorem implIds_any (a : Option Addr) (len cap : Nat) (S : Nat → ByteArray) (w : World) (h : IsStrs w a len cap S) (hS : ∀ i, i < len → (S i).size ≤ 9223372036854775807) :
    Calls Tryz.prog 130 #[.slice a len cap] w fun e w' => e = .returned (.bool (idsB S len)) ∧ Below w.heap.size w w' := by
  have hI := h
  obtain ⟨hlc, hcm, hc⟩ := h
  by_cases h5 : (5 : Int) < (len : Int)
  · have hr : Hid (idsB S len = false) := by
      show _ = _
      unfold idsB
      rw [show decide (len ≤ 5) = false by simp; omega]; rfl
    go_enter Tryz.func130, Tryz.ntmps130
    go_wp2
    go_ret
    exact ⟨ret_bool hr.out.symm, Below.refl _ _⟩
  have HD : Hid (decide (len ≤ 5) = true) := by show _ = _; simp; omega
  have h5d : decide ((5 : Int) < (len : Int)) = false := by simpa using h5
  have hl5 : len ≤ 1048576 := by omega
  cases hrise : riseB S len with
  | false =>
    have hr : Hid (idsB S len = false) := by
      show _ = _
      unfold idsB
      rw [hrise, Bool.and_false, Bool.false_and]
    go_enter Tryz.func130, Tryz.ntmps130
    go_wp2_with (go_at_call 174; refine (rises_any a len cap S _ hI hl5).mono ?_; rintro e w1 ⟨rfl, hB1⟩; rw [hrise])
    go_ret
    exact ⟨ret_bool hr.out.symm, hB1⟩
  | true =>
  have HRI := (show Hid _ from hrise)
  go_enter Tryz.func130, Tryz.ntmps130
  go_wp2_with (go_at_call 174; refine (rises_any a len cap S _ hI hl5).mono ?_; rintro e w1 ⟨rfl, hB1⟩; rw [hrise])
  clear hrise
  go_loopw [15] (fun i wr => ∃ (k : Nat), k ≤ len ∧ i = .int .i64 k ∧ Hid (allB (fun k => idB (S k)) k = true) ∧ Below w.heap.size w wr) (fun i _ => len - (intOf i).toNat)
  case atStart => exact ⟨0, Nat.zero_le _, rfl, rfl, hB1⟩
  case round =>
    obtain ⟨k, hk, rfl, HR, hB⟩ := hrel
    by_cases hlt : k < len
    · obtain ⟨b, off, rfl, hbs, hcell⟩ := hc (by omega)
      have d1 := (hB.cell (p := ⟨b, off + k, none⟩) hbs).trans (hcell k hlt)
      have hsz := hS k hlt
      have hltI : (k : Int) < (len : Int) := by omega
      have HF : Hid (idB (S k) = false → idsB S len = false) := by
        intro h
        unfold idsB
        rw [allB_false hlt h, Bool.and_false]
      clear hcell hc hS hI
      by_cases h64 : (S k).size = 64
      · have hn : (((S k).size : Int) != 64) = false := by rw [h64]; rfl
        cases hall : allB (fun i => hexB (bt (S k) i)) (S k).size with
        | true =>
          have hid : idB (S k) = true := by unfold idB; rw [hall]; simp [h64]
          have HR' : Hid (allB (fun k => idB (S k)) (k + 1) = true) := by show _ = _; rw [allB_succ, HR.out, hid]; rfl
          have he := empty_list
          go_wp2_with (go_at_call 175; refine (trim_yes (S k) hsz hall _).mono ?_; rintro e w2 ⟨rfl, hB2⟩)
          go_roundw
          case rel => exact ⟨k + 1, by omega, by go_num, HR', hB.trans (hB2.mono hB.size)⟩
          case measure => simp [intOf]; omega
        | false =>
          have hid : idB (S k) = false := by unfold idB; rw [hall, Bool.and_false]
          have hr : Hid (idsB S len = false) := HF.out hid
          have he := empty_list
          go_wp2_with (go_at_call 175; refine (trim_no (S k) hsz hall _).mono ?_; rintro e w2 ⟨t, rfl, hne, hB2⟩)
          go_ret
          exact ⟨ret_bool hr.out.symm, hB.trans (hB2.mono hB.size)⟩
      · have hn : (((S k).size : Int) != 64) = true := by simp; omega
        have hr : Hid (idsB S len = false) := HF.out (by unfold idB; simp [h64])
        go_wp2
        go_ret
        exact ⟨ret_bool hr.out.symm, hB⟩
    · have hke : k = len := by omega
      subst hke
      have hr : Hid (idsB S k = true) := by
        show _ = _
        unfold idsB
        rw [HD.out, HRI.out, HR.out]; rfl
      go_wp2
      go_ret
      exact ⟨ret_bool hr.out.symm, hB⟩
end Go.Proofs.YtlibipbpaigmdaaGreatDoor
