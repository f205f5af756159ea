/-
  Both SizeFor functions answer the plain function sizeOf; the program's where its table 'sizes' holds 16, 32, 64, 128, 256.
-/
import Derived.Test.YtgjoppllhegkoaaDoorBase
namespace Go.Proofs.YtgjoppllhegkoaaDoor
open Go.RowKit
set_option linter.unusedVariables false

def sizeOf (n : Int) : Int := if n < 0 ∨ 200 < n then -1 else if n < 16 then 16 else if n < 32 then 32 else if n < 64 then 64 else if n < 128 then 128 else 256

theorem l1In_any (n lo hi : Int) (w : World) :
    Calls Tryd.prog 30 #[.int .i64 n, .int .i64 lo, .int .i64 hi] w fun e w' => e = .returned (.bool (decide (lo ≤ n) && decide (n ≤ hi))) ∧ w' = w := by
  by_cases h1 : lo ≤ n
  · by_cases h2 : n ≤ hi
    · go_enter Tryd.func30, Tryd.ntmps30
      go_wp2
      go_ret
      exact ⟨ret_bool (by simp [h1, h2]), rfl⟩
    · go_enter Tryd.func30, Tryd.ntmps30
      go_wp2
      go_ret
      exact ⟨ret_bool (by simp [h2]), rfl⟩
  · go_enter Tryd.func30, Tryd.ntmps30
    go_wp2
    go_ret
    exact ⟨ret_bool (by have : decide (lo ≤ n) = false := (by simp; omega); rw [this]; simp), rfl⟩

theorem specSize_out (n : Int) (h : n < 0 ∨ 200 < n) (w : World) :
    Calls Tryd.prog 15 #[.int .i64 n] w fun e w' => e = .returned (.int .i64 (sizeOf n)) ∧ w' = w := by
  have hs : sizeOf n = -1 := by unfold sizeOf; rw [if_pos h]
  have hb : (decide ((0 : Int) ≤ n) && decide (n ≤ 200)) = false := by
    rcases h with h | h
    · have : decide ((0 : Int) ≤ n) = false := by simp; omega
      rw [this]; rfl
    · have : decide (n ≤ (200 : Int)) = false := by simp; omega
      rw [this]; simp
  rw [hs]
  clear h hs
  go_enter Tryd.func15, Tryd.ntmps15
  go_wp2_with (go_at_call 30; refine (l1In_any _ _ _ _).mono ?_; rintro e w' ⟨rfl, rfl⟩; rw [hb])
  go_ret
  exact ⟨rfl, rfl⟩

theorem specSize_in (n : Int) (h0 : 0 ≤ n) (h1 : n ≤ 200) (w : World) :
    Calls Tryd.prog 15 #[.int .i64 n] w fun e w' => e = .returned (.int .i64 (sizeOf n)) ∧ w' = w := by
  have hb : (decide ((0 : Int) ≤ n) && decide (n ≤ 200)) = true := by simp [h0, h1]
  go_enter Tryd.func15, Tryd.ntmps15
  go_wp2_with (go_at_call 30; refine (l1In_any _ _ _ _).mono ?_; rintro e w' ⟨rfl, rfl⟩; rw [hb])
  go_loop [3] (fun s => ∃ z : Int, s = .int .i64 z ∧ (z = 16 ∨ (z = 32 ∧ 16 ≤ n) ∨ (z = 64 ∧ 32 ≤ n) ∨ (z = 128 ∧ 64 ≤ n) ∨ (z = 256 ∧ 128 ≤ n))) (fun s => (256 - intOf s).toNat)
  case atStart => exact ⟨16, rfl, Or.inl rfl⟩
  case round =>
    obtain ⟨z, rfl, hz⟩ := hrel
    have hz16 : 16 ≤ z := by omega
    have hz256 : z ≤ 256 := by omega
    by_cases hlt : z < n + 1
    · go_wp2
      go_round
      case rel => exact ⟨2 * z, by go_num, by omega⟩
      case measure => simp [intOf]; omega
    · have hs : Hid (sizeOf n = z) := by show _ = _; unfold sizeOf; split <;> (try split) <;> (try split) <;> (try split) <;> (try split) <;> omega
      go_wp2
      go_ret
      exact ⟨ret_int hs.out.symm, rfl⟩

theorem specSize_any (n : Int) (w : World) :
    Calls Tryd.prog 15 #[.int .i64 n] w fun e w' => e = .returned (.int .i64 (sizeOf n)) ∧ w' = w := by
  by_cases h : n < 0 ∨ 200 < n
  · exact specSize_out n h w
  · exact specSize_in n (by omega) (by omega) w

def sz (k : Nat) : Int := [16, 32, 64, 128, 256].getD k 0
/-- the program's table 'sizes' (block 0) holds its five numbers -/
def Sizes (w : World) : Prop := ∀ k, k < 5 → w.cell? ⟨0, k, none⟩ = some (.int .i64 (sz k))

theorem implSize_any (n : Int) (w : World) (hS : Sizes w) :
    Calls Tryd.prog 11 #[.int .i64 n] w fun e w' => e = .returned (.int .i64 (sizeOf n)) ∧ w' = w := by
  by_cases h0 : n < 0
  · have hs : Hid (sizeOf n = -1) := by show _ = _; unfold sizeOf; rw [if_pos (Or.inl h0)]
    go_enter Tryd.func11, Tryd.ntmps11
    go_wp2
    go_ret
    exact ⟨ret_int hs.out.symm, rfl⟩
  by_cases h1 : 200 < n
  · have hs : Hid (sizeOf n = -1) := by show _ = _; unfold sizeOf; rw [if_pos (Or.inr h1)]
    go_enter Tryd.func11, Tryd.ntmps11
    go_wp2
    go_ret
    exact ⟨ret_int hs.out.symm, rfl⟩
  have c0 : w.cell? ⟨0, 0, none⟩ = some (.int .i64 16) := hS 0 (by omega)
  have c1 : w.cell? ⟨0, 1, none⟩ = some (.int .i64 32) := hS 1 (by omega)
  have c2 : w.cell? ⟨0, 2, none⟩ = some (.int .i64 64) := hS 2 (by omega)
  have c3 : w.cell? ⟨0, 3, none⟩ = some (.int .i64 128) := hS 3 (by omega)
  have c4 : w.cell? ⟨0, 4, none⟩ = some (.int .i64 256) := hS 4 (by omega)
  have i0 : ∀ w, (Instr.index 36 (.agg #[.int .i64 16, .int .i64 32, .int .i64 64, .int .i64 128, .int .i64 256]) (.int .i64 0)).run Tryd.prog w = .ok (.int .i64 16) w := fun _ => by kernel_rfl
  have i1 : ∀ w, (Instr.index 36 (.agg #[.int .i64 16, .int .i64 32, .int .i64 64, .int .i64 128, .int .i64 256]) (.int .i64 1)).run Tryd.prog w = .ok (.int .i64 32) w := fun _ => by kernel_rfl
  have i2 : ∀ w, (Instr.index 36 (.agg #[.int .i64 16, .int .i64 32, .int .i64 64, .int .i64 128, .int .i64 256]) (.int .i64 2)).run Tryd.prog w = .ok (.int .i64 64) w := fun _ => by kernel_rfl
  have i3 : ∀ w, (Instr.index 36 (.agg #[.int .i64 16, .int .i64 32, .int .i64 64, .int .i64 128, .int .i64 256]) (.int .i64 3)).run Tryd.prog w = .ok (.int .i64 128) w := fun _ => by kernel_rfl
  have i4 : ∀ w, (Instr.index 36 (.agg #[.int .i64 16, .int .i64 32, .int .i64 64, .int .i64 128, .int .i64 256]) (.int .i64 4)).run Tryd.prog w = .ok (.int .i64 256) w := fun _ => by kernel_rfl
  go_enter Tryd.func11, Tryd.ntmps11
  go_wp2
  go_loop [12] (fun i => ∃ k : Nat, k ≤ 5 ∧ i = .int .i64 k ∧ (∀ j, j < k → sz j ≤ n)) (fun i => 5 - (intOf i).toNat)
  case atStart => exact ⟨0, by omega, rfl, fun j hj => by omega⟩
  case round =>
    obtain ⟨k, hk, rfl, hj⟩ := hrel
    have h0' : 0 ≤ n := by omega
    have h1' : n ≤ 200 := by omega
    clear hS h0 h1
    have hk' : k = 0 ∨ k = 1 ∨ k = 2 ∨ k = 3 ∨ k = 4 ∨ k = 5 := by omega
    rcases hk' with rfl | rfl | rfl | rfl | rfl | rfl
    · have hlow : ∀ j, j < 0 → sz j ≤ n := hj
      clear hj
      by_cases hlt : n < 16
      · have hs : Hid (sizeOf n = 16) := by show _ = _; unfold sizeOf; repeat (first | rw [if_neg (by omega)] | rw [if_pos (by omega)])
        clear hlow
        go_wp2
        go_ret
        exact ⟨ret_int hs.out.symm, rfl⟩
      · have hs : Hid (∀ j, j < 1 → sz j ≤ n) := by
          intro j hj
          rcases Nat.lt_or_ge j 0 with h | h
          · exact hlow j h
          · have : j = 0 := by omega
            subst this
            show (16 : Int) ≤ n
            omega
        clear hlow
        go_wp2
        go_round
        case rel => exact ⟨1, by omega, by go_num, hs⟩
        case measure => simp [intOf]
    · have hlow : ∀ j, j < 1 → sz j ≤ n := hj
      have hb : 16 ≤ n := hj 0 (by omega)
      clear hj
      by_cases hlt : n < 32
      · have hs : Hid (sizeOf n = 32) := by show _ = _; unfold sizeOf; repeat (first | rw [if_neg (by omega)] | rw [if_pos (by omega)])
        clear hlow
        go_wp2
        go_ret
        exact ⟨ret_int hs.out.symm, rfl⟩
      · have hs : Hid (∀ j, j < 2 → sz j ≤ n) := by
          intro j hj
          rcases Nat.lt_or_ge j 1 with h | h
          · exact hlow j h
          · have : j = 1 := by omega
            subst this
            show (32 : Int) ≤ n
            omega
        clear hlow
        go_wp2
        go_round
        case rel => exact ⟨2, by omega, by go_num, hs⟩
        case measure => simp [intOf]
    · have hlow : ∀ j, j < 2 → sz j ≤ n := hj
      have hb : 32 ≤ n := hj 1 (by omega)
      clear hj
      by_cases hlt : n < 64
      · have hs : Hid (sizeOf n = 64) := by show _ = _; unfold sizeOf; repeat (first | rw [if_neg (by omega)] | rw [if_pos (by omega)])
        clear hlow
        go_wp2
        go_ret
        exact ⟨ret_int hs.out.symm, rfl⟩
      · have hs : Hid (∀ j, j < 3 → sz j ≤ n) := by
          intro j hj
          rcases Nat.lt_or_ge j 2 with h | h
          · exact hlow j h
          · have : j = 2 := by omega
            subst this
            show (64 : Int) ≤ n
            omega
        clear hlow
        go_wp2
        go_round
        case rel => exact ⟨3, by omega, by go_num, hs⟩
        case measure => simp [intOf]
    · have hlow : ∀ j, j < 3 → sz j ≤ n := hj
      have hb : 64 ≤ n := hj 2 (by omega)
      clear hj
      by_cases hlt : n < 128
      · have hs : Hid (sizeOf n = 128) := by show _ = _; unfold sizeOf; repeat (first | rw [if_neg (by omega)] | rw [if_pos (by omega)])
        clear hlow
        go_wp2
        go_ret
        exact ⟨ret_int hs.out.symm, rfl⟩
      · have hs : Hid (∀ j, j < 4 → sz j ≤ n) := by
          intro j hj
          rcases Nat.lt_or_ge j 3 with h | h
          · exact hlow j h
          · have : j = 3 := by omega
            subst this
            show (128 : Int) ≤ n
            omega
        clear hlow
        go_wp2
        go_round
        case rel => exact ⟨4, by omega, by go_num, hs⟩
        case measure => simp [intOf]
    · have hlow : ∀ j, j < 4 → sz j ≤ n := hj
      have hb : 128 ≤ n := hj 3 (by omega)
      clear hj
      by_cases hlt : n < 256
      · have hs : Hid (sizeOf n = 256) := by show _ = _; unfold sizeOf; repeat (first | rw [if_neg (by omega)] | rw [if_pos (by omega)])
        clear hlow
        go_wp2
        go_ret
        exact ⟨ret_int hs.out.symm, rfl⟩
      · have hs : Hid (∀ j, j < 5 → sz j ≤ n) := by
          intro j hj
          rcases Nat.lt_or_ge j 4 with h | h
          · exact hlow j h
          · have : j = 4 := by omega
            subst this
            show (256 : Int) ≤ n
            omega
        clear hlow
        go_wp2
        go_round
        case rel => exact ⟨5, by omega, by go_num, hs⟩
        case measure => simp [intOf]
    · have : (256 : Int) ≤ n := hj 4 (by omega)
      omega
end Go.Proofs.YtgjoppllhegkoaaDoor
