/-
  Words that are turned: the specification's l5Turn and the program's RotateLeft32 and mixedThrice, as plain functions of numbers. No condition.
-/
import Derived.Test.YtlibipbpaigmdaaGreatDoorBase
namespace Go.Proofs.YtlibipbpaigmdaaGreatDoor
open Go.RowKit
set_option linter.unusedVariables false

/-- x turned to the right: p is 2^n, q is 2^(32-n) -/
def rotr (p q x : Int) : Int := bits BinOp.or IntKind.u32 (x / p) (x * q % 4294967296)

theorem or_comm (a b : Int) : bits BinOp.or IntKind.u32 a b = bits BinOp.or IntKind.u32 b a := by
  show IntKind.u32.wrap ((BitVec.ofInt 32 a ||| BitVec.ofInt 32 b).toNat : Int) = IntKind.u32.wrap ((BitVec.ofInt 32 b ||| BitVec.ofInt 32 a).toNat : Int)
  rw [BitVec.or_comm]

theorem turn_2 (x : Int) (w : World) : Calls Tryz.prog 228 #[.int .u32 x, .int .u64 2] w fun e w' => e = .returned (.int .u32 (rotr 4 1073741824 x)) ∧ w' = w := by
  go_enter Tryz.func228, Tryz.ntmps228
  go_wp2
  go_ret
  exact ⟨rfl, rfl⟩
theorem rot_2 (x : Int) (w : World) : Calls Tryz.prog 260 #[.int .u32 x, .int .i64 (-2)] w fun e w' => e = .returned (.int .u32 (rotr 4 1073741824 x)) ∧ w' = w := by
  have hb : bits BinOp.and IntKind.u64 (IntKind.u64.wrap (-2)) 31 = 30 := by kernel_rfl
  go_enter Tryz.func260, Tryz.ntmps260
  go_wp2
  go_ret
  exact ⟨ret_int (by unfold rotr; rw [or_comm]), rfl⟩
theorem turn_6 (x : Int) (w : World) : Calls Tryz.prog 228 #[.int .u32 x, .int .u64 6] w fun e w' => e = .returned (.int .u32 (rotr 64 67108864 x)) ∧ w' = w := by
  go_enter Tryz.func228, Tryz.ntmps228
  go_wp2
  go_ret
  exact ⟨rfl, rfl⟩
theorem rot_6 (x : Int) (w : World) : Calls Tryz.prog 260 #[.int .u32 x, .int .i64 (-6)] w fun e w' => e = .returned (.int .u32 (rotr 64 67108864 x)) ∧ w' = w := by
  have hb : bits BinOp.and IntKind.u64 (IntKind.u64.wrap (-6)) 31 = 26 := by kernel_rfl
  go_enter Tryz.func260, Tryz.ntmps260
  go_wp2
  go_ret
  exact ⟨ret_int (by unfold rotr; rw [or_comm]), rfl⟩
theorem turn_7 (x : Int) (w : World) : Calls Tryz.prog 228 #[.int .u32 x, .int .u64 7] w fun e w' => e = .returned (.int .u32 (rotr 128 33554432 x)) ∧ w' = w := by
  go_enter Tryz.func228, Tryz.ntmps228
  go_wp2
  go_ret
  exact ⟨rfl, rfl⟩
theorem rot_7 (x : Int) (w : World) : Calls Tryz.prog 260 #[.int .u32 x, .int .i64 (-7)] w fun e w' => e = .returned (.int .u32 (rotr 128 33554432 x)) ∧ w' = w := by
  have hb : bits BinOp.and IntKind.u64 (IntKind.u64.wrap (-7)) 31 = 25 := by kernel_rfl
  go_enter Tryz.func260, Tryz.ntmps260
  go_wp2
  go_ret
  exact ⟨ret_int (by unfold rotr; rw [or_comm]), rfl⟩
theorem turn_11 (x : Int) (w : World) : Calls Tryz.prog 228 #[.int .u32 x, .int .u64 11] w fun e w' => e = .returned (.int .u32 (rotr 2048 2097152 x)) ∧ w' = w := by
  go_enter Tryz.func228, Tryz.ntmps228
  go_wp2
  go_ret
  exact ⟨rfl, rfl⟩
theorem rot_11 (x : Int) (w : World) : Calls Tryz.prog 260 #[.int .u32 x, .int .i64 (-11)] w fun e w' => e = .returned (.int .u32 (rotr 2048 2097152 x)) ∧ w' = w := by
  have hb : bits BinOp.and IntKind.u64 (IntKind.u64.wrap (-11)) 31 = 21 := by kernel_rfl
  go_enter Tryz.func260, Tryz.ntmps260
  go_wp2
  go_ret
  exact ⟨ret_int (by unfold rotr; rw [or_comm]), rfl⟩
theorem turn_13 (x : Int) (w : World) : Calls Tryz.prog 228 #[.int .u32 x, .int .u64 13] w fun e w' => e = .returned (.int .u32 (rotr 8192 524288 x)) ∧ w' = w := by
  go_enter Tryz.func228, Tryz.ntmps228
  go_wp2
  go_ret
  exact ⟨rfl, rfl⟩
theorem rot_13 (x : Int) (w : World) : Calls Tryz.prog 260 #[.int .u32 x, .int .i64 (-13)] w fun e w' => e = .returned (.int .u32 (rotr 8192 524288 x)) ∧ w' = w := by
  have hb : bits BinOp.and IntKind.u64 (IntKind.u64.wrap (-13)) 31 = 19 := by kernel_rfl
  go_enter Tryz.func260, Tryz.ntmps260
  go_wp2
  go_ret
  exact ⟨ret_int (by unfold rotr; rw [or_comm]), rfl⟩
theorem turn_17 (x : Int) (w : World) : Calls Tryz.prog 228 #[.int .u32 x, .int .u64 17] w fun e w' => e = .returned (.int .u32 (rotr 131072 32768 x)) ∧ w' = w := by
  go_enter Tryz.func228, Tryz.ntmps228
  go_wp2
  go_ret
  exact ⟨rfl, rfl⟩
theorem rot_17 (x : Int) (w : World) : Calls Tryz.prog 260 #[.int .u32 x, .int .i64 (-17)] w fun e w' => e = .returned (.int .u32 (rotr 131072 32768 x)) ∧ w' = w := by
  have hb : bits BinOp.and IntKind.u64 (IntKind.u64.wrap (-17)) 31 = 15 := by kernel_rfl
  go_enter Tryz.func260, Tryz.ntmps260
  go_wp2
  go_ret
  exact ⟨ret_int (by unfold rotr; rw [or_comm]), rfl⟩
theorem turn_18 (x : Int) (w : World) : Calls Tryz.prog 228 #[.int .u32 x, .int .u64 18] w fun e w' => e = .returned (.int .u32 (rotr 262144 16384 x)) ∧ w' = w := by
  go_enter Tryz.func228, Tryz.ntmps228
  go_wp2
  go_ret
  exact ⟨rfl, rfl⟩
theorem rot_18 (x : Int) (w : World) : Calls Tryz.prog 260 #[.int .u32 x, .int .i64 (-18)] w fun e w' => e = .returned (.int .u32 (rotr 262144 16384 x)) ∧ w' = w := by
  have hb : bits BinOp.and IntKind.u64 (IntKind.u64.wrap (-18)) 31 = 14 := by kernel_rfl
  go_enter Tryz.func260, Tryz.ntmps260
  go_wp2
  go_ret
  exact ⟨ret_int (by unfold rotr; rw [or_comm]), rfl⟩
theorem turn_19 (x : Int) (w : World) : Calls Tryz.prog 228 #[.int .u32 x, .int .u64 19] w fun e w' => e = .returned (.int .u32 (rotr 524288 8192 x)) ∧ w' = w := by
  go_enter Tryz.func228, Tryz.ntmps228
  go_wp2
  go_ret
  exact ⟨rfl, rfl⟩
theorem rot_19 (x : Int) (w : World) : Calls Tryz.prog 260 #[.int .u32 x, .int .i64 (-19)] w fun e w' => e = .returned (.int .u32 (rotr 524288 8192 x)) ∧ w' = w := by
  have hb : bits BinOp.and IntKind.u64 (IntKind.u64.wrap (-19)) 31 = 13 := by kernel_rfl
  go_enter Tryz.func260, Tryz.ntmps260
  go_wp2
  go_ret
  exact ⟨ret_int (by unfold rotr; rw [or_comm]), rfl⟩
theorem turn_22 (x : Int) (w : World) : Calls Tryz.prog 228 #[.int .u32 x, .int .u64 22] w fun e w' => e = .returned (.int .u32 (rotr 4194304 1024 x)) ∧ w' = w := by
  go_enter Tryz.func228, Tryz.ntmps228
  go_wp2
  go_ret
  exact ⟨rfl, rfl⟩
theorem rot_22 (x : Int) (w : World) : Calls Tryz.prog 260 #[.int .u32 x, .int .i64 (-22)] w fun e w' => e = .returned (.int .u32 (rotr 4194304 1024 x)) ∧ w' = w := by
  have hb : bits BinOp.and IntKind.u64 (IntKind.u64.wrap (-22)) 31 = 10 := by kernel_rfl
  go_enter Tryz.func260, Tryz.ntmps260
  go_wp2
  go_ret
  exact ⟨ret_int (by unfold rotr; rw [or_comm]), rfl⟩
theorem turn_25 (x : Int) (w : World) : Calls Tryz.prog 228 #[.int .u32 x, .int .u64 25] w fun e w' => e = .returned (.int .u32 (rotr 33554432 128 x)) ∧ w' = w := by
  go_enter Tryz.func228, Tryz.ntmps228
  go_wp2
  go_ret
  exact ⟨rfl, rfl⟩
theorem rot_25 (x : Int) (w : World) : Calls Tryz.prog 260 #[.int .u32 x, .int .i64 (-25)] w fun e w' => e = .returned (.int .u32 (rotr 33554432 128 x)) ∧ w' = w := by
  have hb : bits BinOp.and IntKind.u64 (IntKind.u64.wrap (-25)) 31 = 7 := by kernel_rfl
  go_enter Tryz.func260, Tryz.ntmps260
  go_wp2
  go_ret
  exact ⟨ret_int (by unfold rotr; rw [or_comm]), rfl⟩

/-- x turned by n places to the right, for the ten places that the digest uses -/
def tn (n x : Int) : Int := if n = 2 then rotr 4 1073741824 x else if n = 6 then rotr 64 67108864 x else if n = 7 then rotr 128 33554432 x else if n = 11 then rotr 2048 2097152 x else if n = 13 then rotr 8192 524288 x else if n = 17 then rotr 131072 32768 x else if n = 18 then rotr 262144 16384 x else if n = 19 then rotr 524288 8192 x else if n = 22 then rotr 4194304 1024 x else if n = 25 then rotr 33554432 128 x else 0
theorem tn_2 (x : Int) : tn 2 x = rotr 4 1073741824 x := rfl
theorem tn_6 (x : Int) : tn 6 x = rotr 64 67108864 x := rfl
theorem tn_7 (x : Int) : tn 7 x = rotr 128 33554432 x := rfl
theorem tn_11 (x : Int) : tn 11 x = rotr 2048 2097152 x := rfl
theorem tn_13 (x : Int) : tn 13 x = rotr 8192 524288 x := rfl
theorem tn_17 (x : Int) : tn 17 x = rotr 131072 32768 x := rfl
theorem tn_18 (x : Int) : tn 18 x = rotr 262144 16384 x := rfl
theorem tn_19 (x : Int) : tn 19 x = rotr 524288 8192 x := rfl
theorem tn_22 (x : Int) : tn 22 x = rotr 4194304 1024 x := rfl
theorem tn_25 (x : Int) : tn 25 x = rotr 33554432 128 x := rfl

def Place (n : Int) : Prop := n = 2 ∨ n = 6 ∨ n = 7 ∨ n = 11 ∨ n = 13 ∨ n = 17 ∨ n = 18 ∨ n = 19 ∨ n = 22 ∨ n = 25

theorem turn_all (n x : Int) (h : Place n) (w : World) : Calls Tryz.prog 228 #[.int .u32 x, .int .u64 n] w fun e w' => e = .returned (.int .u32 (tn n x)) ∧ w' = w := by
  rcases h with rfl | rfl | rfl | rfl | rfl | rfl | rfl | rfl | rfl | rfl
  · rw [tn_2]; exact turn_2 x w
  · rw [tn_6]; exact turn_6 x w
  · rw [tn_7]; exact turn_7 x w
  · rw [tn_11]; exact turn_11 x w
  · rw [tn_13]; exact turn_13 x w
  · rw [tn_17]; exact turn_17 x w
  · rw [tn_18]; exact turn_18 x w
  · rw [tn_19]; exact turn_19 x w
  · rw [tn_22]; exact turn_22 x w
  · rw [tn_25]; exact turn_25 x w

theorem rot_all (k x : Int) (h : Place (-k)) (w : World) : Calls Tryz.prog 260 #[.int .u32 x, .int .i64 k] w fun e w' => e = .returned (.int .u32 (tn (-k) x)) ∧ w' = w := by
  obtain ⟨n, rfl⟩ : ∃ n, k = -n := ⟨-k, by omega⟩
  rw [Int.neg_neg] at h ⊢
  rcases h with rfl | rfl | rfl | rfl | rfl | rfl | rfl | rfl | rfl | rfl
  · rw [tn_2]; exact rot_2 x w
  · rw [tn_6]; exact rot_6 x w
  · rw [tn_7]; exact rot_7 x w
  · rw [tn_11]; exact rot_11 x w
  · rw [tn_13]; exact rot_13 x w
  · rw [tn_17]; exact rot_17 x w
  · rw [tn_18]; exact rot_18 x w
  · rw [tn_19]; exact rot_19 x w
  · rw [tn_22]; exact rot_22 x w
  · rw [tn_25]; exact rot_25 x w

theorem mixed_all (a b c x : Int) (ha : Place a) (hb : Place b) (hc : Place c) (w : World) : Calls Tryz.prog 240 #[.int .u32 x, .int .i64 a, .int .i64 b, .int .i64 c] w fun e w' => e = .returned (.int .u32 (bits BinOp.xor IntKind.u32 (bits BinOp.xor IntKind.u32 (tn a x) (tn b x)) (tn c x))) ∧ w' = w := by
  have hra : ∀ w, Calls Tryz.prog 260 #[.int .u32 x, .int .i64 (-a)] w fun e w' => e = .returned (.int .u32 (tn a x)) ∧ w' = w := fun w => by have := rot_all (-a) x (by rw [Int.neg_neg]; exact ha) w; rw [Int.neg_neg] at this; exact this
  have hrb : ∀ w, Calls Tryz.prog 260 #[.int .u32 x, .int .i64 (-b)] w fun e w' => e = .returned (.int .u32 (tn b x)) ∧ w' = w := fun w => by have := rot_all (-b) x (by rw [Int.neg_neg]; exact hb) w; rw [Int.neg_neg] at this; exact this
  have hrc : ∀ w, Calls Tryz.prog 260 #[.int .u32 x, .int .i64 (-c)] w fun e w' => e = .returned (.int .u32 (tn c x)) ∧ w' = w := fun w => by have := rot_all (-c) x (by rw [Int.neg_neg]; exact hc) w; rw [Int.neg_neg] at this; exact this
  have ra : 0 ≤ a ∧ a ≤ 25 := by unfold Place at ha; omega
  have rb : 0 ≤ b ∧ b ≤ 25 := by unfold Place at hb; omega
  have rc : 0 ≤ c ∧ c ≤ 25 := by unfold Place at hc; omega
  obtain ⟨ra0, ra1⟩ := ra
  obtain ⟨rb0, rb1⟩ := rb
  obtain ⟨rc0, rc1⟩ := rc
  clear ha hb hc
  go_enter Tryz.func240, Tryz.ntmps240
  go_wp2_with fail
  refine (hra _).mono ?_
  rintro e w' ⟨rfl, rfl⟩
  go_wp2_with fail
  refine (hrb _).mono ?_
  rintro e w' ⟨rfl, rfl⟩
  go_wp2_with fail
  refine (hrc _).mono ?_
  rintro e w' ⟨rfl, rfl⟩
  go_wp2
  go_ret
  exact ⟨rfl, rfl⟩
end Go.Proofs.YtlibipbpaigmdaaGreatDoor
