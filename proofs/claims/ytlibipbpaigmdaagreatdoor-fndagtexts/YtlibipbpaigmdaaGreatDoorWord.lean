/-
  wordAt, and the plain functions of the digest.
-/
import Derived.Test.YtlibipbpaigmdaaGreatDoorBits
import Derived.Test.YtlibipbpaigmdaaGreatDoorTxt
import Derived.Lib.IndexBytes
import Derived.Lib.Bytealg
namespace Go.Proofs.YtlibipbpaigmdaaGreatDoor
open Go.RowKit
set_option linter.unusedVariables false

/-- four bytes as a word, the highest first -/
def word4 (b0 b1 b2 b3 : Int) : Int := bits BinOp.or IntKind.u32 (bits BinOp.or IntKind.u32 (bits BinOp.or IntKind.u32 (b0 * 16777216) (b1 * 65536)) (b2 * 256)) b3

theorem wrap_u32_in {x : Int} (h0 : 0 ≤ x) (h1 : x < 4294967296) : IntKind.u32.wrap x = x := by rw [IntKind.wrap_u32]; omega

set_option maxHeartbeats 400000 in
theorem wordAt_any (s : ByteArray) (i : Nat) (h : i + 3 < s.size) (hs : s.size ≤ 10000000) (w : World) :
    Calls Tryz.prog 259 #[.string s, .int .i64 i] w fun e w' => e = .returned (.int .u32 (word4 (bt s i) (bt s (i + 1)) (bt s (i + 2)) (bt s (i + 3)))) ∧ Below w.heap.size w w' := by
  obtain ⟨j1, hj1⟩ : ∃ j, j = i + 1 := ⟨_, rfl⟩
  obtain ⟨j2, hj2⟩ : ∃ j, j = i + 2 := ⟨_, rfl⟩
  obtain ⟨j3, hj3⟩ : ∃ j, j = i + 3 := ⟨_, rfl⟩
  rw [← hj1, ← hj2, ← hj3]
  have h0 : i < s.size := by omega
  have h1 : j1 < s.size := by omega
  have h2 : j2 < s.size := by omega
  have h3 : j3 < s.size := by omega
  have b0 := bt_in h0
  have b1 := bt_in h1
  have b2 := bt_in h2
  have b3 := bt_in h3
  have q0 : IntKind.u32.wrap (bt s i) = bt s i := by have := bt_range h0; exact wrap_u32_in (by omega) (by omega)
  have q1 : IntKind.u32.wrap (bt s j1) = bt s j1 := by have := bt_range h1; exact wrap_u32_in (by omega) (by omega)
  have q2 : IntKind.u32.wrap (bt s j2) = bt s j2 := by have := bt_range h2; exact wrap_u32_in (by omega) (by omega)
  have q3 : IntKind.u32.wrap (bt s j3) = bt s j3 := by have := bt_range h3; exact wrap_u32_in (by omega) (by omega)
  have p0 : IntKind.u32.wrap (bt s i * 16777216) = bt s i * 16777216 := by have := bt_range h0; exact wrap_u32_in (by omega) (by omega)
  have p1 : IntKind.u32.wrap (bt s j1 * 65536) = bt s j1 * 65536 := by have := bt_range h1; exact wrap_u32_in (by omega) (by omega)
  have p2 : IntKind.u32.wrap (bt s j2 * 256) = bt s j2 * 256 := by have := bt_range h2; exact wrap_u32_in (by omega) (by omega)
  have w1 : IntKind.i64.wrap ((i : Int) + 1) = (j1 : Int) := by rw [IntKind.wrap_i64]; omega
  have w2 : IntKind.i64.wrap ((i : Int) + 2) = (j2 : Int) := by rw [IntKind.wrap_i64]; omega
  have w3 : IntKind.i64.wrap ((i : Int) + 3) = (j3 : Int) := by rw [IntKind.wrap_i64]; omega
  clear hj1 hj2 hj3 h
  go_enter Tryz.func259, Tryz.ntmps259
  go_wp2
  go_quiet (fail)
  go_wp2
  go_ret
  exact ⟨rfl, below_drewN (Below.refl _ _) _⟩
end Go.Proofs.YtlibipbpaigmdaaGreatDoor
