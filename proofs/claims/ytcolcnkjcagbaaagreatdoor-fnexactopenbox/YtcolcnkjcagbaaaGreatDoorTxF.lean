/-
  Numbers as texts, the program's way: the library's FormatInt; letters and keys. No condition but that the table of powers of ten lies.
-/
import Derived.Test.YtcolcnkjcagbaaaGreatDoorShelfN
import Derived.Test.YtcolcnkjcagbaaaGreatDoorSText
import Derived.Lib.LaidTab
import Derived.Lib.ItoaNum
import Derived.Lib.Small
import Derived.Lib.AppendIntMem
namespace Go.Proofs.YtcolcnkjcagbaaaGreatDoor
open Go.RowKit
set_option linter.unusedVariables false

/-- the library's table of powers of ten holds what it is laid with -/
def Pow (w : World) : Prop := Lib.TabIs Tryz.prog w "internal/strconv.uint64pow10" .u64 Lib.pow10Tab
theorem gP : Tryz.prog.globalNamed "internal/strconv.uint64pow10" = some 3 := by kernel_rfl
theorem Pow.below {w w' : World} (h : Pow w) (hB : Below w.heap.size w w') : Pow w' := by
  unfold Pow at h ⊢
  have hlt : 3 < w.heap.size := cell_lt (h.cell gP 0 (by decide))
  unfold Lib.TabIs World.var? at h ⊢
  rw [gP] at h ⊢
  simp only [Option.bind_some] at h ⊢
  rw [hB.block 3 hlt]
  exact h


theorem decB_lib (n : Nat) : decB n = ⟨(Lib.decDigits n).toArray⟩ := by
  induction n using Nat.strongRecOn with
  | _ n ih =>
    by_cases h : n < 10
    · rw [decB_one h]
      unfold dgI
      rw [Lib.decDigits_one h, show (48 + (n : Int)).toNat = 48 + n by omega]
    · rw [decB_more h, ih (n / 10) (by omega)]
      apply ByteArray.ext
      apply Array.ext'
      unfold dgI
      conv => rhs; rw [Lib.decDigits, dif_neg h]
      rw [show (48 + (n : Int) % 10).toNat = 48 + n % 10 by omega]
      simp
theorem fmt_any (n : Nat) (hn : n ≤ 1000000) (w : World) (hP : Pow w) :
    Calls Tryz.prog 121 #[.int .i64 n, .int .i64 10] w fun e w' => e = .returned (.string (decB n)) ∧ Below w.heap.size w w' := by
  refine (Tryz.strconv_FormatInt_10 (n : Int) (by omega) (by omega) w hP).mono ?_
  rintro e w' ⟨rfl, k, os, rfl⟩
  refine ⟨?_, Lib.below_grow _ _ (Nat.le_refl _) _ _⟩
  rw [decB_lib]
  unfold Lib.itoa
  rw [if_neg (by omega)]
  rfl

theorem cellN {w : World} {b i : Nat} {cs : Array Value} {t : TypeId} (h : w.heap[b]? = some (.cells cs t (0, 0))) : w.cell? ⟨b, i, none⟩ = cs[i]? := by simp [World.cell?, h]
theorem frozN {w : World} {b i : Nat} {cs : Array Value} {t : TypeId} (h : w.heap[b]? = some (.cells cs t (0, 0))) : w.frozen? ⟨b, i, none⟩ = false := by simp [World.frozen?, h]
/-- the letter of a kind -/
def letB (k : Nat) : ByteArray := (⟨#[63, 97, 107, 118, 104, 112, 101, 115]⟩ : ByteArray).extract k (k + 1)
theorem letterOf_any (k : Nat) (hk : k ≤ 7) (w : World) : Calls Tryz.prog 120 #[.int .i64 k] w fun e w' => e = .returned (.string (letB k)) ∧ w' = w := by
  have hk' : k = 0 ∨ k = 1 ∨ k = 2 ∨ k = 3 ∨ k = 4 ∨ k = 5 ∨ k = 6 ∨ k = 7 := by omega
  rcases hk' with rfl | rfl | rfl | rfl | rfl | rfl | rfl | rfl <;> (go_enter Tryz.func120, Tryz.ntmps120; go_wp2; go_ret; exact ⟨rfl, rfl⟩)
end Go.Proofs.YtcolcnkjcagbaaaGreatDoor
