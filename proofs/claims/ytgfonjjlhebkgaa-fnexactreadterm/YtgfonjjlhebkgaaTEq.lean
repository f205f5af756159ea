/-
  The functions over one TNode and over []TNode that the laws call return what plain data says. No condition but that the slices read.
-/
import Derived.Test.YtgfonjjlhebkgaaNodes
namespace Go.Proofs.Ytgfonjjlhebkgaa
open Go.RowKit
set_option linter.unusedVariables false
set_option maxHeartbeats 400000 in
theorem eqTNode_same (k n x y : Int) (w : World) :
    Calls Try.prog 13 #[.agg #[.int .i64 k, .int .i64 n, .int .i64 x, .int .i64 y], .agg #[.int .i64 k, .int .i64 n, .int .i64 x, .int .i64 y]] w fun e w' => e = .returned (.bool true) ∧ Below w.heap.size w w' := by
  have h1 : (k != k) = false := by simp
  have h2 : (n != n) = false := by simp
  have h3 : (x != x) = false := by simp
  have h4 : (y != y) = false := by simp
  go_enter Try.func13, Try.ntmps13
  go_wp2
  go_ret
  exact ⟨rfl, ((Below.refl _ _).alloc (Nat.le_refl _) _).alloc (by simp) _⟩

set_option maxHeartbeats 400000 in
theorem eqTNodeS_same (a a' : Option Addr) (len cap cap' : Nat) (Kd N A B : Nat → Int) (w : World) (h : IsNodes w a len cap Kd N A B) (h' : IsNodes w a' len cap' Kd N A B) :
    Calls Try.prog 6 #[.slice a len cap, .slice a' len cap'] w fun e w' => e = .returned (.bool true) ∧ Below w.heap.size w w' := by
  obtain ⟨hlc, hcm, hc⟩ := h
  obtain ⟨hlc', hcm', hc'⟩ := h'
  have hbn : ((len : Int) != (len : Int)) = false := by simp
  go_enter Try.func6, Try.ntmps6
  go_wp2
  go_loopw [5] (fun i wr => ∃ (k : Nat), k ≤ len ∧ i = .int .i64 k ∧ Below w.heap.size w wr)
    (fun i _ => len - (intOf i).toNat)
  case atStart => exact ⟨0, Nat.zero_le _, rfl, Below.refl _ _⟩
  case round =>
    obtain ⟨k, hk, rfl, hB⟩ := hrel
    by_cases hlt : k < len
    · obtain ⟨b, off, rfl, hbs, hcell⟩ := hc (by omega)
      obtain ⟨c1, c2, c3, c4⟩ := hcell k hlt
      obtain ⟨b', off', rfl, hbs', hcell'⟩ := hc' (by omega)
      obtain ⟨c1', c2', c3', c4'⟩ := hcell' k hlt
      have d1 := (hB.cell (p := ⟨b, off + k * 4, none⟩) hbs).trans c1
      have d2 := (hB.cell (p := ⟨b, off + k * 4 + 1, none⟩) hbs).trans c2
      have d3 := (hB.cell (p := ⟨b, off + k * 4 + 2, none⟩) hbs).trans c3
      have d4 := (hB.cell (p := ⟨b, off + k * 4 + 3, none⟩) hbs).trans c4
      have d1' := (hB.cell (p := ⟨b', off' + k * 4, none⟩) hbs').trans c1'
      have d2' := (hB.cell (p := ⟨b', off' + k * 4 + 1, none⟩) hbs').trans c2'
      have d3' := (hB.cell (p := ⟨b', off' + k * 4 + 2, none⟩) hbs').trans c3'
      have d4' := (hB.cell (p := ⟨b', off' + k * 4 + 3, none⟩) hbs').trans c4'
      clear hcell hc c1 c2 c3 c4 hcell' hc' c1' c2' c3' c4'
      have q1 : ∀ s : Later wr, s.val.cell? ⟨b, off + k * 4, none⟩ = some (.int .i64 (Kd k)) := fun s => s.cell d1
      have q2 : ∀ s : Later wr, s.val.cell? ⟨b, off + k * 4 + 1, none⟩ = some (.int .i64 (N k)) := fun s => s.cell d2
      have q3 : ∀ s : Later wr, s.val.cell? ⟨b, off + k * 4 + 2, none⟩ = some (.int .i64 (A k)) := fun s => s.cell d3
      have q4 : ∀ s : Later wr, s.val.cell? ⟨b, off + k * 4 + 3, none⟩ = some (.int .i64 (B k)) := fun s => s.cell d4
      have q1' : ∀ s : Later wr, s.val.cell? ⟨b', off' + k * 4, none⟩ = some (.int .i64 (Kd k)) := fun s => s.cell d1'
      have q2' : ∀ s : Later wr, s.val.cell? ⟨b', off' + k * 4 + 1, none⟩ = some (.int .i64 (N k)) := fun s => s.cell d2'
      have q3' : ∀ s : Later wr, s.val.cell? ⟨b', off' + k * 4 + 2, none⟩ = some (.int .i64 (A k)) := fun s => s.cell d3'
      have q4' : ∀ s : Later wr, s.val.cell? ⟨b', off' + k * 4 + 3, none⟩ = some (.int .i64 (B k)) := fun s => s.cell d4'
      have hne := Later.any wr
      go_wp2
      refine wp_region_later (by kernel_rfl) (by kernel_rfl) ?_
      repeat (go_big_quiet_step ((rename_i s; exact Calls.later (eqTNode_same _ _ _ _ _))))
      refine wpQuiet_nil ?_
      rintro _ ⟨⟨w', hB2⟩, rfl⟩
      go_wp2
      go_roundw
      case rel => exact ⟨k + 1, by omega, by go_num, hB.trans (hB2.mono hB.size)⟩
      case measure => simp [intOf]; omega
    · have hke : k = len := by omega
      subst hke
      go_wp2
      go_ret
      exact ⟨rfl, hB⟩

end Go.Proofs.Ytgfonjjlhebkgaa
