/-
  The specification's reader of terms, its small methods: is, want, number, add, and l1Int. They do what plain data says. No condition but that the reader lies in memory.
-/
import Derived.Test.YtcolcnkjcagbaaaGreatDoorOfText
import Derived.Deep.RegionHeld3
namespace Go.Proofs.YtcolcnkjcagbaaaGreatDoor
open Go.RowKit
set_option linter.unusedVariables false

/-- the specification's reader in block R -/
def Sd (w : World) (R : Nat) (s : ByteArray) (i : Int) (bad : Bool) (v : Value) : Prop := w.heap[R]? = some (.cells #[.string s, .int .i64 i, .bool bad, v] 117 (0, 0))

section
variable {w : World} {R : Nat} {s : ByteArray} {i : Int} {bad : Bool} {v : Value}
theorem Sd.lt (h : Sd w R s i bad v) : R < w.heap.size := lt_of_block h
theorem Sd.c0 (h : Sd w R s i bad v) : w.cell? ⟨R, 0, none⟩ = some (.string s) := by unfold Sd at h; simp [World.cell?, h]
theorem Sd.c1 (h : Sd w R s i bad v) : w.cell? ⟨R, 1, none⟩ = some (.int .i64 i) := by unfold Sd at h; simp [World.cell?, h]
theorem Sd.c2 (h : Sd w R s i bad v) : w.cell? ⟨R, 2, none⟩ = some (.bool bad) := by unfold Sd at h; simp [World.cell?, h]
theorem Sd.c3 (h : Sd w R s i bad v) : w.cell? ⟨R, 3, none⟩ = some v := by unfold Sd at h; simp [World.cell?, h]
theorem Sd.fr (h : Sd w R s i bad v) (o : Nat) : w.frozen? ⟨R, o, none⟩ = false := by unfold Sd at h; simp [World.frozen?, h]
theorem Sd.set1 (h : Sd w R s i bad v) (j : Int) : Sd (w.setCell ⟨R, 1, none⟩ (.int .i64 j)) R s j bad v := by
  unfold Sd at *
  rw [heap_setCell_same w R 1 _ 117 _ h]
  rfl
theorem Sd.set2 (h : Sd w R s i bad v) (b : Bool) : Sd (w.setCell ⟨R, 2, none⟩ (.bool b)) R s i b v := by
  unfold Sd at *
  rw [heap_setCell_same w R 2 _ 117 _ h]
  rfl
theorem Sd.set3 (h : Sd w R s i bad v) (u : Value) : Sd (w.setCell ⟨R, 3, none⟩ u) R s i bad u := by
  unfold Sd at *
  rw [heap_setCell_same w R 3 _ 117 _ h]
  rfl
theorem Sd.drewN (h : Sd w R s i bad v) (n : Nat) : Sd (w.drewN n) R s i bad v := h
theorem Sd.alloc (h : Sd w R s i bad v) (o : Obj) : Sd (w.alloc o) R s i bad v := by
  unfold Sd at *
  rw [Below.heap_alloc _ _ _ (lt_of_block h)]
  exact h
end

/-- is, where the reader is bad already: false, and nothing turns -/
theorem is_bad (R : Nat) (s p : ByteArray) (i : Int) (v : Value) (w : World) (h : Sd w R s i true v) :
    Calls Tryz.prog 91 #[.pointer (some ⟨R, 0, none⟩), .string p] w fun e w' => e = .returned (.bool false) ∧ ∃ n, w' = w.drewN n := by
  have c0 := h.c0
  have c1 := h.c1
  have c2 := h.c2
  clear h
  go_enter Tryz.func91, Tryz.ntmps91
  go_wp2
  go_quiet (fail)
  go_wp2
  go_ret
  exact ⟨rfl, _, rfl⟩

theorem preB_slice {s p : ByteArray} {i : Nat} (hi : i + p.size ≤ s.size) : ((s.extract i (i + p.size)).toList == p.toList) = preB s i p := by
  unfold preB Lib.hasPrefix
  rw [Bool.eq_iff_iff, beq_iff_eq, List.isPrefixOf_iff_prefix, List.prefix_iff_eq_take, Lib.extract_toList, Lib.toList_data, ← Lib.size_eq, show i + p.size - i = p.size by omega]
  exact eq_comm

set_option maxHeartbeats 400000 in
theorem is_yes (R : Nat) (s p : ByteArray) (i : Nat) (v : Value) (w : World) (h : Sd w R s i false v) (hi : i ≤ s.size) (hs : s.size ≤ 1048576) (hp : p.size ≤ 1048576) (hpre : preB s i p = true) :
    Calls Tryz.prog 91 #[.pointer (some ⟨R, 0, none⟩), .string p] w fun e w' => e = .returned (.bool true) ∧ Sd w' R s ((i : Int) + p.size) false v ∧ Mut R w w' := by
  have c0 := h.c0
  have c1 := h.c1
  have c2 := h.c2
  have f1 := h.fr 1
  have HS : Hid (Sd w R s i false v) := h
  have hrm := preB_room hi hpre
  have hg : decide ((s.size : Int) < (i : Int) + (p.size : Int)) = false := by simp; omega
  have hsl := preB_slice hrm
  rw [hpre] at hsl
  have hrmI : (i : Int) + (p.size : Int) ≤ (s.size : Int) := by omega
  clear h
  go_enter Tryz.func91, Tryz.ntmps91
  go_wp2
  go_quiet (fail)
  go_wp2
  go_ret
  exact ⟨rfl, (HS.out.drewN _).set1 _, ((Mut.refl R w).drewN _).setCell 1 _⟩

set_option maxHeartbeats 400000 in
theorem is_no (R : Nat) (s p : ByteArray) (i : Nat) (v : Value) (w : World) (h : Sd w R s i false v) (hi : i ≤ s.size) (hs : s.size ≤ 1048576) (hp : p.size ≤ 1048576) (hpre : preB s i p = false) :
    Calls Tryz.prog 91 #[.pointer (some ⟨R, 0, none⟩), .string p] w fun e w' => e = .returned (.bool false) ∧ ∃ n, w' = w.drewN n := by
  have c0 := h.c0
  have c1 := h.c1
  have c2 := h.c2
  clear h
  by_cases hrm : i + p.size ≤ s.size
  · have hg : decide ((s.size : Int) < (i : Int) + (p.size : Int)) = false := by simp; omega
    have hsl := preB_slice hrm
    rw [hpre] at hsl
    have hrmI : (i : Int) + (p.size : Int) ≤ (s.size : Int) := by omega
    clear hrm
    go_enter Tryz.func91, Tryz.ntmps91
    go_wp2
    go_quiet (fail)
    go_wp2
    go_ret
    exact ⟨rfl, _, rfl⟩
  · have hg : decide ((s.size : Int) < (i : Int) + (p.size : Int)) = true := by simp; omega
    have hrmI : (s.size : Int) < (i : Int) + (p.size : Int) := by omega
    clear hrm
    go_enter Tryz.func91, Tryz.ntmps91
    go_wp2
    go_quiet (fail)
    go_wp2
    go_ret
    exact ⟨rfl, _, rfl⟩

theorem want_yes (R : Nat) (s p : ByteArray) (i : Nat) (v : Value) (w : World) (h : Sd w R s i false v) (hi : i ≤ s.size) (hs : s.size ≤ 1048576) (hp : p.size ≤ 1048576) (hpre : preB s i p = true) :
    Calls Tryz.prog 94 #[.pointer (some ⟨R, 0, none⟩), .string p] w fun e w' => e = .returned (.tuple #[]) ∧ Sd w' R s ((i : Int) + p.size) false v ∧ Mut R w w' := by
  go_enter Tryz.func94, Tryz.ntmps94
  go_wp2_with fail
  refine (is_yes R s p i v w h hi hs hp hpre).mono ?_
  rintro e w1 ⟨rfl, hS, hM⟩
  go_wp2
  go_end0
  exact ⟨rfl, hS, hM⟩

theorem want_no (R : Nat) (s p : ByteArray) (i : Nat) (v : Value) (w : World) (h : Sd w R s i false v) (hi : i ≤ s.size) (hs : s.size ≤ 1048576) (hp : p.size ≤ 1048576) (hpre : preB s i p = false) :
    Calls Tryz.prog 94 #[.pointer (some ⟨R, 0, none⟩), .string p] w fun e w' => e = .returned (.tuple #[]) ∧ Sd w' R s i true v ∧ Mut R w w' := by
  have c2 := h.c2
  have f2 := h.fr 2
  have HS : Hid (Sd w R s i false v) := h
  go_enter Tryz.func94, Tryz.ntmps94
  go_wp2_with fail
  refine (is_no R s p i v w h hi hs hp hpre).mono ?_
  rintro e w1 ⟨rfl, n, rfl⟩
  clear h
  go_wp2
  go_end0
  exact ⟨rfl, (HS.out.drewN _).set2 _, ((Mut.refl R w).drewN _).setCell 2 _⟩

theorem want_bad (R : Nat) (s p : ByteArray) (i : Int) (v : Value) (w : World) (h : Sd w R s i true v) :
    Calls Tryz.prog 94 #[.pointer (some ⟨R, 0, none⟩), .string p] w fun e w' => e = .returned (.tuple #[]) ∧ Sd w' R s i true v ∧ Mut R w w' := by
  have c2 := h.c2
  have f2 := h.fr 2
  have HS : Hid (Sd w R s i true v) := h
  go_enter Tryz.func94, Tryz.ntmps94
  go_wp2_with fail
  refine (is_bad R s p i v w h).mono ?_
  rintro e w1 ⟨rfl, n, rfl⟩
  clear h
  go_wp2
  go_end0
  exact ⟨rfl, (HS.out.drewN _).set2 _, ((Mut.refl R w).drewN _).setCell 2 _⟩

end Go.Proofs.YtcolcnkjcagbaaaGreatDoor
