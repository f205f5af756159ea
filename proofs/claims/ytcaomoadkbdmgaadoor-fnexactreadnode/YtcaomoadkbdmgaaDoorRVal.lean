/-
  The program's reader of lines: a value, a number. No condition but that the texts are not huge and that the reader lies in memory.
-/
import Derived.Test.YtcaomoadkbdmgaaDoorRCut
import Derived.Test.YtcaomoadkbdmgaaDoorShelfR
namespace Go.Proofs.YtcaomoadkbdmgaaDoor
open Go.RowKit
set_option linter.unusedVariables false

/-- bytes as a text -/
def bs (l : List UInt8) : ByteArray := ⟨l.toArray⟩
theorem bs_list (l : List UInt8) : (bs l).data.toList = l := by simp [bs]
theorem bs_data (s : ByteArray) : bs s.data.toList = s := by simp [bs]
theorem bs_size (l : List UInt8) : (bs l).size = l.length := by show l.toArray.size = _; simp

/-- a reader of lines lies at block B: what is left, and whether it has failed -/
structure Rd (w : World) (B : Nat) (r : ByteArray) (f : Bool) : Prop where
  c0 : w.cell? ⟨B, 0, none⟩ = some (.string r)
  c1 : w.cell? ⟨B, 1, none⟩ = some (.bool f)
  z0 : w.frozen? ⟨B, 0, none⟩ = false
  z1 : w.frozen? ⟨B, 1, none⟩ = false

/-- the first line, what is left, whether it was ended -/
def cutN (r : ByteArray) : List UInt8 × List UInt8 × Bool := Lib.cut r.data.toList [10]
/-- what value answers -/
def valV (r word : ByteArray) : ByteArray := bs (Lib.trimPrefix (cutN r).1 (word.data.toList ++ [32]))
def valN (r word : ByteArray) : Bool := Lib.hasPrefix (cutN r).1 (word.data.toList ++ [32])
/-- has it failed behind a value -/
def valF (r word : ByteArray) (f : Bool) : Bool := f || !(cutN r).2.2 || !(valN r word)

theorem word_sp (word : ByteArray) : (word ++ ⟨#[32]⟩).data.toList = word.data.toList ++ [32] := by simp

theorem Rd.set1 {w : World} {B : Nat} {r : ByteArray} {f : Bool} (h : Rd w B r f) (g : Bool) : Rd (w.setCell ⟨B, 1, none⟩ (.bool g)) B r g :=
  ⟨by rw [World.cell?_setCell_other _ _ _ _ (by simp)]; exact h.c0, World.cell?_setCell_same _ _ _ h.c1, by rw [World.frozen?_setCell]; exact h.z0, by rw [World.frozen?_setCell]; exact h.z1⟩
theorem Rd.set0 {w : World} {B : Nat} {r : ByteArray} {f : Bool} (h : Rd w B r f) (x : ByteArray) : Rd (w.setCell ⟨B, 0, none⟩ (.string x)) B x f :=
  ⟨World.cell?_setCell_same _ _ _ h.c0, by rw [World.cell?_setCell_other _ _ _ _ (by simp)]; exact h.c1, by rw [World.frozen?_setCell]; exact h.z0, by rw [World.frozen?_setCell]; exact h.z1⟩
theorem grown_set {w w' : World} {B : Nat} (h : w.grownBy w' (some B)) (o : Nat) (v : Value) : w.grownBy (w'.setCell ⟨B, o, none⟩ v) (some B) :=
  ⟨h.os, h.tape, h.output, by simpa [World.setCell] using h.size, fun k hk hne => (Below.heap_setCell _ _ _ _ (fun e => hne (by rw [e]))).trans (h.block k hk hne)⟩
theorem grown_drewN (w : World) (n : Nat) (row : Option Nat) : w.grownBy (w.drewN n) row := ⟨rfl, rfl, rfl, Nat.le_refl _, fun _ _ _ => rfl⟩

set_option maxHeartbeats 1000000 in
theorem value_any (B : Nat) (r word : ByteArray) (f : Bool) (m : Int) (w : World) (hr : r.size ≤ 1048576) (hw : word.size ≤ 1000) (h : Rd w B r f) (hm : w.cell? ⟨0, 0, none⟩ = some (.int .i64 m)) :
    Calls Tryd.prog 13 #[.pointer (some ⟨B, 0, none⟩), .string word] w fun e w' => e = .returned (.string (valV r word)) ∧ Rd w' B (bs (cutN r).2.1) (valF r word f) ∧ w.grownBy w' (some B) := by
  obtain ⟨c0, c1, z0, z1⟩ := h
  have s1 : (ByteArray.mk #[32]).size = 1 := rfl
  have a1 := add_ok (a := word) (b := ⟨#[32]⟩) (by omega)
  clear s1
  have HC : Hid (Calls Tryd.prog 21 #[.string r, .string ⟨#[10]⟩] w fun e w' => e = .returned (.tuple #[.string (bs (cutN r).1), .string (bs (cutN r).2.1), .bool (cutN r).2.2]) ∧ ∃ n, w' = w.drewN n) := Tryd.strings_Cut r ⟨#[10]⟩ m w (by omega) hm
  have HP : Hid (∀ v : World, Calls Tryd.prog 22 #[.string (bs (cutN r).1), .string (word ++ ⟨#[32]⟩)] v fun e w' => e = .returned (.tuple #[.string (valV r word), .bool (valN r word)]) ∧ w' = v) := fun v => by
    have := Tryd.strings_CutPrefix (bs (cutN r).1) (word ++ ⟨#[32]⟩) v
    rw [bs_list, word_sp] at this
    exact this
  have HF : Hid (valF r word f = (f || !(cutN r).2.2 || !(valN r word))) := rfl
  generalize valF r word f = ff at *
  generalize hen : (cutN r).2.2 = en at *
  generalize hnm : valN r word = nm at *
  clear hen hnm
  go_enter Tryd.func13, Tryd.ntmps13
  cases f <;> cases en <;> cases nm <;>
  · go_wp2_with (first
      | (go_at_call 21; refine HC.out.mono ?_; rintro e w1 ⟨rfl, n, hw1⟩; rw [hw1]; clear hw1 w1)
      | (go_at_call 22; refine (HP.out _).mono ?_; rintro e w2 ⟨rfl, hw2⟩; rw [hw2]; clear hw2 w2))
    go_ret
    have hff := HF.out
    subst hff
    have hR : Rd (w.drewN n) B r _ := ⟨c0, c1, z0, z1⟩
    exact ⟨rfl, (hR.set0 _).set1 _, grown_set (grown_set (grown_drewN w n _) _ _) _ _⟩

/-- has it failed behind a number -/
def numF (r word : ByteArray) (f : Bool) : Bool := valF r word f || !(rdec (valV r word)).2

theorem valV_size (r word : ByteArray) : (valV r word).size ≤ r.size := by
  have h1 : (cutN r).1.length ≤ r.size := by
    unfold cutN Lib.cut
    split
    · simp only [List.length_take]
      rw [Lib.size_eq]
      omega
    · rw [Lib.size_eq]
      exact Nat.le_refl _
  unfold valV Lib.trimPrefix
  rw [bs_size]
  split
  · rw [List.length_drop]
    omega
  · exact h1

set_option maxHeartbeats 1000000 in
theorem number_any (B : Nat) (r word : ByteArray) (f : Bool) (m : Int) (w : World) (hr : r.size ≤ 1048576) (hw : word.size ≤ 1000) (h : Rd w B r f) (hm : w.cell? ⟨0, 0, none⟩ = some (.int .i64 m)) :
    Calls Tryd.prog 12 #[.pointer (some ⟨B, 0, none⟩), .string word] w fun e w' => e = .returned (.int .i64 (rdec (valV r word)).1) ∧ Rd w' B (bs (cutN r).2.1) (numF r word f) ∧ w.grownBy w' (some B) := by
  have hv := valV_size r word
  have HV : Hid (Calls Tryd.prog 13 #[.pointer (some ⟨B, 0, none⟩), .string word] w fun e w' => e = .returned (.string (valV r word)) ∧ Rd w' B (bs (cutN r).2.1) (valF r word f) ∧ w.grownBy w' (some B)) := value_any B r word f m w hr hw h hm
  have HD : Hid (∀ v : World, Calls Tryd.prog 20 #[.string (valV r word)] v fun e w' => e = .returned (.tuple #[.int .i64 (rdec (valV r word)).1, .bool (rdec (valV r word)).2]) ∧ w' = v) := fun v => readDecimal_any _ v (by omega)
  have HF : Hid (numF r word f = (valF r word f || !(rdec (valV r word)).2)) := rfl
  generalize numF r word f = ff at *
  generalize valF r word f = vf at *
  generalize hok : (rdec (valV r word)).2 = ok at *
  clear hok h
  go_enter Tryd.func12, Tryd.ntmps12
  cases vf <;> cases ok <;>
  · go_wp2_with (first
      | (go_at_call 13; refine HV.out.mono ?_; rintro e w1 ⟨rfl, hR, hg⟩; obtain ⟨c0, c1, z0, z1⟩ := hR)
      | (go_at_call 20; refine (HD.out _).mono ?_; rintro e w2 ⟨rfl, hw2⟩; rw [hw2]; clear hw2 w2))
    go_ret
    have hff := HF.out
    subst hff
    have hR : Rd w1 B _ _ := ⟨c0, c1, z0, z1⟩
    exact ⟨rfl, hR.set1 _, grown_set hg _ _⟩
end Go.Proofs.YtcaomoadkbdmgaaDoor
