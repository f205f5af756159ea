/-
  A node's text, the program's and the specification's. No condition but that the ups read.
-/
import Derived.Test.YtlibipbpaigmdaaGreatDoorLine
import Derived.BigQuiet
namespace Go.Proofs.YtlibipbpaigmdaaGreatDoor
open Go.RowKit
set_option linter.unusedVariables false

theorem spec_head (a s k : Nat) (key text : ByteArray) : headB a s k key text = (((((((((((⟨#[97, 117, 116, 104, 111, 114, 32]⟩ : ByteArray) ++ (decB a)) ++ (⟨#[10, 115, 101, 113, 32]⟩ : ByteArray)) ++ (decB s)) ++ (⟨#[10, 107, 105, 110, 100, 32]⟩ : ByteArray)) ++ (decB k)) ++ (⟨#[10, 107, 101, 121, 32]⟩ : ByteArray)) ++ key) ++ (⟨#[10, 116, 101, 120, 116, 32]⟩ : ByteArray)) ++ text) ++ (⟨#[10]⟩ : ByteArray)) := by
  unfold headB lineB
  apply ByteArray.ext
  apply Array.ext'
  simp

theorem spec_up (t v : ByteArray) : t ++ lineB ⟨#[117, 112]⟩ v = ((t ++ ⟨#[117, 112, 32]⟩) ++ v) ++ ⟨#[10]⟩ := by
  unfold lineB
  apply ByteArray.ext
  apply Array.ext'
  simp

theorem headB_size (a s k : Nat) (key text : ByteArray) : (headB a s k key text).size = (decB a).size + (decB s).size + (decB k).size + key.size + text.size + 30 := by
  unfold headB
  simp only [ByteArray.size_append, lineB_size]
  simp only [ByteArray.size]
  simp
  omega

theorem upsB_size (H : ByteArray) (S : Nat → ByteArray) : ∀ j, (∀ i, i < j → (S i).size = 64) → (upsB H S j).size = H.size + 68 * j
  | 0, _ => rfl
  | j + 1, h => by
    show (upsB H S j ++ lineB ⟨#[117, 112]⟩ (S j)).size = _
    rw [ByteArray.size_append, lineB_size, upsB_size H S j (fun i hi => h i (by omega)), h j (by omega)]
    simp only [ByteArray.size]
    simp
    omega

theorem lit_size (l : List UInt8) : (ByteArray.mk l.toArray).size = l.length := by simp [ByteArray.size]
end Go.Proofs.YtlibipbpaigmdaaGreatDoor
