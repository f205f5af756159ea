/-
  Both FrameOf functions: a head and the data, for texts of at most 100,000,000 bytes.
-/
import Derived.Test.YtcknemblniemcaaDoorCrcI
import Derived.Test.YtcknemblniemcaaDoorRegF
import Derived.Test.YtcknemblniemcaaDoorQop
namespace Go.Proofs.YtcknemblniemcaaDoor
open Go.RowKit
set_option linter.unusedVariables false

/-- a length in four bytes, the highest first -/
def lenT (n : Nat) : ByteArray := by4 ((n : Int) / 16777216 % 256) ((n : Int) / 65536 % 256) ((n : Int) / 256 % 256) ((n : Int) % 256)
theorem lenT_size (n : Nat) : (lenT n).size = 4 := rfl
theorem sumT_size (s : ByteArray) : (sumT s).size = 4 := rfl
def headT (s : ByteArray) : ByteArray := lenT s.size ++ sumT s
theorem headT_size (s : ByteArray) : (headT s).size = 8 := by unfold headT; rw [ByteArray.size_append]; rfl
/-- what both FrameOf functions answer -/
def frameT (s : ByteArray) : ByteArray := if s.size ≤ 100000 then headT s ++ s else ⟨#[]⟩

theorem by8 (a b c d e f g h : Int) : (⟨#[UInt8.ofNat a.toNat, UInt8.ofNat b.toNat, UInt8.ofNat c.toNat, UInt8.ofNat d.toNat, UInt8.ofNat e.toNat, UInt8.ofNat f.toNat, UInt8.ofNat g.toNat, UInt8.ofNat h.toNat]⟩ : ByteArray) = by4 a b c d ++ by4 e f g h := by
  apply ByteArray.ext
  apply Array.ext'
  simp [by4]
theorem byte8_string (w : World) (a b c d e f g h : Int) : (convert 29 9 (.slice (some ⟨w.heap.size, 0, none⟩) 8 8)).run Tryd.prog (w.alloc (.cells #[.int .u8 a, .int .u8 b, .int .u8 c, .int .u8 d, .int .u8 e, .int .u8 f, .int .u8 g, .int .u8 h] 5)) = .ok (.string (by4 a b c d ++ by4 e f g h)) (w.alloc (.cells #[.int .u8 a, .int .u8 b, .int .u8 c, .int .u8 d, .int .u8 e, .int .u8 f, .int .u8 g, .int .u8 h] 5)) := by
  rw [run_convert_bytes_string _ 29 9 5 _ _ _ Tryd.underlying29 Tryd.underlying5 Tryd.underlying9]
  rw [run_bytesToString _ _ 8 8 [a, b, c, d, e, f, g, h] (by simp [loadCells, go_sem])]
  rw [← by8]
  rfl

set_option maxRecDepth 4000 in
theorem head_any (s : ByteArray) (hs : s.size ≤ 100000000) (w : World) (hT : Halves w) :
    Calls Tryd.prog 18 #[.string s] w fun e w' => e = .returned (.string (headT s)) ∧ Below w.heap.size w w' := by
  obtain ⟨n, hn⟩ : ∃ n, n = s.size := ⟨_, rfl⟩
  have hn1 : n ≤ 100000000 := by omega
  have hnI : (s.size : Int) = (n : Int) := by rw [hn]
  have hnw : IntKind.u32.wrap (n : Int) = (n : Int) := wrap_u32_in (by omega) (by omega)
  have hcv := byte8_string w
  have HT := (show Hid _ from hT)
  clear hT
  have HR : Hid (headT s = by4 ((n : Int) / 16777216) ((n : Int) / 65536 % 256) ((n : Int) / 256 % 256) ((n : Int) % 256) ++ by4 (notC (crcTo s s.size) % 256) (notC (crcTo s s.size) / 256 % 256) (notC (crcTo s s.size) / 65536 % 256) (notC (crcTo s s.size) / 16777216 % 256)) := by
    show _ = _
    have h24 : (n : Int) / 16777216 = (n : Int) / 16777216 % 256 := by omega
    unfold headT
    rw [h24, hn]
    rfl
  obtain ⟨z, hz⟩ : ∃ z, z = notC (crcTo s s.size) := ⟨_, rfl⟩
  rw [← hz] at HR
  have HZ := (show Hid _ from hz)
  clear hz
  go_enter Tryd.func18, Tryd.ntmps18
  go_wp2_with fail
  refine (check_any s hs w HT.out).mono ?_
  rintro e w' ⟨rfl, hw⟩
  rw [hw, ← HZ.out]
  clear hw w' HZ
  go_wp2
  go_ret
  exact ⟨ret_val (congrArg Value.string HR.out.symm), (Below.refl _ _).alloc (Nat.le_refl _) _⟩

set_option maxRecDepth 4000 in
theorem implFrame_any (s : ByteArray) (hs : s.size ≤ 100000000) (w : World) (hT : Halves w) :
    Calls Tryd.prog 7 #[.string s] w fun e w' => e = .returned (.string (frameT s)) ∧ Below w.heap.size w w' := by
  obtain ⟨n, hn⟩ : ∃ n, n = s.size := ⟨_, rfl⟩
  have hnI : (s.size : Int) = (n : Int) := by rw [hn]
  by_cases h : n ≤ 100000
  · have hlt : (n : Int) ≤ 100000 := by omega
    have hadd := add_ok (a := headT s) (b := s) (by rw [headT_size]; omega)
    have HR : Hid (frameT s = headT s ++ s) := by show _ = _; unfold frameT; rw [if_pos (by omega)]
    have HT := (show Hid _ from hT)
    clear hT
    go_enter Tryd.func7, Tryd.ntmps7
    go_wp2_with fail
    refine (head_any s hs w HT.out).mono ?_
    rintro e w' ⟨rfl, hB⟩
    go_wp2
    go_ret
    exact ⟨ret_val (congrArg Value.string HR.out.symm), hB⟩
  · have hlt : (100000 : Int) < (n : Int) := by omega
    have HR : Hid (frameT s = ⟨#[]⟩) := by show _ = _; unfold frameT; rw [if_neg (by omega)]
    clear hT
    go_enter Tryd.func7, Tryd.ntmps7
    go_wp2
    go_ret
    exact ⟨ret_val (congrArg Value.string HR.out.symm), Below.refl _ _⟩
end Go.Proofs.YtcknemblniemcaaDoor
