/-
  The specification's l15Sum: the checksum's four bytes, for texts of at most 100,000,000 bytes.
-/
import Derived.Test.YtcknemblniemcaaDoorCrc
import Derived.Laws.BytesString
import Derived.Laws.Concat
namespace Go.Proofs.YtcknemblniemcaaDoor
open Go.RowKit
set_option linter.unusedVariables false

def by4 (a b c d : Int) : ByteArray := ⟨#[UInt8.ofNat a.toNat, UInt8.ofNat b.toNat, UInt8.ofNat c.toNat, UInt8.ofNat d.toNat]⟩
theorem by4_size (a b c d : Int) : (by4 a b c d).size = 4 := rfl
theorem byte4_string (w : World) (a b c d : Int) : (convert 29 9 (.slice (some ⟨w.heap.size, 0, none⟩) 4 4)).run Tryd.prog (w.alloc (.cells #[.int .u8 a, .int .u8 b, .int .u8 c, .int .u8 d] 5)) = .ok (.string (by4 a b c d)) (w.alloc (.cells #[.int .u8 a, .int .u8 b, .int .u8 c, .int .u8 d] 5)) := by
  rw [run_convert_bytes_string _ 29 9 5 _ _ _ Tryd.underlying29 Tryd.underlying5 Tryd.underlying9]
  rw [run_bytesToString _ _ 4 4 [a, b, c, d] (by simp [loadCells, go_sem])]
  rfl

def notC (c : Nat) : Int := bits BinOp.xor IntKind.u32 IntKind.u32.max (c : Int)
/-- the checksum's four bytes, the lowest first -/
def sumT (s : ByteArray) : ByteArray := by4 (notC (crcTo s s.size) % 256) (notC (crcTo s s.size) / 256 % 256) (notC (crcTo s s.size) / 65536 % 256) (notC (crcTo s s.size) / 16777216 % 256)

set_option maxRecDepth 4000 in
set_option maxHeartbeats 1000000 in
theorem sum_any (s : ByteArray) (hs : s.size ≤ 100000000) (w : World) :
    Calls Tryd.prog 17 #[.string s] w fun e w' => e = .returned (.string (sumT s)) ∧ Below w.heap.size w w' := by
  obtain ⟨n, hn⟩ : ∃ n, n = s.size := ⟨_, rfl⟩
  have hn1 : n ≤ 100000000 := by omega
  have hnI : (s.size : Int) = (n : Int) := by rw [hn]
  have hcv := byte4_string w
  go_enter Tryd.func17, Tryd.ntmps17
  go_wp2
  go_loopw [3, 4, 5] (fun x y z wr => ∃ (k c : Nat), k ≤ n ∧ y = .int .i64 k ∧ x = .int .u32 c ∧ Hid (c = crcTo s k) ∧ c < 4294967296 ∧ wr = w) (fun _ y _ _ => n - (intOf y).toNat)
  case atStart => exact ⟨0, 4294967295, Nat.zero_le _, rfl, rfl, rfl, by decide, rfl⟩
  case round =>
    obtain ⟨k, c, hk, rfl, rfl, hc, hcl, hw⟩ := hrel
    have hw' := hw.symm
    subst hw'
    by_cases hlt : k < n
    · have hltI : (k : Int) < (n : Int) := by omega
      have hks : k < s.size := by omega
      obtain ⟨b, hb⟩ : ∃ b, b = (bt s k).toNat := ⟨_, rfl⟩
      have hbl : b ≤ 255 := by rw [hb]; exact (bt_nat hks).2
      have hbI : (s[k].toNat : Int) = (b : Int) := by rw [bt_in hks, hb]; exact (bt_nat hks).1
      have hbw : IntKind.u32.wrap (b : Int) = (b : Int) := wrap_u32_in (by omega) (by omega)
      have hx := xor_nat hcl (show b < 4294967296 by omega)
      have hx2 := xor_lt hcl (show b < 4294967296 by omega)
      obtain ⟨x0, hx0⟩ : ∃ x0, x0 = c ^^^ b := ⟨_, rfl⟩
      rw [← hx0] at hx hx2
      have HX : Hid (crcTo s (k + 1) = stN 8 x0) := by show _ = _; rw [hx0, hc.out, hb]; rfl
      clear hx0 hb hc
      go_wp2
      go_loopw [3, 5] (fun x z wr => ∃ (j d : Nat), j ≤ 8 ∧ z = .int .i64 j ∧ x = .int .u32 d ∧ Hid (d = stN j x0) ∧ d < 4294967296 ∧ wr = w) (fun _ z _ => 8 - (intOf z).toNat)
      case atStart => exact ⟨0, x0, Nat.zero_le _, rfl, rfl, rfl, hx2, rfl⟩
      case round =>
        obtain ⟨j, d, hj, rfl, rfl, hd, hdl, hw⟩ := hrel
        have hw' := hw.symm
        subst hw'
        by_cases hj8 : j < 8
        · have hjI : (j : Int) < 8 := by omega
          have he2 : ((d / 2 : Nat) : Int) = (d : Int) / 2 := by omega
          have hq : bits BinOp.xor IntKind.u32 ((d : Int) / 2) 3988292384 = ((d / 2 ^^^ 3988292384 : Nat) : Int) := by rw [← he2]; exact xor_nat (a := d / 2) (b := 3988292384) (by omega) (by decide)
          clear he2
          have hst : Hid (st d = if d % 2 = 1 then (d / 2) ^^^ 3988292384 else d / 2) := rfl
          have hstl := st_lt hdl
          rcases Nat.mod_two_eq_zero_or_one d with hp | hp
          · have hpI : (d : Int) % 2 = 0 := by omega
            go_wp2
            go_roundw
            case rel => exact ⟨j + 1, st d, by omega, by go_num, by rw [hst.out, if_neg (by omega)]; go_num, by show _ = _; rw [hd.out]; rfl, hstl, trivial⟩
            case measure => simp [intOf]; omega
          · have hpI : (d : Int) % 2 = 1 := by omega
            go_wp2
            go_roundw
            case rel => exact ⟨j + 1, st d, by omega, by go_num, by rw [hst.out, if_pos hp], by show _ = _; rw [hd.out]; rfl, hstl, trivial⟩
            case measure => simp [intOf]; omega
        · have hj8' : j = 8 := by omega
          subst hj8'
          go_wp2
          go_roundw
          case rel => exact ⟨k + 1, d, by omega, by go_num, rfl, by show _ = _; rw [HX.out]; exact hd.out, hdl, trivial⟩
          case measure => simp [intOf]; omega
    · have hke : k = n := by omega
      have HC : Hid (sumT s = by4 (notC c % 256) (notC c / 256 % 256) (notC c / 65536 % 256) (notC c / 16777216 % 256)) := by
        have h : crcTo s s.size = c := by rw [hc.out, hke, hn]
        show _ = _
        unfold sumT
        rw [h]
      clear hc
      subst hke
      go_wp2
      go_ret
      exact ⟨ret_val (congrArg Value.string HC.out.symm), (Below.refl _ _).alloc (Nat.le_refl _) _⟩
end Go.Proofs.YtcknemblniemcaaDoor
