/-
  The program's checksum and headOf, for texts of at most 100,000,000 bytes, in worlds in which the table halfLeft lies.
-/
import Derived.Test.YtcknemblniemcaaDoorCrcS
namespace Go.Proofs.YtcknemblniemcaaDoor
open Go.RowKit
set_option linter.unusedVariables false

/-- the table lies in block 0 -/
def Halves (w : World) : Prop := ∀ k, k < 16 → w.cell? ⟨0, k, none⟩ = some (.int .u32 (tb k))
theorem Halves.below {w w' : World} (h : Halves w) (hB : Below w.heap.size w w') : Halves w' := fun k hk => by
  have hl := cell_lt (h k hk)
  exact (hB.cell (p := ⟨0, k, none⟩) hl).trans (h k hk)
theorem tb_lt : ∀ r : Fin 16, tb r.val < 4294967296 := by decide
theorem hf_lt {c : Nat} (h : c < 4294967296) : hf c < 4294967296 := by
  unfold hf
  exact xor_lt (by omega) (tb_lt ⟨c % 16, Nat.mod_lt c (by decide)⟩)

set_option maxRecDepth 4000 in
set_option maxHeartbeats 1000000 in
theorem check_any (s : ByteArray) (hs : s.size ≤ 100000000) (w : World) (hT : Halves w) :
    Calls Tryd.prog 26 #[.string s] w fun e w' => e = .returned (.int .u32 (notC (crcTo s s.size))) ∧ w' = w := by
  obtain ⟨n, hn⟩ : ∃ n, n = s.size := ⟨_, rfl⟩
  have hn1 : n ≤ 100000000 := by omega
  have hnI : (s.size : Int) = (n : Int) := by rw [hn]
  have HT := (show Hid _ from hT)
  clear hT
  go_enter Tryd.func26, Tryd.ntmps26
  go_wp2
  go_loopw [3, 4, 7] (fun x z y wr => ∃ (k c : Nat), k ≤ n ∧ y = .int .i64 k ∧ x = .int .u32 c ∧ Hid (c = crcTo s k) ∧ c < 4294967296 ∧ wr = w) (fun _ _ y _ => n - (intOf y).toNat)
  case atStart => exact ⟨0, 4294967295, Nat.zero_le _, rfl, rfl, rfl, by decide, rfl⟩
  case round =>
    obtain ⟨k, c, hk, rfl, rfl, hc, hcl, hw⟩ := hrel
    have hw' := hw.symm
    subst hw'
    by_cases hlt : k < n
    · have hltI : (k : Int) < (n : Int) := by omega
      have hks : k < s.size := by omega
      obtain ⟨b, hb⟩ : ∃ b, b = (bt s k).toNat := ⟨_, rfl⟩
      have hbl : b ≤ 255 := by rw [hb]; exact (bt_nat hks).2
      have hbI : (s[k].toNat : Int) = (b : Int) := by rw [bt_in hks, hb]; exact (bt_nat hks).1
      have hbw : IntKind.u32.wrap (b : Int) = (b : Int) := wrap_u32_in (by omega) (by omega)
      have hx := xor_nat hcl (show b < 4294967296 by omega)
      have hx2 := xor_lt hcl (show b < 4294967296 by omega)
      obtain ⟨x0, hx0⟩ : ∃ x0, x0 = c ^^^ b := ⟨_, rfl⟩
      rw [← hx0] at hx hx2
      obtain ⟨x1, hx1⟩ : ∃ x1, x1 = hf x0 := ⟨_, rfl⟩
      obtain ⟨x2, hx2'⟩ : ∃ x2, x2 = hf x1 := ⟨_, rfl⟩
      have hl1 : x1 < 4294967296 := by rw [hx1]; exact hf_lt hx2
      have hl2 : x2 < 4294967296 := by rw [hx2']; exact hf_lt hl1
      have HX : Hid (crcTo s (k + 1) = x2) := by
        show _ = _
        rw [hx2', hx1, ← st8, hx0, hc.out, hb]; rfl
      obtain ⟨r0, hr0⟩ : ∃ r0, r0 = x0 % 16 := ⟨_, rfl⟩
      obtain ⟨r1, hr1⟩ : ∃ r1, r1 = x1 % 16 := ⟨_, rfl⟩
      obtain ⟨v0, hv0⟩ : ∃ v0, v0 = tb r0 := ⟨_, rfl⟩
      obtain ⟨v1, hv1⟩ : ∃ v1, v1 = tb r1 := ⟨_, rfl⟩
      have hr0l : r0 < 16 := by omega
      have hr1l : r1 < 16 := by omega
      have t0 : w.cell? ⟨0, r0, none⟩ = some (.int .u32 v0) := by rw [hv0]; exact HT.out r0 hr0l
      have t1 : w.cell? ⟨0, r1, none⟩ = some (.int .u32 v1) := by rw [hv1]; exact HT.out r1 hr1l
      have a0 : bits BinOp.and IntKind.u32 (x0 : Int) 15 = (r0 : Int) := by rw [hr0]; exact and_nat hx2
      have a1 : bits BinOp.and IntKind.u32 (x1 : Int) 15 = (r1 : Int) := by rw [hr1]; exact and_nat hl1
      have e0 : ((x0 / 16 : Nat) : Int) = (x0 : Int) / 16 := by omega
      have e1 : ((x1 / 16 : Nat) : Int) = (x1 : Int) / 16 := by omega
      have q0 : bits BinOp.xor IntKind.u32 ((x0 : Int) / 16) (v0 : Int) = (x1 : Int) := by
        rw [← e0, xor_nat (by omega) (by rw [hv0]; exact tb_lt ⟨r0, hr0l⟩), hv0, hr0, hx1]; rfl
      have q1 : bits BinOp.xor IntKind.u32 ((x1 : Int) / 16) (v1 : Int) = (x2 : Int) := by
        rw [← e1, xor_nat (by omega) (by rw [hv1]; exact tb_lt ⟨r1, hr1l⟩), hv1, hr1, hx2']; rfl
      have i0 : (r0 : Int) < 16 := by omega
      have i1 : (r1 : Int) < 16 := by omega
      clear hx0 hx1 hx2' hb hc hr0 hr1 hv0 hv1 e0 e1
      go_wp2
      go_roundw
      case rel => exact ⟨k + 1, x2, by omega, by go_num, rfl, by show _ = _; exact HX.out.symm, hl2, trivial⟩
      case measure => simp [intOf]; omega
    · have hke : k = n := by omega
      have HC : Hid (notC (crcTo s s.size) = notC c) := by
        have h : crcTo s s.size = c := by rw [hc.out, hke, hn]
        show _ = _
        rw [h]
      clear hc
      subst hke
      go_wp2
      go_ret
      exact ⟨ret_int HC.out.symm, rfl⟩
end Go.Proofs.YtcknemblniemcaaDoor
