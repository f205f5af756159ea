/-
  The checksum as plain functions of numbers: bit by bit, and half a byte at a time by a table: the same. No condition.
-/
import Derived.Test.YtcknemblniemcaaDoorTxt
namespace Go.Proofs.YtcknemblniemcaaDoor
open Go.RowKit
set_option linter.unusedVariables false

def st (c : Nat) : Nat := if c % 2 = 1 then (c / 2) ^^^ 3988292384 else c / 2
def stN : Nat → Nat → Nat
  | 0, c => c
  | k + 1, c => st (stN k c)
def halfL : List Nat := [0, 498536548, 997073096, 651767980, 1994146192, 1802195444, 1303535960, 1342533948, 3988292384, 4027552580, 3604390888, 3412177804, 2607071920, 2262029012, 2685067896, 3183342108]
def tb (r : Nat) : Nat := halfL.getD r 0
def hf (c : Nat) : Nat := (c / 16) ^^^ tb (c % 16)

theorem div_xor (a b : Nat) : (a ^^^ b) / 2 = (a / 2) ^^^ (b / 2) := by
  have := Nat.shiftRight_xor_distrib (a := a) (b := b) (i := 1)
  simpa [Nat.shiftRight_eq_div_pow] using this
theorem div16_xor (a b : Nat) : (a ^^^ b) / 16 = (a / 16) ^^^ (b / 16) := by
  have := Nat.shiftRight_xor_distrib (a := a) (b := b) (i := 4)
  simpa [Nat.shiftRight_eq_div_pow] using this
theorem mod_xor (a b : Nat) : (a ^^^ b) % 2 = ((a % 2) ^^^ (b % 2)) := by
  have := Nat.xor_mod_two_pow (a := a) (b := b) (n := 1)
  simpa using this
theorem mod16_xor (a b : Nat) : (a ^^^ b) % 16 = ((a % 16) ^^^ (b % 16)) := by
  have := Nat.xor_mod_two_pow (a := a) (b := b) (n := 4)
  simpa using this

theorem st_xor (a b : Nat) : st (a ^^^ b) = st a ^^^ st b := by
  have hd := div_xor a b
  have hm := mod_xor a b
  unfold st
  rcases Nat.mod_two_eq_zero_or_one a with ha | ha <;> rcases Nat.mod_two_eq_zero_or_one b with hb | hb
  · rw [hm, ha, hb, hd]; simp
  · rw [hm, ha, hb, hd]; simp [Nat.xor_assoc]
  · rw [hm, ha, hb, hd]; simp [Nat.xor_assoc, Nat.xor_comm]; rw [← Nat.xor_assoc, ← Nat.xor_assoc, Nat.xor_comm (a / 2)]
  · rw [hm, ha, hb, hd]
    simp only [Nat.xor_self, if_neg (show ¬ (0 = 1) by decide), if_pos]
    rw [Nat.xor_assoc, Nat.xor_comm 3988292384, Nat.xor_assoc, Nat.xor_self, Nat.xor_zero]
theorem stN_xor (k a b : Nat) : stN k (a ^^^ b) = stN k a ^^^ stN k b := by
  induction k with
  | zero => rfl
  | succ k ih => show st (stN k (a ^^^ b)) = _; rw [ih, st_xor]; rfl
theorem st_even (m : Nat) : st (2 * m) = m := by
  unfold st
  rw [if_neg (by omega)]
  omega
theorem stN4_16 (m : Nat) : stN 4 (16 * m) = m := by
  show st (st (st (st (16 * m)))) = m
  rw [show 16 * m = 2 * (2 * (2 * (2 * m))) by omega, st_even, st_even, st_even, st_even]
theorem stN4_small : ∀ r : Fin 16, stN 4 r.val = tb r.val := by decide
theorem st4 (c : Nat) : stN 4 c = hf c := by
  obtain ⟨y, hy⟩ : ∃ y, y = c ^^^ (c % 16) := ⟨_, rfl⟩
  have h1 : y % 16 = 0 := by rw [hy, mod16_xor, Nat.mod_mod, Nat.xor_self]
  have h2 : y / 16 = c / 16 := by rw [hy, div16_xor, Nat.div_eq_of_lt (Nat.mod_lt c (by decide)), Nat.xor_zero]
  have h3 : y = 16 * (c / 16) := by omega
  have h4 : c = (16 * (c / 16)) ^^^ (c % 16) := by rw [← h3, hy, Nat.xor_assoc, Nat.xor_self, Nat.xor_zero]
  have h5 := stN_xor 4 (16 * (c / 16)) (c % 16)
  rw [← h4, stN4_16, stN4_small ⟨c % 16, Nat.mod_lt c (by decide)⟩] at h5
  exact h5
theorem stN_add (a b c : Nat) : stN (a + b) c = stN a (stN b c) := by
  induction a with
  | zero => rw [Nat.zero_add]; rfl
  | succ a ih => rw [show a + 1 + b = (a + b) + 1 by omega]; show st (stN (a + b) c) = _; rw [ih]; rfl
theorem st8 (c : Nat) : stN 8 c = hf (hf c) := by
  rw [show (8 : Nat) = 4 + 4 from rfl, stN_add, st4, st4]

theorem xor_lt {a b : Nat} (ha : a < 4294967296) (hb : b < 4294967296) : a ^^^ b < 4294967296 := Nat.xor_lt_two_pow (n := 32) ha hb
theorem st_lt {c : Nat} (h : c < 4294967296) : st c < 4294967296 := by
  unfold st
  split
  · exact xor_lt (by omega) (by decide)
  · omega
theorem stN_lt {c : Nat} (h : c < 4294967296) : ∀ k, stN k c < 4294967296
  | 0 => h
  | k + 1 => st_lt (stN_lt h k)

/-- the checksum of the first k bytes, not turned yet -/
def crcTo (s : ByteArray) : Nat → Nat
  | 0 => 4294967295
  | k + 1 => stN 8 (crcTo s k ^^^ (bt s k).toNat)
theorem bt_nat {s : ByteArray} {k : Nat} (h : k < s.size) : bt s k = (((bt s k).toNat : Nat) : Int) ∧ (bt s k).toNat ≤ 255 := by
  have := bt_range h
  omega
theorem crcTo_lt (s : ByteArray) : ∀ k, k ≤ s.size → crcTo s k < 4294967296
  | 0, _ => by show 4294967295 < 4294967296; decide
  | k + 1, h => by
    have := (bt_nat (s := s) (k := k) (by omega)).2
    exact stN_lt (xor_lt (crcTo_lt s k (by omega)) (by omega)) 8

theorem wrap_u32_in {x : Int} (h0 : 0 ≤ x) (h1 : x < 4294967296) : IntKind.u32.wrap x = x := by rw [IntKind.wrap_u32]; omega
theorem xor_nat {a b : Nat} (ha : a < 4294967296) (hb : b < 4294967296) : bits BinOp.xor IntKind.u32 (a : Int) (b : Int) = ((a ^^^ b : Nat) : Int) := by
  show IntKind.u32.wrap ((BitVec.ofInt 32 (a : Int) ^^^ BitVec.ofInt 32 (b : Int)).toNat : Int) = _
  have e : (BitVec.ofInt 32 (a : Int) ^^^ BitVec.ofInt 32 (b : Int)).toNat = a ^^^ b := by
    rw [BitVec.toNat_xor, BitVec.ofInt_natCast, BitVec.ofInt_natCast, BitVec.toNat_ofNat, BitVec.toNat_ofNat, Nat.mod_eq_of_lt ha, Nat.mod_eq_of_lt hb]
  rw [e]
  have := xor_lt ha hb
  exact wrap_u32_in (by omega) (by omega)
theorem and_nat {a : Nat} (ha : a < 4294967296) : bits BinOp.and IntKind.u32 (a : Int) 15 = ((a % 16 : Nat) : Int) := by
  show IntKind.u32.wrap ((BitVec.ofInt 32 (a : Int) &&& BitVec.ofInt 32 ((15 : Nat) : Int)).toNat : Int) = _
  have e : (BitVec.ofInt 32 (a : Int) &&& BitVec.ofInt 32 ((15 : Nat) : Int)).toNat = a % 16 := by
    rw [BitVec.toNat_and, BitVec.ofInt_natCast, BitVec.ofInt_natCast, BitVec.toNat_ofNat, BitVec.toNat_ofNat, Nat.mod_eq_of_lt ha, Nat.mod_eq_of_lt (show 15 < 2 ^ 32 by decide)]
    exact Nat.and_two_pow_sub_one_eq_mod a 4
  rw [e]
  exact wrap_u32_in (by omega) (by omega)
end Go.Proofs.YtcknemblniemcaaDoor
