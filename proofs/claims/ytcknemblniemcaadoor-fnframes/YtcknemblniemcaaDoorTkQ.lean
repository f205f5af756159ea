/-
  Frames of a rest of a text; a length there and back. No condition.
-/
import Derived.Test.YtcknemblniemcaaDoorTkP
namespace Go.Proofs.YtcknemblniemcaaDoor
open Go.RowKit
set_option linter.unusedVariables false

theorem bn_rest {s : ByteArray} {p i : Nat} (h : p + i < s.size) : bn (s.extract p s.size) i = bn s (p + i) := by
  have h1 : i < (s.extract p s.size).size := by rw [ByteArray.size_extract]; omega
  have e1 := bn_eq h1
  have e2 := bn_eq h
  have e3 : (s.extract p s.size)[i] = s[p + i] := ByteArray.getElem_extract h1
  rw [e3] at e1
  omega
theorem wdTo_rest {s : ByteArray} {p : Nat} : ∀ k, p + k ≤ s.size → wdTo (s.extract p s.size) 0 k = wdTo s p k
  | 0, _ => rfl
  | k + 1, h => by
    show 256 * wdTo (s.extract p s.size) 0 k + bn (s.extract p s.size) (0 + k) = 256 * wdTo s p k + bn s (p + k)
    rw [wdTo_rest k (by omega), Nat.zero_add, bn_rest (by omega)]
theorem wd_rest {s : ByteArray} {p : Nat} (h : p + 4 ≤ s.size) : wd (s.extract p s.size) 0 = wd s p := wdTo_rest 4 h
theorem ext_rest {s : ByteArray} {p i j : Nat} (h : p + j ≤ s.size) : (s.extract p s.size).extract i j = s.extract (p + i) (p + j) := by
  rw [ByteArray.extract_extract, Nat.min_eq_left h]
theorem ext_end {s : ByteArray} {p i : Nat} (h : p ≤ s.size) : (s.extract p s.size).extract i (s.extract p s.size).size = s.extract (p + i) s.size := by
  rw [ByteArray.extract_extract, ByteArray.size_extract, Nat.min_eq_left (Nat.le_refl _), Nat.min_eq_left (by omega), show p + (s.size - p) = s.size by omega]
theorem size_rest {s : ByteArray} {p : Nat} (h : p ≤ s.size) : (s.extract p s.size).size = s.size - p := by
  rw [ByteArray.size_extract]; omega
theorem dat_rest {s : ByteArray} {p : Nat} (h : p + 4 ≤ s.size) (h2 : p + 8 + wd s p ≤ s.size) : dat (s.extract p s.size) 0 = dat s p := by
  unfold dat
  rw [wd_rest h, ext_rest (by omega)]
  congr 1
  · omega
theorem frB_rest {s : ByteArray} {p : Nat} (h : p ≤ s.size) : frB (s.extract p s.size) 0 = frB s p := by
  unfold frB
  rw [size_rest h]
  by_cases h8 : p + 8 ≤ s.size
  · rw [decide_eq_true h8, decide_eq_true (show 0 + 8 ≤ s.size - p by omega), wd_rest (by omega)]
    by_cases hb : wd s p ≤ 100000
    · rw [decide_eq_true hb]
      by_cases hf : p + 8 + wd s p ≤ s.size
      · rw [decide_eq_true hf, decide_eq_true (show 0 + 8 + wd s p ≤ s.size - p by omega), dat_rest (by omega) hf, ext_rest (by omega)]
      · rw [decide_eq_false hf, decide_eq_false (show ¬ 0 + 8 + wd s p ≤ s.size - p by omega)]; simp only [Bool.false_and, Bool.and_false]
    · rw [decide_eq_false hb]; simp only [Bool.false_and, Bool.and_false]
  · rw [decide_eq_false h8, decide_eq_false (show ¬ 0 + 8 ≤ s.size - p by omega)]; simp only [Bool.false_and]

theorem wd_sum (s : ByteArray) (p : Nat) : wd s p = ((bn s p * 256 + bn s (p + 1)) * 256 + bn s (p + 2)) * 256 + bn s (p + 3) := by
  show 256 * (256 * (256 * (256 * 0 + bn s (p + 0)) + bn s (p + 1)) + bn s (p + 2)) + bn s (p + 3) = _
  rw [Nat.add_zero]
  omega
theorem byte_bn {s : ByteArray} {i : Nat} (h : i < s.size) : UInt8.ofNat (bn s i) = s[i] := by
  apply UInt8.toNat_inj.1
  have e := bn_eq h
  have l := bn_le h
  rw [UInt8.toNat_ofNat']
  omega
theorem ext4 {s : ByteArray} (h : 4 ≤ s.size) : s.extract 0 4 = ⟨#[s[0], s[1], s[2], s[3]]⟩ := by
  apply ByteArray.ext
  apply Array.ext
  · rw [show (s.extract 0 4).data.size = (s.extract 0 4).size from rfl, ByteArray.size_extract]
    show min 4 s.size - 0 = 4
    omega
  · intro i h1 h2
    have h2' : i < 4 := h2
    have e : (s.extract 0 4).data[i] = s.data[0 + i]'(by have : s.data.size = s.size := rfl; omega) := by
      simp [ByteArray.data_extract]
    rw [e]
    rcases (show i = 0 ∨ i = 1 ∨ i = 2 ∨ i = 3 by omega) with rfl | rfl | rfl | rfl <;> rfl
theorem len_back {s : ByteArray} (h : 4 ≤ s.size) : lenT (wd s 0) = s.extract 0 4 := by
  rw [ext4 h]
  have l0 := bn_le (s := s) (i := 0) (by omega)
  have l1 := bn_le (s := s) (i := 1) (by omega)
  have l2 := bn_le (s := s) (i := 2) (by omega)
  have l3 := bn_le (s := s) (i := 3) (by omega)
  have hw := wd_sum s 0
  simp only [Nat.zero_add] at hw
  unfold lenT by4
  rw [show (((wd s 0 : Nat) : Int) / 16777216 % 256).toNat = bn s 0 by omega, show (((wd s 0 : Nat) : Int) / 65536 % 256).toNat = bn s 1 by omega, show (((wd s 0 : Nat) : Int) / 256 % 256).toNat = bn s 2 by omega, show (((wd s 0 : Nat) : Int) % 256).toNat = bn s 3 by omega,
    byte_bn (by omega), byte_bn (by omega), byte_bn (by omega), byte_bn (by omega)]

theorem toList_inj {a b : ByteArray} (h : a.toList = b.toList) : a = b := by
  apply ByteArray.ext
  apply Array.ext'
  rw [ByteArray.toList_eq, ByteArray.toList_eq] at h
  exact h
/-- a head that is the right one: its sum is -/
theorem head_sum {r d : ByteArray} (h : 8 ≤ r.size) (hd : d.size = wd r 0) : ((r.extract 0 8).toList == (headT d).toList) = ((sumT d).toList == (r.extract 4 8).toList) := by
  have e1 : r.extract 0 8 = r.extract 0 4 ++ r.extract 4 8 := by
    have := ByteArray.extract_append_extract (a := r) (i := 0) (j := 4) (k := 8)
    rw [this]
    congr 1
  have e2 : headT d = r.extract 0 4 ++ sumT d := by unfold headT; rw [hd, len_back (by omega)]
  rw [e1, e2]
  have hiff : (r.extract 0 4 ++ r.extract 4 8).toList = (r.extract 0 4 ++ sumT d).toList ↔ (sumT d).toList = (r.extract 4 8).toList := by
    constructor
    · intro q
      have q2 := toList_inj q
      have := congrArg (fun x : ByteArray => x.data.toList) q2
      simp only [ByteArray.data_append, Array.toList_append] at this
      have := List.append_cancel_left this
      rw [show sumT d = r.extract 4 8 from (ByteArray.ext (Array.ext' this)).symm]
    · intro q
      rw [toList_inj q]
  cases hq : ((sumT d).toList == (r.extract 4 8).toList) with
  | true => exact beq_iff_eq.2 (hiff.2 (beq_iff_eq.1 hq))
  | false =>
    cases hp : ((r.extract 0 4 ++ r.extract 4 8).toList == (r.extract 0 4 ++ sumT d).toList) with
    | false => rfl
    | true => rw [beq_iff_eq.2 (hiff.1 (beq_iff_eq.1 hp))] at hq; cases hq

theorem or_nat {a b : Nat} (ha : a < 4294967296) (hb : b < 4294967296) : bits BinOp.or IntKind.u32 (a : Int) (b : Int) = ((a ||| b : Nat) : Int) := by
  show IntKind.u32.wrap ((BitVec.ofInt 32 (a : Int) ||| BitVec.ofInt 32 (b : Int)).toNat : Int) = _
  have e : (BitVec.ofInt 32 (a : Int) ||| BitVec.ofInt 32 (b : Int)).toNat = a ||| b := by
    rw [BitVec.toNat_or, BitVec.ofInt_natCast, BitVec.ofInt_natCast, BitVec.toNat_ofNat, BitVec.toNat_ofNat, Nat.mod_eq_of_lt ha, Nat.mod_eq_of_lt hb]
  rw [e]
  have : a ||| b < 4294967296 := Nat.or_lt_two_pow (n := 32) ha hb
  exact wrap_u32_in (by omega) (by omega)
theorem or_word {b0 b1 b2 b3 : Nat} (h0 : b0 ≤ 255) (h1 : b1 ≤ 255) (h2 : b2 ≤ 255) (h3 : b3 ≤ 255) :
    bits BinOp.or IntKind.u32 (bits BinOp.or IntKind.u32 (bits BinOp.or IntKind.u32 ((b0 : Int) * 16777216) ((b1 : Int) * 65536)) ((b2 : Int) * 256)) (b3 : Int) = ((((b0 * 256 + b1) * 256 + b2) * 256 + b3 : Nat) : Int) := by
  have e0 : (b0 : Int) * 16777216 = ((2 ^ 24 * b0 : Nat) : Int) := by omega
  have e1 : (b1 : Int) * 65536 = ((65536 * b1 : Nat) : Int) := by omega
  have e2 : (b2 : Int) * 256 = ((256 * b2 : Nat) : Int) := by omega
  have q0 : 2 ^ 24 * b0 ||| 65536 * b1 = 2 ^ 16 * (256 * b0 + b1) := by
    rw [← Nat.two_pow_add_eq_or_of_lt (show 65536 * b1 < 2 ^ 24 by omega)]; omega
  have q1 : 2 ^ 16 * (256 * b0 + b1) ||| 256 * b2 = 2 ^ 8 * (65536 * b0 + 256 * b1 + b2) := by
    rw [← Nat.two_pow_add_eq_or_of_lt (show 256 * b2 < 2 ^ 16 by omega)]; omega
  have q2 : 2 ^ 8 * (65536 * b0 + 256 * b1 + b2) ||| b3 = ((b0 * 256 + b1) * 256 + b2) * 256 + b3 := by
    rw [← Nat.two_pow_add_eq_or_of_lt (show b3 < 2 ^ 8 by omega)]; omega
  rw [e0, e1, or_nat (by omega) (by omega), q0, e2, or_nat (by omega) (by omega), q1, or_nat (by omega) (by omega), q2]
end Go.Proofs.YtcknemblniemcaaDoor
