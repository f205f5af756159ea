/-
  The state behind many blocks: blocks whose bytes agree lead to the same; blocks in two pieces. No condition.
-/
import Derived.Test.YtlibipbpaigmdaaGreatDoorStir
namespace Go.Proofs.YtlibipbpaigmdaaGreatDoor
open Go.RowKit
set_option linter.unusedVariables false

theorem sch_ext {B C : Nat → Int} (h : ∀ i, i < 64 → B i = C i) : ∀ t, t < 64 → sch B t = sch C t := by
  intro t
  induction t using Nat.strongRecOn with
  | ind t ih =>
    intro ht
    by_cases h16 : t < 16
    · rw [sch_low B h16, sch_low C h16, h _ (by omega), h _ (by omega), h _ (by omega), h _ (by omega)]
    · rw [sch_high B h16, sch_high C h16, ih (t - 2) (by omega) (by omega), ih (t - 7) (by omega) (by omega), ih (t - 15) (by omega) (by omega), ih (t - 16) (by omega) (by omega)]

theorem rds_ext {K W V : Nat → Int} {s : S8} : ∀ n, (∀ i, i < n → W i = V i) → rds K W s n = rds K V s n
  | 0, _ => rfl
  | n + 1, h => by
    show rnd (K n) (W n) (rds K W s n) = rnd (K n) (V n) (rds K V s n)
    rw [rds_ext n (fun i hi => h i (by omega)), h n (by omega)]

theorem stir_ext {K : Nat → Int} {s : S8} {B C : Nat → Int} (h : ∀ i, i < 64 → B i = C i) : stir K s B = stir K s C := by
  unfold stir
  rw [rds_ext 64 (fun i hi => sch_ext h i hi)]

/-- the state behind n blocks -/
def stirN (K : Nat → Int) (s : S8) (B : Nat → Int) : Nat → S8
  | 0 => s
  | n + 1 => stir K (stirN K s B n) (fun i => B (64 * n + i))

theorem stirN_ext {K : Nat → Int} {s : S8} {B C : Nat → Int} : ∀ n, (∀ i, i < 64 * n → B i = C i) → stirN K s B n = stirN K s C n
  | 0, _ => rfl
  | n + 1, h => by
    show stir K (stirN K s B n) _ = stir K (stirN K s C n) _
    rw [stirN_ext n (fun i hi => h i (by omega)), stir_ext (C := fun i => C (64 * n + i)) (fun i hi => h _ (by omega))]

theorem stirN_add {K : Nat → Int} {s : S8} {B : Nat → Int} (m : Nat) : ∀ n, stirN K s B (m + n) = stirN K (stirN K s B m) (fun i => B (64 * m + i)) n
  | 0 => rfl
  | n + 1 => by
    show stir K (stirN K s B (m + n)) _ = stir K (stirN K (stirN K s B m) _ n) _
    rw [stirN_add m n]
    refine stir_ext fun i _ => ?_
    show B (64 * (m + n) + i) = B (64 * m + (64 * n + i))
    rw [show 64 * (m + n) + i = 64 * m + (64 * n + i) by omega]

/-- the four bytes of a word, the highest first -/
def by4 (x : Int) : List Int := [x / 16777216 % 256, x / 65536 % 256, x / 256 % 256, x % 256]
def S8.list (s : S8) : List Int := [s.a, s.b, s.c, s.d, s.e, s.f, s.g, s.h]
/-- a state's bytes -/
def S8.bytes (s : S8) : List Int := s.list.flatMap by4

/-- bytes as a text -/
def strB (l : List Int) : ByteArray := ⟨(l.map fun n => UInt8.ofNat n.toNat).toArray⟩
theorem strB_size (l : List Int) : (strB l).size = l.length := by
  show ((l.map fun n => UInt8.ofNat n.toNat).toArray).size = _
  simp
theorem foldl_strB : ∀ (l : List Int) (a : ByteArray), l.foldl (fun r n => r.push (UInt8.ofNat n.toNat)) a = a ++ strB l
  | [], a => ByteArray.append_empty.symm
  | x :: l, a => by
    rw [List.foldl_cons, foldl_strB l]
    apply ByteArray.ext
    apply Array.ext'
    simp [strB]

/-- the bytes of a text -/
def bl (s : ByteArray) : List Int := s.data.toList.map fun b => (b.toNat : Int)
theorem bl_len (s : ByteArray) : (bl s).length = s.size := by
  show _ = s.data.size
  simp [bl]
theorem bl_at {s : ByteArray} {i : Nat} (h : i < s.size) : (bl s)[i]? = some (bt s i) := by
  have h' : i < s.data.size := h
  rw [← bt_in h]
  unfold bl
  rw [List.getElem?_map, List.getElem?_eq_getElem (by simpa using h'), Option.map_some]
  rfl
theorem bl_append (a b : ByteArray) : bl (a ++ b) = bl a ++ bl b := by
  simp [bl]
theorem bl_extract (s : ByteArray) (i j : Nat) : bl (s.extract i j) = ((bl s).take j).drop i := by
  simp only [bl]
  rw [ByteArray.data_extract, Array.toList_extract]
  rw [List.extract_eq_drop_take', List.map_drop, List.map_take]
theorem bl_strB {l : List Int} (h : ∀ x ∈ l, 0 ≤ x ∧ x ≤ 255) : bl (strB l) = l := by
  have : (l.map fun n => UInt8.ofNat n.toNat).map (fun b => (b.toNat : Int)) = l := by
    rw [List.map_map]
    conv => rhs; rw [← List.map_id l]
    apply List.map_congr_left
    intro x hx
    have := h x hx
    show ((UInt8.ofNat x.toNat).toNat : Int) = x
    rw [UInt8.toNat_ofNat']
    omega
  exact this
theorem strB_bl (s : ByteArray) : strB (bl s) = s := by
  apply ByteArray.ext
  apply Array.ext'
  show (bl s).map (fun n => UInt8.ofNat n.toNat) = s.data.toList
  unfold bl
  rw [List.map_map]
  conv => rhs; rw [← List.map_id s.data.toList]
  apply List.map_congr_left
  intro b _
  show UInt8.ofNat ((b.toNat : Int).toNat) = b
  simp

/-- byte j of eight of a number, the highest first -/
def bigB (n : Int) (j : Nat) : Int := n / 2 ^ (8 * (7 - j)) % 256
def big (n : Int) (k : Nat) : List Int := (List.range k).map (bigB n)
theorem big_succ (n : Int) (k : Nat) : big n (k + 1) = big n k ++ [bigB n k] := by simp [big, List.range_succ]
theorem big_len (n : Int) (k : Nat) : (big n k).length = k := by simp [big]
theorem bigB_range (n : Int) (j : Nat) : 0 ≤ bigB n j ∧ bigB n j ≤ 255 := by unfold bigB; omega

/-- what is digested: the text, a byte 128, bytes 0, its length in bits -/
def msg (s : ByteArray) : List Int := bl s ++ [128] ++ List.replicate ((119 - s.size % 64) % 64) 0 ++ big (8 * s.size) 8
theorem msg_len (s : ByteArray) : (msg s).length = s.size + 1 + (119 - s.size % 64) % 64 + 8 := by simp [msg, bl_len, big_len]; omega

/-- the state behind a whole message -/
def sumS (K : Nat → Int) (s0 : S8) (s : ByteArray) : S8 := stirN K s0 (fun i => (msg s).getD i 0) ((msg s).length / 64)

theorem bl_padB (s : ByteArray) (k : Nat) : bl (padB s k) = bl s ++ [128] ++ List.replicate k 0 := by
  unfold padB
  rw [bl_append, bl_append]
  congr 1
  unfold bl zeros
  induction k with
  | zero => rfl
  | succ k ih =>
    rw [List.replicate_succ, ← ih]
    simp [Lib.repeatL]

/-- the last blocks -/
def lastB (s : ByteArray) : List Int := ((bl s).drop (s.size - s.size % 64)) ++ [128] ++ List.replicate ((119 - s.size % 64) % 64) 0 ++ big (8 * s.size) 8
theorem msg_two (s : ByteArray) : msg s = (bl s).take (s.size - s.size % 64) ++ lastB s := by
  unfold msg lastB
  rw [← List.append_assoc, ← List.append_assoc, ← List.append_assoc, List.take_append_drop]
theorem lastB_len (s : ByteArray) : (lastB s).length = s.size % 64 + 1 + (119 - s.size % 64) % 64 + 8 := by simp [lastB, bl_len, big_len]; omega

theorem sumS_two (K : Nat → Int) (s0 : S8) (s : ByteArray) (B C : Nat → Int) (hB : ∀ i, i < s.size - s.size % 64 → B i = bt s i) (hC : ∀ i, i < (lastB s).length → C i = (lastB s).getD i 0) :
    sumS K s0 s = stirN K (stirN K s0 B ((s.size - s.size % 64) / 64)) C ((lastB s).length / 64) := by
  unfold sumS
  have hm := msg_len s
  have hl := lastB_len s
  rw [show (msg s).length / 64 = (s.size - s.size % 64) / 64 + (lastB s).length / 64 by omega, stirN_add]
  have hlt : ((bl s).take (s.size - s.size % 64)).length = s.size - s.size % 64 := by rw [List.length_take, bl_len]; omega
  rw [stirN_ext (C := B) ((s.size - s.size % 64) / 64)]
  · refine stirN_ext _ fun i hi => ?_
    rw [hC i (by omega), msg_two, List.getD, List.getD, List.getElem?_append_right (by omega), hlt]
    congr 2
    omega
  · intro i hi
    rw [hB i (by omega), msg_two, List.getD, List.getElem?_append_left (by omega), List.getElem?_take_of_lt (by omega), bl_at (by omega)]
    rfl
end Go.Proofs.YtlibipbpaigmdaaGreatDoor
