/-
  The laws' own functions over numbers: the size left, a copy. No condition but that the slice reads.
-/
import Derived.Test.YtjnngncnfbdpkaaIL
namespace Go.Proofs.Ytjnngncnfbdpkaa
open Go.RowKit
set_option linter.unusedVariables false

theorem szI_any (v : Value) (L : List Int) (left : Int) (w : World) (h : RdI w v L) (h0 : 0 ≤ left) (h1 : left ≤ 1048576) :
    Calls Try.prog 40 #[v, .int .i64 left] w fun e w' => e = .returned (.int .i64 (if left - (L.length : Int) < 0 then -1 else left - (L.length : Int))) ∧ w' = w := by
  obtain ⟨a, cap, rfl, hlc, hcm, _⟩ := h
  obtain ⟨len, hlen⟩ : ∃ len, len = L.length := ⟨_, rfl⟩
  rw [← hlen] at hlc ⊢
  clear hlen
  by_cases h : left - (len : Int) < 0
  · rw [if_pos h]
    go_enter Try.func40, Try.ntmps40
    go_wp2
    go_ret
    exact ⟨rfl, rfl⟩
  · rw [if_neg h]
    go_enter Try.func40, Try.ntmps40
    go_wp2
    go_ret
    exact ⟨rfl, rfl⟩

/-- what toInt64S has written when k rounds are over -/
def copyTo (Z : Nat → Int) (n k : Nat) : List Value := (List.range n).map fun i => .int .i64 (if i < k then Z i else 0)

theorem made_ints (Z : Nat → Int) (n : Nat) : (madeCells (Value.int .i64 0).cells (n * 1)).toList = copyTo Z n 0 := by
  apply List.ext_getElem?
  intro i
  simp only [copyTo, madeCells, Value.cells, List.getElem?_map]
  by_cases h : i < n
  · simp [h, Nat.mod_one]
  · simp [h]

theorem copyTo_set (Z : Nat → Int) (n k : Nat) (hk : k < n) : (copyTo Z n k).set k (.int .i64 (Z k)) = copyTo Z n (k + 1) := by
  apply List.ext_getElem?
  intro i
  unfold copyTo
  rw [List.getElem?_set]
  by_cases hik : k = i
  · subst hik
    simp [hk]
  · rw [if_neg hik, List.getElem?_map, List.getElem?_map]
    have e : (i < k) ↔ (i < k + 1) := by omega
    by_cases h : i < n
    · simp [h, e]
    · simp [h]

theorem copyTo_all (L : List Int) : copyTo (fun i => L.getD i 0) L.length L.length = L.map (.int .i64 ·) := by
  apply List.ext_getElem?
  intro i
  unfold copyTo
  by_cases h : i < L.length
  · simp [h]
  · simp [h]

set_option maxHeartbeats 400000 in
theorem toI_any (v : Value) (L : List Int) (w : World) (h : RdI w v L) (hlen : L.length ≤ 1048576) :
    Calls Try.prog 41 #[v] w fun e w' => e = .returned (.slice (some ⟨w.heap.size, 0, none⟩) L.length L.length) ∧ OwnI w' w.heap.size (.slice (some ⟨w.heap.size, 0, none⟩) L.length L.length) L ∧ Below w.heap.size w w' := by
  obtain ⟨a, cap, rfl, hlc, hcm, hc⟩ := h
  have HF : Hid (copyTo (fun i => L.getD i 0) L.length L.length = L.map (.int .i64 ·)) := copyTo_all L
  obtain ⟨Z, hZ⟩ : ∃ Z : Nat → Int, Z = fun i => L.getD i 0 := ⟨_, rfl⟩
  have hc' : 0 < L.length → ∃ b off, a = some ⟨b, off, none⟩ ∧ b < w.heap.size ∧ ∀ i, i < L.length → w.cell? ⟨b, off + i, none⟩ = some (.int .i64 (Z i)) := by rw [hZ]; exact hc
  rw [← hZ] at HF
  obtain ⟨len, hl⟩ : ∃ len, len = L.length := ⟨_, rfl⟩
  have HL : Hid (len = L.length) := hl
  rw [← hl] at hlc hlen hc' HF ⊢
  clear hc hZ hl
  obtain ⟨i0, hi, hz0, hz1, hz2⟩ := info_parts infoI
  have hb2 : i0.bytes * len ≤ 281474976710656 := by rw [hz2]; omega
  have hb3 : len ≤ maxLen := by unfold maxLen; omega
  go_enter Try.func41, Try.ntmps41
  go_wp2_with (at_make; refine wpList_make_full _ rfl _ _ 36 rfl w.heap.size 2 i0 (.int .i64 0) 1 Try.underlying36 hi hz0 hz1 .i64 .i64 _ _ len rfl rfl rfl rfl hb2 hb3 (Nat.le_refl _) ?_; intro w1 hown hgrow)
  have hB1 : Below w.heap.size w w1 := (Below.refl _ w).grown hgrow (Nat.le_refl _) (fun k hk => by cases hk)
  rw [made_ints Z len] at hown
  clear hgrow
  go_loopw [4] (fun i wr => ∃ k : Nat, k ≤ len ∧ i = .int .i64 k ∧ wr.ownsRow w.heap.size 2 1 (.slice (some ⟨w.heap.size, 0, none⟩) len len) len (copyTo Z len k) ∧ Below w.heap.size w wr)
    (fun i _ => len - (intOf i).toNat)
  case atStart => exact ⟨0, Nat.zero_le _, rfl, hown, hB1⟩
  case round =>
    obtain ⟨k, hk, rfl, how, hB⟩ := hrel
    by_cases hlt : k < len
    · obtain ⟨b, off, rfl, hbs, hcell⟩ := hc' (by omega)
      have hck : wr.cell? ⟨b, off + k, none⟩ = some (.int .i64 (Z k)) := (hB.cell (p := ⟨b, off + k, none⟩) hbs).trans (hcell k hlt)
      have hfz := how.frozenAt k
      have hcl : ∃ v, wr.cell? ⟨w.heap.size, k, none⟩ = some v := by
        rw [how.cellAt k (by omega)]
        simp [copyTo, hlt]
      obtain ⟨v0, hcl⟩ := hcl
      have hst := (how.stored k (.int .i64 (Z k))).1
      rw [copyTo_set Z len k hlt] at hst
      have hB' : Below w.heap.size w (wr.setCell ⟨w.heap.size, k, none⟩ (.int .i64 (Z k))) := hB.setCell (p := ⟨w.heap.size, k, none⟩) (Nat.le_refl _) _
      clear how hown hB hB1
      go_wp2
      go_roundw
      case rel => exact ⟨k + 1, by omega, by go_num, hst, hB'⟩
      case measure => simp [intOf]; omega
    · have hke : k = len := by omega
      subst hke
      have hfin : Hid (OwnI wr w.heap.size (.slice (some ⟨w.heap.size, 0, none⟩) k k) L) := by
        show OwnI _ _ _ _
        unfold OwnI
        rw [← HL.out, ← HF.out]
        exact how
      clear how hown hB1 HF
      go_wp2
      go_ret
      exact ⟨rfl, hfin.out, hB⟩
end Go.Proofs.Ytjnngncnfbdpkaa
