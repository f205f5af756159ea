/-
  The four small functions over []int64 return what plain lists say: the size left, a copy, equality, whether the list rises. No condition but that the slice reads.
-/
import Derived.Test.YtcolcnkjcagbaaaDoorChecked
import Derived.WalkKit
import Derived.WalkLawsBesides
import Derived.WalkSpells
import Derived.Below
import Derived.WalkSmall
import Derived.Deep.QuietTactic
import Derived.BigQuiet
namespace Go.Proofs.YtcolcnkjcagbaaaDoor.Ep
open Go.RowKit
set_option linter.unusedVariables false

/-- a slice of int64 that reads as the numbers Z 0, Z 1, .. in world w -/
def IsI64 (w : World) (a : Option Addr) (len cap : Nat) (Z : Nat → Int) : Prop :=
  len ≤ cap ∧ cap ≤ 9223372036854775807 ∧ (0 < len → ∃ b off, a = some ⟨b, off, none⟩ ∧ b < w.heap.size ∧ ∀ i, i < len → w.cell? ⟨b, off + i, none⟩ = some (.int .i64 (Z i)))

theorem IsI64.below {w w' : World} {a : Option Addr} {len cap : Nat} {Z : Nat → Int} (h : IsI64 w a len cap Z) (hB : Below w.heap.size w w') : IsI64 w' a len cap Z := by
  obtain ⟨h1, h2, h3⟩ := h
  refine ⟨h1, h2, fun hp => ?_⟩
  obtain ⟨b, off, e, hb, hc⟩ := h3 hp
  exact ⟨b, off, e, by have := hB.size; omega, fun i hi => (hB.cell (p := ⟨b, off + i, none⟩) hb).trans (hc i hi)⟩

theorem szInt64S_any (a : Option Addr) (len cap : Nat) (left : Int) (w : World) (hl : len ≤ 9223372036854775807) (h0 : 0 ≤ left) (h1 : left ≤ 1048576) :
    Calls Tryd.prog 39 #[.slice a len cap, .int .i64 left] w fun e w' => e = .returned (.int .i64 (if left - (len : Int) < 0 then -1 else left - (len : Int))) ∧ w' = w := by
  by_cases h : left - (len : Int) < 0
  · rw [if_pos h]
    go_enter Tryd.func39, Tryd.ntmps39
    go_wp2
    go_ret
    exact ⟨rfl, rfl⟩
  · rw [if_neg h]
    go_enter Tryd.func39, Tryd.ntmps39
    go_wp2
    go_ret
    exact ⟨rfl, rfl⟩

theorem info2 : (Tryd.prog.info? 2).map (fun i => (i.zero, i.size, i.bytes)) = some (some (.int .i64 0), 1, 8) := by kernel_rfl

/-- what toInt64S has written when k rounds are over -/
def copyTo (Z : Nat → Int) (n k : Nat) : List Value := (List.range n).map fun i => .int .i64 (if i < k then Z i else 0)

theorem made_ints (Z : Nat → Int) (n : Nat) : (madeCells (Value.int .i64 0).cells (n * 1)).toList = copyTo Z n 0 := by
  apply List.ext_getElem?
  intro i
  simp only [copyTo, madeCells, Value.cells, List.getElem?_map]
  by_cases h : i < n
  · simp [h, Nat.mod_one]
  · simp [h]

theorem copyTo_set (Z : Nat → Int) (n k : Nat) (hk : k < n) : (copyTo Z n k).set k (.int .i64 (Z k)) = copyTo Z n (k + 1) := by
  apply List.ext_getElem?
  intro i
  unfold copyTo
  rw [List.getElem?_set]
  by_cases hik : k = i
  · subst hik
    simp [hk]
  · rw [if_neg hik, List.getElem?_map, List.getElem?_map]
    have e : (i < k) ↔ (i < k + 1) := by omega
    by_cases h : i < n
    · simp [h, e]
    · simp [h]

theorem copyTo_all (Z : Nat → Int) (n i : Nat) (h : i < n) : (copyTo Z n n)[i]? = some (.int .i64 (Z i)) := by
  unfold copyTo
  simp [h]

set_option maxHeartbeats 400000 in
theorem toInt64S_any (a : Option Addr) (len cap : Nat) (Z : Nat → Int) (w : World) (h : IsI64 w a len cap Z) (hlen : len ≤ 1048576) :
    Calls Tryd.prog 40 #[.slice a len cap] w fun e w' => e = .returned (.slice (some ⟨w.heap.size, 0, none⟩) len len) ∧ w.heap.size < w'.heap.size ∧ IsI64 w' (some ⟨w.heap.size, 0, none⟩) len len Z ∧ Below w.heap.size w w' := by
  obtain ⟨hlc, hcm, hc⟩ := h
  obtain ⟨i0, hi, hz0, hz1, hz2⟩ := info_parts info2
  have hb2 : i0.bytes * len ≤ 281474976710656 := by rw [hz2]; omega
  have hb3 : len ≤ maxLen := by unfold maxLen; omega
  go_enter Tryd.func40, Tryd.ntmps40
  go_wp2_with (at_make; refine wpList_make_full _ rfl _ _ 38 rfl w.heap.size 2 i0 (.int .i64 0) 1 Tryd.underlying38 hi hz0 hz1 .i64 .i64 _ _ len rfl rfl rfl rfl hb2 hb3 (Nat.le_refl _) ?_; intro w1 hown hgrow)
  have hB1 : Below w.heap.size w w1 := (Below.refl _ w).grown hgrow (Nat.le_refl _) (fun k hk => by cases hk)
  rw [made_ints Z len] at hown
  clear hgrow
  go_loopw [4] (fun i wr => ∃ k : Nat, k ≤ len ∧ i = .int .i64 k ∧ wr.ownsRow w.heap.size 2 1 (.slice (some ⟨w.heap.size, 0, none⟩) len len) len (copyTo Z len k) ∧ Below w.heap.size w wr)
    (fun i _ => len - (intOf i).toNat)
  case atStart => exact ⟨0, Nat.zero_le _, rfl, hown, hB1⟩
  case round =>
    obtain ⟨k, hk, rfl, how, hB⟩ := hrel
    by_cases hlt : k < len
    · obtain ⟨b, off, rfl, hbs, hcell⟩ := hc (by omega)
      have hck : wr.cell? ⟨b, off + k, none⟩ = some (.int .i64 (Z k)) := (hB.cell (p := ⟨b, off + k, none⟩) hbs).trans (hcell k hlt)
      have hfz := how.frozenAt k
      have hcl : ∃ v, wr.cell? ⟨w.heap.size, k, none⟩ = some v := by
        rw [how.cellAt k (by omega)]
        simp [copyTo, hlt]
      obtain ⟨v0, hcl⟩ := hcl
      have hst := (how.stored k (.int .i64 (Z k))).1
      rw [copyTo_set Z len k hlt] at hst
      have hB' : Below w.heap.size w (wr.setCell ⟨w.heap.size, k, none⟩ (.int .i64 (Z k))) := hB.setCell (p := ⟨w.heap.size, k, none⟩) (Nat.le_refl _) _
      clear how hown hB hB1
      go_wp2
      go_roundw
      case rel => exact ⟨k + 1, by omega, by go_num, hst, hB'⟩
      case measure => simp [intOf]; omega
    · have hke : k = len := by omega
      subst hke
      have hlive : w.heap.size < wr.heap.size := by
        rcases how.2 with ⟨h', _⟩ | ⟨g', cap', cur, h', _, hg, _⟩
        · simp at h'
        · simp only [Value.slice.injEq, Option.some.injEq, Addr.mk.injEq, and_true, true_and] at h'
          obtain ⟨rfl, rfl⟩ := h'
          exact lt_of_block hg
      have hfin : IsI64 wr (some ⟨w.heap.size, 0, none⟩) k k Z := by
        refine ⟨Nat.le_refl _, by omega, fun _ => ⟨w.heap.size, 0, rfl, hlive, fun i hi => ?_⟩⟩
        rw [Nat.zero_add, how.cellAt i (by omega), copyTo_all Z k i hi]
      clear how hown hB1
      go_wp2
      go_ret
      exact ⟨rfl, hlive, hfin, hB⟩

/-- the two index functions agree below n -/
def eqI (Z Y : Nat → Int) (n : Nat) : Bool := (List.range n).all fun i => Z i == Y i

theorem eqI_succ (Z Y : Nat → Int) (n : Nat) : eqI Z Y (n + 1) = (eqI Z Y n && (Z n == Y n)) := by
  unfold eqI
  rw [List.range_succ, List.all_append]
  simp

theorem eqI_false {Z Y : Nat → Int} {n k : Nat} (hk : k < n) (h : (Z k != Y k) = true) : eqI Z Y n = false := by
  have : ¬ (eqI Z Y n = true) := by
    unfold eqI
    rw [List.all_eq_true]
    intro h'
    have := h' k (List.mem_range.2 hk)
    simp at this h
    exact h this
  simpa using this

theorem ret_bool {a b : Bool} (h : a = b) : Ending.returned (.bool a) = .returned (.bool b) := by rw [h]

set_option maxHeartbeats 400000 in
theorem eqInt64S_any (a a' : Option Addr) (len cap len' cap' : Nat) (Z Y : Nat → Int) (w : World) (h : IsI64 w a len cap Z) (h' : IsI64 w a' len' cap' Y) :
    Calls Tryd.prog 18 #[.slice a len cap, .slice a' len' cap'] w fun e w' => e = .returned (.bool (len == len' && eqI Z Y len)) ∧ ∃ n, w' = w.drewN n := by
  obtain ⟨hlc, hcm, hc⟩ := h
  obtain ⟨hlc', hcm', hc'⟩ := h'
  by_cases hne : len = len'
  · subst hne
    have hbn : ((len : Int) != (len : Int)) = false := by simp
    go_enter Tryd.func18, Tryd.ntmps18
    go_wp2
    go_loopw [5] (fun i wr => ∃ k : Nat, k ≤ len ∧ i = .int .i64 k ∧ Hid (eqI Z Y k = true) ∧ ∃ n, wr = w.drewN n)
      (fun i _ => len - (intOf i).toNat)
    case atStart => exact ⟨0, Nat.zero_le _, rfl, rfl, 0, rfl⟩
    case round =>
      obtain ⟨k, hk, rfl, heq, n, rfl⟩ := hrel
      by_cases hlt : k < len
      · obtain ⟨b, off, rfl, hbs, hcell⟩ := hc (by omega)
        obtain ⟨b', off', rfl, hbs', hcell'⟩ := hc' (by omega)
        have hck := hcell k hlt
        have hck' := hcell' k hlt
        clear hcell hcell' hc hc'
        by_cases hkk : (Z k != Y k) = true
        · have hres : Hid ((len == len && eqI Z Y len) = false) := by
            show _ = _
            rw [eqI_false hlt hkk]; simp
          go_wp2
          go_quiet (fail)
          go_wp2
          go_ret
          exact ⟨ret_bool hres.out.symm, _, World.drewN_drewN _ _ _⟩
        · have hkk' : (Z k != Y k) = false := by simpa using hkk
          have heq' : Hid (eqI Z Y (k + 1) = true) := by
            show _ = _
            rw [eqI_succ, heq.out]
            simpa using hkk
          go_wp2
          go_quiet (fail)
          go_wp2
          go_roundw
          case rel => exact ⟨k + 1, by omega, by go_num, heq', _, rfl⟩
          case measure => simp [intOf]; omega
      · have hke : k = len := by omega
        subst hke
        go_wp2
        go_ret
        exact ⟨ret_bool (by rw [heq.out]; simp), _, rfl⟩
  · have hbn : ((len : Int) != (len' : Int)) = true := by simp; omega
    have hres : Hid ((len == len' && eqI Z Y len) = false) := by
      show _ = _
      simp [hne]
    go_enter Tryd.func18, Tryd.ntmps18
    go_wp2
    go_ret
    exact ⟨ret_bool hres.out.symm, 0, rfl⟩

/-- Z rises from 0 up to n -/
def risesI (Z : Nat → Int) (n : Nat) : Bool := (List.range n).all fun i => i == 0 || decide (Z (i - 1) < Z i)

theorem risesI_succ (Z : Nat → Int) (n : Nat) (hn : 1 ≤ n) : risesI Z (n + 1) = (risesI Z n && decide (Z (n - 1) < Z n)) := by
  unfold risesI
  rw [List.range_succ, List.all_append]
  have : (n == 0) = false := by simp; omega
  simp [this]

theorem risesI_false {Z : Nat → Int} {n k : Nat} (hk : k < n) (h0 : 1 ≤ k) (h : Z k ≤ Z (k - 1)) : risesI Z n = false := by
  have : ¬ (risesI Z n = true) := by
    unfold risesI
    rw [List.all_eq_true]
    intro h'
    have := h' k (List.mem_range.2 hk)
    simp at this
    omega
  simpa using this

set_option maxHeartbeats 400000 in
theorem rises_any (a : Option Addr) (len cap : Nat) (Z : Nat → Int) (w : World) (h : IsI64 w a len cap Z) :
    Calls Tryd.prog 59 #[.slice a len cap] w fun e w' => e = .returned (.bool (risesI Z len)) ∧ ∃ n, w' = w.drewN n := by
  obtain ⟨hlc, hcm, hc⟩ := h
  by_cases hl0 : len = 0
  · subst hl0
    go_enter Tryd.func59, Tryd.ntmps59
    go_wp2
    refine wp_loop_rounds 1 ?_
    rw [rounds_succ]
    go_wp2
    go_ret
    exact ⟨rfl, 0, rfl⟩
  · obtain ⟨b, off, rfl, hbs, hcell⟩ := hc (by omega)
    go_enter Tryd.func59, Tryd.ntmps59
    go_wp2
    go_loopw [3] (fun i wr => ∃ k : Nat, 1 ≤ k ∧ k ≤ len ∧ i = .int .i64 k ∧ Hid (risesI Z k = true) ∧ ∃ n, wr = w.drewN n)
      (fun i _ => len - (intOf i).toNat)
    case atStart => exact ⟨1, Nat.le_refl _, by omega, rfl, rfl, 0, rfl⟩
    case round =>
      obtain ⟨k, hk1, hk, rfl, heq, n, rfl⟩ := hrel
      by_cases hlt : k < len
      · obtain ⟨j, rfl⟩ : ∃ j, k = j + 1 := ⟨k - 1, by omega⟩
        have hck := hcell (j + 1) hlt
        have hck' := hcell j (by omega)
        clear hcell hc
        by_cases hkk : Z (j + 1) ≤ Z j
        · have hres : Hid (risesI Z len = false) := risesI_false hlt (by omega) (by simpa using hkk)
          go_wp2
          go_quiet (fail)
          go_wp2
          go_ret
          exact ⟨ret_bool hres.out.symm, _, World.drewN_drewN _ _ _⟩
        · have heq' : Hid (risesI Z (j + 1 + 1) = true) := by
            show _ = _
            rw [risesI_succ Z (j + 1) (by omega), heq.out]
            simp; omega
          have hkk' : Z j < Z (j + 1) := by omega
          go_wp2
          go_quiet (fail)
          go_wp2
          go_roundw
          case rel => exact ⟨j + 1 + 1, by omega, by omega, by go_num, heq', _, rfl⟩
          case measure => simp [intOf]; omega
      · have hke : k = len := by omega
        subst hke
        go_wp2
        go_ret
        exact ⟨ret_bool heq.out.symm, _, rfl⟩

end Go.Proofs.YtcolcnkjcagbaaaDoor.Ep
