/-
  The functions over []string that the laws call, and rises, return what plain data says. No condition but that the slices read.
-/
import Derived.Test.YtcolcnkjcagbaaaGreatDoorPr4
namespace Go.Proofs.YtcolcnkjcagbaaaGreatDoor
open Go.RowKit
set_option linter.unusedVariables false

/-- a slice of texts that reads as S 0, S 1, .. in world w -/
def IsStrs (w : World) (a : Option Addr) (len cap : Nat) (S : Nat → ByteArray) : Prop :=
  len ≤ cap ∧ cap ≤ 9223372036854775807 ∧ (0 < len → ∃ b off, a = some ⟨b, off, none⟩ ∧ b < w.heap.size ∧ ∀ i, i < len → w.cell? ⟨b, off + i, none⟩ = some (.string (S i)))

theorem IsStrs.below {w w' : World} {a : Option Addr} {len cap : Nat} {S : Nat → ByteArray} (h : IsStrs w a len cap S) (hB : Below w.heap.size w w') : IsStrs w' a len cap S := by
  obtain ⟨h1, h2, h3⟩ := h
  refine ⟨h1, h2, fun hp => ?_⟩
  obtain ⟨b, off, e, hb, hc⟩ := h3 hp
  exact ⟨b, off, e, by have := hB.size; omega, fun i hi => (hB.cell (p := ⟨b, off + i, none⟩) hb).trans (hc i hi)⟩

theorem info9 : (Tryz.prog.info? 9).map (fun i => (i.zero, i.size, i.bytes)) = some (some (.string ⟨#[]⟩), 1, 16) := by kernel_rfl

set_option maxHeartbeats 1000000 in
theorem toStringS_any (a : Option Addr) (len cap : Nat) (S : Nat → ByteArray) (w : World) (h : IsStrs w a len cap S) (hl : len ≤ 1048576) :
    Calls Tryz.prog 12 #[.slice a len cap] w fun e w' => ∃ g, e = .returned (.slice (some ⟨g, 0, none⟩) len len) ∧ IsStrs w' (some ⟨g, 0, none⟩) len len S ∧ Below w.heap.size w w' := by
  obtain ⟨hlc, hcm, hc⟩ := h
  obtain ⟨i0, hi, hz0, hz1, hz2⟩ := info_parts info9
  have hb2 : i0.bytes * len ≤ 281474976710656 := by rw [hz2]; omega
  have hb3 : len ≤ maxLen := by unfold maxLen; omega
  go_enter Tryz.func12, Tryz.ntmps12
  go_wp2_with (at_make; refine wpList_make_full _ rfl _ _ 23 rfl w.heap.size 9 i0 (.string ⟨#[]⟩) 1 Tryz.underlying23 hi hz0 hz1 .i64 .i64 _ _ len rfl rfl rfl rfl hb2 hb3 (Nat.le_refl _) ?_; intro w1 hown hgrow)
  have hB1 : Below w.heap.size w w1 := (Below.refl _ w).grown hgrow (Nat.le_refl _) (fun k hk => by cases hk)
  clear hgrow
  go_loopw [4] (fun i wr => ∃ (k : Nat) (xs : List Value), k ≤ len ∧ i = .int .i64 k ∧ wr.ownsRow w.heap.size 9 1 (.slice (some ⟨w.heap.size, 0, none⟩) len len) len xs ∧ Hid (∀ j, j < k → xs[j]? = some (.string (S j))) ∧ Below w.heap.size w wr)
    (fun i _ => len - (intOf i).toNat)
  case atStart => exact ⟨0, _, Nat.zero_le _, rfl, hown, fun j hj => absurd hj (Nat.not_lt_zero _), hB1⟩
  case round =>
    obtain ⟨k, xs, hk, rfl, how, HA, hB⟩ := hrel
    by_cases hlt : k < len
    · obtain ⟨b, off, rfl, hbs, hcell⟩ := hc (by omega)
      have d1 := (hB.cell (p := ⟨b, off + k, none⟩) hbs).trans (hcell k hlt)
      clear hcell hc
      have hxl : xs.length = len * 1 := how.1
      have f1 := how.frozenAt k
      obtain ⟨v1, e1⟩ := own_some how k (by omega)
      have HO := (show Hid _ from how)
      clear how hown
      go_wp2
      go_roundw
      case rel =>
        refine ⟨k + 1, xs.set k (.string (S k)), by omega, by go_num, (World.ownsRow.stored HO.out _ _).1, ?_, hB.setCell (Nat.le_refl _) _⟩
        intro j hj
        rcases Nat.lt_succ_iff_lt_or_eq.1 hj with h1 | rfl
        · rw [List.getElem?_set_ne (by omega)]
          exact HA.out j h1
        · rw [List.getElem?_set_self (by omega)]
      case measure => simp [intOf]; omega
    · have hke : k = len := by omega
      subst hke
      have hfin : IsStrs wr (some ⟨w.heap.size, 0, none⟩) k k S := by
        refine ⟨Nat.le_refl _, by omega, fun hp => ?_⟩
        refine ⟨w.heap.size, 0, rfl, own_live how, fun j hj => ?_⟩
        rw [Nat.zero_add, how.cellAt _ (by omega)]
        exact HA.out j hj
      clear how hown hB1 HA
      go_wp2
      go_ret
      exact ⟨_, rfl, hfin, hB⟩

set_option maxHeartbeats 400000 in
theorem eqStringS_same (a a' : Option Addr) (len cap cap' : Nat) (S : Nat → ByteArray) (w : World) (h : IsStrs w a len cap S) (h' : IsStrs w a' len cap' S) :
    Calls Tryz.prog 16 #[.slice a len cap, .slice a' len cap'] w fun e w' => e = .returned (.bool true) ∧ Below w.heap.size w w' := by
  obtain ⟨hlc, hcm, hc⟩ := h
  obtain ⟨hlc', hcm', hc'⟩ := h'
  have hbn : ((len : Int) != (len : Int)) = false := by simp
  go_enter Tryz.func16, Tryz.ntmps16
  go_wp2
  go_loopw [5] (fun i wr => ∃ (k : Nat), k ≤ len ∧ i = .int .i64 k ∧ Below w.heap.size w wr)
    (fun i _ => len - (intOf i).toNat)
  case atStart => exact ⟨0, Nat.zero_le _, rfl, Below.refl _ _⟩
  case round =>
    obtain ⟨k, hk, rfl, hB⟩ := hrel
    by_cases hlt : k < len
    · obtain ⟨b, off, rfl, hbs, hcell⟩ := hc (by omega)
      obtain ⟨b', off', rfl, hbs', hcell'⟩ := hc' (by omega)
      have d1 := (hB.cell (p := ⟨b, off + k, none⟩) hbs).trans (hcell k hlt)
      have d1' := (hB.cell (p := ⟨b', off' + k, none⟩) hbs').trans (hcell' k hlt)
      have hss : ((S k).toList != (S k).toList) = false := by simp
      clear hcell hc hcell' hc'
      go_wp2
      go_quiet (fail)
      go_wp2
      go_roundw
      case rel => exact ⟨k + 1, by omega, by go_num, hB.trans ⟨rfl, rfl, rfl, Nat.le_refl _, fun _ _ => rfl⟩⟩
      case measure => simp [intOf]; omega
    · have hke : k = len := by omega
      subst hke
      go_wp2
      go_ret
      exact ⟨rfl, hB⟩

/-- the text at k - 1 stands ahead of the one at k -/
def upB (S : Nat → ByteArray) (k : Nat) : Bool := Op.bytesLess (S (k - 1)).toList (S k).toList
/-- the first n texts rise -/
def riseB (S : Nat → ByteArray) (n : Nat) : Bool := (List.range n).all fun k => k == 0 || upB S k

theorem riseB_succ (S : Nat → ByteArray) (n : Nat) : riseB S (n + 1) = (riseB S n && (n == 0 || upB S n)) := by
  unfold riseB
  rw [List.range_succ, List.all_append]
  simp
theorem riseB_false {S : Nat → ByteArray} {n k : Nat} (hk : k < n) (h0 : 0 < k) (h : upB S k = false) : riseB S n = false := by
  have : ¬ (riseB S n = true) := by
    unfold riseB
    rw [List.all_eq_true]
    intro h'
    have := h' k (List.mem_range.2 hk)
    rw [h] at this
    simp at this
    omega
  simpa using this

set_option maxHeartbeats 400000 in
theorem rises_any (a : Option Addr) (len cap : Nat) (S : Nat → ByteArray) (w : World) (h : IsStrs w a len cap S) (hl : len ≤ 1048576) :
    Calls Tryz.prog 97 #[.slice a len cap] w fun e w' => e = .returned (.bool (riseB S len)) ∧ Below w.heap.size w w' := by
  obtain ⟨hlc, hcm, hc⟩ := h
  go_enter Tryz.func97, Tryz.ntmps97
  go_wp2
  go_loopw [3] (fun i wr => ∃ (k : Nat), 1 ≤ k ∧ k ≤ max len 1 ∧ i = .int .i64 k ∧ Hid (riseB S k = true) ∧ ∃ n, wr = w.drewN n)
    (fun i _ => len - (intOf i).toNat)
  case atStart => exact ⟨1, Nat.le_refl _, by omega, rfl, rfl, 0, rfl⟩
  case round =>
    obtain ⟨k, hk1, hk, rfl, HR, n, rfl⟩ := hrel
    by_cases hlt : k < len
    · obtain ⟨b, off, rfl, hbs, hcell⟩ := hc (by omega)
      have d1 := hcell k hlt
      have d2 := hcell (k - 1) (by omega)
      obtain ⟨p, rfl⟩ : ∃ p, k = p + 1 := ⟨k - 1, by omega⟩
      rw [Nat.add_sub_cancel] at d2
      clear hcell hc
      have hltI : ((p + 1 : Nat) : Int) < (len : Int) := by omega
      have hup : upB S (p + 1) = Op.bytesLess (S p).toList (S (p + 1)).toList := rfl
      cases hu : upB S (p + 1) with
      | true =>
        rw [hu] at hup
        have hup' := hup.symm
        have HR' : Hid (riseB S (p + 1 + 1) = true) := by
          show _ = _
          rw [riseB_succ, HR.out, hu]; simp
        clear hup hu
        go_wp2
        go_quiet (fail)
        go_wp2
        go_roundw
        case rel => exact ⟨p + 1 + 1, by omega, by omega, by go_num, HR', _, rfl⟩
        case measure => simp [intOf]; omega
      | false =>
        rw [hu] at hup
        have hup' := hup.symm
        have HR' : Hid (riseB S len = false) := riseB_false hlt (by omega) hu
        clear hup hu
        go_wp2
        go_quiet (fail)
        go_wp2
        go_ret
        exact ⟨ret_bool HR'.out.symm, ⟨rfl, rfl, rfl, Nat.le_refl _, fun _ _ => rfl⟩⟩
    · have hr : Hid (riseB S len = true) := by
        show _ = _
        rcases (show len = k ∨ (len = 0 ∧ k = 1) by omega) with rfl | ⟨rfl, rfl⟩
        · exact HR.out
        · rfl
      have hge : (len : Int) ≤ (k : Int) := by omega
      go_wp2
      go_ret
      exact ⟨ret_bool hr.out.symm, ⟨rfl, rfl, rfl, Nat.le_refl _, fun _ _ => rfl⟩⟩

end Go.Proofs.YtcolcnkjcagbaaaGreatDoor
