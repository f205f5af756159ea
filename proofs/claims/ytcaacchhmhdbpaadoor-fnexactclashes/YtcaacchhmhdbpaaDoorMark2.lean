/-
  Copies of dags that the call owns, and marks written into them. No condition but that the slices read.
-/
import Derived.Test.YtcaacchhmhdbpaaDoorCom
import Derived.Test.YtcaacchhmhdbpaaDoorMark
namespace Go.Proofs.YtcaacchhmhdbpaaDoor
open Go.RowKit
set_option linter.unusedVariables false

theorem ownsRow_zero {w : World} {base : Nat} {e : TypeId} {size : Nat} {v : Value} {n : Nat} {xs : List Value} (h : w.ownsRow base e size v n xs) : w.ownsRow 0 e size v n xs := by
  obtain ⟨h1, h2⟩ := h
  refine ⟨h1, ?_⟩
  rcases h2 with h2 | ⟨g, cap, cur, hv, hg, r⟩
  · exact Or.inl h2
  · exact Or.inr ⟨g, cap, cur, hv, Nat.zero_le _, r⟩

/-- a row of n texts that can be written -/
def Rw (w : World) (g n : Nat) : Prop := ∃ xs, w.ownsRow 0 9 1 (.slice (some ⟨g, 0, none⟩) n n) n xs
theorem Rw.kept {w w' : World} {g n : Nat} (h : Rw w g n) (he : w'.heap[g]? = w.heap[g]?) : Rw w' g n := by
  obtain ⟨xs, h1, h2⟩ := h
  refine ⟨xs, h1, ?_⟩
  rcases h2 with h2 | ⟨g', cap, cur, hv, hg, hh, r⟩
  · exact Or.inl h2
  · have hv' := hv
    simp only [Value.slice.injEq, Option.some.injEq, Addr.mk.injEq, and_true, true_and] at hv'
    obtain ⟨rfl, rfl⟩ := hv'
    exact Or.inr ⟨g, _, cur, hv, hg, he.trans hh, r⟩
theorem Rw.lt {w : World} {g n : Nat} (h : Rw w g n) : g < w.heap.size := by
  obtain ⟨xs, h⟩ := h
  exact own_live h
theorem Rw.below {w w' : World} {g n : Nat} (h : Rw w g n) (hB : Below w.heap.size w w') : Rw w' g n := h.kept (hB.block _ h.lt)
theorem Rw.setCell {w : World} {g n B o : Nat} {v : Value} (h : Rw w g n) (hne : g ≠ B) : Rw (w.setCell ⟨B, o, none⟩ v) g n := h.kept (Below.heap_setCell _ _ _ _ hne)

/-- a row of len nodes at block g that can be written, their ups at blocks G i; none of these blocks is below base -/
def NOwn (w : World) (base g len : Nat) (G n : Nat → Nat) : Prop :=
  base ≤ g ∧ ∃ ys, w.ownsRow 0 41 6 (.slice (some ⟨g, 0, none⟩) len len) len ys ∧ ∀ i, i < len → ys[i * 6 + 5]? = some (.slice (some ⟨G i, 0, none⟩) (n i) (n i)) ∧ Rw w (G i) (n i) ∧ base ≤ G i

set_option maxHeartbeats 1000000 in
theorem toStrs_own (a : Option Addr) (len cap : Nat) (S : Nat → ByteArray) (w : World) (h : IsStrs w a len cap S) (hl : len ≤ 1048576) :
    Calls Tryd.prog 31 #[.slice a len cap] w fun e w' => ∃ g, e = .returned (.slice (some ⟨g, 0, none⟩) len len) ∧ IsStrs w' (some ⟨g, 0, none⟩) len len S ∧ Below w.heap.size w w' ∧ w.heap.size ≤ g ∧ Rw w' g len := by
  obtain ⟨hlc, hcm, hc⟩ := h
  obtain ⟨i0, hi, hz0, hz1, hz2⟩ := info_parts info9
  have hb2 : i0.bytes * len ≤ 281474976710656 := by rw [hz2]; omega
  have hb3 : len ≤ maxLen := by unfold maxLen; omega
  go_enter Tryd.func31, Tryd.ntmps31
  go_wp2_with (at_make; refine wpList_make_full _ rfl _ _ 35 rfl w.heap.size 9 i0 (.string ⟨#[]⟩) 1 Tryd.underlying35 hi hz0 hz1 .i64 .i64 _ _ len rfl rfl rfl rfl hb2 hb3 (Nat.le_refl _) ?_; intro w1 hown hgrow)
  have hB1 : Below w.heap.size w w1 := (Below.refl _ w).grown hgrow (Nat.le_refl _) (fun k hk => by cases hk)
  clear hgrow
  go_loopw [4] (fun i wr => ∃ (k : Nat) (xs : List Value), k ≤ len ∧ i = .int .i64 k ∧ wr.ownsRow w.heap.size 9 1 (.slice (some ⟨w.heap.size, 0, none⟩) len len) len xs ∧ Hid (∀ j, j < k → xs[j]? = some (.string (S j))) ∧ Below w.heap.size w wr)
    (fun i _ => len - (intOf i).toNat)
  case atStart => exact ⟨0, _, Nat.zero_le _, rfl, hown, fun j hj => absurd hj (Nat.not_lt_zero _), hB1⟩
  case round =>
    obtain ⟨k, xs, hk, rfl, how, HA, hB⟩ := hrel
    by_cases hlt : k < len
    · obtain ⟨b, off, rfl, hbs, hcell⟩ := hc (by omega)
      have d1 := (hB.cell (p := ⟨b, off + k, none⟩) hbs).trans (hcell k hlt)
      clear hcell hc
      have hxl : xs.length = len * 1 := how.1
      have f1 := how.frozenAt k
      obtain ⟨v1, e1⟩ := own_some how k (by omega)
      have HO := (show Hid _ from how)
      clear how hown
      go_wp2
      go_roundw
      case rel =>
        refine ⟨k + 1, xs.set k (.string (S k)), by omega, by go_num, (World.ownsRow.stored HO.out _ _).1, ?_, hB.setCell (Nat.le_refl _) _⟩
        intro j hj
        rcases Nat.lt_succ_iff_lt_or_eq.1 hj with h1 | rfl
        · rw [List.getElem?_set_ne (by omega)]
          exact HA.out j h1
        · rw [List.getElem?_set_self (by omega)]
      case measure => simp [intOf]; omega
    · have hke : k = len := by omega
      subst hke
      have hfin : IsStrs wr (some ⟨w.heap.size, 0, none⟩) k k S := by
        refine ⟨Nat.le_refl _, by omega, fun hp => ?_⟩
        refine ⟨w.heap.size, 0, rfl, own_live how, fun j hj => ?_⟩
        rw [Nat.zero_add, how.cellAt _ (by omega)]
        exact HA.out j hj
      have HRW : Hid (Rw wr w.heap.size k) := ⟨xs, ownsRow_zero how⟩
      clear how hown hB1 HA
      go_wp2
      go_ret
      exact ⟨_, rfl, hfin, hB, Nat.le_refl _, HRW.out⟩

end Go.Proofs.YtcaacchhmhdbpaaDoor
