/-
  Picked contracts of this program. No condition but that the slices read.
-/
import Derived.Test.YtcaacchhmhdbpaaDoorIds2
import Derived.Deep.RegionWith
import Derived.Laws.CopyOwn
import Derived.Deep.RegionHeld3
namespace Go.Proofs.YtcaacchhmhdbpaaDoor
open Go.RowKit
set_option linter.unusedVariables false

def inB (lo hi x : Int) : Bool := decide (lo ≤ x) && decide (x ≤ hi)

theorem in_any (n lo hi : Int) (b : Bool) (hb : inB lo hi n = b) (w : World) : Calls Tryd.prog 17 #[.int .i64 n, .int .i64 lo, .int .i64 hi] w fun e w' => e = .returned (.bool b) ∧ w' = w := by
  subst hb
  by_cases h1 : lo ≤ n
  · have hr : Hid (inB lo hi n = decide (n ≤ hi)) := by show _ = _; unfold inB; simp [h1]
    go_enter Tryd.func17, Tryd.ntmps17
    go_wp2
    go_ret
    exact ⟨ret_bool hr.out.symm, rfl⟩
  · have hr : Hid (inB lo hi n = false) := by show _ = _; unfold inB; simp [h1]
    have h1' : decide (lo ≤ n) = false := by simpa using h1
    go_enter Tryd.func17, Tryd.ntmps17
    go_wp2
    go_ret
    exact ⟨ret_bool hr.out.symm, rfl⟩

theorem author_any (n : Int) (b : Bool) (hb : inB 1 9 n = b) (w : World) : Calls Tryd.prog 20 #[.int .i64 n] w fun e w' => e = .returned (.bool b) ∧ w' = w := by
  subst hb
  by_cases h1 : 1 ≤ n
  · have hr : Hid (inB 1 9 n = decide (n ≤ 9)) := by show _ = _; unfold inB; simp [h1]
    go_enter Tryd.func20, Tryd.ntmps20
    go_wp2
    go_ret
    exact ⟨ret_bool hr.out.symm, rfl⟩
  · have hr : Hid (inB 1 9 n = false) := by show _ = _; unfold inB; simp [h1]
    have h1' : decide (1 ≤ n) = false := by simpa using h1
    go_enter Tryd.func20, Tryd.ntmps20
    go_wp2
    go_ret
    exact ⟨ret_bool hr.out.symm, rfl⟩

theorem seq_any (n : Int) (b : Bool) (hb : inB 1 1000000 n = b) (w : World) : Calls Tryd.prog 21 #[.int .i64 n] w fun e w' => e = .returned (.bool b) ∧ w' = w := by
  subst hb
  by_cases h1 : 1 ≤ n
  · have hr : Hid (inB 1 1000000 n = decide (n ≤ 1000000)) := by show _ = _; unfold inB; simp [h1]
    go_enter Tryd.func21, Tryd.ntmps21
    go_wp2
    go_ret
    exact ⟨ret_bool hr.out.symm, rfl⟩
  · have hr : Hid (inB 1 1000000 n = false) := by show _ = _; unfold inB; simp [h1]
    have h1' : decide (1 ≤ n) = false := by simpa using h1
    go_enter Tryd.func21, Tryd.ntmps21
    go_wp2
    go_ret
    exact ⟨ret_bool hr.out.symm, rfl⟩

theorem specIds_b (a : Option Addr) (len cap : Nat) (S : Nat → ByteArray) (w : World) (h : IsStrs w a len cap S) (hS : ∀ i, i < len → (S i).size ≤ 9223372036854775807) (b : Bool) (hb : idsB S len = b) :
    Calls Tryd.prog 18 #[.slice a len cap, .int .i64 5] w fun e w' => e = .returned (.bool b) ∧ Below w.heap.size w w' := by
  rw [← hb]; exact specIds_any a len cap S w h hS

theorem implIds_b (a : Option Addr) (len cap : Nat) (S : Nat → ByteArray) (w : World) (h : IsStrs w a len cap S) (hS : ∀ i, i < len → (S i).size ≤ 9223372036854775807) (b : Bool) (hb : idsB S len = b) :
    Calls Tryd.prog 22 #[.slice a len cap] w fun e w' => e = .returned (.bool b) ∧ Below w.heap.size w w' := by
  rw [← hb]; exact implIds_any a len cap S w h hS


theorem cellN {w : World} {b i : Nat} {cs : Array Value} {t : TypeId} (h : w.heap[b]? = some (.cells cs t (0, 0))) : w.cell? ⟨b, i, none⟩ = cs[i]? := by simp [World.cell?, h]


theorem frozN {w : World} {b i : Nat} {cs : Array Value} {t : TypeId} (h : w.heap[b]? = some (.cells cs t (0, 0))) : w.frozen? ⟨b, i, none⟩ = false := by simp [World.frozen?, h]


set_option maxHeartbeats 1000000 in
theorem toStrs_any (a : Option Addr) (len cap : Nat) (S : Nat → ByteArray) (w : World) (h : IsStrs w a len cap S) (hl : len ≤ 1048576) :
    Calls Tryd.prog 31 #[.slice a len cap] w fun e w' => ∃ g, e = .returned (.slice (some ⟨g, 0, none⟩) len len) ∧ IsStrs w' (some ⟨g, 0, none⟩) len len S ∧ Below w.heap.size w w' ∧ w.heap.size ≤ g := by
  obtain ⟨hlc, hcm, hc⟩ := h
  obtain ⟨i0, hi, hz0, hz1, hz2⟩ := info_parts info9
  have hb2 : i0.bytes * len ≤ 281474976710656 := by rw [hz2]; omega
  have hb3 : len ≤ maxLen := by unfold maxLen; omega
  go_enter Tryd.func31, Tryd.ntmps31
  go_wp2_with (at_make; refine wpList_make_full _ rfl _ _ 35 rfl w.heap.size 9 i0 (.string ⟨#[]⟩) 1 Tryd.underlying35 hi hz0 hz1 .i64 .i64 _ _ len rfl rfl rfl rfl hb2 hb3 (Nat.le_refl _) ?_; intro w1 hown hgrow)
  have hB1 : Below w.heap.size w w1 := (Below.refl _ w).grown hgrow (Nat.le_refl _) (fun k hk => by cases hk)
  clear hgrow
  go_loopw [4] (fun i wr => ∃ (k : Nat) (xs : List Value), k ≤ len ∧ i = .int .i64 k ∧ wr.ownsRow w.heap.size 9 1 (.slice (some ⟨w.heap.size, 0, none⟩) len len) len xs ∧ Hid (∀ j, j < k → xs[j]? = some (.string (S j))) ∧ Below w.heap.size w wr)
    (fun i _ => len - (intOf i).toNat)
  case atStart => exact ⟨0, _, Nat.zero_le _, rfl, hown, fun j hj => absurd hj (Nat.not_lt_zero _), hB1⟩
  case round =>
    obtain ⟨k, xs, hk, rfl, how, HA, hB⟩ := hrel
    by_cases hlt : k < len
    · obtain ⟨b, off, rfl, hbs, hcell⟩ := hc (by omega)
      have d1 := (hB.cell (p := ⟨b, off + k, none⟩) hbs).trans (hcell k hlt)
      clear hcell hc
      have hxl : xs.length = len * 1 := how.1
      have f1 := how.frozenAt k
      obtain ⟨v1, e1⟩ := own_some how k (by omega)
      have HO := (show Hid _ from how)
      clear how hown
      go_wp2
      go_roundw
      case rel =>
        refine ⟨k + 1, xs.set k (.string (S k)), by omega, by go_num, (World.ownsRow.stored HO.out _ _).1, ?_, hB.setCell (Nat.le_refl _) _⟩
        intro j hj
        rcases Nat.lt_succ_iff_lt_or_eq.1 hj with h1 | rfl
        · rw [List.getElem?_set_ne (by omega)]
          exact HA.out j h1
        · rw [List.getElem?_set_self (by omega)]
      case measure => simp [intOf]; omega
    · have hke : k = len := by omega
      subst hke
      have hfin : IsStrs wr (some ⟨w.heap.size, 0, none⟩) k k S := by
        refine ⟨Nat.le_refl _, by omega, fun hp => ?_⟩
        refine ⟨w.heap.size, 0, rfl, own_live how, fun j hj => ?_⟩
        rw [Nat.zero_add, how.cellAt _ (by omega)]
        exact HA.out j hj
      clear how hown hB1 HA
      go_wp2
      go_ret
      exact ⟨_, rfl, hfin, hB, Nat.le_refl _⟩


set_option maxHeartbeats 400000 in
theorem szStrings2 (a : Option Addr) (len cap : Nat) (S : Nat → ByteArray) (w : World) (h : IsStrs w a len cap S) (L : Int) (hL0 : 0 ≤ L) (hL : L ≤ 1048576) (hS : ∀ i, i < len → (S i).size ≤ 9223372036854775807) :
    Calls Tryd.prog 29 #[.slice a len cap, .int .i64 L] w fun e w' => ∃ r : Int, e = .returned (.int .i64 r) ∧ (r < 0 ∨ (0 ≤ r ∧ r ≤ L ∧ len ≤ 1048576 ∧ ∀ i, i < len → (S i).size ≤ 1048576)) ∧ w' = w := by
  obtain ⟨hlc, hcm, hc⟩ := h
  by_cases hneg : L - (len : Int) < 0
  · go_enter Tryd.func29, Tryd.ntmps29
    go_wp2
    go_ret
    exact ⟨_, rfl, .inl (by decide), rfl⟩
  have hlen : len ≤ 1048576 := by omega
  go_enter Tryd.func29, Tryd.ntmps29
  go_wp2
  go_loop [1, 5] (fun x i => ∃ (k : Nat) (r : Int), k ≤ len ∧ i = .int .i64 k ∧ x = .int .i64 r ∧ 0 ≤ r ∧ r ≤ L ∧ Hid (∀ j, j < k → (S j).size ≤ 1048576)) (fun _ i => len - (intOf i).toNat)
  case atStart => exact ⟨0, _, Nat.zero_le _, rfl, rfl, by omega, by omega, fun j hj => absurd hj (Nat.not_lt_zero _)⟩
  case round =>
    obtain ⟨k, r, hk, rfl, rfl, hr0, hr1, HA⟩ := hrel
    by_cases hlt : k < len
    · obtain ⟨b, off, rfl, hbs, hcell⟩ := hc (by omega)
      have d1 := hcell k hlt
      have hsz := hS k hlt
      have hltI : (k : Int) < (len : Int) := by omega
      clear hcell hc
      by_cases hng : r - ((S k).size : Int) < 0
      · go_wp2
        go_ret
        exact ⟨_, rfl, .inl (by decide), rfl⟩
      · have HA' : Hid (∀ j, j < k + 1 → (S j).size ≤ 1048576) := by
          intro j hj
          rcases Nat.lt_succ_iff_lt_or_eq.1 hj with h1 | rfl
          · exact HA.out j h1
          · omega
        go_wp2
        go_round
        case rel => exact ⟨k + 1, _, by omega, by go_num, rfl, by omega, by omega, HA'⟩
        case measure => simp [intOf]; omega
    · have hke : k = len := by omega
      subst hke
      go_wp2
      go_ret
      exact ⟨_, rfl, .inr (by first | exact ⟨hr0, hr1, hlen, HA.out⟩ | exact ⟨hr0, hr1, HA.out⟩ | (refine ⟨hr0, by omega, ?_⟩; exact HA.out)), rfl⟩



theorem IsStrs.setCell {w : World} {g n cap B o : Nat} {S : Nat → ByteArray} {v : Value} (h : IsStrs w (some ⟨g, 0, none⟩) n cap S) (hne : g ≠ B) : IsStrs (w.setCell ⟨B, o, none⟩ v) (some ⟨g, 0, none⟩) n cap S := by
  obtain ⟨h1, h2, h3⟩ := h
  refine ⟨h1, h2, fun hp => ?_⟩
  obtain ⟨b, off, e1, e2, e3⟩ := h3 hp
  simp only [Option.some.injEq, Addr.mk.injEq, and_true] at e1
  obtain ⟨rfl, rfl⟩ := e1
  refine ⟨g, 0, rfl, by simpa [World.setCell] using e2, fun i hi => ?_⟩
  rw [World.cell?_setCell_other _ _ _ _ (by simp <;> omega)]
  exact e3 i hi

end Go.Proofs.YtcaacchhmhdbpaaDoor
