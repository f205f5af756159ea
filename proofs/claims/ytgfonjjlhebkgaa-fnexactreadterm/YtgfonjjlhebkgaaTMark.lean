/-
  The functions that mark a slice of nodes and that look whether the marks are there still. No condition but that the slice is a row of its own, or reads.
-/
import Derived.Test.YtgfonjjlhebkgaaTEq
namespace Go.Proofs.Ytgfonjjlhebkgaa
open Go.RowKit
set_option linter.unusedVariables false

/-- m cells that are marks from k on -/
def mkN (k m : Nat) : List Value := (List.range m).map fun p => .int .i64 ((k + p : Nat) : Int)
theorem mkN_len (k m : Nat) : (mkN k m).length = m := by simp [mkN]
theorem mkN_at {k m t : Nat} (h : t < m) : (mkN k m)[t]? = some (.int .i64 ((k + t : Nat) : Int)) := by simp [mkN, h]
theorem mkN_of {xs : List Value} {k m : Nat} (hl : xs.length = m) (h : ∀ t, t < m → xs[t]? = some (.int .i64 ((k + t : Nat) : Int))) : xs = mkN k m := by
  apply List.ext_getElem?
  intro t
  by_cases ht : t < m
  · rw [h t ht, mkN_at ht]
  · rw [List.getElem?_eq_none (by omega), List.getElem?_eq_none (by rw [mkN_len]; omega)]

set_option maxHeartbeats 1000000 in
theorem markTNodeS_any (a : Option Addr) (len cap base : Nat) (xs0 : List Value) (k0 : Nat) (w : World) (h : w.ownsRow base 40 4 (.slice a len cap) len xs0) (hb : k0 + 4 * len ≤ 1152921504606846976) :
    Calls Try.prog 7 #[.slice a len cap, .int .i64 k0] w fun e w' => e = .returned (.int .i64 ((k0 + 4 * len : Nat) : Int)) ∧ w'.ownsRow base 40 4 (.slice a len cap) len (mkN k0 (len * 4)) ∧ w.grownBy w' (Value.slice a len cap).ownBlock := by
  go_enter Try.func7, Try.ntmps7
  go_wp2
  go_loopw [1, 5] (fun x i wr => ∃ (j k : Nat) (xs : List Value), j ≤ len ∧ i = .int .i64 j ∧ x = .int .i64 (k : Int) ∧ k = k0 + 4 * j ∧ wr.ownsRow base 40 4 (.slice a len cap) len xs ∧ Hid (∀ t, t < j * 4 → xs[t]? = some (.int .i64 ((k0 + t : Nat) : Int))) ∧ w.grownBy wr (Value.slice a len cap).ownBlock)
    (fun _ i _ => len - (intOf i).toNat)
  case atStart => exact ⟨0, k0, xs0, Nat.zero_le _, rfl, rfl, rfl, h, fun t ht => absurd ht (by omega), World.grownBy.refl _ _⟩
  case round =>
    obtain ⟨j, k, xs, hj, rfl, rfl, hk, how, HA, hG⟩ := hrel
    by_cases hlt : j < len
    · obtain ⟨g, rfl⟩ : ∃ g, a = some ⟨g, 0, none⟩ := by
        rcases how.2 with ⟨h', h0⟩ | ⟨g, cap', cur, h', _⟩
        · omega
        · simp only [Value.slice.injEq] at h'
          exact ⟨g, h'.1⟩
      have hltI : (j : Int) < (len : Int) := by omega
      have hxl : xs.length = len * 4 := how.1
      have hkb : k + 4 ≤ 1152921504606846976 := by omega
      have HK : Hid (k = k0 + 4 * j) := hk
      have f0 := how.frozenAt (j * 4)
      have f1 := how.frozenAt (j * 4 + 1)
      have f2 := how.frozenAt (j * 4 + 2)
      have f3 := how.frozenAt (j * 4 + 3)
      obtain ⟨y0, e0⟩ := own_some how (j * 4) (by omega)
      obtain ⟨y1, e1⟩ := own_some how (j * 4 + 1) (by omega)
      obtain ⟨y2, e2⟩ := own_some how (j * 4 + 2) (by omega)
      obtain ⟨y3, e3⟩ := own_some how (j * 4 + 3) (by omega)
      have HO : Hid (_) := how
      have HG : Hid (_) := hG
      clear how hG h hk
      go_wp2
      go_roundw
      case rel =>
        have o1 := World.ownsRow.stored HO.out (j * 4) (.int .i64 (k : Int))
        have o2 := World.ownsRow.stored o1.1 (j * 4 + 1) (.int .i64 ((k : Int) + 1))
        have o3 := World.ownsRow.stored o2.1 (j * 4 + 2) (.int .i64 ((k : Int) + 1 + 1))
        have o4 := World.ownsRow.stored o3.1 (j * 4 + 3) (.int .i64 ((k : Int) + 1 + 1 + 1))
        refine ⟨j + 1, k + 4, _, by omega, by go_num, by go_num, by have := HK.out; omega, o4.1, ?_, (((HG.out.trans o1.2).trans o2.2).trans o3.2).trans o4.2⟩
        intro t ht
        have hk := HK.out
        rcases Nat.lt_or_ge t (j * 4) with h1 | h1
        · rw [List.getElem?_set_ne (by omega), List.getElem?_set_ne (by omega), List.getElem?_set_ne (by omega), List.getElem?_set_ne (by omega)]
          exact HA.out t h1
        · obtain h2 | h2 | h2 | h2 : t = j * 4 ∨ t = j * 4 + 1 ∨ t = j * 4 + 2 ∨ t = j * 4 + 3 := by omega
          · subst h2
            rw [List.getElem?_set_ne (by omega), List.getElem?_set_ne (by omega), List.getElem?_set_ne (by omega), List.getElem?_set_self (by omega)]
            congr 2; omega
          · subst h2
            rw [List.getElem?_set_ne (by omega), List.getElem?_set_ne (by omega), List.getElem?_set_self (by simp; omega)]
            congr 2; omega
          · subst h2
            rw [List.getElem?_set_ne (by omega), List.getElem?_set_self (by simp; omega)]
            congr 2; omega
          · subst h2
            rw [List.getElem?_set_self (by simp; omega)]
            congr 2; omega
      case measure => simp [intOf]; omega
    · have hje : j = len := by omega
      subst hje
      have hm : xs = mkN k0 (j * 4) := mkN_of (by have := how.1; omega) HA.out
      have HO : Hid (wr.ownsRow base 40 4 (.slice a j cap) j (mkN k0 (j * 4))) := by rw [← hm]; exact how
      have HG : Hid (_) := hG
      have HK : Hid (k = k0 + 4 * j) := hk
      clear how hm h hG HA hk
      go_wp2
      go_ret
      exact ⟨by rw [← HK.out]; rfl, HO.out, HG.out⟩

/-- a row of its own reads as nodes -/
theorem nodes_of {w : World} {base : Nat} {a : Option Addr} {n cap : Nat} {xs : List Value} {Kd N A B : Nat → Int} (h : w.ownsRow base 40 4 (.slice a n cap) n xs) (hx : ∀ i, i < n → xs[i * 4]? = some (.int .i64 (Kd i)) ∧ xs[i * 4 + 1]? = some (.int .i64 (N i)) ∧ xs[i * 4 + 2]? = some (.int .i64 (A i)) ∧ xs[i * 4 + 3]? = some (.int .i64 (B i))) : IsNodes w a n cap Kd N A B := by
  rcases h.2 with ⟨hv, h0⟩ | ⟨g, cap', cur, hv, hb, hg, h1, h2, h3, h4⟩
  · simp only [Value.slice.injEq] at hv
    obtain ⟨rfl, hl, rfl⟩ := hv
    exact ⟨by omega, by omega, fun hp => by omega⟩
  · simp only [Value.slice.injEq, true_and] at hv
    obtain ⟨rfl, rfl⟩ := hv
    refine ⟨h1, h2, fun hp => ⟨g, 0, rfl, lt_of_block hg, fun i hi => ?_⟩⟩
    obtain ⟨g1, g2, g3, g4⟩ := hx i hi
    refine ⟨?_, ?_, ?_, ?_⟩
    · rw [Nat.zero_add, h.cellAt _ (by omega)]; exact g1
    · rw [Nat.zero_add, h.cellAt _ (by omega)]; exact g2
    · rw [Nat.zero_add, h.cellAt _ (by omega)]; exact g3
    · rw [Nat.zero_add, h.cellAt _ (by omega)]; exact g4

/-- the marks, field by field -/
def mkF (k d : Nat) (i : Nat) : Int := ((k + 4 * i + d : Nat) : Int)
theorem nodes_marked {w : World} {base : Nat} {a : Option Addr} {n cap k : Nat} (h : w.ownsRow base 40 4 (.slice a n cap) n (mkN k (n * 4))) : IsNodes w a n cap (mkF k 0) (mkF k 1) (mkF k 2) (mkF k 3) := by
  refine nodes_of h fun i hi => ⟨?_, ?_, ?_, ?_⟩
  all_goals
    rw [mkN_at (by omega)]
    unfold mkF
    congr 2
    omega

set_option maxHeartbeats 1000000 in
theorem heldTNodeS_any (a : Option Addr) (len cap k0 : Nat) (w : World) (h : IsNodes w a len cap (mkF k0 0) (mkF k0 1) (mkF k0 2) (mkF k0 3)) (hb : k0 + 4 * len ≤ 1152921504606846976) :
    Calls Try.prog 8 #[.slice a len cap, .int .i64 k0] w fun e w' => e = .returned (.int .i64 ((k0 + 4 * len : Nat) : Int)) ∧ Below w.heap.size w w' := by
  obtain ⟨hlc, hcm, hc⟩ := h
  go_enter Try.func8, Try.ntmps8
  go_wp2
  go_loopw [1, 5] (fun x i wr => ∃ (j k : Nat), j ≤ len ∧ i = .int .i64 j ∧ x = .int .i64 (k : Int) ∧ k = k0 + 4 * j ∧ Below w.heap.size w wr)
    (fun _ i _ => len - (intOf i).toNat)
  case atStart => exact ⟨0, k0, Nat.zero_le _, rfl, rfl, rfl, Below.refl _ _⟩
  case round =>
    obtain ⟨j, k, hj, rfl, rfl, hk, hB⟩ := hrel
    by_cases hlt : j < len
    · obtain ⟨b, off, rfl, hbs, hcell⟩ := hc (by omega)
      have hltI : (j : Int) < (len : Int) := by omega
      obtain ⟨c1, c2, c3, c4⟩ := hcell j hlt
      have d1 : wr.cell? ⟨b, off + j * 4, none⟩ = some (.int .i64 (k : Int)) := ((hB.cell (p := ⟨b, off + j * 4, none⟩) hbs).trans c1).trans (by unfold mkF; congr 2; omega)
      have d2 : wr.cell? ⟨b, off + j * 4 + 1, none⟩ = some (.int .i64 ((k : Int) + 1)) := ((hB.cell (p := ⟨b, off + j * 4 + 1, none⟩) hbs).trans c2).trans (by unfold mkF; congr 2; omega)
      have d3 : wr.cell? ⟨b, off + j * 4 + 2, none⟩ = some (.int .i64 ((k : Int) + 1 + 1)) := ((hB.cell (p := ⟨b, off + j * 4 + 2, none⟩) hbs).trans c3).trans (by unfold mkF; congr 2; omega)
      have d4 : wr.cell? ⟨b, off + j * 4 + 3, none⟩ = some (.int .i64 ((k : Int) + 1 + 1 + 1)) := ((hB.cell (p := ⟨b, off + j * 4 + 3, none⟩) hbs).trans c4).trans (by unfold mkF; congr 2; omega)
      have n1 : ((k : Int) != (k : Int)) = false := by simp
      have n2 : ((k : Int) + 1 != (k : Int) + 1) = false := by simp
      have n3 : ((k : Int) + 1 + 1 != (k : Int) + 1 + 1) = false := by simp
      have n4 : ((k : Int) + 1 + 1 + 1 != (k : Int) + 1 + 1 + 1) = false := by simp
      have hkb : k + 4 ≤ 1152921504606846976 := by omega
      have HK : Hid (k = k0 + 4 * j) := hk
      have HB : Hid (Below w.heap.size w wr) := hB
      clear hcell hc hB c1 c2 c3 c4 hk
      go_wp2
      go_roundw
      case rel => exact ⟨j + 1, k + 4, by omega, by go_num, by go_num, by have := HK.out; omega, HB.out.trans ⟨rfl, rfl, rfl, Nat.le_refl _, fun _ _ => rfl⟩⟩
      case measure => simp [intOf]; omega
    · have hje : j = len := by omega
      subst hje
      have HK : Hid (k = k0 + 4 * j) := hk
      clear hk
      go_wp2
      go_ret
      exact ⟨by rw [← HK.out]; rfl, hB⟩
end Go.Proofs.Ytgfonjjlhebkgaa
