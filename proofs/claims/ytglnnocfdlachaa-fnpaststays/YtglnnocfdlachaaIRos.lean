/-
  The program's rosters. No condition but that the slices read.
-/
import Derived.Test.YtglnnocfdlachaaIRosP
import Derived.Test.YtglnnocfdlachaaRsF
namespace Go.Proofs.Ytglnnocfdlachaa
open Go.RowKit Go.Maps
set_option linter.unusedVariables false

theorem chainB_fine {D : Nat → Ev} {len : Nat} (h : chainB D len = true) (j : Nat) (hj : j < len) : (D j).fine = true := by
  cases hf : (D j).fine with
  | true => rfl
  | false => rw [chainB_false hj (okAt_fine hf)] at h; cases h
theorem selTo_fine {D : Nat → Ev} {len : Nat} (e : Int) (h : ∀ j, j < len → (D j).fine = true) : ∀ x ∈ selTo D e len, x.fine = true := fun x hx => by
  obtain ⟨j, hj, _, rfl⟩ := (selTo_mem D e x len).1 hx
  exact h j hj

set_option maxRecDepth 10000 in
set_option maxHeartbeats 8000000 in
theorem implRoster_any (a : Option Addr) (len cap : Nat) (D : Nat → Ev) (e : Int) (w : World) (h : IsEvs w a len cap D) :
    Calls Try.prog 16 #[.slice a len cap, .int .i64 e] w fun r w' => ∃ vM vA z, r = .returned (.tuple #[.agg #[vM, vA], .bool (rosB D len e)]) ∧ ((rosB D len e = false ∧ vM = .slice none 0 0 ∧ vA = .slice none 0 0) ∨ (rosB D len e = true ∧ OwnI w' w.heap.size vM (rosterL D len e.toNat).1 ∧ OwnI w' z vA (rosterL D len e.toNat).2 ∧ w.heap.size ≤ z ∧ ∀ k, vM.ownBlock = some k → k < z)) ∧ Below w.heap.size w w' := by
  have HD : Hid (IsEvs w a len cap D) := h
  obtain ⟨W, hW⟩ : ∃ W, W = w.alloc (.cells #[.slice none 0 0, .slice none 0 0] 41) := ⟨_, rfl⟩
  have hBW : Below w.heap.size w W := by rw [hW]; exact (Below.refl _ _).alloc (Nat.le_refl _) _
  have hWs : W.heap.size = w.heap.size + 1 := by rw [hW]; simp
  have g4 : W.heap[w.heap.size]? = some (.cells #[.slice none 0 0, .slice none 0 0] 41 (0, 0)) := by rw [hW]; exact heap_alloc_new _ _
  have HH : Hid (Below w.heap.size w W ∧ W.heap.size = w.heap.size + 1 ∧ W.heap[w.heap.size]? = some (.cells #[.slice none 0 0, .slice none 0 0] 41 (0, 0))) := ⟨hBW, hWs, g4⟩
  have HDW : Hid (IsEvs W a len cap D) := h.below hBW
  have HW : Hid (W = _) := hW
  clear h hW hBW hWs g4
  go_enter Try.func16, Try.ntmps16
  go_wp2_with fail
  rw [← HW.out]
  refine (implChain_any a len cap D W HDW.out).mono ?_
  rintro r w1 ⟨rfl, hB1⟩
  cases hch : chainB D len with
  | false =>
    have hr : Hid (rosB D len e = false) := by show _ = _; unfold rosB; rw [hch]; rfl
    have g4' : w1.heap[w.heap.size]? = some (.cells #[.slice none 0 0, .slice none 0 0] 41 (0, 0)) := (hB1.block _ (by have := HH.out.2.1; omega)).trans HH.out.2.2
    have i0 : w1.cell? ⟨w.heap.size, 0, none⟩ = some (.slice none 0 0) := cellN g4'
    have i1 : w1.cell? ⟨w.heap.size, 1, none⟩ = some (.slice none 0 0) := cellN g4'
    have j0 : w1.frozen? ⟨w.heap.size, 0, none⟩ = false := frozN g4'
    have j1 : w1.frozen? ⟨w.heap.size, 1, none⟩ = false := frozN g4'
    have HE : Hid (((w1.setCell ⟨w.heap.size, 0, none⟩ (.slice none 0 0)).setCell ⟨w.heap.size, 1, none⟩ (.slice none 0 0)).heap[w.heap.size]? = some (.cells #[.slice none 0 0, .slice none 0 0] 41 (0, 0)) ∧ Below w.heap.size w ((w1.setCell ⟨w.heap.size, 0, none⟩ (.slice none 0 0)).setCell ⟨w.heap.size, 1, none⟩ (.slice none 0 0))) := ⟨set2_same _ _ g4', ((HH.out.1.trans (hB1.mono HH.out.1.size)).setCell (p := ⟨w.heap.size, 0, none⟩) (Nat.le_refl _) _).setCell (p := ⟨w.heap.size, 1, none⟩) (Nat.le_refl _) _⟩
    clear g4'
    go_wp2
    exact bodyPost_ret (results_row_tmp rfl _ _ w.heap.size 41 _ _ _ rfl HE.out.1 Try.underlying41 rfl infoR2) rfl ⟨_, _, 0, by rw [hr.out]; rfl, .inl ⟨hr.out, rfl, rfl⟩, HE.out.2⟩
  | true =>
    have hl30 := chainB_len hch
    have HFI : Hid (∀ j, j < len → (D j).fine = true) := chainB_fine hch
    cases hin : inB 0 20 e with
    | false =>
      have hr : Hid (rosB D len e = false) := by show _ = _; unfold rosB; rw [hch, hin]; rfl
      have hout : e < 0 ∨ 20 < e := by unfold inB at hin; simp at hin; omega
      have g4' : w1.heap[w.heap.size]? = some (.cells #[.slice none 0 0, .slice none 0 0] 41 (0, 0)) := (hB1.block _ (by have := HH.out.2.1; omega)).trans HH.out.2.2
      have i0 : w1.cell? ⟨w.heap.size, 0, none⟩ = some (.slice none 0 0) := cellN g4'
      have i1 : w1.cell? ⟨w.heap.size, 1, none⟩ = some (.slice none 0 0) := cellN g4'
      have j0 : w1.frozen? ⟨w.heap.size, 0, none⟩ = false := frozN g4'
      have j1 : w1.frozen? ⟨w.heap.size, 1, none⟩ = false := frozN g4'
      have HE : Hid (((w1.setCell ⟨w.heap.size, 0, none⟩ (.slice none 0 0)).setCell ⟨w.heap.size, 1, none⟩ (.slice none 0 0)).heap[w.heap.size]? = some (.cells #[.slice none 0 0, .slice none 0 0] 41 (0, 0)) ∧ Below w.heap.size w ((w1.setCell ⟨w.heap.size, 0, none⟩ (.slice none 0 0)).setCell ⟨w.heap.size, 1, none⟩ (.slice none 0 0))) := ⟨set2_same _ _ g4', ((HH.out.1.trans (hB1.mono HH.out.1.size)).setCell (p := ⟨w.heap.size, 0, none⟩) (Nat.le_refl _) _).setCell (p := ⟨w.heap.size, 1, none⟩) (Nat.le_refl _) _⟩
      clear g4' hin hch
      rcases hout with h0 | h0
      · have hd0 : decide (e < 0) = true := decide_eq_true h0
        go_wp2
        exact bodyPost_ret (results_row_tmp rfl _ _ w.heap.size 41 _ _ _ rfl HE.out.1 Try.underlying41 rfl infoR2) rfl ⟨_, _, 0, by rw [hr.out]; rfl, .inl ⟨hr.out, rfl, rfl⟩, HE.out.2⟩
      · have hd0 : decide (e < 0) = false := decide_eq_false (by omega)
        have hd1 : decide (20 < e) = true := decide_eq_true h0
        go_wp2
        exact bodyPost_ret (results_row_tmp rfl _ _ w.heap.size 41 _ _ _ rfl HE.out.1 Try.underlying41 rfl infoR2) rfl ⟨_, _, 0, by rw [hr.out]; rfl, .inl ⟨hr.out, rfl, rfl⟩, HE.out.2⟩
    | true =>
      have hr : Hid (rosB D len e = true) := by show _ = _; unfold rosB; rw [hch, hin]; rfl
      have he : 0 ≤ e ∧ e ≤ 20 := by unfold inB at hin; simpa using hin
      have hd0 : decide (e < 0) = false := decide_eq_false (by omega)
      have hd1 : decide (20 < e) = false := decide_eq_false (by omega)
      have hW1 : W.heap.size ≤ w1.heap.size := hB1.size
      have HW1 : Hid (w.heap.size < w1.heap.size ∧ Below w.heap.size w w1 ∧ IsEvs w1 a len cap D ∧ w1.heap[w.heap.size]? = some (.cells #[.slice none 0 0, .slice none 0 0] 41 (0, 0))) := ⟨by have := HH.out.2.1; omega, HH.out.1.trans (hB1.mono HH.out.1.size), HDW.out.below hB1, (hB1.block _ (by have := HH.out.2.1; omega)).trans HH.out.2.2⟩
      clear hch hin hW1 hB1 HDW HH
      go_wp2_with fail
      refine (newCircle_any w1).mono ?_
      rintro r w2 ⟨EM, EA, rfl, hC2, hM2, hA2, hm2, ha2, hB2⟩
      have HI2 : Hid (w2.heap[w1.heap.size + 2]? = some (.cells #[.map (some w1.heap.size), .map (some (w1.heap.size + 1))] 65 (0, 0)) ∧ SetI w2 w1.heap.size 1 EM ∧ SetI w2 (w1.heap.size + 1) 1 EA ∧ (∀ x, has EM (.int .i64 x) = true ↔ x ∈ (rosterL D len 0).1) ∧ (∀ x, has EA (.int .i64 x) = true ↔ x ∈ (rosterL D len 0).2) ∧ Below w1.heap.size w1 w2) := ⟨hC2, hM2, hA2, (fun x => by rw [hm2 x]; simp [rosterL]), (fun x => by rw [ha2 x]; simp [rosterL]), hB2⟩
      clear hC2 hM2 hA2 hm2 ha2 hB2
      go_wp2
      go_loopw [7] (fun i wx => ∃ (k : Nat) (y : Int) (EM EA : DataW Value), Hid (y = ((k + 1 : Nat) : Int)) ∧ (k : Int) ≤ e ∧ i = .int .i64 y ∧ Hid (wx.heap[w1.heap.size + 2]? = some (.cells #[.map (some w1.heap.size), .map (some (w1.heap.size + 1))] 65 (0, 0)) ∧ SetI wx w1.heap.size (1 + 30 * k) EM ∧ SetI wx (w1.heap.size + 1) (1 + 30 * k) EA ∧ (∀ x, has EM (.int .i64 x) = true ↔ x ∈ (rosterL D len k).1) ∧ (∀ x, has EA (.int .i64 x) = true ↔ x ∈ (rosterL D len k).2) ∧ Below w1.heap.size w1 wx)) (fun i _ => 21 - (intOf i).toNat)
      case atStart => exact ⟨0, 1, EM, EA, rfl, he.1, rfl, HI2⟩
      case round =>
        obtain ⟨k, y, EM', EA', HYK, hke, rfl, HI⟩ := hrel
        clear HI2
        have hy : y = (k : Int) + 1 := by rw [HYK.out]; omega
        by_cases hle : y ≤ e
        · have hw : IntKind.i64.wrap (y + 1) = y + 1 := by rw [IntKind.wrap_i64]; omega
          have HDr : Hid (IsEvs wr a len cap D) := HW1.out.2.2.1.below HI.out.2.2.2.2.2
          have HK : Hid (y = (k : Int) + 1 ∧ k ≤ 20) := ⟨hy, by omega⟩
          clear hy
          go_wp2_with fail
          refine (eventsOf_any a len cap D y wr HDr.out HFI.out hl30).mono ?_
          rintro r w3 ⟨v, rfl, hO3, hB3⟩
          have hsl := selTo_len D y len
          have hl3 : (selTo D y len).length ≤ 30 := by omega
          obtain ⟨av, cv, rfl, _⟩ := hO3.slice
          have HO3 := (show Hid _ from hO3)
          have HB3 := (show Hid _ from hB3)
          have HL3 := (show Hid _ from hl3)
          clear hO3 hB3 hsl hl3
          go_wp2_with fail
          refine (pass_any (w1.heap.size + 2) w1.heap.size (w1.heap.size + 1) (1 + 30 * k) (1 + 30 * k) _ EM' EA' _ (selTo D y len) w3 ((HB3.out.block _ (lt_of_block HI.out.1)).trans HI.out.1) (HI.out.2.1.below HB3.out) (HI.out.2.2.1.below HB3.out) (by omega) HO3.out HL3.out (selTo_fine y HFI.out) (by have := HK.out.2; omega)).mono ?_
          rintro r w4 ⟨EM2, EA2, rfl, hM4, hA4, hm4, ha4, hF4⟩
          have HF : Hid (w4.heap[w1.heap.size + 2]? = some (.cells #[.map (some w1.heap.size), .map (some (w1.heap.size + 1))] 65 (0, 0)) ∧ SetI w4 w1.heap.size (1 + 30 * (k + 1)) EM2 ∧ SetI w4 (w1.heap.size + 1) (1 + 30 * (k + 1)) EA2 ∧ (∀ x, has EM2 (.int .i64 x) = true ↔ x ∈ (rosterL D len (k + 1)).1) ∧ (∀ x, has EA2 (.int .i64 x) = true ↔ x ∈ (rosterL D len (k + 1)).2) ∧ Below w1.heap.size w1 w4) := by
            have hC3 := (HB3.out.block _ (lt_of_block HI.out.1)).trans HI.out.1
            have hr1 := (rosterL_ros D len k).1
            have hr2 := (rosterL_ros D len k).2
            have b3 : Below w1.heap.size w1 w3 := HI.out.2.2.2.2.2.trans (HB3.out.mono HI.out.2.2.2.2.2.size)
            have hL3 := HL3.out
            have hst : epochL D len y ((rosterL D len k).1, (rosterL D len k).2) = rosterL D len (k + 1) := by rw [HYK.out]; rfl
            refine ⟨(hF4.block _ (lt_of_block hC3) (by omega) (by omega)).trans hC3, World.ownsMap.mono hM4 (by omega), World.ownsMap.mono hA4 (by omega), fun x => ?_, fun x => ?_, b3.trans (hF4.toBelow (Nat.le_refl _) (by omega) b3.size)⟩
            · rw [hm4 x, ← hst]
              exact add_step D y len _ _ HI.out.2.2.2.2.1 HFI.out _ _ HI.out.2.2.2.1 hr1 x
            · rw [ha4 x, ← hst]
              exact raise_step D y len _ _ HI.out.2.2.2.2.1 HFI.out _ hr2 x
          clear hM4 hA4 hm4 ha4 hF4 HO3 HB3 HL3 HDr
          go_wp2
          go_roundw
          case rel => exact ⟨k + 1, y + 1, _, _, by show _ = _; have := HK.out; omega, by have := HK.out; omega, rfl, HF⟩
          case measure => have := HK.out; simp [intOf]; omega
        · have hkn : k = e.toNat := by omega
          have hd : decide (y ≤ e) = false := decide_eq_false hle
          have d0 : wr.cell? ⟨w1.heap.size + 2, 0, none⟩ = some (.map (some w1.heap.size)) := cellN HI.out.1
          have d1 : wr.cell? ⟨w1.heap.size + 2, 1, none⟩ = some (.map (some (w1.heap.size + 1))) := cellN HI.out.1
          have HKN : Hid (k = e.toNat ∧ k ≤ 20) := ⟨hkn, by omega⟩
          have HBX : Hid (∀ w6, Below wr.heap.size wr w6 → w6.heap[w.heap.size]? = some (.cells #[.slice none 0 0, .slice none 0 0] 41 (0, 0)) ∧ w6.heap[w1.heap.size + 2]? = some (.cells #[.map (some w1.heap.size), .map (some (w1.heap.size + 1))] 65 (0, 0)) ∧ SetI w6 (w1.heap.size + 1) (1 + 30 * k) EA' ∧ Below w.heap.size w w6) := fun w6 hB => by
            have b1 : Below w1.heap.size w1 w6 := HI.out.2.2.2.2.2.trans (hB.mono HI.out.2.2.2.2.2.size)
            exact ⟨(b1.block _ HW1.out.1).trans HW1.out.2.2.2, (hB.block _ (lt_of_block HI.out.1)).trans HI.out.1, HI.out.2.2.1.below hB, HW1.out.2.1.trans (b1.mono (Nat.le_of_lt HW1.out.1))⟩
          have HWZ : Hid (w.heap.size ≤ wr.heap.size) := Nat.le_trans (Nat.le_of_lt HW1.out.1) HI.out.2.2.2.2.2.size
          clear hkn hy
          go_wp2
          go_region_with (first
            | (go_at_call 36
               refine (risingI_any w1.heap.size (1 + 30 * k) EM' wr.drew (SetI.kept (w' := wr.drew) HI.out.2.1 rfl) (by have := HKN.out.2; omega)).mono ?_
               rintro r w5 ⟨v5, L5, rfl, hU5, hM5, hO5, hB5'⟩
               have hB5 := below_drewP hB5'
               have hL5 : L5 = (rosterL D len k).1 := upI_unique hU5 (rosterL_ros D len k).1.up (fun x => (hM5 x).trans (HI.out.2.2.2.1 x))
               obtain ⟨a5, c5, rfl⟩ := hO5.slice
               have d15 : w5.cell? ⟨w1.heap.size + 2, 1, none⟩ = some (.map (some (w1.heap.size + 1))) := cellN (HBX.out _ hB5).2.1
               have HU5 : Hid (OwnI w5 wr.heap.size (.slice a5 L5.length c5) L5 ∧ Below wr.heap.size wr w5 ∧ L5 = (rosterL D len k).1) := ⟨hO5, hB5, hL5⟩
               obtain ⟨n5, hn5⟩ : ∃ n, n = L5.length := ⟨_, rfl⟩
               have HN5 : Hid (n5 = L5.length) := hn5
               rw [← hn5]
               clear hU5 hM5 hO5 hB5' hB5 hL5 hn5)
            | (go_at_call 36
               refine (risingI_any (w1.heap.size + 1) (1 + 30 * k) EA' w5 (HBX.out _ HU5.out.2.1).2.2.1 (by have := HKN.out.2; omega)).mono ?_
               rintro r w6 ⟨v6, L6, rfl, hU6, hM6, hO6, hB6⟩
               have hL6 : L6 = (rosterL D len k).2 := upI_unique hU6 (rosterL_ros D len k).2.up (fun x => (hM6 x).trans (HI.out.2.2.2.2.1 x))
               obtain ⟨a6, c6, rfl⟩ := hO6.slice
               have hB6' : Below wr.heap.size wr w6 := HU5.out.2.1.trans (hB6.mono HU5.out.2.1.size)
               have g6 := (HBX.out _ hB6').1
               have i0 : w6.cell? ⟨w.heap.size, 0, none⟩ = some (.slice none 0 0) := cellN g6
               have i1 : w6.cell? ⟨w.heap.size, 1, none⟩ = some (.slice none 0 0) := cellN g6
               have j0 : w6.frozen? ⟨w.heap.size, 0, none⟩ = false := frozN g6
               have j1 : w6.frozen? ⟨w.heap.size, 1, none⟩ = false := frozN g6
               have HU6 : Hid (OwnI w6 w5.heap.size (.slice a6 L6.length c6) L6 ∧ Below w5.heap.size w5 w6 ∧ Below wr.heap.size wr w6 ∧ L6 = (rosterL D len k).2) := ⟨hO6, hB6, hB6', hL6⟩
               obtain ⟨n6, hn6⟩ : ∃ n, n = L6.length := ⟨_, rfl⟩
               have HN6 : Hid (n6 = L6.length) := hn6
               rw [← hn6]
               clear hU6 hM6 hO6 hB6 hL6 hB6' g6 hn6))
          all_goals
            have HE : Hid (((w6.setCell ⟨w.heap.size, 0, none⟩ (.slice a5 n5 c5)).setCell ⟨w.heap.size, 1, none⟩ (.slice a6 n6 c6)).heap[w.heap.size]? = some (.cells #[.slice a5 n5 c5, .slice a6 n6 c6] 41 (0, 0)) ∧ OwnI ((w6.setCell ⟨w.heap.size, 0, none⟩ (.slice a5 n5 c5)).setCell ⟨w.heap.size, 1, none⟩ (.slice a6 n6 c6)) w.heap.size (.slice a5 n5 c5) (rosterL D len e.toNat).1 ∧ OwnI ((w6.setCell ⟨w.heap.size, 0, none⟩ (.slice a5 n5 c5)).setCell ⟨w.heap.size, 1, none⟩ (.slice a6 n6 c6)) w5.heap.size (.slice a6 n6 c6) (rosterL D len e.toNat).2 ∧ w.heap.size ≤ w5.heap.size ∧ (∀ k, (Value.slice a5 n5 c5).ownBlock = some k → k < w5.heap.size) ∧ Below w.heap.size w ((w6.setCell ⟨w.heap.size, 0, none⟩ (.slice a5 n5 c5)).setCell ⟨w.heap.size, 1, none⟩ (.slice a6 n6 c6))) := by
              obtain ⟨o5, b5, e5⟩ := HU5.out
              obtain ⟨o6, b56, b6, e6⟩ := HU6.out
              have hx := HBX.out _ b6
              rw [← HN5.out, e5] at o5
              rw [← HN6.out, e6] at o6
              rw [HKN.out.1] at o5 o6
              exact ⟨set2_same _ _ hx.1, ((o5.base HWZ.out).below b56).set2 _ _ hx.1, o6.set2 _ _ hx.1, Nat.le_trans HWZ.out b5.size, fun k hk => (World.ownsRow.lt o5 k hk).2, (hx.2.2.2.setCell (p := ⟨w.heap.size, 0, none⟩) (Nat.le_refl _) _).setCell (p := ⟨w.heap.size, 1, none⟩) (Nat.le_refl _) _⟩
            go_wp2
            exact bodyPost_ret (results_row_tmp rfl _ _ w.heap.size 41 _ _ _ rfl HE.out.1 Try.underlying41 rfl infoR2) rfl ⟨_, _, w5.heap.size, by rw [hr.out]; rfl, .inr ⟨hr.out, HE.out.2.1, HE.out.2.2.1, HE.out.2.2.2.1, HE.out.2.2.2.2.1⟩, HE.out.2.2.2.2.2⟩
end Go.Proofs.Ytglnnocfdlachaa
