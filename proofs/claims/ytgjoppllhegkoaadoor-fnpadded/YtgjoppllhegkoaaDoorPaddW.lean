/-
  The walk of the law FnPadded.
-/
import Derived.Test.YtgjoppllhegkoaaDoorPadd
namespace Go.Proofs.YtgjoppllhegkoaaDoor
open Go.RowKit
set_option linter.unusedVariables false

theorem IsU8.below {w w' : World} {a : Option Addr} {len cap : Nat} {Z : Nat → Int} (h : IsU8 w a len cap Z) (hB : Below w.heap.size w w') : IsU8 w' a len cap Z := by
  obtain ⟨h1, h2, h3, h4⟩ := h
  refine ⟨h1, h2, h3, fun hp => ?_⟩
  obtain ⟨b, off, e, hb, hc⟩ := h4 hp
  exact ⟨b, off, e, by have := hB.size; omega, fun i hi => (hB.cell (p := ⟨b, off + i, none⟩) hb).trans (hc i hi)⟩

theorem toList_same (a : ByteArray) : (a.toList == a.toList) = true := by simp

set_option maxRecDepth 4000 in
set_option maxHeartbeats 1600000 in
theorem padded_walk {a : Option Addr} {len cap : Nat} {Z : Nat → Int} (w : World) (hU : IsU8 w a len cap Z) (hS : Sizes w) :
    Calls Tryd.prog 3 #[.slice a len cap] w fun e w' => e = .returned (.bool true) ∧ Below w.heap.size w w' := by
  by_cases hbig : (1048576 : Int) < (len : Int)
  · go_enter Tryd.func3, Tryd.ntmps3
    go_wp2_with (go_at_call 6; refine (big_any _ _ _ _).mono ?_; rintro e w1 ⟨rfl, rfl⟩; rw [decide_eq_true hbig])
    go_ret
    exact ⟨rfl, Below.refl _ _⟩
  · go_enter Tryd.func3, Tryd.ntmps3
    go_wp2_with (first
      | (go_at_call 6; refine (big_any _ _ _ _).mono ?_; rintro e w1 ⟨rfl, rfl⟩; rw [decide_eq_false hbig])
      | (go_at_call 7; refine (drawPadded_any hU).mono ?_; rintro e w1 ⟨s, hs, rfl, hB1⟩))
    clear hbig
    obtain ⟨z, hz, hz1, hz2⟩ := sizeOf_fits (n := s.size) (by omega)
    have hpR : padR s = .tuple #[.string (padB s (z - s.size - 1)), .bool true] := by
      unfold padR
      rw [if_pos (by omega), hz]
      rfl
    have huR := unpad_pad hz hz1
    have htr := padB_trail s (z - s.size - 1)
    have hps : (padB s (z - s.size - 1)).size = z := by rw [padB_size]; omega
    refine (implPadded_any s (by omega) _ (hS.below hB1)).mono ?_
    rintro e w2 ⟨rfl, hB2⟩
    rw [hpR]
    have hB12 := hB1.trans (hB2.mono hB1.size)
    clear hB1 hB2
    go_wp2_with (go_at_call 9; refine (specPadded_any s (by omega) _).mono ?_; rintro e w3 ⟨rfl, hB3⟩; rw [hpR])
    have hB13 := hB12.trans (hB3.mono hB12.size)
    clear hB12 hB3 hpR
    refine (implUnpadded_any (padB s (z - s.size - 1)) (s.size + 1) htr (by omega) _ (hS.below hB13)).mono ?_
    rintro e w4 ⟨rfl, hB4⟩
    rw [huR]
    have hB14 := hB13.trans (hB4.mono hB13.size)
    clear hB13 hB4 htr huR
    generalize padB s (z - s.size - 1) = p at hps
    go_wp2_with (go_at_call 11; refine (implSize_any _ _ (hS.below hB14)).mono ?_; rintro e w5 ⟨rfl, rfl⟩; rw [hz])
    clear hps hz hz1 hz2
    refine (drawUnpadded_any (hU.below hB14)).mono ?_
    rintro e w6 ⟨x, hx, rfl, hB6⟩
    have hB16 := hB14.trans (hB6.mono hB14.size)
    clear hB14 hB6
    obtain ⟨k, ht⟩ := trail_ex x
    by_cases hc : 0 < k ∧ bt x (k - 1) = 128 ∧ sizeOf ((k : Int) - 1) = x.size
    · have hr := unpadR_yes hc
      have hy : (x.extract 0 (k - 1)).size ≤ 1000 := by rw [ByteArray.size_extract]; omega
      have hpr := pad_unpad ht hr
      generalize x.extract 0 (k - 1) = y at hr hy hpr
      clear hc
      go_wp2_with (go_at_call 10; refine (implUnpadded_any x k ht (by omega) _ (hS.below hB16)).mono ?_; rintro e w7 ⟨rfl, hB7⟩; rw [hr])
      have hB17 := hB16.trans (hB7.mono hB16.size)
      clear hB16 hB7
      refine (specUnpadded_any x k ht (by omega) _).mono ?_
      rintro e w8 ⟨rfl, hB8⟩
      rw [hr]
      have hB18 := hB17.trans (hB8.mono hB17.size)
      clear hB17 hB8
      go_wp2_with (go_at_call 8; refine (implPadded_any y (by omega) _ (hS.below hB18)).mono ?_; rintro e w9 ⟨rfl, hB9⟩; rw [hpr])
      go_ret
      exact ⟨rfl, hB18.trans (hB9.mono hB18.size)⟩
    · have hr := unpadR_no hc
      obtain ⟨u, hu, hu2, hpr⟩ := padR_short (t := ⟨#[]⟩) (by show 0 ≤ 39; omega)
      clear hc
      go_wp2_with (go_at_call 10; refine (implUnpadded_any x k ht (by omega) _ (hS.below hB16)).mono ?_; rintro e w7 ⟨rfl, hB7⟩; rw [hr])
      have hB17 := hB16.trans (hB7.mono hB16.size)
      clear hB16 hB7
      refine (specUnpadded_any x k ht (by omega) _).mono ?_
      rintro e w8 ⟨rfl, hB8⟩
      rw [hr]
      have hB18 := hB17.trans (hB8.mono hB17.size)
      clear hB17 hB8
      go_wp2_with (go_at_call 8; refine (implPadded_any ⟨#[]⟩ (by show 0 ≤ _; omega) _ (hS.below hB18)).mono ?_; rintro e w9 ⟨rfl, hB9⟩; rw [hpr])
      go_ret
      exact ⟨rfl, hB18.trans (hB9.mono hB18.size)⟩
end Go.Proofs.YtgjoppllhegkoaaDoor
