/-
  The drawn texts of FnPadded: whatever the code, DrawPadded gives a text of at most 39 bytes, DrawUnpadded one of at most 1000. Condition: the code reads as bytes.
-/
import Derived.Test.YtgjoppllhegkoaaDoorUnpW
namespace Go.Proofs.YtgjoppllhegkoaaDoor
open Go.RowKit
set_option linter.unusedVariables false

/-- the text of one byte -/
def dgI (c : Int) : ByteArray := ⟨#[UInt8.ofNat c.toNat]⟩
theorem dgI_size (c : Int) : (dgI c).size = 1 := rfl

theorem byte_string (w : World) (c : Int) : (convert 22 9 (.slice (some ⟨w.heap.size, 0, none⟩) 1 1)).run Tryd.prog (w.alloc (.cells #[.int .u8 c] 5)) = .ok (.string (dgI c)) (w.alloc (.cells #[.int .u8 c] 5)) := by
  rw [run_convert_bytes_string _ 22 9 5 _ _ _ Tryd.underlying22 Tryd.underlying5 Tryd.underlying9]
  rw [run_bytesToString _ _ 1 1 [c] (by simp [loadCells, go_sem])]
  rfl

section
variable {W : World} {a : Option Addr} {len cap R : Nat} {Z : Nat → Int}

theorem Draw.below {w w' : World} (h : Draw W a len cap R w) (hB : Below w.heap.size w w') : Draw W a len cap R w' := by
  obtain ⟨p, hp, hb⟩ := h.box
  have hlt := lt_of_block hb
  exact ⟨h.bel.trans (hB.mono (Nat.le_trans h.new (Nat.le_of_lt hlt))), h.new, p, hp, (hB.block R hlt).trans hb⟩

set_option maxRecDepth 4000 in
set_option maxHeartbeats 400000 in
theorem body_any (hU : IsU8 W a len cap Z) (w : World) (h : Draw W a len cap R w) :
    Calls Tryd.prog 22 #[.pointer (some ⟨R, 0, none⟩)] w fun e w' => ∃ t : ByteArray, t.size ≤ 39 ∧ e = .returned (.string t) ∧ Draw W a len cap R w' := by
  go_enter Tryd.func22, Tryd.ntmps22
  go_wp2_with (go_at_call 28; refine (below_any hU 40 (by omega) (by omega) _ h).mono ?_; rintro e w' ⟨x, hx0, hx1, rfl, hD, hM⟩)
  go_loopw [3, 4] (fun x i wr => ∃ (t : ByteArray) (k : Nat), Hid (t.size + k ≤ 39) ∧ x = .string t ∧ i = .int .i64 k ∧ Draw W a len cap R wr) (fun _ i _ => (intOf i).toNat)
  case atStart => exact ⟨ByteArray.empty, x.toNat, by show _ ≤ _; have : ByteArray.empty.size = 0 := rfl; omega, rfl, by rw [show ((x.toNat : Nat) : Int) = x by omega], hD⟩
  case round =>
    obtain ⟨t, k, hk, rfl, rfl, hDr⟩ := hrel
    by_cases hp : 0 < k
    · have hpI : (0 : Int) < (k : Int) := by omega
      have hk39 : k ≤ 39 := by have := hk.out; omega
      have hadd : ∀ (c : Int) (w' : World), (Op.stringOp .add t (dgI c)).run Tryd.prog w' = .ok (.string (t ++ dgI c)) w' := fun c w' => add_ok (by have := hk.out; have := dgI_size c; omega) w'
      have hcv := byte_string
      go_wp2_with (go_at_call 28; refine (below_any hU 256 (by omega) (by omega) _ hDr).mono ?_; rintro e w2 ⟨y, hy0, hy1, rfl, hD2, hM2⟩)
      refine ⟨⟨t ++ dgI y, k - 1, ?_, rfl, ?_, hD2.alloc _⟩, ?_⟩
      · show _ ≤ _
        have := hk.out
        rw [ByteArray.size_append, dgI_size]
        omega
      · rw [show (((k - 1 : Nat)) : Int) = (k : Int) - 1 by omega]
      · simp [intOf]
        omega
    · have hk0 : k = 0 := by omega
      subst hk0
      go_wp2
      go_ret
      exact ⟨t, by have := hk.out; omega, rfl, hDr⟩

theorem drawPadded_any (hU : IsU8 W a len cap Z) :
    Calls Tryd.prog 7 #[.slice a len cap] W fun e w' => ∃ t : ByteArray, t.size ≤ 39 ∧ e = .returned (.string t) ∧ Below W.heap.size W w' := by
  go_enter Tryd.func7, Tryd.ntmps7
  go_wp2_with (first
    | (go_at_call 21; refine (open_any _ _ _ _).mono ?_; rintro e w1 ⟨rfl, hD⟩)
    | (go_at_call 22; refine (body_any hU _ hD).mono ?_; rintro e w2 ⟨t, ht, rfl, hD2⟩))
  go_ret
  exact ⟨t, ht, rfl, hD2.bel⟩

/-- Padded of a short text is a short text -/
theorem padR_short {t : ByteArray} (h : t.size ≤ 39) : ∃ u : ByteArray, u.size ≤ 200 ∧ 2 ≤ u.size ∧ padR t = .tuple #[.string u, .bool true] := by
  obtain ⟨z, hz, hz1, hz2⟩ := sizeOf_fits (n := t.size) (by omega)
  have hz3 : z ≤ 64 ∧ 16 ≤ z := by
    have : sizeOf (t.size : Int) ≤ 64 ∧ 16 ≤ sizeOf (t.size : Int) := by unfold sizeOf; split <;> (try split) <;> (try split) <;> (try split) <;> (try split) <;> omega
    omega
  refine ⟨padB t (z - t.size - 1), by rw [padB_size]; omega, by rw [padB_size]; omega, ?_⟩
  unfold padR
  rw [if_pos (by omega), hz]
  rfl

set_option maxRecDepth 4000 in
set_option maxHeartbeats 800000 in
theorem drawUnpadded_any (hU : IsU8 W a len cap Z) :
    Calls Tryd.prog 12 #[.slice a len cap] W fun e w' => ∃ t : ByteArray, t.size ≤ 1000 ∧ e = .returned (.string t) ∧ Below W.heap.size W w' := by
  go_enter Tryd.func12, Tryd.ntmps12
  go_wp2_with (first
    | (go_at_call 21; refine (open_any _ _ _ _).mono ?_; rintro e w1 ⟨rfl, hD⟩)
    | (go_at_call 22; refine (body_any hU _ hD).mono ?_; rintro e w2 ⟨t, ht, rfl, hD2⟩))
  obtain ⟨u, hu, hu2, hp⟩ := padR_short ht
  refine (specPadded_any t (by omega) _).mono ?_
  rintro e w3 ⟨rfl, hB3⟩
  rw [hp]
  have hD3 := hD2.below hB3
  clear hB3
  have hadd : ∀ (b : ByteArray), b.size ≤ 1 → ∀ (w' : World), (Op.stringOp .add u b).run Tryd.prog w' = .ok (.string (u ++ b)) w' := fun b hb w' => add_ok (by omega) w'
  have ha0 := hadd ⟨#[]⟩ (by show 0 ≤ 1; omega)
  have ha1 := hadd ⟨#[0]⟩ (Nat.le_refl _)
  have ha2 := hadd ⟨#[120]⟩ (Nat.le_refl _)
  have huI : (2 : Int) ≤ (u.size : Int) := by omega
  have huJ : (u.size : Int) ≤ 200 := by omega
  clear hadd
  go_wp2_with (first
    | (go_at_call 27; refine (once_any hU 4 (by omega) (by omega) _ hD3).mono ?_; rintro e w4 ⟨x, rfl, hD4, hM4⟩)
    | fail)
  · refine (below_any hU _ (by omega) (by omega) _ hD4).mono ?_
    rintro e w5 ⟨y, hy0, hy1, rfl, hD5, hM5⟩
    obtain ⟨m, rfl⟩ := Int.eq_ofNat_of_zero_le hy0
    have hm : m ≤ u.size := by omega
    go_wp2
    go_ret
    exact ⟨_, by rw [ByteArray.size_extract]; omega, rfl, hD5.bel⟩
  · refine (below_any hU 4 (by omega) (by omega) _ (hD4.alloc _)).mono ?_
    rintro e w5 ⟨y, hy0, hy1, rfl, hD5, hM5⟩
    have hc := lit_cells hM5 hD4.lt
    have c0 := hc 0
    have c1 := hc 1
    have c2 := hc 2
    have c3 := hc 3
    clear hc hM5
    have hB : Hid (Below W.heap.size W w5) := hD5.bel
    have hy : y = 0 ∨ y = 1 ∨ y = 2 ∨ y = 3 := by omega
    rcases hy with rfl | rfl | rfl | rfl
    · go_wp2
      go_ret
      exact ⟨_, by rw [ByteArray.size_append]; show u.size + 0 ≤ _; omega, rfl, hB.out⟩
    · go_wp2
      go_ret
      exact ⟨_, by rw [ByteArray.size_append]; show u.size + 0 ≤ _; omega, rfl, hB.out⟩
    · go_wp2
      go_ret
      exact ⟨_, by rw [ByteArray.size_append]; show u.size + 1 ≤ _; omega, rfl, hB.out⟩
    · go_wp2
      go_ret
      exact ⟨_, by rw [ByteArray.size_append]; show u.size + 1 ≤ _; omega, rfl, hB.out⟩
end
end Go.Proofs.YtgjoppllhegkoaaDoor
