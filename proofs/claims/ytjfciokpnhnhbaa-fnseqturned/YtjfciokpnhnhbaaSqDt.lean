/-
  spec.DrawSeqTurned: a drawn sequence, an author and a text. No condition but that the code reads.
-/
import Derived.Test.YtjfciokpnhnhbaaSqSn
import Derived.Test.YtjfciokpnhnhbaaSqDd
import Derived.Test.YtjfciokpnhnhbaaSqTy
import Derived.BigQuiet
namespace Go.Proofs.Ytjfciokpnhnhbaa
open Go.RowKit
set_option linter.unusedVariables false

set_option maxRecDepth 10000 in
set_option maxHeartbeats 4000000 in
theorem drawTurned_any {a : Option Addr} {len cap : Nat} {Z : Nat → Int} (W : World) (hU : IsU8 W a len cap Z) :
    Calls Try.prog 8 #[.slice a len cap] W fun e w' => ∃ v A author, ∃ sg : ByteArray, e = .returned (.tuple #[v, .int .i64 author, .string sg]) ∧ sg.size ≤ 100 ∧ OwnN w' W.heap.size v A ∧ Good A ∧ Below W.heap.size W w' := by
  go_enter Try.func8, Try.ntmps8
  go_wp2_with fail
  refine (open_any a len cap W).mono ?_
  rintro e w1 ⟨rfl, hD1⟩
  go_wp2_with fail
  refine (seq8_any hU w1 hD1).mono ?_
  rintro e w2 ⟨v, A, rfl, hO2, hG, hs, hD2, hM2⟩
  have HR : Hid (W.heap.size < w1.heap.size) := hD1.lt
  have HG : Hid (Good A ∧ seqB (gD A) A.length = true) := ⟨hG, hs⟩
  obtain ⟨va, vc, hv, hE2⟩ := hO2.evs
  have HIE : Hid (IsEvs w2 va A.length vc (gD A)) := hE2
  subst hv
  have HX2 : Hid (OwnN w2 w1.heap.size (.slice va A.length vc) A ∧ Draw W a len cap W.heap.size w2) := ⟨hO2, hD2⟩
  clear hD1 hO2 hG hs hD2 hM2 hE2
  go_wp2_with fail
  refine (specText_any va A.length vc (gD A) w2 HIE.out (fun i hi => (HG.out.1.2 i hi).1)).mono ?_
  rintro e w3 ⟨rfl, hB3⟩
  obtain ⟨t, ht⟩ : ∃ t, t = textR (gD A) A.length := ⟨_, rfl⟩
  have ht40 : t.size ≤ 40 := by rw [ht]; exact textR_len _ _ HG.out.2
  rw [← ht]
  have HX3 : Hid (OwnN w3 w1.heap.size (.slice va A.length vc) A ∧ Draw W a len cap W.heap.size w3) := ⟨HX2.out.1.below hB3, HX2.out.2.below hB3⟩
  clear ht hB3 HX2 HIE
  go_wp2_with fail
  refine (below_any hU 4 (by omega) (by omega) w3 HX3.out.2).mono ?_
  rintro e w4 ⟨y, hy0, hy1, rfl, hD4, hM4⟩
  have HX4 : Hid (OwnN w4 w1.heap.size (.slice va A.length vc) A ∧ Draw W a len cap W.heap.size w4) := ⟨HX3.out.1.mut hM4 HR.out, hD4⟩
  clear hD4 hM4 HX3
  have hy : y = 0 ∨ y = 1 ∨ y = 2 ∨ y = 3 := by omega
  rcases hy with rfl | rfl | rfl | rfl
  · go_wp2_with fail
    refine (belowN_any hU (t.size + 1) (by omega) (by omega) w4 HX4.out.2).mono ?_
    rintro e w5 ⟨z, hz, rfl, hD5, hM5⟩
    have HX5 : Hid (OwnN w5 w1.heap.size (.slice va A.length vc) A ∧ Draw W a len cap W.heap.size w5) := ⟨HX4.out.1.mut hM5 HR.out, hD5⟩
    clear hD5 hM5 HX4
    have hzt : z ≤ t.size := by omega
    have e1 : (t.extract 0 z).size = z := by rw [ByteArray.size_extract]; omega
    have e2 : (t.extract z t.size).size = t.size - z := by rw [ByteArray.size_extract]; omega
    obtain ⟨nw, hnw⟩ : ∃ nw : ByteArray, nw = ⟨#[110, 101, 119]⟩ := ⟨_, rfl⟩
    have e3 : nw.size = 3 := by rw [hnw]; rfl
    have a1 := fun w => addS (a := t.extract 0 z) (b := nw) (by omega) w
    have a2 := fun w => addS (a := t.extract 0 z ++ nw) (b := t.extract z t.size) (by rw [ByteArray.size_append]; omega) w
    rw [hnw] at a1 a2
    have HSZ : Hid ((t.extract 0 z ++ ⟨#[110, 101, 119]⟩ ++ t.extract z t.size).size ≤ 100) := by
      show _ ≤ _
      rw [← hnw, ByteArray.size_append, ByteArray.size_append]
      omega
    clear hnw e1 e2 e3
    go_wp2
    go_quiet (fail)
    go_wp2_with fail
    refine (below_any hU 4 (by omega) (by omega) _ (HX5.out.2.drewN _)).mono ?_
    rintro e w6 ⟨y2, _, _, rfl, hD6, hM6⟩
    have HX6 : Hid (OwnN w6 w1.heap.size (.slice va A.length vc) A ∧ Draw W a len cap W.heap.size w6) := ⟨HX5.out.1.mut (((Mut.refl _ w5).drewN _).trans hM6) HR.out, hD6⟩
    clear hD6 hM6 HX5
    go_wp2
    refine bodyPost_ret (results_3t (u := 2) (v := 3) (x := 4) rfl _ _) rfl ?_
    exact ⟨_, A, _, _, rfl, HSZ.out, HX6.out.1.base (Nat.le_of_lt HR.out), HG.out.1, HX6.out.2.bel⟩
  · go_wp2_with fail
    refine (belowN_any hU (t.size + 1) (by omega) (by omega) w4 HX4.out.2).mono ?_
    rintro e w5 ⟨z, hz, rfl, hD5, hM5⟩
    have HX5 : Hid (OwnN w5 w1.heap.size (.slice va A.length vc) A ∧ Draw W a len cap W.heap.size w5) := ⟨HX4.out.1.mut hM5 HR.out, hD5⟩
    clear hD5 hM5 HX4
    have hzt : z ≤ t.size := by omega
    have HSZ : Hid ((t.extract 0 z).size ≤ 100) := by show _ ≤ _; rw [ByteArray.size_extract]; omega
    go_wp2_with fail
    refine (below_any hU 4 (by omega) (by omega) w5 HX5.out.2).mono ?_
    rintro e w6 ⟨y2, _, _, rfl, hD6, hM6⟩
    have HX6 : Hid (OwnN w6 w1.heap.size (.slice va A.length vc) A ∧ Draw W a len cap W.heap.size w6) := ⟨HX5.out.1.mut hM6 HR.out, hD6⟩
    clear hD6 hM6 HX5
    go_wp2
    refine bodyPost_ret (results_3t (u := 2) (v := 3) (x := 4) rfl _ _) rfl ?_
    exact ⟨_, A, _, _, rfl, HSZ.out, HX6.out.1.base (Nat.le_of_lt HR.out), HG.out.1, HX6.out.2.bel⟩
  · have HL4 : Hid (W.heap.size < w4.heap.size) := HX4.out.2.lt
    go_wp2_with fail
    refine (below_any hU 4 (by omega) (by omega) _ (HX4.out.2.alloc _)).mono ?_
    rintro e w5 ⟨y4, h40, h41, rfl, hD5, hM5⟩
    have hc := lit_cells hM5 HL4.out
    obtain ⟨i4, rfl⟩ : ∃ i : Nat, y4 = (i : Int) := ⟨y4.toNat, by omega⟩
    have hi4 : i4 < 4 := by omega
    have hi4I : (i4 : Int) < 4 := by omega
    obtain ⟨sg, hsg8, c4⟩ : ∃ sg : ByteArray, sg.size ≤ 10 ∧ w5.cell? ⟨w4.heap.size, i4, none⟩ = some (.string sg) := by
      have : i4 = 0 ∨ i4 = 1 ∨ i4 = 2 ∨ i4 = 3 := by omega
      rcases this with rfl | rfl | rfl | rfl
      · exact ⟨_, by decide, hc 0⟩
      · exact ⟨_, by decide, hc 1⟩
      · exact ⟨_, by decide, hc 2⟩
      · exact ⟨_, by decide, hc 3⟩
    have hM45 : Mut W.heap.size w4 w5 := ((Mut.refl _ w4).alloc _).trans hM5
    have HX5 : Hid (OwnN w5 w1.heap.size (.slice va A.length vc) A ∧ Draw W a len cap W.heap.size w5) := ⟨HX4.out.1.mut hM45 HR.out, hD5⟩
    have HSZ : Hid (sg.size ≤ 100) := by show _ ≤ _; omega
    clear hD5 hM5 HX4 hM45 hc h40 h41
    go_wp2_with fail
    refine (below_any hU 4 (by omega) (by omega) w5 HX5.out.2).mono ?_
    rintro e w6 ⟨y2, _, _, rfl, hD6, hM6⟩
    have HX6 : Hid (OwnN w6 w1.heap.size (.slice va A.length vc) A ∧ Draw W a len cap W.heap.size w6) := ⟨HX5.out.1.mut hM6 HR.out, hD6⟩
    clear hD6 hM6 HX5
    go_wp2
    refine bodyPost_ret (results_3t (u := 2) (v := 3) (x := 4) rfl _ _) rfl ?_
    exact ⟨_, A, _, _, rfl, HSZ.out, HX6.out.1.base (Nat.le_of_lt HR.out), HG.out.1, HX6.out.2.bel⟩
  · have HSZ : Hid (t.size ≤ 100) := by show _ ≤ _; omega
    go_wp2_with fail
    refine (below_any hU 4 (by omega) (by omega) w4 HX4.out.2).mono ?_
    rintro e w6 ⟨y2, _, _, rfl, hD6, hM6⟩
    have HX6 : Hid (OwnN w6 w1.heap.size (.slice va A.length vc) A ∧ Draw W a len cap W.heap.size w6) := ⟨HX4.out.1.mut hM6 HR.out, hD6⟩
    clear hD6 hM6 HX4
    go_wp2
    refine bodyPost_ret (results_3t (u := 2) (v := 3) (x := 4) rfl _ _) rfl ?_
    exact ⟨_, A, _, _, rfl, HSZ.out, HX6.out.1.base (Nat.le_of_lt HR.out), HG.out.1, HX6.out.2.bel⟩
end Go.Proofs.Ytjfciokpnhnhbaa
