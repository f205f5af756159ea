/-
  spec's r.seq(10) and DrawSeqDeleted: a drawn sequence. No condition but that the code reads.
  spec.DrawSeqDeleted, and the law's comparison of two sequences. No condition but that the code reads.
  Single operations of the regions that draw a place and a sign. No condition.
-/
import Derived.Test.YtjfciokpnhnhbaaSqDr
import Derived.Test.YtjfciokpnhnhbaaSqTu
import Derived.BigQuiet
namespace Go.Proofs.Ytjfciokpnhnhbaa
open Go.RowKit
set_option linter.unusedVariables false

section
variable {W : World} {a : Option Addr} {len cap R : Nat} {Z : Nat → Int}

set_option maxRecDepth 10000 in
set_option maxHeartbeats 8000000 in
theorem seq_any (hU : IsU8 W a len cap Z) (w : World) (h : Draw W a len cap R w) :
    Calls Try.prog 21 #[.pointer (some ⟨R, 0, none⟩), .int .i64 10] w fun e w' => ∃ v A, e = .returned v ∧ OwnV w' w.heap.size v A ∧ Good A ∧ seqB (gD A) A.length = true ∧ Draw W a len cap R w' ∧ Mut R w w' := by
  have HRW : Hid (R < w.heap.size) := h.lt
  have HD0 : Hid (Draw W a len cap R w) := h
  clear h
  go_enter Try.func21, Try.ntmps21
  go_wp2_with fail
  refine (below_any hU 11 (by omega) (by omega) _ (HD0.out.alloc _)).mono ?_
  rintro e w1 ⟨y, hy0, hy1, rfl, hD1, hM1⟩
  obtain ⟨n, rfl⟩ : ∃ n : Nat, y = (n : Int) := ⟨y.toNat, by omega⟩
  have hn : n ≤ 10 := by omega
  have HS1 : Hid (OwnV w1 w.heap.size (.slice (some ⟨w.heap.size, 0, none⟩) 0 0) [] ∧ Draw W a len cap R w1 ∧ Mut R w w1) := by
    refine ⟨OwnV.mut (R := R) (w := w.alloc (.cells #[] 36)) ⟨rfl, .inr ⟨w.heap.size, 0, #[], rfl, Nat.le_refl _, heap_alloc_new _ _, Nat.le_refl _, Nat.zero_le _, rfl, rfl⟩⟩ hM1 HRW.out, hD1, ((Mut.refl R w).alloc _).trans hM1⟩
  have HG0 : Hid (Good ([] : List Ev) ∧ seqB (gD []) ([] : List Ev).length = true) := ⟨⟨Nat.zero_le _, fun i hi => absurd hi (Nat.not_lt_zero _)⟩, rfl⟩
  clear hD1 hM1 hy0 hy1
  go_wp2
  go_loopw [5, 6] (fun v i wr => ∃ (k : Nat) (A : List Ev) (v' : Value), k ≤ 10 ∧ i = .int .i64 k ∧ v' = v ∧ Hid (OwnV wr w.heap.size v' A ∧ Good A ∧ seqB (gD A) A.length = true ∧ Draw W a len cap R wr ∧ Mut R w wr)) (fun _ i _ => (Go.RowKit.intOf i).toNat)
  case atStart => exact ⟨n, [], _, hn, rfl, rfl, HS1.out.1, HG0.out.1, HG0.out.2, HS1.out.2.1, HS1.out.2.2⟩
  case round =>
    obtain ⟨k1, A, v, hk, rfl, rfl, HI⟩ := hrel
    clear HS1 HG0
    by_cases hlt : 0 < k1
    · obtain ⟨k, rfl⟩ : ∃ k, k1 = k + 1 := ⟨k1 - 1, by omega⟩
      obtain ⟨va, vc, hv, hE⟩ := HI.out.1.evs
      have HIS : Hid (∀ w', OwnV w' w.heap.size (.slice va A.length vc) A → IsEvs w' va A.length vc (gD A)) := fun w' ho => by
        obtain ⟨va', vc', e, hE'⟩ := ho.evs
        simp only [Value.slice.injEq, true_and] at e
        obtain ⟨rfl, rfl⟩ := e
        exact hE'
      subst hv
      have HIE0 : Hid (IsEvs wr va A.length vc (gD A)) := hE
      clear hE
      go_wp2_with fail
      refine (l10Ids_any va A.length vc (gD A) wr HIE0.out HI.out.2.2.1).mono ?_
      rintro e w2 ⟨vi, rfl, hO2, hB2⟩
      obtain ⟨L, hL⟩ : ∃ L, L = idsL (gD A) A.length := ⟨_, rfl⟩
      have hL40 : L.length ≤ 40 := by rw [hL, ← idsR_yes HI.out.2.2.1]; exact idsR_len _ _
      rw [← hL] at hO2
      obtain ⟨vb, vd, rfl⟩ := hO2.slice
      obtain ⟨m, hm⟩ : ∃ m, m = L.length := ⟨_, rfl⟩
      rw [← hm] at hL40 ⊢
      have HX2 : Hid (OwnV w2 w.heap.size (.slice va A.length vc) A ∧ Draw W a len cap R w2 ∧ Mut R w w2) := ⟨HI.out.1.below hB2, HI.out.2.2.2.1.below hB2, HI.out.2.2.2.2.trans (Mut.of_below hB2)⟩
      have HGG : Hid (Good A ∧ seqB (gD A) A.length = true) := ⟨HI.out.2.1, HI.out.2.2.1⟩
      clear hO2 hB2 hL hm HI HIE0
      go_wp2_with fail
      refine (below_any hU 3 (by omega) (by omega) w2 HX2.out.2.1).mono ?_
      rintro e w3 ⟨y3, h30, h31, rfl, hD3, hM3⟩
      have HX3 : Hid (OwnV w3 w.heap.size (.slice va A.length vc) A ∧ Draw W a len cap R w3 ∧ Mut R w w3) := ⟨HX2.out.1.mut hM3 HRW.out, hD3, HX2.out.2.2.trans hM3⟩
      clear hD3 hM3 HX2
      obtain ⟨author, hau⟩ : ∃ author : Int, 1 + y3 = author := ⟨_, rfl⟩
      by_cases hm0 : 1 ≤ m
      · have hm0I : (0 : Int) < (m : Int) := by omega
        go_wp2_with fail
        refine (once_any hU 4 (by omega) (by omega) w3 HX3.out.2.1).mono ?_
        rintro e w4 ⟨on, rfl, hD4, hM4⟩
        have HOV : Hid (OwnV w4 w.heap.size (.slice va A.length vc) A ∧ Good A ∧ seqB (gD A) A.length = true) := ⟨HX3.out.1.mut hM4 HRW.out, HGG.out⟩
        have HDW : Hid (Draw W a len cap R w4 ∧ Mut R w w4) := ⟨hD4, HX3.out.2.2.trans hM4⟩
        clear hD4 hM4 HX3 HGG
        cases on with
        | true =>
          go_wp2_with fail
          refine (belowN_any hU m hm0 (by omega) w4 HDW.out.1).mono ?_
          rintro e w5 ⟨z, hz, rfl, hD5, hM5⟩
          have HOV5 : Hid (OwnV w5 w.heap.size (.slice va A.length vc) A ∧ Good A ∧ seqB (gD A) A.length = true) := ⟨HOV.out.1.mut hM5 HRW.out, HOV.out.2⟩
          have HDW5 : Hid (Draw W a len cap R w5 ∧ Mut R w w5) := ⟨hD5, HDW.out.2.trans hM5⟩
          clear HOV HDW hD5 hM5
          have HOV := HOV5
          have HDW := HDW5
          clear HOV5 HDW5
          have HIE : Hid (IsEvs w5 va A.length vc (gD A)) := HIS.out w5 HOV.out.1
          go_wp2_with fail
          refine (specDeleted_any va A.length vc (gD A) author (z : Int) w5 HIE.out HOV.out.2.1.2).mono ?_

          rintro e w6 ⟨v6, rfl, hO6, hB6⟩
          obtain ⟨x6, hx6⟩ : ∃ x6 : Value, x6 = .agg (enc4 (if okD (gD A) A.length author (z : Int) then opD (gD A) A.length author (z : Int) else evZ)).toArray := ⟨_, rfl⟩
          rw [← hx6]
          clear hx6
          obtain ⟨s, hs⟩ : ∃ s, s = okD (gD A) A.length author (z : Int) := ⟨_, rfl⟩
          rw [← hs] at hO6 ⊢
          have HD6 : Hid (Draw W a len cap R w6 ∧ Mut R w w6) := ⟨HDW.out.1.below hB6, HDW.out.2.trans (Mut.of_below hB6)⟩
          cases s with
          | false =>
            have HR : Hid (OwnV w6 w.heap.size (.slice va A.length vc) A ∧ Good A ∧ seqB (gD A) A.length = true ∧ Draw W a len cap R w6 ∧ Mut R w w6) := ⟨HOV.out.1.below hB6, HOV.out.2.1, HOV.out.2.2, HD6.out.1, HD6.out.2⟩
            clear hs hO6 hB6
            go_wp2
            go_roundw
            case rel => exact ⟨k, A, _, by omega, by go_num, rfl, HR.out⟩
            case measure => simp [Go.RowKit.intOf]
          | true =>
            obtain ⟨B, hB⟩ : ∃ B, B = A ++ [opD (gD A) A.length author (z : Int)] := ⟨_, rfl⟩
            have hst := stD_ok hs.symm
            rw [← hB] at hst
            have HR : Hid (OwnV w6 w.heap.size v6 B ∧ Good B ∧ seqB (gD B) B.length = true ∧ Draw W a len cap R w6 ∧ Mut R w w6) := by
              refine ⟨?_, (stD_some HOV.out.2.1 hst).1, ?_, HD6.out.1, HD6.out.2⟩
              · have := hO6.base (HDW.out.2.size)
                rw [if_pos rfl, listD_gD, ← hB] at this
                exact this
              · have h1 := hs.symm
                unfold okD okW at h1
                simp only [Bool.and_eq_true] at h1
                have h2 := h1.2.2
                have e : snocD (gD A) A.length (opD (gD A) A.length author (z : Int)) = gD B := funext fun i => by unfold snocD; rw [listD_gD, hB]; rfl
                rw [e] at h2
                rw [hB, List.length_append, ← hB]
                exact h2
            clear hs hO6 hB6 hst hB
            go_wp2
            go_roundw
            case rel => exact ⟨k, B, _, by omega, by go_num, rfl, HR.out⟩
            case measure => simp [Go.RowKit.intOf]
        | false =>
          go_wp2_with fail
          refine (belowN_any hU (m + 1) (by omega) (by omega) w4 HDW.out.1).mono ?_
          rintro e w5' ⟨z, hz, rfl, hD5, hM5⟩
          have HL5 : Hid (R < w5'.heap.size) := hD5.lt
          have HOV5 : Hid (OwnV w5' w.heap.size (.slice va A.length vc) A) := HOV.out.1.mut hM5 HRW.out
          go_wp2_with fail
          refine (below_any hU 4 (by omega) (by omega) _ (hD5.alloc _)).mono ?_
          rintro e w5 ⟨y4, h40, h41, rfl, hD6, hM6⟩
          have hc := lit_cells hM6 HL5.out
          obtain ⟨i4, rfl⟩ : ∃ i : Nat, y4 = (i : Int) := ⟨y4.toNat, by omega⟩
          have hi4 : i4 < 4 := by omega
          have hi4I : (i4 : Int) < 4 := by omega
          obtain ⟨sg, hsg8, c4⟩ : ∃ sg : ByteArray, sg.size ≤ 8 ∧ w5.cell? ⟨w5'.heap.size, i4, none⟩ = some (.string sg) := by
            have : i4 = 0 ∨ i4 = 1 ∨ i4 = 2 ∨ i4 = 3 := by omega
            rcases this with rfl | rfl | rfl | rfl
            · exact ⟨_, by decide, hc 0⟩
            · exact ⟨_, by decide, hc 1⟩
            · exact ⟨_, by decide, hc 2⟩
            · exact ⟨_, by decide, hc 3⟩
          have hsg : sg.size ≤ 9223372036854775807 := by omega
          have hM56 : Mut R w5' w5 := ((Mut.refl R w5').alloc _).trans hM6
          have HOV6 : Hid (OwnV w5 w.heap.size (.slice va A.length vc) A ∧ Good A ∧ seqB (gD A) A.length = true) := ⟨HOV5.out.mut hM56 HRW.out, HOV.out.2⟩
          have HDW6 : Hid (Draw W a len cap R w5 ∧ Mut R w w5) := ⟨hD6, (HDW.out.2.trans hM5).trans hM56⟩
          clear HOV HDW hD5 hM5 hD6 hM6 hM56 hc h40 h41 HOV5
          have HOV := HOV6
          have HDW := HDW6
          clear HOV6 HDW6
          have HIE : Hid (IsEvs w5 va A.length vc (gD A)) := HIS.out w5 HOV.out.1
          go_wp2_with fail
          refine (specInserted_any va A.length vc (gD A) author (z : Int) sg hsg w5 HIE.out HOV.out.2.1.2).mono ?_

          rintro e w6 ⟨v6, rfl, hO6, hB6⟩
          obtain ⟨x6, hx6⟩ : ∃ x6 : Value, x6 = .agg (enc4 (if okI (gD A) A.length author (z : Int) sg then opI (gD A) A.length author (z : Int) sg else evZ)).toArray := ⟨_, rfl⟩
          rw [← hx6]
          clear hx6
          obtain ⟨s, hs⟩ : ∃ s, s = okI (gD A) A.length author (z : Int) sg := ⟨_, rfl⟩
          rw [← hs] at hO6 ⊢
          have HD6 : Hid (Draw W a len cap R w6 ∧ Mut R w w6) := ⟨HDW.out.1.below hB6, HDW.out.2.trans (Mut.of_below hB6)⟩
          cases s with
          | false =>
            have HR : Hid (OwnV w6 w.heap.size (.slice va A.length vc) A ∧ Good A ∧ seqB (gD A) A.length = true ∧ Draw W a len cap R w6 ∧ Mut R w w6) := ⟨HOV.out.1.below hB6, HOV.out.2.1, HOV.out.2.2, HD6.out.1, HD6.out.2⟩
            clear hs hO6 hB6
            go_wp2
            go_roundw
            case rel => exact ⟨k, A, _, by omega, by go_num, rfl, HR.out⟩
            case measure => simp [Go.RowKit.intOf]
          | true =>
            obtain ⟨B, hB⟩ : ∃ B, B = A ++ [opI (gD A) A.length author (z : Int) sg] := ⟨_, rfl⟩
            have hst := stI_ok hs.symm
            rw [← hB] at hst
            have HR : Hid (OwnV w6 w.heap.size v6 B ∧ Good B ∧ seqB (gD B) B.length = true ∧ Draw W a len cap R w6 ∧ Mut R w w6) := by
              refine ⟨?_, (stI_some hsg HOV.out.2.1 hst).1, ?_, HD6.out.1, HD6.out.2⟩
              · have := hO6.base (HDW.out.2.size)
                rw [if_pos rfl, listD_gD, ← hB] at this
                exact this
              · have h1 := hs.symm
                unfold okI okW at h1
                simp only [Bool.and_eq_true] at h1
                have h2 := h1.2.2
                have e : snocD (gD A) A.length (opI (gD A) A.length author (z : Int) sg) = gD B := funext fun i => by unfold snocD; rw [listD_gD, hB]; rfl
                rw [e] at h2
                rw [hB, List.length_append, ← hB]
                exact h2
            clear hs hO6 hB6 hst hB
            go_wp2
            go_roundw
            case rel => exact ⟨k, B, _, by omega, by go_num, rfl, HR.out⟩
            case measure => simp [Go.RowKit.intOf]
      · have hm0I : ¬ (0 : Int) < (m : Int) := by omega
        have hmz : m = 0 := by omega
        subst hmz
        have HOV : Hid (OwnV w3 w.heap.size (.slice va A.length vc) A ∧ Good A ∧ seqB (gD A) A.length = true) := ⟨HX3.out.1, HGG.out⟩
        have HDW : Hid (Draw W a len cap R w3 ∧ Mut R w w3) := ⟨HX3.out.2.1, HX3.out.2.2⟩
        clear HX3 HGG
        obtain ⟨w4, hw4⟩ : ∃ w4, w4 = w3 := ⟨_, rfl⟩
        rw [← hw4] at HOV HDW ⊢
        clear hw4
        go_wp2_with fail
        refine (belowN_any hU 1 (by omega) (by omega) w4 HDW.out.1).mono ?_
        rintro e w5' ⟨z, hz, rfl, hD5, hM5⟩
        have HL5 : Hid (R < w5'.heap.size) := hD5.lt
        have HOV5 : Hid (OwnV w5' w.heap.size (.slice va A.length vc) A) := HOV.out.1.mut hM5 HRW.out
        go_wp2_with fail
        refine (below_any hU 4 (by omega) (by omega) _ (hD5.alloc _)).mono ?_
        rintro e w5 ⟨y4, h40, h41, rfl, hD6, hM6⟩
        have hc := lit_cells hM6 HL5.out
        obtain ⟨i4, rfl⟩ : ∃ i : Nat, y4 = (i : Int) := ⟨y4.toNat, by omega⟩
        have hi4 : i4 < 4 := by omega
        have hi4I : (i4 : Int) < 4 := by omega
        obtain ⟨sg, hsg8, c4⟩ : ∃ sg : ByteArray, sg.size ≤ 8 ∧ w5.cell? ⟨w5'.heap.size, i4, none⟩ = some (.string sg) := by
          have : i4 = 0 ∨ i4 = 1 ∨ i4 = 2 ∨ i4 = 3 := by omega
          rcases this with rfl | rfl | rfl | rfl
          · exact ⟨_, by decide, hc 0⟩
          · exact ⟨_, by decide, hc 1⟩
          · exact ⟨_, by decide, hc 2⟩
          · exact ⟨_, by decide, hc 3⟩
        have hsg : sg.size ≤ 9223372036854775807 := by omega
        have hM56 : Mut R w5' w5 := ((Mut.refl R w5').alloc _).trans hM6
        have HOV6 : Hid (OwnV w5 w.heap.size (.slice va A.length vc) A ∧ Good A ∧ seqB (gD A) A.length = true) := ⟨HOV5.out.mut hM56 HRW.out, HOV.out.2⟩
        have HDW6 : Hid (Draw W a len cap R w5 ∧ Mut R w w5) := ⟨hD6, (HDW.out.2.trans hM5).trans hM56⟩
        clear HOV HDW hD5 hM5 hD6 hM6 hM56 hc h40 h41 HOV5
        have HOV := HOV6
        have HDW := HDW6
        clear HOV6 HDW6
        have HIE : Hid (IsEvs w5 va A.length vc (gD A)) := HIS.out w5 HOV.out.1
        go_wp2_with fail
        refine (specInserted_any va A.length vc (gD A) author (z : Int) sg hsg w5 HIE.out HOV.out.2.1.2).mono ?_

        rintro e w6 ⟨v6, rfl, hO6, hB6⟩
        obtain ⟨x6, hx6⟩ : ∃ x6 : Value, x6 = .agg (enc4 (if okI (gD A) A.length author (z : Int) sg then opI (gD A) A.length author (z : Int) sg else evZ)).toArray := ⟨_, rfl⟩
        rw [← hx6]
        clear hx6
        obtain ⟨s, hs⟩ : ∃ s, s = okI (gD A) A.length author (z : Int) sg := ⟨_, rfl⟩
        rw [← hs] at hO6 ⊢
        have HD6 : Hid (Draw W a len cap R w6 ∧ Mut R w w6) := ⟨HDW.out.1.below hB6, HDW.out.2.trans (Mut.of_below hB6)⟩
        cases s with
        | false =>
          have HR : Hid (OwnV w6 w.heap.size (.slice va A.length vc) A ∧ Good A ∧ seqB (gD A) A.length = true ∧ Draw W a len cap R w6 ∧ Mut R w w6) := ⟨HOV.out.1.below hB6, HOV.out.2.1, HOV.out.2.2, HD6.out.1, HD6.out.2⟩
          clear hs hO6 hB6
          go_wp2
          go_roundw
          case rel => exact ⟨k, A, _, by omega, by go_num, rfl, HR.out⟩
          case measure => simp [Go.RowKit.intOf]
        | true =>
          obtain ⟨B, hB⟩ : ∃ B, B = A ++ [opI (gD A) A.length author (z : Int) sg] := ⟨_, rfl⟩
          have hst := stI_ok hs.symm
          rw [← hB] at hst
          have HR : Hid (OwnV w6 w.heap.size v6 B ∧ Good B ∧ seqB (gD B) B.length = true ∧ Draw W a len cap R w6 ∧ Mut R w w6) := by
            refine ⟨?_, (stI_some hsg HOV.out.2.1 hst).1, ?_, HD6.out.1, HD6.out.2⟩
            · have := hO6.base (HDW.out.2.size)
              rw [if_pos rfl, listD_gD, ← hB] at this
              exact this
            · have h1 := hs.symm
              unfold okI okW at h1
              simp only [Bool.and_eq_true] at h1
              have h2 := h1.2.2
              have e : snocD (gD A) A.length (opI (gD A) A.length author (z : Int) sg) = gD B := funext fun i => by unfold snocD; rw [listD_gD, hB]; rfl
              rw [e] at h2
              rw [hB, List.length_append, ← hB]
              exact h2
          clear hs hO6 hB6 hst hB
          go_wp2
          go_roundw
          case rel => exact ⟨k, B, _, by omega, by go_num, rfl, HR.out⟩
          case measure => simp [Go.RowKit.intOf]
    · have hlt' : ¬ (0 : Int) < (k1 : Int) := by omega
      go_wp2
      go_ret
      exact ⟨_, rfl, A, HI.out⟩
end
end Go.Proofs.Ytjfciokpnhnhbaa

namespace Go.Proofs.Ytjfciokpnhnhbaa
open Go.RowKit
set_option linter.unusedVariables false

set_option maxHeartbeats 1000000 in
theorem same_evs (a a' : Option Addr) (len cap cap' : Nat) (D : Nat → Ev) (w : World) (h : IsEvs w a len cap D) (h' : IsEvs w a' len cap' D) :
    Calls Try.prog 11 #[.slice a len cap, .slice a' len cap'] w fun e w' => e = .returned (.bool true) ∧ Below w.heap.size w w' := by
  obtain ⟨hlc, hcm, hc⟩ := h
  obtain ⟨hlc', hcm', hc'⟩ := h'
  have hbn : ((len : Int) != (len : Int)) = false := by simp
  go_enter Try.func11, Try.ntmps11
  go_wp2
  go_loopw [5] (fun i wr => ∃ (k : Nat), k ≤ len ∧ i = .int .i64 k ∧ Below w.heap.size w wr) (fun i _ => len - (Go.RowKit.intOf i).toNat)
  case atStart => exact ⟨0, Nat.zero_le _, rfl, Below.refl _ _⟩
  case round =>
    obtain ⟨k, hk, rfl, hB⟩ := hrel
    by_cases hlt : k < len
    · obtain ⟨b, off, rfl, hbs, hcell⟩ := hc (by omega)
      obtain ⟨b', off', rfl, hbs', hcell'⟩ := hc' (by omega)
      have m1 : EvAt wr b (off + k * 4) (D k) := (hcell k hlt).grow hbs hB
      have m2 : EvAt wr b' (off' + k * 4) (D k) := (hcell' k hlt).grow hbs' hB
      have hltI : (k : Int) < (len : Int) := by omega
      obtain ⟨c0, c1, c2, c3⟩ := m1
      obtain ⟨d0, d1, d2, d3⟩ := m2
      have hq := neqE (D k) (D k)
      have hg := fun x y => guardE .neq x y (D k) (D k)
      rw [Ev.same_refl] at hq
      clear hcell hcell' hc hc'
      go_wp2
      go_quiet (fail)
      go_wp2
      go_roundw
      case rel => exact ⟨k + 1, by omega, by go_num, below_drewN hB _⟩
      case measure => simp [Go.RowKit.intOf]; omega
    · have hke : k = len := by omega
      subst hke
      clear hc hc'
      go_wp2
      go_ret
      exact ⟨rfl, hB⟩
theorem same_any (base base' : Nat) (v v' : Value) (L : List Ev) (w : World) (h : OwnV w base v L) (h' : OwnV w base' v' L) :
    Calls Try.prog 11 #[v, v'] w fun e w' => e = .returned (.bool true) ∧ Below w.heap.size w w' := by
  obtain ⟨a, cap, rfl, hI⟩ := h.evs
  obtain ⟨a', cap', rfl, hI'⟩ := h'.evs
  exact same_evs _ _ _ _ _ _ _ hI hI'


theorem results_3t {P : Program} {fn : Func} {u v x : Tmp} (h : fn.results = #[.tmp u, .tmp v, .tmp x]) (tmps : Array Value) (w : World) :
    (results fn tmps).run P w = .ok (.tuple #[tmps.getD u undef, tmps.getD v undef, tmps.getD x undef]) w := by
  simp only [results, h]
  simp
end Go.Proofs.Ytjfciokpnhnhbaa

namespace Go.Proofs.Ytjfciokpnhnhbaa
open Go.RowKit
set_option linter.unusedVariables false

theorem results_4t {P : Program} {fn : Func} {u v x y : Tmp} (h : fn.results = #[.tmp u, .tmp v, .tmp x, .tmp y]) (tmps : Array Value) (w : World) :
    (results fn tmps).run P w = .ok (.tuple #[tmps.getD u undef, tmps.getD v undef, tmps.getD x undef, tmps.getD y undef]) w := by
  simp only [results, h]
  simp
theorem q_call3E (ev : Operand → Value) (o : Oper) (w : World) (f : FuncId) (he : ∀ args w, (callFunc f args).run Try.prog w = .ok (.enter f args) w) (x y z : Operand) (ts : Array TypeId) (h : o.op = .call { callee := .value (.func f), args := #[x, y, z], argTypes := ts }) (hf : ev (.func f) = .func (.func f) #[] #[]) : (execOp ev o).run Try.prog w = .ok (.enter f #[ev x, ev y, ev z]) w := by
  simp [execOp, h, resolve, invoke, hf, Deferred.ofValue, he]
theorem q_loadSE (ev : Operand → Value) (o : Oper) (w : World) (x : Operand) (p k : Nat) (c : ByteArray) (h : o.op = .load 9 x) (hx : ev x = .pointer (some ⟨p, k, none⟩)) (hc : w.cell? ⟨p, k, none⟩ = some (.string c)) : (execOp ev o).run Try.prog w = .ok (.value (.string c)) w := by
  simp [execOp, h, hx]
  go_simp
theorem q_idxSE (ev : Operand → Value) (o : Oper) (w : World) (x y : Operand) (b n c k : Nat) (h : o.op = .indexAddr 48 x y) (hx : ev x = .slice (some ⟨b, 0, none⟩) n c) (hy : ev y = .int .i64 k) (hm : k < n) : (execOp ev o).run Try.prog w = .ok (.value (.pointer (some ⟨b, k, none⟩))) w := by
  have hmI : (k : Int) < (n : Int) := by omega
  simp [execOp, h, hx, hy]
  go_simp
theorem q_lit4S (ev : Operand → Value) (o : Oper) (w : World) (a b c d : Operand) (p q r s : ByteArray) (h : o.op = .buildSlice 48 4 #[(0, a), (1, b), (2, c), (3, d)]) (ha : ev a = .string p) (hb : ev b = .string q) (hc : ev c = .string r) (hd : ev d = .string s) : (execOp ev o).run Try.prog w = .ok (.value (.slice (some ⟨w.heap.size, 0, none⟩) 4 4)) (w.alloc (.cells #[.string p, .string q, .string r, .string s] 9)) := by
  simp [execOp, h, ha, hb, hc, hd]
  go_simp
theorem q_lit3S (ev : Operand → Value) (o : Oper) (w : World) (a b c : Operand) (p q r : ByteArray) (h : o.op = .buildSlice 48 3 #[(0, a), (1, b), (2, c)]) (ha : ev a = .string p) (hb : ev b = .string q) (hc : ev c = .string r) : (execOp ev o).run Try.prog w = .ok (.value (.slice (some ⟨w.heap.size, 0, none⟩) 3 3)) (w.alloc (.cells #[.string p, .string q, .string r] 9)) := by
  simp [execOp, h, ha, hb, hc]
  go_simp
theorem q_lenI (ev : Operand → Value) (o : Oper) (w : World) (x : Operand) (b : Option Addr) (n c : Nat) (h : o.op = .call { callee := .builtin .len, args := #[x], argTypes := #[37] }) (hx : ev x = .slice b n c) : (execOp ev o).run Try.prog w = .ok (.value (.int .i64 n)) w := by
  simp [execOp, h, resolve, invoke, builtin, hx]
  go_simp
theorem q_addE (ev : Operand → Value) (o : Oper) (w : World) (x y : Operand) (i j : Int) (h : o.op = .binOp .add 3 x y 3) (hx : ev x = .int .i64 i) (hy : ev y = .int .i64 j) : (execOp ev o).run Try.prog w = .ok (.value (.int .i64 (IntKind.i64.wrap (i + j)))) w := by
  simp [execOp, h, hx, hy]
  go_simp
theorem Mut.cellOf {R : Nat} {w w' : World} (hM : Mut R w w') {g i : Nat} {v : Value} (h : w.cell? ⟨g, i, none⟩ = some v) (hg : g ≠ R) : w'.cell? ⟨g, i, none⟩ = some v := by
  have e := hM.block g (cell_lt h) hg
  unfold World.cell? at h ⊢
  rw [e]
  exact h
/-- short texts in a slice; one of them -/
def SL (R n : Nat) (w : World) (v : Value) : Prop := ∃ g, v = .slice (some ⟨g, 0, none⟩) n n ∧ g ≠ R ∧ ∀ i, i < n → ∃ sg : ByteArray, sg.size ≤ 8 ∧ w.cell? ⟨g, i, none⟩ = some (.string sg)
def SA (R : Nat) (w : World) (v : Value) : Prop := ∃ g i, ∃ sg : ByteArray, v = .pointer (some ⟨g, i, none⟩) ∧ g ≠ R ∧ sg.size ≤ 8 ∧ w.cell? ⟨g, i, none⟩ = some (.string sg)
theorem SL.mut {R n : Nat} {w w' : World} {v : Value} (h : SL R n w v) (hM : Mut R w w') : SL R n w' v := by
  obtain ⟨g, e, hg, hc⟩ := h
  refine ⟨g, e, hg, fun i hi => ?_⟩
  obtain ⟨sg, h8, hc'⟩ := hc i hi
  exact ⟨sg, h8, hM.cellOf hc' hg⟩
theorem SA.mut {R : Nat} {w w' : World} {v : Value} (h : SA R w v) (hM : Mut R w w') : SA R w' v := by
  obtain ⟨g, i, sg, e, hg, h8, hc⟩ := h
  exact ⟨g, i, sg, e, hg, h8, hM.cellOf hc hg⟩
/-- what the operations of DrawSeqInserted's first answer give -/
def IaF (R : Nat) (V : Value) : Nat → (Nat → Value) → World → Prop
  | 0, f, _ => f 14 = V
  | 1, f, _ => f 15 = .pointer (some ⟨R, 0, none⟩)
  | 2, f, _ => ∃ z : Int, f 16 = .int .i64 z
  | 3, f, _ => f 17 = .pointer (some ⟨R, 0, none⟩)
  | 4, f, _ => ∃ z : Int, f 18 = .int .i64 z
  | 5, f, w => SL R 4 w (f 19)
  | 6, f, _ => f 20 = .pointer (some ⟨R, 0, none⟩)
  | 7, f, _ => ∃ i : Nat, i < 4 ∧ f 21 = .int .i64 (i : Int)
  | 8, f, w => SA R w (f 22)
  | 9, f, _ => ∃ sg : ByteArray, sg.size ≤ 8 ∧ f 23 = .string sg
  | 10, f, _ => f 2 = V
  | 11, f, _ => ∃ z : Int, f 3 = .int .i64 z
  | 12, f, _ => ∃ z : Int, f 4 = .int .i64 z
  | 13, f, _ => ∃ sg : ByteArray, sg.size ≤ 8 ∧ f 5 = .string sg
  | _, _, _ => True
theorem IaF.mut {R : Nat} {V : Value} {j : Nat} {f : Nat → Value} {w w' : World} (h : IaF R V j f w) (hM : Mut R w w') : IaF R V j f w' := by
  match j, h with
  | 0, h => exact h
  | 1, h => exact h
  | 2, h => exact h
  | 3, h => exact h
  | 4, h => exact h
  | 5, h => exact SL.mut h hM
  | 6, h => exact h
  | 7, h => exact h
  | 8, h => exact SA.mut h hM
  | 9, h => exact h
  | 10, h => exact h
  | 11, h => exact h
  | 12, h => exact h
  | 13, h => exact h
  | (m + 14), _ => exact trivial
/-- ... and of its second one -/
def IbF (R : Nat) (V : Value) : Nat → (Nat → Value) → World → Prop
  | 0, f, _ => f 24 = V
  | 1, f, _ => f 25 = .pointer (some ⟨R, 0, none⟩)
  | 2, f, _ => ∃ z : Int, f 26 = .int .i64 z
  | 3, f, _ => ∃ z : Int, f 27 = .int .i64 z
  | 4, f, _ => f 28 = .pointer (some ⟨R, 0, none⟩)
  | 5, f, _ => f 29 = V
  | 6, f, _ => ∃ a : Option Addr, ∃ n c : Nat, n ≤ 40 ∧ f 30 = .slice a n c
  | 7, f, _ => ∃ n : Nat, n ≤ 40 ∧ f 31 = .int .i64 (n : Int)
  | 8, f, _ => ∃ n : Nat, 1 ≤ n ∧ n ≤ 41 ∧ f 32 = .int .i64 (n : Int)
  | 9, f, _ => ∃ z : Int, f 33 = .int .i64 z
  | 10, f, w => SL R 3 w (f 34)
  | 11, f, _ => f 35 = .pointer (some ⟨R, 0, none⟩)
  | 12, f, _ => ∃ i : Nat, i < 3 ∧ f 36 = .int .i64 (i : Int)
  | 13, f, w => SA R w (f 37)
  | 14, f, _ => ∃ sg : ByteArray, sg.size ≤ 8 ∧ f 38 = .string sg
  | 15, f, _ => f 2 = V
  | 16, f, _ => ∃ z : Int, f 3 = .int .i64 z
  | 17, f, _ => ∃ z : Int, f 4 = .int .i64 z
  | 18, f, _ => ∃ sg : ByteArray, sg.size ≤ 8 ∧ f 5 = .string sg
  | _, _, _ => True
theorem IbF.mut {R : Nat} {V : Value} {j : Nat} {f : Nat → Value} {w w' : World} (h : IbF R V j f w) (hM : Mut R w w') : IbF R V j f w' := by
  match j, h with
  | 0, h => exact h
  | 1, h => exact h
  | 2, h => exact h
  | 3, h => exact h
  | 4, h => exact h
  | 5, h => exact h
  | 6, h => exact h
  | 7, h => exact h
  | 8, h => exact h
  | 9, h => exact h
  | 10, h => exact SL.mut h hM
  | 11, h => exact h
  | 12, h => exact h
  | 13, h => exact SA.mut h hM
  | 14, h => exact h
  | 15, h => exact h
  | 16, h => exact h
  | 17, h => exact h
  | 18, h => exact h
  | (m + 19), _ => exact trivial
theorem enters_off : ∀ args w, (callFunc 39 args).run Try.prog w = .ok (.enter 39 args) w := enters_of Try.func39 (by kernel_rfl) rfl
theorem enters_below : ∀ args w, (callFunc 23 args).run Try.prog w = .ok (.enter 23 args) w := enters_of Try.func23 (by kernel_rfl) rfl
theorem enters_ids : ∀ args w, (callFunc 47 args).run Try.prog w = .ok (.enter 47 args) w := enters_of Try.func47 (by kernel_rfl) rfl
end Go.Proofs.Ytjfciokpnhnhbaa
