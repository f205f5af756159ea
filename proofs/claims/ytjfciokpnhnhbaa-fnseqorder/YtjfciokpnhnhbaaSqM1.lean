/-
  spec's r.seq(8), r.seq(6): a drawn sequence, never nil. No condition but that the code reads.
  The reader of codes: numbers just outside a range. No condition.
  SeqTurned, plainly: what it makes of a sequence shows just the text. No condition.
  spec's r.seqs and DrawSeqMerged: two drawn sequences that grew out of one. No condition but that the code reads.
-/
import Derived.Test.YtjfciokpnhnhbaaSqDr
import Derived.Test.YtjfciokpnhnhbaaSqTu
import Derived.Test.YtjfciokpnhnhbaaSqPd
import Derived.BigQuiet
namespace Go.Proofs.Ytjfciokpnhnhbaa
open Go.RowKit
set_option linter.unusedVariables false

/-- a slice that the call owns, not nil -/
def OwnN (w : World) (base : Nat) (v : Value) (L : List Ev) : Prop := OwnV w base v L ∧ v.ownBlock ≠ none
theorem OwnN.of {w : World} {base : Nat} {v : Value} {L : List Ev} (h : OwnV w base v L) (hL : L ≠ []) : OwnN w base v L := by
  refine ⟨h, ?_⟩
  rcases h.cases with ⟨_, e⟩ | ⟨g, c, rfl, _⟩
  · exact absurd e hL
  · intro h; cases h
theorem OwnN.mut {R : Nat} {w w' : World} {base : Nat} {v : Value} {L : List Ev} (h : OwnN w base v L) (hM : Mut R w w') (hR : R < base) : OwnN w' base v L := ⟨OwnV.mut h.1 hM hR, h.2⟩
theorem OwnN.below {w w' : World} {base : Nat} {v : Value} {L : List Ev} (h : OwnN w base v L) (hB : Below w.heap.size w w') : OwnN w' base v L := ⟨OwnV.below h.1 hB, h.2⟩
theorem OwnN.base {w : World} {base base' : Nat} {v : Value} {L : List Ev} (h : OwnN w base v L) (hb : base' ≤ base) : OwnN w base' v L := ⟨OwnV.base h.1 hb, h.2⟩
theorem OwnN.evs {w : World} {base : Nat} {v : Value} {L : List Ev} (h : OwnN w base v L) : ∃ a cap, v = .slice a L.length cap ∧ IsEvs w a L.length cap (fun i => L.getD i evZ) := OwnV.evs h.1
theorem OwnN.at {w w' : World} {base : Nat} {v : Value} {L : List Ev} (h : OwnN w base v L) (he : ∀ k, v.ownBlock = some k → w'.heap[k]? = w.heap[k]?) : OwnN w' base v L := ⟨OwnV.at h.1 he, h.2⟩
theorem OwnN.lies {w : World} {base : Nat} {v : Value} {L : List Ev} (h : OwnN w base v L) : ∃ g c, v = .slice (some ⟨g, 0, none⟩) L.length c ∧ OwnE w base g c L := by
  rcases OwnV.cases h.1 with ⟨rfl, _⟩ | h'
  · exact absurd rfl h.2
  · exact h'

section
variable {W : World} {a : Option Addr} {len cap R : Nat} {Z : Nat → Int}

set_option maxRecDepth 10000 in
set_option maxHeartbeats 8000000 in
theorem seq8_any (hU : IsU8 W a len cap Z) (w : World) (h : Draw W a len cap R w) :
    Calls Try.prog 21 #[.pointer (some ⟨R, 0, none⟩), .int .i64 8] w fun e w' => ∃ v A, e = .returned v ∧ OwnN w' w.heap.size v A ∧ Good A ∧ seqB (gD A) A.length = true ∧ Draw W a len cap R w' ∧ Mut R w w' := by
  have HRW : Hid (R < w.heap.size) := h.lt
  have HD0 : Hid (Draw W a len cap R w) := h
  clear h
  go_enter Try.func21, Try.ntmps21
  go_wp2_with fail
  refine (below_any hU 9 (by omega) (by omega) _ (HD0.out.alloc _)).mono ?_
  rintro e w1 ⟨y, hy0, hy1, rfl, hD1, hM1⟩
  obtain ⟨n, rfl⟩ : ∃ n : Nat, y = (n : Int) := ⟨y.toNat, by omega⟩
  have hn : n ≤ 8 := by omega
  have HS1 : Hid (OwnN w1 w.heap.size (.slice (some ⟨w.heap.size, 0, none⟩) 0 0) [] ∧ Draw W a len cap R w1 ∧ Mut R w w1) := by
    refine ⟨⟨OwnV.mut (R := R) (w := w.alloc (.cells #[] 36)) ⟨rfl, .inr ⟨w.heap.size, 0, #[], rfl, Nat.le_refl _, heap_alloc_new _ _, Nat.le_refl _, Nat.zero_le _, rfl, rfl⟩⟩ hM1 HRW.out, fun h => by cases h⟩, hD1, ((Mut.refl R w).alloc _).trans hM1⟩
  have HG0 : Hid (Good ([] : List Ev) ∧ seqB (gD []) ([] : List Ev).length = true) := ⟨⟨Nat.zero_le _, fun i hi => absurd hi (Nat.not_lt_zero _)⟩, rfl⟩
  clear hD1 hM1 hy0 hy1
  go_wp2
  go_loopw [5, 6] (fun v i wr => ∃ (k : Nat) (A : List Ev) (v' : Value), k ≤ 8 ∧ i = .int .i64 k ∧ v' = v ∧ Hid (OwnN wr w.heap.size v' A ∧ Good A ∧ seqB (gD A) A.length = true ∧ Draw W a len cap R wr ∧ Mut R w wr)) (fun _ i _ => (Go.RowKit.intOf i).toNat)
  case atStart => exact ⟨n, [], _, hn, rfl, rfl, HS1.out.1, HG0.out.1, HG0.out.2, HS1.out.2.1, HS1.out.2.2⟩
  case round =>
    obtain ⟨k1, A, v, hk, rfl, rfl, HI⟩ := hrel
    clear HS1 HG0
    by_cases hlt : 0 < k1
    · obtain ⟨k, rfl⟩ : ∃ k, k1 = k + 1 := ⟨k1 - 1, by omega⟩
      obtain ⟨va, vc, hv, hE⟩ := HI.out.1.evs
      have HIS : Hid (∀ w', OwnN w' w.heap.size (.slice va A.length vc) A → IsEvs w' va A.length vc (gD A)) := fun w' ho => by
        obtain ⟨va', vc', e, hE'⟩ := ho.evs
        simp only [Value.slice.injEq, true_and] at e
        obtain ⟨rfl, rfl⟩ := e
        exact hE'
      subst hv
      have HIE0 : Hid (IsEvs wr va A.length vc (gD A)) := hE
      clear hE
      go_wp2_with fail
      refine (l10Ids_any va A.length vc (gD A) wr HIE0.out HI.out.2.2.1).mono ?_
      rintro e w2 ⟨vi, rfl, hO2, hB2⟩
      obtain ⟨L, hL⟩ : ∃ L, L = idsL (gD A) A.length := ⟨_, rfl⟩
      have hL40 : L.length ≤ 40 := by rw [hL, ← idsR_yes HI.out.2.2.1]; exact idsR_len _ _
      rw [← hL] at hO2
      obtain ⟨vb, vd, rfl⟩ := hO2.slice
      obtain ⟨m, hm⟩ : ∃ m, m = L.length := ⟨_, rfl⟩
      rw [← hm] at hL40 ⊢
      have HX2 : Hid (OwnN w2 w.heap.size (.slice va A.length vc) A ∧ Draw W a len cap R w2 ∧ Mut R w w2) := ⟨HI.out.1.below hB2, HI.out.2.2.2.1.below hB2, HI.out.2.2.2.2.trans (Mut.of_below hB2)⟩
      have HGG : Hid (Good A ∧ seqB (gD A) A.length = true) := ⟨HI.out.2.1, HI.out.2.2.1⟩
      clear hO2 hB2 hL hm HI HIE0
      go_wp2_with fail
      refine (below_any hU 3 (by omega) (by omega) w2 HX2.out.2.1).mono ?_
      rintro e w3 ⟨y3, h30, h31, rfl, hD3, hM3⟩
      have HX3 : Hid (OwnN w3 w.heap.size (.slice va A.length vc) A ∧ Draw W a len cap R w3 ∧ Mut R w w3) := ⟨HX2.out.1.mut hM3 HRW.out, hD3, HX2.out.2.2.trans hM3⟩
      clear hD3 hM3 HX2
      obtain ⟨author, hau⟩ : ∃ author : Int, 1 + y3 = author := ⟨_, rfl⟩
      by_cases hm0 : 1 ≤ m
      · have hm0I : (0 : Int) < (m : Int) := by omega
        go_wp2_with fail
        refine (once_any hU 4 (by omega) (by omega) w3 HX3.out.2.1).mono ?_
        rintro e w4 ⟨on, rfl, hD4, hM4⟩
        have HOV : Hid (OwnN w4 w.heap.size (.slice va A.length vc) A ∧ Good A ∧ seqB (gD A) A.length = true) := ⟨HX3.out.1.mut hM4 HRW.out, HGG.out⟩
        have HDW : Hid (Draw W a len cap R w4 ∧ Mut R w w4) := ⟨hD4, HX3.out.2.2.trans hM4⟩
        clear hD4 hM4 HX3 HGG
        cases on with
        | true =>
          go_wp2_with fail
          refine (belowN_any hU m hm0 (by omega) w4 HDW.out.1).mono ?_
          rintro e w5 ⟨z, hz, rfl, hD5, hM5⟩
          have HOV5 : Hid (OwnN w5 w.heap.size (.slice va A.length vc) A ∧ Good A ∧ seqB (gD A) A.length = true) := ⟨HOV.out.1.mut hM5 HRW.out, HOV.out.2⟩
          have HDW5 : Hid (Draw W a len cap R w5 ∧ Mut R w w5) := ⟨hD5, HDW.out.2.trans hM5⟩
          clear HOV HDW hD5 hM5
          have HOV := HOV5
          have HDW := HDW5
          clear HOV5 HDW5
          have HIE : Hid (IsEvs w5 va A.length vc (gD A)) := HIS.out w5 HOV.out.1
          go_wp2_with fail
          refine (specDeleted_any va A.length vc (gD A) author (z : Int) w5 HIE.out HOV.out.2.1.2).mono ?_

          rintro e w6 ⟨v6, rfl, hO6, hB6⟩
          obtain ⟨x6, hx6⟩ : ∃ x6 : Value, x6 = .agg (enc4 (if okD (gD A) A.length author (z : Int) then opD (gD A) A.length author (z : Int) else evZ)).toArray := ⟨_, rfl⟩
          rw [← hx6]
          clear hx6
          obtain ⟨s, hs⟩ : ∃ s, s = okD (gD A) A.length author (z : Int) := ⟨_, rfl⟩
          rw [← hs] at hO6 ⊢
          have HD6 : Hid (Draw W a len cap R w6 ∧ Mut R w w6) := ⟨HDW.out.1.below hB6, HDW.out.2.trans (Mut.of_below hB6)⟩
          cases s with
          | false =>
            have HR : Hid (OwnN w6 w.heap.size (.slice va A.length vc) A ∧ Good A ∧ seqB (gD A) A.length = true ∧ Draw W a len cap R w6 ∧ Mut R w w6) := ⟨HOV.out.1.below hB6, HOV.out.2.1, HOV.out.2.2, HD6.out.1, HD6.out.2⟩
            clear hs hO6 hB6
            go_wp2
            go_roundw
            case rel => exact ⟨k, A, _, by omega, by go_num, rfl, HR.out⟩
            case measure => simp [Go.RowKit.intOf]
          | true =>
            obtain ⟨B, hB⟩ : ∃ B, B = A ++ [opD (gD A) A.length author (z : Int)] := ⟨_, rfl⟩
            have hst := stD_ok hs.symm
            rw [← hB] at hst
            have HR : Hid (OwnN w6 w.heap.size v6 B ∧ Good B ∧ seqB (gD B) B.length = true ∧ Draw W a len cap R w6 ∧ Mut R w w6) := by
              refine ⟨?_, (stD_some HOV.out.2.1 hst).1, ?_, HD6.out.1, HD6.out.2⟩
              · have := hO6.base (HDW.out.2.size)
                rw [if_pos rfl, listD_gD, ← hB] at this
                exact OwnN.of this (by rw [hB]; simp)
              · have h1 := hs.symm
                unfold okD okW at h1
                simp only [Bool.and_eq_true] at h1
                have h2 := h1.2.2
                have e : snocD (gD A) A.length (opD (gD A) A.length author (z : Int)) = gD B := funext fun i => by unfold snocD; rw [listD_gD, hB]; rfl
                rw [e] at h2
                rw [hB, List.length_append, ← hB]
                exact h2
            clear hs hO6 hB6 hst hB
            go_wp2
            go_roundw
            case rel => exact ⟨k, B, _, by omega, by go_num, rfl, HR.out⟩
            case measure => simp [Go.RowKit.intOf]
        | false =>
          go_wp2_with fail
          refine (belowN_any hU (m + 1) (by omega) (by omega) w4 HDW.out.1).mono ?_
          rintro e w5' ⟨z, hz, rfl, hD5, hM5⟩
          have HL5 : Hid (R < w5'.heap.size) := hD5.lt
          have HOV5 : Hid (OwnN w5' w.heap.size (.slice va A.length vc) A) := HOV.out.1.mut hM5 HRW.out
          go_wp2_with fail
          refine (below_any hU 4 (by omega) (by omega) _ (hD5.alloc _)).mono ?_
          rintro e w5 ⟨y4, h40, h41, rfl, hD6, hM6⟩
          have hc := lit_cells hM6 HL5.out
          obtain ⟨i4, rfl⟩ : ∃ i : Nat, y4 = (i : Int) := ⟨y4.toNat, by omega⟩
          have hi4 : i4 < 4 := by omega
          have hi4I : (i4 : Int) < 4 := by omega
          obtain ⟨sg, hsg8, c4⟩ : ∃ sg : ByteArray, sg.size ≤ 8 ∧ w5.cell? ⟨w5'.heap.size, i4, none⟩ = some (.string sg) := by
            have : i4 = 0 ∨ i4 = 1 ∨ i4 = 2 ∨ i4 = 3 := by omega
            rcases this with rfl | rfl | rfl | rfl
            · exact ⟨_, by decide, hc 0⟩
            · exact ⟨_, by decide, hc 1⟩
            · exact ⟨_, by decide, hc 2⟩
            · exact ⟨_, by decide, hc 3⟩
          have hsg : sg.size ≤ 9223372036854775807 := by omega
          have hM56 : Mut R w5' w5 := ((Mut.refl R w5').alloc _).trans hM6
          have HOV6 : Hid (OwnN w5 w.heap.size (.slice va A.length vc) A ∧ Good A ∧ seqB (gD A) A.length = true) := ⟨HOV5.out.mut hM56 HRW.out, HOV.out.2⟩
          have HDW6 : Hid (Draw W a len cap R w5 ∧ Mut R w w5) := ⟨hD6, (HDW.out.2.trans hM5).trans hM56⟩
          clear HOV HDW hD5 hM5 hD6 hM6 hM56 hc h40 h41 HOV5
          have HOV := HOV6
          have HDW := HDW6
          clear HOV6 HDW6
          have HIE : Hid (IsEvs w5 va A.length vc (gD A)) := HIS.out w5 HOV.out.1
          go_wp2_with fail
          refine (specInserted_any va A.length vc (gD A) author (z : Int) sg hsg w5 HIE.out HOV.out.2.1.2).mono ?_

          rintro e w6 ⟨v6, rfl, hO6, hB6⟩
          obtain ⟨x6, hx6⟩ : ∃ x6 : Value, x6 = .agg (enc4 (if okI (gD A) A.length author (z : Int) sg then opI (gD A) A.length author (z : Int) sg else evZ)).toArray := ⟨_, rfl⟩
          rw [← hx6]
          clear hx6
          obtain ⟨s, hs⟩ : ∃ s, s = okI (gD A) A.length author (z : Int) sg := ⟨_, rfl⟩
          rw [← hs] at hO6 ⊢
          have HD6 : Hid (Draw W a len cap R w6 ∧ Mut R w w6) := ⟨HDW.out.1.below hB6, HDW.out.2.trans (Mut.of_below hB6)⟩
          cases s with
          | false =>
            have HR : Hid (OwnN w6 w.heap.size (.slice va A.length vc) A ∧ Good A ∧ seqB (gD A) A.length = true ∧ Draw W a len cap R w6 ∧ Mut R w w6) := ⟨HOV.out.1.below hB6, HOV.out.2.1, HOV.out.2.2, HD6.out.1, HD6.out.2⟩
            clear hs hO6 hB6
            go_wp2
            go_roundw
            case rel => exact ⟨k, A, _, by omega, by go_num, rfl, HR.out⟩
            case measure => simp [Go.RowKit.intOf]
          | true =>
            obtain ⟨B, hB⟩ : ∃ B, B = A ++ [opI (gD A) A.length author (z : Int) sg] := ⟨_, rfl⟩
            have hst := stI_ok hs.symm
            rw [← hB] at hst
            have HR : Hid (OwnN w6 w.heap.size v6 B ∧ Good B ∧ seqB (gD B) B.length = true ∧ Draw W a len cap R w6 ∧ Mut R w w6) := by
              refine ⟨?_, (stI_some hsg HOV.out.2.1 hst).1, ?_, HD6.out.1, HD6.out.2⟩
              · have := hO6.base (HDW.out.2.size)
                rw [if_pos rfl, listD_gD, ← hB] at this
                exact OwnN.of this (by rw [hB]; simp)
              · have h1 := hs.symm
                unfold okI okW at h1
                simp only [Bool.and_eq_true] at h1
                have h2 := h1.2.2
                have e : snocD (gD A) A.length (opI (gD A) A.length author (z : Int) sg) = gD B := funext fun i => by unfold snocD; rw [listD_gD, hB]; rfl
                rw [e] at h2
                rw [hB, List.length_append, ← hB]
                exact h2
            clear hs hO6 hB6 hst hB
            go_wp2
            go_roundw
            case rel => exact ⟨k, B, _, by omega, by go_num, rfl, HR.out⟩
            case measure => simp [Go.RowKit.intOf]
      · have hm0I : ¬ (0 : Int) < (m : Int) := by omega
        have hmz : m = 0 := by omega
        subst hmz
        have HOV : Hid (OwnN w3 w.heap.size (.slice va A.length vc) A ∧ Good A ∧ seqB (gD A) A.length = true) := ⟨HX3.out.1, HGG.out⟩
        have HDW : Hid (Draw W a len cap R w3 ∧ Mut R w w3) := ⟨HX3.out.2.1, HX3.out.2.2⟩
        clear HX3 HGG
        obtain ⟨w4, hw4⟩ : ∃ w4, w4 = w3 := ⟨_, rfl⟩
        rw [← hw4] at HOV HDW ⊢
        clear hw4
        go_wp2_with fail
        refine (belowN_any hU 1 (by omega) (by omega) w4 HDW.out.1).mono ?_
        rintro e w5' ⟨z, hz, rfl, hD5, hM5⟩
        have HL5 : Hid (R < w5'.heap.size) := hD5.lt
        have HOV5 : Hid (OwnN w5' w.heap.size (.slice va A.length vc) A) := HOV.out.1.mut hM5 HRW.out
        go_wp2_with fail
        refine (below_any hU 4 (by omega) (by omega) _ (hD5.alloc _)).mono ?_
        rintro e w5 ⟨y4, h40, h41, rfl, hD6, hM6⟩
        have hc := lit_cells hM6 HL5.out
        obtain ⟨i4, rfl⟩ : ∃ i : Nat, y4 = (i : Int) := ⟨y4.toNat, by omega⟩
        have hi4 : i4 < 4 := by omega
        have hi4I : (i4 : Int) < 4 := by omega
        obtain ⟨sg, hsg8, c4⟩ : ∃ sg : ByteArray, sg.size ≤ 8 ∧ w5.cell? ⟨w5'.heap.size, i4, none⟩ = some (.string sg) := by
          have : i4 = 0 ∨ i4 = 1 ∨ i4 = 2 ∨ i4 = 3 := by omega
          rcases this with rfl | rfl | rfl | rfl
          · exact ⟨_, by decide, hc 0⟩
          · exact ⟨_, by decide, hc 1⟩
          · exact ⟨_, by decide, hc 2⟩
          · exact ⟨_, by decide, hc 3⟩
        have hsg : sg.size ≤ 9223372036854775807 := by omega
        have hM56 : Mut R w5' w5 := ((Mut.refl R w5').alloc _).trans hM6
        have HOV6 : Hid (OwnN w5 w.heap.size (.slice va A.length vc) A ∧ Good A ∧ seqB (gD A) A.length = true) := ⟨HOV5.out.mut hM56 HRW.out, HOV.out.2⟩
        have HDW6 : Hid (Draw W a len cap R w5 ∧ Mut R w w5) := ⟨hD6, (HDW.out.2.trans hM5).trans hM56⟩
        clear HOV HDW hD5 hM5 hD6 hM6 hM56 hc h40 h41 HOV5
        have HOV := HOV6
        have HDW := HDW6
        clear HOV6 HDW6
        have HIE : Hid (IsEvs w5 va A.length vc (gD A)) := HIS.out w5 HOV.out.1
        go_wp2_with fail
        refine (specInserted_any va A.length vc (gD A) author (z : Int) sg hsg w5 HIE.out HOV.out.2.1.2).mono ?_

        rintro e w6 ⟨v6, rfl, hO6, hB6⟩
        obtain ⟨x6, hx6⟩ : ∃ x6 : Value, x6 = .agg (enc4 (if okI (gD A) A.length author (z : Int) sg then opI (gD A) A.length author (z : Int) sg else evZ)).toArray := ⟨_, rfl⟩
        rw [← hx6]
        clear hx6
        obtain ⟨s, hs⟩ : ∃ s, s = okI (gD A) A.length author (z : Int) sg := ⟨_, rfl⟩
        rw [← hs] at hO6 ⊢
        have HD6 : Hid (Draw W a len cap R w6 ∧ Mut R w w6) := ⟨HDW.out.1.below hB6, HDW.out.2.trans (Mut.of_below hB6)⟩
        cases s with
        | false =>
          have HR : Hid (OwnN w6 w.heap.size (.slice va A.length vc) A ∧ Good A ∧ seqB (gD A) A.length = true ∧ Draw W a len cap R w6 ∧ Mut R w w6) := ⟨HOV.out.1.below hB6, HOV.out.2.1, HOV.out.2.2, HD6.out.1, HD6.out.2⟩
          clear hs hO6 hB6
          go_wp2
          go_roundw
          case rel => exact ⟨k, A, _, by omega, by go_num, rfl, HR.out⟩
          case measure => simp [Go.RowKit.intOf]
        | true =>
          obtain ⟨B, hB⟩ : ∃ B, B = A ++ [opI (gD A) A.length author (z : Int) sg] := ⟨_, rfl⟩
          have hst := stI_ok hs.symm
          rw [← hB] at hst
          have HR : Hid (OwnN w6 w.heap.size v6 B ∧ Good B ∧ seqB (gD B) B.length = true ∧ Draw W a len cap R w6 ∧ Mut R w w6) := by
            refine ⟨?_, (stI_some hsg HOV.out.2.1 hst).1, ?_, HD6.out.1, HD6.out.2⟩
            · have := hO6.base (HDW.out.2.size)
              rw [if_pos rfl, listD_gD, ← hB] at this
              exact OwnN.of this (by rw [hB]; simp)
            · have h1 := hs.symm
              unfold okI okW at h1
              simp only [Bool.and_eq_true] at h1
              have h2 := h1.2.2
              have e : snocD (gD A) A.length (opI (gD A) A.length author (z : Int) sg) = gD B := funext fun i => by unfold snocD; rw [listD_gD, hB]; rfl
              rw [e] at h2
              rw [hB, List.length_append, ← hB]
              exact h2
          clear hs hO6 hB6 hst hB
          go_wp2
          go_roundw
          case rel => exact ⟨k, B, _, by omega, by go_num, rfl, HR.out⟩
          case measure => simp [Go.RowKit.intOf]
    · have hlt' : ¬ (0 : Int) < (k1 : Int) := by omega
      go_wp2
      go_ret
      exact ⟨_, rfl, A, HI.out⟩

set_option maxRecDepth 10000 in
set_option maxHeartbeats 8000000 in
theorem seq6_any (hU : IsU8 W a len cap Z) (w : World) (h : Draw W a len cap R w) :
    Calls Try.prog 21 #[.pointer (some ⟨R, 0, none⟩), .int .i64 6] w fun e w' => ∃ v A, e = .returned v ∧ OwnN w' w.heap.size v A ∧ Good A ∧ seqB (gD A) A.length = true ∧ Draw W a len cap R w' ∧ Mut R w w' := by
  have HRW : Hid (R < w.heap.size) := h.lt
  have HD0 : Hid (Draw W a len cap R w) := h
  clear h
  go_enter Try.func21, Try.ntmps21
  go_wp2_with fail
  refine (below_any hU 7 (by omega) (by omega) _ (HD0.out.alloc _)).mono ?_
  rintro e w1 ⟨y, hy0, hy1, rfl, hD1, hM1⟩
  obtain ⟨n, rfl⟩ : ∃ n : Nat, y = (n : Int) := ⟨y.toNat, by omega⟩
  have hn : n ≤ 6 := by omega
  have HS1 : Hid (OwnN w1 w.heap.size (.slice (some ⟨w.heap.size, 0, none⟩) 0 0) [] ∧ Draw W a len cap R w1 ∧ Mut R w w1) := by
    refine ⟨⟨OwnV.mut (R := R) (w := w.alloc (.cells #[] 36)) ⟨rfl, .inr ⟨w.heap.size, 0, #[], rfl, Nat.le_refl _, heap_alloc_new _ _, Nat.le_refl _, Nat.zero_le _, rfl, rfl⟩⟩ hM1 HRW.out, fun h => by cases h⟩, hD1, ((Mut.refl R w).alloc _).trans hM1⟩
  have HG0 : Hid (Good ([] : List Ev) ∧ seqB (gD []) ([] : List Ev).length = true) := ⟨⟨Nat.zero_le _, fun i hi => absurd hi (Nat.not_lt_zero _)⟩, rfl⟩
  clear hD1 hM1 hy0 hy1
  go_wp2
  go_loopw [5, 6] (fun v i wr => ∃ (k : Nat) (A : List Ev) (v' : Value), k ≤ 6 ∧ i = .int .i64 k ∧ v' = v ∧ Hid (OwnN wr w.heap.size v' A ∧ Good A ∧ seqB (gD A) A.length = true ∧ Draw W a len cap R wr ∧ Mut R w wr)) (fun _ i _ => (Go.RowKit.intOf i).toNat)
  case atStart => exact ⟨n, [], _, hn, rfl, rfl, HS1.out.1, HG0.out.1, HG0.out.2, HS1.out.2.1, HS1.out.2.2⟩
  case round =>
    obtain ⟨k1, A, v, hk, rfl, rfl, HI⟩ := hrel
    clear HS1 HG0
    by_cases hlt : 0 < k1
    · obtain ⟨k, rfl⟩ : ∃ k, k1 = k + 1 := ⟨k1 - 1, by omega⟩
      obtain ⟨va, vc, hv, hE⟩ := HI.out.1.evs
      have HIS : Hid (∀ w', OwnN w' w.heap.size (.slice va A.length vc) A → IsEvs w' va A.length vc (gD A)) := fun w' ho => by
        obtain ⟨va', vc', e, hE'⟩ := ho.evs
        simp only [Value.slice.injEq, true_and] at e
        obtain ⟨rfl, rfl⟩ := e
        exact hE'
      subst hv
      have HIE0 : Hid (IsEvs wr va A.length vc (gD A)) := hE
      clear hE
      go_wp2_with fail
      refine (l10Ids_any va A.length vc (gD A) wr HIE0.out HI.out.2.2.1).mono ?_
      rintro e w2 ⟨vi, rfl, hO2, hB2⟩
      obtain ⟨L, hL⟩ : ∃ L, L = idsL (gD A) A.length := ⟨_, rfl⟩
      have hL40 : L.length ≤ 40 := by rw [hL, ← idsR_yes HI.out.2.2.1]; exact idsR_len _ _
      rw [← hL] at hO2
      obtain ⟨vb, vd, rfl⟩ := hO2.slice
      obtain ⟨m, hm⟩ : ∃ m, m = L.length := ⟨_, rfl⟩
      rw [← hm] at hL40 ⊢
      have HX2 : Hid (OwnN w2 w.heap.size (.slice va A.length vc) A ∧ Draw W a len cap R w2 ∧ Mut R w w2) := ⟨HI.out.1.below hB2, HI.out.2.2.2.1.below hB2, HI.out.2.2.2.2.trans (Mut.of_below hB2)⟩
      have HGG : Hid (Good A ∧ seqB (gD A) A.length = true) := ⟨HI.out.2.1, HI.out.2.2.1⟩
      clear hO2 hB2 hL hm HI HIE0
      go_wp2_with fail
      refine (below_any hU 3 (by omega) (by omega) w2 HX2.out.2.1).mono ?_
      rintro e w3 ⟨y3, h30, h31, rfl, hD3, hM3⟩
      have HX3 : Hid (OwnN w3 w.heap.size (.slice va A.length vc) A ∧ Draw W a len cap R w3 ∧ Mut R w w3) := ⟨HX2.out.1.mut hM3 HRW.out, hD3, HX2.out.2.2.trans hM3⟩
      clear hD3 hM3 HX2
      obtain ⟨author, hau⟩ : ∃ author : Int, 1 + y3 = author := ⟨_, rfl⟩
      by_cases hm0 : 1 ≤ m
      · have hm0I : (0 : Int) < (m : Int) := by omega
        go_wp2_with fail
        refine (once_any hU 4 (by omega) (by omega) w3 HX3.out.2.1).mono ?_
        rintro e w4 ⟨on, rfl, hD4, hM4⟩
        have HOV : Hid (OwnN w4 w.heap.size (.slice va A.length vc) A ∧ Good A ∧ seqB (gD A) A.length = true) := ⟨HX3.out.1.mut hM4 HRW.out, HGG.out⟩
        have HDW : Hid (Draw W a len cap R w4 ∧ Mut R w w4) := ⟨hD4, HX3.out.2.2.trans hM4⟩
        clear hD4 hM4 HX3 HGG
        cases on with
        | true =>
          go_wp2_with fail
          refine (belowN_any hU m hm0 (by omega) w4 HDW.out.1).mono ?_
          rintro e w5 ⟨z, hz, rfl, hD5, hM5⟩
          have HOV5 : Hid (OwnN w5 w.heap.size (.slice va A.length vc) A ∧ Good A ∧ seqB (gD A) A.length = true) := ⟨HOV.out.1.mut hM5 HRW.out, HOV.out.2⟩
          have HDW5 : Hid (Draw W a len cap R w5 ∧ Mut R w w5) := ⟨hD5, HDW.out.2.trans hM5⟩
          clear HOV HDW hD5 hM5
          have HOV := HOV5
          have HDW := HDW5
          clear HOV5 HDW5
          have HIE : Hid (IsEvs w5 va A.length vc (gD A)) := HIS.out w5 HOV.out.1
          go_wp2_with fail
          refine (specDeleted_any va A.length vc (gD A) author (z : Int) w5 HIE.out HOV.out.2.1.2).mono ?_

          rintro e w6 ⟨v6, rfl, hO6, hB6⟩
          obtain ⟨x6, hx6⟩ : ∃ x6 : Value, x6 = .agg (enc4 (if okD (gD A) A.length author (z : Int) then opD (gD A) A.length author (z : Int) else evZ)).toArray := ⟨_, rfl⟩
          rw [← hx6]
          clear hx6
          obtain ⟨s, hs⟩ : ∃ s, s = okD (gD A) A.length author (z : Int) := ⟨_, rfl⟩
          rw [← hs] at hO6 ⊢
          have HD6 : Hid (Draw W a len cap R w6 ∧ Mut R w w6) := ⟨HDW.out.1.below hB6, HDW.out.2.trans (Mut.of_below hB6)⟩
          cases s with
          | false =>
            have HR : Hid (OwnN w6 w.heap.size (.slice va A.length vc) A ∧ Good A ∧ seqB (gD A) A.length = true ∧ Draw W a len cap R w6 ∧ Mut R w w6) := ⟨HOV.out.1.below hB6, HOV.out.2.1, HOV.out.2.2, HD6.out.1, HD6.out.2⟩
            clear hs hO6 hB6
            go_wp2
            go_roundw
            case rel => exact ⟨k, A, _, by omega, by go_num, rfl, HR.out⟩
            case measure => simp [Go.RowKit.intOf]
          | true =>
            obtain ⟨B, hB⟩ : ∃ B, B = A ++ [opD (gD A) A.length author (z : Int)] := ⟨_, rfl⟩
            have hst := stD_ok hs.symm
            rw [← hB] at hst
            have HR : Hid (OwnN w6 w.heap.size v6 B ∧ Good B ∧ seqB (gD B) B.length = true ∧ Draw W a len cap R w6 ∧ Mut R w w6) := by
              refine ⟨?_, (stD_some HOV.out.2.1 hst).1, ?_, HD6.out.1, HD6.out.2⟩
              · have := hO6.base (HDW.out.2.size)
                rw [if_pos rfl, listD_gD, ← hB] at this
                exact OwnN.of this (by rw [hB]; simp)
              · have h1 := hs.symm
                unfold okD okW at h1
                simp only [Bool.and_eq_true] at h1
                have h2 := h1.2.2
                have e : snocD (gD A) A.length (opD (gD A) A.length author (z : Int)) = gD B := funext fun i => by unfold snocD; rw [listD_gD, hB]; rfl
                rw [e] at h2
                rw [hB, List.length_append, ← hB]
                exact h2
            clear hs hO6 hB6 hst hB
            go_wp2
            go_roundw
            case rel => exact ⟨k, B, _, by omega, by go_num, rfl, HR.out⟩
            case measure => simp [Go.RowKit.intOf]
        | false =>
          go_wp2_with fail
          refine (belowN_any hU (m + 1) (by omega) (by omega) w4 HDW.out.1).mono ?_
          rintro e w5' ⟨z, hz, rfl, hD5, hM5⟩
          have HL5 : Hid (R < w5'.heap.size) := hD5.lt
          have HOV5 : Hid (OwnN w5' w.heap.size (.slice va A.length vc) A) := HOV.out.1.mut hM5 HRW.out
          go_wp2_with fail
          refine (below_any hU 4 (by omega) (by omega) _ (hD5.alloc _)).mono ?_
          rintro e w5 ⟨y4, h40, h41, rfl, hD6, hM6⟩
          have hc := lit_cells hM6 HL5.out
          obtain ⟨i4, rfl⟩ : ∃ i : Nat, y4 = (i : Int) := ⟨y4.toNat, by omega⟩
          have hi4 : i4 < 4 := by omega
          have hi4I : (i4 : Int) < 4 := by omega
          obtain ⟨sg, hsg8, c4⟩ : ∃ sg : ByteArray, sg.size ≤ 8 ∧ w5.cell? ⟨w5'.heap.size, i4, none⟩ = some (.string sg) := by
            have : i4 = 0 ∨ i4 = 1 ∨ i4 = 2 ∨ i4 = 3 := by omega
            rcases this with rfl | rfl | rfl | rfl
            · exact ⟨_, by decide, hc 0⟩
            · exact ⟨_, by decide, hc 1⟩
            · exact ⟨_, by decide, hc 2⟩
            · exact ⟨_, by decide, hc 3⟩
          have hsg : sg.size ≤ 9223372036854775807 := by omega
          have hM56 : Mut R w5' w5 := ((Mut.refl R w5').alloc _).trans hM6
          have HOV6 : Hid (OwnN w5 w.heap.size (.slice va A.length vc) A ∧ Good A ∧ seqB (gD A) A.length = true) := ⟨HOV5.out.mut hM56 HRW.out, HOV.out.2⟩
          have HDW6 : Hid (Draw W a len cap R w5 ∧ Mut R w w5) := ⟨hD6, (HDW.out.2.trans hM5).trans hM56⟩
          clear HOV HDW hD5 hM5 hD6 hM6 hM56 hc h40 h41 HOV5
          have HOV := HOV6
          have HDW := HDW6
          clear HOV6 HDW6
          have HIE : Hid (IsEvs w5 va A.length vc (gD A)) := HIS.out w5 HOV.out.1
          go_wp2_with fail
          refine (specInserted_any va A.length vc (gD A) author (z : Int) sg hsg w5 HIE.out HOV.out.2.1.2).mono ?_

          rintro e w6 ⟨v6, rfl, hO6, hB6⟩
          obtain ⟨x6, hx6⟩ : ∃ x6 : Value, x6 = .agg (enc4 (if okI (gD A) A.length author (z : Int) sg then opI (gD A) A.length author (z : Int) sg else evZ)).toArray := ⟨_, rfl⟩
          rw [← hx6]
          clear hx6
          obtain ⟨s, hs⟩ : ∃ s, s = okI (gD A) A.length author (z : Int) sg := ⟨_, rfl⟩
          rw [← hs] at hO6 ⊢
          have HD6 : Hid (Draw W a len cap R w6 ∧ Mut R w w6) := ⟨HDW.out.1.below hB6, HDW.out.2.trans (Mut.of_below hB6)⟩
          cases s with
          | false =>
            have HR : Hid (OwnN w6 w.heap.size (.slice va A.length vc) A ∧ Good A ∧ seqB (gD A) A.length = true ∧ Draw W a len cap R w6 ∧ Mut R w w6) := ⟨HOV.out.1.below hB6, HOV.out.2.1, HOV.out.2.2, HD6.out.1, HD6.out.2⟩
            clear hs hO6 hB6
            go_wp2
            go_roundw
            case rel => exact ⟨k, A, _, by omega, by go_num, rfl, HR.out⟩
            case measure => simp [Go.RowKit.intOf]
          | true =>
            obtain ⟨B, hB⟩ : ∃ B, B = A ++ [opI (gD A) A.length author (z : Int) sg] := ⟨_, rfl⟩
            have hst := stI_ok hs.symm
            rw [← hB] at hst
            have HR : Hid (OwnN w6 w.heap.size v6 B ∧ Good B ∧ seqB (gD B) B.length = true ∧ Draw W a len cap R w6 ∧ Mut R w w6) := by
              refine ⟨?_, (stI_some hsg HOV.out.2.1 hst).1, ?_, HD6.out.1, HD6.out.2⟩
              · have := hO6.base (HDW.out.2.size)
                rw [if_pos rfl, listD_gD, ← hB] at this
                exact OwnN.of this (by rw [hB]; simp)
              · have h1 := hs.symm
                unfold okI okW at h1
                simp only [Bool.and_eq_true] at h1
                have h2 := h1.2.2
                have e : snocD (gD A) A.length (opI (gD A) A.length author (z : Int) sg) = gD B := funext fun i => by unfold snocD; rw [listD_gD, hB]; rfl
                rw [e] at h2
                rw [hB, List.length_append, ← hB]
                exact h2
            clear hs hO6 hB6 hst hB
            go_wp2
            go_roundw
            case rel => exact ⟨k, B, _, by omega, by go_num, rfl, HR.out⟩
            case measure => simp [Go.RowKit.intOf]
      · have hm0I : ¬ (0 : Int) < (m : Int) := by omega
        have hmz : m = 0 := by omega
        subst hmz
        have HOV : Hid (OwnN w3 w.heap.size (.slice va A.length vc) A ∧ Good A ∧ seqB (gD A) A.length = true) := ⟨HX3.out.1, HGG.out⟩
        have HDW : Hid (Draw W a len cap R w3 ∧ Mut R w w3) := ⟨HX3.out.2.1, HX3.out.2.2⟩
        clear HX3 HGG
        obtain ⟨w4, hw4⟩ : ∃ w4, w4 = w3 := ⟨_, rfl⟩
        rw [← hw4] at HOV HDW ⊢
        clear hw4
        go_wp2_with fail
        refine (belowN_any hU 1 (by omega) (by omega) w4 HDW.out.1).mono ?_
        rintro e w5' ⟨z, hz, rfl, hD5, hM5⟩
        have HL5 : Hid (R < w5'.heap.size) := hD5.lt
        have HOV5 : Hid (OwnN w5' w.heap.size (.slice va A.length vc) A) := HOV.out.1.mut hM5 HRW.out
        go_wp2_with fail
        refine (below_any hU 4 (by omega) (by omega) _ (hD5.alloc _)).mono ?_
        rintro e w5 ⟨y4, h40, h41, rfl, hD6, hM6⟩
        have hc := lit_cells hM6 HL5.out
        obtain ⟨i4, rfl⟩ : ∃ i : Nat, y4 = (i : Int) := ⟨y4.toNat, by omega⟩
        have hi4 : i4 < 4 := by omega
        have hi4I : (i4 : Int) < 4 := by omega
        obtain ⟨sg, hsg8, c4⟩ : ∃ sg : ByteArray, sg.size ≤ 8 ∧ w5.cell? ⟨w5'.heap.size, i4, none⟩ = some (.string sg) := by
          have : i4 = 0 ∨ i4 = 1 ∨ i4 = 2 ∨ i4 = 3 := by omega
          rcases this with rfl | rfl | rfl | rfl
          · exact ⟨_, by decide, hc 0⟩
          · exact ⟨_, by decide, hc 1⟩
          · exact ⟨_, by decide, hc 2⟩
          · exact ⟨_, by decide, hc 3⟩
        have hsg : sg.size ≤ 9223372036854775807 := by omega
        have hM56 : Mut R w5' w5 := ((Mut.refl R w5').alloc _).trans hM6
        have HOV6 : Hid (OwnN w5 w.heap.size (.slice va A.length vc) A ∧ Good A ∧ seqB (gD A) A.length = true) := ⟨HOV5.out.mut hM56 HRW.out, HOV.out.2⟩
        have HDW6 : Hid (Draw W a len cap R w5 ∧ Mut R w w5) := ⟨hD6, (HDW.out.2.trans hM5).trans hM56⟩
        clear HOV HDW hD5 hM5 hD6 hM6 hM56 hc h40 h41 HOV5
        have HOV := HOV6
        have HDW := HDW6
        clear HOV6 HDW6
        have HIE : Hid (IsEvs w5 va A.length vc (gD A)) := HIS.out w5 HOV.out.1
        go_wp2_with fail
        refine (specInserted_any va A.length vc (gD A) author (z : Int) sg hsg w5 HIE.out HOV.out.2.1.2).mono ?_

        rintro e w6 ⟨v6, rfl, hO6, hB6⟩
        obtain ⟨x6, hx6⟩ : ∃ x6 : Value, x6 = .agg (enc4 (if okI (gD A) A.length author (z : Int) sg then opI (gD A) A.length author (z : Int) sg else evZ)).toArray := ⟨_, rfl⟩
        rw [← hx6]
        clear hx6
        obtain ⟨s, hs⟩ : ∃ s, s = okI (gD A) A.length author (z : Int) sg := ⟨_, rfl⟩
        rw [← hs] at hO6 ⊢
        have HD6 : Hid (Draw W a len cap R w6 ∧ Mut R w w6) := ⟨HDW.out.1.below hB6, HDW.out.2.trans (Mut.of_below hB6)⟩
        cases s with
        | false =>
          have HR : Hid (OwnN w6 w.heap.size (.slice va A.length vc) A ∧ Good A ∧ seqB (gD A) A.length = true ∧ Draw W a len cap R w6 ∧ Mut R w w6) := ⟨HOV.out.1.below hB6, HOV.out.2.1, HOV.out.2.2, HD6.out.1, HD6.out.2⟩
          clear hs hO6 hB6
          go_wp2
          go_roundw
          case rel => exact ⟨k, A, _, by omega, by go_num, rfl, HR.out⟩
          case measure => simp [Go.RowKit.intOf]
        | true =>
          obtain ⟨B, hB⟩ : ∃ B, B = A ++ [opI (gD A) A.length author (z : Int) sg] := ⟨_, rfl⟩
          have hst := stI_ok hs.symm
          rw [← hB] at hst
          have HR : Hid (OwnN w6 w.heap.size v6 B ∧ Good B ∧ seqB (gD B) B.length = true ∧ Draw W a len cap R w6 ∧ Mut R w w6) := by
            refine ⟨?_, (stI_some hsg HOV.out.2.1 hst).1, ?_, HD6.out.1, HD6.out.2⟩
            · have := hO6.base (HDW.out.2.size)
              rw [if_pos rfl, listD_gD, ← hB] at this
              exact OwnN.of this (by rw [hB]; simp)
            · have h1 := hs.symm
              unfold okI okW at h1
              simp only [Bool.and_eq_true] at h1
              have h2 := h1.2.2
              have e : snocD (gD A) A.length (opI (gD A) A.length author (z : Int) sg) = gD B := funext fun i => by unfold snocD; rw [listD_gD, hB]; rfl
              rw [e] at h2
              rw [hB, List.length_append, ← hB]
              exact h2
          clear hs hO6 hB6 hst hB
          go_wp2
          go_roundw
          case rel => exact ⟨k, B, _, by omega, by go_num, rfl, HR.out⟩
          case measure => simp [Go.RowKit.intOf]
    · have hlt' : ¬ (0 : Int) < (k1 : Int) := by omega
      go_wp2
      go_ret
      exact ⟨_, rfl, A, HI.out⟩

end
end Go.Proofs.Ytjfciokpnhnhbaa

namespace Go.Proofs.Ytjfciokpnhnhbaa
open Go.RowKit
set_option linter.unusedVariables false

section
variable {W : World} {a : Option Addr} {len cap R : Nat} {Z : Nat → Int}
set_option maxHeartbeats 400000 in
theorem near040_any (hU : IsU8 W a len cap Z) (w : World) (h : Draw W a len cap R w) :
    Calls Try.prog 56 #[.pointer (some ⟨R, 0, none⟩), .int .i64 0, .int .i64 40] w fun e w' => ∃ x : Int, -9223372036854775808 ≤ x ∧ x ≤ 9223372036854775807 ∧ e = .returned (.int .i64 x) ∧ Draw W a len cap R w' ∧ Mut R w w' := by
  go_enter Try.func56, Try.ntmps56
  go_wp2_with (first
    | (go_at_call 23; refine (below_any hU 8 (by omega) (by omega) _ h).mono ?_; rintro e w' ⟨x, hx0, hx1, rfl, hD, hM⟩)
    | (go_at_call 66; refine (word_any hU _ hD).mono ?_; rintro e w2 ⟨z, rfl, hD', hM'⟩))
  · go_ret
    exact ⟨_, by omega, by omega, rfl, hD, hM⟩
  · go_ret
    exact ⟨_, by omega, by omega, rfl, hD, hM⟩
  · go_ret
    exact ⟨_, (wrap64_range _).1, (wrap64_range _).2, rfl, hD', hM.trans hM'⟩

set_option maxHeartbeats 400000 in
theorem off040_any (hU : IsU8 W a len cap Z) (w : World) (h : Draw W a len cap R w) :
    Calls Try.prog 39 #[.pointer (some ⟨R, 0, none⟩), .int .i64 0, .int .i64 40] w fun e w' => ∃ x : Int, -9223372036854775808 ≤ x ∧ x ≤ 9223372036854775807 ∧ e = .returned (.int .i64 x) ∧ Draw W a len cap R w' ∧ Mut R w w' := by
  go_enter Try.func39, Try.ntmps39
  go_wp2_with (first
    | (go_at_call 38; refine (once_any hU 24 (by omega) (by omega) _ h).mono ?_; rintro e w' ⟨x, rfl, hD, hM⟩)
    | (go_at_call 56; refine (near040_any hU _ hD).mono ?_; rintro e w2 ⟨z, hz0, hz1, rfl, hD', hM'⟩))
  · refine (below_any hU 4 (by omega) (by omega) _ (hD.alloc _)).mono ?_
    rintro e w3 ⟨y, hy0, hy1, rfl, hD3, hM3⟩
    have hc := lit_cells hM3 hD.lt
    have c0 := hc 0
    have c1 := hc 1
    have c2 := hc 2
    have c3 := hc 3
    clear hc
    have hM4 : Hid (Mut R w w3) := (hM.alloc _).trans hM3
    clear hM3
    have hy : y = 0 ∨ y = 1 ∨ y = 2 ∨ y = 3 := by omega
    rcases hy with rfl | rfl | rfl | rfl <;> (go_wp2; go_ret; exact ⟨_, by omega, by omega, rfl, hD3, hM4.out⟩)
  · go_ret
    exact ⟨_, by omega, by omega, rfl, hD', hM.trans hM'⟩

set_option maxHeartbeats 400000 in
theorem near12_any (hU : IsU8 W a len cap Z) (w : World) (h : Draw W a len cap R w) :
    Calls Try.prog 56 #[.pointer (some ⟨R, 0, none⟩), .int .i64 1, .int .i64 2] w fun e w' => ∃ x : Int, -9223372036854775808 ≤ x ∧ x ≤ 9223372036854775807 ∧ e = .returned (.int .i64 x) ∧ Draw W a len cap R w' ∧ Mut R w w' := by
  go_enter Try.func56, Try.ntmps56
  go_wp2_with (first
    | (go_at_call 23; refine (below_any hU 8 (by omega) (by omega) _ h).mono ?_; rintro e w' ⟨x, hx0, hx1, rfl, hD, hM⟩)
    | (go_at_call 66; refine (word_any hU _ hD).mono ?_; rintro e w2 ⟨z, rfl, hD', hM'⟩))
  · go_ret
    exact ⟨_, by omega, by omega, rfl, hD, hM⟩
  · go_ret
    exact ⟨_, by omega, by omega, rfl, hD, hM⟩
  · go_ret
    exact ⟨_, (wrap64_range _).1, (wrap64_range _).2, rfl, hD', hM.trans hM'⟩

set_option maxHeartbeats 400000 in
theorem off12_any (hU : IsU8 W a len cap Z) (w : World) (h : Draw W a len cap R w) :
    Calls Try.prog 39 #[.pointer (some ⟨R, 0, none⟩), .int .i64 1, .int .i64 2] w fun e w' => ∃ x : Int, -9223372036854775808 ≤ x ∧ x ≤ 9223372036854775807 ∧ e = .returned (.int .i64 x) ∧ Draw W a len cap R w' ∧ Mut R w w' := by
  go_enter Try.func39, Try.ntmps39
  go_wp2_with (first
    | (go_at_call 38; refine (once_any hU 24 (by omega) (by omega) _ h).mono ?_; rintro e w' ⟨x, rfl, hD, hM⟩)
    | (go_at_call 56; refine (near12_any hU _ hD).mono ?_; rintro e w2 ⟨z, hz0, hz1, rfl, hD', hM'⟩))
  · refine (below_any hU 4 (by omega) (by omega) _ (hD.alloc _)).mono ?_
    rintro e w3 ⟨y, hy0, hy1, rfl, hD3, hM3⟩
    have hc := lit_cells hM3 hD.lt
    have c0 := hc 0
    have c1 := hc 1
    have c2 := hc 2
    have c3 := hc 3
    clear hc
    have hM4 : Hid (Mut R w w3) := (hM.alloc _).trans hM3
    clear hM3
    have hy : y = 0 ∨ y = 1 ∨ y = 2 ∨ y = 3 := by omega
    rcases hy with rfl | rfl | rfl | rfl <;> (go_wp2; go_ret; exact ⟨_, by omega, by omega, rfl, hD3, hM4.out⟩)
  · go_ret
    exact ⟨_, by omega, by omega, rfl, hD', hM.trans hM'⟩

set_option maxHeartbeats 400000 in
theorem near190_any (hU : IsU8 W a len cap Z) (w : World) (h : Draw W a len cap R w) :
    Calls Try.prog 56 #[.pointer (some ⟨R, 0, none⟩), .int .i64 1, .int .i64 90] w fun e w' => ∃ x : Int, -9223372036854775808 ≤ x ∧ x ≤ 9223372036854775807 ∧ e = .returned (.int .i64 x) ∧ Draw W a len cap R w' ∧ Mut R w w' := by
  go_enter Try.func56, Try.ntmps56
  go_wp2_with (first
    | (go_at_call 23; refine (below_any hU 8 (by omega) (by omega) _ h).mono ?_; rintro e w' ⟨x, hx0, hx1, rfl, hD, hM⟩)
    | (go_at_call 66; refine (word_any hU _ hD).mono ?_; rintro e w2 ⟨z, rfl, hD', hM'⟩))
  · go_ret
    exact ⟨_, by omega, by omega, rfl, hD, hM⟩
  · go_ret
    exact ⟨_, by omega, by omega, rfl, hD, hM⟩
  · go_ret
    exact ⟨_, (wrap64_range _).1, (wrap64_range _).2, rfl, hD', hM.trans hM'⟩

set_option maxHeartbeats 400000 in
theorem off190_any (hU : IsU8 W a len cap Z) (w : World) (h : Draw W a len cap R w) :
    Calls Try.prog 39 #[.pointer (some ⟨R, 0, none⟩), .int .i64 1, .int .i64 90] w fun e w' => ∃ x : Int, -9223372036854775808 ≤ x ∧ x ≤ 9223372036854775807 ∧ e = .returned (.int .i64 x) ∧ Draw W a len cap R w' ∧ Mut R w w' := by
  go_enter Try.func39, Try.ntmps39
  go_wp2_with (first
    | (go_at_call 38; refine (once_any hU 24 (by omega) (by omega) _ h).mono ?_; rintro e w' ⟨x, rfl, hD, hM⟩)
    | (go_at_call 56; refine (near190_any hU _ hD).mono ?_; rintro e w2 ⟨z, hz0, hz1, rfl, hD', hM'⟩))
  · refine (below_any hU 4 (by omega) (by omega) _ (hD.alloc _)).mono ?_
    rintro e w3 ⟨y, hy0, hy1, rfl, hD3, hM3⟩
    have hc := lit_cells hM3 hD.lt
    have c0 := hc 0
    have c1 := hc 1
    have c2 := hc 2
    have c3 := hc 3
    clear hc
    have hM4 : Hid (Mut R w w3) := (hM.alloc _).trans hM3
    clear hM3
    have hy : y = 0 ∨ y = 1 ∨ y = 2 ∨ y = 3 := by omega
    rcases hy with rfl | rfl | rfl | rfl <;> (go_wp2; go_ret; exact ⟨_, by omega, by omega, rfl, hD3, hM4.out⟩)
  · go_ret
    exact ⟨_, by omega, by omega, rfl, hD', hM.trans hM'⟩

end
end Go.Proofs.Ytjfciokpnhnhbaa

namespace Go.Proofs.Ytjfciokpnhnhbaa
open Go.RowKit
set_option linter.unusedVariables false

/-- the bytes of a text, as a list -/
def bl (s : ByteArray) : List UInt8 := s.data.toList
theorem bl_inj {s t : ByteArray} (h : bl s = bl t) : s = t := ByteArray.ext (Array.ext' h)
theorem bl_len (s : ByteArray) : (bl s).length = s.size := rfl
theorem bl_append (s t : ByteArray) : bl (s ++ t) = bl s ++ bl t := by unfold bl; rw [ByteArray.data_append, Array.toList_append]
theorem bl_extract (s : ByteArray) (i j : Nat) : bl (s.extract i j) = ((bl s).drop i).take (j - i) := by
  unfold bl
  rw [ByteArray.data_extract, Array.toList_extract]
theorem bl_left (s : ByteArray) (j : Nat) : bl (s.extract 0 j) = (bl s).take j := by rw [bl_extract]; rfl
theorem bl_right (s : ByteArray) (i : Nat) : bl (s.extract i s.size) = (bl s).drop i := by
  rw [bl_extract]
  exact List.take_of_length_le (by rw [List.length_drop, bl_len]; omega)
theorem bl_at {s t : ByteArray} {i j : Nat} (hi : i < s.size) (hj : j < t.size) (h : bt s i = bt t j) : (bl s)[i]? = (bl t)[j]? := by
  rw [← bt_in hi, ← bt_in hj] at h
  have h1 : s[i] = t[j] := by
    apply UInt8.toNat_inj.1
    omega
  have e1 : (bl s)[i]? = some s[i] := by rw [List.getElem?_eq_getElem (show i < (bl s).length from hi)]; rfl
  have e2 : (bl t)[j]? = some t[j] := by rw [List.getElem?_eq_getElem (show j < (bl t).length from hj)]; rfl
  rw [e1, e2, h1]
theorem gD_snoc (A : List Ev) (x : Ev) : gD (A ++ [x]) = snocD (gD A) A.length x := funext fun i => by unfold snocD; rw [listD_gD]; rfl
def txt (A : List Ev) : ByteArray := textR (gD A) A.length
def okA (A : List Ev) : Prop := seqB (gD A) A.length = true
theorem stD_text {author z : Int} {A B : List Ev} (hs : stD author z A = some B) :
    ∃ x, B = A ++ [x] ∧ okA A ∧ okA B ∧ ∃ j : Nat, z = (j : Int) ∧ j < (txt A).size ∧ bl (txt B) = (bl (txt A)).take j ++ (bl (txt A)).drop (j + 1) := by
  unfold stD at hs
  by_cases hk : okD (gD A) A.length author z = true
  · rw [if_pos hk] at hs
    obtain rfl := Option.some.inj hs
    unfold okD okW at hk
    simp only [Bool.and_eq_true] at hk
    obtain ⟨k1, ⟨k2, k3⟩, k4⟩ := hk
    unfold inB at k1
    simp only [Bool.and_eq_true, decide_eq_true_eq] at k1
    have hj : z.toNat < (idsR (gD A) A.length).length := by omega
    refine ⟨_, rfl, k2, ?_, z.toNat, by omega, by unfold txt; rw [text_size k2]; exact hj, ?_⟩
    · unfold okA
      rw [gD_snoc, List.length_append]
      exact k4
    · unfold txt
      rw [gD_snoc, List.length_append]
      have := text_del k2 k4 rfl hj rfl
      rw [show ([opD (gD A) A.length author z] : List Ev).length = 1 from rfl, this, bl_append, bl_left, bl_right]
  · rw [if_neg hk] at hs
    cases hs
theorem stI_text {author z : Int} {sg : ByteArray} {A B : List Ev} (hs : stI author z sg A = some B) :
    ∃ x, B = A ++ [x] ∧ okA A ∧ okA B ∧ ∃ j : Nat, z = (j : Int) ∧ j ≤ (txt A).size ∧ bl (txt B) = (bl (txt A)).take j ++ bl sg ++ (bl (txt A)).drop j := by
  unfold stI at hs
  by_cases hk : okI (gD A) A.length author z sg = true
  · rw [if_pos hk] at hs
    obtain rfl := Option.some.inj hs
    unfold okI okW at hk
    simp only [Bool.and_eq_true] at hk
    obtain ⟨k1, ⟨k2, k3⟩, k4⟩ := hk
    unfold inB at k1
    simp only [Bool.and_eq_true, decide_eq_true_eq] at k1
    obtain ⟨j, rfl⟩ : ∃ j : Nat, z = (j : Int) := ⟨z.toNat, by omega⟩
    have hj : j ≤ (idsR (gD A) A.length).length := by omega
    refine ⟨_, rfl, k2, ?_, j, rfl, by unfold txt; rw [text_size k2]; exact hj, ?_⟩
    · unfold okA
      rw [gD_snoc, List.length_append]
      exact k4
    · unfold txt
      rw [gD_snoc, List.length_append]
      have := text_ins k2 k4 rfl hj rfl
      rw [show ([opI (gD A) A.length author (j : Int) sg] : List Ev).length = 1 from rfl, this, bl_append, bl_append, bl_left, bl_right]
      rfl
  · rw [if_neg hk] at hs
    cases hs
theorem cut_take {L M : List UInt8} {b : Nat} (h : b ≤ L.length) : (L.take b ++ M).take b = L.take b := by
  rw [List.take_append_of_le_length (by rw [List.length_take]; omega), List.take_take, Nat.min_self]
theorem cut_drop {L M : List UInt8} {b k : Nat} (h : b ≤ L.length) : (L.take b ++ M).drop (b + k) = M.drop k := by
  rw [List.drop_append, List.drop_of_length_le (by rw [List.length_take]; omega), List.length_take, Nat.min_eq_left h, show b + k - b = k by omega]
  rfl
theorem itD_text {author : Int} {b : Nat} : ∀ (k : Nat) (A B : List Ev), okA A → b + k ≤ (txt A).size → itD author (b : Int) k A = some B →
    okA B ∧ (∃ C, B = A ++ C ∧ C.length = k) ∧ bl (txt B) = (bl (txt A)).take b ++ (bl (txt A)).drop (b + k) := by
  intro k
  induction k with
  | zero =>
    intro A B h hb hs
    obtain rfl := Option.some.inj (show some A = some B from hs)
    exact ⟨h, ⟨[], by simp, rfl⟩, by rw [Nat.add_zero, List.take_append_drop]⟩
  | succ k ih =>
    intro A B h hb hs
    cases h1 : stD author (b : Int) A with
    | none =>
      rw [itD_no h1] at hs
      cases hs
    | some B1 =>
      rw [itD_yes h1] at hs
      obtain ⟨x, rfl, _, o1, j, hj, hjs, ht⟩ := stD_text h1
      obtain rfl : b = j := by omega
      have hl : (bl (txt (A ++ [x]))).length = (txt A).size - 1 := by
        rw [ht, List.length_append, List.length_take, List.length_drop, bl_len]
        omega
      rw [bl_len] at hl
      obtain ⟨o2, ⟨C, rfl, hC⟩, ht2⟩ := ih (A ++ [x]) B o1 (by omega) hs
      refine ⟨o2, ⟨x :: C, by simp, by simp [hC]⟩, ?_⟩
      rw [ht2, ht, cut_take (by rw [bl_len]; omega), cut_drop (by rw [bl_len]; omega), List.drop_drop]
      congr 2
      omega
theorem itI_text {author : Int} {t : ByteArray} : ∀ (k i : Nat) (A B : List Ev), okA A → i ≤ (txt A).size → i + k ≤ t.size → itI author t k i A = some B →
    okA B ∧ (∃ C, B = A ++ C ∧ C.length = k) ∧ bl (txt B) = (bl (txt A)).take i ++ ((bl t).drop i).take k ++ (bl (txt A)).drop i := by
  intro k
  induction k with
  | zero =>
    intro i A B h hb _ hs
    obtain rfl := Option.some.inj (show some A = some B from hs)
    exact ⟨h, ⟨[], by simp, rfl⟩, by rw [List.take_zero, List.append_nil, List.take_append_drop]⟩
  | succ k ih =>
    intro i A B h hb hk hs
    cases h1 : stI author (i : Int) (t.extract i (i + 1)) A with
    | none =>
      rw [itI_no h1] at hs
      cases hs
    | some B1 =>
      rw [itI_yes h1] at hs
      obtain ⟨x, rfl, _, o1, j, hj, hjs, ht⟩ := stI_text h1
      obtain rfl : i = j := by omega
      have hi : i < (bl t).length := by rw [bl_len]; omega
      have hd : (bl t).drop i = (bl t)[i] :: (bl t).drop (i + 1) := List.drop_eq_getElem_cons hi
      have hsg : bl (t.extract i (i + 1)) = [(bl t)[i]] := by
        rw [bl_extract, show i + 1 - i = 1 by omega, hd]
        rfl
      rw [hsg] at ht
      have hl : (bl (txt (A ++ [x]))).length = (txt A).size + 1 := by
        rw [ht, List.length_append, List.length_append, List.length_take, List.length_drop, bl_len]
        show min i _ + 1 + _ = _
        omega
      rw [bl_len] at hl
      obtain ⟨o2, ⟨C, rfl, hC⟩, ht2⟩ := ih (i + 1) (A ++ [x]) B o1 (by omega) (by omega) hs
      refine ⟨o2, ⟨x :: C, by simp, by simp [hC]⟩, ?_⟩
      have hlen : ((bl (txt A)).take i ++ [(bl t)[i]]).length = i + 1 := by
        rw [List.length_append, List.length_take, bl_len]
        show min i _ + 1 = _
        omega
      have e1 : ((bl (txt A)).take i ++ [(bl t)[i]] ++ (bl (txt A)).drop i).take (i + 1) = (bl (txt A)).take i ++ [(bl t)[i]] := by
        rw [List.take_append_of_le_length (by rw [hlen]; exact Nat.le_refl _)]
        exact List.take_of_length_le (by rw [hlen]; exact Nat.le_refl _)
      have e2 : ((bl (txt A)).take i ++ [(bl t)[i]] ++ (bl (txt A)).drop i).drop (i + 1) = (bl (txt A)).drop i := by
        rw [List.drop_append_of_le_length (by rw [hlen]; exact Nat.le_refl _), List.drop_of_length_le (l := (bl (txt A)).take i ++ [(bl t)[i]]) (by rw [hlen]; exact Nat.le_refl _)]
        rfl
      rw [ht2, ht, e1, e2, hd, List.take_succ_cons]
      simp
theorem cbF_same {s t : ByteArray} : ∀ (f k : Nat), (bl s).take k = (bl t).take k → (bl s).take (cbF s t f k) = (bl t).take (cbF s t f k) := by
  intro f
  induction f with
  | zero => intro k h; exact h
  | succ f ih =>
    intro k h
    show (bl s).take (if _ then _ else _) = (bl t).take (if _ then _ else _)
    by_cases hc : k < s.size ∧ k < t.size ∧ bt s k = bt t k
    · rw [if_pos hc]
      refine ih (k + 1) ?_
      rw [List.take_add_one, List.take_add_one, h, bl_at hc.1 hc.2.1 hc.2.2]
    · rw [if_neg hc]
      exact h
theorem drop_step {L : List UInt8} {n k : Nat} (hn : L.length = n) (hk : k < n) : L.drop (n - (k + 1)) = L[n - 1 - k]?.toList ++ L.drop (n - k) := by
  have h : n - (k + 1) < L.length := by omega
  rw [List.drop_eq_getElem_cons h, show n - 1 - k = n - (k + 1) by omega, List.getElem?_eq_getElem h, show n - (k + 1) + 1 = n - k by omega]
  rfl
theorem ceF_same {s t : ByteArray} {b : Nat} : ∀ (f k : Nat), (bl s).drop (s.size - k) = (bl t).drop (t.size - k) → (bl s).drop (s.size - ceF s t b f k) = (bl t).drop (t.size - ceF s t b f k) := by
  intro f
  induction f with
  | zero => intro k h; exact h
  | succ f ih =>
    intro k h
    show (bl s).drop (s.size - (if _ then _ else _)) = (bl t).drop (t.size - (if _ then _ else _))
    by_cases hc : k < s.size - b ∧ k < t.size - b ∧ bt s (s.size - 1 - k) = bt t (t.size - 1 - k)
    · rw [if_pos hc]
      refine ih (k + 1) ?_
      rw [drop_step (bl_len s) (by omega), drop_step (bl_len t) (by omega), h, bl_at (by omega) (by omega) hc.2.2]
    · rw [if_neg hc]
      exact h
theorem cbF_self {s : ByteArray} : ∀ (f k : Nat), f + k = s.size → cbF s s f k = s.size := by
  intro f
  induction f with
  | zero => intro k h; show k = _; omega
  | succ f ih =>
    intro k h
    show (if _ then _ else _) = _
    rw [if_pos ⟨by omega, by omega, rfl⟩]
    exact ih (k + 1) (by omega)
theorem tu_text {A B : List Ev} {author : Int} {t : ByteArray} (h : tuR (gD A) A.length author t = some B) :
    okA B ∧ txt B = t ∧ (∃ C, B = A ++ C) ∧ (txt A = t → B = A) := by
  cases hG : tuG (gD A) A.length author t with
  | false => rw [tuR_no hG] at h; cases h
  | true =>
    rw [tuR_yes hG, listD_gD] at h
    have hok : okA A := by
      unfold tuG at hG
      simp only [Bool.and_eq_true] at hG
      exact hG.1.1
    change itW author t (tuM (txt A) t) (cb (txt A) t) (itD author (cb (txt A) t) (tuN (txt A) t) A) = some B at h
    have hb := cb_le (txt A) t
    have he := ce_le (txt A) t (cb (txt A) t)
    have h1 : (bl (txt A)).take (cb (txt A) t) = (bl t).take (cb (txt A) t) := cbF_same _ 0 rfl
    have h2 : (bl (txt A)).drop ((txt A).size - ce (txt A) t (cb (txt A) t)) = (bl t).drop (t.size - ce (txt A) t (cb (txt A) t)) := by
      refine ceF_same _ 0 ?_
      rw [Nat.sub_zero, Nat.sub_zero, List.drop_of_length_le (by rw [bl_len]; exact Nat.le_refl _), List.drop_of_length_le (by rw [bl_len]; exact Nat.le_refl _)]
    have hself : txt A = t → cb (txt A) t = (txt A).size ∧ (txt A).size = t.size := fun e => by
      subst e
      exact ⟨cbF_self _ 0 rfl, rfl⟩
    obtain ⟨n, hn⟩ : ∃ n, n = tuN (txt A) t := ⟨_, rfl⟩
    obtain ⟨m, hm⟩ : ∃ m, m = tuM (txt A) t := ⟨_, rfl⟩
    rw [← hn, ← hm] at h
    unfold tuN at hn
    unfold tuM at hm
    generalize hbb : cb (txt A) t = b at *
    generalize hee : ce (txt A) t b = e at *
    cases hD : itD author (b : Int) n A with
    | none =>
      rw [hD] at h
      cases h
    | some B1 =>
      rw [hD] at h
      obtain ⟨o1, ⟨C1, rfl, hC1⟩, ht1⟩ := itD_text n A B1 hok (by omega) hD
      have hl1 : (txt (A ++ C1)).size = b + e := by
        rw [← bl_len, ht1, List.length_append, List.length_take, List.length_drop, bl_len]
        omega
      obtain ⟨o2, ⟨C2, rfl, hC2⟩, ht2⟩ := itI_text m b (A ++ C1) B o1 (by omega) (by omega) h
      refine ⟨o2, bl_inj ?_, ⟨C1 ++ C2, by simp⟩, fun ee => ?_⟩
      · have hd := cut_drop (M := (bl (txt A)).drop (b + n)) (k := 0) (show b ≤ (bl (txt A)).length by rw [bl_len]; omega)
        rw [Nat.add_zero, List.drop_zero] at hd
        rw [ht2, ht1, cut_take (by rw [bl_len]; omega), hd, h1, show b + n = (txt A).size - e by omega, h2, show t.size - e = b + m by omega, ← List.drop_drop, List.append_assoc, List.take_append_drop, List.take_append_drop]
      · obtain ⟨q1, q2⟩ := hself ee
        have z1 : C1 = [] := List.eq_nil_of_length_eq_zero (by omega)
        have z2 : C2 = [] := List.eq_nil_of_length_eq_zero (by omega)
        rw [z1, z2, List.append_nil, List.append_nil]
theorem itD_good {author : Int} {b : Int} : ∀ (k : Nat) (A B : List Ev), Good A → itD author b k A = some B → Good B := by
  intro k
  induction k with
  | zero => intro A B h hs; obtain rfl := Option.some.inj (show some A = some B from hs); exact h
  | succ k ih =>
    intro A B h hs
    cases h1 : stD author b A with
    | none => rw [itD_no h1] at hs; cases hs
    | some B1 =>
      rw [itD_yes h1] at hs
      exact ih B1 B (stD_some h h1).1 hs
theorem itI_good {author : Int} {t : ByteArray} (ht : t.size ≤ 100) : ∀ (k i : Nat) (A B : List Ev), Good A → itI author t k i A = some B → Good B := by
  intro k
  induction k with
  | zero => intro i A B h hs; obtain rfl := Option.some.inj (show some A = some B from hs); exact h
  | succ k ih =>
    intro i A B h hs
    cases h1 : stI author i (t.extract i (i + 1)) A with
    | none => rw [itI_no h1] at hs; cases hs
    | some B1 =>
      rw [itI_yes h1] at hs
      exact ih (i + 1) B1 B (stI_some (by rw [ByteArray.size_extract]; omega) h h1).1 hs
theorem tu_good {A B : List Ev} {author : Int} {t : ByteArray} (hA : Good A) (ht : t.size ≤ 100) (h : tuR (gD A) A.length author t = some B) : Good B := by
  cases hG : tuG (gD A) A.length author t with
  | false => rw [tuR_no hG] at h; cases h
  | true =>
    rw [tuR_yes hG, listD_gD] at h
    cases hD : itD author (cb (textR (gD A) A.length) t) (tuN (textR (gD A) A.length) t) A with
    | none => rw [hD] at h; cases h
    | some B1 =>
      rw [hD] at h
      exact itI_good ht _ _ B1 B (itD_good _ A B1 hA hD) h
end Go.Proofs.Ytjfciokpnhnhbaa

namespace Go.Proofs.Ytjfciokpnhnhbaa
open Go.RowKit
set_option linter.unusedVariables false

/-- two slices are one, or lie apart -/
def Sib (v u : Value) (A U : List Ev) : Prop := (v = u ∧ A = U) ∨ ∀ k, u.ownBlock = some k → v.ownBlock ≠ some k
theorem Sib.symm {v u : Value} {A U : List Ev} (h : Sib v u A U) : Sib u v U A := by
  rcases h with ⟨rfl, rfl⟩ | h
  · exact .inl ⟨rfl, rfl⟩
  · exact .inr (fun k hk e => h k e hk)
/-- two drawn sequences, under way -/
structure PairSt (W : World) (a : Option Addr) (len cap R base : Nat) (w0 w : World) (v : Value) (A : List Ev) (u : Value) (U : List Ev) : Prop where
  own : OwnN w base v A
  good : Good A
  ok : seqB (gD A) A.length = true
  draw : Draw W a len cap R w
  mt : Mut R w0 w
  ownU : OwnN w base u U
  goodU : Good U
  okU : seqB (gD U) U.length = true
  sib : Sib v u A U
  lt : R < base
  bas : base ≤ w.heap.size
theorem PairSt.step {W : World} {a : Option Addr} {len cap R base : Nat} {w0 w w' : World} {v u : Value} {A U : List Ev} (h : PairSt W a len cap R base w0 w v A u U) (hM : Mut R w w') (hD : Draw W a len cap R w') : PairSt W a len cap R base w0 w' v A u U :=
  ⟨h.own.mut hM h.lt, h.good, h.ok, hD, h.mt.trans hM, h.ownU.mut hM h.lt, h.goodU, h.okU, h.sib, h.lt, Nat.le_trans h.bas hM.size⟩
theorem PairSt.below {W : World} {a : Option Addr} {len cap R base : Nat} {w0 w w' : World} {v u : Value} {A U : List Ev} (h : PairSt W a len cap R base w0 w v A u U) (hB : Below w.heap.size w w') : PairSt W a len cap R base w0 w' v A u U := h.step (Mut.of_below hB) (h.draw.below hB)
theorem PairSt.next {W : World} {a : Option Addr} {len cap R base : Nat} {w0 w w' : World} {v v' u : Value} {A B U : List Ev} (h : PairSt W a len cap R base w0 w v A u U) (hB : Below w.heap.size w w') (hO : OwnV w' w.heap.size v' B) (hne : B ≠ []) (hG : Good B) (hs : seqB (gD B) B.length = true) : PairSt W a len cap R base w0 w' v' B u U := by
  have h' := h.below hB
  refine ⟨OwnN.of (hO.base h.bas) hne, hG, hs, h'.draw, h'.mt, h'.ownU, h.goodU, h.okU, .inr (fun k hk e => ?_), h.lt, h'.bas⟩
  have h1 := (World.ownsRow.lt h.ownU.1 k hk).2
  have h2 := (World.ownsRow.lt hO k e).1
  omega
theorem PairSt.swap {W : World} {a : Option Addr} {len cap R base : Nat} {w0 w : World} {v u : Value} {A U : List Ev} (h : PairSt W a len cap R base w0 w v A u U) : PairSt W a len cap R base w0 w u U v A :=
  ⟨h.ownU, h.goodU, h.okU, h.draw, h.mt, h.own, h.good, h.ok, h.sib.symm, h.lt, h.bas⟩

section
variable {W : World} {a : Option Addr} {len cap R : Nat} {Z : Nat → Int}

set_option maxRecDepth 10000 in
set_option maxHeartbeats 16000000 in
theorem seqs_any (hU : IsU8 W a len cap Z) (w : World) (h : Draw W a len cap R w) :
    Calls Try.prog 37 #[.pointer (some ⟨R, 0, none⟩)] w fun e w' => ∃ v A u U, e = .returned (.tuple #[u, v]) ∧ PairSt W a len cap R w.heap.size w w' v A u U := by
  have HRW : Hid (R < w.heap.size) := h.lt
  have HD0 : Hid (Draw W a len cap R w) := h
  clear h
  go_enter Try.func37, Try.ntmps37
  go_wp2_with fail
  refine (seq6_any hU w HD0.out).mono ?_
  rintro e w1 ⟨vl, U0, rfl, hO1, hG1, hs1, hD1, hM1⟩
  have HP1 : Hid (PairSt W a len cap R w.heap.size w w1 vl U0 vl U0) := ⟨hO1, hG1, hs1, hD1, hM1, hO1, hG1, hs1, .inl ⟨rfl, rfl⟩, HRW.out, hM1.size⟩
  clear hO1 hG1 hs1 hD1 hM1
  go_wp2_with fail
  refine (below_any hU 5 (by omega) (by omega) w1 HP1.out.draw).mono ?_
  rintro e w1' ⟨y, hy0, hy1, rfl, hD1, hM1⟩
  obtain ⟨n, rfl⟩ : ∃ n : Nat, y = (n : Int) := ⟨y.toNat, by omega⟩
  have hn : n ≤ 5 := by omega
  have HP1' : Hid (PairSt W a len cap R w.heap.size w w1' vl U0 vl U0) := HP1.out.step hM1 hD1
  clear hD1 hM1 hy0 hy1 HP1
  go_wp2
  go_loopw [5, 7] (fun v i wr => ∃ (k : Nat) (A : List Ev) (v' : Value), k ≤ 5 ∧ i = .int .i64 k ∧ v' = v ∧ Hid (PairSt W a len cap R w.heap.size w wr v' A vl U0)) (fun _ i _ => (Go.RowKit.intOf i).toNat)
  case atStart => exact ⟨n, U0, _, hn, rfl, rfl, HP1'.out⟩
  case round =>
    obtain ⟨k1, A, v, hk, rfl, rfl, HI⟩ := hrel
    by_cases hlt : 0 < k1
    · obtain ⟨k, rfl⟩ : ∃ k, k1 = k + 1 := ⟨k1 - 1, by omega⟩
      obtain ⟨va, vc, hv, hE⟩ := HI.out.own.evs
      have HIS : Hid (∀ w', OwnN w' w.heap.size (.slice va A.length vc) A → IsEvs w' va A.length vc (gD A)) := fun w' ho => by
        obtain ⟨va', vc', e, hE'⟩ := ho.evs
        simp only [Value.slice.injEq, true_and] at e
        obtain ⟨rfl, rfl⟩ := e
        exact hE'
      subst hv
      have HIE0 : Hid (IsEvs wr va A.length vc (gD A)) := hE
      clear hE
      go_wp2_with fail
      refine (l10Ids_any va A.length vc (gD A) wr HIE0.out HI.out.ok).mono ?_
      rintro e w2 ⟨vi, rfl, hO2, hB2⟩
      obtain ⟨L, hL⟩ : ∃ L, L = idsL (gD A) A.length := ⟨_, rfl⟩
      have hL40 : L.length ≤ 40 := by rw [hL, ← idsR_yes HI.out.ok]; exact idsR_len _ _
      rw [← hL] at hO2
      obtain ⟨vb, vd, rfl⟩ := hO2.slice
      obtain ⟨m, hm⟩ : ∃ m, m = L.length := ⟨_, rfl⟩
      rw [← hm] at hL40 ⊢
      have HP2 : Hid (PairSt W a len cap R w.heap.size w w2 (.slice va A.length vc) A vl U0) := HI.out.below hB2
      clear hO2 hB2 hL hm HI HIE0
      go_wp2_with fail
      refine (belowN_any hU (m + 1) (by omega) (by omega) w2 HP2.out.draw).mono ?_
      rintro e w3 ⟨z, hz, rfl, hD3, hM3⟩
      have HP3 : Hid (PairSt W a len cap R w.heap.size w w3 (.slice va A.length vc) A vl U0) := HP2.out.step hM3 hD3
      have HL3 : Hid (R < w3.heap.size) := hD3.lt
      clear hD3 hM3 HP2
      go_wp2_with fail
      refine (below_any hU 2 (by omega) (by omega) _ (HP3.out.draw.alloc _)).mono ?_
      rintro e w4 ⟨y4, h40, h41, rfl, hD4, hM4⟩
      have hc := lit_cells hM4 HL3.out
      obtain ⟨i4, rfl⟩ : ∃ i : Nat, y4 = (i : Int) := ⟨y4.toNat, by omega⟩
      have hi4 : i4 < 2 := by omega
      have hi4I : (i4 : Int) < 2 := by omega
      obtain ⟨sg, hsg8, c4⟩ : ∃ sg : ByteArray, sg.size ≤ 8 ∧ w4.cell? ⟨w3.heap.size, i4, none⟩ = some (.string sg) := by
        have : i4 = 0 ∨ i4 = 1 := by omega
        rcases this with rfl | rfl
        · exact ⟨_, by decide, hc 0⟩
        · exact ⟨_, by decide, hc 1⟩
      have hsg : sg.size ≤ 9223372036854775807 := by omega
      have HP4 : Hid (PairSt W a len cap R w.heap.size w w4 (.slice va A.length vc) A vl U0) := HP3.out.step (((Mut.refl R w3).alloc _).trans hM4) hD4
      have HIE4 : Hid (IsEvs w4 va A.length vc (gD A)) := HIS.out w4 HP4.out.own
      clear hD4 hM4 HP3 hc h40 h41
      obtain ⟨s5, hs5⟩ : ∃ s5, s5 = okI (gD A) A.length 1 (z : Int) sg := ⟨_, rfl⟩
      obtain ⟨x5, hx5⟩ : ∃ x5 : Ev, x5 = (if s5 then opI (gD A) A.length 1 (z : Int) sg else evZ) := ⟨_, rfl⟩
      obtain ⟨B5, hB5'⟩ : ∃ B5, B5 = A ++ [opI (gD A) A.length 1 (z : Int) sg] := ⟨_, rfl⟩
      have HC5 : Hid (Calls Try.prog 19 #[.slice va A.length vc, .int .i64 1, .int .i64 (z : Int), .string sg] w4 fun e w'' => ∃ v, e = .returned (.tuple #[v, .agg #[.int .i64 x5.a, .int .i64 x5.b, .int .i64 x5.c, .string x5.d], .bool s5]) ∧ OwnV w'' w4.heap.size v (if s5 then B5 else []) ∧ Below w4.heap.size w4 w'') := by
        have := specInserted_any va A.length vc (gD A) 1 (z : Int) sg hsg w4 HIE4.out HP4.out.good.2
        rw [listD_gD] at this
        rw [hx5, hB5', hs5]
        exact this
      have HST : Hid (s5 = true → stI 1 (z : Int) sg A = some B5) := fun hs => by
        rw [hs] at hs5
        rw [hB5']
        exact stI_ok hs5.symm
      have HNE : Hid (B5 ≠ []) := by rw [hB5']; intro h; simp at h
      clear hx5 hs5 hB5' HIE4
      go_wp2_with fail
      refine HC5.out.mono ?_
      rintro e w5 ⟨v5, rfl, hO5, hB5⟩
      have HP5 : Hid (PairSt W a len cap R w.heap.size w w5 (.slice va A.length vc) A vl U0) := HP4.out.below hB5
      have HN5 : Hid (s5 = true → PairSt W a len cap R w.heap.size w w5 v5 B5 vl U0) := fun hs => by
        have hst := HST.out hs
        refine HP4.out.next hB5 ?_ HNE.out (stI_some hsg HP4.out.good hst).1 ?_
        · rw [if_pos hs] at hO5
          exact hO5
        · obtain ⟨x, hx, _, ho, _⟩ := stI_text hst
          exact ho
      clear hO5 hB5 HP4 HC5 HST HNE
      obtain ⟨w6, hw6⟩ : ∃ w6, w6 = w5.alloc (.cells #[.int .i64 x5.a, .int .i64 x5.b, .int .i64 x5.c, .string x5.d] 36) := ⟨_, rfl⟩
      have hB56 : Below w5.heap.size w5 w6 := by rw [hw6]; exact (Below.refl _ _).alloc (Nat.le_refl _) _
      have HP6 : Hid (PairSt W a len cap R w.heap.size w w6 (.slice va A.length vc) A vl U0) := HP5.out.below hB56
      have HN6 : Hid (s5 = true → PairSt W a len cap R w.heap.size w w6 v5 B5 vl U0) := fun hs => (HN5.out hs).below hB56
      have HW6 := (show Hid _ from hw6)
      clear hB56 hw6 HP5 HN5
      by_cases hm0 : 1 ≤ m
      · have hm0I : (0 : Int) < (m : Int) := by omega
        go_wp2_with fail
        rw [← HW6.out]
        refine (once_any hU 3 (by omega) (by omega) w6 HP6.out.draw).mono ?_
        rintro e w7 ⟨on, rfl, hD7, hM7⟩
        have HP7 : Hid (PairSt W a len cap R w.heap.size w w7 (.slice va A.length vc) A vl U0) := HP6.out.step hM7 hD7
        have HN7 : Hid (s5 = true → PairSt W a len cap R w.heap.size w w7 v5 B5 vl U0) := fun hs => (HN6.out hs).step hM7 hD7
        clear hD7 hM7 HP6 HN6 HW6
        cases on with
        | false =>
          cases s5 with
          | false =>
            have HR : Hid (PairSt W a len cap R w.heap.size w w7 (.slice va A.length vc) A vl U0) := HP7.out
            clear HP7 HN7
            go_wp2
            go_roundw
            case rel => exact ⟨k, A, _, by omega, by go_num, rfl, HR.out⟩
            case measure => simp [Go.RowKit.intOf]
          | true =>
            have HR : Hid (PairSt W a len cap R w.heap.size w w7 v5 B5 vl U0) := HN7.out rfl
            clear HP7 HN7
            go_wp2
            go_roundw
            case rel => exact ⟨k, B5, _, by omega, by go_num, rfl, HR.out⟩
            case measure => simp [Go.RowKit.intOf]
        | true =>
          go_wp2_with fail
          refine (belowN_any hU m hm0 (by omega) w7 HP7.out.draw).mono ?_
          rintro e w8 ⟨z2, hz2, rfl, hD8, hM8⟩
          have HP8 : Hid (PairSt W a len cap R w.heap.size w w8 (.slice va A.length vc) A vl U0) := HP7.out.step hM8 hD8
          have HIE8 : Hid (IsEvs w8 va A.length vc (gD A)) := HIS.out w8 HP8.out.own
          clear hD8 hM8 HP7 HN7
          go_wp2_with fail
          refine (specDeleted_any va A.length vc (gD A) 1 (z2 : Int) w8 HIE8.out HP8.out.good.2).mono ?_
          rintro e w9 ⟨v9, rfl, hO9, hB9⟩
          obtain ⟨x9, hx9⟩ : ∃ x9 : Value, x9 = .agg (enc4 (if okD (gD A) A.length 1 (z2 : Int) then opD (gD A) A.length 1 (z2 : Int) else evZ)).toArray := ⟨_, rfl⟩
          rw [← hx9]
          clear hx9
          obtain ⟨s9, hs9⟩ : ∃ s9, s9 = okD (gD A) A.length 1 (z2 : Int) := ⟨_, rfl⟩
          obtain ⟨B9, hB9'⟩ : ∃ B9, B9 = A ++ [opD (gD A) A.length 1 (z2 : Int)] := ⟨_, rfl⟩
          have HP9 : Hid (PairSt W a len cap R w.heap.size w w9 (.slice va A.length vc) A vl U0) := HP8.out.below hB9
          have HN9 : Hid (s9 = true → PairSt W a len cap R w.heap.size w w9 v9 B9 vl U0) := fun hs => by
            rw [hs] at hs9
            have hst := stD_ok hs9.symm
            rw [← hB9'] at hst
            refine HP8.out.next hB9 ?_ (by rw [hB9']; simp) (stD_some HP8.out.good hst).1 ?_
            · rw [if_pos hs9.symm, listD_gD, ← hB9'] at hO9
              exact hO9
            · obtain ⟨x, hx, _, ho, _⟩ := stD_text hst
              exact ho
          rw [← hs9]
          clear hO9 hB9 hs9 HP8 HIE8 hB9'
          cases s9 with
          | false =>
            have HR : Hid (PairSt W a len cap R w.heap.size w w9 (.slice va A.length vc) A vl U0) := HP9.out
            clear HP9 HN9
            go_wp2
            go_roundw
            case rel => exact ⟨k, A, _, by omega, by go_num, rfl, HR.out⟩
            case measure => simp [Go.RowKit.intOf]
          | true =>
            have HR : Hid (PairSt W a len cap R w.heap.size w w9 v9 B9 vl U0) := HN9.out rfl
            clear HP9 HN9
            go_wp2
            go_roundw
            case rel => exact ⟨k, B9, _, by omega, by go_num, rfl, HR.out⟩
            case measure => simp [Go.RowKit.intOf]
      · have hm0I : ¬ (0 : Int) < (m : Int) := by omega
        have hmz : m = 0 := by omega
        subst hmz
        cases s5 with
        | false =>
          have HR : Hid (PairSt W a len cap R w.heap.size w w6 (.slice va A.length vc) A vl U0) := HP6.out
          clear HP6 HN6
          go_wp2
          rw [← HW6.out]
          go_roundw
          case rel => exact ⟨k, A, _, by omega, by go_num, rfl, HR.out⟩
          case measure => simp [Go.RowKit.intOf]
        | true =>
          have HR : Hid (PairSt W a len cap R w.heap.size w w6 v5 B5 vl U0) := HN6.out rfl
          clear HP6 HN6
          go_wp2
          rw [← HW6.out]
          go_roundw
          case rel => exact ⟨k, B5, _, by omega, by go_num, rfl, HR.out⟩
          case measure => simp [Go.RowKit.intOf]
    · have hlt' : ¬ (0 : Int) < (k1 : Int) := by omega
      have HS : Hid (PairSt W a len cap R w.heap.size w wr vl U0 v A) := HI.out.swap
      clear HI
      go_wp2_with fail
      refine (below_any hU 5 (by omega) (by omega) wr HS.out.draw).mono ?_
      rintro e w1 ⟨y, hy0, hy1, rfl, hD1, hM1⟩
      obtain ⟨n2, rfl⟩ : ∃ n : Nat, y = (n : Int) := ⟨y.toNat, by omega⟩
      have hn2 : n2 ≤ 5 := by omega
      have HP2 : Hid (PairSt W a len cap R w.heap.size w w1 vl U0 v A) := HS.out.step hM1 hD1
      obtain ⟨u, hu⟩ : ∃ u, u = v := ⟨_, rfl⟩
      obtain ⟨U1, hU1⟩ : ∃ U1, U1 = A := ⟨_, rfl⟩
      rw [← hu, ← hU1] at HP2
      rw [← hu]
      clear hD1 hM1 hy0 hy1 HS hu hU1
      go_wp2
      go_loopw [6, 12] (fun v i wr => ∃ (k : Nat) (A : List Ev) (v' : Value), k ≤ 5 ∧ i = .int .i64 k ∧ v' = v ∧ Hid (PairSt W a len cap R w.heap.size w wr v' A u U1)) (fun _ i _ => (Go.RowKit.intOf i).toNat)
      case atStart => exact ⟨n2, U0, _, hn2, rfl, rfl, HP2.out⟩
      case round =>
        obtain ⟨k1, A, v, hk, rfl, rfl, HI⟩ := hrel
        by_cases hlt : 0 < k1
        · obtain ⟨k, rfl⟩ : ∃ k, k1 = k + 1 := ⟨k1 - 1, by omega⟩
          obtain ⟨va, vc, hv, hE⟩ := HI.out.own.evs
          have HIS : Hid (∀ w', OwnN w' w.heap.size (.slice va A.length vc) A → IsEvs w' va A.length vc (gD A)) := fun w' ho => by
            obtain ⟨va', vc', e, hE'⟩ := ho.evs
            simp only [Value.slice.injEq, true_and] at e
            obtain ⟨rfl, rfl⟩ := e
            exact hE'
          subst hv
          have HIE0 : Hid (IsEvs wr va A.length vc (gD A)) := hE
          clear hE
          go_wp2_with fail
          refine (l10Ids_any va A.length vc (gD A) wr HIE0.out HI.out.ok).mono ?_
          rintro e w2 ⟨vi, rfl, hO2, hB2⟩
          obtain ⟨L, hL⟩ : ∃ L, L = idsL (gD A) A.length := ⟨_, rfl⟩
          have hL40 : L.length ≤ 40 := by rw [hL, ← idsR_yes HI.out.ok]; exact idsR_len _ _
          rw [← hL] at hO2
          obtain ⟨vb, vd, rfl⟩ := hO2.slice
          obtain ⟨m, hm⟩ : ∃ m, m = L.length := ⟨_, rfl⟩
          rw [← hm] at hL40 ⊢
          have HP2 : Hid (PairSt W a len cap R w.heap.size w w2 (.slice va A.length vc) A u U1) := HI.out.below hB2
          clear hO2 hB2 hL hm HI HIE0
          go_wp2_with fail
          refine (belowN_any hU (m + 1) (by omega) (by omega) w2 HP2.out.draw).mono ?_
          rintro e w3 ⟨z, hz, rfl, hD3, hM3⟩
          have HP3 : Hid (PairSt W a len cap R w.heap.size w w3 (.slice va A.length vc) A u U1) := HP2.out.step hM3 hD3
          have HL3 : Hid (R < w3.heap.size) := hD3.lt
          clear hD3 hM3 HP2
          go_wp2_with fail
          refine (below_any hU 2 (by omega) (by omega) _ (HP3.out.draw.alloc _)).mono ?_
          rintro e w4 ⟨y4, h40, h41, rfl, hD4, hM4⟩
          have hc := lit_cells hM4 HL3.out
          obtain ⟨i4, rfl⟩ : ∃ i : Nat, y4 = (i : Int) := ⟨y4.toNat, by omega⟩
          have hi4 : i4 < 2 := by omega
          have hi4I : (i4 : Int) < 2 := by omega
          obtain ⟨sg, hsg8, c4⟩ : ∃ sg : ByteArray, sg.size ≤ 8 ∧ w4.cell? ⟨w3.heap.size, i4, none⟩ = some (.string sg) := by
            have : i4 = 0 ∨ i4 = 1 := by omega
            rcases this with rfl | rfl
            · exact ⟨_, by decide, hc 0⟩
            · exact ⟨_, by decide, hc 1⟩
          have hsg : sg.size ≤ 9223372036854775807 := by omega
          have HP4 : Hid (PairSt W a len cap R w.heap.size w w4 (.slice va A.length vc) A u U1) := HP3.out.step (((Mut.refl R w3).alloc _).trans hM4) hD4
          have HIE4 : Hid (IsEvs w4 va A.length vc (gD A)) := HIS.out w4 HP4.out.own
          clear hD4 hM4 HP3 hc h40 h41
          obtain ⟨s5, hs5⟩ : ∃ s5, s5 = okI (gD A) A.length 2 (z : Int) sg := ⟨_, rfl⟩
          obtain ⟨x5, hx5⟩ : ∃ x5 : Ev, x5 = (if s5 then opI (gD A) A.length 2 (z : Int) sg else evZ) := ⟨_, rfl⟩
          obtain ⟨B5, hB5'⟩ : ∃ B5, B5 = A ++ [opI (gD A) A.length 2 (z : Int) sg] := ⟨_, rfl⟩
          have HC5 : Hid (Calls Try.prog 19 #[.slice va A.length vc, .int .i64 2, .int .i64 (z : Int), .string sg] w4 fun e w'' => ∃ v, e = .returned (.tuple #[v, .agg #[.int .i64 x5.a, .int .i64 x5.b, .int .i64 x5.c, .string x5.d], .bool s5]) ∧ OwnV w'' w4.heap.size v (if s5 then B5 else []) ∧ Below w4.heap.size w4 w'') := by
            have := specInserted_any va A.length vc (gD A) 2 (z : Int) sg hsg w4 HIE4.out HP4.out.good.2
            rw [listD_gD] at this
            rw [hx5, hB5', hs5]
            exact this
          have HST : Hid (s5 = true → stI 2 (z : Int) sg A = some B5) := fun hs => by
            rw [hs] at hs5
            rw [hB5']
            exact stI_ok hs5.symm
          have HNE : Hid (B5 ≠ []) := by rw [hB5']; intro h; simp at h
          clear hx5 hs5 hB5' HIE4
          go_wp2_with fail
          refine HC5.out.mono ?_
          rintro e w5 ⟨v5, rfl, hO5, hB5⟩
          have HP5 : Hid (PairSt W a len cap R w.heap.size w w5 (.slice va A.length vc) A u U1) := HP4.out.below hB5
          have HN5 : Hid (s5 = true → PairSt W a len cap R w.heap.size w w5 v5 B5 u U1) := fun hs => by
            have hst := HST.out hs
            refine HP4.out.next hB5 ?_ HNE.out (stI_some hsg HP4.out.good hst).1 ?_
            · rw [if_pos hs] at hO5
              exact hO5
            · obtain ⟨x, hx, _, ho, _⟩ := stI_text hst
              exact ho
          clear hO5 hB5 HP4 HC5 HST HNE
          obtain ⟨w6, hw6⟩ : ∃ w6, w6 = w5.alloc (.cells #[.int .i64 x5.a, .int .i64 x5.b, .int .i64 x5.c, .string x5.d] 36) := ⟨_, rfl⟩
          have hB56 : Below w5.heap.size w5 w6 := by rw [hw6]; exact (Below.refl _ _).alloc (Nat.le_refl _) _
          have HP6 : Hid (PairSt W a len cap R w.heap.size w w6 (.slice va A.length vc) A u U1) := HP5.out.below hB56
          have HN6 : Hid (s5 = true → PairSt W a len cap R w.heap.size w w6 v5 B5 u U1) := fun hs => (HN5.out hs).below hB56
          have HW6 := (show Hid _ from hw6)
          clear hB56 hw6 HP5 HN5
          by_cases hm0 : 1 ≤ m
          · have hm0I : (0 : Int) < (m : Int) := by omega
            go_wp2_with fail
            rw [← HW6.out]
            refine (once_any hU 3 (by omega) (by omega) w6 HP6.out.draw).mono ?_
            rintro e w7 ⟨on, rfl, hD7, hM7⟩
            have HP7 : Hid (PairSt W a len cap R w.heap.size w w7 (.slice va A.length vc) A u U1) := HP6.out.step hM7 hD7
            have HN7 : Hid (s5 = true → PairSt W a len cap R w.heap.size w w7 v5 B5 u U1) := fun hs => (HN6.out hs).step hM7 hD7
            clear hD7 hM7 HP6 HN6 HW6
            cases on with
            | false =>
              cases s5 with
              | false =>
                have HR : Hid (PairSt W a len cap R w.heap.size w w7 (.slice va A.length vc) A u U1) := HP7.out
                clear HP7 HN7
                go_wp2
                go_roundw
                case rel => exact ⟨k, A, _, by omega, by go_num, rfl, HR.out⟩
                case measure => simp [Go.RowKit.intOf]
              | true =>
                have HR : Hid (PairSt W a len cap R w.heap.size w w7 v5 B5 u U1) := HN7.out rfl
                clear HP7 HN7
                go_wp2
                go_roundw
                case rel => exact ⟨k, B5, _, by omega, by go_num, rfl, HR.out⟩
                case measure => simp [Go.RowKit.intOf]
            | true =>
              go_wp2_with fail
              refine (belowN_any hU m hm0 (by omega) w7 HP7.out.draw).mono ?_
              rintro e w8 ⟨z2, hz2, rfl, hD8, hM8⟩
              have HP8 : Hid (PairSt W a len cap R w.heap.size w w8 (.slice va A.length vc) A u U1) := HP7.out.step hM8 hD8
              have HIE8 : Hid (IsEvs w8 va A.length vc (gD A)) := HIS.out w8 HP8.out.own
              clear hD8 hM8 HP7 HN7
              go_wp2_with fail
              refine (specDeleted_any va A.length vc (gD A) 2 (z2 : Int) w8 HIE8.out HP8.out.good.2).mono ?_
              rintro e w9 ⟨v9, rfl, hO9, hB9⟩
              obtain ⟨x9, hx9⟩ : ∃ x9 : Value, x9 = .agg (enc4 (if okD (gD A) A.length 2 (z2 : Int) then opD (gD A) A.length 2 (z2 : Int) else evZ)).toArray := ⟨_, rfl⟩
              rw [← hx9]
              clear hx9
              obtain ⟨s9, hs9⟩ : ∃ s9, s9 = okD (gD A) A.length 2 (z2 : Int) := ⟨_, rfl⟩
              obtain ⟨B9, hB9'⟩ : ∃ B9, B9 = A ++ [opD (gD A) A.length 2 (z2 : Int)] := ⟨_, rfl⟩
              have HP9 : Hid (PairSt W a len cap R w.heap.size w w9 (.slice va A.length vc) A u U1) := HP8.out.below hB9
              have HN9 : Hid (s9 = true → PairSt W a len cap R w.heap.size w w9 v9 B9 u U1) := fun hs => by
                rw [hs] at hs9
                have hst := stD_ok hs9.symm
                rw [← hB9'] at hst
                refine HP8.out.next hB9 ?_ (by rw [hB9']; simp) (stD_some HP8.out.good hst).1 ?_
                · rw [if_pos hs9.symm, listD_gD, ← hB9'] at hO9
                  exact hO9
                · obtain ⟨x, hx, _, ho, _⟩ := stD_text hst
                  exact ho
              rw [← hs9]
              clear hO9 hB9 hs9 HP8 HIE8 hB9'
              cases s9 with
              | false =>
                have HR : Hid (PairSt W a len cap R w.heap.size w w9 (.slice va A.length vc) A u U1) := HP9.out
                clear HP9 HN9
                go_wp2
                go_roundw
                case rel => exact ⟨k, A, _, by omega, by go_num, rfl, HR.out⟩
                case measure => simp [Go.RowKit.intOf]
              | true =>
                have HR : Hid (PairSt W a len cap R w.heap.size w w9 v9 B9 u U1) := HN9.out rfl
                clear HP9 HN9
                go_wp2
                go_roundw
                case rel => exact ⟨k, B9, _, by omega, by go_num, rfl, HR.out⟩
                case measure => simp [Go.RowKit.intOf]
          · have hm0I : ¬ (0 : Int) < (m : Int) := by omega
            have hmz : m = 0 := by omega
            subst hmz
            cases s5 with
            | false =>
              have HR : Hid (PairSt W a len cap R w.heap.size w w6 (.slice va A.length vc) A u U1) := HP6.out
              clear HP6 HN6
              go_wp2
              rw [← HW6.out]
              go_roundw
              case rel => exact ⟨k, A, _, by omega, by go_num, rfl, HR.out⟩
              case measure => simp [Go.RowKit.intOf]
            | true =>
              have HR : Hid (PairSt W a len cap R w.heap.size w w6 v5 B5 u U1) := HN6.out rfl
              clear HP6 HN6
              go_wp2
              rw [← HW6.out]
              go_roundw
              case rel => exact ⟨k, B5, _, by omega, by go_num, rfl, HR.out⟩
              case measure => simp [Go.RowKit.intOf]
        · have hlt' : ¬ (0 : Int) < (k1 : Int) := by omega
          go_wp2
          go_ret2
          exact ⟨v, A, u, rfl, U1, HI.out⟩

theorem cells_set1 (L : List Ev) (k t : Nat) (u : Value) (x : Ev) (hk : k < L.length) (ht : t < 4) (hx : enc4 x = (enc4 (L.getD k evZ)).set t u) : (cellsL L).set (k * 4 + t) u = cellsL (L.set k x) := by
  have hcl := cellsL_len L
  apply List.ext_getElem?
  intro j
  by_cases hj : j < L.length * 4
  · obtain ⟨i, s, hs, rfl⟩ : ∃ i s, s < 4 ∧ j = i * 4 + s := ⟨j / 4, j % 4, Nat.mod_lt _ (by decide), by omega⟩
    rw [cellsL_at (L.set k x) i s hs (by rw [List.length_set]; omega)]
    by_cases hik : i = k
    · subst hik
      have e : (L.set i x).getD i evZ = x := by simp [List.getD_eq_getElem?_getD, hk]
      rw [e, hx]
      by_cases hst : s = t
      · subst hst
        rw [List.getElem?_set_self (by omega), List.getElem?_set_self (by show s < 4; exact hs)]
      · rw [List.getElem?_set_ne (by omega), List.getElem?_set_ne (fun h => hst h.symm), cellsL_at L i s hs hk]
    · have e : (L.set k x).getD i evZ = L.getD i evZ := by simp [List.getD_eq_getElem?_getD, List.getElem?_set_ne (Ne.symm hik)]
      rw [e, List.getElem?_set_ne (by omega), cellsL_at L i s hs (by omega)]
  · rw [List.getElem?_eq_none (by simp; omega), List.getElem?_eq_none (by rw [cellsL_len, List.length_set]; omega)]
theorem OwnV.put {w : World} {base g n cap : Nat} {L : List Ev} (h : OwnV w base (.slice (some ⟨g, 0, none⟩) n cap) L) {k t : Nat} {u : Value} {x : Ev} (hk : k < L.length) (ht : t < 4) (hx : enc4 x = (enc4 (L.getD k evZ)).set t u) :
    OwnV (w.setCell ⟨g, k * 4 + t, none⟩ u) base (.slice (some ⟨g, 0, none⟩) n cap) (L.set k x) := by
  obtain ⟨h1, h2⟩ := h
  refine ⟨?_, ?_⟩
  · rw [cellsL_len]
  · rcases h2 with ⟨h', _⟩ | ⟨g', cap', cur, h', hb, hh, hnc, hcm, hcs, hct⟩
    · simp at h'
    · simp only [Value.slice.injEq, Option.some.injEq, Addr.mk.injEq, and_true] at h'
      obtain ⟨rfl, hn, rfl⟩ := h'
      refine .inr ⟨g, cap, cur.setIfInBounds (k * 4 + t) u, ?_, hb, setCell_heap hh, ?_, hcm, ?_, ?_⟩
      · rw [List.length_set, hn]
      · rw [List.length_set]; exact hnc
      · rw [Array.size_setIfInBounds]; exact hcs
      · rw [List.length_set, Array.toList_setIfInBounds, List.take_set, hct]
        exact cells_set1 L k t u x hk ht hx
theorem OwnV.froz {w : World} {base g n cap : Nat} {L : List Ev} (h : OwnV w base (.slice (some ⟨g, 0, none⟩) n cap) L) (j : Nat) : w.frozen? ⟨g, j, none⟩ = false := by
  rcases h.2 with ⟨h', _⟩ | ⟨g', cap', cur, h', hb, hh, _⟩
  · simp at h'
  · simp only [Value.slice.injEq, Option.some.injEq, Addr.mk.injEq, and_true] at h'
    obtain ⟨rfl, _, _⟩ := h'
    exact Lib.frozen_of_heap hh j
def InA (A : List Ev) : Prop := ∀ i, i < A.length → (gD A i).in
theorem InA.put {A : List Ev} (h : InA A) {k : Nat} {x : Ev} (hx : x.in) : InA (A.set k x) := by
  intro i hi
  rw [List.length_set] at hi
  unfold gD
  by_cases e : i = k
  · subst e
    have : (A.set i x).getD i evZ = x := by simp [List.getD_eq_getElem?_getD, hi]
    rw [this]
    exact hx
  · have : (A.set k x).getD i evZ = A.getD i evZ := by simp [List.getD_eq_getElem?_getD, List.getElem?_set_ne (Ne.symm e)]
    rw [this]
    exact h i hi
/-- two slices that read, not nil, short -/
def TwoSq (w : World) (base : Nat) (u v : Value) (U A : List Ev) : Prop := OwnN w base u U ∧ OwnN w base v A ∧ InA U ∧ InA A ∧ U.length ≤ 40 ∧ A.length ≤ 40

set_option maxRecDepth 10000 in
set_option maxHeartbeats 4000000 in
theorem drawMerged_any (W : World) (hU : IsU8 W a len cap Z) :
    Calls Try.prog 13 #[.slice a len cap] W fun e w' => ∃ u v U A, e = .returned (.tuple #[u, v]) ∧ TwoSq w' W.heap.size u v U A ∧ Below W.heap.size W w' := by
  go_enter Try.func13, Try.ntmps13
  go_wp2_with fail
  refine (open_any a len cap W).mono ?_
  rintro e w1 ⟨rfl, hD1⟩
  go_wp2_with fail
  refine (seqs_any hU w1 hD1).mono ?_
  rintro e w2 ⟨v, A, u, U, rfl, hP2⟩
  have HR : Hid (W.heap.size < w1.heap.size) := hD1.lt
  have HP2 : Hid (PairSt W a len cap W.heap.size w1.heap.size w1 w2 v A u U) := hP2
  clear hD1 hP2
  go_wp2_with fail
  refine (once_any hU 20 (by omega) (by omega) w2 HP2.out.draw).mono ?_
  rintro e w3 ⟨on, rfl, hD3, hM3⟩
  have HP3 : Hid (PairSt W a len cap W.heap.size w1.heap.size w1 w3 v A u U) := HP2.out.step hM3 hD3
  clear hD3 hM3 HP2
  obtain ⟨g, vc, hv, hOE⟩ := HP3.out.own.lies
  obtain ⟨n, hn⟩ : ∃ n, n = A.length := ⟨_, rfl⟩
  have HN := (show Hid _ from hn)
  have hn40 : n ≤ 40 := by rw [hn]; exact HP3.out.good.1
  rw [← hn] at hv
  clear hn hOE
  subst hv
  have HT3 : Hid (TwoSq w3 W.heap.size u (.slice (some ⟨g, 0, none⟩) n vc) U A ∧ Below W.heap.size W w3) := ⟨⟨HP3.out.ownU.base (Nat.le_of_lt HR.out), HP3.out.own.base (Nat.le_of_lt HR.out), HP3.out.goodU.2, HP3.out.good.2, HP3.out.goodU.1, HP3.out.good.1⟩, HP3.out.draw.bel⟩
  cases on with
  | false =>
    go_wp2
    go_ret2
    exact ⟨_, _, U, A, rfl, HT3.out.1, HT3.out.2⟩
  | true =>
    by_cases h0 : 1 ≤ n
    · have h0I : (0 : Int) < (n : Int) := by omega
      obtain ⟨k, rfl⟩ : ∃ k, n = k + 1 := ⟨n - 1, by omega⟩
      go_wp2_with fail
      refine (off190_any hU w3 HP3.out.draw).mono ?_
      rintro e w5 ⟨z, hz0, hz1, rfl, hD5, hM5⟩
      have HP5 : Hid (PairSt W a len cap W.heap.size w1.heap.size w1 w5 (.slice (some ⟨g, 0, none⟩) (k + 1) vc) A u U) := HP3.out.step hM5 hD5
      clear hD5 hM5 HP3 HT3
      obtain ⟨x, hx⟩ : ∃ x : Ev, x = { gD A k with a := z } := ⟨_, rfl⟩
      have HF : Hid (∃ U', TwoSq (w5.setCell ⟨g, k * 4, none⟩ (.int .i64 z)) W.heap.size u (.slice (some ⟨g, 0, none⟩) (k + 1) vc) U' (A.set k x) ∧ Below W.heap.size W (w5.setCell ⟨g, k * 4, none⟩ (.int .i64 z))) := by
        have hkA : k < A.length := by rw [← HN.out]; omega
        have hgw := (World.ownsRow.lt HP5.out.own.1 g rfl).1
        have hR := HR.out
        have hB : Below W.heap.size W (w5.setCell ⟨g, k * 4, none⟩ (.int .i64 z)) := HP5.out.draw.bel.setCell (show W.heap.size ≤ g by omega) _
        have hp : OwnN (w5.setCell ⟨g, k * 4, none⟩ (.int .i64 z)) W.heap.size (.slice (some ⟨g, 0, none⟩) (k + 1) vc) (A.set k x) := ⟨(HP5.out.own.1.put (k := k) (t := 0) (u := .int .i64 z) (x := x) hkA (by decide) (by rw [hx]; rfl)).base (Nat.le_of_lt hR), HP5.out.own.2⟩
        have hI : InA (A.set k x) := InA.put HP5.out.good.2 (by have := HP5.out.good.2 k hkA; rw [hx]; exact this)
        have hl : (A.set k x).length ≤ 40 := by rw [List.length_set]; exact HP5.out.good.1
        rcases HP5.out.sib with ⟨e1, e2⟩ | hs
        · refine ⟨A.set k x, ⟨?_, hp, hI, hI, hl, hl⟩, hB⟩
          rw [← e1]
          exact hp
        · refine ⟨U, ⟨?_, hp, HP5.out.goodU.2, hI, HP5.out.goodU.1, hl⟩, hB⟩
          refine (HP5.out.ownU.base (Nat.le_of_lt hR)).at (fun q hq => ?_)
          exact Below.heap_setCell _ _ _ _ (fun e => hs q hq (by rw [e]; rfl))
      have hck : w5.cell? ⟨g, k * 4, none⟩ = some (.int .i64 (A.getD k evZ).a) := by
        have hO := HP5.out.own.1
        rw [HN.out] at hO
        have := (OwnE.lies (show OwnE w5 w1.heap.size g vc A from hO)).1 k (by rw [← HN.out]; omega)
        rw [Nat.zero_add] at this
        exact this.c0
      have hfz : w5.frozen? ⟨g, k * 4, none⟩ = false := HP5.out.own.1.froz (k * 4)
      clear HP5
      go_wp2
      go_ret2
      obtain ⟨U', h1, h2⟩ := HF.out
      exact ⟨_, _, U', _, rfl, h1, h2⟩
    · obtain rfl : n = 0 := by omega
      go_wp2
      go_ret2
      exact ⟨_, _, U, A, rfl, HT3.out.1, HT3.out.2⟩
end
end Go.Proofs.Ytjfciokpnhnhbaa
