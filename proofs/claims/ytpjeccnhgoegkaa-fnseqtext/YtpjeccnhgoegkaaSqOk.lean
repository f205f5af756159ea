/-
  spec's DrawSeqOk and DrawSeqText: a drawn sequence, right or not. No condition but that the code reads.
-/
import Derived.Test.YtpjeccnhgoegkaaSqSe
import Derived.Test.YtpjeccnhgoegkaaSqOf
import Derived.BigQuiet
namespace Go.Proofs.Ytpjeccnhgoegkaa
open Go.RowKit
set_option linter.unusedVariables false

theorem cells_set1 (L : List Ev) (k t : Nat) (u : Value) (x : Ev) (hk : k < L.length) (ht : t < 4) (hx : enc4 x = (enc4 (L.getD k evZ)).set t u) : (cellsL L).set (k * 4 + t) u = cellsL (L.set k x) := by
  have hcl := cellsL_len L
  apply List.ext_getElem?
  intro j
  by_cases hj : j < L.length * 4
  · obtain ⟨i, s, hs, rfl⟩ : ∃ i s, s < 4 ∧ j = i * 4 + s := ⟨j / 4, j % 4, Nat.mod_lt _ (by decide), by omega⟩
    rw [cellsL_at (L.set k x) i s hs (by rw [List.length_set]; omega)]
    by_cases hik : i = k
    · subst hik
      have e : (L.set i x).getD i evZ = x := by simp [List.getD_eq_getElem?_getD, hk]
      rw [e, hx]
      by_cases hst : s = t
      · subst hst
        rw [List.getElem?_set_self (by omega), List.getElem?_set_self (by show s < 4; exact hs)]
      · rw [List.getElem?_set_ne (by omega), List.getElem?_set_ne (fun h => hst h.symm), cellsL_at L i s hs hk]
    · have e : (L.set k x).getD i evZ = L.getD i evZ := by simp [List.getD_eq_getElem?_getD, List.getElem?_set_ne (Ne.symm hik)]
      rw [e, List.getElem?_set_ne (by omega), cellsL_at L i s hs (by omega)]
  · rw [List.getElem?_eq_none (by simp; omega), List.getElem?_eq_none (by rw [cellsL_len, List.length_set]; omega)]
theorem OwnV.put {w : World} {base g n cap : Nat} {L : List Ev} (h : OwnV w base (.slice (some ⟨g, 0, none⟩) n cap) L) {k t : Nat} {u : Value} {x : Ev} (hk : k < L.length) (ht : t < 4) (hx : enc4 x = (enc4 (L.getD k evZ)).set t u) :
    OwnV (w.setCell ⟨g, k * 4 + t, none⟩ u) base (.slice (some ⟨g, 0, none⟩) n cap) (L.set k x) := by
  obtain ⟨h1, h2⟩ := h
  refine ⟨?_, ?_⟩
  · rw [cellsL_len]
  · rcases h2 with ⟨h', _⟩ | ⟨g', cap', cur, h', hb, hh, hnc, hcm, hcs, hct⟩
    · simp at h'
    · simp only [Value.slice.injEq, Option.some.injEq, Addr.mk.injEq, and_true] at h'
      obtain ⟨rfl, hn, rfl⟩ := h'
      refine .inr ⟨g, cap, cur.setIfInBounds (k * 4 + t) u, ?_, hb, setCell_heap hh, ?_, hcm, ?_, ?_⟩
      · rw [List.length_set, hn]
      · rw [List.length_set]; exact hnc
      · rw [Array.size_setIfInBounds]; exact hcs
      · rw [List.length_set, Array.toList_setIfInBounds, List.take_set, hct]
        exact cells_set1 L k t u x hk ht hx
theorem OwnV.froz {w : World} {base g n cap : Nat} {L : List Ev} (h : OwnV w base (.slice (some ⟨g, 0, none⟩) n cap) L) (j : Nat) : w.frozen? ⟨g, j, none⟩ = false := by
  rcases h.2 with ⟨h', _⟩ | ⟨g', cap', cur, h', hb, hh, _⟩
  · simp at h'
  · simp only [Value.slice.injEq, Option.some.injEq, Addr.mk.injEq, and_true] at h'
    obtain ⟨rfl, _, _⟩ := h'
    exact Lib.frozen_of_heap hh j
theorem wf64 {z : Int} (h : -9223372036854775808 ≤ z) (h' : z ≤ 9223372036854775807) : (Lit.int .i64 z).wf = true := by
  have e1 : IntKind.i64.min = -9223372036854775808 := by decide
  have e2 : IntKind.i64.max = 9223372036854775807 := by decide
  simp [Lit.wf, e1, e2]
  omega
def InA (A : List Ev) : Prop := ∀ i, i < A.length → (gD A i).in
theorem InA.put {A : List Ev} (h : InA A) {k : Nat} {x : Ev} (hx : x.in) : InA (A.set k x) := by
  intro i hi
  rw [List.length_set] at hi
  unfold gD
  by_cases e : i = k
  · subst e
    have : (A.set i x).getD i evZ = x := by simp [List.getD_eq_getElem?_getD, hi]
    rw [this]
    exact hx
  · have : (A.set k x).getD i evZ = A.getD i evZ := by simp [List.getD_eq_getElem?_getD, List.getElem?_set_ne (Ne.symm e)]
    rw [this]
    exact h i hi
theorem InA.two {A : List Ev} (h : InA A) : InA (A ++ A) := by
  intro i hi
  rw [List.length_append] at hi
  unfold gD
  by_cases e : i < A.length
  · have : (A ++ A).getD i evZ = A.getD i evZ := by rw [List.getD_eq_getElem?_getD, List.getElem?_append_left e, ← List.getD_eq_getElem?_getD]
    rw [this]
    exact h i e
  · have : (A ++ A).getD i evZ = A.getD (i - A.length) evZ := by rw [List.getD_eq_getElem?_getD, List.getElem?_append_right (by omega), ← List.getD_eq_getElem?_getD]
    rw [this]
    exact h _ (by omega)

set_option maxRecDepth 10000 in
set_option maxHeartbeats 4000000 in
theorem drawOk_any {a : Option Addr} {len cap : Nat} {Z : Nat → Int} (W : World) (hU : IsU8 W a len cap Z) :
    Calls Try.prog 36 #[.slice a len cap] W fun e w' => ∃ v A, e = .returned v ∧ OwnV w' W.heap.size v A ∧ InA A ∧ A.length ≤ 80 ∧ Below W.heap.size W w' := by
  go_enter Try.func36, Try.ntmps36
  go_wp2_with fail
  refine (open_any a len cap W).mono ?_
  rintro e w1 ⟨rfl, hD1⟩
  go_wp2_with fail
  refine (seq_any hU w1 hD1).mono ?_
  rintro e w2 ⟨v, A, rfl, hO2, hG, hs, hD2, hM2⟩
  have HR : Hid (W.heap.size < w1.heap.size) := hD1.lt
  have HG : Hid (Good A) := hG
  have HX2 : Hid (OwnV w2 w1.heap.size v A ∧ Draw W a len cap W.heap.size w2) := ⟨hO2, hD2⟩
  clear hD1 hO2 hG hs hD2 hM2
  go_wp2_with fail
  refine (below_any hU 12 (by omega) (by omega) w2 HX2.out.2).mono ?_
  rintro e w3 ⟨y, hy0, hy1, rfl, hD3, hM3⟩
  have HX3 : Hid (OwnV w3 w1.heap.size v A ∧ Draw W a len cap W.heap.size w3) := ⟨HX2.out.1.mut hM3 HR.out, hD3⟩
  have HXE : Hid (OwnV w3 W.heap.size v A ∧ InA A ∧ A.length ≤ 80 ∧ Below W.heap.size W w3) := ⟨HX3.out.1.base (Nat.le_of_lt HR.out), HG.out.2, by have := HG.out.1; omega, HX3.out.2.bel⟩
  clear hD3 hM3 HX2
  obtain ⟨va, vc, hv, hE⟩ := HX3.out.1.evs
  have hAl : A.length ≤ 40 := HG.out.1
  obtain ⟨n, hn⟩ : ∃ n, n = A.length := ⟨_, rfl⟩
  have HN : Hid (n = A.length) := hn
  rw [← hn] at hv hAl
  clear hn hE
  have hy : y = 9 ∨ y = 10 ∨ y = 11 ∨ (y ≠ 9 ∧ y ≠ 10 ∧ y ≠ 11) := by omega
  rcases hy with rfl | rfl | rfl | ⟨n9, n10, n11⟩
  · by_cases h0 : 1 ≤ n
    · have h0I : (0 : Int) < (n : Int) := by omega
      obtain ⟨g, rfl⟩ : ∃ g, va = some ⟨g, 0, none⟩ := by
        rcases HX3.out.1.cases with ⟨e, e2⟩ | ⟨g, c, e, _⟩
        · have := HN.out
          rw [e2] at this
          simp at this
          omega
        · rw [hv] at e
          simp only [Value.slice.injEq] at e
          exact ⟨g, e.1⟩
      subst hv
      go_wp2_with fail
      refine (belowN_any hU n h0 (by omega) w3 HX3.out.2).mono ?_
      rintro e w4 ⟨k, hk, rfl, hD4, hM4⟩
      have HX4 : Hid (OwnV w4 w1.heap.size (.slice (some ⟨g, 0, none⟩) n vc) A ∧ Draw W a len cap W.heap.size w4) := ⟨HX3.out.1.mut hM4 HR.out, hD4⟩
      clear hD4 hM4 HX3 HXE
      go_wp2_with fail
      refine (off040_any hU w4 HX4.out.2).mono ?_
      rintro e w5 ⟨z, hz0, hz1, rfl, hD5, hM5⟩
      have HX5 : Hid (OwnV w5 w1.heap.size (.slice (some ⟨g, 0, none⟩) n vc) A ∧ Below W.heap.size W w5) := ⟨HX4.out.1.mut hM5 HR.out, hD5.bel⟩
      clear hD5 hM5 HX4
      obtain ⟨x, hx⟩ : ∃ x : Ev, x = { gD A k with c := z } := ⟨_, rfl⟩
      have HF : Hid (OwnV (w5.setCell ⟨g, k * 4 + 2, none⟩ (.int .i64 z)) W.heap.size (.slice (some ⟨g, 0, none⟩) n vc) (A.set k x) ∧ InA (A.set k x) ∧ (A.set k x).length ≤ 80 ∧ Below W.heap.size W (w5.setCell ⟨g, k * 4 + 2, none⟩ (.int .i64 z))) := by
        have hkA : k < A.length := by rw [← HN.out]; exact hk
        refine ⟨(HX5.out.1.put hkA (by decide) (by rw [hx]; rfl)).base (Nat.le_of_lt HR.out), InA.put HG.out.2 ?_, by rw [List.length_set, ← HN.out]; omega, HX5.out.2.setCell ?_ _⟩
        · have := HG.out.2 k hkA
          rw [hx]
          exact ⟨this.1, wf64 hz0 hz1⟩
        · have := (World.ownsRow.lt HX5.out.1 g rfl).1
          have := HR.out
          show W.heap.size ≤ g
          omega
      have hck : w5.cell? ⟨g, k * 4 + 2, none⟩ = some (.int .i64 (A.getD k evZ).c) := by
        have := (OwnE.lies (show OwnE w5 w1.heap.size g vc A by rw [HN.out] at HX5; exact HX5.out.1)).1 k (by rw [← HN.out]; exact hk)
        rw [Nat.zero_add] at this
        exact this.c2
      have hkI : (k : Int) < (n : Int) := by omega
      have hfz : w5.frozen? ⟨g, k * 4 + 2, none⟩ = false := HX5.out.1.froz (k * 4 + 2)
      clear HX5
      go_wp2
      go_ret
      exact ⟨_, _, rfl, HF.out⟩
    · obtain rfl : n = 0 := by omega
      subst hv
      go_wp2
      go_ret
      exact ⟨_, A, rfl, HXE.out⟩
  · by_cases h0 : 1 ≤ n
    · have h0I : (0 : Int) < (n : Int) := by omega
      obtain ⟨g, rfl⟩ : ∃ g, va = some ⟨g, 0, none⟩ := by
        rcases HX3.out.1.cases with ⟨e, e2⟩ | ⟨g, c, e, _⟩
        · have := HN.out
          rw [e2] at this
          simp at this
          omega
        · rw [hv] at e
          simp only [Value.slice.injEq] at e
          exact ⟨g, e.1⟩
      subst hv
      go_wp2_with fail
      refine (off12_any hU w3 HX3.out.2).mono ?_
      rintro e w5 ⟨z, hz0, hz1, rfl, hD5, hM5⟩
      have HX5 : Hid (OwnV w5 w1.heap.size (.slice (some ⟨g, 0, none⟩) n vc) A ∧ Below W.heap.size W w5) := ⟨HX3.out.1.mut hM5 HR.out, hD5.bel⟩
      clear hD5 hM5 HX3 HXE
      obtain ⟨x, hx⟩ : ∃ x : Ev, x = { gD A 0 with b := z } := ⟨_, rfl⟩
      have HF : Hid (OwnV (w5.setCell ⟨g, 1, none⟩ (.int .i64 z)) W.heap.size (.slice (some ⟨g, 0, none⟩) n vc) (A.set 0 x) ∧ InA (A.set 0 x) ∧ (A.set 0 x).length ≤ 80 ∧ Below W.heap.size W (w5.setCell ⟨g, 1, none⟩ (.int .i64 z))) := by
        have hkA : 0 < A.length := by rw [← HN.out]; omega
        have hp := HX5.out.1.put (k := 0) (t := 1) (u := .int .i64 z) (x := x) hkA (by decide) (by rw [hx]; rfl)
        refine ⟨hp.base (Nat.le_of_lt HR.out), InA.put HG.out.2 ?_, by rw [List.length_set, ← HN.out]; omega, HX5.out.2.setCell ?_ _⟩
        · have := HG.out.2 0 hkA
          rw [hx]
          exact this
        · have := (World.ownsRow.lt HX5.out.1 g rfl).1
          have := HR.out
          show W.heap.size ≤ g
          omega
      have hck : w5.cell? ⟨g, 1, none⟩ = some (.int .i64 (A.getD 0 evZ).b) := by
        have := (OwnE.lies (show OwnE w5 w1.heap.size g vc A by rw [HN.out] at HX5; exact HX5.out.1)).1 0 (by rw [← HN.out]; omega)
        exact this.c1
      have hfz : w5.frozen? ⟨g, 1, none⟩ = false := HX5.out.1.froz 1
      clear HX5
      go_wp2
      go_ret
      exact ⟨_, _, rfl, HF.out⟩
    · obtain rfl : n = 0 := by omega
      subst hv
      go_wp2
      go_ret
      exact ⟨_, A, rfl, HXE.out⟩
  · obtain ⟨i0, hi, hz0, hz1, hz2⟩ := info_parts infoE
    rcases HX3.out.1.cases with ⟨e, e2⟩ | ⟨g, c, e, _⟩
    · have hn0 := HN.out
      rw [e2] at hn0
      obtain rfl : n = 0 := hn0
      rw [e] at hv
      subst e
      clear hv
      go_wp2
      go_ret
      exact ⟨_, A, rfl, HXE.out⟩
    · subst hv
      simp only [Value.slice.injEq] at e
      obtain ⟨rfl, hnn, rfl⟩ := e
      clear hnn
      have HO : Hid (w3.ownsRow w1.heap.size 28 4 (.slice (some ⟨g, 0, none⟩) n vc) n (cellsL A)) := by
        have := HX3.out.1
        unfold OwnV at this
        rw [← HN.out] at this
        exact this
      have HW : Hid (Lies w3 g 0 A) := (OwnE.lies (show OwnE w3 w1.heap.size g vc A by rw [HN.out] at HX3; exact HX3.out.1)).1
      have k1 : n + n ≤ maxLen := by unfold maxLen; omega
      have k2 : (n + n) * 40 ≤ 140737488355328 := by omega
      have HS : Hid (w1.heap.size ≤ w3.heap.size) := by have := World.ownsRow.lt HO.out g rfl; show _ ≤ _; omega
      go_wp2_with (at_builtin; refine wpList_append_own _ rfl _ _ 24 rfl w1.heap.size 28 i0 (.agg #[.int .i64 0, .int .i64 0, .int .i64 0, .string ⟨#[]⟩]) 4 40 Try.underlying24 hi hz0 hz1 hz2 rfl (by decide) _ n (cellsL A) rfl HO.out ⟨g, 0, none⟩ n vc (cellsL A) rfl (by rw [cellsL_len, ← HN.out]) HW.out.news (oneL _) k1 k2 HS.out ?_; intro v3 w4 hown hgrow _)
      have hF : OwnV w4 W.heap.size v3 (A ++ A) ∧ InA (A ++ A) ∧ (A ++ A).length ≤ 80 ∧ Below W.heap.size W w4 := by
        refine ⟨OwnV.base (base := w1.heap.size) ?_ (Nat.le_of_lt HR.out), InA.two HG.out.2, by rw [List.length_append, ← HN.out]; omega, HX3.out.2.bel.grown hgrow HX3.out.2.bel.size (fun x hx => ?_)⟩
        · unfold OwnV
          rw [cellsL_append, List.length_append, ← HN.out]
          exact hown
        · have := (World.ownsRow.lt HO.out x hx).1
          have := HR.out
          omega
      go_ret
      exact ⟨_, _, rfl, hF⟩
  · have m9 : ((y : Int) == 9) = false := by simpa using n9
    have m10 : ((y : Int) == 10) = false := by simpa using n10
    have m11 : ((y : Int) == 11) = false := by simpa using n11
    subst hv
    go_wp2
    go_ret
    exact ⟨_, A, rfl, HXE.out⟩
end Go.Proofs.Ytpjeccnhgoegkaa
