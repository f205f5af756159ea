/-
  spec.DrawSeqInserted. No condition but that the code reads.
-/
import Derived.Test.YtpjeccnhgoegkaaSqOi
namespace Go.Proofs.Ytpjeccnhgoegkaa
open Go.RowKit
set_option linter.unusedVariables false
set_option linter.unusedSimpArgs false

def dsJa : List Nat := [14, 15, 16, 17, 18, 19, 20, 21, 22, 23, 2, 3, 4, 5]
def slotJa (j : Nat) : Nat := dsJa.getD j 0
theorem slotJa_inj (i j : Nat) (hi : i < 14) (hj : j < 14) (q : slotJa i = slotJa j) : i = j := by
  have h : ∀ i : Fin 14, ∀ j : Fin 14, slotJa i.val = slotJa j.val → i.val = j.val := by decide
  exact h ⟨i, hi⟩ ⟨j, hj⟩ q
theorem slotJa_mem (i : Nat) (hi : i < 14) : slotJa i ∈ dsJa := by
  have h : ∀ i : Fin 14, slotJa i.val ∈ dsJa := by decide
  exact h ⟨i, hi⟩
def dsJb : List Nat := [24, 25, 26, 27, 28, 29, 30, 31, 32, 33, 34, 35, 36, 37, 38, 2, 3, 4, 5]
def slotJb (j : Nat) : Nat := dsJb.getD j 0
theorem slotJb_inj (i j : Nat) (hi : i < 19) (hj : j < 19) (q : slotJb i = slotJb j) : i = j := by
  have h : ∀ i : Fin 19, ∀ j : Fin 19, slotJb i.val = slotJb j.val → i.val = j.val := by decide
  exact h ⟨i, hi⟩ ⟨j, hj⟩ q
theorem slotJb_mem (i : Nat) (hi : i < 19) : slotJb i ∈ dsJb := by
  have h : ∀ i : Fin 19, slotJb i.val ∈ dsJb := by decide
  exact h ⟨i, hi⟩

set_option maxRecDepth 10000 in
set_option maxHeartbeats 4000000 in
theorem drawInserted_any {a : Option Addr} {len cap : Nat} {Z : Nat → Int} (W : World) (hU : IsU8 W a len cap Z) :
    Calls Try.prog 13 #[.slice a len cap] W fun e w' => ∃ v A author z, ∃ sg : ByteArray, e = .returned (.tuple #[v, .int .i64 author, .int .i64 z, .string sg]) ∧ sg.size ≤ 8 ∧ OwnV w' W.heap.size v A ∧ Good A ∧ Below W.heap.size W w' := by
  go_enter Try.func13, Try.ntmps13
  go_wp2_with fail
  refine (open_any a len cap W).mono ?_
  rintro e w1 ⟨rfl, hD1⟩
  go_wp2_with fail
  refine (seq_any hU w1 hD1).mono ?_
  rintro e w2 ⟨v, A, rfl, hO2, hG, hs, hD2, hM2⟩
  have HR : Hid (W.heap.size < w1.heap.size) := hD1.lt
  have HG : Hid (Good A ∧ seqB (gD A) A.length = true) := ⟨hG, hs⟩
  have HX2 : Hid (OwnV w2 w1.heap.size v A ∧ Draw W a len cap W.heap.size w2) := ⟨hO2, hD2⟩
  clear hD1 hO2 hG hs hD2 hM2
  go_wp2_with fail
  refine (once_any hU 8 (by omega) (by omega) w2 HX2.out.2).mono ?_
  rintro e w3 ⟨on, rfl, hD3, hM3⟩
  have HX3' : Hid (OwnV w3 w1.heap.size v A ∧ Draw W a len cap W.heap.size w3) := ⟨HX2.out.1.mut hM3 HR.out, hD3⟩
  clear hD3 hM3 HX2
  obtain ⟨va, vc, hv, _⟩ := HX3'.out.1.evs
  subst hv
  have HX3 := HX3'
  clear HX3'
  have HIS : Hid (∀ w', OwnV w' w1.heap.size (.slice va A.length vc) A → IsEvs w' va A.length vc (gD A)) := fun w' ho => by
    obtain ⟨va', vc', e, hE'⟩ := ho.evs
    simp only [Value.slice.injEq, true_and] at e
    obtain ⟨rfl, rfl⟩ := e
    exact hE'
  cases on with
  | true =>
    go_wp2
    refine wp_cut_to (fun a0 t w' => ∃ f, t = canon a0 dsJa f ∧ f 2 = (.slice va A.length vc) ∧ (∃ z : Int, f 3 = .int .i64 z) ∧ (∃ z : Int, f 4 = .int .i64 z) ∧ (∃ sg : ByteArray, sg.size ≤ 8 ∧ f 5 = .string sg) ∧ Draw W a len cap W.heap.size w' ∧ OwnV w' w1.heap.size (.slice va A.length vc) A) ?_ ?_
    rotate_left
    · intro J K' hJ hK
      refine wp_letter ?_
      intro fr hfr
      have hsz : 23 < fr.tmps.size := by rw [hfr]; exact Nat.le_of_ble_eq_true rfl
      have t7 : fr.eval (.tmp 7) = (.slice va A.length vc) := by rw [hfr]; rfl
      have t6 : fr.eval (.tmp 6) = .pointer (some ⟨W.heap.size, 0, none⟩) := by rw [hfr]; rfl
      have HFR := (show Hid _ from hfr)
      clear hfr
      refine wp_region_use (by kernel_rfl) (by kernel_rfl) dsJa slotJa (IaF W.heap.size (.slice va A.length vc)) (fun w => Draw W a len cap W.heap.size w ∧ OwnV w w1.heap.size (.slice va A.length vc) A) (fun _ _ => false) ⟨HX3.out.2.drewN 1, HX3.out.1.below ((Below.refl _ _).drew)⟩ ?_ ?_ ?_ ?_ ?_
      · intro j f f' wy hj he h
        match j, hj with
        | 0, _ =>
          have e0 : f 14 = f' 14 := he 0 (by kernel_rfl)
          simp only [IaF, e0] at h ⊢
          exact h
        | 1, _ =>
          have e1 : f 15 = f' 15 := he 1 (by kernel_rfl)
          simp only [IaF, e1] at h ⊢
          exact h
        | 2, _ =>
          have e2 : f 16 = f' 16 := he 2 (by kernel_rfl)
          simp only [IaF, e2] at h ⊢
          exact h
        | 3, _ =>
          have e3 : f 17 = f' 17 := he 3 (by kernel_rfl)
          simp only [IaF, e3] at h ⊢
          exact h
        | 4, _ =>
          have e4 : f 18 = f' 18 := he 4 (by kernel_rfl)
          simp only [IaF, e4] at h ⊢
          exact h
        | 5, _ =>
          have e5 : f 19 = f' 19 := he 5 (by kernel_rfl)
          simp only [IaF, e5] at h ⊢
          exact h
        | 6, _ =>
          have e6 : f 20 = f' 20 := he 6 (by kernel_rfl)
          simp only [IaF, e6] at h ⊢
          exact h
        | 7, _ =>
          have e7 : f 21 = f' 21 := he 7 (by kernel_rfl)
          simp only [IaF, e7] at h ⊢
          exact h
        | 8, _ =>
          have e8 : f 22 = f' 22 := he 8 (by kernel_rfl)
          simp only [IaF, e8] at h ⊢
          exact h
        | 9, _ =>
          have e9 : f 23 = f' 23 := he 9 (by kernel_rfl)
          simp only [IaF, e9] at h ⊢
          exact h
        | 10, _ =>
          have e10 : f 2 = f' 2 := he 10 (by kernel_rfl)
          simp only [IaF, e10] at h ⊢
          exact h
        | 11, _ =>
          have e11 : f 3 = f' 3 := he 11 (by kernel_rfl)
          simp only [IaF, e11] at h ⊢
          exact h
        | 12, _ =>
          have e12 : f 4 = f' 4 := he 12 (by kernel_rfl)
          simp only [IaF, e12] at h ⊢
          exact h
        | 13, _ =>
          have e13 : f 5 = f' 5 := he 13 (by kernel_rfl)
          simp only [IaF, e13] at h ⊢
          exact h
      · intro i hi
        exact slotJa_mem i hi
      · intro i j hi hj q
        exact slotJa_inj i j hi hj q
      · intro ops hops done f wy j oo hG ho hdn hcl hd hF
        have ho2 := ho
        rw [hops] at ho
        have hj : j < 14 := by
          rcases Nat.lt_or_ge j 14 with h | h
          · exact h
          · rw [Array.getElem?_eq_none (by simpa using h)] at ho; cases ho
        have N7 := (canon_eval_ne fr dsJa f 7 (by decide)).trans t7
        have N6 := (canon_eval_ne fr dsJa f 6 (by decide)).trans t6
        have C14 := canon_eval fr dsJa f 14 (by decide) (Nat.lt_of_le_of_lt (by decide) hsz)
        have C15 := canon_eval fr dsJa f 15 (by decide) (Nat.lt_of_le_of_lt (by decide) hsz)
        have C16 := canon_eval fr dsJa f 16 (by decide) (Nat.lt_of_le_of_lt (by decide) hsz)
        have C17 := canon_eval fr dsJa f 17 (by decide) (Nat.lt_of_le_of_lt (by decide) hsz)
        have C18 := canon_eval fr dsJa f 18 (by decide) (Nat.lt_of_le_of_lt (by decide) hsz)
        have C19 := canon_eval fr dsJa f 19 (by decide) (Nat.lt_of_le_of_lt (by decide) hsz)
        have C20 := canon_eval fr dsJa f 20 (by decide) (Nat.lt_of_le_of_lt (by decide) hsz)
        have C21 := canon_eval fr dsJa f 21 (by decide) (Nat.lt_of_le_of_lt (by decide) hsz)
        have C22 := canon_eval fr dsJa f 22 (by decide) (Nat.lt_of_le_of_lt (by decide) hsz)
        have C23 := canon_eval fr dsJa f 23 (by decide) (Nat.lt_of_le_of_lt (by decide) hsz)
        have C2 := canon_eval fr dsJa f 2 (by decide) (Nat.lt_of_le_of_lt (by decide) hsz)
        have C3 := canon_eval fr dsJa f 3 (by decide) (Nat.lt_of_le_of_lt (by decide) hsz)
        have C4 := canon_eval fr dsJa f 4 (by decide) (Nat.lt_of_le_of_lt (by decide) hsz)
        have C5 := canon_eval fr dsJa f 5 (by decide) (Nat.lt_of_le_of_lt (by decide) hsz)
        have hj' : j = 0 ∨ j = 1 ∨ j = 2 ∨ j = 3 ∨ j = 4 ∨ j = 5 ∨ j = 6 ∨ j = 7 ∨ j = 8 ∨ j = 9 ∨ j = 10 ∨ j = 11 ∨ j = 12 ∨ j = 13 := by omega
        rcases hj' with rfl | rfl | rfl | rfl | rfl | rfl | rfl | rfl | rfl | rfl | rfl | rfl | rfl | rfl <;> simp only [List.getElem?_toArray, List.getElem?_cons_succ, List.getElem?_cons_zero, Option.some.injEq] at ho <;> subst ho
        · refine wpOp_runG ho2 (wanted_none rfl) (q_moveE (canon fr dsJa f).eval _ wy _ rfl) ?_
          exact ⟨_, rfl, (upd_same f 14 _).trans N7, hG, fun j _ _ _ _ _ h => h⟩
        · refine wpOp_runG ho2 (wanted_none rfl) (q_moveE (canon fr dsJa f).eval _ wy _ rfl) ?_
          exact ⟨_, rfl, (upd_same f 15 _).trans N6, hG, fun j _ _ _ _ _ h => h⟩
        · refine wpOp_enterG ho2 (wanted_none rfl) (q_call3E (canon fr dsJa f).eval _ wy _ enters_off _ _ _ _ rfl rfl) ?_
          rw [C15.trans (hF ⟨1, .data⟩ (by simp) rfl (fun k _ hdk => (show k ≠ 2 by rintro rfl; rw [hdn] at hdk; cases hdk) |> fun hk => by simp [useA, useS, hk]))]
          refine (off19_any hU wy hG.1).mono ?_
          rintro e wv ⟨z, _, _, rfl, hD, hM⟩
          exact ⟨_, rfl, _, rfl, ⟨z, upd_same f 16 _⟩, ⟨hD, hG.2.mut hM HR.out⟩, fun j _ _ _ _ _ h => h.mut hM⟩
        · refine wpOp_runG ho2 (wanted_none rfl) (q_moveE (canon fr dsJa f).eval _ wy _ rfl) ?_
          exact ⟨_, rfl, (upd_same f 17 _).trans N6, hG, fun j _ _ _ _ _ h => h⟩
        · refine wpOp_enterG ho2 (wanted_none rfl) (q_call3E (canon fr dsJa f).eval _ wy _ enters_off _ _ _ _ rfl rfl) ?_
          rw [C17.trans (hF ⟨3, .data⟩ (by simp) rfl (fun k _ hdk => (show k ≠ 4 by rintro rfl; rw [hdn] at hdk; cases hdk) |> fun hk => by simp [useA, useS, hk]))]
          refine (off03_any hU wy hG.1).mono ?_
          rintro e wv ⟨z, _, _, rfl, hD, hM⟩
          exact ⟨_, rfl, _, rfl, ⟨z, upd_same f 18 _⟩, ⟨hD, hG.2.mut hM HR.out⟩, fun j _ _ _ _ _ h => h.mut hM⟩
        · refine wpOp_runG ho2 (wanted_none rfl) (q_lit4S (canon fr dsJa f).eval _ wy _ _ _ _ _ _ _ _ rfl rfl rfl rfl rfl) ?_
          refine ⟨_, rfl, ?_, ⟨hG.1.alloc _, hG.2.below ((Below.refl _ _).alloc (Nat.le_refl _) _)⟩, fun j _ _ _ _ _ h => h.mut ((Mut.refl W.heap.size wy).alloc _)⟩
          refine ⟨wy.heap.size, upd_same f 19 _, by have := hG.1.lt; omega, fun i hi => ?_⟩
          have hi' : i = 0 ∨ i = 1 ∨ i = 2 ∨ i = 3 := by omega
          rcases hi' with rfl | rfl | rfl | rfl
          · exact ⟨_, by decide, cellN (heap_alloc_new wy _)⟩
          · exact ⟨_, by decide, cellN (heap_alloc_new wy _)⟩
          · exact ⟨_, by decide, cellN (heap_alloc_new wy _)⟩
          · exact ⟨_, by decide, cellN (heap_alloc_new wy _)⟩
        · refine wpOp_runG ho2 (wanted_none rfl) (q_moveE (canon fr dsJa f).eval _ wy _ rfl) ?_
          exact ⟨_, rfl, (upd_same f 20 _).trans N6, hG, fun j _ _ _ _ _ h => h⟩
        · refine wpOp_enterG ho2 (wanted_none rfl) (q_call2E (canon fr dsJa f).eval _ wy _ enters_below _ _ _ rfl rfl) ?_
          rw [C20.trans (hF ⟨6, .data⟩ (by simp) rfl (fun k _ hdk => (show k ≠ 7 by rintro rfl; rw [hdn] at hdk; cases hdk) |> fun hk => by simp [useA, useS, hk]))]
          refine (below_any hU 4 (by omega) (by omega) wy hG.1).mono ?_
          rintro e wv ⟨z, h0, h1, rfl, hD, hM⟩
          exact ⟨_, rfl, _, rfl, ⟨z.toNat, by omega, (upd_same f 21 _).trans (by rw [Int.toNat_of_nonneg h0])⟩, ⟨hD, hG.2.mut hM HR.out⟩, fun j _ _ _ _ _ h => h.mut hM⟩
        · obtain ⟨g, eg, hgR, hc⟩ := (hF ⟨5, .data⟩ (by simp) rfl (fun k _ hdk => (show k ≠ 8 by rintro rfl; rw [hdn] at hdk; cases hdk) |> fun hk => by simp [useA, useS, hk]))
          obtain ⟨i, hi, ei⟩ := (hF ⟨7, .data⟩ (by simp) rfl (fun k _ hdk => (show k ≠ 8 by rintro rfl; rw [hdn] at hdk; cases hdk) |> fun hk => by simp [useA, useS, hk]))
          obtain ⟨sg, h8, hcc⟩ := hc i hi
          refine wpOp_runG ho2 (wanted_none rfl) (q_idxSE (canon fr dsJa f).eval _ wy _ _ g 4 4 i rfl (C19.trans eg) (C21.trans ei) hi) ?_
          exact ⟨_, rfl, ⟨g, i, sg, upd_same f 22 _, hgR, h8, hcc⟩, hG, fun j _ _ _ _ _ h => h⟩
        · obtain ⟨g, i, sg, eg, hgR, h8, hcc⟩ := (hF ⟨8, .data⟩ (by simp) rfl (fun k _ hdk => (show k ≠ 9 by rintro rfl; rw [hdn] at hdk; cases hdk) |> fun hk => by simp [useA, useS, hk]))
          refine wpOp_runG ho2 (wanted_none rfl) (q_loadSE (canon fr dsJa f).eval _ wy _ g i sg rfl (C22.trans eg) hcc) ?_
          exact ⟨_, rfl, ⟨sg, h8, upd_same f 23 _⟩, hG, fun j _ _ _ _ _ h => h⟩
        · refine wpOp_runG ho2 (wanted_none rfl) (q_assignE (canon fr dsJa f).eval _ wy _ rfl) ?_
          exact ⟨_, rfl, (upd_same f 2 _).trans (C14.trans (hF ⟨0, .data⟩ (by simp) rfl (fun k _ hdk => (show k ≠ 10 by rintro rfl; rw [hdn] at hdk; cases hdk) |> fun hk => by simp [useA, useS, hk]))), hG, fun j _ _ _ _ _ h => h⟩
        · refine wpOp_runG ho2 (wanted_none rfl) (q_assignE (canon fr dsJa f).eval _ wy _ rfl) ?_
          obtain ⟨z, hz⟩ := (hF ⟨2, .data⟩ (by simp) rfl (fun k _ hdk => (show k ≠ 11 by rintro rfl; rw [hdn] at hdk; cases hdk) |> fun hk => by simp [useA, useS, hk]))
          exact ⟨_, rfl, ⟨z, (upd_same f 3 _).trans (C16.trans hz)⟩, hG, fun j _ _ _ _ _ h => h⟩
        · refine wpOp_runG ho2 (wanted_none rfl) (q_assignE (canon fr dsJa f).eval _ wy _ rfl) ?_
          obtain ⟨z, hz⟩ := (hF ⟨4, .data⟩ (by simp) rfl (fun k _ hdk => (show k ≠ 12 by rintro rfl; rw [hdn] at hdk; cases hdk) |> fun hk => by simp [useA, useS, hk]))
          exact ⟨_, rfl, ⟨z, (upd_same f 4 _).trans (C18.trans hz)⟩, hG, fun j _ _ _ _ _ h => h⟩
        · refine wpOp_runG ho2 (wanted_none rfl) (q_assignE (canon fr dsJa f).eval _ wy _ rfl) ?_
          obtain ⟨z, h8, hz⟩ := (hF ⟨9, .data⟩ (by simp) rfl (fun k _ hdk => (show k ≠ 13 by rintro rfl; rw [hdn] at hdk; cases hdk) |> fun hk => by simp [useA, useS, hk]))
          exact ⟨_, rfl, ⟨z, h8, (upd_same f 5 _).trans (C23.trans hz)⟩, hG, fun j _ _ _ _ _ h => h⟩
      · intro f wy hG hall
        exact hK _ _ (Met.intro (hJ _ _ ⟨f, congrArg (fun z => canon z dsJa f) HFR.out, hall 10 (by decide) (fun _ _ => rfl), hall 11 (by decide) (fun _ _ => rfl), hall 12 (by decide) (fun _ _ => rfl), hall 13 (by decide) (fun _ _ => rfl), hG.1, hG.2⟩))
    rintro _ wf ⟨f, rfl, h2, ⟨au, h3⟩, ⟨z, h4⟩, ⟨sg, h8, h5⟩, hD, hO⟩
    simp only [canon, dsJa, List.foldl, Act.put, List.setIfInBounds_toArray, List.set_cons_succ, List.set_cons_zero]
    rw [h2, h3, h4, h5]
    have HF : Hid (sg.size ≤ 8 ∧ Draw W a len cap W.heap.size wf ∧ OwnV wf w1.heap.size (.slice va A.length vc) A) := ⟨h8, hD, hO⟩
    clear h2 h3 h4 h5 h8 hD hO
    go_wp2
    refine bodyPost_ret (results_4t (u := 2) (v := 3) (x := 4) (y := 5) rfl _ _) rfl ?_
    exact ⟨_, A, _, _, sg, rfl, HF.out.1, HF.out.2.2.base (Nat.le_of_lt HR.out), HG.out.1, HF.out.2.1.bel⟩
  | false =>
    go_wp2
    refine wp_cut_to (fun a0 t w' => ∃ f, t = canon a0 dsJb f ∧ f 2 = (.slice va A.length vc) ∧ (∃ z : Int, f 3 = .int .i64 z) ∧ (∃ z : Int, f 4 = .int .i64 z) ∧ (∃ sg : ByteArray, sg.size ≤ 8 ∧ f 5 = .string sg) ∧ Draw W a len cap W.heap.size w' ∧ OwnV w' w1.heap.size (.slice va A.length vc) A) ?_ ?_
    rotate_left
    · intro J K' hJ hK
      refine wp_letter ?_
      intro fr hfr
      have hsz : 38 < fr.tmps.size := by rw [hfr]; exact Nat.le_of_ble_eq_true rfl
      have t7 : fr.eval (.tmp 7) = (.slice va A.length vc) := by rw [hfr]; rfl
      have t6 : fr.eval (.tmp 6) = .pointer (some ⟨W.heap.size, 0, none⟩) := by rw [hfr]; rfl
      have HFR := (show Hid _ from hfr)
      clear hfr
      refine wp_region_use (by kernel_rfl) (by kernel_rfl) dsJb slotJb (IbF W.heap.size (.slice va A.length vc)) (fun w => Draw W a len cap W.heap.size w ∧ OwnV w w1.heap.size (.slice va A.length vc) A) (fun _ _ => false) ⟨HX3.out.2.drewN 1, HX3.out.1.below ((Below.refl _ _).drew)⟩ ?_ ?_ ?_ ?_ ?_
      · intro j f f' wy hj he h
        match j, hj with
        | 0, _ =>
          have e0 : f 24 = f' 24 := he 0 (by kernel_rfl)
          simp only [IbF, e0] at h ⊢
          exact h
        | 1, _ =>
          have e1 : f 25 = f' 25 := he 1 (by kernel_rfl)
          simp only [IbF, e1] at h ⊢
          exact h
        | 2, _ =>
          have e2 : f 26 = f' 26 := he 2 (by kernel_rfl)
          simp only [IbF, e2] at h ⊢
          exact h
        | 3, _ =>
          have e3 : f 27 = f' 27 := he 3 (by kernel_rfl)
          simp only [IbF, e3] at h ⊢
          exact h
        | 4, _ =>
          have e4 : f 28 = f' 28 := he 4 (by kernel_rfl)
          simp only [IbF, e4] at h ⊢
          exact h
        | 5, _ =>
          have e5 : f 29 = f' 29 := he 5 (by kernel_rfl)
          simp only [IbF, e5] at h ⊢
          exact h
        | 6, _ =>
          have e6 : f 30 = f' 30 := he 6 (by kernel_rfl)
          simp only [IbF, e6] at h ⊢
          exact h
        | 7, _ =>
          have e7 : f 31 = f' 31 := he 7 (by kernel_rfl)
          simp only [IbF, e7] at h ⊢
          exact h
        | 8, _ =>
          have e8 : f 32 = f' 32 := he 8 (by kernel_rfl)
          simp only [IbF, e8] at h ⊢
          exact h
        | 9, _ =>
          have e9 : f 33 = f' 33 := he 9 (by kernel_rfl)
          simp only [IbF, e9] at h ⊢
          exact h
        | 10, _ =>
          have e10 : f 34 = f' 34 := he 10 (by kernel_rfl)
          simp only [IbF, e10] at h ⊢
          exact h
        | 11, _ =>
          have e11 : f 35 = f' 35 := he 11 (by kernel_rfl)
          simp only [IbF, e11] at h ⊢
          exact h
        | 12, _ =>
          have e12 : f 36 = f' 36 := he 12 (by kernel_rfl)
          simp only [IbF, e12] at h ⊢
          exact h
        | 13, _ =>
          have e13 : f 37 = f' 37 := he 13 (by kernel_rfl)
          simp only [IbF, e13] at h ⊢
          exact h
        | 14, _ =>
          have e14 : f 38 = f' 38 := he 14 (by kernel_rfl)
          simp only [IbF, e14] at h ⊢
          exact h
        | 15, _ =>
          have e15 : f 2 = f' 2 := he 15 (by kernel_rfl)
          simp only [IbF, e15] at h ⊢
          exact h
        | 16, _ =>
          have e16 : f 3 = f' 3 := he 16 (by kernel_rfl)
          simp only [IbF, e16] at h ⊢
          exact h
        | 17, _ =>
          have e17 : f 4 = f' 4 := he 17 (by kernel_rfl)
          simp only [IbF, e17] at h ⊢
          exact h
        | 18, _ =>
          have e18 : f 5 = f' 5 := he 18 (by kernel_rfl)
          simp only [IbF, e18] at h ⊢
          exact h
        | (m + 19), hj => exact absurd (show m + 19 < 19 from hj) (by omega)
      · intro i hi
        exact slotJb_mem i hi
      · intro i j hi hj q
        exact slotJb_inj i j hi hj q
      · intro ops hops done f wy j oo hG ho hdn hcl hd hF
        have ho2 := ho
        rw [hops] at ho
        have hj : j < 19 := by
          rcases Nat.lt_or_ge j 19 with h | h
          · exact h
          · rw [Array.getElem?_eq_none (by simpa using h)] at ho; cases ho
        have N7 := (canon_eval_ne fr dsJb f 7 (by decide)).trans t7
        have N6 := (canon_eval_ne fr dsJb f 6 (by decide)).trans t6
        have C24 := canon_eval fr dsJb f 24 (by decide) (Nat.lt_of_le_of_lt (by decide) hsz)
        have C25 := canon_eval fr dsJb f 25 (by decide) (Nat.lt_of_le_of_lt (by decide) hsz)
        have C26 := canon_eval fr dsJb f 26 (by decide) (Nat.lt_of_le_of_lt (by decide) hsz)
        have C27 := canon_eval fr dsJb f 27 (by decide) (Nat.lt_of_le_of_lt (by decide) hsz)
        have C28 := canon_eval fr dsJb f 28 (by decide) (Nat.lt_of_le_of_lt (by decide) hsz)
        have C29 := canon_eval fr dsJb f 29 (by decide) (Nat.lt_of_le_of_lt (by decide) hsz)
        have C30 := canon_eval fr dsJb f 30 (by decide) (Nat.lt_of_le_of_lt (by decide) hsz)
        have C31 := canon_eval fr dsJb f 31 (by decide) (Nat.lt_of_le_of_lt (by decide) hsz)
        have C32 := canon_eval fr dsJb f 32 (by decide) (Nat.lt_of_le_of_lt (by decide) hsz)
        have C33 := canon_eval fr dsJb f 33 (by decide) (Nat.lt_of_le_of_lt (by decide) hsz)
        have C34 := canon_eval fr dsJb f 34 (by decide) (Nat.lt_of_le_of_lt (by decide) hsz)
        have C35 := canon_eval fr dsJb f 35 (by decide) (Nat.lt_of_le_of_lt (by decide) hsz)
        have C36 := canon_eval fr dsJb f 36 (by decide) (Nat.lt_of_le_of_lt (by decide) hsz)
        have C37 := canon_eval fr dsJb f 37 (by decide) (Nat.lt_of_le_of_lt (by decide) hsz)
        have C38 := canon_eval fr dsJb f 38 (by decide) (Nat.lt_of_le_of_lt (by decide) hsz)
        have C2 := canon_eval fr dsJb f 2 (by decide) (Nat.lt_of_le_of_lt (by decide) hsz)
        have C3 := canon_eval fr dsJb f 3 (by decide) (Nat.lt_of_le_of_lt (by decide) hsz)
        have C4 := canon_eval fr dsJb f 4 (by decide) (Nat.lt_of_le_of_lt (by decide) hsz)
        have C5 := canon_eval fr dsJb f 5 (by decide) (Nat.lt_of_le_of_lt (by decide) hsz)
        have hj' : j = 0 ∨ j = 1 ∨ j = 2 ∨ j = 3 ∨ j = 4 ∨ j = 5 ∨ j = 6 ∨ j = 7 ∨ j = 8 ∨ j = 9 ∨ j = 10 ∨ j = 11 ∨ j = 12 ∨ j = 13 ∨ j = 14 ∨ j = 15 ∨ j = 16 ∨ j = 17 ∨ j = 18 := by omega
        rcases hj' with rfl | rfl | rfl | rfl | rfl | rfl | rfl | rfl | rfl | rfl | rfl | rfl | rfl | rfl | rfl | rfl | rfl | rfl | rfl <;> simp only [List.getElem?_toArray, List.getElem?_cons_succ, List.getElem?_cons_zero, Option.some.injEq] at ho <;> subst ho
        · refine wpOp_runG ho2 (wanted_none rfl) (q_moveE (canon fr dsJb f).eval _ wy _ rfl) ?_
          exact ⟨_, rfl, (upd_same f 24 _).trans N7, hG, fun j _ _ _ _ _ h => h⟩
        · refine wpOp_runG ho2 (wanted_none rfl) (q_moveE (canon fr dsJb f).eval _ wy _ rfl) ?_
          exact ⟨_, rfl, (upd_same f 25 _).trans N6, hG, fun j _ _ _ _ _ h => h⟩
        · refine wpOp_enterG ho2 (wanted_none rfl) (q_call2E (canon fr dsJb f).eval _ wy _ enters_below _ _ _ rfl rfl) ?_
          rw [C25.trans (hF ⟨1, .data⟩ (by simp) rfl (fun k _ hdk => (show k ≠ 2 by rintro rfl; rw [hdn] at hdk; cases hdk) |> fun hk => by simp [useA, useS, hk]))]
          refine (below_any hU 4 (by omega) (by omega) wy hG.1).mono ?_
          rintro e wv ⟨z, h0, h1, rfl, hD, hM⟩
          exact ⟨_, rfl, _, rfl, ⟨z, upd_same f 26 _⟩, ⟨hD, hG.2.mut hM HR.out⟩, fun j _ _ _ _ _ h => h.mut hM⟩
        · obtain ⟨z, hz⟩ := (hF ⟨2, .data⟩ (by simp) rfl (fun k _ hdk => (show k ≠ 3 by rintro rfl; rw [hdn] at hdk; cases hdk) |> fun hk => by simp [useA, useS, hk]))
          refine wpOp_runG ho2 (wanted_none rfl) (q_addE (canon fr dsJb f).eval _ wy _ _ 1 z rfl rfl (C26.trans hz)) ?_
          exact ⟨_, rfl, ⟨_, upd_same f 27 _⟩, hG, fun j _ _ _ _ _ h => h⟩
        · refine wpOp_runG ho2 (wanted_none rfl) (q_moveE (canon fr dsJb f).eval _ wy _ rfl) ?_
          exact ⟨_, rfl, (upd_same f 28 _).trans N6, hG, fun j _ _ _ _ _ h => h⟩
        · refine wpOp_runG ho2 (wanted_none rfl) (q_moveE (canon fr dsJb f).eval _ wy _ rfl) ?_
          exact ⟨_, rfl, (upd_same f 29 _).trans N7, hG, fun j _ _ _ _ _ h => h⟩
        · refine wpOp_enterG ho2 (wanted_none rfl) (q_callE (canon fr dsJb f).eval _ wy _ enters_ids _ _ rfl rfl) ?_
          rw [C29.trans (hF ⟨5, .data⟩ (by simp) rfl (fun k _ hdk => (show k ≠ 6 by rintro rfl; rw [hdn] at hdk; cases hdk) |> fun hk => by simp [useA, useS, hk]))]
          refine (l10Ids_any va A.length vc (gD A) wy (HIS.out wy hG.2) HG.out.2).mono ?_
          rintro e wv ⟨vi, rfl, hO, hB⟩
          obtain ⟨vb, vd, rfl⟩ := hO.slice
          exact ⟨_, rfl, _, rfl, ⟨vb, _, vd, by rw [← idsR_yes HG.out.2]; exact idsR_len _ _, upd_same f 30 _⟩, ⟨hG.1.below hB, hG.2.below hB⟩, fun j _ _ _ _ _ h => h.mut (Mut.of_below hB)⟩
        · obtain ⟨vb, n, c, hn, hz⟩ := (hF ⟨6, .data⟩ (by simp) rfl (fun k _ hdk => (show k ≠ 7 by rintro rfl; rw [hdn] at hdk; cases hdk) |> fun hk => by simp [useA, useS, hk]))
          refine wpOp_runG ho2 (wanted_none rfl) (q_lenI (canon fr dsJb f).eval _ wy _ vb n c rfl (C30.trans hz)) ?_
          exact ⟨_, rfl, ⟨n, hn, upd_same f 31 _⟩, hG, fun j _ _ _ _ _ h => h⟩
        · obtain ⟨n, hn, hz⟩ := (hF ⟨7, .data⟩ (by simp) rfl (fun k _ hdk => (show k ≠ 8 by rintro rfl; rw [hdn] at hdk; cases hdk) |> fun hk => by simp [useA, useS, hk]))
          refine wpOp_runG ho2 (wanted_none rfl) (q_addE (canon fr dsJb f).eval _ wy _ _ (n : Int) 1 rfl (C31.trans hz) rfl) ?_
          have hw : IntKind.i64.wrap ((n : Int) + 1) = ((n + 1 : Nat) : Int) := by rw [IntKind.wrap_i64]; omega
          exact ⟨_, rfl, ⟨n + 1, by omega, by omega, (upd_same f 32 _).trans (congrArg (Value.int .i64) hw)⟩, hG, fun j _ _ _ _ _ h => h⟩
        · obtain ⟨n, hn1, hn, hz⟩ := (hF ⟨8, .data⟩ (by simp) rfl (fun k _ hdk => (show k ≠ 9 by rintro rfl; rw [hdn] at hdk; cases hdk) |> fun hk => by simp [useA, useS, hk]))
          refine wpOp_enterG ho2 (wanted_none rfl) (q_call2E (canon fr dsJb f).eval _ wy _ enters_below _ _ _ rfl rfl) ?_
          rw [C28.trans (hF ⟨4, .data⟩ (by simp) rfl (fun k _ hdk => (show k ≠ 9 by rintro rfl; rw [hdn] at hdk; cases hdk) |> fun hk => by simp [useA, useS, hk])), C32.trans hz]
          refine (belowN_any hU n hn1 (by omega) wy hG.1).mono ?_
          rintro e wv ⟨y, hy, rfl, hD, hM⟩
          exact ⟨_, rfl, _, rfl, ⟨_, upd_same f 33 _⟩, ⟨hD, hG.2.mut hM HR.out⟩, fun j _ _ _ _ _ h => h.mut hM⟩
        · refine wpOp_runG ho2 (wanted_none rfl) (q_lit3S (canon fr dsJb f).eval _ wy _ _ _ _ _ _ rfl rfl rfl rfl) ?_
          refine ⟨_, rfl, ?_, ⟨hG.1.alloc _, hG.2.below ((Below.refl _ _).alloc (Nat.le_refl _) _)⟩, fun j _ _ _ _ _ h => h.mut ((Mut.refl W.heap.size wy).alloc _)⟩
          refine ⟨wy.heap.size, upd_same f 34 _, by have := hG.1.lt; omega, fun i hi => ?_⟩
          have hi' : i = 0 ∨ i = 1 ∨ i = 2 := by omega
          rcases hi' with rfl | rfl | rfl
          · exact ⟨_, by decide, cellN (heap_alloc_new wy _)⟩
          · exact ⟨_, by decide, cellN (heap_alloc_new wy _)⟩
          · exact ⟨_, by decide, cellN (heap_alloc_new wy _)⟩
        · refine wpOp_runG ho2 (wanted_none rfl) (q_moveE (canon fr dsJb f).eval _ wy _ rfl) ?_
          exact ⟨_, rfl, (upd_same f 35 _).trans N6, hG, fun j _ _ _ _ _ h => h⟩
        · refine wpOp_enterG ho2 (wanted_none rfl) (q_call2E (canon fr dsJb f).eval _ wy _ enters_below _ _ _ rfl rfl) ?_
          rw [C35.trans (hF ⟨11, .data⟩ (by simp) rfl (fun k _ hdk => (show k ≠ 12 by rintro rfl; rw [hdn] at hdk; cases hdk) |> fun hk => by simp [useA, useS, hk]))]
          refine (below_any hU 3 (by omega) (by omega) wy hG.1).mono ?_
          rintro e wv ⟨z, h0, h1, rfl, hD, hM⟩
          exact ⟨_, rfl, _, rfl, ⟨z.toNat, by omega, (upd_same f 36 _).trans (by rw [Int.toNat_of_nonneg h0])⟩, ⟨hD, hG.2.mut hM HR.out⟩, fun j _ _ _ _ _ h => h.mut hM⟩
        · obtain ⟨g, eg, hgR, hc⟩ := (hF ⟨10, .data⟩ (by simp) rfl (fun k _ hdk => (show k ≠ 13 by rintro rfl; rw [hdn] at hdk; cases hdk) |> fun hk => by simp [useA, useS, hk]))
          obtain ⟨i, hi, ei⟩ := (hF ⟨12, .data⟩ (by simp) rfl (fun k _ hdk => (show k ≠ 13 by rintro rfl; rw [hdn] at hdk; cases hdk) |> fun hk => by simp [useA, useS, hk]))
          obtain ⟨sg, h8, hcc⟩ := hc i hi
          refine wpOp_runG ho2 (wanted_none rfl) (q_idxSE (canon fr dsJb f).eval _ wy _ _ g 3 3 i rfl (C34.trans eg) (C36.trans ei) hi) ?_
          exact ⟨_, rfl, ⟨g, i, sg, upd_same f 37 _, hgR, h8, hcc⟩, hG, fun j _ _ _ _ _ h => h⟩
        · obtain ⟨g, i, sg, eg, hgR, h8, hcc⟩ := (hF ⟨13, .data⟩ (by simp) rfl (fun k _ hdk => (show k ≠ 14 by rintro rfl; rw [hdn] at hdk; cases hdk) |> fun hk => by simp [useA, useS, hk]))
          refine wpOp_runG ho2 (wanted_none rfl) (q_loadSE (canon fr dsJb f).eval _ wy _ g i sg rfl (C37.trans eg) hcc) ?_
          exact ⟨_, rfl, ⟨sg, h8, upd_same f 38 _⟩, hG, fun j _ _ _ _ _ h => h⟩
        · refine wpOp_runG ho2 (wanted_none rfl) (q_assignE (canon fr dsJb f).eval _ wy _ rfl) ?_
          exact ⟨_, rfl, (upd_same f 2 _).trans (C24.trans (hF ⟨0, .data⟩ (by simp) rfl (fun k _ hdk => (show k ≠ 15 by rintro rfl; rw [hdn] at hdk; cases hdk) |> fun hk => by simp [useA, useS, hk]))), hG, fun j _ _ _ _ _ h => h⟩
        · refine wpOp_runG ho2 (wanted_none rfl) (q_assignE (canon fr dsJb f).eval _ wy _ rfl) ?_
          obtain ⟨z, hz⟩ := (hF ⟨3, .data⟩ (by simp) rfl (fun k _ hdk => (show k ≠ 16 by rintro rfl; rw [hdn] at hdk; cases hdk) |> fun hk => by simp [useA, useS, hk]))
          exact ⟨_, rfl, ⟨z, (upd_same f 3 _).trans (C27.trans hz)⟩, hG, fun j _ _ _ _ _ h => h⟩
        · refine wpOp_runG ho2 (wanted_none rfl) (q_assignE (canon fr dsJb f).eval _ wy _ rfl) ?_
          obtain ⟨z, hz⟩ := (hF ⟨9, .data⟩ (by simp) rfl (fun k _ hdk => (show k ≠ 17 by rintro rfl; rw [hdn] at hdk; cases hdk) |> fun hk => by simp [useA, useS, hk]))
          exact ⟨_, rfl, ⟨z, (upd_same f 4 _).trans (C33.trans hz)⟩, hG, fun j _ _ _ _ _ h => h⟩
        · refine wpOp_runG ho2 (wanted_none rfl) (q_assignE (canon fr dsJb f).eval _ wy _ rfl) ?_
          obtain ⟨z, h8, hz⟩ := (hF ⟨14, .data⟩ (by simp) rfl (fun k _ hdk => (show k ≠ 18 by rintro rfl; rw [hdn] at hdk; cases hdk) |> fun hk => by simp [useA, useS, hk]))
          exact ⟨_, rfl, ⟨z, h8, (upd_same f 5 _).trans (C38.trans hz)⟩, hG, fun j _ _ _ _ _ h => h⟩
      · intro f wy hG hall
        exact hK _ _ (Met.intro (hJ _ _ ⟨f, congrArg (fun z => canon z dsJb f) HFR.out, hall 15 (by decide) (fun _ _ => rfl), hall 16 (by decide) (fun _ _ => rfl), hall 17 (by decide) (fun _ _ => rfl), hall 18 (by decide) (fun _ _ => rfl), hG.1, hG.2⟩))
    rintro _ wf ⟨f, rfl, h2, ⟨au, h3⟩, ⟨z, h4⟩, ⟨sg, h8, h5⟩, hD, hO⟩
    simp only [canon, dsJb, List.foldl, Act.put, List.setIfInBounds_toArray, List.set_cons_succ, List.set_cons_zero]
    rw [h2, h3, h4, h5]
    have HF : Hid (sg.size ≤ 8 ∧ Draw W a len cap W.heap.size wf ∧ OwnV wf w1.heap.size (.slice va A.length vc) A) := ⟨h8, hD, hO⟩
    clear h2 h3 h4 h5 h8 hD hO
    go_wp2
    refine bodyPost_ret (results_4t (u := 2) (v := 3) (x := 4) (y := 5) rfl _ _) rfl ?_
    exact ⟨_, A, _, _, sg, rfl, HF.out.1, HF.out.2.2.base (Nat.le_of_lt HR.out), HG.out.1, HF.out.2.1.bel⟩
end Go.Proofs.Ytpjeccnhgoegkaa
