/-
  The program's withOp. No condition but that the slice reads.
-/
import Derived.Test.YtjfciokpnhnhbaaSqWn
namespace Go.Proofs.Ytjfciokpnhnhbaa
open Go.RowKit
set_option linter.unusedVariables false
set_option linter.unusedSimpArgs false

theorem put4 {w : World} {q : Nat} {T : TypeId} {v0 v1 v2 v3 : Value} (y0 y1 y2 y3 : Value) (hr : w.heap[q]? = some (.cells #[v0, v1, v2, v3] T (0, 0))) :
    ((((w.setCell ⟨q, 0, none⟩ y0).setCell ⟨q, 1, none⟩ y1).setCell ⟨q, 2, none⟩ y2).setCell ⟨q, 3, none⟩ y3).heap[q]? = some (.cells #[y0, y1, y2, y3] T (0, 0)) := by
  have b1 : (w.setCell ⟨q, 0, none⟩ y0).heap[q]? = some (.cells #[y0, v1, v2, v3] T (0, 0)) := by rw [setCell_heap hr]; rfl
  have b2 : ((w.setCell ⟨q, 0, none⟩ y0).setCell ⟨q, 1, none⟩ y1).heap[q]? = some (.cells #[y0, y1, v2, v3] T (0, 0)) := by rw [setCell_heap b1]; rfl
  have b3 : (((w.setCell ⟨q, 0, none⟩ y0).setCell ⟨q, 1, none⟩ y1).setCell ⟨q, 2, none⟩ y2).heap[q]? = some (.cells #[y0, y1, y2, v3] T (0, 0)) := by rw [setCell_heap b2]; rfl
  rw [setCell_heap b3]
  rfl
theorem outW_no {D : Nat → Ev} {n : Nat} {author : Int} {x : Ev} (h : okW D n author x = false) : outW D n author x = [] ∧ opW D n author x = evZ := by unfold outW opW; rw [h]; exact ⟨rfl, rfl⟩
theorem outW_yes {D : Nat → Ev} {n : Nat} {author : Int} {x : Ev} (h : okW D n author x = true) : outW D n author x = listD D n ++ [x] ∧ opW D n author x = x := by unfold outW opW; rw [h]; exact ⟨rfl, rfl⟩
/-- what withOp answers -/
def WoP (D : Nat → Ev) (n : Nat) (author : Int) (X : Ev) (W : World) (e : Ending) (w' : World) : Prop :=
  ∃ v, e = .returned (.tuple #[v, .agg (enc4 (opW D n author X)).toArray, .bool (okW D n author X)]) ∧ OwnV w' W.heap.size v (outW D n author X) ∧ Below W.heap.size W w'
theorem WoP.no {D : Nat → Ev} {n : Nat} {author : Int} {X : Ev} {W w' : World} (h : okW D n author X = false) (hB : Below W.heap.size W w') : WoP D n author X W (.returned (.tuple #[.slice none 0 0, .agg #[.int .i64 0, .int .i64 0, .int .i64 0, .string ⟨#[]⟩], .bool false])) w' := by
  unfold WoP
  rw [(outW_no h).1, (outW_no h).2, h]
  exact ⟨_, rfl, OwnV.nil _ _, hB⟩
theorem WoP.yes {D : Nat → Ev} {n : Nat} {author : Int} {X : Ev} {W w' : World} {v : Value} (h : okW D n author X = true) (hO : OwnV w' W.heap.size v (listD D n ++ [X])) (hB : Below W.heap.size W w') : WoP D n author X W (.returned (.tuple #[v, .agg (enc4 X).toArray, .bool true])) w' := by
  unfold WoP
  rw [(outW_yes h).1, (outW_yes h).2, h]
  exact ⟨_, rfl, hO, hB⟩

set_option maxRecDepth 10000 in
set_option maxHeartbeats 4000000 in
theorem withOp_any (a : Option Addr) (len cap : Nat) (D : Nat → Ev) (author : Int) (x : Ev) (W : World) (h : IsEvs W a len cap D) (hF : ∀ i, i < len → (D i).in) (hx : x.in) :
    Calls Try.prog 48 #[.slice a len cap, .int .i64 author, .agg #[.int .i64 x.a, .int .i64 x.b, .int .i64 x.c, .string x.d]] W (WoP D len author ⟨nid D len author, x.b, x.c, x.d⟩ W) := by
  obtain ⟨X, hX⟩ : ∃ X : Ev, X = ⟨nid D len author, x.b, x.c, x.d⟩ := ⟨_, rfl⟩
  rw [← hX]
  have HX : Hid (X = ⟨nid D len author, x.b, x.c, x.d⟩) := hX
  have HE : Hid (IsEvs W a len cap D) := h
  have HFF : Hid (∀ i, i < len + 1 → (snocD D len X i).in) := snoc_in hF (by rw [hX]; exact hx)
  obtain ⟨Y, hY⟩ : ∃ Y, Y = (W.alloc (.cells #[.int .i64 x.a, .int .i64 x.b, .int .i64 x.c, .string x.d] 36)).alloc (.cells #[.int .i64 0, .int .i64 0, .int .i64 0, .string ⟨#[]⟩] 36) := ⟨_, rfl⟩
  have HY := (show Hid _ from hY)
  have HYB : Hid (Below W.heap.size W Y) := by rw [hY]; exact ((Below.refl _ _).alloc (Nat.le_refl _) _).alloc (by simp) _
  have HY0 : Hid (Y.heap[W.heap.size]? = some (.cells #[.int .i64 x.a, .int .i64 x.b, .int .i64 x.c, .string x.d] 36 (0, 0)) ∧ Y.heap[W.heap.size + 1]? = some (.cells #[.int .i64 0, .int .i64 0, .int .i64 0, .string ⟨#[]⟩] 36 (0, 0))) := by
    rw [hY]
    refine ⟨?_, ?_⟩
    · have := ((Below.refl (W.heap.size + 1) (W.alloc (.cells #[.int .i64 x.a, .int .i64 x.b, .int .i64 x.c, .string x.d] 36))).alloc (by simp) (.cells #[.int .i64 0, .int .i64 0, .int .i64 0, .string ⟨#[]⟩] 36)).block W.heap.size (by omega)
      exact this.trans (heap_alloc_new W _)
    · have := heap_alloc_new (W.alloc (.cells #[.int .i64 x.a, .int .i64 x.b, .int .i64 x.c, .string x.d] 36)) (.cells #[.int .i64 0, .int .i64 0, .int .i64 0, .string ⟨#[]⟩] 36)
      simpa using this
  clear hY
  go_enter Try.func48, Try.ntmps48
  go_wp2_with fail
  rw [← HY.out]
  refine (implSeq_any a len cap D Y (HE.out.below HYB.out) hF).mono ?_
  rintro e w1 ⟨rfl, hB1⟩
  have HB1 : Hid (Below W.heap.size W w1) := HYB.out.trans (hB1.mono HYB.out.size)
  have hbx : w1.heap[W.heap.size]? = some (.cells #[.int .i64 x.a, .int .i64 x.b, .int .i64 x.c, .string x.d] 36 (0, 0)) := (hB1.block _ (lt_of_block HY0.out.1)).trans HY0.out.1
  have hrw : w1.heap[W.heap.size + 1]? = some (.cells #[.int .i64 0, .int .i64 0, .int .i64 0, .string ⟨#[]⟩] 36 (0, 0)) := (hB1.block _ (lt_of_block HY0.out.2)).trans HY0.out.2
  clear hB1 hX h hF
  have HBX := (show Hid _ from hbx)
  have HRW := (show Hid _ from hrw)
  have r0 : w1.cell? ⟨W.heap.size + 1, 0, none⟩ = some (.int .i64 0) := cellN hrw
  have r1 : w1.cell? ⟨W.heap.size + 1, 1, none⟩ = some (.int .i64 0) := cellN hrw
  have r2 : w1.cell? ⟨W.heap.size + 1, 2, none⟩ = some (.int .i64 0) := cellN hrw
  have r3 : w1.cell? ⟨W.heap.size + 1, 3, none⟩ = some (.string ⟨#[]⟩) := cellN hrw
  have s0 : w1.frozen? ⟨W.heap.size + 1, 0, none⟩ = false := frozN hrw
  have s1 : w1.frozen? ⟨W.heap.size + 1, 1, none⟩ = false := frozN hrw
  have s2 : w1.frozen? ⟨W.heap.size + 1, 2, none⟩ = false := frozN hrw
  have s3 : w1.frozen? ⟨W.heap.size + 1, 3, none⟩ = false := frozN hrw
  have u0 : w1.cell? ⟨W.heap.size, 0, none⟩ = some (.int .i64 x.a) := cellN hbx
  have u1 : w1.frozen? ⟨W.heap.size, 0, none⟩ = false := frozN hbx
  clear hbx hrw
  obtain ⟨s, hs⟩ : ∃ s, s = seqB D len := ⟨_, rfl⟩
  rw [← hs]
  cases s with
  | false =>
    have HN : Hid (okW D len author X = false) := okW_no1 (by rw [← hs]; rfl)
    clear hs
    go_wp2
    refine bodyPost_ret (results_trt (p := 7) (u := 6) (v := 8) rfl _ _ (W.heap.size + 1) 36 _ _ _ rfl (put4 _ _ _ _ HRW.out) Try.underlying36 rfl infoE4) rfl ?_
    exact (WoP.no HN.out (HB1.out.setCell (by simp) _ |>.setCell (by simp) _ |>.setCell (by simp) _ |>.setCell (by simp) _))
  | true =>
    have HS : Hid (seqB D len = true) := hs.symm
    clear hs
    go_wp2_with fail
    refine (authorOk_any author w1).mono ?_
    rintro e w2 ⟨rfl, rfl⟩
    obtain ⟨s, hs⟩ : ∃ s, s = inB 1 9 author := ⟨_, rfl⟩
    rw [← hs]
    cases s with
    | false =>
      have HN : Hid (okW D len author X = false) := okW_no1 (by rw [← hs, Bool.and_false])
      clear hs
      go_wp2
      refine bodyPost_ret (results_trt (p := 7) (u := 6) (v := 8) rfl _ _ (W.heap.size + 1) 36 _ _ _ rfl (put4 _ _ _ _ HRW.out) Try.underlying36 rfl infoE4) rfl ?_
      exact (WoP.no HN.out (HB1.out.setCell (by simp) _ |>.setCell (by simp) _ |>.setCell (by simp) _ |>.setCell (by simp) _))
    | true =>
      have hau : 1 ≤ author ∧ author ≤ 9 := by
        unfold inB at hs
        simpa using hs.symm
      have HA : Hid (inB 1 9 author = true) := hs.symm
      clear hs
      obtain ⟨z, hz⟩ : ∃ z, z = lastA D len := ⟨_, rfl⟩
      have hzz : 0 ≤ z ∧ z ≤ 1000000 := by rw [hz]; exact last_in HS.out
      have hNI : Hid (nid D len author = 10 * (z / 10 + 1) + author) := by show _ = _; unfold nid; rw [← hz]
      have HZ : Hid (z = lastA D len) := hz
      have HL : Hid (len ≤ 1048576) := by have := (seqB_parts HS.out).1; show _ ≤ _; omega
      by_cases h0 : 0 < len
      · obtain ⟨n, hn⟩ : ∃ n, len = n + 1 := ⟨len - 1, by omega⟩
        subst hn
        obtain ⟨b, off, rfl, hb, hc⟩ := HE.out.2.2 h0
        have c0 : w2.cell? ⟨b, off + n * 4, none⟩ = some (.int .i64 z) := by
          have e : z = (D n).a := by rw [hz]; unfold lastA; simp
          rw [e]
          exact ((hc n (by omega)).grow hb HB1.out).c0
        have hn40 : n ≤ 40 := by have := (seqB_parts HS.out).1; omega
        clear hc hz h0
        go_wp2
        obtain ⟨WZ, hWZ⟩ : ∃ WZ, WZ = w2.setCell ⟨W.heap.size, 0, none⟩ (.int .i64 (10 * (z / 10 + 1) + author)) := ⟨_, rfl⟩
        rw [← hWZ]
        have HG : Hid (Two W W.heap.size (W.heap.size + 1) w2.heap.size X WZ) := by
          have hX : X = ⟨10 * (z / 10 + 1) + author, x.b, x.c, x.d⟩ := by rw [HX.out, hNI.out]
          refine ⟨by rw [hWZ]; exact HB1.out.setCell (Nat.le_refl _) _, Nat.le_refl _, Nat.le_succ _, lt_of_block HBX.out, lt_of_block HRW.out, by omega, by rw [hWZ]; simp [World.setCell], ?_, #[.int .i64 0, .int .i64 0, .int .i64 0, .string ⟨#[]⟩], rfl, ?_⟩
          · rw [hWZ, setCell_heap HBX.out, hX]
            rfl
          · rw [hWZ, Below.heap_setCell _ _ _ _ (show W.heap.size + 1 ≠ W.heap.size by omega)]
            exact HRW.out
        obtain ⟨p, hp⟩ : ∃ p, p = W.heap.size := ⟨_, rfl⟩
        obtain ⟨q, hq⟩ : ∃ q, q = W.heap.size + 1 := ⟨_, rfl⟩
        obtain ⟨M, hM⟩ : ∃ M, M = w2.heap.size := ⟨_, rfl⟩
        rw [← hq, ← hp, ← hM] at HG
        rw [← hq, ← hp]
        clear r0 r1 r2 r3 s0 s1 s2 s3 u0 u1 HBX HRW hWZ hp hq hM c0
        refine wp_cut_to (fun a0 t w' => ∃ f, t = canon a0 dsWa f ∧ OwnV w' M (f 10) (listD D (n + 1) ++ [X]) ∧ (∃ g c, f 10 = .slice (some ⟨g, 0, none⟩) ((n + 1) + 1) c) ∧ Two W p q M X w') ?_ ?_
        rotate_left
        · intro J K' hJ hK
          refine wp_letter ?_
          intro fr hfr
          have hsz : 41 < fr.tmps.size := by rw [hfr]; exact Nat.le_of_ble_eq_true rfl
          have t0 : fr.eval (.tmp 0) = .slice (some ⟨b, off, none⟩) (n + 1) cap := by rw [hfr]; rfl
          have t5 : fr.eval (.tmp 5) = .pointer (some ⟨p, 0, none⟩) := by rw [hfr]; rfl
          have HFR := (show Hid _ from hfr)
          clear hfr
          refine wp_region_use (by kernel_rfl) (by kernel_rfl) dsWa slotWa (AiF 37 38 39 40 41 10 M (.slice (some ⟨b, off, none⟩) (n + 1) cap) (listD D (n + 1)) X) (Two W p q M X) useA HG.out.draws ?_ ?_ ?_ ?_ ?_
          · intro j f f' wy hj he h
            match j, hj with
            | 0, _ =>
              have e0 : f 37 = f' 37 := he 0 (by kernel_rfl)
              simp only [AiF, e0] at h ⊢
              exact h
            | 1, _ =>
              have e1 : f 38 = f' 38 := he 1 (by kernel_rfl)
              simp only [AiF, e1] at h ⊢
              exact h
            | 2, _ =>
              have e2 : f 39 = f' 39 := he 2 (by kernel_rfl)
              simp only [AiF, e2] at h ⊢
              exact h
            | 3, _ =>
              have e3 : f 40 = f' 40 := he 3 (by kernel_rfl)
              simp only [AiF, e3] at h ⊢
              exact h
            | 4, _ =>
              have e4 : f 41 = f' 41 := he 4 (by kernel_rfl)
              simp only [AiF, e4] at h ⊢
              exact h
            | 5, _ =>
              have e4 : f 41 = f' 41 := he 4 (by kernel_rfl)
              have e5 : f 10 = f' 10 := he 5 (by kernel_rfl)
              simp only [AiF, e4, e5] at h ⊢
              exact h
          · intro i hi
            exact slotWa_mem i hi
          · intro i j hi hj q
            exact slotWa_inj i j hi hj q
          · intro ops hops done f wy j oo hG ho hdn hcl hd hF
            have ho2 := ho
            rw [hops] at ho
            have hj : j < 6 := by
              rcases Nat.lt_or_ge j 6 with h | h
              · exact h
              · rw [Array.getElem?_eq_none (by simpa using h)] at ho; cases ho
            have N0 := (canon_eval_ne fr dsWa f 0 (by decide)).trans t0
            have N5 := (canon_eval_ne fr dsWa f 5 (by decide)).trans t5
            have C37 := canon_eval fr dsWa f 37 (by decide) (Nat.lt_of_le_of_lt (by decide) hsz)
            have C38 := canon_eval fr dsWa f 38 (by decide) (Nat.lt_of_le_of_lt (by decide) hsz)
            have C39 := canon_eval fr dsWa f 39 (by decide) (Nat.lt_of_le_of_lt (by decide) hsz)
            have C40 := canon_eval fr dsWa f 40 (by decide) (Nat.lt_of_le_of_lt (by decide) hsz)
            have C41 := canon_eval fr dsWa f 41 (by decide) (Nat.lt_of_le_of_lt (by decide) hsz)
            have C10 := canon_eval fr dsWa f 10 (by decide) (Nat.lt_of_le_of_lt (by decide) hsz)
            have hj' : j = 0 ∨ j = 1 ∨ j = 2 ∨ j = 3 ∨ j = 4 ∨ j = 5 := by omega
            rcases hj' with rfl | rfl | rfl | rfl | rfl | rfl <;> simp only [List.getElem?_toArray, List.getElem?_cons_succ, List.getElem?_cons_zero, Option.some.injEq] at ho <;> subst ho
            · refine wpOp_runG ho2 (wanted_none rfl) (q_moveE (canon fr dsWa f).eval _ wy _ rfl) ?_
              exact ⟨_, rfl, (upd_same f 37 _).trans N0, hG, fun j _ _ _ _ _ h => h⟩
            · refine wpOp_enterG ho2 (wanted_none rfl) (q_callE (canon fr dsWa f).eval _ wy _ enters_clone _ _ rfl rfl) ?_
              rw [C37.trans (hF ⟨0, .data⟩ (by simp) rfl (fun k _ hdk => (show k ≠ 1 by rintro rfl; rw [hdn] at hdk; cases hdk) |> fun hk => by simp [useA, useS, hk]))]
              refine (cloneE_any (some ⟨b, off, none⟩) (n + 1) cap D wy (HE.out.below hG.bel) HL.out).mono ?_
              rintro e wv ⟨u, rfl, hO, hB⟩
              refine ⟨_, rfl, _, rfl, ?_, hG.below (hB.mono hG.sz), fun j _ _ _ _ _ h => h.below hB⟩
              show OwnV wv M (upd f 38 u 38) (listD D (n + 1))
              rw [upd_same]
              exact hO.base hG.sz
            · refine wpOp_runG ho2 (wanted_none rfl) (q_loadE (canon fr dsWa f).eval _ wy _ p X rfl N5 hG.bx) ?_
              exact ⟨_, rfl, upd_same f 39 _, hG, fun j _ _ _ _ _ h => h⟩
            · refine wpOp_runG ho2 (wanted_none rfl) (q_lit1E (canon fr dsWa f).eval _ wy _ X rfl (C39.trans (hF ⟨2, .data⟩ (by simp) rfl (fun k _ hdk => (show k ≠ 3 by rintro rfl; rw [hdn] at hdk; cases hdk) |> fun hk => by simp [useA, useS, hk])))) ?_
              exact ⟨_, rfl, ⟨wy.heap.size, upd_same f 40 _, heap_alloc_new wy _⟩, hG.below ((Below.refl _ _).alloc hG.sz _), fun j _ _ _ _ _ h => h.below ((Below.refl _ _).alloc (Nat.le_refl _) _)⟩
            · obtain ⟨g, eg, hg⟩ := (hF ⟨3, .data⟩ (by simp) rfl (fun k _ hdk => (show k ≠ 4 by rintro rfl; rw [hdn] at hdk; cases hdk) |> fun hk => by simp [useA, useS, hk]))
              have hv : OwnV wy M ((canon fr dsWa f).eval (.tmp 38)) (listD D (n + 1)) := by rw [C38]; exact (hF ⟨1, .data⟩ (by simp) rfl (fun k _ hdk => (show k ≠ 4 by rintro rfl; rw [hdn] at hdk; cases hdk) |> fun hk => by simp [useA, useS, hk]))
              refine wpOp_app1E ho2 (wanted_none rfl) _ _ M g 1 (listD D (n + 1)) X rfl hv (C40.trans eg) (by rw [listD_len]; exact HL.out) hg hG.sz ?_
              intro v wv hO hB hsh
              refine ⟨_, rfl, ?_, hG.below hB, ?_⟩
              · show OwnV wv M (upd f 41 v 41) (listD D (n + 1) ++ [X]) ∧ ∃ g c, upd f 41 v 41 = .slice (some ⟨g, 0, none⟩) ((listD D (n + 1)).length + 1) c
                rw [upd_same]
                exact ⟨hO, hsh⟩
              · intro j hj hne _ _ hu h
                match j, hne, hu, h with
                | 0, _, _, h => exact h
                | 1, _, hu, _ => cases hu
                | 2, _, _, h => exact h
                | 3, _, hu, _ => cases hu
                | 4, hne, _, _ => exact absurd rfl hne
                | 5, _, _, h => exact h
                | (m + 6), _, _, _ => exact trivial
            · refine wpOp_runG ho2 (wanted_none rfl) (q_assignE (canon fr dsWa f).eval _ wy _ rfl) ?_
              refine ⟨_, rfl, ?_, hG, fun j _ _ _ _ _ h => h⟩
              show upd f 10 _ 10 = upd f 10 _ 41
              rw [upd_same, upd_ne f _ (by decide)]
              exact C41
          · intro f wy hG hall
            have h4 := hall 4 (by decide) (fun k _ => by simp [useA])
            have h5 : f 10 = f 41 := hall 5 (by decide) (fun k _ => by simp [useA])
            obtain ⟨h4, g, c, h6⟩ := h4
            refine hK _ _ (Met.intro (hJ _ _ ⟨f, congrArg (fun z => canon z dsWa f) HFR.out, ?_, ⟨g, c, ?_⟩, hG⟩))
            · rw [h5]; exact h4
            · rw [h5, h6, listD_len]
        rintro _ wa ⟨f, rfl, hO, ⟨g, c, hfs⟩, hG⟩
        rw [hfs] at hO
        have HOa : Hid (OwnV wa M (.slice (some ⟨g, 0, none⟩) ((n + 1) + 1) c) (listD D (n + 1) ++ [X])) := hO
        have HGa : Hid (Two W p q M X wa) := hG
        simp only [canon, dsWa, List.foldl, Act.put, List.setIfInBounds_toArray, List.set_cons_succ, List.set_cons_zero]
        rw [hfs]
        clear hO hG hfs HG
        go_wp2_with fail
        refine (implSeq_any (some ⟨g, 0, none⟩) ((n + 1) + 1) c (snocD D (n + 1) X) wa (own_snoc HOa.out) HFF.out).mono ?_
        rintro e wb ⟨rfl, hBb⟩
        have HG : Hid (Two W p q M X wb) := HGa.out.below (hBb.mono HGa.out.sz)
        have HO : Hid (OwnV wb M (.slice (some ⟨g, 0, none⟩) ((n + 1) + 1) c) (listD D (n + 1) ++ [X])) := HOa.out.below hBb
        clear hBb HGa HOa
        obtain ⟨s, hs⟩ : ∃ s, s = seqB (snocD D (n + 1) X) ((n + 1) + 1) := ⟨_, rfl⟩
        rw [← hs]
        cases s with
        | false =>
          have HN : Hid (okW D (n + 1) author X = false) := okW_no2 hs.symm
          clear hs
          obtain ⟨v0, v1, v2, v3, hrw⟩ := HG.out.row4
          have HRW := (show Hid _ from hrw)
          have r0 : wb.cell? ⟨q, 0, none⟩ = some v0 := cellN hrw
          have r1 : wb.cell? ⟨q, 1, none⟩ = some v1 := cellN hrw
          have r2 : wb.cell? ⟨q, 2, none⟩ = some v2 := cellN hrw
          have r3 : wb.cell? ⟨q, 3, none⟩ = some v3 := cellN hrw
          have s0 : wb.frozen? ⟨q, 0, none⟩ = false := frozN hrw
          have s1 : wb.frozen? ⟨q, 1, none⟩ = false := frozN hrw
          have s2 : wb.frozen? ⟨q, 2, none⟩ = false := frozN hrw
          have s3 : wb.frozen? ⟨q, 3, none⟩ = false := frozN hrw
          clear hrw
          go_wp2
          refine bodyPost_ret (results_trt (p := 7) (u := 6) (v := 8) rfl _ _ q 36 _ _ _ rfl (put4 _ _ _ _ HRW.out) Try.underlying36 rfl infoE4) rfl ?_
          exact WoP.no HN.out ((((HG.out.bel.setCell HG.out.lq _).setCell HG.out.lq _).setCell HG.out.lq _).setCell HG.out.lq _)
        | true =>
          have HN : Hid (okW D (n + 1) author X = true) := okW_of HS.out HA.out hs.symm
          clear hs
          go_wp2_with fail
          refine wp_cut_to (fun a0 t w' => ∃ f, t = canon a0 dsWr f ∧ f 6 = .slice (some ⟨g, 0, none⟩) ((n + 1) + 1) c ∧ f 8 = .bool true ∧ w'.heap[q]? = some (.cells (enc4 X).toArray 36 (0, 0)) ∧ OwnV w' W.heap.size (.slice (some ⟨g, 0, none⟩) ((n + 1) + 1) c) (listD D (n + 1) ++ [X]) ∧ Below W.heap.size W w') ?_ ?_
          rotate_left
          · intro J K' hJ hK
            refine wp_letter ?_
            intro fr hfr
            have hsz : 47 < fr.tmps.size := by rw [hfr]; exact Nat.le_of_ble_eq_true rfl
            have t10 : fr.eval (.tmp 10) = .slice (some ⟨g, 0, none⟩) ((n + 1) + 1) c := by rw [hfr]; rfl
            have t5 : fr.eval (.tmp 5) = .pointer (some ⟨p, 0, none⟩) := by rw [hfr]; rfl
            have t7 : fr.eval (.tmp 7) = .pointer (some ⟨q, 0, none⟩) := by rw [hfr]; rfl
            have HFR := (show Hid _ from hfr)
            clear hfr
            refine wp_region_use (by kernel_rfl) (by kernel_rfl) dsWr slotWr (ReF 46 47 6 8 q (.slice (some ⟨g, 0, none⟩) ((n + 1) + 1) c) X) (Sm wb q) (fun _ _ => false) ⟨fun _ _ => rfl, rfl, rfl, rfl, rfl, HG.out.row⟩ ?_ ?_ ?_ ?_ ?_
            · intro j f f' wy hj he h
              match j, hj with
              | 0, _ =>
                have e0 : f 46 = f' 46 := he 0 (by kernel_rfl)
                simp only [ReF, e0] at h ⊢
                exact h
              | 1, _ =>
                have e1 : f 47 = f' 47 := he 1 (by kernel_rfl)
                simp only [ReF, e1] at h ⊢
                exact h
              | 2, _ =>
                have e2 : f 6 = f' 6 := he 2 (by kernel_rfl)
                simp only [ReF, e2] at h ⊢
                exact h
              | 3, _ =>
                simp only [ReF] at h ⊢
                exact h
              | 4, _ =>
                have e4 : f 8 = f' 8 := he 4 (by kernel_rfl)
                simp only [ReF, e4] at h ⊢
                exact h
            · intro i hi
              exact slotWr_mem i hi
            · intro i j hi hj q
              exact slotWr_inj i j hi hj q
            · intro ops hops done f wy j oo hG ho hdn hcl hd hF
              have ho2 := ho
              rw [hops] at ho
              have hj : j < 5 := by
                rcases Nat.lt_or_ge j 5 with h | h
                · exact h
                · rw [Array.getElem?_eq_none (by simpa using h)] at ho; cases ho
              have N10 := (canon_eval_ne fr dsWr f 10 (by decide)).trans t10
              have N5 := (canon_eval_ne fr dsWr f 5 (by decide)).trans t5
              have N7 := (canon_eval_ne fr dsWr f 7 (by decide)).trans t7
              have C46 := canon_eval fr dsWr f 46 (by decide) (Nat.lt_of_le_of_lt (by decide) hsz)
              have C47 := canon_eval fr dsWr f 47 (by decide) (Nat.lt_of_le_of_lt (by decide) hsz)
              have C6 := canon_eval fr dsWr f 6 (by decide) (Nat.lt_of_le_of_lt (by decide) hsz)
              have C44 := canon_eval fr dsWr f 44 (by decide) (Nat.lt_of_le_of_lt (by decide) hsz)
              have C8 := canon_eval fr dsWr f 8 (by decide) (Nat.lt_of_le_of_lt (by decide) hsz)
              have hj' : j = 0 ∨ j = 1 ∨ j = 2 ∨ j = 3 ∨ j = 4 := by omega
              rcases hj' with rfl | rfl | rfl | rfl | rfl <;> simp only [List.getElem?_toArray, List.getElem?_cons_succ, List.getElem?_cons_zero, Option.some.injEq] at ho <;> subst ho
              · refine wpOp_runG ho2 (wanted_none rfl) (q_moveE (canon fr dsWr f).eval _ wy _ rfl) ?_
                exact ⟨_, rfl, (upd_same f 46 _).trans N10, hG, fun j _ _ _ _ _ h => h⟩
              · refine wpOp_runG ho2 (wanted_none rfl) (q_loadE (canon fr dsWr f).eval _ wy _ p X rfl N5 ((hG.blk p HG.out.ne).trans HG.out.bx)) ?_
                exact ⟨_, rfl, upd_same f 47 _, hG, fun j _ _ _ _ _ h => h⟩
              · refine wpOp_runG ho2 (wanted_none rfl) (q_assignE (canon fr dsWr f).eval _ wy _ rfl) ?_
                exact ⟨_, rfl, (upd_same f 6 _).trans (C46.trans (hF ⟨0, .data⟩ (by simp) rfl (fun k _ hdk => (show k ≠ 2 by rintro rfl; rw [hdn] at hdk; cases hdk) |> fun hk => by simp [useA, useS, hk]))), hG, fun j _ _ _ _ _ h => h⟩
              · obtain ⟨c, hc, hr⟩ := hG.row
                refine wpOp_storeE ho2 (wanted_none rfl) _ _ q X rfl N7 (C47.trans (hF ⟨1, .data⟩ (by simp) rfl (fun k _ hdk => (show k ≠ 3 by rintro rfl; rw [hdn] at hdk; cases hdk) |> fun hk => by simp [useA, useS, hk]))) hc hr ?_
                intro wv z1 z2 z3 z4 z5 z6
                exact ⟨f 44, (putSame fr dsWr f 44 (by decide)).symm, z1, ⟨fun k hk => (z2 k hk).trans (hG.blk k hk), z3.trans hG.size, z4.trans hG.os, z5.trans hG.tape, z6.trans hG.output, (enc4 X).toArray, rfl, z1⟩, fun j _ _ _ _ _ h => h.keep (fun _ => z1)⟩
              · refine wpOp_runG ho2 (wanted_none rfl) (q_assignE (canon fr dsWr f).eval _ wy _ rfl) ?_
                exact ⟨.bool true, rfl, upd_same f 8 _, hG, fun j _ _ _ _ _ h => h⟩
            · intro f wy hG hall
              refine hK _ _ (Met.intro (hJ _ _ ⟨f, congrArg (fun z => canon z dsWr f) HFR.out, hall 2 (by decide) (fun _ _ => rfl), hall 4 (by decide) (fun _ _ => rfl), hall 3 (by decide) (fun _ _ => rfl), HG.out.ends hG HO.out⟩))
          rintro _ wf ⟨f, rfl, h6, h8, hrow, hO, hB⟩
          simp only [canon, dsWr, List.foldl, Act.put, List.setIfInBounds_toArray, List.set_cons_succ, List.set_cons_zero]
          rw [h6, h8]
          have HR := (show Hid _ from hrow)
          have HO2 : Hid (OwnV wf W.heap.size (.slice (some ⟨g, 0, none⟩) ((n + 1) + 1) c) (listD D (n + 1) ++ [X])) := hO
          have HB2 : Hid (Below W.heap.size W wf) := hB
          clear h6 h8 hrow hO hB
          go_wp2
          refine bodyPost_ret (results_trt (p := 7) (u := 6) (v := 8) rfl _ _ q 36 _ _ _ rfl HR.out Try.underlying36 rfl infoE4) rfl ?_
          exact WoP.yes HN.out HO2.out HB2.out
      · have h1 : len = 0 := by omega
        subst h1
        have hz0 : z = 0 := by rw [hz]; rfl
        subst hz0
        clear hz h0
        go_wp2
        obtain ⟨WZ, hWZ⟩ : ∃ WZ, WZ = w2.setCell ⟨W.heap.size, 0, none⟩ (.int .i64 (10 + author)) := ⟨_, rfl⟩
        rw [← hWZ]
        have HG : Hid (Two W W.heap.size (W.heap.size + 1) w2.heap.size X WZ) := by
          have hX : X = ⟨10 + author, x.b, x.c, x.d⟩ := by rw [HX.out, hNI.out]; rfl
          refine ⟨by rw [hWZ]; exact HB1.out.setCell (Nat.le_refl _) _, Nat.le_refl _, Nat.le_succ _, lt_of_block HBX.out, lt_of_block HRW.out, by omega, by rw [hWZ]; simp [World.setCell], ?_, #[.int .i64 0, .int .i64 0, .int .i64 0, .string ⟨#[]⟩], rfl, ?_⟩
          · rw [hWZ, setCell_heap HBX.out, hX]
            rfl
          · rw [hWZ, Below.heap_setCell _ _ _ _ (show W.heap.size + 1 ≠ W.heap.size by omega)]
            exact HRW.out
        obtain ⟨p, hp⟩ : ∃ p, p = W.heap.size := ⟨_, rfl⟩
        obtain ⟨q, hq⟩ : ∃ q, q = W.heap.size + 1 := ⟨_, rfl⟩
        obtain ⟨M, hM⟩ : ∃ M, M = w2.heap.size := ⟨_, rfl⟩
        rw [← hq, ← hp, ← hM] at HG
        rw [← hq, ← hp]
        clear r0 r1 r2 r3 s0 s1 s2 s3 u0 u1 HBX HRW hWZ hp hq hM
        refine wp_cut_to (fun a0 t w' => ∃ f, t = canon a0 dsWa f ∧ OwnV w' M (f 10) (listD D 0 ++ [X]) ∧ (∃ g c, f 10 = .slice (some ⟨g, 0, none⟩) (0 + 1) c) ∧ Two W p q M X w') ?_ ?_
        rotate_left
        · intro J K' hJ hK
          refine wp_letter ?_
          intro fr hfr
          have hsz : 41 < fr.tmps.size := by rw [hfr]; exact Nat.le_of_ble_eq_true rfl
          have t0 : fr.eval (.tmp 0) = .slice a 0 cap := by rw [hfr]; rfl
          have t5 : fr.eval (.tmp 5) = .pointer (some ⟨p, 0, none⟩) := by rw [hfr]; rfl
          have HFR := (show Hid _ from hfr)
          clear hfr
          refine wp_region_use (by kernel_rfl) (by kernel_rfl) dsWa slotWa (AiF 37 38 39 40 41 10 M (.slice a 0 cap) (listD D 0) X) (Two W p q M X) useA HG.out.draws ?_ ?_ ?_ ?_ ?_
          · intro j f f' wy hj he h
            match j, hj with
            | 0, _ =>
              have e0 : f 37 = f' 37 := he 0 (by kernel_rfl)
              simp only [AiF, e0] at h ⊢
              exact h
            | 1, _ =>
              have e1 : f 38 = f' 38 := he 1 (by kernel_rfl)
              simp only [AiF, e1] at h ⊢
              exact h
            | 2, _ =>
              have e2 : f 39 = f' 39 := he 2 (by kernel_rfl)
              simp only [AiF, e2] at h ⊢
              exact h
            | 3, _ =>
              have e3 : f 40 = f' 40 := he 3 (by kernel_rfl)
              simp only [AiF, e3] at h ⊢
              exact h
            | 4, _ =>
              have e4 : f 41 = f' 41 := he 4 (by kernel_rfl)
              simp only [AiF, e4] at h ⊢
              exact h
            | 5, _ =>
              have e4 : f 41 = f' 41 := he 4 (by kernel_rfl)
              have e5 : f 10 = f' 10 := he 5 (by kernel_rfl)
              simp only [AiF, e4, e5] at h ⊢
              exact h
          · intro i hi
            exact slotWa_mem i hi
          · intro i j hi hj q
            exact slotWa_inj i j hi hj q
          · intro ops hops done f wy j oo hG ho hdn hcl hd hF
            have ho2 := ho
            rw [hops] at ho
            have hj : j < 6 := by
              rcases Nat.lt_or_ge j 6 with h | h
              · exact h
              · rw [Array.getElem?_eq_none (by simpa using h)] at ho; cases ho
            have N0 := (canon_eval_ne fr dsWa f 0 (by decide)).trans t0
            have N5 := (canon_eval_ne fr dsWa f 5 (by decide)).trans t5
            have C37 := canon_eval fr dsWa f 37 (by decide) (Nat.lt_of_le_of_lt (by decide) hsz)
            have C38 := canon_eval fr dsWa f 38 (by decide) (Nat.lt_of_le_of_lt (by decide) hsz)
            have C39 := canon_eval fr dsWa f 39 (by decide) (Nat.lt_of_le_of_lt (by decide) hsz)
            have C40 := canon_eval fr dsWa f 40 (by decide) (Nat.lt_of_le_of_lt (by decide) hsz)
            have C41 := canon_eval fr dsWa f 41 (by decide) (Nat.lt_of_le_of_lt (by decide) hsz)
            have C10 := canon_eval fr dsWa f 10 (by decide) (Nat.lt_of_le_of_lt (by decide) hsz)
            have hj' : j = 0 ∨ j = 1 ∨ j = 2 ∨ j = 3 ∨ j = 4 ∨ j = 5 := by omega
            rcases hj' with rfl | rfl | rfl | rfl | rfl | rfl <;> simp only [List.getElem?_toArray, List.getElem?_cons_succ, List.getElem?_cons_zero, Option.some.injEq] at ho <;> subst ho
            · refine wpOp_runG ho2 (wanted_none rfl) (q_moveE (canon fr dsWa f).eval _ wy _ rfl) ?_
              exact ⟨_, rfl, (upd_same f 37 _).trans N0, hG, fun j _ _ _ _ _ h => h⟩
            · refine wpOp_enterG ho2 (wanted_none rfl) (q_callE (canon fr dsWa f).eval _ wy _ enters_clone _ _ rfl rfl) ?_
              rw [C37.trans (hF ⟨0, .data⟩ (by simp) rfl (fun k _ hdk => (show k ≠ 1 by rintro rfl; rw [hdn] at hdk; cases hdk) |> fun hk => by simp [useA, useS, hk]))]
              refine (cloneE_any a 0 cap D wy (HE.out.below hG.bel) HL.out).mono ?_
              rintro e wv ⟨u, rfl, hO, hB⟩
              refine ⟨_, rfl, _, rfl, ?_, hG.below (hB.mono hG.sz), fun j _ _ _ _ _ h => h.below hB⟩
              show OwnV wv M (upd f 38 u 38) (listD D 0)
              rw [upd_same]
              exact hO.base hG.sz
            · refine wpOp_runG ho2 (wanted_none rfl) (q_loadE (canon fr dsWa f).eval _ wy _ p X rfl N5 hG.bx) ?_
              exact ⟨_, rfl, upd_same f 39 _, hG, fun j _ _ _ _ _ h => h⟩
            · refine wpOp_runG ho2 (wanted_none rfl) (q_lit1E (canon fr dsWa f).eval _ wy _ X rfl (C39.trans (hF ⟨2, .data⟩ (by simp) rfl (fun k _ hdk => (show k ≠ 3 by rintro rfl; rw [hdn] at hdk; cases hdk) |> fun hk => by simp [useA, useS, hk])))) ?_
              exact ⟨_, rfl, ⟨wy.heap.size, upd_same f 40 _, heap_alloc_new wy _⟩, hG.below ((Below.refl _ _).alloc hG.sz _), fun j _ _ _ _ _ h => h.below ((Below.refl _ _).alloc (Nat.le_refl _) _)⟩
            · obtain ⟨g, eg, hg⟩ := (hF ⟨3, .data⟩ (by simp) rfl (fun k _ hdk => (show k ≠ 4 by rintro rfl; rw [hdn] at hdk; cases hdk) |> fun hk => by simp [useA, useS, hk]))
              have hv : OwnV wy M ((canon fr dsWa f).eval (.tmp 38)) (listD D 0) := by rw [C38]; exact (hF ⟨1, .data⟩ (by simp) rfl (fun k _ hdk => (show k ≠ 4 by rintro rfl; rw [hdn] at hdk; cases hdk) |> fun hk => by simp [useA, useS, hk]))
              refine wpOp_app1E ho2 (wanted_none rfl) _ _ M g 1 (listD D 0) X rfl hv (C40.trans eg) (by rw [listD_len]; exact HL.out) hg hG.sz ?_
              intro v wv hO hB hsh
              refine ⟨_, rfl, ?_, hG.below hB, ?_⟩
              · show OwnV wv M (upd f 41 v 41) (listD D 0 ++ [X]) ∧ ∃ g c, upd f 41 v 41 = .slice (some ⟨g, 0, none⟩) ((listD D 0).length + 1) c
                rw [upd_same]
                exact ⟨hO, hsh⟩
              · intro j hj hne _ _ hu h
                match j, hne, hu, h with
                | 0, _, _, h => exact h
                | 1, _, hu, _ => cases hu
                | 2, _, _, h => exact h
                | 3, _, hu, _ => cases hu
                | 4, hne, _, _ => exact absurd rfl hne
                | 5, _, _, h => exact h
                | (m + 6), _, _, _ => exact trivial
            · refine wpOp_runG ho2 (wanted_none rfl) (q_assignE (canon fr dsWa f).eval _ wy _ rfl) ?_
              refine ⟨_, rfl, ?_, hG, fun j _ _ _ _ _ h => h⟩
              show upd f 10 _ 10 = upd f 10 _ 41
              rw [upd_same, upd_ne f _ (by decide)]
              exact C41
          · intro f wy hG hall
            have h4 := hall 4 (by decide) (fun k _ => by simp [useA])
            have h5 : f 10 = f 41 := hall 5 (by decide) (fun k _ => by simp [useA])
            obtain ⟨h4, g, c, h6⟩ := h4
            refine hK _ _ (Met.intro (hJ _ _ ⟨f, congrArg (fun z => canon z dsWa f) HFR.out, ?_, ⟨g, c, ?_⟩, hG⟩))
            · rw [h5]; exact h4
            · rw [h5, h6, listD_len]
        rintro _ wa ⟨f, rfl, hO, ⟨g, c, hfs⟩, hG⟩
        rw [hfs] at hO
        have HOa : Hid (OwnV wa M (.slice (some ⟨g, 0, none⟩) (0 + 1) c) (listD D 0 ++ [X])) := hO
        have HGa : Hid (Two W p q M X wa) := hG
        simp only [canon, dsWa, List.foldl, Act.put, List.setIfInBounds_toArray, List.set_cons_succ, List.set_cons_zero]
        rw [hfs]
        clear hO hG hfs HG
        go_wp2_with fail
        refine (implSeq_any (some ⟨g, 0, none⟩) (0 + 1) c (snocD D 0 X) wa (own_snoc HOa.out) HFF.out).mono ?_
        rintro e wb ⟨rfl, hBb⟩
        have HG : Hid (Two W p q M X wb) := HGa.out.below (hBb.mono HGa.out.sz)
        have HO : Hid (OwnV wb M (.slice (some ⟨g, 0, none⟩) (0 + 1) c) (listD D 0 ++ [X])) := HOa.out.below hBb
        clear hBb HGa HOa
        obtain ⟨s, hs⟩ : ∃ s, s = seqB (snocD D 0 X) (0 + 1) := ⟨_, rfl⟩
        rw [← hs]
        cases s with
        | false =>
          have HN : Hid (okW D 0 author X = false) := okW_no2 hs.symm
          clear hs
          obtain ⟨v0, v1, v2, v3, hrw⟩ := HG.out.row4
          have HRW := (show Hid _ from hrw)
          have r0 : wb.cell? ⟨q, 0, none⟩ = some v0 := cellN hrw
          have r1 : wb.cell? ⟨q, 1, none⟩ = some v1 := cellN hrw
          have r2 : wb.cell? ⟨q, 2, none⟩ = some v2 := cellN hrw
          have r3 : wb.cell? ⟨q, 3, none⟩ = some v3 := cellN hrw
          have s0 : wb.frozen? ⟨q, 0, none⟩ = false := frozN hrw
          have s1 : wb.frozen? ⟨q, 1, none⟩ = false := frozN hrw
          have s2 : wb.frozen? ⟨q, 2, none⟩ = false := frozN hrw
          have s3 : wb.frozen? ⟨q, 3, none⟩ = false := frozN hrw
          clear hrw
          go_wp2
          refine bodyPost_ret (results_trt (p := 7) (u := 6) (v := 8) rfl _ _ q 36 _ _ _ rfl (put4 _ _ _ _ HRW.out) Try.underlying36 rfl infoE4) rfl ?_
          exact WoP.no HN.out ((((HG.out.bel.setCell HG.out.lq _).setCell HG.out.lq _).setCell HG.out.lq _).setCell HG.out.lq _)
        | true =>
          have HN : Hid (okW D 0 author X = true) := okW_of HS.out HA.out hs.symm
          clear hs
          go_wp2_with fail
          refine wp_cut_to (fun a0 t w' => ∃ f, t = canon a0 dsWr f ∧ f 6 = .slice (some ⟨g, 0, none⟩) (0 + 1) c ∧ f 8 = .bool true ∧ w'.heap[q]? = some (.cells (enc4 X).toArray 36 (0, 0)) ∧ OwnV w' W.heap.size (.slice (some ⟨g, 0, none⟩) (0 + 1) c) (listD D 0 ++ [X]) ∧ Below W.heap.size W w') ?_ ?_
          rotate_left
          · intro J K' hJ hK
            refine wp_letter ?_
            intro fr hfr
            have hsz : 47 < fr.tmps.size := by rw [hfr]; exact Nat.le_of_ble_eq_true rfl
            have t10 : fr.eval (.tmp 10) = .slice (some ⟨g, 0, none⟩) (0 + 1) c := by rw [hfr]; rfl
            have t5 : fr.eval (.tmp 5) = .pointer (some ⟨p, 0, none⟩) := by rw [hfr]; rfl
            have t7 : fr.eval (.tmp 7) = .pointer (some ⟨q, 0, none⟩) := by rw [hfr]; rfl
            have HFR := (show Hid _ from hfr)
            clear hfr
            refine wp_region_use (by kernel_rfl) (by kernel_rfl) dsWr slotWr (ReF 46 47 6 8 q (.slice (some ⟨g, 0, none⟩) (0 + 1) c) X) (Sm wb q) (fun _ _ => false) ⟨fun _ _ => rfl, rfl, rfl, rfl, rfl, HG.out.row⟩ ?_ ?_ ?_ ?_ ?_
            · intro j f f' wy hj he h
              match j, hj with
              | 0, _ =>
                have e0 : f 46 = f' 46 := he 0 (by kernel_rfl)
                simp only [ReF, e0] at h ⊢
                exact h
              | 1, _ =>
                have e1 : f 47 = f' 47 := he 1 (by kernel_rfl)
                simp only [ReF, e1] at h ⊢
                exact h
              | 2, _ =>
                have e2 : f 6 = f' 6 := he 2 (by kernel_rfl)
                simp only [ReF, e2] at h ⊢
                exact h
              | 3, _ =>
                simp only [ReF] at h ⊢
                exact h
              | 4, _ =>
                have e4 : f 8 = f' 8 := he 4 (by kernel_rfl)
                simp only [ReF, e4] at h ⊢
                exact h
            · intro i hi
              exact slotWr_mem i hi
            · intro i j hi hj q
              exact slotWr_inj i j hi hj q
            · intro ops hops done f wy j oo hG ho hdn hcl hd hF
              have ho2 := ho
              rw [hops] at ho
              have hj : j < 5 := by
                rcases Nat.lt_or_ge j 5 with h | h
                · exact h
                · rw [Array.getElem?_eq_none (by simpa using h)] at ho; cases ho
              have N10 := (canon_eval_ne fr dsWr f 10 (by decide)).trans t10
              have N5 := (canon_eval_ne fr dsWr f 5 (by decide)).trans t5
              have N7 := (canon_eval_ne fr dsWr f 7 (by decide)).trans t7
              have C46 := canon_eval fr dsWr f 46 (by decide) (Nat.lt_of_le_of_lt (by decide) hsz)
              have C47 := canon_eval fr dsWr f 47 (by decide) (Nat.lt_of_le_of_lt (by decide) hsz)
              have C6 := canon_eval fr dsWr f 6 (by decide) (Nat.lt_of_le_of_lt (by decide) hsz)
              have C44 := canon_eval fr dsWr f 44 (by decide) (Nat.lt_of_le_of_lt (by decide) hsz)
              have C8 := canon_eval fr dsWr f 8 (by decide) (Nat.lt_of_le_of_lt (by decide) hsz)
              have hj' : j = 0 ∨ j = 1 ∨ j = 2 ∨ j = 3 ∨ j = 4 := by omega
              rcases hj' with rfl | rfl | rfl | rfl | rfl <;> simp only [List.getElem?_toArray, List.getElem?_cons_succ, List.getElem?_cons_zero, Option.some.injEq] at ho <;> subst ho
              · refine wpOp_runG ho2 (wanted_none rfl) (q_moveE (canon fr dsWr f).eval _ wy _ rfl) ?_
                exact ⟨_, rfl, (upd_same f 46 _).trans N10, hG, fun j _ _ _ _ _ h => h⟩
              · refine wpOp_runG ho2 (wanted_none rfl) (q_loadE (canon fr dsWr f).eval _ wy _ p X rfl N5 ((hG.blk p HG.out.ne).trans HG.out.bx)) ?_
                exact ⟨_, rfl, upd_same f 47 _, hG, fun j _ _ _ _ _ h => h⟩
              · refine wpOp_runG ho2 (wanted_none rfl) (q_assignE (canon fr dsWr f).eval _ wy _ rfl) ?_
                exact ⟨_, rfl, (upd_same f 6 _).trans (C46.trans (hF ⟨0, .data⟩ (by simp) rfl (fun k _ hdk => (show k ≠ 2 by rintro rfl; rw [hdn] at hdk; cases hdk) |> fun hk => by simp [useA, useS, hk]))), hG, fun j _ _ _ _ _ h => h⟩
              · obtain ⟨c, hc, hr⟩ := hG.row
                refine wpOp_storeE ho2 (wanted_none rfl) _ _ q X rfl N7 (C47.trans (hF ⟨1, .data⟩ (by simp) rfl (fun k _ hdk => (show k ≠ 3 by rintro rfl; rw [hdn] at hdk; cases hdk) |> fun hk => by simp [useA, useS, hk]))) hc hr ?_
                intro wv z1 z2 z3 z4 z5 z6
                exact ⟨f 44, (putSame fr dsWr f 44 (by decide)).symm, z1, ⟨fun k hk => (z2 k hk).trans (hG.blk k hk), z3.trans hG.size, z4.trans hG.os, z5.trans hG.tape, z6.trans hG.output, (enc4 X).toArray, rfl, z1⟩, fun j _ _ _ _ _ h => h.keep (fun _ => z1)⟩
              · refine wpOp_runG ho2 (wanted_none rfl) (q_assignE (canon fr dsWr f).eval _ wy _ rfl) ?_
                exact ⟨.bool true, rfl, upd_same f 8 _, hG, fun j _ _ _ _ _ h => h⟩
            · intro f wy hG hall
              refine hK _ _ (Met.intro (hJ _ _ ⟨f, congrArg (fun z => canon z dsWr f) HFR.out, hall 2 (by decide) (fun _ _ => rfl), hall 4 (by decide) (fun _ _ => rfl), hall 3 (by decide) (fun _ _ => rfl), HG.out.ends hG HO.out⟩))
          rintro _ wf ⟨f, rfl, h6, h8, hrow, hO, hB⟩
          simp only [canon, dsWr, List.foldl, Act.put, List.setIfInBounds_toArray, List.set_cons_succ, List.set_cons_zero]
          rw [h6, h8]
          have HR := (show Hid _ from hrow)
          have HO2 : Hid (OwnV wf W.heap.size (.slice (some ⟨g, 0, none⟩) (0 + 1) c) (listD D 0 ++ [X])) := hO
          have HB2 : Hid (Below W.heap.size W wf) := hB
          clear h6 h8 hrow hO hB
          go_wp2
          refine bodyPost_ret (results_trt (p := 7) (u := 6) (v := 8) rfl _ _ q 36 _ _ _ rfl HR.out Try.underlying36 rfl infoE4) rfl ?_
          exact WoP.yes HN.out HO2.out HB2.out
end Go.Proofs.Ytjfciokpnhnhbaa
