/-
  The text's SeqInserted. No condition but that the slice reads.
-/
import Derived.Test.YtjfciokpnhnhbaaSqIm
namespace Go.Proofs.Ytjfciokpnhnhbaa
open Go.RowKit
set_option linter.unusedVariables false
set_option linter.unusedSimpArgs false

theorem snoc_last (D : Nat → Ev) (n : Nat) (x : Ev) : snocD D n x n = x := by
  unfold snocD
  rw [List.getD_eq_getElem?_getD, List.getElem?_append_right (by rw [listD_len]; exact Nat.le_refl _), listD_len]
  simp
theorem okI_sg {D : Nat → Ev} {n : Nat} {author z : Int} {sg : ByteArray} (h : sgB sg = false) : okI D n author z sg = false := by
  unfold okI okW
  cases hk : seqB (snocD D n (opI D n author z sg)) (n + 1) with
  | false => rw [Bool.and_false, Bool.and_false]
  | true =>
    have h1 := allB_at (seqB_parts hk).2 (Nat.lt_succ_self n)
    unfold okS kindB at h1
    rw [snoc_last, if_pos (show (opI D n author z sg).b = 1 from rfl), show (opI D n author z sg).d = sg from rfl, h] at h1
    simp at h1
theorem okI_no {D : Nat → Ev} {n : Nat} {author z : Int} {sg : ByteArray} (h : (seqB D n && inB 1 9 author) = false) : okI D n author z sg = false := by unfold okI; rw [okW_no1 h, Bool.and_false]
theorem okD_no {D : Nat → Ev} {n : Nat} {author z : Int} (h : (seqB D n && inB 1 9 author) = false) : okD D n author z = false := by unfold okD; rw [okW_no1 h, Bool.and_false]

set_option maxHeartbeats 1000000 in
theorem l10New_any (a : Option Addr) (len cap : Nat) (D : Nat → Ev) (author : Int) (w : World) (h : IsEvs w a len cap D) (hs : seqB D len = true) (ha : inB 1 9 author = true) :
    Calls Try.prog 50 #[.slice a len cap, .int .i64 author] w fun e w' => e = .returned (.int .i64 (nid D len author)) ∧ w' = w := by
  have hau : 1 ≤ author ∧ author ≤ 9 := by unfold inB at ha; simpa using ha
  have hz := last_in hs
  have h40 := (seqB_parts hs).1
  by_cases h0 : 0 < len
  · obtain ⟨n, hn⟩ : ∃ n, len = n + 1 := ⟨len - 1, by omega⟩
    subst hn
    obtain ⟨b, off, rfl, hb, hc⟩ := h.2.2 h0
    obtain ⟨z, hz'⟩ : ∃ z, z = lastA D (n + 1) := ⟨_, rfl⟩
    have c0 : w.cell? ⟨b, off + n * 4, none⟩ = some (.int .i64 z) := by
      have e : z = (D n).a := by rw [hz']; unfold lastA; simp
      rw [e]
      exact (hc n (by omega)).c0
    rw [← hz'] at hz
    have HN : Hid (nid D (n + 1) author = 10 * (z / 10 + 1) + author) := by show _ = _; unfold nid; rw [← hz']
    clear hc hz' h0 h hs ha
    go_enter Try.func50, Try.ntmps50
    go_wp2
    go_ret
    exact ⟨ret_int HN.out.symm, rfl⟩
  · have h1 : len = 0 := by omega
    subst h1
    have HN : Hid (nid D 0 author = 10 + author) := rfl
    clear h h0 hz hs ha
    go_enter Try.func50, Try.ntmps50
    go_wp2
    go_ret
    exact ⟨ret_int HN.out.symm, rfl⟩
def dsIa : List Nat := [49, 50, 51, 52, 53, 54, 13]
def slotIa (j : Nat) : Nat := dsIa.getD j 0
theorem slotIa_inj (i j : Nat) (hi : i < 7) (hj : j < 7) (q : slotIa i = slotIa j) : i = j := by
  have h : ∀ i : Fin 7, ∀ j : Fin 7, slotIa i.val = slotIa j.val → i.val = j.val := by decide
  exact h ⟨i, hi⟩ ⟨j, hj⟩ q
theorem slotIa_mem (i : Nat) (hi : i < 7) : slotIa i ∈ dsIa := by
  have h : ∀ i : Fin 7, slotIa i.val ∈ dsIa := by decide
  exact h ⟨i, hi⟩
def dsIr : List Nat := [59, 60, 8, 57, 10]
def slotIr (j : Nat) : Nat := dsIr.getD j 0
theorem slotIr_inj (i j : Nat) (hi : i < 5) (hj : j < 5) (q : slotIr i = slotIr j) : i = j := by
  have h : ∀ i : Fin 5, ∀ j : Fin 5, slotIr i.val = slotIr j.val → i.val = j.val := by decide
  exact h ⟨i, hi⟩ ⟨j, hj⟩ q
theorem slotIr_mem (i : Nat) (hi : i < 5) : slotIr i ∈ dsIr := by
  have h : ∀ i : Fin 5, slotIr i.val ∈ dsIr := by decide
  exact h ⟨i, hi⟩

set_option maxRecDepth 10000 in
set_option maxHeartbeats 8000000 in
theorem specInserted_any (a : Option Addr) (len cap : Nat) (D : Nat → Ev) (author z : Int) (sg : ByteArray) (hsg : sg.size ≤ 9223372036854775807) (W : World) (h : IsEvs W a len cap D) (hF : ∀ i, i < len → (D i).in) :
    Calls Try.prog 19 #[.slice a len cap, .int .i64 author, .int .i64 z, .string sg] W (SR (okI D len author z sg) (listD D len ++ [opI D len author z sg]) (opI D len author z sg) W) := by
  have HE : Hid (IsEvs W a len cap D) := h
  have HFF : Hid (∀ i, i < len → (D i).d.size ≤ 9223372036854775807) := fun i hi => (hF i hi).1
  obtain ⟨X, hX⟩ : ∃ X, X = opI D len author z sg := ⟨_, rfl⟩
  have HXE : Hid (opI D len author z sg = X) := hX.symm
  have HFX : Hid (∀ i, i < len + 1 → (snocD D len X i).d.size ≤ 9223372036854775807) := fun i hi => by
    by_cases e : i < len
    · have : snocD D len X i = D i := by
        unfold snocD
        rw [List.getD_eq_getElem?_getD, List.getElem?_append_left (by rw [listD_len]; exact e), ← List.getD_eq_getElem?_getD]
        exact listD_at D len i e
      rw [this]
      exact (hF i e).1
    · have e' : i = len := by omega
      rw [e', snoc_last, hX]
      exact hsg
  obtain ⟨Y, hY⟩ : ∃ Y, Y = W.alloc (.cells #[.int .i64 0, .int .i64 0, .int .i64 0, .string ⟨#[]⟩] 36) := ⟨_, rfl⟩
  have HY := (show Hid _ from hY)
  have HYB : Hid (Below W.heap.size W Y) := by rw [hY]; exact (Below.refl _ _).alloc (Nat.le_refl _) _
  have HY0 : Hid (Y.heap[W.heap.size]? = some (.cells #[.int .i64 0, .int .i64 0, .int .i64 0, .string ⟨#[]⟩] 36 (0, 0))) := by rw [hY]; exact heap_alloc_new W _
  clear hY h hF hX
  go_enter Try.func19, Try.ntmps19
  go_wp2_with fail
  rw [← HY.out]
  refine (specSeq_any a len cap D Y (HE.out.below HYB.out) HFF.out).mono ?_
  rintro e w1 ⟨rfl, hB1⟩
  have HB1 : Hid (Below W.heap.size W w1) := HYB.out.trans (hB1.mono HYB.out.size)
  have hrw : w1.heap[W.heap.size]? = some (.cells #[.int .i64 0, .int .i64 0, .int .i64 0, .string ⟨#[]⟩] 36 (0, 0)) := (hB1.block _ (lt_of_block HY0.out)).trans HY0.out
  have HRW := (show Hid _ from hrw)
  have r0 : w1.cell? ⟨W.heap.size, 0, none⟩ = some (.int .i64 0) := cellN hrw
  have r1 : w1.cell? ⟨W.heap.size, 1, none⟩ = some (.int .i64 0) := cellN hrw
  have r2 : w1.cell? ⟨W.heap.size, 2, none⟩ = some (.int .i64 0) := cellN hrw
  have r3 : w1.cell? ⟨W.heap.size, 3, none⟩ = some (.string ⟨#[]⟩) := cellN hrw
  have s0 : w1.frozen? ⟨W.heap.size, 0, none⟩ = false := frozN hrw
  have s1 : w1.frozen? ⟨W.heap.size, 1, none⟩ = false := frozN hrw
  have s2 : w1.frozen? ⟨W.heap.size, 2, none⟩ = false := frozN hrw
  have s3 : w1.frozen? ⟨W.heap.size, 3, none⟩ = false := frozN hrw
  clear hrw
  obtain ⟨s, hs⟩ : ∃ s, s = seqB D len := ⟨_, rfl⟩
  rw [← hs]
  cases s with
  | false =>
    have HN : Hid (okI D len author z sg = false) := okI_no (by rw [← hs]; rfl)
    clear hs
    go_wp2
    refine bodyPost_ret (results_trt (p := 9) (u := 8) (v := 10) rfl _ _ W.heap.size 36 _ _ _ rfl (put4 _ _ _ _ HRW.out) Try.underlying36 rfl infoE4) rfl ?_
    exact SR.no HN.out (put4_bel HB1.out (Nat.le_refl _))
  | true =>
    have HS : Hid (seqB D len = true) := hs.symm
    have HL : Hid (len ≤ 1048576) := by have := (seqB_parts hs.symm).1; show _ ≤ _; omega
    clear hs
    go_wp2_with fail
    refine (in_any author 1 9 _ rfl w1).mono ?_
    rintro e wq ⟨rfl, hwq⟩
    rw [hwq]
    clear hwq wq
    obtain ⟨s, hs⟩ : ∃ s, s = inB 1 9 author := ⟨_, rfl⟩
    rw [← hs]
    cases s with
    | false =>
      have HN : Hid (okI D len author z sg = false) := okI_no (by rw [← hs, Bool.and_false])
      clear hs
      go_wp2
      refine bodyPost_ret (results_trt (p := 9) (u := 8) (v := 10) rfl _ _ W.heap.size 36 _ _ _ rfl (put4 _ _ _ _ HRW.out) Try.underlying36 rfl infoE4) rfl ?_
      exact SR.no HN.out (put4_bel HB1.out (Nat.le_refl _))
    | true =>
      have HA : Hid (inB 1 9 author = true) := hs.symm
      clear hs
      go_wp2_with fail
      refine (specSign_any sg hsg _ rfl w1).mono ?_
      rintro e wq ⟨rfl, hwq⟩
      rw [hwq]
      clear hwq wq
      obtain ⟨s, hs⟩ : ∃ s, s = sgB sg := ⟨_, rfl⟩
      rw [← hs]
      cases s with
      | false =>
        have HN : Hid (okI D len author z sg = false) := okI_sg hs.symm
        clear hs
        go_wp2
        refine bodyPost_ret (results_trt (p := 9) (u := 8) (v := 10) rfl _ _ W.heap.size 36 _ _ _ rfl (put4 _ _ _ _ HRW.out) Try.underlying36 rfl infoE4) rfl ?_
        exact SR.no HN.out (put4_bel HB1.out (Nat.le_refl _))
      | true =>
        clear hs
        go_wp2_with fail
        refine (l10Ids_any a len cap D w1 (HE.out.below HB1.out) HS.out).mono ?_
        rintro e w2 ⟨v, rfl, hO, hB2⟩
        have HB2 : Hid (Below W.heap.size W w2) := HB1.out.trans (hB2.mono HB1.out.size)
        have hrw : w2.heap[W.heap.size]? = some (.cells #[.int .i64 0, .int .i64 0, .int .i64 0, .string ⟨#[]⟩] 36 (0, 0)) := (hB2.block _ (lt_of_block HRW.out)).trans HRW.out
        clear r0 r1 r2 r3 s0 s1 s2 s3 HRW
        have HRW := (show Hid _ from hrw)
        have r0 : w2.cell? ⟨W.heap.size, 0, none⟩ = some (.int .i64 0) := cellN hrw
        have r1 : w2.cell? ⟨W.heap.size, 1, none⟩ = some (.int .i64 0) := cellN hrw
        have r2 : w2.cell? ⟨W.heap.size, 2, none⟩ = some (.int .i64 0) := cellN hrw
        have r3 : w2.cell? ⟨W.heap.size, 3, none⟩ = some (.string ⟨#[]⟩) := cellN hrw
        have s0 : w2.frozen? ⟨W.heap.size, 0, none⟩ = false := frozN hrw
        have s1 : w2.frozen? ⟨W.heap.size, 1, none⟩ = false := frozN hrw
        have s2 : w2.frozen? ⟨W.heap.size, 2, none⟩ = false := frozN hrw
        have s3 : w2.frozen? ⟨W.heap.size, 3, none⟩ = false := frozN hrw
        clear hrw
        obtain ⟨L, hL⟩ : ∃ L, L = idsL D len := ⟨_, rfl⟩
        have HLL : Hid (L = idsR D len) := by rw [hL]; exact (idsR_yes HS.out).symm
        have hL40 : L.length ≤ 40 := by rw [HLL.out]; exact idsR_len D len
        rw [← hL] at hO
        obtain ⟨va, vc, rfl, l1, l2, hc⟩ := hO.rd
        obtain ⟨m, hm⟩ : ∃ m, m = L.length := ⟨_, rfl⟩
        rw [← hm] at l1 hc hL40 ⊢
        have HM : Hid (m = L.length) := hm
        clear hB2 hO hL hm
        go_wp2_with fail
        refine (in_any z 0 (m : Int) _ rfl w2).mono ?_
        rintro e wq ⟨rfl, hwq⟩
        rw [hwq]
        clear hwq wq
        obtain ⟨s, hs⟩ : ∃ s, s = inB 0 (m : Int) z := ⟨_, rfl⟩
        rw [← hs]
        cases s with
        | false =>
          have HN : Hid (okI D len author z sg = false) := by show _ = _; unfold okI; rw [← HLL.out, ← HM.out, ← hs]; rfl
          clear hs
          go_wp2
          refine bodyPost_ret (results_trt (p := 9) (u := 8) (v := 10) rfl _ _ W.heap.size 36 _ _ _ rfl (put4 _ _ _ _ HRW.out) Try.underlying36 rfl infoE4) rfl ?_
          exact SR.no HN.out (put4_bel HB2.out (Nat.le_refl _))
        | true =>
          have HOK : Hid (okI D len author z sg = okW D len author X) := by show _ = _; unfold okI; rw [HXE.out, ← HLL.out, ← HM.out, ← hs, Bool.true_and]
          have hzz : 0 ≤ z ∧ z ≤ m := by unfold inB at hs; simpa using hs.symm
          clear hs
          go_wp2_with fail
          refine (l10New_any a len cap D author w2 (HE.out.below HB2.out) HS.out HA.out).mono ?_
          rintro e wq ⟨rfl, hwq⟩
          rw [hwq]
          clear hwq wq
          obtain ⟨N, hN⟩ : ∃ N, N = nid D len author := ⟨_, rfl⟩
          have HNN : Hid (N = nid D len author) := hN
          rw [← hN]
          clear hN
          by_cases hz2 : 0 < z
          · obtain ⟨j, rfl⟩ : ∃ j : Nat, z = (j : Int) + 1 := ⟨(z - 1).toNat, by omega⟩
            have hjm : j < m := by omega
            obtain ⟨b, off, rfl, hb, hcc⟩ := hc (by omega)
            obtain ⟨y, hy⟩ : ∃ y, y = L.getD j 0 := ⟨_, rfl⟩
            have c0 := hcc j hjm
            rw [← hy] at c0
            have HYY : Hid (y = L.getD j 0) := hy
            clear hcc hc hy
            go_wp2_with fail
            obtain ⟨WZ, hWZ⟩ : ∃ WZ, WZ = w2.alloc (.cells #[.int .i64 N, .int .i64 1, .int .i64 (y), .string sg] 36) := ⟨_, rfl⟩
            rw [← hWZ]
            obtain ⟨p, hp⟩ : ∃ p, p = w2.heap.size := ⟨_, rfl⟩
            obtain ⟨q, hq⟩ : ∃ q, q = W.heap.size := ⟨_, rfl⟩
            obtain ⟨M, hM⟩ : ∃ M, M = p + 1 := ⟨_, rfl⟩
            have HG : Hid (Two W p q M X WZ) := by
              have hX : X = ⟨N, 1, y, sg⟩ := by rw [← HXE.out, HNN.out]; unfold opI aft; rw [if_pos (by omega), ← HLL.out, HYY.out]; congr 2; omega
              have hqp : W.heap.size < w2.heap.size := lt_of_block HRW.out
              have hB : Below w2.heap.size w2 WZ := by rw [hWZ]; exact (Below.refl _ _).alloc (Nat.le_refl _) _
              refine ⟨HB2.out.trans (hB.mono HB2.out.size), by omega, by omega, by omega, by omega, by omega, by rw [hWZ, hM, hp]; simp, ?_, #[.int .i64 0, .int .i64 0, .int .i64 0, .string ⟨#[]⟩], rfl, ?_⟩
              · rw [hWZ, hp, hX]
                exact heap_alloc_new w2 _
              · rw [hq]
                exact (hB.block _ hqp).trans HRW.out
            rw [← hq, ← hp]
            clear r0 r1 r2 r3 s0 s1 s2 s3 HRW hWZ hp hq hM c0

            refine wp_cut_to (fun a0 t w' => ∃ f, t = canon a0 dsIa f ∧ OwnV w' M (f 13) (listD D len ++ [X]) ∧ (∃ g c, f 13 = .slice (some ⟨g, 0, none⟩) (len + 1) c) ∧ Two W p q M X w') ?_ ?_
            rotate_left
            · intro J K' hJ hK
              refine wp_letter ?_
              intro fr hfr
              have hsz : 54 < fr.tmps.size := by rw [hfr]; exact Nat.le_of_ble_eq_true rfl
              have t0 : fr.eval (.tmp 0) = .slice a len cap := by rw [hfr]; rfl
              have t12 : fr.eval (.tmp 12) = .pointer (some ⟨p, 0, none⟩) := by rw [hfr]; rfl
              have HFR := (show Hid _ from hfr)
              clear hfr
              refine wp_region_use (by kernel_rfl) (by kernel_rfl) dsIa slotIa (AsF 49 50 51 52 53 54 13 M (.slice a len cap) (listD D len) X) (Two W p q M X) useS HG.out.draws ?_ ?_ ?_ ?_ ?_
              · intro j f f' wy hj he h
                match j, hj with
                | 0, _ =>
                  have e0 : f 49 = f' 49 := he 0 (by kernel_rfl)
                  simp only [AsF, e0] at h ⊢
                  exact h
                | 1, _ =>
                  have e1 : f 50 = f' 50 := he 1 (by kernel_rfl)
                  simp only [AsF, e1] at h ⊢
                  exact h
                | 2, _ =>
                  have e2 : f 51 = f' 51 := he 2 (by kernel_rfl)
                  simp only [AsF, e2] at h ⊢
                  exact h
                | 3, _ =>
                  have e3 : f 52 = f' 52 := he 3 (by kernel_rfl)
                  simp only [AsF, e3] at h ⊢
                  exact h
                | 4, _ =>
                  have e4 : f 53 = f' 53 := he 4 (by kernel_rfl)
                  simp only [AsF, e4] at h ⊢
                  exact h
                | 5, _ =>
                  have e5 : f 54 = f' 54 := he 5 (by kernel_rfl)
                  simp only [AsF, e5] at h ⊢
                  exact h
                | 6, _ =>
                  have e5 : f 54 = f' 54 := he 5 (by kernel_rfl)
                  have e6 : f 13 = f' 13 := he 6 (by kernel_rfl)
                  simp only [AsF, e5, e6] at h ⊢
                  exact h
              · intro i hi
                exact slotIa_mem i hi
              · intro i j hi hj q
                exact slotIa_inj i j hi hj q
              · intro ops hops done f wy j oo hG ho hdn hcl hd hF
                have ho2 := ho
                rw [hops] at ho
                have hj : j < 7 := by
                  rcases Nat.lt_or_ge j 7 with h | h
                  · exact h
                  · rw [Array.getElem?_eq_none (by simpa using h)] at ho; cases ho
                have N0 := (canon_eval_ne fr dsIa f 0 (by decide)).trans t0
                have N12 := (canon_eval_ne fr dsIa f 12 (by decide)).trans t12
                have C49 := canon_eval fr dsIa f 49 (by decide) (Nat.lt_of_le_of_lt (by decide) hsz)
                have C50 := canon_eval fr dsIa f 50 (by decide) (Nat.lt_of_le_of_lt (by decide) hsz)
                have C51 := canon_eval fr dsIa f 51 (by decide) (Nat.lt_of_le_of_lt (by decide) hsz)
                have C52 := canon_eval fr dsIa f 52 (by decide) (Nat.lt_of_le_of_lt (by decide) hsz)
                have C53 := canon_eval fr dsIa f 53 (by decide) (Nat.lt_of_le_of_lt (by decide) hsz)
                have C54 := canon_eval fr dsIa f 54 (by decide) (Nat.lt_of_le_of_lt (by decide) hsz)
                have C13 := canon_eval fr dsIa f 13 (by decide) (Nat.lt_of_le_of_lt (by decide) hsz)
                have hj' : j = 0 ∨ j = 1 ∨ j = 2 ∨ j = 3 ∨ j = 4 ∨ j = 5 ∨ j = 6 := by omega
                rcases hj' with rfl | rfl | rfl | rfl | rfl | rfl | rfl <;> simp only [List.getElem?_toArray, List.getElem?_cons_succ, List.getElem?_cons_zero, Option.some.injEq] at ho <;> subst ho
                · refine wpOp_runG ho2 (wanted_none rfl) (q_lit0E (canon fr dsIa f).eval _ wy rfl) ?_
                  exact ⟨_, rfl, ⟨wy.heap.size, upd_same f 49 _, hG.sz, heap_alloc_new wy _⟩, hG.below ((Below.refl _ _).alloc hG.sz _), fun j _ _ _ _ _ h => h.below ((Below.refl _ _).alloc (Nat.le_refl _) _)⟩
                · refine wpOp_runG ho2 (wanted_none rfl) (q_moveE (canon fr dsIa f).eval _ wy _ rfl) ?_
                  exact ⟨_, rfl, (upd_same f 50 _).trans N0, hG, fun j _ _ _ _ _ h => h⟩
                · obtain ⟨g, eg, hbg, hg⟩ := (hF ⟨0, .data⟩ (by simp) rfl (fun k _ hdk => (show k ≠ 2 by rintro rfl; rw [hdn] at hdk; cases hdk) |> fun hk => by simp [useA, useS, hk]))
                  refine wpOp_app0E ho2 (wanted_none rfl) _ _ M g a len cap D rfl (C49.trans eg) (C50.trans (hF ⟨1, .data⟩ (by simp) rfl (fun k _ hdk => (show k ≠ 2 by rintro rfl; rw [hdn] at hdk; cases hdk) |> fun hk => by simp [useA, useS, hk]))) hg hbg (HE.out.below hG.bel) HL.out ?_
                  intro v wv hO hB hkeep
                  refine ⟨_, rfl, ?_, hG.below hB, ?_⟩
                  · show OwnV wv M (upd f 51 v 51) (listD D len)
                    rw [upd_same]
                    exact hO
                  · intro j hj hne hdj _ hu h
                    match j, hne, hu, hdj, h with
                    | 0, _, hu, _, _ => cases hu
                    | 1, _, _, _, h => exact h
                    | 2, hne, _, _, _ => exact absurd rfl hne
                    | 3, _, _, _, h => exact h
                    | 4, _, _, _, h =>
                      obtain ⟨g4, e4, h4⟩ := h
                      have hne4 : g4 ≠ g := by
                        rintro rfl
                        rw [hg] at h4
                        cases h4
                      exact ⟨g4, e4, (hkeep g4 (lt_of_block h4) hne4).trans h4⟩
                    | 5, _, _, hdj, _ =>
                      have := hcl 5 (by decide) hdj 2 (by kernel_rfl)
                      rw [hdn] at this
                      cases this
                    | 6, _, _, _, h => exact h
                    | (m + 7), _, _, _, _ => exact trivial
                · refine wpOp_runG ho2 (wanted_none rfl) (q_loadE (canon fr dsIa f).eval _ wy _ p X rfl N12 hG.bx) ?_
                  exact ⟨_, rfl, upd_same f 52 _, hG, fun j _ _ _ _ _ h => h⟩
                · refine wpOp_runG ho2 (wanted_none rfl) (q_lit1E (canon fr dsIa f).eval _ wy _ X rfl (C52.trans (hF ⟨3, .data⟩ (by simp) rfl (fun k _ hdk => (show k ≠ 4 by rintro rfl; rw [hdn] at hdk; cases hdk) |> fun hk => by simp [useA, useS, hk])))) ?_
                  exact ⟨_, rfl, ⟨wy.heap.size, upd_same f 53 _, heap_alloc_new wy _⟩, hG.below ((Below.refl _ _).alloc hG.sz _), fun j _ _ _ _ _ h => h.below ((Below.refl _ _).alloc (Nat.le_refl _) _)⟩
                · obtain ⟨g, eg, hg⟩ := (hF ⟨4, .data⟩ (by simp) rfl (fun k _ hdk => (show k ≠ 5 by rintro rfl; rw [hdn] at hdk; cases hdk) |> fun hk => by simp [useA, useS, hk]))
                  have hv : OwnV wy M ((canon fr dsIa f).eval (.tmp 51)) (listD D len) := by rw [C51]; exact (hF ⟨2, .data⟩ (by simp) rfl (fun k _ hdk => (show k ≠ 5 by rintro rfl; rw [hdn] at hdk; cases hdk) |> fun hk => by simp [useA, useS, hk]))
                  refine wpOp_app1E ho2 (wanted_none rfl) _ _ M g 1 (listD D len) X rfl hv (C53.trans eg) (by rw [listD_len]; exact HL.out) hg hG.sz ?_
                  intro v wv hO hB hsh
                  refine ⟨_, rfl, ?_, hG.below hB, ?_⟩
                  · show OwnV wv M (upd f 54 v 54) (listD D len ++ [X]) ∧ ∃ g c, upd f 54 v 54 = .slice (some ⟨g, 0, none⟩) ((listD D len).length + 1) c
                    rw [upd_same]
                    exact ⟨hO, hsh⟩
                  · intro j hj hne hdj hun hu h
                    match j, hne, hu, hdj, hun, h with
                    | 0, _, _, _, hun, h =>
                      have hd2 : done 2 = true := hd ⟨2, .data⟩ (by simp) rfl
                      have := hun 2 (by decide) hd2
                      cases this
                    | 1, _, _, _, _, h => exact h
                    | 2, _, hu, _, _, _ => cases hu
                    | 3, _, _, _, _, h => exact h
                    | 4, _, hu, _, _, _ => cases hu
                    | 5, hne, _, _, _, _ => exact absurd rfl hne
                    | 6, _, _, _, _, h => exact h
                    | (m + 7), _, _, _, _, _ => exact trivial
                · refine wpOp_runG ho2 (wanted_none rfl) (q_assignE (canon fr dsIa f).eval _ wy _ rfl) ?_
                  refine ⟨_, rfl, ?_, hG, fun j _ _ _ _ _ h => h⟩
                  show upd f 13 _ 13 = upd f 13 _ 54
                  rw [upd_same, upd_ne f _ (by decide)]
                  exact C54
              · intro f wy hG hall
                have h4 := hall 5 (by decide) (fun k _ => by simp [useS])
                have h5 : f 13 = f 54 := hall 6 (by decide) (fun k _ => by simp [useS])
                obtain ⟨h4, g, c, h6⟩ := h4
                refine hK _ _ (Met.intro (hJ _ _ ⟨f, congrArg (fun z => canon z dsIa f) HFR.out, ?_, ⟨g, c, ?_⟩, hG⟩))
                · rw [h5]; exact h4
                · rw [h5, h6, listD_len]
            rintro _ wa ⟨f, rfl, hO, ⟨g, c, hfs⟩, hG⟩
            rw [hfs] at hO
            have HOa : Hid (OwnV wa M (.slice (some ⟨g, 0, none⟩) (len + 1) c) (listD D len ++ [X])) := hO
            have HGa : Hid (Two W p q M X wa) := hG
            simp only [canon, dsIa, List.foldl, Act.put, List.setIfInBounds_toArray, List.set_cons_succ, List.set_cons_zero]
            rw [hfs]
            clear hO hG hfs HG
            go_wp2_with fail
            refine (specSeq_any (some ⟨g, 0, none⟩) (len + 1) c (snocD D len X) wa (own_snoc HOa.out) HFX.out).mono ?_
            rintro e wb ⟨rfl, hBb⟩
            have HG : Hid (Two W p q M X wb) := HGa.out.below (hBb.mono HGa.out.sz)
            have HO : Hid (OwnV wb M (.slice (some ⟨g, 0, none⟩) (len + 1) c) (listD D len ++ [X])) := HOa.out.below hBb
            clear hBb HGa HOa
            obtain ⟨s, hs⟩ : ∃ s, s = seqB (snocD D len X) (len + 1) := ⟨_, rfl⟩
            rw [← hs]
            cases s with
            | false =>
              have HN : Hid (okI D len author ((j : Int) + 1) sg = false) := HOK.out.trans (okW_no2 hs.symm)
              clear hs
              obtain ⟨v0, v1, v2, v3, hrw⟩ := HG.out.row4
              have HRW := (show Hid _ from hrw)
              have r0 : wb.cell? ⟨q, 0, none⟩ = some v0 := cellN hrw
              have r1 : wb.cell? ⟨q, 1, none⟩ = some v1 := cellN hrw
              have r2 : wb.cell? ⟨q, 2, none⟩ = some v2 := cellN hrw
              have r3 : wb.cell? ⟨q, 3, none⟩ = some v3 := cellN hrw
              have s0 : wb.frozen? ⟨q, 0, none⟩ = false := frozN hrw
              have s1 : wb.frozen? ⟨q, 1, none⟩ = false := frozN hrw
              have s2 : wb.frozen? ⟨q, 2, none⟩ = false := frozN hrw
              have s3 : wb.frozen? ⟨q, 3, none⟩ = false := frozN hrw
              clear hrw
              go_wp2
              refine bodyPost_ret (results_trt (p := 9) (u := 8) (v := 10) rfl _ _ q 36 _ _ _ rfl (put4 _ _ _ _ HRW.out) Try.underlying36 rfl infoE4) rfl ?_
              exact SR.no HN.out (put4_bel HG.out.bel HG.out.lq)
            | true =>
              have HN : Hid (okI D len author ((j : Int) + 1) sg = true) := HOK.out.trans (okW_of HS.out HA.out hs.symm)
              clear hs
              go_wp2_with fail
              refine wp_cut_to (fun a0 t w' => ∃ f, t = canon a0 dsIr f ∧ f 8 = .slice (some ⟨g, 0, none⟩) (len + 1) c ∧ f 10 = .bool true ∧ w'.heap[q]? = some (.cells (enc4 X).toArray 36 (0, 0)) ∧ OwnV w' W.heap.size (.slice (some ⟨g, 0, none⟩) (len + 1) c) (listD D len ++ [X]) ∧ Below W.heap.size W w') ?_ ?_
              rotate_left
              · intro J K' hJ hK
                refine wp_letter ?_
                intro fr hfr
                have hsz : 60 < fr.tmps.size := by rw [hfr]; exact Nat.le_of_ble_eq_true rfl
                have t13 : fr.eval (.tmp 13) = .slice (some ⟨g, 0, none⟩) (len + 1) c := by rw [hfr]; rfl
                have t12 : fr.eval (.tmp 12) = .pointer (some ⟨p, 0, none⟩) := by rw [hfr]; rfl
                have t9 : fr.eval (.tmp 9) = .pointer (some ⟨q, 0, none⟩) := by rw [hfr]; rfl
                have HFR := (show Hid _ from hfr)
                clear hfr
                refine wp_region_use (by kernel_rfl) (by kernel_rfl) dsIr slotIr (ReF 59 60 8 10 q (.slice (some ⟨g, 0, none⟩) (len + 1) c) X) (Sm wb q) (fun _ _ => false) ⟨fun _ _ => rfl, rfl, rfl, rfl, rfl, HG.out.row⟩ ?_ ?_ ?_ ?_ ?_
                · intro j f f' wy hj he h
                  match j, hj with
                  | 0, _ =>
                    have e0 : f 59 = f' 59 := he 0 (by kernel_rfl)
                    simp only [ReF, e0] at h ⊢
                    exact h
                  | 1, _ =>
                    have e1 : f 60 = f' 60 := he 1 (by kernel_rfl)
                    simp only [ReF, e1] at h ⊢
                    exact h
                  | 2, _ =>
                    have e2 : f 8 = f' 8 := he 2 (by kernel_rfl)
                    simp only [ReF, e2] at h ⊢
                    exact h
                  | 3, _ =>
                    simp only [ReF] at h ⊢
                    exact h
                  | 4, _ =>
                    have e4 : f 10 = f' 10 := he 4 (by kernel_rfl)
                    simp only [ReF, e4] at h ⊢
                    exact h
                · intro i hi
                  exact slotIr_mem i hi
                · intro i j hi hj q
                  exact slotIr_inj i j hi hj q
                · intro ops hops done f wy j oo hG ho hdn hcl hd hF
                  have ho2 := ho
                  rw [hops] at ho
                  have hj : j < 5 := by
                    rcases Nat.lt_or_ge j 5 with h | h
                    · exact h
                    · rw [Array.getElem?_eq_none (by simpa using h)] at ho; cases ho
                  have N13 := (canon_eval_ne fr dsIr f 13 (by decide)).trans t13
                  have N12 := (canon_eval_ne fr dsIr f 12 (by decide)).trans t12
                  have N9 := (canon_eval_ne fr dsIr f 9 (by decide)).trans t9
                  have C59 := canon_eval fr dsIr f 59 (by decide) (Nat.lt_of_le_of_lt (by decide) hsz)
                  have C60 := canon_eval fr dsIr f 60 (by decide) (Nat.lt_of_le_of_lt (by decide) hsz)
                  have C8 := canon_eval fr dsIr f 8 (by decide) (Nat.lt_of_le_of_lt (by decide) hsz)
                  have C57 := canon_eval fr dsIr f 57 (by decide) (Nat.lt_of_le_of_lt (by decide) hsz)
                  have C10 := canon_eval fr dsIr f 10 (by decide) (Nat.lt_of_le_of_lt (by decide) hsz)
                  have hj' : j = 0 ∨ j = 1 ∨ j = 2 ∨ j = 3 ∨ j = 4 := by omega
                  rcases hj' with rfl | rfl | rfl | rfl | rfl <;> simp only [List.getElem?_toArray, List.getElem?_cons_succ, List.getElem?_cons_zero, Option.some.injEq] at ho <;> subst ho
                  · refine wpOp_runG ho2 (wanted_none rfl) (q_moveE (canon fr dsIr f).eval _ wy _ rfl) ?_
                    exact ⟨_, rfl, (upd_same f 59 _).trans N13, hG, fun j _ _ _ _ _ h => h⟩
                  · refine wpOp_runG ho2 (wanted_none rfl) (q_loadE (canon fr dsIr f).eval _ wy _ p X rfl N12 ((hG.blk p HG.out.ne).trans HG.out.bx)) ?_
                    exact ⟨_, rfl, upd_same f 60 _, hG, fun j _ _ _ _ _ h => h⟩
                  · refine wpOp_runG ho2 (wanted_none rfl) (q_assignE (canon fr dsIr f).eval _ wy _ rfl) ?_
                    exact ⟨_, rfl, (upd_same f 8 _).trans (C59.trans (hF ⟨0, .data⟩ (by simp) rfl (fun k _ hdk => (show k ≠ 2 by rintro rfl; rw [hdn] at hdk; cases hdk) |> fun hk => by simp [useA, useS, hk]))), hG, fun j _ _ _ _ _ h => h⟩
                  · obtain ⟨c, hc, hr⟩ := hG.row
                    refine wpOp_storeE ho2 (wanted_none rfl) _ _ q X rfl N9 (C60.trans (hF ⟨1, .data⟩ (by simp) rfl (fun k _ hdk => (show k ≠ 3 by rintro rfl; rw [hdn] at hdk; cases hdk) |> fun hk => by simp [useA, useS, hk]))) hc hr ?_
                    intro wv z1 z2 z3 z4 z5 z6
                    exact ⟨f 57, (putSame fr dsIr f 57 (by decide)).symm, z1, ⟨fun k hk => (z2 k hk).trans (hG.blk k hk), z3.trans hG.size, z4.trans hG.os, z5.trans hG.tape, z6.trans hG.output, (enc4 X).toArray, rfl, z1⟩, fun j _ _ _ _ _ h => h.keep (fun _ => z1)⟩
                  · refine wpOp_runG ho2 (wanted_none rfl) (q_assignE (canon fr dsIr f).eval _ wy _ rfl) ?_
                    exact ⟨.bool true, rfl, upd_same f 10 _, hG, fun j _ _ _ _ _ h => h⟩
                · intro f wy hG hall
                  refine hK _ _ (Met.intro (hJ _ _ ⟨f, congrArg (fun z => canon z dsIr f) HFR.out, hall 2 (by decide) (fun _ _ => rfl), hall 4 (by decide) (fun _ _ => rfl), hall 3 (by decide) (fun _ _ => rfl), HG.out.ends hG HO.out⟩))
              rintro _ wf ⟨f, rfl, h6, h8, hrow, hO, hB⟩
              simp only [canon, dsIr, List.foldl, Act.put, List.setIfInBounds_toArray, List.set_cons_succ, List.set_cons_zero]
              rw [h6, h8]
              have HR := (show Hid _ from hrow)
              have HO2 : Hid (OwnV wf W.heap.size (.slice (some ⟨g, 0, none⟩) (len + 1) c) (listD D len ++ [X])) := hO
              have HB2 : Hid (Below W.heap.size W wf) := hB
              clear h6 h8 hrow hO hB
              go_wp2
              refine bodyPost_ret (results_trt (p := 9) (u := 8) (v := 10) rfl _ _ q 36 _ _ _ rfl HR.out Try.underlying36 rfl infoE4) rfl ?_
              have := SR.yes (L := listD D len ++ [X]) (x := X) (W := W) HN.out HO2.out HB2.out
              rw [← HXE.out] at this
              rw [← HXE.out]
              exact this
          · have hz3 : z = 0 := by omega
            subst hz3
            go_wp2_with fail
            obtain ⟨WZ, hWZ⟩ : ∃ WZ, WZ = w2.alloc (.cells #[.int .i64 N, .int .i64 1, .int .i64 (0), .string sg] 36) := ⟨_, rfl⟩
            rw [← hWZ]
            obtain ⟨p, hp⟩ : ∃ p, p = w2.heap.size := ⟨_, rfl⟩
            obtain ⟨q, hq⟩ : ∃ q, q = W.heap.size := ⟨_, rfl⟩
            obtain ⟨M, hM⟩ : ∃ M, M = p + 1 := ⟨_, rfl⟩
            have HG : Hid (Two W p q M X WZ) := by
              have hX : X = ⟨N, 1, 0, sg⟩ := by rw [← HXE.out, HNN.out]; unfold opI aft; rw [if_neg (by omega)]
              have hqp : W.heap.size < w2.heap.size := lt_of_block HRW.out
              have hB : Below w2.heap.size w2 WZ := by rw [hWZ]; exact (Below.refl _ _).alloc (Nat.le_refl _) _
              refine ⟨HB2.out.trans (hB.mono HB2.out.size), by omega, by omega, by omega, by omega, by omega, by rw [hWZ, hM, hp]; simp, ?_, #[.int .i64 0, .int .i64 0, .int .i64 0, .string ⟨#[]⟩], rfl, ?_⟩
              · rw [hWZ, hp, hX]
                exact heap_alloc_new w2 _
              · rw [hq]
                exact (hB.block _ hqp).trans HRW.out
            rw [← hq, ← hp]
            clear r0 r1 r2 r3 s0 s1 s2 s3 HRW hWZ hp hq hM

            refine wp_cut_to (fun a0 t w' => ∃ f, t = canon a0 dsIa f ∧ OwnV w' M (f 13) (listD D len ++ [X]) ∧ (∃ g c, f 13 = .slice (some ⟨g, 0, none⟩) (len + 1) c) ∧ Two W p q M X w') ?_ ?_
            rotate_left
            · intro J K' hJ hK
              refine wp_letter ?_
              intro fr hfr
              have hsz : 54 < fr.tmps.size := by rw [hfr]; exact Nat.le_of_ble_eq_true rfl
              have t0 : fr.eval (.tmp 0) = .slice a len cap := by rw [hfr]; rfl
              have t12 : fr.eval (.tmp 12) = .pointer (some ⟨p, 0, none⟩) := by rw [hfr]; rfl
              have HFR := (show Hid _ from hfr)
              clear hfr
              refine wp_region_use (by kernel_rfl) (by kernel_rfl) dsIa slotIa (AsF 49 50 51 52 53 54 13 M (.slice a len cap) (listD D len) X) (Two W p q M X) useS HG.out.draws ?_ ?_ ?_ ?_ ?_
              · intro j f f' wy hj he h
                match j, hj with
                | 0, _ =>
                  have e0 : f 49 = f' 49 := he 0 (by kernel_rfl)
                  simp only [AsF, e0] at h ⊢
                  exact h
                | 1, _ =>
                  have e1 : f 50 = f' 50 := he 1 (by kernel_rfl)
                  simp only [AsF, e1] at h ⊢
                  exact h
                | 2, _ =>
                  have e2 : f 51 = f' 51 := he 2 (by kernel_rfl)
                  simp only [AsF, e2] at h ⊢
                  exact h
                | 3, _ =>
                  have e3 : f 52 = f' 52 := he 3 (by kernel_rfl)
                  simp only [AsF, e3] at h ⊢
                  exact h
                | 4, _ =>
                  have e4 : f 53 = f' 53 := he 4 (by kernel_rfl)
                  simp only [AsF, e4] at h ⊢
                  exact h
                | 5, _ =>
                  have e5 : f 54 = f' 54 := he 5 (by kernel_rfl)
                  simp only [AsF, e5] at h ⊢
                  exact h
                | 6, _ =>
                  have e5 : f 54 = f' 54 := he 5 (by kernel_rfl)
                  have e6 : f 13 = f' 13 := he 6 (by kernel_rfl)
                  simp only [AsF, e5, e6] at h ⊢
                  exact h
              · intro i hi
                exact slotIa_mem i hi
              · intro i j hi hj q
                exact slotIa_inj i j hi hj q
              · intro ops hops done f wy j oo hG ho hdn hcl hd hF
                have ho2 := ho
                rw [hops] at ho
                have hj : j < 7 := by
                  rcases Nat.lt_or_ge j 7 with h | h
                  · exact h
                  · rw [Array.getElem?_eq_none (by simpa using h)] at ho; cases ho
                have N0 := (canon_eval_ne fr dsIa f 0 (by decide)).trans t0
                have N12 := (canon_eval_ne fr dsIa f 12 (by decide)).trans t12
                have C49 := canon_eval fr dsIa f 49 (by decide) (Nat.lt_of_le_of_lt (by decide) hsz)
                have C50 := canon_eval fr dsIa f 50 (by decide) (Nat.lt_of_le_of_lt (by decide) hsz)
                have C51 := canon_eval fr dsIa f 51 (by decide) (Nat.lt_of_le_of_lt (by decide) hsz)
                have C52 := canon_eval fr dsIa f 52 (by decide) (Nat.lt_of_le_of_lt (by decide) hsz)
                have C53 := canon_eval fr dsIa f 53 (by decide) (Nat.lt_of_le_of_lt (by decide) hsz)
                have C54 := canon_eval fr dsIa f 54 (by decide) (Nat.lt_of_le_of_lt (by decide) hsz)
                have C13 := canon_eval fr dsIa f 13 (by decide) (Nat.lt_of_le_of_lt (by decide) hsz)
                have hj' : j = 0 ∨ j = 1 ∨ j = 2 ∨ j = 3 ∨ j = 4 ∨ j = 5 ∨ j = 6 := by omega
                rcases hj' with rfl | rfl | rfl | rfl | rfl | rfl | rfl <;> simp only [List.getElem?_toArray, List.getElem?_cons_succ, List.getElem?_cons_zero, Option.some.injEq] at ho <;> subst ho
                · refine wpOp_runG ho2 (wanted_none rfl) (q_lit0E (canon fr dsIa f).eval _ wy rfl) ?_
                  exact ⟨_, rfl, ⟨wy.heap.size, upd_same f 49 _, hG.sz, heap_alloc_new wy _⟩, hG.below ((Below.refl _ _).alloc hG.sz _), fun j _ _ _ _ _ h => h.below ((Below.refl _ _).alloc (Nat.le_refl _) _)⟩
                · refine wpOp_runG ho2 (wanted_none rfl) (q_moveE (canon fr dsIa f).eval _ wy _ rfl) ?_
                  exact ⟨_, rfl, (upd_same f 50 _).trans N0, hG, fun j _ _ _ _ _ h => h⟩
                · obtain ⟨g, eg, hbg, hg⟩ := (hF ⟨0, .data⟩ (by simp) rfl (fun k _ hdk => (show k ≠ 2 by rintro rfl; rw [hdn] at hdk; cases hdk) |> fun hk => by simp [useA, useS, hk]))
                  refine wpOp_app0E ho2 (wanted_none rfl) _ _ M g a len cap D rfl (C49.trans eg) (C50.trans (hF ⟨1, .data⟩ (by simp) rfl (fun k _ hdk => (show k ≠ 2 by rintro rfl; rw [hdn] at hdk; cases hdk) |> fun hk => by simp [useA, useS, hk]))) hg hbg (HE.out.below hG.bel) HL.out ?_
                  intro v wv hO hB hkeep
                  refine ⟨_, rfl, ?_, hG.below hB, ?_⟩
                  · show OwnV wv M (upd f 51 v 51) (listD D len)
                    rw [upd_same]
                    exact hO
                  · intro j hj hne hdj _ hu h
                    match j, hne, hu, hdj, h with
                    | 0, _, hu, _, _ => cases hu
                    | 1, _, _, _, h => exact h
                    | 2, hne, _, _, _ => exact absurd rfl hne
                    | 3, _, _, _, h => exact h
                    | 4, _, _, _, h =>
                      obtain ⟨g4, e4, h4⟩ := h
                      have hne4 : g4 ≠ g := by
                        rintro rfl
                        rw [hg] at h4
                        cases h4
                      exact ⟨g4, e4, (hkeep g4 (lt_of_block h4) hne4).trans h4⟩
                    | 5, _, _, hdj, _ =>
                      have := hcl 5 (by decide) hdj 2 (by kernel_rfl)
                      rw [hdn] at this
                      cases this
                    | 6, _, _, _, h => exact h
                    | (m + 7), _, _, _, _ => exact trivial
                · refine wpOp_runG ho2 (wanted_none rfl) (q_loadE (canon fr dsIa f).eval _ wy _ p X rfl N12 hG.bx) ?_
                  exact ⟨_, rfl, upd_same f 52 _, hG, fun j _ _ _ _ _ h => h⟩
                · refine wpOp_runG ho2 (wanted_none rfl) (q_lit1E (canon fr dsIa f).eval _ wy _ X rfl (C52.trans (hF ⟨3, .data⟩ (by simp) rfl (fun k _ hdk => (show k ≠ 4 by rintro rfl; rw [hdn] at hdk; cases hdk) |> fun hk => by simp [useA, useS, hk])))) ?_
                  exact ⟨_, rfl, ⟨wy.heap.size, upd_same f 53 _, heap_alloc_new wy _⟩, hG.below ((Below.refl _ _).alloc hG.sz _), fun j _ _ _ _ _ h => h.below ((Below.refl _ _).alloc (Nat.le_refl _) _)⟩
                · obtain ⟨g, eg, hg⟩ := (hF ⟨4, .data⟩ (by simp) rfl (fun k _ hdk => (show k ≠ 5 by rintro rfl; rw [hdn] at hdk; cases hdk) |> fun hk => by simp [useA, useS, hk]))
                  have hv : OwnV wy M ((canon fr dsIa f).eval (.tmp 51)) (listD D len) := by rw [C51]; exact (hF ⟨2, .data⟩ (by simp) rfl (fun k _ hdk => (show k ≠ 5 by rintro rfl; rw [hdn] at hdk; cases hdk) |> fun hk => by simp [useA, useS, hk]))
                  refine wpOp_app1E ho2 (wanted_none rfl) _ _ M g 1 (listD D len) X rfl hv (C53.trans eg) (by rw [listD_len]; exact HL.out) hg hG.sz ?_
                  intro v wv hO hB hsh
                  refine ⟨_, rfl, ?_, hG.below hB, ?_⟩
                  · show OwnV wv M (upd f 54 v 54) (listD D len ++ [X]) ∧ ∃ g c, upd f 54 v 54 = .slice (some ⟨g, 0, none⟩) ((listD D len).length + 1) c
                    rw [upd_same]
                    exact ⟨hO, hsh⟩
                  · intro j hj hne hdj hun hu h
                    match j, hne, hu, hdj, hun, h with
                    | 0, _, _, _, hun, h =>
                      have hd2 : done 2 = true := hd ⟨2, .data⟩ (by simp) rfl
                      have := hun 2 (by decide) hd2
                      cases this
                    | 1, _, _, _, _, h => exact h
                    | 2, _, hu, _, _, _ => cases hu
                    | 3, _, _, _, _, h => exact h
                    | 4, _, hu, _, _, _ => cases hu
                    | 5, hne, _, _, _, _ => exact absurd rfl hne
                    | 6, _, _, _, _, h => exact h
                    | (m + 7), _, _, _, _, _ => exact trivial
                · refine wpOp_runG ho2 (wanted_none rfl) (q_assignE (canon fr dsIa f).eval _ wy _ rfl) ?_
                  refine ⟨_, rfl, ?_, hG, fun j _ _ _ _ _ h => h⟩
                  show upd f 13 _ 13 = upd f 13 _ 54
                  rw [upd_same, upd_ne f _ (by decide)]
                  exact C54
              · intro f wy hG hall
                have h4 := hall 5 (by decide) (fun k _ => by simp [useS])
                have h5 : f 13 = f 54 := hall 6 (by decide) (fun k _ => by simp [useS])
                obtain ⟨h4, g, c, h6⟩ := h4
                refine hK _ _ (Met.intro (hJ _ _ ⟨f, congrArg (fun z => canon z dsIa f) HFR.out, ?_, ⟨g, c, ?_⟩, hG⟩))
                · rw [h5]; exact h4
                · rw [h5, h6, listD_len]
            rintro _ wa ⟨f, rfl, hO, ⟨g, c, hfs⟩, hG⟩
            rw [hfs] at hO
            have HOa : Hid (OwnV wa M (.slice (some ⟨g, 0, none⟩) (len + 1) c) (listD D len ++ [X])) := hO
            have HGa : Hid (Two W p q M X wa) := hG
            simp only [canon, dsIa, List.foldl, Act.put, List.setIfInBounds_toArray, List.set_cons_succ, List.set_cons_zero]
            rw [hfs]
            clear hO hG hfs HG
            go_wp2_with fail
            refine (specSeq_any (some ⟨g, 0, none⟩) (len + 1) c (snocD D len X) wa (own_snoc HOa.out) HFX.out).mono ?_
            rintro e wb ⟨rfl, hBb⟩
            have HG : Hid (Two W p q M X wb) := HGa.out.below (hBb.mono HGa.out.sz)
            have HO : Hid (OwnV wb M (.slice (some ⟨g, 0, none⟩) (len + 1) c) (listD D len ++ [X])) := HOa.out.below hBb
            clear hBb HGa HOa
            obtain ⟨s, hs⟩ : ∃ s, s = seqB (snocD D len X) (len + 1) := ⟨_, rfl⟩
            rw [← hs]
            cases s with
            | false =>
              have HN : Hid (okI D len author 0 sg = false) := HOK.out.trans (okW_no2 hs.symm)
              clear hs
              obtain ⟨v0, v1, v2, v3, hrw⟩ := HG.out.row4
              have HRW := (show Hid _ from hrw)
              have r0 : wb.cell? ⟨q, 0, none⟩ = some v0 := cellN hrw
              have r1 : wb.cell? ⟨q, 1, none⟩ = some v1 := cellN hrw
              have r2 : wb.cell? ⟨q, 2, none⟩ = some v2 := cellN hrw
              have r3 : wb.cell? ⟨q, 3, none⟩ = some v3 := cellN hrw
              have s0 : wb.frozen? ⟨q, 0, none⟩ = false := frozN hrw
              have s1 : wb.frozen? ⟨q, 1, none⟩ = false := frozN hrw
              have s2 : wb.frozen? ⟨q, 2, none⟩ = false := frozN hrw
              have s3 : wb.frozen? ⟨q, 3, none⟩ = false := frozN hrw
              clear hrw
              go_wp2
              refine bodyPost_ret (results_trt (p := 9) (u := 8) (v := 10) rfl _ _ q 36 _ _ _ rfl (put4 _ _ _ _ HRW.out) Try.underlying36 rfl infoE4) rfl ?_
              exact SR.no HN.out (put4_bel HG.out.bel HG.out.lq)
            | true =>
              have HN : Hid (okI D len author 0 sg = true) := HOK.out.trans (okW_of HS.out HA.out hs.symm)
              clear hs
              go_wp2_with fail
              refine wp_cut_to (fun a0 t w' => ∃ f, t = canon a0 dsIr f ∧ f 8 = .slice (some ⟨g, 0, none⟩) (len + 1) c ∧ f 10 = .bool true ∧ w'.heap[q]? = some (.cells (enc4 X).toArray 36 (0, 0)) ∧ OwnV w' W.heap.size (.slice (some ⟨g, 0, none⟩) (len + 1) c) (listD D len ++ [X]) ∧ Below W.heap.size W w') ?_ ?_
              rotate_left
              · intro J K' hJ hK
                refine wp_letter ?_
                intro fr hfr
                have hsz : 60 < fr.tmps.size := by rw [hfr]; exact Nat.le_of_ble_eq_true rfl
                have t13 : fr.eval (.tmp 13) = .slice (some ⟨g, 0, none⟩) (len + 1) c := by rw [hfr]; rfl
                have t12 : fr.eval (.tmp 12) = .pointer (some ⟨p, 0, none⟩) := by rw [hfr]; rfl
                have t9 : fr.eval (.tmp 9) = .pointer (some ⟨q, 0, none⟩) := by rw [hfr]; rfl
                have HFR := (show Hid _ from hfr)
                clear hfr
                refine wp_region_use (by kernel_rfl) (by kernel_rfl) dsIr slotIr (ReF 59 60 8 10 q (.slice (some ⟨g, 0, none⟩) (len + 1) c) X) (Sm wb q) (fun _ _ => false) ⟨fun _ _ => rfl, rfl, rfl, rfl, rfl, HG.out.row⟩ ?_ ?_ ?_ ?_ ?_
                · intro j f f' wy hj he h
                  match j, hj with
                  | 0, _ =>
                    have e0 : f 59 = f' 59 := he 0 (by kernel_rfl)
                    simp only [ReF, e0] at h ⊢
                    exact h
                  | 1, _ =>
                    have e1 : f 60 = f' 60 := he 1 (by kernel_rfl)
                    simp only [ReF, e1] at h ⊢
                    exact h
                  | 2, _ =>
                    have e2 : f 8 = f' 8 := he 2 (by kernel_rfl)
                    simp only [ReF, e2] at h ⊢
                    exact h
                  | 3, _ =>
                    simp only [ReF] at h ⊢
                    exact h
                  | 4, _ =>
                    have e4 : f 10 = f' 10 := he 4 (by kernel_rfl)
                    simp only [ReF, e4] at h ⊢
                    exact h
                · intro i hi
                  exact slotIr_mem i hi
                · intro i j hi hj q
                  exact slotIr_inj i j hi hj q
                · intro ops hops done f wy j oo hG ho hdn hcl hd hF
                  have ho2 := ho
                  rw [hops] at ho
                  have hj : j < 5 := by
                    rcases Nat.lt_or_ge j 5 with h | h
                    · exact h
                    · rw [Array.getElem?_eq_none (by simpa using h)] at ho; cases ho
                  have N13 := (canon_eval_ne fr dsIr f 13 (by decide)).trans t13
                  have N12 := (canon_eval_ne fr dsIr f 12 (by decide)).trans t12
                  have N9 := (canon_eval_ne fr dsIr f 9 (by decide)).trans t9
                  have C59 := canon_eval fr dsIr f 59 (by decide) (Nat.lt_of_le_of_lt (by decide) hsz)
                  have C60 := canon_eval fr dsIr f 60 (by decide) (Nat.lt_of_le_of_lt (by decide) hsz)
                  have C8 := canon_eval fr dsIr f 8 (by decide) (Nat.lt_of_le_of_lt (by decide) hsz)
                  have C57 := canon_eval fr dsIr f 57 (by decide) (Nat.lt_of_le_of_lt (by decide) hsz)
                  have C10 := canon_eval fr dsIr f 10 (by decide) (Nat.lt_of_le_of_lt (by decide) hsz)
                  have hj' : j = 0 ∨ j = 1 ∨ j = 2 ∨ j = 3 ∨ j = 4 := by omega
                  rcases hj' with rfl | rfl | rfl | rfl | rfl <;> simp only [List.getElem?_toArray, List.getElem?_cons_succ, List.getElem?_cons_zero, Option.some.injEq] at ho <;> subst ho
                  · refine wpOp_runG ho2 (wanted_none rfl) (q_moveE (canon fr dsIr f).eval _ wy _ rfl) ?_
                    exact ⟨_, rfl, (upd_same f 59 _).trans N13, hG, fun j _ _ _ _ _ h => h⟩
                  · refine wpOp_runG ho2 (wanted_none rfl) (q_loadE (canon fr dsIr f).eval _ wy _ p X rfl N12 ((hG.blk p HG.out.ne).trans HG.out.bx)) ?_
                    exact ⟨_, rfl, upd_same f 60 _, hG, fun j _ _ _ _ _ h => h⟩
                  · refine wpOp_runG ho2 (wanted_none rfl) (q_assignE (canon fr dsIr f).eval _ wy _ rfl) ?_
                    exact ⟨_, rfl, (upd_same f 8 _).trans (C59.trans (hF ⟨0, .data⟩ (by simp) rfl (fun k _ hdk => (show k ≠ 2 by rintro rfl; rw [hdn] at hdk; cases hdk) |> fun hk => by simp [useA, useS, hk]))), hG, fun j _ _ _ _ _ h => h⟩
                  · obtain ⟨c, hc, hr⟩ := hG.row
                    refine wpOp_storeE ho2 (wanted_none rfl) _ _ q X rfl N9 (C60.trans (hF ⟨1, .data⟩ (by simp) rfl (fun k _ hdk => (show k ≠ 3 by rintro rfl; rw [hdn] at hdk; cases hdk) |> fun hk => by simp [useA, useS, hk]))) hc hr ?_
                    intro wv z1 z2 z3 z4 z5 z6
                    exact ⟨f 57, (putSame fr dsIr f 57 (by decide)).symm, z1, ⟨fun k hk => (z2 k hk).trans (hG.blk k hk), z3.trans hG.size, z4.trans hG.os, z5.trans hG.tape, z6.trans hG.output, (enc4 X).toArray, rfl, z1⟩, fun j _ _ _ _ _ h => h.keep (fun _ => z1)⟩
                  · refine wpOp_runG ho2 (wanted_none rfl) (q_assignE (canon fr dsIr f).eval _ wy _ rfl) ?_
                    exact ⟨.bool true, rfl, upd_same f 10 _, hG, fun j _ _ _ _ _ h => h⟩
                · intro f wy hG hall
                  refine hK _ _ (Met.intro (hJ _ _ ⟨f, congrArg (fun z => canon z dsIr f) HFR.out, hall 2 (by decide) (fun _ _ => rfl), hall 4 (by decide) (fun _ _ => rfl), hall 3 (by decide) (fun _ _ => rfl), HG.out.ends hG HO.out⟩))
              rintro _ wf ⟨f, rfl, h6, h8, hrow, hO, hB⟩
              simp only [canon, dsIr, List.foldl, Act.put, List.setIfInBounds_toArray, List.set_cons_succ, List.set_cons_zero]
              rw [h6, h8]
              have HR := (show Hid _ from hrow)
              have HO2 : Hid (OwnV wf W.heap.size (.slice (some ⟨g, 0, none⟩) (len + 1) c) (listD D len ++ [X])) := hO
              have HB2 : Hid (Below W.heap.size W wf) := hB
              clear h6 h8 hrow hO hB
              go_wp2
              refine bodyPost_ret (results_trt (p := 9) (u := 8) (v := 10) rfl _ _ q 36 _ _ _ rfl HR.out Try.underlying36 rfl infoE4) rfl ?_
              have := SR.yes (L := listD D len ++ [X]) (x := X) (W := W) HN.out HO2.out HB2.out
              rw [← HXE.out] at this
              rw [← HXE.out]
              exact this
end Go.Proofs.Ytjfciokpnhnhbaa
