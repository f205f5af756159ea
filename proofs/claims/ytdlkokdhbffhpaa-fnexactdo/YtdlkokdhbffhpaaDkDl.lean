/-
  FnExactDo: the walk of the law. No condition but that the slices that came in read.
-/
import Derived.Test.YtdlkokdhbffhpaaDkDk
namespace Go.Proofs.Ytdlkokdhbffhpaa
open Go.RowKit
set_option linter.unusedVariables false

def dsR : List Nat := [52, 53, 54, 55, 56]
def slotR (j : Nat) : Nat := dsR.getD j 0
theorem slotR_inj (i j : Nat) (hi : i < 5) (hj : j < 5) (q : slotR i = slotR j) : i = j := by
  have h : ∀ i : Fin 5, ∀ j : Fin 5, slotR i.val = slotR j.val → i.val = j.val := by decide
  exact h ⟨i, hi⟩ ⟨j, hj⟩ q
theorem slotR_mem (i : Nat) (hi : i < 5) : slotR i ∈ dsR := by
  have h : ∀ i : Fin 5, slotR i.val ∈ dsR := by decide
  exact h ⟨i, hi⟩

set_option maxRecDepth 10000 in
set_option maxHeartbeats 8000000 in
theorem do_walk (vL vS vO : Value) (L S : List Fl) (O : List Dop) (o : Dop) (w : World) (hL : RdF w vL L) (hS : RdF w vS S) (hO : RdO w vO O) (hin : InD L S O) (hon : o.n.size ≤ 9223372036854775807 ∧ o.t.size ≤ 9223372036854775807 ∧ o.d.size ≤ 9223372036854775807) :
    Calls Try.prog 4 #[.agg #[vL, vS, vO], .agg #[.int .i64 o.k, .string o.n, .string o.t, .string o.d]] w fun e w' => e = .returned (.bool true) ∧ Below w.heap.size w w' := by
  have HA : Hid (∀ w', Below w.heap.size w w' → RdF w' vL L ∧ RdF w' vS S ∧ RdO w' vO O) := fun w' hB => ⟨hL.below hB, hS.below hB, hO.below hB⟩
  obtain ⟨aL, cL, eL⟩ := hL.slice
  obtain ⟨nL, hnL⟩ : ∃ n, n = L.length := ⟨_, rfl⟩
  rw [← hnL] at eL
  obtain ⟨aS, cS, eS⟩ := hS.slice
  obtain ⟨nS, hnS⟩ : ∃ n, n = S.length := ⟨_, rfl⟩
  rw [← hnS] at eS
  obtain ⟨aO, cO, eO⟩ := hO.slice
  obtain ⟨nO, hnO⟩ : ∃ n, n = O.length := ⟨_, rfl⟩
  rw [← hnO] at eO
  subst eL eS eO
  have HE : Hid (nL = L.length ∧ nS = S.length ∧ nO = O.length) := ⟨hnL, hnS, hnO⟩
  have HI : Hid (InD L S O) := hin
  have en1 : ∀ args w, (callFunc 10 args).run Try.prog w = .ok (.enter 10 args) w := enters_of Try.func10 (by kernel_rfl) rfl
  have en2 : ∀ args w, (callFunc 12 args).run Try.prog w = .ok (.enter 12 args) w := enters_of Try.func12 (by kernel_rfl) rfl
  have en4 : ∀ args w, (callFunc 17 args).run Try.prog w = .ok (.enter 17 args) w := enters_of Try.func17 (by kernel_rfl) rfl
  have en5 : ∀ args w, (callFunc 16 args).run Try.prog w = .ok (.enter 16 args) w := enters_of Try.func16 (by kernel_rfl) rfl
  have en6 : ∀ args w, (callFunc 18 args).run Try.prog w = .ok (.enter 18 args) w := enters_of Try.func18 (by kernel_rfl) rfl
  have HEN1 := (show Hid _ from en1)
  have HEN2 := (show Hid _ from en2)
  have HEN4 := (show Hid _ from en4)
  have HEN5 := (show Hid _ from en5)
  have HEN6 := (show Hid _ from en6)
  clear en1 en2 en4 en5 en6
  have HON : Hid (o.n.size ≤ 9223372036854775807 ∧ o.t.size ≤ 9223372036854775807 ∧ o.d.size ≤ 9223372036854775807) := hon
  obtain ⟨X, hX⟩ : ∃ X, X = (w.alloc (.cells #[.slice aL nL cL, .slice aS nS cS, .slice aO nO cO] 25)).alloc (.cells #[.int .i64 o.k, .string o.n, .string o.t, .string o.d] 37) := ⟨_, rfl⟩
  have HX := (show Hid _ from hX)
  have hBX : Below w.heap.size w X := by rw [hX]; exact ((Below.refl _ _).alloc (Nat.le_refl _) _).alloc (by simp) _
  have HBX : Hid (Below w.heap.size w X) := hBX
  have HAX : Hid (At3 X w.heap.size 25 (.slice aL nL cL) (.slice aS nS cS) (.slice aO nO cO)) := by show _ = _; rw [hX, Below.heap_alloc _ _ _ (by simp)]; exact heap_alloc_new _ _
  have HPX : Hid (X.heap[w.heap.size + 1]? = some (.cells #[.int .i64 o.k, .string o.n, .string o.t, .string o.d] 37 (0, 0))) := by
    show _ = _
    rw [hX]
    have := heap_alloc_new (w.alloc (.cells #[.slice aL nL cL, .slice aS nS cS, .slice aO nO cO] 25)) (.cells #[.int .i64 o.k, .string o.n, .string o.t, .string o.d] 37)
    simpa using this
  have c0 := HAX.out.c0
  have c1 := HAX.out.c1
  have c2 := HAX.out.c2
  rw [hX] at c0 c1 c2
  clear hX hL hS hO hin hnL hnS hnO hBX hon
  go_enter Try.func4, Try.ntmps4
  go_wp2_with fail
  rw [← HX.out]
  have hAX := HA.out X HBX.out
  refine (szDisk2_any _ _ _ L S O X hAX.1 hAX.2.1 hAX.2.2 HI.out).mono ?_
  rintro e w1 ⟨r, rfl, hr, hB1⟩
  have HB1 : Hid (Below X.heap.size X w1) := hB1
  have HW1 : Hid (Below w.heap.size w w1) := HBX.out.trans (hB1.mono HBX.out.size)
  have HA1 : Hid (At3 w1 w.heap.size 25 (.slice aL nL cL) (.slice aS nS cS) (.slice aO nO cO)) := HAX.out.below hB1
  have HP1 : Hid (w1.heap[w.heap.size + 1]? = some (.cells #[.int .i64 o.k, .string o.n, .string o.t, .string o.d] 37 (0, 0))) := (hB1.block _ (lt_of_block HPX.out)).trans HPX.out
  clear c0 c1 c2 HX hAX hB1
  rcases hr with hr | ⟨⟨hr, hrm⟩, hsm, hl1, hl2, hl3⟩
  · go_wp2
    go_ret
    exact ⟨rfl, HW1.out⟩
  have HZ : Hid (SmallD L S O) := hsm
  have HN : Hid (L.length ≤ 1048576 ∧ S.length ≤ 1048576 ∧ O.length ≤ 1048576) := ⟨hl1, hl2, hl3⟩
  clear hsm hl1 hl2 hl3
  have k0 : w1.cell? ⟨w.heap.size + 1, 0, none⟩ = some (.int .i64 o.k) := cellN HP1.out
  have k1 : w1.cell? ⟨w.heap.size + 1, 1, none⟩ = some (.string o.n) := cellN HP1.out
  have k2 : w1.cell? ⟨w.heap.size + 1, 2, none⟩ = some (.string o.t) := cellN HP1.out
  have k3 : w1.cell? ⟨w.heap.size + 1, 3, none⟩ = some (.string o.d) := cellN HP1.out
  go_wp2_with fail
  refine (szDOp_any o HON.out w1 r hr hrm).mono ?_
  rintro e w2 ⟨r2, rfl, hr2, hB2⟩
  have HB2 : Hid (Below X.heap.size X w2) := HB1.out.trans (hB2.mono HB1.out.size)
  have HW2 : Hid (Below w.heap.size w w2) := HBX.out.trans (HB2.out.mono HBX.out.size)
  have HA2 : Hid (At3 w2 w.heap.size 25 (.slice aL nL cL) (.slice aS nS cS) (.slice aO nO cO)) := HAX.out.below HB2.out
  have HP2 : Hid (w2.heap[w.heap.size + 1]? = some (.cells #[.int .i64 o.k, .string o.n, .string o.t, .string o.d] 37 (0, 0))) := (HB2.out.block _ (lt_of_block HPX.out)).trans HPX.out
  clear hB2 k0 k1 k2 k3
  rcases hr2 with hr2 | ⟨hr2, hr3⟩
  · clear hr hrm
    go_wp2
    go_ret
    exact ⟨rfl, HW2.out⟩
  have HOZ : Hid (o.n.size ≤ 100000000 ∧ o.t.size ≤ 100000000 ∧ o.d.size ≤ 100000000) := ⟨by omega, by omega, by omega⟩
  clear hr hrm hr3
  obtain ⟨CC, hCC⟩ : ∃ C, C = dC L S O o := ⟨_, rfl⟩
  obtain ⟨AL, hAL⟩ : ∃ A, A = dL L S O o := ⟨_, rfl⟩
  obtain ⟨AS, hAS⟩ : ∃ A, A = dS L S O := ⟨_, rfl⟩
  obtain ⟨AO, hAO⟩ : ∃ A, A = dO L S O o := ⟨_, rfl⟩
  have HSP : Hid (∀ wy u1 u2 u3, RdD wy u1 u2 u3 L S O → Calls Try.prog 16 #[.agg #[u1, u2, u3], .agg #[.int .i64 o.k, .string o.n, .string o.t, .string o.d]] wy fun e w' => ∃ x y z, e = .returned (.tuple #[.agg #[x, y, z], .int .i64 (CC : Int)]) ∧ RdD w' x y z AL AS AO ∧ Below wy.heap.size wy w') := fun wy u1 u2 u3 h => by
    rw [hCC, hAL, hAS, hAO]
    exact specDo_any u1 u2 u3 L S O o wy h HZ.out HN.out HOZ.out
  have HIM : Hid (∀ wy u1 u2 (g : Nat) c, RdD wy u1 u2 (.slice (some ⟨g, 0, none⟩) O.length c) L S O → Calls Try.prog 18 #[.agg #[u1, u2, .slice (some ⟨g, 0, none⟩) O.length c], .agg #[.int .i64 o.k, .string o.n, .string o.t, .string o.d]] wy fun e w' => ∃ x y z, e = .returned (.tuple #[.agg #[x, y, z], .int .i64 (CC : Int)]) ∧ RdD w' x y z AL AS AO ∧ OwD w' wy.heap.size x y z AL.length AS.length AO.length ∧ Below wy.heap.size wy w') := fun wy u1 u2 g c h => by
    rw [hCC, hAL, hAS, hAO]
    exact implAct_any u1 u2 _ L S O o wy h ⟨_, _, rfl⟩ HZ.out HN.out HOZ.out
  have HIMn : Hid (∀ wy u1 u2 (g : Nat) c, RdD wy u1 u2 (.slice (some ⟨g, 0, none⟩) nO c) L S O → Calls Try.prog 18 #[.agg #[u1, u2, .slice (some ⟨g, 0, none⟩) nO c], .agg #[.int .i64 o.k, .string o.n, .string o.t, .string o.d]] wy fun e w' => ∃ x y z, e = .returned (.tuple #[.agg #[x, y, z], .int .i64 (CC : Int)]) ∧ RdD w' x y z AL AS AO ∧ OwD w' wy.heap.size x y z AL.length AS.length AO.length ∧ Below wy.heap.size wy w') := fun wy u1 u2 g c h => by
    rw [HE.out.2.2] at h ⊢
    exact HIM.out wy u1 u2 g c h
  have HLEN : Hid (AL.length ≤ 2097153 ∧ AS.length ≤ 1048576 ∧ AO.length ≤ 1048577) := by
    show _ ∧ _
    rw [hAL, hAS, hAO]
    cases hd : diskB L S O with
    | false =>
      obtain ⟨_, e1, e2, e3⟩ := d_no o hd
      rw [e1, e2, e3]
      exact ⟨by decide, by decide, by decide⟩
    | true =>
      obtain ⟨_, e1, e2, e3⟩ := d_yes o hd
      rw [e1, e2, e3]
      have hl := HN.out
      have hf := doF_len L o
      refine ⟨?_, hl.2.1, ?_⟩
      · unfold actL
        split <;> omega
      · unfold actO
        split
        · rw [List.length_append]
          have : [o].length = 1 := rfl
          omega
        · omega
  clear hCC hAL hAS hAO
  go_wp2
  refine wp_cut_to (fun a0 t w' => ∃ f, t = canon a0 dsK1 f ∧ (∃ g x y z, f 6 = .pointer (some ⟨g, 0, none⟩) ∧ f 7 = .int .i64 (CC : Int) ∧ w'.heap[g]? = some (.cells #[x, y, z] 30 (0, 0)) ∧ w2.heap.size ≤ g ∧ RdD w' x y z AL AS AO ∧ Below w2.heap.size w2 w')) ?_ ?_
  rotate_left
  · intro J K' hJ hK
    refine wp_letter ?_
    intro fr hfr
    have hsz : 33 < fr.tmps.size := by rw [hfr]; exact Nat.le_of_ble_eq_true rfl
    have t2 : fr.eval (.tmp 2) = .pointer (some ⟨w.heap.size, 0, none⟩) := by rw [hfr]; rfl
    have t3 : fr.eval (.tmp 3) = .pointer (some ⟨w.heap.size + 1, 0, none⟩) := by rw [hfr]; rfl
    have HFR := (show Hid _ from hfr)
    clear hfr
    have HWs : ∀ wy, Below w2.heap.size w2 wy → Below w.heap.size w wy := fun wy hy => HW2.out.trans (hy.mono HW2.out.size)
    have HAs : ∀ wy, Below w2.heap.size w2 wy → At3 wy w.heap.size 25 (.slice aL nL cL) (.slice aS nS cS) (.slice aO nO cO) := fun wy hy => HA2.out.below hy
    have HPs : ∀ wy, Below w2.heap.size w2 wy → wy.heap[w.heap.size + 1]? = some (.cells #[.int .i64 o.k, .string o.n, .string o.t, .string o.d] 37 (0, 0)) := fun wy hy => (hy.block _ (lt_of_block HP2.out)).trans HP2.out
    refine wp_region_gen (by kernel_rfl) (by kernel_rfl) dsK1 slotK1 (K1F w2.heap.size CC (.agg #[.slice aL nL cL, .slice aS nS cS, .slice aO nO cO]) L S O o AL AS AO) (fun wy => Below w2.heap.size w2 wy) ((Below.refl _ _).drew) ?_ ?_ ?_ ?_ ?_
    · intro j f f' wy hj he h
      exact h.dep hj (fun i hi => he i (by revert hi; match j, hj with | 0, _ => (intro hi; simp only [depK1, beq_iff_eq] at hi; rcases hi with rfl <;> kernel_rfl) | 1, _ => (intro hi; simp only [depK1, beq_iff_eq] at hi; rcases hi with rfl <;> kernel_rfl) | 2, _ => (intro hi; simp only [depK1, beq_iff_eq] at hi; rcases hi with rfl <;> kernel_rfl) | 3, _ => (intro hi; simp only [depK1, beq_iff_eq] at hi; rcases hi with rfl <;> kernel_rfl) | 4, _ => (intro hi; simp only [depK1, beq_iff_eq] at hi; rcases hi with rfl <;> kernel_rfl) | 5, _ => (intro hi; simp only [depK1, beq_iff_eq] at hi; rcases hi with rfl <;> kernel_rfl) | 6, _ => (intro hi; simp only [depK1, beq_iff_eq] at hi; rcases hi with rfl <;> kernel_rfl) | 7, _ => (intro hi; simp only [depK1, beq_iff_eq] at hi; rcases hi with rfl <;> kernel_rfl) | 8, _ => (intro hi; simp only [depK1, beq_iff_eq] at hi; rcases hi with rfl <;> kernel_rfl) | 9, _ => (intro hi; simp only [depK1, Bool.or_eq_true, beq_iff_eq] at hi; rcases hi with (rfl | rfl) | rfl <;> kernel_rfl) | 10, _ => (intro hi; simp only [depK1, beq_iff_eq] at hi; rcases hi with rfl <;> kernel_rfl)))
    · intro i hi
      exact slotK1_mem i hi
    · intro i j hi hj q
      exact slotK1_inj i j hi hj q
    · intro ops hops done f wy j oo hG ho hdn hd
      have ho2 := ho
      rw [hops] at ho
      have hj : j < 11 := by
        rcases Nat.lt_or_ge j 11 with h | h
        · exact h
        · rw [Array.getElem?_eq_none (by simpa using h)] at ho; cases ho
      have N2 := (canon_eval_ne fr dsK1 f 2 (by decide)).trans t2
      have N3 := (canon_eval_ne fr dsK1 f 3 (by decide)).trans t3
      have hj' : j = 0 ∨ j = 1 ∨ j = 2 ∨ j = 3 ∨ j = 4 ∨ j = 5 ∨ j = 6 ∨ j = 7 ∨ j = 8 ∨ j = 9 ∨ j = 10 := by omega
      rcases hj' with rfl | rfl | rfl | rfl | rfl | rfl | rfl | rfl | rfl | rfl | rfl <;> simp only [List.getElem?_toArray, List.getElem?_cons_succ, List.getElem?_cons_zero, Option.some.injEq] at ho <;> subst ho
      · refine wpOp_runG ho2 (wanted_none rfl) (q_load25 (canon fr dsK1 f).eval _ wy _ w.heap.size rfl N2 (HAs wy hG).c0 (HAs wy hG).c1 (HAs wy hG).c2) ?_
        exact ⟨_, rfl, upd_same f 27 _, hG, fun j _ _ h => h⟩
      · refine wpOp_enterG ho2 (wanted_none rfl) (q_call1I (canon fr dsK1 f).eval _ wy _ HEN1.out _ _ rfl rfl) ?_
        rw [(canon_eval fr dsK1 f 27 (by decide) (Nat.lt_of_le_of_lt (by decide) hsz)).trans (hd ⟨0, .data⟩ (by simp) rfl)]
        refine (toDisk_any _ _ _ L S O wy (HA.out wy (HWs wy hG)).1 (HA.out wy (HWs wy hG)).2.1 (HA.out wy (HWs wy hG)).2.2 HN.out.1 HN.out.2.1 HN.out.2.2).mono ?_
        rintro e wz ⟨u1, u2, u3, rfl, hu1, hu2, hu3, hBz⟩
        exact ⟨_, rfl, _, rfl, ⟨u1, u2, u3, upd_same f 28 _, hu1, hu2, hu3⟩, hG.trans (hBz.mono hG.size), fun j _ _ h => h.below hBz⟩
      · refine wpOp_runG ho2 (wanted_none rfl) (q_loadOpL (canon fr dsK1 f).eval _ wy _ (w.heap.size + 1) o rfl N3 (HPs wy hG)) ?_
        exact ⟨_, rfl, upd_same f 29 _, hG, fun j _ _ h => h⟩
      · refine wpOp_enterG ho2 (wanted_none rfl) (q_call1I (canon fr dsK1 f).eval _ wy _ HEN4.out _ _ rfl rfl) ?_
        rw [(canon_eval fr dsK1 f 29 (by decide) (Nat.lt_of_le_of_lt (by decide) hsz)).trans (hd ⟨2, .data⟩ (by simp) rfl)]
        refine (toDOp_any o wy).mono ?_
        rintro e wz ⟨rfl, hBz⟩
        exact ⟨_, rfl, _, rfl, upd_same f 30 _, hG.trans (hBz.mono hG.size), fun j _ _ h => h.below hBz⟩
      · obtain ⟨u1, u2, u3, hu, hrd⟩ := hd ⟨1, .data⟩ (by simp) rfl
        refine wpOp_enterG ho2 (wanted_none rfl) (q_call2 (canon fr dsK1 f).eval _ wy _ HEN5.out _ _ _ rfl rfl) ?_
        rw [(canon_eval fr dsK1 f 28 (by decide) (Nat.lt_of_le_of_lt (by decide) hsz)).trans hu, (canon_eval fr dsK1 f 30 (by decide) (Nat.lt_of_le_of_lt (by decide) hsz)).trans (hd ⟨3, .data⟩ (by simp) rfl)]
        refine (HSP.out wy _ _ _ hrd).mono ?_
        rintro e wz ⟨x, y, z, rfl, hr, hBz⟩
        exact ⟨_, rfl, _, rfl, ⟨x, y, z, upd_same f 31 _, hr⟩, hG.trans (hBz.mono hG.size), fun j _ _ h => h.below hBz⟩
      · obtain ⟨x, y, z, e, h1⟩ := hd ⟨4, .data⟩ (by simp) rfl
        refine wpOp_runG ho2 (wanted_none rfl) (q_moveD (canon fr dsK1 f).eval _ wy _ rfl) ?_
        exact ⟨_, rfl, ⟨x, y, z, (upd_same f 26 _).trans ((canon_eval fr dsK1 f 31 (by decide) (Nat.lt_of_le_of_lt (by decide) hsz)).trans e), h1⟩, hG, fun j _ _ h => h⟩
      · obtain ⟨x, y, z, e, h1⟩ := hd ⟨5, .data⟩ (by simp) rfl
        refine wpOp_runG ho2 (wanted_none rfl) (q_ext0 (canon fr dsK1 f).eval _ wy _ (.agg #[x, y, z]) _ rfl ((canon_eval fr dsK1 f 26 (by decide) (Nat.lt_of_le_of_lt (by decide) hsz)).trans e)) ?_
        exact ⟨_, rfl, ⟨x, y, z, upd_same f 32 _, h1⟩, hG, fun j _ _ h => h⟩
      · obtain ⟨x, y, z, e, h1⟩ := hd ⟨5, .data⟩ (by simp) rfl
        refine wpOp_runG ho2 (wanted_none rfl) (q_ext1 (canon fr dsK1 f).eval _ wy _ (.agg #[x, y, z]) _ rfl ((canon_eval fr dsK1 f 26 (by decide) (Nat.lt_of_le_of_lt (by decide) hsz)).trans e)) ?_
        exact ⟨_, rfl, upd_same f 33 _, hG, fun j _ _ h => h⟩
      · refine wpOp_runG ho2 (wanted_none rfl) (q_allocD (canon fr dsK1 f).eval _ wy rfl) ?_
        have hBz : Below wy.heap.size wy (wy.alloc (.cells #[.slice none 0 0, .slice none 0 0, .slice none 0 0] 30)) := (Below.refl _ _).alloc (Nat.le_refl _) _
        exact ⟨_, rfl, ⟨wy.heap.size, _, upd_same f 6 _, hG.size, rfl, noStr3 _ _ _ _ _ _ _ _ _, heap_alloc_new _ _⟩, hG.trans (hBz.mono hG.size), fun j _ _ h => h.below hBz⟩
      · obtain ⟨g, cs, eg, hb, hc, hnn, hh⟩ := hd ⟨8, .data⟩ (by simp) rfl
        obtain ⟨x, y, z, e, h1⟩ := hd ⟨6, .data⟩ (by simp) rfl
        obtain ⟨b1, d1, b2, d2, b3, d3, ex, ey, ez⟩ := h1.slices
        subst ex ey ez
        refine wpOp_storeD ho2 (wanted_none rfl) _ _ g rfl ((canon_eval fr dsK1 f 6 (by decide) (Nat.lt_of_le_of_lt (by decide) hsz)).trans eg) ((canon_eval fr dsK1 f 32 (by decide) (Nat.lt_of_le_of_lt (by decide) hsz)).trans e) hc hh ?_
        intro wz hz1 hz2 hz3 hz4 hz5 hz6
        refine ⟨f 0, (put_same fr dsK1 f 0 (by decide)).symm, ⟨g, _, _, _, (upd_ne f _ (by decide)).trans eg, (upd_ne f _ (by decide)).trans e, hz1⟩, ?_, fun j _ hne h => h.put hne eg hh hnn hz1 rfl (noStr3 _ _ _ _ _ _ _ _ _) hz2 (by omega)⟩
        exact ⟨hz4.trans hG.os, hz5.trans hG.tape, hz6.trans hG.output, by rw [hz3]; exact hG.size, fun k hk => (hz2 k (by omega)).trans (hG.block k hk)⟩
      · have h33 : f 33 = .int .i64 _ := hd ⟨7, .data⟩ (by simp) rfl
        refine wpOp_runG ho2 (wanted_none rfl) (q_assignC (canon fr dsK1 f).eval _ wy _ rfl) ?_
        exact ⟨_, rfl, (upd_same f 7 _).trans ((canon_eval fr dsK1 f 33 (by decide) (Nat.lt_of_le_of_lt (by decide) hsz)).trans h33), hG, fun j _ _ h => h⟩
    · intro f wy hG hall
      obtain ⟨g, cs, eg, hb, _, _, _⟩ := hall 8 (by decide)
      obtain ⟨x, y, z, e, h1⟩ := hall 6 (by decide)
      obtain ⟨g', x', y', z', eg', e', hh⟩ := hall 9 (by decide)
      have h7 : f 7 = .int .i64 (CC : Int) := hall 10 (by decide)
      rw [e] at e'
      simp only [Value.agg.injEq, Array.mk.injEq, List.cons.injEq, and_true] at e'
      obtain ⟨rfl, rfl, rfl⟩ := e'
      rw [eg] at eg'
      simp only [Value.pointer.injEq, Option.some.injEq, Addr.mk.injEq] at eg'
      obtain ⟨rfl, _⟩ := eg'
      exact hK _ _ (Met.intro (hJ _ _ ⟨f, congrArg (fun z => canon z dsK1 f) HFR.out, g, x, y, z, eg, h7, hh, hb, h1, hG⟩))
  rintro _ w3 ⟨f, rfl, bw, p1, p2, p3, h6, h7, hq3, hb3, hp3, hB3⟩
  simp only [canon, dsK1, List.foldl, Act.put, List.setIfInBounds_toArray, List.set_cons_succ, List.set_cons_zero]
  rw [h6, h7]
  obtain ⟨ap1, cp1, ap2, cp2, ap3, cp3, e1, e2, e3⟩ := hp3.slices
  obtain ⟨mA, hmA⟩ : ∃ m, m = AL.length := ⟨_, rfl⟩
  obtain ⟨mB, hmB⟩ : ∃ m, m = AS.length := ⟨_, rfl⟩
  obtain ⟨mC, hmC⟩ : ∃ m, m = AO.length := ⟨_, rfl⟩
  rw [← hmA] at e1
  rw [← hmB] at e2
  rw [← hmC] at e3
  subst e1 e2 e3
  have HMM : Hid (mA = AL.length ∧ mB = AS.length ∧ mC = AO.length) := ⟨hmA, hmB, hmC⟩
  have HP3 : Hid (RdD w3 (.slice ap1 mA cp1) (.slice ap2 mB cp2) (.slice ap3 mC cp3) AL AS AO) := hp3
  have HQ3 : Hid (At3 w3 bw 30 (.slice ap1 mA cp1) (.slice ap2 mB cp2) (.slice ap3 mC cp3)) := hq3
  have HB3 : Hid (Below w2.heap.size w2 w3) := hB3
  have HW3 : Hid (Below w.heap.size w w3) := HW2.out.trans (hB3.mono HW2.out.size)
  have HA3 : Hid (At3 w3 w.heap.size 25 (.slice aL nL cL) (.slice aS nS cS) (.slice aO nO cO)) := HA2.out.below hB3
  have HPP3 : Hid (w3.heap[w.heap.size + 1]? = some (.cells #[.int .i64 o.k, .string o.n, .string o.t, .string o.d] 37 (0, 0))) := (hB3.block _ (lt_of_block HP2.out)).trans HP2.out
  clear hp3 hq3 hB3 hmA hmB hmC h6 h7
  have c0 := HA3.out.c0
  have c1 := HA3.out.c1
  have c2 := HA3.out.c2
  go_wp2_with fail
  -- x0
  refine (toDisk_own _ _ _ L S O w3 (HA.out w3 HW3.out).1 (HA.out w3 HW3.out).2.1 (HA.out w3 HW3.out).2.2 HN.out.1 HN.out.2.1 HN.out.2.2).mono ?_
  rintro e w5 ⟨x1, x2, x3, rfl, hx1, hx2, hx3, ⟨ho1, ho2, ho3, hox⟩, hB5⟩
  rw [← HE.out.1] at hx1 ho1
  rw [← HE.out.2.1] at hx2 ho2
  rw [← HE.out.2.2] at hx3 ho3
  rw [← HE.out.1, ← HE.out.2.1, ← HE.out.2.2]
  have HW5 : Hid (Below w.heap.size w w5) := HW3.out.trans (hB5.mono HW3.out.size)
  have hox5 : OwD w5 w3.heap.size (.slice (some ⟨x1, 0, none⟩) nL nL) (.slice (some ⟨x2, 0, none⟩) nS nS) (.slice (some ⟨x3, 0, none⟩) nO nO) nL nS nO := ⟨ho1, ho2, ho3, fun b hb e => hox (Option.some.inj (hb.trans e.symm))⟩
  have hrx5 : RdD w5 (.slice (some ⟨x1, 0, none⟩) nL nL) (.slice (some ⟨x2, 0, none⟩) nS nS) (.slice (some ⟨x3, 0, none⟩) nO nO) L S O := ⟨hx1, hx2, hx3⟩
  obtain ⟨X6, hX6⟩ : ∃ X6, X6 = w5.alloc (.cells #[.slice (some ⟨x1, 0, none⟩) nL nL, .slice (some ⟨x2, 0, none⟩) nS nS, .slice (some ⟨x3, 0, none⟩) nO nO] 30) := ⟨_, rfl⟩
  have hB6 : Below w5.heap.size w5 X6 := by rw [hX6]; exact (Below.refl _ _).alloc (Nat.le_refl _) _
  have HX6 := (show Hid _ from hX6)
  have HS35 : Hid (w3.heap.size ≤ w5.heap.size) := hB5.size
  have HB36 : Hid (Below w3.heap.size w3 X6) := hB5.trans (hB6.mono hB5.size)
  have HW6 : Hid (Below w.heap.size w X6) := HW5.out.trans (hB6.mono HW5.out.size)
  have HA6 : Hid (At3 X6 w.heap.size 25 (.slice aL nL cL) (.slice aS nS cS) (.slice aO nO cO)) := HA3.out.below HB36.out
  have HPP6 : Hid (X6.heap[w.heap.size + 1]? = some (.cells #[.int .i64 o.k, .string o.n, .string o.t, .string o.d] 37 (0, 0))) := (HB36.out.block _ (lt_of_block HPP3.out)).trans HPP3.out
  have HT6 : Hid (At3 X6 w5.heap.size 30 (.slice (some ⟨x1, 0, none⟩) nL nL) (.slice (some ⟨x2, 0, none⟩) nS nS) (.slice (some ⟨x3, 0, none⟩) nO nO)) := by rw [hX6]; exact At3.new _ _ _ _ _
  have HO6 : Hid (OwD X6 w3.heap.size (.slice (some ⟨x1, 0, none⟩) nL nL) (.slice (some ⟨x2, 0, none⟩) nS nS) (.slice (some ⟨x3, 0, none⟩) nO nO) nL nS nO) := hox5.below hB6
  have HY6 : Hid (RdD X6 (.slice (some ⟨x1, 0, none⟩) nL nL) (.slice (some ⟨x2, 0, none⟩) nS nS) (.slice (some ⟨x3, 0, none⟩) nO nO) L S O) := hrx5.below hB6
  have HLX : Hid (∀ b, (Value.slice (some ⟨x1, 0, none⟩) nL nL).ownBlock = some b ∨ (Value.slice (some ⟨x2, 0, none⟩) nS nS).ownBlock = some b ∨ (Value.slice (some ⟨x3, 0, none⟩) nO nO).ownBlock = some b → w3.heap.size ≤ b ∧ b < w5.heap.size) := fun b hb => by
    rcases hb with hb | hb | hb
    · exact hox5.l.lt b hb
    · exact hox5.s.lt b hb
    · exact hox5.o.lt b hb
  clear c0 c1 c2 hX6 hB6 hx1 hx2 hx3 ho1 ho2 ho3 hox hox5 hrx5 hB5
  -- g0, g1
  go_wp2
  rw [← HX6.out]
  refine wp_cut_to (fun a0 t w' => ∃ f, t = canon a0 dsK2 f ∧ (∃ g x y z, f 9 = .pointer (some ⟨g, 0, none⟩) ∧ f 10 = .int .i64 (CC : Int) ∧ w'.heap[g]? = some (.cells #[x, y, z] 30 (0, 0)) ∧ X6.heap.size ≤ g ∧ RdD w' x y z AL AS AO ∧ OwD w' X6.heap.size x y z AL.length AS.length AO.length ∧ Below X6.heap.size X6 w')) ?_ ?_
  rotate_left
  · intro J K' hJ hK
    refine wp_letter ?_
    intro fr hfr
    have hsz : 42 < fr.tmps.size := by rw [hfr]; exact Nat.le_of_ble_eq_true rfl
    have t2 : fr.eval (.tmp 2) = .pointer (some ⟨w.heap.size, 0, none⟩) := by rw [hfr]; rfl
    have t3 : fr.eval (.tmp 3) = .pointer (some ⟨w.heap.size + 1, 0, none⟩) := by rw [hfr]; rfl
    have tx : fr.eval (.tmp 8) = .pointer (some ⟨w5.heap.size, 0, none⟩) := by rw [hfr]; rfl
    have HFR := (show Hid _ from hfr)
    clear hfr
    have HWs : ∀ wy, Below X6.heap.size X6 wy → Below w.heap.size w wy := fun wy hy => HW6.out.trans (hy.mono HW6.out.size)
    have HAs : ∀ wy, Below X6.heap.size X6 wy → At3 wy w.heap.size 25 (.slice aL nL cL) (.slice aS nS cS) (.slice aO nO cO) := fun wy hy => HA6.out.below hy
    have HPs : ∀ wy, Below X6.heap.size X6 wy → wy.heap[w.heap.size + 1]? = some (.cells #[.int .i64 o.k, .string o.n, .string o.t, .string o.d] 37 (0, 0)) := fun wy hy => (hy.block _ (lt_of_block HPP6.out)).trans HPP6.out
    have HTs : ∀ wy, Below X6.heap.size X6 wy → At3 wy (w5.heap.size) 30 (.slice (some ⟨x1, 0, none⟩) nL nL) (.slice (some ⟨x2, 0, none⟩) nS nS) (.slice (some ⟨x3, 0, none⟩) nO nO) := fun wy hy => HT6.out.below hy
    have HYs : ∀ wy, Below X6.heap.size X6 wy → RdD wy (.slice (some ⟨x1, 0, none⟩) nL nL) (.slice (some ⟨x2, 0, none⟩) nS nS) (.slice (some ⟨x3, 0, none⟩) nO nO) L S O := fun wy hy => HY6.out.below hy
    refine wp_region_gen (by kernel_rfl) (by kernel_rfl) dsK2 slotK2 (K2F X6.heap.size CC (.agg #[.slice (some ⟨x1, 0, none⟩) nL nL, .slice (some ⟨x2, 0, none⟩) nS nS, .slice (some ⟨x3, 0, none⟩) nO nO]) L S O o AL AS AO) (fun wy => Below X6.heap.size X6 wy) ((Below.refl _ _).drew) ?_ ?_ ?_ ?_ ?_
    · intro j f f' wy hj he h
      exact h.dep hj (fun i hi => he i (by revert hi; match j, hj with | 0, _ => (intro hi; simp only [depK2, beq_iff_eq] at hi; rcases hi with rfl <;> kernel_rfl) | 1, _ => (intro hi; simp only [depK2, beq_iff_eq] at hi; rcases hi with rfl <;> kernel_rfl) | 2, _ => (intro hi; simp only [depK2, beq_iff_eq] at hi; rcases hi with rfl <;> kernel_rfl) | 3, _ => (intro hi; simp only [depK2, beq_iff_eq] at hi; rcases hi with rfl <;> kernel_rfl) | 4, _ => (intro hi; simp only [depK2, beq_iff_eq] at hi; rcases hi with rfl <;> kernel_rfl) | 5, _ => (intro hi; simp only [depK2, beq_iff_eq] at hi; rcases hi with rfl <;> kernel_rfl) | 6, _ => (intro hi; simp only [depK2, beq_iff_eq] at hi; rcases hi with rfl <;> kernel_rfl) | 7, _ => (intro hi; simp only [depK2, beq_iff_eq] at hi; rcases hi with rfl <;> kernel_rfl) | 8, _ => (intro hi; simp only [depK2, Bool.or_eq_true, beq_iff_eq] at hi; rcases hi with (rfl | rfl) | rfl <;> kernel_rfl) | 9, _ => (intro hi; simp only [depK2, beq_iff_eq] at hi; rcases hi with rfl <;> kernel_rfl)))
    · intro i hi
      exact slotK2_mem i hi
    · intro i j hi hj q
      exact slotK2_inj i j hi hj q
    · intro ops hops done f wy j oo hG ho hdn hd
      have ho2 := ho
      rw [hops] at ho
      have hj : j < 10 := by
        rcases Nat.lt_or_ge j 10 with h | h
        · exact h
        · rw [Array.getElem?_eq_none (by simpa using h)] at ho; cases ho
      have N2 := (canon_eval_ne fr dsK2 f 2 (by decide)).trans t2
      have N3 := (canon_eval_ne fr dsK2 f 3 (by decide)).trans t3
      have NX := (canon_eval_ne fr dsK2 f 8 (by decide)).trans tx
      have hj' : j = 0 ∨ j = 1 ∨ j = 2 ∨ j = 3 ∨ j = 4 ∨ j = 5 ∨ j = 6 ∨ j = 7 ∨ j = 8 ∨ j = 9 := by omega
      rcases hj' with rfl | rfl | rfl | rfl | rfl | rfl | rfl | rfl | rfl | rfl <;> simp only [List.getElem?_toArray, List.getElem?_cons_succ, List.getElem?_cons_zero, Option.some.injEq] at ho <;> subst ho
      · refine wpOp_runG ho2 (wanted_none rfl) (q_load31 (canon fr dsK2 f).eval _ wy _ w5.heap.size rfl NX (HTs wy hG).c0 (HTs wy hG).c1 (HTs wy hG).c2) ?_
        exact ⟨_, rfl, upd_same f 37 _, hG, fun j _ _ h => h⟩
      · refine wpOp_runG ho2 (wanted_none rfl) (q_loadOpL (canon fr dsK2 f).eval _ wy _ (w.heap.size + 1) o rfl N3 (HPs wy hG)) ?_
        exact ⟨_, rfl, upd_same f 38 _, hG, fun j _ _ h => h⟩
      · refine wpOp_enterG ho2 (wanted_none rfl) (q_call1I (canon fr dsK2 f).eval _ wy _ HEN4.out _ _ rfl rfl) ?_
        rw [(canon_eval fr dsK2 f 38 (by decide) (Nat.lt_of_le_of_lt (by decide) hsz)).trans (hd ⟨1, .data⟩ (by simp) rfl)]
        refine (toDOp_any o wy).mono ?_
        rintro e wz ⟨rfl, hBz⟩
        exact ⟨_, rfl, _, rfl, upd_same f 39 _, hG.trans (hBz.mono hG.size), fun j _ _ h => h.below hBz⟩
      · refine wpOp_enterG ho2 (wanted_none rfl) (q_call2 (canon fr dsK2 f).eval _ wy _ HEN6.out _ _ _ rfl rfl) ?_
        rw [(canon_eval fr dsK2 f 37 (by decide) (Nat.lt_of_le_of_lt (by decide) hsz)).trans (hd ⟨0, .data⟩ (by simp) rfl), (canon_eval fr dsK2 f 39 (by decide) (Nat.lt_of_le_of_lt (by decide) hsz)).trans (hd ⟨2, .data⟩ (by simp) rfl)]
        refine (HIMn.out wy _ _ x3 nO (HYs wy hG)).mono ?_
        rintro e wz ⟨x, y, z, rfl, hr, how, hBz⟩
        exact ⟨_, rfl, _, rfl, ⟨x, y, z, upd_same f 40 _, hr, how.base (hG.size)⟩, hG.trans (hBz.mono hG.size), fun j _ _ h => h.below hBz⟩
      · obtain ⟨x, y, z, e, h1, h2⟩ := hd ⟨3, .data⟩ (by simp) rfl
        refine wpOp_runG ho2 (wanted_none rfl) (q_moveD (canon fr dsK2 f).eval _ wy _ rfl) ?_
        exact ⟨_, rfl, ⟨x, y, z, (upd_same f 36 _).trans ((canon_eval fr dsK2 f 40 (by decide) (Nat.lt_of_le_of_lt (by decide) hsz)).trans e), h1, h2⟩, hG, fun j _ _ h => h⟩
      · obtain ⟨x, y, z, e, h1, h2⟩ := hd ⟨4, .data⟩ (by simp) rfl
        refine wpOp_runG ho2 (wanted_none rfl) (q_ext0 (canon fr dsK2 f).eval _ wy _ (.agg #[x, y, z]) _ rfl ((canon_eval fr dsK2 f 36 (by decide) (Nat.lt_of_le_of_lt (by decide) hsz)).trans e)) ?_
        exact ⟨_, rfl, ⟨x, y, z, upd_same f 41 _, h1, h2⟩, hG, fun j _ _ h => h⟩
      · obtain ⟨x, y, z, e, h1, h2⟩ := hd ⟨4, .data⟩ (by simp) rfl
        refine wpOp_runG ho2 (wanted_none rfl) (q_ext1 (canon fr dsK2 f).eval _ wy _ (.agg #[x, y, z]) _ rfl ((canon_eval fr dsK2 f 36 (by decide) (Nat.lt_of_le_of_lt (by decide) hsz)).trans e)) ?_
        exact ⟨_, rfl, upd_same f 42 _, hG, fun j _ _ h => h⟩
      · refine wpOp_runG ho2 (wanted_none rfl) (q_allocD (canon fr dsK2 f).eval _ wy rfl) ?_
        have hBz : Below wy.heap.size wy (wy.alloc (.cells #[.slice none 0 0, .slice none 0 0, .slice none 0 0] 30)) := (Below.refl _ _).alloc (Nat.le_refl _) _
        exact ⟨_, rfl, ⟨wy.heap.size, _, upd_same f 9 _, hG.size, rfl, noStr3 _ _ _ _ _ _ _ _ _, heap_alloc_new _ _⟩, hG.trans (hBz.mono hG.size), fun j _ _ h => h.below hBz⟩
      · obtain ⟨g, cs, eg, hb, hc, hnn, hh⟩ := hd ⟨7, .data⟩ (by simp) rfl
        obtain ⟨x, y, z, e, h1, h2⟩ := hd ⟨5, .data⟩ (by simp) rfl
        obtain ⟨b1, d1, b2, d2, b3, d3, ex, ey, ez⟩ := h1.slices
        subst ex ey ez
        refine wpOp_storeD ho2 (wanted_none rfl) _ _ g rfl ((canon_eval fr dsK2 f 9 (by decide) (Nat.lt_of_le_of_lt (by decide) hsz)).trans eg) ((canon_eval fr dsK2 f 41 (by decide) (Nat.lt_of_le_of_lt (by decide) hsz)).trans e) hc hh ?_
        intro wz hz1 hz2 hz3 hz4 hz5 hz6
        refine ⟨f 0, (put_same fr dsK2 f 0 (by decide)).symm, ⟨g, _, _, _, (upd_ne f _ (by decide)).trans eg, (upd_ne f _ (by decide)).trans e, hz1⟩, ?_, fun j _ hne h => h.put hne eg hh hnn hz1 rfl (noStr3 _ _ _ _ _ _ _ _ _) hz2 (by omega)⟩
        exact ⟨hz4.trans hG.os, hz5.trans hG.tape, hz6.trans hG.output, by rw [hz3]; exact hG.size, fun k hk => (hz2 k (by omega)).trans (hG.block k hk)⟩
      · have h33 : f 42 = .int .i64 _ := hd ⟨6, .data⟩ (by simp) rfl
        refine wpOp_runG ho2 (wanted_none rfl) (q_assignC (canon fr dsK2 f).eval _ wy _ rfl) ?_
        exact ⟨_, rfl, (upd_same f 10 _).trans ((canon_eval fr dsK2 f 42 (by decide) (Nat.lt_of_le_of_lt (by decide) hsz)).trans h33), hG, fun j _ _ h => h⟩
    · intro f wy hG hall
      obtain ⟨g, cs, eg, hb, _, _, _⟩ := hall 7 (by decide)
      obtain ⟨x, y, z, e, h1, h2⟩ := hall 5 (by decide)
      obtain ⟨g', x', y', z', eg', e', hh⟩ := hall 8 (by decide)
      have h7 : f 10 = .int .i64 (CC : Int) := hall 9 (by decide)
      rw [e] at e'
      simp only [Value.agg.injEq, Array.mk.injEq, List.cons.injEq, and_true] at e'
      obtain ⟨rfl, rfl, rfl⟩ := e'
      rw [eg] at eg'
      simp only [Value.pointer.injEq, Option.some.injEq, Addr.mk.injEq] at eg'
      obtain ⟨rfl, _⟩ := eg'
      exact hK _ _ (Met.intro (hJ _ _ ⟨f, congrArg (fun z => canon z dsK2 f) HFR.out, g, x, y, z, eg, h7, hh, hb, h1, h2, hG⟩))
  rintro _ w7 ⟨f, rfl, bg, p1, p2, p3, h6, h7, hq7, hb7, hp7, how7, hB7⟩
  simp only [canon, dsK2, List.foldl, Act.put, List.setIfInBounds_toArray, List.set_cons_succ, List.set_cons_zero]
  rw [h6, h7]
  obtain ⟨ag1, cg1, ag2, cg2, ag3, cg3, e1, e2, e3⟩ := hp7.slices
  rw [← HMM.out.1] at e1 how7
  rw [← HMM.out.2.1] at e2 how7
  rw [← HMM.out.2.2] at e3 how7
  subst e1 e2 e3
  have HB37 : Hid (Below w3.heap.size w3 w7) := HB36.out.trans (hB7.mono HB36.out.size)
  have HW7 : Hid (Below w.heap.size w w7) := HW6.out.trans (hB7.mono HW6.out.size)
  have HT7 : Hid (At3 w7 w5.heap.size 30 (.slice (some ⟨x1, 0, none⟩) nL nL) (.slice (some ⟨x2, 0, none⟩) nS nS) (.slice (some ⟨x3, 0, none⟩) nO nO)) := HT6.out.below hB7
  have HO7 : Hid (OwD w7 w3.heap.size (.slice (some ⟨x1, 0, none⟩) nL nL) (.slice (some ⟨x2, 0, none⟩) nS nS) (.slice (some ⟨x3, 0, none⟩) nO nO) nL nS nO) := HO6.out.below hB7
  have HY7 : Hid (RdD w7 (.slice (some ⟨x1, 0, none⟩) nL nL) (.slice (some ⟨x2, 0, none⟩) nS nS) (.slice (some ⟨x3, 0, none⟩) nO nO) L S O) := HY6.out.below hB7
  have HG7 : Hid (RdD w7 (.slice ag1 mA cg1) (.slice ag2 mB cg2) (.slice ag3 mC cg3) AL AS AO) := hp7
  have HD7 : Hid (OwD w7 X6.heap.size (.slice ag1 mA cg1) (.slice ag2 mB cg2) (.slice ag3 mC cg3) mA mB mC) := how7
  have HV7 : Hid (At3 w7 bg 30 (.slice ag1 mA cg1) (.slice ag2 mB cg2) (.slice ag3 mC cg3)) := hq7
  have HP7 : Hid (RdD w7 (.slice ap1 mA cp1) (.slice ap2 mB cp2) (.slice ap3 mC cp3) AL AS AO) := HP3.out.below HB37.out
  have HQ7 : Hid (At3 w7 bw 30 (.slice ap1 mA cp1) (.slice ap2 mB cp2) (.slice ap3 mC cp3)) := HQ3.out.below HB37.out
  have HA7 : Hid (At3 w7 w.heap.size 25 (.slice aL nL cL) (.slice aS nS cS) (.slice aO nO cO)) := HA3.out.below HB37.out
  have HSZ : Hid (w3.heap.size ≤ w5.heap.size ∧ w5.heap.size < X6.heap.size ∧ X6.heap.size ≤ bg) := ⟨HS35.out, HT6.out.lt, hb7⟩
  clear hp7 hq7 hB7 how7 h6 h7 hb7 HX6
  have hCC : ((CC : Int) != (CC : Int)) = false := by simp
  have c0 := HQ7.out.c0
  have c1 := HQ7.out.c1
  have c2 := HQ7.out.c2
  have d0 := HV7.out.c0
  have d1 := HV7.out.c1
  have d2 := HV7.out.c2
  go_wp2_with fail
  refine (eqDisk_same _ _ _ _ _ _ AL AS AO w7 HG7.out.1 HG7.out.2.1 HG7.out.2.2 HP7.out.1 HP7.out.2.1 HP7.out.2.2).mono ?_
  rintro e w9 ⟨rfl, hB9⟩
  have HB9 : Hid (Below w7.heap.size w7 w9) := hB9
  clear c0 c1 c2 d0 d1 d2 hB9
  -- is the argument as it was?
  have HBQ : Hid (Below w.heap.size w w9) := HW7.out.trans (HB9.out.mono HW7.out.size)
  have HCQ : Hid (∀ wy, Below w9.heap.size w9 wy → wy.cell? ⟨w5.heap.size, 0, none⟩ = some (.slice (some ⟨x1, 0, none⟩) nL nL) ∧ wy.cell? ⟨w5.heap.size, 1, none⟩ = some (.slice (some ⟨x2, 0, none⟩) nS nS) ∧ wy.cell? ⟨w5.heap.size, 2, none⟩ = some (.slice (some ⟨x3, 0, none⟩) nO nO) ∧ wy.cell? ⟨w.heap.size, 0, none⟩ = some (.slice aL nL cL) ∧ wy.cell? ⟨w.heap.size, 1, none⟩ = some (.slice aS nS cS) ∧ wy.cell? ⟨w.heap.size, 2, none⟩ = some (.slice aO nO cO)) := fun wy hy => by
    have h8 := HB9.out.trans (hy.mono HB9.out.size)
    exact ⟨(HT7.out.below h8).c0, (HT7.out.below h8).c1, (HT7.out.below h8).c2, (HA7.out.below h8).c0, (HA7.out.below h8).c1, (HA7.out.below h8).c2⟩
  have HXQ : Hid (∀ wy, Below w9.heap.size w9 wy → RdD wy (.slice (some ⟨x1, 0, none⟩) nL nL) (.slice (some ⟨x2, 0, none⟩) nS nS) (.slice (some ⟨x3, 0, none⟩) nO nO) L S O) := fun wy hy => HY7.out.below (HB9.out.trans (hy.mono HB9.out.size))
  go_wp2
  refine wp_cut_to (fun a0 t w' => ∃ f, t = canon a0 dsR f ∧ f 56 = .bool false ∧ Below w9.heap.size w9 w') ?_ ?_
  rotate_left
  · intro J K' hJ hK
    refine wp_letter ?_
    intro fr hfr
    have hs7 : 56 < fr.tmps.size := by rw [hfr]; exact Nat.le_of_ble_eq_true rfl
    have t5 : fr.eval (.tmp 8) = .pointer (some ⟨w5.heap.size, 0, none⟩) := by rw [hfr]; rfl
    have t1 : fr.eval (.tmp 2) = .pointer (some ⟨w.heap.size, 0, none⟩) := by rw [hfr]; rfl
    have HFR := (show Hid _ from hfr)
    clear hfr
    refine wp_region_rel (Rel := fun v v' => Below v.heap.size v v') (fun v => Below.refl _ _) (fun h k => h.trans (k.mono h.size)) (fun v => (Below.refl _ _).drew) (by kernel_rfl) (by kernel_rfl) dsR slotR (QF (.agg #[.slice (some ⟨x1, 0, none⟩) nL nL, .slice (some ⟨x2, 0, none⟩) nS nS, .slice (some ⟨x3, 0, none⟩) nO nO]) (.agg #[.slice aL nL cL, .slice aS nS cS, .slice aO nO cO]) L S O) (fun _ _ _ _ h hB => h.below hB) ?_ ?_ ?_ ?_
    · intro i hi
      exact slotR_mem i hi
    · intro i j hi hj q
      exact slotR_inj i j hi hj q
    · intro ops hops f wy j oo hy ho hd
      have ho2 := ho
      rw [hops] at ho
      have N1 := (canon_eval_ne fr dsR f 2 (by decide)).trans t1
      have N5 := (canon_eval_ne fr dsR f 8 (by decide)).trans t5
      have hi : j < 5 := by
        rcases Nat.lt_or_ge j 5 with h | h
        · exact h
        · rw [Array.getElem?_eq_none (by simpa using h)] at ho; cases ho
      have hi' : j = 0 ∨ j = 1 ∨ j = 2 ∨ j = 3 ∨ j = 4 := by omega
      rcases hi' with rfl | rfl | rfl | rfl | rfl <;> simp only [List.getElem?_toArray, List.getElem?_cons_succ, List.getElem?_cons_zero, Option.some.injEq] at ho <;> subst ho
      · refine wpOp_runG ho2 (wanted_none rfl) (q_load31 (canon fr dsR f).eval _ wy _ w5.heap.size rfl N5 (HCQ.out wy hy).1 (HCQ.out wy hy).2.1 (HCQ.out wy hy).2.2.1) ?_
        exact ⟨_, rfl, rfl, Below.refl _ _⟩
      · refine wpOp_runG ho2 (wanted_none rfl) (q_load25 (canon fr dsR f).eval _ wy _ w.heap.size rfl N1 (HCQ.out wy hy).2.2.2.1 (HCQ.out wy hy).2.2.2.2.1 (HCQ.out wy hy).2.2.2.2.2) ?_
        exact ⟨_, rfl, rfl, Below.refl _ _⟩
      · refine wpOp_enterG ho2 (wanted_none rfl) (q_call1I (canon fr dsR f).eval _ wy _ HEN1.out _ _ rfl rfl) ?_
        rw [(canon_eval fr dsR f 53 (by decide) (Nat.lt_of_le_of_lt (by decide) hs7)).trans (hd ⟨1, .data⟩ (by simp) rfl)]
        refine (toDisk_any _ _ _ L S O wy (HA.out wy (HBQ.out.trans (hy.mono HBQ.out.size))).1 (HA.out wy (HBQ.out.trans (hy.mono HBQ.out.size))).2.1 (HA.out wy (HBQ.out.trans (hy.mono HBQ.out.size))).2.2 HN.out.1 HN.out.2.1 HN.out.2.2).mono ?_
        rintro e wz ⟨u1, u2, u3, rfl, hu1, hu2, hu3, hBz⟩
        exact ⟨_, rfl, _, rfl, ⟨_, _, _, rfl, hu1, hu2, hu3⟩, hBz⟩
      · obtain ⟨u1, u2, u3, hu, hu1, hu2, hu3⟩ := hd ⟨2, .data⟩ (by simp) rfl
        refine wpOp_enterG ho2 (wanted_none rfl) (q_call2 (canon fr dsR f).eval _ wy _ HEN2.out _ _ _ rfl rfl) ?_
        rw [(canon_eval fr dsR f 52 (by decide) (Nat.lt_of_le_of_lt (by decide) hs7)).trans (hd ⟨0, .data⟩ (by simp) rfl), (canon_eval fr dsR f 54 (by decide) (Nat.lt_of_le_of_lt (by decide) hs7)).trans hu]
        refine (eqDisk_same _ _ _ u1 u2 u3 L S O wy (HXQ.out wy hy).1 (HXQ.out wy hy).2.1 (HXQ.out wy hy).2.2 hu1 hu2 hu3).mono ?_
        rintro e wz ⟨rfl, hBz⟩
        exact ⟨_, rfl, _, rfl, rfl, hBz⟩
      · refine wpOp_runG ho2 (wanted_none rfl) (q_notI (canon fr dsR f).eval _ wy _ true rfl ((canon_eval fr dsR f 55 (by decide) (Nat.lt_of_le_of_lt (by decide) hs7)).trans (hd ⟨3, .data⟩ (by simp) rfl))) ?_
        exact ⟨_, rfl, rfl, Below.refl _ _⟩
    · intro f wy hy hall
      exact hK _ _ (Met.intro (hJ _ _ ⟨f, congrArg (fun z => canon z dsR f) HFR.out, hall 4 (by decide), hy⟩))

  rintro _ w10 ⟨f, rfl, h10, hB10⟩
  simp only [canon, dsR, List.foldl, Act.put, List.setIfInBounds_toArray, List.set_cons_succ, List.set_cons_zero]
  rw [h10]
  have HB10 : Hid (Below w7.heap.size w7 w10) := HB9.out.trans (hB10.mono HB9.out.size)
  have HW10 : Hid (Below w.heap.size w w10) := HW7.out.trans (HB10.out.mono HW7.out.size)
  clear h10 hB10
  -- marks on the argument
  have d0 := (HT7.out.below HB10.out).c0
  have d1 := (HT7.out.below HB10.out).c1
  have d2 := (HT7.out.below HB10.out).c2
  go_wp2_with fail
  refine (markDisk_any w3.heap.size _ _ _ nL nS nO 1 w10 (HO7.out.below HB10.out) (by omega) (by have := HN.out; have := HE.out; omega)).mono ?_
  rintro e w11 ⟨rfl, _, hK11⟩
  clear d0 d1 d2
  have hsz7 := HSZ.out
  have HX411 : Hid (Below w3.heap.size w3 w11 ∧ w10.heap.size ≤ w11.heap.size) := by
    have hb : Below w3.heap.size w3 w10 := HB37.out.trans (HB10.out.mono HB37.out.size)
    refine ⟨⟨hK11.os.trans hb.os, hK11.tape.trans hb.tape, hK11.output.trans hb.output, Nat.le_trans hb.size hK11.size, fun b hb' => ?_⟩, hK11.size⟩
    have hbs := hb.size
    refine (hK11.block b (by omega) ⟨fun e => ?_, fun e => ?_, fun e => ?_⟩).trans (hb.block b hb')
    · have := HLX.out b (.inl e); omega
    · have := HLX.out b (.inr (.inl e)); omega
    · have := HLX.out b (.inr (.inr e)); omega
  have hkg : ∀ b, X6.heap.size ≤ b → b < w10.heap.size → w11.heap[b]? = w10.heap[b]? := fun b h1 h2 => by
    refine hK11.block b h2 ⟨fun e => ?_, fun e => ?_, fun e => ?_⟩
    · have := HLX.out b (.inl e); omega
    · have := HLX.out b (.inr (.inl e)); omega
    · have := HLX.out b (.inr (.inr e)); omega
  have HV11 : Hid (At3 w11 bg 30 (.slice ag1 mA cg1) (.slice ag2 mB cg2) (.slice ag3 mC cg3)) := (hkg _ HSZ.out.2.2 (HV7.out.below HB10.out).lt).trans (HV7.out.below HB10.out)
  have HG11 : Hid (RdD w11 (.slice ag1 mA cg1) (.slice ag2 mB cg2) (.slice ag3 mC cg3) AL AS AO) := (HG7.out.below HB10.out).own (HD7.out.below HB10.out) hK11.size hkg
  have HD11 : Hid (OwD w11 X6.heap.size (.slice ag1 mA cg1) (.slice ag2 mB cg2) (.slice ag3 mC cg3) mA mB mC) := (HD7.out.below HB10.out).kept hkg
  have HW11 : Hid (Below w.heap.size w w11) := HW3.out.trans (HX411.out.1.mono HW3.out.size)
  have HP11 : Hid (RdD w11 (.slice ap1 mA cp1) (.slice ap2 mB cp2) (.slice ap3 mC cp3) AL AS AO) := HP3.out.below HX411.out.1
  have HQ11 : Hid (At3 w11 bw 30 (.slice ap1 mA cp1) (.slice ap2 mB cp2) (.slice ap3 mC cp3)) := HQ3.out.below HX411.out.1
  obtain ⟨K, hK⟩ : ∃ K, K = 1 + nL * 2 + nS * 2 + nO * 4 := ⟨_, rfl⟩
  rw [← hK]
  have hKd : decide ((K : Int) < 0) = false := decide_eq_false (by omega)
  have hKn : ¬ ((K : Int) < 0) := by omega
  clear hK11 hkg hK hsz7
  have c0 := HQ11.out.c0
  have c1 := HQ11.out.c1
  have c2 := HQ11.out.c2
  have d0 := HV11.out.c0
  have d1 := HV11.out.c1
  have d2 := HV11.out.c2
  go_wp2_with fail
  refine (eqDisk_same _ _ _ _ _ _ AL AS AO w11 HG11.out.1 HG11.out.2.1 HG11.out.2.2 HP11.out.1 HP11.out.2.1 HP11.out.2.2).mono ?_
  rintro e w12 ⟨rfl, hB12⟩
  have HB12 : Hid (Below w11.heap.size w11 w12) := hB12
  have HV12 : Hid (At3 w12 bg 30 (.slice ag1 mA cg1) (.slice ag2 mB cg2) (.slice ag3 mC cg3)) := HV11.out.below hB12
  have HD12 : Hid (OwD w12 X6.heap.size (.slice ag1 mA cg1) (.slice ag2 mB cg2) (.slice ag3 mC cg3) mA mB mC) := HD11.out.below hB12
  have HX412 : Hid (Below w3.heap.size w3 w12) := HX411.out.1.trans (hB12.mono HX411.out.1.size)
  clear c0 c1 c2 d0 d1 d2 hB12 hKd hKn
  -- marks on the answer
  have d0 := HV12.out.c0
  have d1 := HV12.out.c1
  have d2 := HV12.out.c2
  go_wp2_with fail
  refine (markDisk_any X6.heap.size _ _ _ mA mB mC 1 w12 HD12.out (by omega) (by have := HLEN.out; have := HMM.out; omega)).mono ?_
  rintro e w13 ⟨rfl, hm13, hK13⟩
  have hap := HV12.out.apart HD12.out
  have HX413 : Hid (Below w3.heap.size w3 w13) := by
    have hb := HX412.out
    have hsz := HSZ.out
    refine ⟨hK13.os.trans hb.os, hK13.tape.trans hb.tape, hK13.output.trans hb.output, Nat.le_trans hb.size hK13.size, fun b hb' => ?_⟩
    have hbs := hb.size
    refine (hK13.block b (by omega) ⟨fun e => ?_, fun e => ?_, fun e => ?_⟩).trans (hb.block b hb')
    · have := (HD12.out.l.lt b e).1; omega
    · have := (HD12.out.s.lt b e).1; omega
    · have := (HD12.out.o.lt b e).1; omega
  have HV13 : Hid (At3 w13 bg 30 (.slice ag1 mA cg1) (.slice ag2 mB cg2) (.slice ag3 mC cg3)) :=
    (hK13.block _ HV12.out.lt ⟨fun e => hap _ (.inl e) rfl, fun e => hap _ (.inr (.inl e)) rfl, fun e => hap _ (.inr (.inr e)) rfl⟩).trans HV12.out
  have HM13 : Hid (RdD w13 (.slice ag1 mA cg1) (.slice ag2 mB cg2) (.slice ag3 mC cg3) (mkF 1 mA) (mkF (1 + mA * 2) mB) (mkO (1 + mA * 2 + mB * 2) mC)) := hm13
  have HNR : Hid (1 + mA * 2 + mB * 2 + mC * 4 ≤ 1152921504606846976) := by show _ ≤ _; have := HLEN.out; have := HMM.out; omega
  obtain ⟨T, hT⟩ : ∃ T, T = 1 + mA * 2 + mB * 2 + mC * 4 := ⟨_, rfl⟩
  have HT : Hid (T = 1 + mA * 2 + mB * 2 + mC * 4) := hT
  rw [← hT]
  have hTd : decide ((T : Int) < 0) = false := decide_eq_false (by omega)
  have hTT : ((T : Int) != (T : Int)) = false := by simp
  clear d0 d1 d2 hm13 hK13 hT hap
  -- are they held?
  have d0 := HV13.out.c0
  have d1 := HV13.out.c1
  have d2 := HV13.out.c2
  go_wp2_with fail
  refine (heldDisk_any _ _ _ mA mB mC 1 w13 HM13.out (by omega) HNR.out).mono ?_
  rintro e w14 ⟨rfl, hB14⟩
  rw [← HT.out]
  have HX414 : Hid (Below w3.heap.size w3 w14) := HX413.out.trans (hB14.mono HX413.out.size)
  have HV14 : Hid (At3 w14 bg 30 (.slice ag1 mA cg1) (.slice ag2 mB cg2) (.slice ag3 mC cg3)) := HV13.out.below hB14
  have HM14 : Hid (RdD w14 (.slice ag1 mA cg1) (.slice ag2 mB cg2) (.slice ag3 mC cg3) (mkF 1 mA) (mkF (1 + mA * 2) mB) (mkO (1 + mA * 2 + mB * 2) mC)) := HM13.out.below hB14
  have HW14 : Hid (Below w.heap.size w w14) := HW3.out.trans (HX414.out.mono HW3.out.size)
  have HA14 : Hid (At3 w14 w.heap.size 25 (.slice aL nL cL) (.slice aS nS cS) (.slice aO nO cO)) := HA3.out.below HX414.out
  have HPP14 : Hid (w14.heap[w.heap.size + 1]? = some (.cells #[.int .i64 o.k, .string o.n, .string o.t, .string o.d] 37 (0, 0))) := (HX414.out.block _ (lt_of_block HPP3.out)).trans HPP3.out
  clear d0 d1 d2 hB14
  -- once more
  go_wp2
  refine wp_cut_to (fun a0 t w' => ∃ f, t = canon a0 dsK3 f ∧ (∃ g x y z, f 14 = .pointer (some ⟨g, 0, none⟩) ∧ f 15 = .int .i64 (CC : Int) ∧ w'.heap[g]? = some (.cells #[x, y, z] 30 (0, 0)) ∧ w14.heap.size ≤ g ∧ RdD w' x y z AL AS AO ∧ OwD w' w14.heap.size x y z AL.length AS.length AO.length ∧ Below w14.heap.size w14 w')) ?_ ?_
  rotate_left
  · intro J K' hJ hK
    refine wp_letter ?_
    intro fr hfr
    have hsz : 91 < fr.tmps.size := by rw [hfr]; exact Nat.le_of_ble_eq_true rfl
    have t2 : fr.eval (.tmp 2) = .pointer (some ⟨w.heap.size, 0, none⟩) := by rw [hfr]; rfl
    have t3 : fr.eval (.tmp 3) = .pointer (some ⟨w.heap.size + 1, 0, none⟩) := by rw [hfr]; rfl
    have HFR := (show Hid _ from hfr)
    clear hfr
    have HWs : ∀ wy, Below w14.heap.size w14 wy → Below w.heap.size w wy := fun wy hy => HW14.out.trans (hy.mono HW14.out.size)
    have HAs : ∀ wy, Below w14.heap.size w14 wy → At3 wy w.heap.size 25 (.slice aL nL cL) (.slice aS nS cS) (.slice aO nO cO) := fun wy hy => HA14.out.below hy
    have HPs : ∀ wy, Below w14.heap.size w14 wy → wy.heap[w.heap.size + 1]? = some (.cells #[.int .i64 o.k, .string o.n, .string o.t, .string o.d] 37 (0, 0)) := fun wy hy => (hy.block _ (lt_of_block HPP14.out)).trans HPP14.out
    refine wp_region_gen (by kernel_rfl) (by kernel_rfl) dsK3 slotK3 (K3F w14.heap.size CC (.agg #[.slice aL nL cL, .slice aS nS cS, .slice aO nO cO]) L S O o AL AS AO) (fun wy => Below w14.heap.size w14 wy) ((Below.refl _ _).drew) ?_ ?_ ?_ ?_ ?_
    · intro j f f' wy hj he h
      exact h.dep hj (fun i hi => he i (by revert hi; match j, hj with | 0, _ => (intro hi; simp only [depK3, beq_iff_eq] at hi; rcases hi with rfl <;> kernel_rfl) | 1, _ => (intro hi; simp only [depK3, beq_iff_eq] at hi; rcases hi with rfl <;> kernel_rfl) | 2, _ => (intro hi; simp only [depK3, beq_iff_eq] at hi; rcases hi with rfl <;> kernel_rfl) | 3, _ => (intro hi; simp only [depK3, beq_iff_eq] at hi; rcases hi with rfl <;> kernel_rfl) | 4, _ => (intro hi; simp only [depK3, beq_iff_eq] at hi; rcases hi with rfl <;> kernel_rfl) | 5, _ => (intro hi; simp only [depK3, beq_iff_eq] at hi; rcases hi with rfl <;> kernel_rfl) | 6, _ => (intro hi; simp only [depK3, beq_iff_eq] at hi; rcases hi with rfl <;> kernel_rfl) | 7, _ => (intro hi; simp only [depK3, beq_iff_eq] at hi; rcases hi with rfl <;> kernel_rfl) | 8, _ => (intro hi; simp only [depK3, beq_iff_eq] at hi; rcases hi with rfl <;> kernel_rfl) | 9, _ => (intro hi; simp only [depK3, Bool.or_eq_true, beq_iff_eq] at hi; rcases hi with (rfl | rfl) | rfl <;> kernel_rfl) | 10, _ => (intro hi; simp only [depK3, beq_iff_eq] at hi; rcases hi with rfl <;> kernel_rfl)))
    · intro i hi
      exact slotK3_mem i hi
    · intro i j hi hj q
      exact slotK3_inj i j hi hj q
    · intro ops hops done f wy j oo hG ho hdn hd
      have ho2 := ho
      rw [hops] at ho
      have hj : j < 11 := by
        rcases Nat.lt_or_ge j 11 with h | h
        · exact h
        · rw [Array.getElem?_eq_none (by simpa using h)] at ho; cases ho
      have N2 := (canon_eval_ne fr dsK3 f 2 (by decide)).trans t2
      have N3 := (canon_eval_ne fr dsK3 f 3 (by decide)).trans t3
      have hj' : j = 0 ∨ j = 1 ∨ j = 2 ∨ j = 3 ∨ j = 4 ∨ j = 5 ∨ j = 6 ∨ j = 7 ∨ j = 8 ∨ j = 9 ∨ j = 10 := by omega
      rcases hj' with rfl | rfl | rfl | rfl | rfl | rfl | rfl | rfl | rfl | rfl | rfl <;> simp only [List.getElem?_toArray, List.getElem?_cons_succ, List.getElem?_cons_zero, Option.some.injEq] at ho <;> subst ho
      · refine wpOp_runG ho2 (wanted_none rfl) (q_load25 (canon fr dsK3 f).eval _ wy _ w.heap.size rfl N2 (HAs wy hG).c0 (HAs wy hG).c1 (HAs wy hG).c2) ?_
        exact ⟨_, rfl, upd_same f 85 _, hG, fun j _ _ h => h⟩
      · refine wpOp_enterG ho2 (wanted_none rfl) (q_call1I (canon fr dsK3 f).eval _ wy _ HEN1.out _ _ rfl rfl) ?_
        rw [(canon_eval fr dsK3 f 85 (by decide) (Nat.lt_of_le_of_lt (by decide) hsz)).trans (hd ⟨0, .data⟩ (by simp) rfl)]
        refine (toDisk_any _ _ _ L S O wy (HA.out wy (HWs wy hG)).1 (HA.out wy (HWs wy hG)).2.1 (HA.out wy (HWs wy hG)).2.2 HN.out.1 HN.out.2.1 HN.out.2.2).mono ?_
        rintro e wz ⟨u1, u2, u3, rfl, hu1, hu2, hu3, hBz⟩
        exact ⟨_, rfl, _, rfl, ⟨u1, u2, u3, upd_same f 86 _, hu1, hu2, hu3⟩, hG.trans (hBz.mono hG.size), fun j _ _ h => h.below hBz⟩
      · refine wpOp_runG ho2 (wanted_none rfl) (q_loadOpL (canon fr dsK3 f).eval _ wy _ (w.heap.size + 1) o rfl N3 (HPs wy hG)) ?_
        exact ⟨_, rfl, upd_same f 87 _, hG, fun j _ _ h => h⟩
      · refine wpOp_enterG ho2 (wanted_none rfl) (q_call1I (canon fr dsK3 f).eval _ wy _ HEN4.out _ _ rfl rfl) ?_
        rw [(canon_eval fr dsK3 f 87 (by decide) (Nat.lt_of_le_of_lt (by decide) hsz)).trans (hd ⟨2, .data⟩ (by simp) rfl)]
        refine (toDOp_any o wy).mono ?_
        rintro e wz ⟨rfl, hBz⟩
        exact ⟨_, rfl, _, rfl, upd_same f 88 _, hG.trans (hBz.mono hG.size), fun j _ _ h => h.below hBz⟩
      · obtain ⟨u1, u2, u3, hu, hrd⟩ := hd ⟨1, .data⟩ (by simp) rfl
        refine wpOp_enterG ho2 (wanted_none rfl) (q_call2 (canon fr dsK3 f).eval _ wy _ HEN6.out _ _ _ rfl rfl) ?_
        rw [(canon_eval fr dsK3 f 86 (by decide) (Nat.lt_of_le_of_lt (by decide) hsz)).trans hu, (canon_eval fr dsK3 f 88 (by decide) (Nat.lt_of_le_of_lt (by decide) hsz)).trans (hd ⟨3, .data⟩ (by simp) rfl)]
        refine (HIM.out wy _ _ _ _ hrd).mono ?_
        rintro e wz ⟨x, y, z, rfl, hr, how, hBz⟩
        exact ⟨_, rfl, _, rfl, ⟨x, y, z, upd_same f 89 _, hr, how.base (hG.size)⟩, hG.trans (hBz.mono hG.size), fun j _ _ h => h.below hBz⟩
      · obtain ⟨x, y, z, e, h1, h2⟩ := hd ⟨4, .data⟩ (by simp) rfl
        refine wpOp_runG ho2 (wanted_none rfl) (q_moveD (canon fr dsK3 f).eval _ wy _ rfl) ?_
        exact ⟨_, rfl, ⟨x, y, z, (upd_same f 84 _).trans ((canon_eval fr dsK3 f 89 (by decide) (Nat.lt_of_le_of_lt (by decide) hsz)).trans e), h1, h2⟩, hG, fun j _ _ h => h⟩
      · obtain ⟨x, y, z, e, h1, h2⟩ := hd ⟨5, .data⟩ (by simp) rfl
        refine wpOp_runG ho2 (wanted_none rfl) (q_ext0 (canon fr dsK3 f).eval _ wy _ (.agg #[x, y, z]) _ rfl ((canon_eval fr dsK3 f 84 (by decide) (Nat.lt_of_le_of_lt (by decide) hsz)).trans e)) ?_
        exact ⟨_, rfl, ⟨x, y, z, upd_same f 90 _, h1, h2⟩, hG, fun j _ _ h => h⟩
      · obtain ⟨x, y, z, e, h1, h2⟩ := hd ⟨5, .data⟩ (by simp) rfl
        refine wpOp_runG ho2 (wanted_none rfl) (q_ext1 (canon fr dsK3 f).eval _ wy _ (.agg #[x, y, z]) _ rfl ((canon_eval fr dsK3 f 84 (by decide) (Nat.lt_of_le_of_lt (by decide) hsz)).trans e)) ?_
        exact ⟨_, rfl, upd_same f 91 _, hG, fun j _ _ h => h⟩
      · refine wpOp_runG ho2 (wanted_none rfl) (q_allocD (canon fr dsK3 f).eval _ wy rfl) ?_
        have hBz : Below wy.heap.size wy (wy.alloc (.cells #[.slice none 0 0, .slice none 0 0, .slice none 0 0] 30)) := (Below.refl _ _).alloc (Nat.le_refl _) _
        exact ⟨_, rfl, ⟨wy.heap.size, _, upd_same f 14 _, hG.size, rfl, noStr3 _ _ _ _ _ _ _ _ _, heap_alloc_new _ _⟩, hG.trans (hBz.mono hG.size), fun j _ _ h => h.below hBz⟩
      · obtain ⟨g, cs, eg, hb, hc, hnn, hh⟩ := hd ⟨8, .data⟩ (by simp) rfl
        obtain ⟨x, y, z, e, h1, h2⟩ := hd ⟨6, .data⟩ (by simp) rfl
        obtain ⟨b1, d1, b2, d2, b3, d3, ex, ey, ez⟩ := h1.slices
        subst ex ey ez
        refine wpOp_storeD ho2 (wanted_none rfl) _ _ g rfl ((canon_eval fr dsK3 f 14 (by decide) (Nat.lt_of_le_of_lt (by decide) hsz)).trans eg) ((canon_eval fr dsK3 f 90 (by decide) (Nat.lt_of_le_of_lt (by decide) hsz)).trans e) hc hh ?_
        intro wz hz1 hz2 hz3 hz4 hz5 hz6
        refine ⟨f 0, (put_same fr dsK3 f 0 (by decide)).symm, ⟨g, _, _, _, (upd_ne f _ (by decide)).trans eg, (upd_ne f _ (by decide)).trans e, hz1⟩, ?_, fun j _ hne h => h.put hne eg hh hnn hz1 rfl (noStr3 _ _ _ _ _ _ _ _ _) hz2 (by omega)⟩
        exact ⟨hz4.trans hG.os, hz5.trans hG.tape, hz6.trans hG.output, by rw [hz3]; exact hG.size, fun k hk => (hz2 k (by omega)).trans (hG.block k hk)⟩
      · have h33 : f 91 = .int .i64 _ := hd ⟨7, .data⟩ (by simp) rfl
        refine wpOp_runG ho2 (wanted_none rfl) (q_assignC (canon fr dsK3 f).eval _ wy _ rfl) ?_
        exact ⟨_, rfl, (upd_same f 15 _).trans ((canon_eval fr dsK3 f 91 (by decide) (Nat.lt_of_le_of_lt (by decide) hsz)).trans h33), hG, fun j _ _ h => h⟩
    · intro f wy hG hall
      obtain ⟨g, cs, eg, hb, _, _, _⟩ := hall 8 (by decide)
      obtain ⟨x, y, z, e, h1, h2⟩ := hall 6 (by decide)
      obtain ⟨g', x', y', z', eg', e', hh⟩ := hall 9 (by decide)
      have h7 : f 15 = .int .i64 (CC : Int) := hall 10 (by decide)
      rw [e] at e'
      simp only [Value.agg.injEq, Array.mk.injEq, List.cons.injEq, and_true] at e'
      obtain ⟨rfl, rfl, rfl⟩ := e'
      rw [eg] at eg'
      simp only [Value.pointer.injEq, Option.some.injEq, Addr.mk.injEq] at eg'
      obtain ⟨rfl, _⟩ := eg'
      exact hK _ _ (Met.intro (hJ _ _ ⟨f, congrArg (fun z => canon z dsK3 f) HFR.out, g, x, y, z, eg, h7, hh, hb, h1, h2, hG⟩))
  rintro _ w17 ⟨f, rfl, bh, p1, p2, p3, h6, h7, hq17, hb17, hp17, how17, hB17⟩
  simp only [canon, dsK3, List.foldl, Act.put, List.setIfInBounds_toArray, List.set_cons_succ, List.set_cons_zero]
  rw [h6, h7]
  obtain ⟨ah1, ch1, ah2, ch2, ah3, ch3, e1, e2, e3⟩ := hp17.slices
  rw [← HMM.out.1] at e1
  rw [← HMM.out.2.1] at e2
  rw [← HMM.out.2.2] at e3
  subst e1 e2 e3
  have HX417 : Hid (Below w3.heap.size w3 w17) := HX414.out.trans (hB17.mono HX414.out.size)
  have HP17 : Hid (RdD w17 (.slice ap1 mA cp1) (.slice ap2 mB cp2) (.slice ap3 mC cp3) AL AS AO) := HP3.out.below HX417.out
  have HQ17 : Hid (At3 w17 bw 30 (.slice ap1 mA cp1) (.slice ap2 mB cp2) (.slice ap3 mC cp3)) := HQ3.out.below HX417.out
  have HH17 : Hid (RdD w17 (.slice ah1 mA ch1) (.slice ah2 mB ch2) (.slice ah3 mC ch3) AL AS AO) := hp17
  have HU17 : Hid (At3 w17 bh 30 (.slice ah1 mA ch1) (.slice ah2 mB ch2) (.slice ah3 mC ch3)) := hq17
  have HV17 : Hid (At3 w17 bg 30 (.slice ag1 mA cg1) (.slice ag2 mB cg2) (.slice ag3 mC cg3)) := HV14.out.below hB17
  have HM17 : Hid (RdD w17 (.slice ag1 mA cg1) (.slice ag2 mB cg2) (.slice ag3 mC cg3) (mkF 1 mA) (mkF (1 + mA * 2) mB) (mkO (1 + mA * 2 + mB * 2) mC)) := HM14.out.below hB17
  clear hp17 hq17 hB17 how17 h6 h7 hb17
  have c0 := HQ17.out.c0
  have c1 := HQ17.out.c1
  have c2 := HQ17.out.c2
  have d0 := HU17.out.c0
  have d1 := HU17.out.c1
  have d2 := HU17.out.c2
  go_wp2_with fail
  refine (eqDisk_same _ _ _ _ _ _ AL AS AO w17 HH17.out.1 HH17.out.2.1 HH17.out.2.2 HP17.out.1 HP17.out.2.1 HP17.out.2.2).mono ?_
  rintro e w18 ⟨rfl, hB18⟩
  have HX418 : Hid (Below w3.heap.size w3 w18) := HX417.out.trans (hB18.mono HX417.out.size)
  have HV18 : Hid (At3 w18 bg 30 (.slice ag1 mA cg1) (.slice ag2 mB cg2) (.slice ag3 mC cg3)) := HV17.out.below hB18
  have HM18 : Hid (RdD w18 (.slice ag1 mA cg1) (.slice ag2 mB cg2) (.slice ag3 mC cg3) (mkF 1 mA) (mkF (1 + mA * 2) mB) (mkO (1 + mA * 2 + mB * 2) mC)) := HM17.out.below hB18
  clear c0 c1 c2 d0 d1 d2 hB18
  have d0 := HV18.out.c0
  have d1 := HV18.out.c1
  have d2 := HV18.out.c2
  go_wp2_with fail
  refine (heldDisk_any _ _ _ mA mB mC 1 w18 HM18.out (by omega) HNR.out).mono ?_
  rintro e w19 ⟨rfl, hB19⟩
  rw [← HT.out]
  have HX419 : Hid (Below w3.heap.size w3 w19) := HX418.out.trans (hB19.mono HX418.out.size)
  clear d0 d1 d2 hB19
  go_wp2
  go_ret
  exact ⟨rfl, HW3.out.trans (HX419.out.mono HW3.out.size)⟩
end Go.Proofs.Ytdlkokdhbffhpaa
