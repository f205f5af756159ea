/-
  FnExactDiskOk: the walk of the law. No condition but that the slices that came in read.
-/
import Derived.Test.YtmianfajmddeiaaDkX2
import Derived.Test.YtmianfajmddeiaaDkI
namespace Go.Proofs.Ytmianfajmddeiaa
open Go.RowKit
set_option linter.unusedVariables false

theorem q_load31 (ev : Operand → Value) (o : Oper) (w : World) (x : Operand) (p : Nat) {a b c : Option Addr} {i j k l m n : Nat} (h : o.op = .load 31 x) (hx : ev x = .pointer (some ⟨p, 0, none⟩)) (h0 : w.cell? ⟨p, 0, none⟩ = some (.slice a i j)) (h1 : w.cell? ⟨p, 1, none⟩ = some (.slice b k l)) (h2 : w.cell? ⟨p, 2, none⟩ = some (.slice c m n)) : (execOp ev o).run Try.prog w = .ok (.value (.agg #[.slice a i j, .slice b k l, .slice c m n])) w := by
  simp [execOp, h, hx]
  go_simp
theorem q_load25 (ev : Operand → Value) (o : Oper) (w : World) (x : Operand) (p : Nat) {a b c : Option Addr} {i j k l m n : Nat} (h : o.op = .load 25 x) (hx : ev x = .pointer (some ⟨p, 0, none⟩)) (h0 : w.cell? ⟨p, 0, none⟩ = some (.slice a i j)) (h1 : w.cell? ⟨p, 1, none⟩ = some (.slice b k l)) (h2 : w.cell? ⟨p, 2, none⟩ = some (.slice c m n)) : (execOp ev o).run Try.prog w = .ok (.value (.agg #[.slice a i j, .slice b k l, .slice c m n])) w := by
  simp [execOp, h, hx]
  go_simp
theorem q_notI (ev : Operand → Value) (o : Oper) (w : World) (x : Operand) (b : Bool) (h : o.op = .unOp .not 4 x) (hx : ev x = .bool b) : (execOp ev o).run Try.prog w = .ok (.value (.bool (!b))) w := by
  simp [execOp, h, hx]
  go_simp
def dsQ : List Nat := [22, 23, 24, 25, 26]
def slotQ (j : Nat) : Nat := dsQ.getD j 0
theorem slotQ_inj (i j : Nat) (hi : i < 5) (hj : j < 5) (q : slotQ i = slotQ j) : i = j := by
  have h : ∀ i : Fin 5, ∀ j : Fin 5, slotQ i.val = slotQ j.val → i.val = j.val := by decide
  exact h ⟨i, hi⟩ ⟨j, hj⟩ q
theorem slotQ_mem (i : Nat) (hi : i < 5) : slotQ i ∈ dsQ := by
  have h : ∀ i : Fin 5, slotQ i.val ∈ dsQ := by decide
  exact h ⟨i, hi⟩
def QF (x y : Value) (L S : List Fl) (O : List Dop) : Nat → Value → World → Prop
  | 0, v, _ => v = x
  | 1, v, _ => v = y
  | 2, v, w => ∃ u1 u2 u3, v = .agg #[u1, u2, u3] ∧ RdF w u1 L ∧ RdF w u2 S ∧ RdO w u3 O
  | 3, v, _ => v = .bool true
  | 4, v, _ => v = .bool false
  | _, _, _ => True
theorem QF.below {x y : Value} {L S : List Fl} {O : List Dop} {j : Nat} {v : Value} {w w' : World} (h : QF x y L S O j v w) (hB : Below w.heap.size w w') : QF x y L S O j v w' := by
  match j, h with
  | 0, h => exact h
  | 1, h => exact h
  | 2, h =>
    obtain ⟨u1, u2, u3, e, h1, h2, h3⟩ := h
    exact ⟨u1, u2, u3, e, h1.below hB, h2.below hB, h3.below hB⟩
  | 3, h => exact h
  | 4, h => exact h
  | (m + 5), _ => trivial

set_option maxRecDepth 10000 in
set_option maxHeartbeats 2000000 in
theorem disk_walk (vL vS vO : Value) (L S : List Fl) (O : List Dop) (w : World) (hL : RdF w vL L) (hS : RdF w vS S) (hO : RdO w vO O) (hin : InD L S O) :
    Calls Try.prog 3 #[.agg #[vL, vS, vO]] w fun e w' => e = .returned (.bool true) ∧ Below w.heap.size w w' := by
  have HA : Hid (∀ w', Below w.heap.size w w' → RdF w' vL L ∧ RdF w' vS S ∧ RdO w' vO O) := fun w' hB => ⟨hL.below hB, hS.below hB, hO.below hB⟩
  obtain ⟨aL, cL, eL⟩ := hL.slice
  obtain ⟨nL, hnL⟩ : ∃ n, n = L.length := ⟨_, rfl⟩
  rw [← hnL] at eL
  obtain ⟨aS, cS, eS⟩ := hS.slice
  obtain ⟨nS, hnS⟩ : ∃ n, n = S.length := ⟨_, rfl⟩
  rw [← hnS] at eS
  obtain ⟨aO, cO, eO⟩ := hO.slice
  obtain ⟨nO, hnO⟩ : ∃ n, n = O.length := ⟨_, rfl⟩
  rw [← hnO] at eO
  subst eL eS eO
  have HE : Hid (nL = L.length ∧ nS = S.length ∧ nO = O.length) := ⟨hnL, hnS, hnO⟩
  obtain ⟨X, hX⟩ : ∃ X, X = w.alloc (.cells #[.slice aL nL cL, .slice aS nS cS, .slice aO nO cO] 25) := ⟨_, rfl⟩
  have hBX : Below w.heap.size w X := by rw [hX]; exact (Below.refl _ _).alloc (Nat.le_refl _) _
  have gX : X.heap[w.heap.size]? = some (.cells #[.slice aL nL cL, .slice aS nS cS, .slice aO nO cO] 25 (0, 0)) := by rw [hX]; exact heap_alloc_new _ _
  have HG : Hid (∀ w', Below X.heap.size X w' → w'.cell? ⟨w.heap.size, 0, none⟩ = some (.slice aL nL cL) ∧ w'.cell? ⟨w.heap.size, 1, none⟩ = some (.slice aS nS cS) ∧ w'.cell? ⟨w.heap.size, 2, none⟩ = some (.slice aO nO cO) ∧ Below w.heap.size w w') := fun w' hB => by
    have g := (hB.block _ (lt_of_block gX)).trans gX
    exact ⟨cellN g, cellN g, cellN g, hBX.trans (hB.mono hBX.size)⟩
  have HX := (show Hid _ from hX)
  have HI : Hid (InD L S O) := hin
  obtain ⟨c0, c1, c2, _⟩ := HG.out X (Below.refl _ _)
  rw [hX] at c0 c1 c2
  have en1 : ∀ args w, (callFunc 10 args).run Try.prog w = .ok (.enter 10 args) w := enters_of Try.func10 (by kernel_rfl) rfl
  have en2 : ∀ args w, (callFunc 12 args).run Try.prog w = .ok (.enter 12 args) w := enters_of Try.func12 (by kernel_rfl) rfl
  have HEN1 := (show Hid _ from en1)
  have HEN2 := (show Hid _ from en2)
  clear hX hBX gX hL hS hO hin en1 en2 hnL hnS hnO
  go_enter Try.func3, Try.ntmps3
  go_wp2_with fail
  rw [← HX.out]
  have hAX := HA.out X (HG.out X (Below.refl _ _)).2.2.2
  refine (szDisk_any _ _ _ L S O X hAX.1 hAX.2.1 hAX.2.2 HI.out).mono ?_
  rintro e w1 ⟨r, rfl, hr, hB1⟩
  have HB1 := (show Hid _ from hB1)
  clear c0 c1 c2 HX hAX
  obtain ⟨c0, c1, c2, hBw1⟩ := HG.out w1 hB1
  have HBW1 := (show Hid _ from hBw1)
  clear hB1 hBw1
  rcases hr with hr | ⟨hr, hsm, hl1, hl2, hl3⟩
  · go_wp2
    go_ret
    exact ⟨rfl, HBW1.out⟩
  have HZ : Hid (SmallD L S O) := hsm
  have HN : Hid (L.length ≤ 1048576 ∧ S.length ≤ 1048576 ∧ O.length ≤ 1048576) := ⟨hl1, hl2, hl3⟩
  clear hsm hl1 hl2 hl3
  go_wp2_with fail
  refine (toDisk_any _ _ _ L S O w1 (HA.out w1 HBW1.out).1 (HA.out w1 HBW1.out).2.1 (HA.out w1 HBW1.out).2.2 HN.out.1 HN.out.2.1 HN.out.2.2).mono ?_
  rintro e w2 ⟨y1, y2, y3, rfl, hy1, hy2, hy3, hB2⟩
  have HY : Hid (RdF w2 (.slice (some ⟨y1, 0, none⟩) L.length L.length) L ∧ RdF w2 (.slice (some ⟨y2, 0, none⟩) S.length S.length) S ∧ RdO w2 (.slice (some ⟨y3, 0, none⟩) O.length O.length) O) := ⟨hy1, hy2, hy3⟩
  have HB2 : Hid (Below X.heap.size X w2) := HB1.out.trans (hB2.mono HB1.out.size)
  clear hy1 hy2 hy3 hB2 c0 c1 c2
  go_wp2_with fail
  refine (specDisk_any _ _ _ L S O w2 HY.out.1 HY.out.2.1 HY.out.2.2 HZ.out).mono ?_
  rintro e w3 ⟨rfl, hB3⟩
  have HB3 : Hid (Below X.heap.size X w3) := HB2.out.trans (hB3.mono HB2.out.size)
  obtain ⟨c0, c1, c2, hBw3⟩ := HG.out w3 HB3.out
  have HBW3 := (show Hid _ from hBw3)
  obtain ⟨rr, hrr⟩ : ∃ rr, rr = diskB L S O := ⟨_, rfl⟩
  rw [← hrr]
  have HRR : Hid (rr = diskB L S O) := hrr
  clear hB3 hBw3 HY hrr
  go_wp2_with fail
  refine (toDisk_any _ _ _ L S O w3 (HA.out w3 HBW3.out).1 (HA.out w3 HBW3.out).2.1 (HA.out w3 HBW3.out).2.2 HN.out.1 HN.out.2.1 HN.out.2.2).mono ?_
  rintro e w4 ⟨x1, x2, x3, rfl, hx1, hx2, hx3, hB4⟩
  rw [← HE.out.1] at hx1
  rw [← HE.out.2.1] at hx2
  rw [← HE.out.2.2] at hx3
  rw [← HE.out.1, ← HE.out.2.1, ← HE.out.2.2]
  have HB4 : Hid (Below X.heap.size X w4) := HB3.out.trans (hB4.mono HB3.out.size)
  obtain ⟨X5, hX5⟩ : ∃ X5, X5 = w4.alloc (.cells #[.slice (some ⟨x1, 0, none⟩) nL nL, .slice (some ⟨x2, 0, none⟩) nS nS, .slice (some ⟨x3, 0, none⟩) nO nO] 31) := ⟨_, rfl⟩
  have hB5 : Below w4.heap.size w4 X5 := by rw [hX5]; exact (Below.refl _ _).alloc (Nat.le_refl _) _
  have g5 : X5.heap[w4.heap.size]? = some (.cells #[.slice (some ⟨x1, 0, none⟩) nL nL, .slice (some ⟨x2, 0, none⟩) nS nS, .slice (some ⟨x3, 0, none⟩) nO nO] 31 (0, 0)) := by rw [hX5]; exact heap_alloc_new _ _
  have HG5 : Hid (∀ w', Below X5.heap.size X5 w' → w'.cell? ⟨w4.heap.size, 0, none⟩ = some (.slice (some ⟨x1, 0, none⟩) nL nL) ∧ w'.cell? ⟨w4.heap.size, 1, none⟩ = some (.slice (some ⟨x2, 0, none⟩) nS nS) ∧ w'.cell? ⟨w4.heap.size, 2, none⟩ = some (.slice (some ⟨x3, 0, none⟩) nO nO)) := fun w' hB => by
    have g := (hB.block _ (lt_of_block g5)).trans g5
    exact ⟨cellN g, cellN g, cellN g⟩
  have HX5 : Hid (∀ w', Below X5.heap.size X5 w' → RdF w' (.slice (some ⟨x1, 0, none⟩) nL nL) L ∧ RdF w' (.slice (some ⟨x2, 0, none⟩) nS nS) S ∧ RdO w' (.slice (some ⟨x3, 0, none⟩) nO nO) O) := fun w' hB => ⟨(hx1.below hB5).below hB, (hx2.below hB5).below hB, (hx3.below hB5).below hB⟩
  have HB5 : Hid (Below X.heap.size X X5) := HB4.out.trans (hB5.mono HB4.out.size)
  have H5E := (show Hid _ from hX5)
  obtain ⟨d0, d1, d2⟩ := HG5.out X5 (Below.refl _ _)
  rw [hX5] at d0 d1 d2
  clear hX5 hB5 g5 hx1 hx2 hx3 hB4 c0 c1 c2
  go_wp2_with fail
  rw [← H5E.out]
  have hA5 := HX5.out X5 (Below.refl _ _)
  refine (implDisk_any _ _ _ L S O X5 hA5.1 hA5.2.1 hA5.2.2 HZ.out).mono ?_
  rintro e w6 ⟨rfl, hB6⟩
  rw [← HRR.out]
  have hbn : (rr != rr) = false := by simp
  have HB6x : Hid (Below X.heap.size X w6) := HB5.out.trans (hB6.mono HB5.out.size)
  have HB6 : Hid (Below w.heap.size w w6) := (HG.out w6 HB6x.out).2.2.2
  have HC6 : Hid (∀ wy, Below w6.heap.size w6 wy → wy.cell? ⟨w4.heap.size, 0, none⟩ = some (.slice (some ⟨x1, 0, none⟩) nL nL) ∧ wy.cell? ⟨w4.heap.size, 1, none⟩ = some (.slice (some ⟨x2, 0, none⟩) nS nS) ∧ wy.cell? ⟨w4.heap.size, 2, none⟩ = some (.slice (some ⟨x3, 0, none⟩) nO nO) ∧ wy.cell? ⟨w.heap.size, 0, none⟩ = some (.slice aL nL cL) ∧ wy.cell? ⟨w.heap.size, 1, none⟩ = some (.slice aS nS cS) ∧ wy.cell? ⟨w.heap.size, 2, none⟩ = some (.slice aO nO cO)) := fun wy hy => by
    have h5 := HG5.out wy (hB6.trans (hy.mono hB6.size))
    have h1 := HG.out wy (HB6x.out.trans (hy.mono HB6x.out.size))
    exact ⟨h5.1, h5.2.1, h5.2.2, h1.1, h1.2.1, h1.2.2.1⟩
  have HX6 : Hid (∀ wy, Below w6.heap.size w6 wy → RdF wy (.slice (some ⟨x1, 0, none⟩) nL nL) L ∧ RdF wy (.slice (some ⟨x2, 0, none⟩) nS nS) S ∧ RdO wy (.slice (some ⟨x3, 0, none⟩) nO nO) O) := fun wy hy => HX5.out wy (hB6.trans (hy.mono hB6.size))
  clear hB6 d0 d1 d2 hA5 H5E
  go_wp2
  refine wp_cut_to (fun a0 t w' => ∃ f, t = canon a0 dsQ f ∧ f 26 = .bool false ∧ Below w6.heap.size w6 w') ?_ ?_
  · rintro _ w7 ⟨f, rfl, h7, hB7⟩
    simp only [canon, dsQ, List.foldl, Act.put, List.setIfInBounds_toArray, List.set_cons_succ, List.set_cons_zero]
    rw [h7]
    have HE7 : Hid (Below w.heap.size w w7) := HB6.out.trans (hB7.mono HB6.out.size)
    clear h7 hB7
    go_wp2
    go_ret
    exact ⟨rfl, HE7.out⟩
  · intro J K' hJ hK
    refine wp_letter ?_
    intro fr hfr
    have hs7 : 26 < fr.tmps.size := by rw [hfr]; exact Nat.le_of_ble_eq_true rfl
    have t5 : fr.eval (.tmp 5) = .pointer (some ⟨w4.heap.size, 0, none⟩) := by rw [hfr]; rfl
    have t1 : fr.eval (.tmp 1) = .pointer (some ⟨w.heap.size, 0, none⟩) := by rw [hfr]; rfl
    have HFR := (show Hid _ from hfr)
    clear hfr
    refine wp_region_rel (Rel := fun v v' => Below v.heap.size v v') (fun v => Below.refl _ _) (fun h k => h.trans (k.mono h.size)) (fun v => (Below.refl _ _).drew) (by kernel_rfl) (by kernel_rfl) dsQ slotQ (QF (.agg #[.slice (some ⟨x1, 0, none⟩) nL nL, .slice (some ⟨x2, 0, none⟩) nS nS, .slice (some ⟨x3, 0, none⟩) nO nO]) (.agg #[.slice aL nL cL, .slice aS nS cS, .slice aO nO cO]) L S O) (fun _ _ _ _ h hB => h.below hB) ?_ ?_ ?_ ?_
    · intro i hi
      exact slotQ_mem i hi
    · intro i j hi hj q
      exact slotQ_inj i j hi hj q
    · intro ops hops f wy j oo hy ho hd
      have ho2 := ho
      rw [hops] at ho
      have N1 := (canon_eval_ne fr dsQ f 1 (by decide)).trans t1
      have N5 := (canon_eval_ne fr dsQ f 5 (by decide)).trans t5
      have hi : j < 5 := by
        rcases Nat.lt_or_ge j 5 with h | h
        · exact h
        · rw [Array.getElem?_eq_none (by simpa using h)] at ho; cases ho
      have hi' : j = 0 ∨ j = 1 ∨ j = 2 ∨ j = 3 ∨ j = 4 := by omega
      rcases hi' with rfl | rfl | rfl | rfl | rfl <;> simp only [List.getElem?_toArray, List.getElem?_cons_succ, List.getElem?_cons_zero, Option.some.injEq] at ho <;> subst ho
      · refine wpOp_runG ho2 (wanted_none rfl) (q_load31 (canon fr dsQ f).eval _ wy _ w4.heap.size rfl N5 (HC6.out wy hy).1 (HC6.out wy hy).2.1 (HC6.out wy hy).2.2.1) ?_
        exact ⟨_, rfl, rfl, Below.refl _ _⟩
      · refine wpOp_runG ho2 (wanted_none rfl) (q_load25 (canon fr dsQ f).eval _ wy _ w.heap.size rfl N1 (HC6.out wy hy).2.2.2.1 (HC6.out wy hy).2.2.2.2.1 (HC6.out wy hy).2.2.2.2.2) ?_
        exact ⟨_, rfl, rfl, Below.refl _ _⟩
      · refine wpOp_enterG ho2 (wanted_none rfl) (q_call1I (canon fr dsQ f).eval _ wy _ HEN1.out _ _ rfl rfl) ?_
        rw [(canon_eval fr dsQ f 23 (by decide) (Nat.lt_of_le_of_lt (by decide) hs7)).trans (hd ⟨1, .data⟩ (by simp) rfl)]
        refine (toDisk_any _ _ _ L S O wy (HA.out wy (HB6.out.trans (hy.mono HB6.out.size))).1 (HA.out wy (HB6.out.trans (hy.mono HB6.out.size))).2.1 (HA.out wy (HB6.out.trans (hy.mono HB6.out.size))).2.2 HN.out.1 HN.out.2.1 HN.out.2.2).mono ?_
        rintro e wz ⟨u1, u2, u3, rfl, hu1, hu2, hu3, hBz⟩
        exact ⟨_, rfl, _, rfl, ⟨_, _, _, rfl, hu1, hu2, hu3⟩, hBz⟩
      · obtain ⟨u1, u2, u3, hu, hu1, hu2, hu3⟩ := hd ⟨2, .data⟩ (by simp) rfl
        refine wpOp_enterG ho2 (wanted_none rfl) (q_call2 (canon fr dsQ f).eval _ wy _ HEN2.out _ _ _ rfl rfl) ?_
        rw [(canon_eval fr dsQ f 22 (by decide) (Nat.lt_of_le_of_lt (by decide) hs7)).trans (hd ⟨0, .data⟩ (by simp) rfl), (canon_eval fr dsQ f 24 (by decide) (Nat.lt_of_le_of_lt (by decide) hs7)).trans hu]
        refine (eqDisk_same _ _ _ u1 u2 u3 L S O wy (HX6.out wy hy).1 (HX6.out wy hy).2.1 (HX6.out wy hy).2.2 hu1 hu2 hu3).mono ?_
        rintro e wz ⟨rfl, hBz⟩
        exact ⟨_, rfl, _, rfl, rfl, hBz⟩
      · refine wpOp_runG ho2 (wanted_none rfl) (q_notI (canon fr dsQ f).eval _ wy _ true rfl ((canon_eval fr dsQ f 25 (by decide) (Nat.lt_of_le_of_lt (by decide) hs7)).trans (hd ⟨3, .data⟩ (by simp) rfl))) ?_
        exact ⟨_, rfl, rfl, Below.refl _ _⟩
    · intro f wy hy hall
      exact hK _ _ (Met.intro (hJ _ _ ⟨f, congrArg (fun z => canon z dsQ f) HFR.out, hall 4 (by decide), hy⟩))
end Go.Proofs.Ytmianfajmddeiaa
