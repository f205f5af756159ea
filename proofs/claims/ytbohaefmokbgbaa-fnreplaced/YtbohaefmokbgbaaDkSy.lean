/-
  Sync: both halves. Conditions: the lists read, and are not huge.
-/
import Derived.Test.YtbohaefmokbgbaaDkS1
import Derived.Test.YtbohaefmokbgbaaDkK
namespace Go.Proofs.Ytbohaefmokbgbaa
open Go.RowKit
set_option linter.unusedVariables false

/-- the files behind a Sync -/
def syL (L S : List Fl) (O : List Dop) : List Fl := if diskB L S O = true then L else []

def dsY : List Nat := [7, 8, 9, 10, 11, 12, 13]
def slotY (j : Nat) : Nat := dsY.getD j 0
theorem slotY_inj (i j : Nat) (hi : i < 7) (hj : j < 7) (q : slotY i = slotY j) : i = j := by
  have h : ∀ i : Fin 7, ∀ j : Fin 7, slotY i.val = slotY j.val → i.val = j.val := by decide
  exact h ⟨i, hi⟩ ⟨j, hj⟩ q
theorem slotY_mem (i : Nat) (hi : i < 7) : slotY i ∈ dsY := by
  have h : ∀ i : Fin 7, slotY i.val ∈ dsY := by decide
  exact h ⟨i, hi⟩
def YF (B base : Nat) (v : Value) (L : List Fl) : Nat → (Nat → Value) → World → Prop
  | 0, f, w => f 7 = .pointer (some ⟨B, 0, none⟩)
  | 1, f, w => f 8 = v
  | 2, f, w => HoldF w base (f 9) L
  | 3, f, w => f 10 = .pointer (some ⟨B, 0, none⟩)
  | 4, f, w => f 11 = v
  | 5, f, w => HoldF w base (f 12) L ∧ (∀ k, (f 9).ownBlock = some k → (f 12).ownBlock ≠ some k)
  | 6, f, w => f 13 = .agg #[f 9, f 12, .slice none 0 0]
  | _, _, _ => True
theorem YF.below {B base : Nat} {v : Value} {L : List Fl} {j : Nat} {f : Nat → Value} {w w' : World} (h : YF B base v L j f w) (hB : Below w.heap.size w w') : YF B base v L j f w' := by
  match j, h with
  | 0, h => exact h
  | 1, h => exact h
  | 2, h => exact HoldF.below (h) hB
  | 3, h => exact h
  | 4, h => exact h
  | 5, h => exact ⟨HoldF.below (h.1) hB, h.2⟩
  | 6, h => exact h
  | (m + 7), _ => exact trivial
def depY (j i : Nat) : Bool := match j with
  | 0 => i == 0
  | 1 => i == 1
  | 2 => i == 2
  | 3 => i == 3
  | 4 => i == 4
  | 5 => i == 5 || i == 2
  | 6 => i == 6 || i == 2 || i == 5
  | _ => false
theorem YF.dep {B base : Nat} {v : Value} {L : List Fl} {j : Nat} {f f' : Nat → Value} {w : World} (hj : j < 7) (h : YF B base v L j f w) (he : ∀ i, depY j i = true → f (slotY i) = f' (slotY i)) : YF B base v L j f' w := by
  match j, hj, h, he with
  | 0, _, h, he =>
    have e0 : f 7 = f' 7 := he 0 rfl
    simp only [YF] at h ⊢
    rw [← e0]
    exact h
  | 1, _, h, he =>
    have e1 : f 8 = f' 8 := he 1 rfl
    simp only [YF] at h ⊢
    rw [← e1]
    exact h
  | 2, _, h, he =>
    have e2 : f 9 = f' 9 := he 2 rfl
    simp only [YF] at h ⊢
    rw [← e2]
    exact h
  | 3, _, h, he =>
    have e3 : f 10 = f' 10 := he 3 rfl
    simp only [YF] at h ⊢
    rw [← e3]
    exact h
  | 4, _, h, he =>
    have e4 : f 11 = f' 11 := he 4 rfl
    simp only [YF] at h ⊢
    rw [← e4]
    exact h
  | 5, _, h, he =>
    have e5 : f 12 = f' 12 := he 5 rfl
    have e2 : f 9 = f' 9 := he 2 rfl
    simp only [YF] at h ⊢
    rw [← e5, ← e2]
    exact h
  | 6, _, h, he =>
    have e6 : f 13 = f' 13 := he 6 rfl
    have e2 : f 9 = f' 9 := he 2 rfl
    have e5 : f 12 = f' 12 := he 5 rfl
    simp only [YF] at h ⊢
    rw [← e6, ← e2, ← e5]
    exact h
  | (m + 7), hj, _, _ => exact absurd hj (by omega)
set_option maxRecDepth 10000 in
set_option maxHeartbeats 4000000 in
theorem implSync_any (vL vS vO : Value) (L S : List Fl) (O : List Dop) (w : World) (hL : RdF w vL L) (hS : RdF w vS S) (hO : RdO w vO O) (hz : SmallD L S O) (hl : L.length ≤ 1048576) :
    Calls Try.prog 8 #[.agg #[vL, vS, vO]] w fun e w' => ∃ x y z, e = .returned (.agg #[x, y, z]) ∧ RdD w' x y z (syL L S O) (syL L S O) [] ∧ OwD w' w.heap.size x y z (syL L S O).length (syL L S O).length 0 ∧ Below w.heap.size w w' := by
  have HN : Hid (L.length ≤ 1048576) := hl
  clear hl
  have HZ : Hid (SmallD L S O) := hz
  have HA : Hid (∀ w', Below w.heap.size w w' → RdF w' vL L ∧ RdF w' vS S ∧ RdO w' vO O) := fun w' hB => ⟨hL.below hB, hS.below hB, hO.below hB⟩
  obtain ⟨aL, cL, rfl⟩ := hL.slice
  obtain ⟨aS, cS, rfl⟩ := hS.slice
  obtain ⟨aO, cO, rfl⟩ := hO.slice
  obtain ⟨X, hX⟩ : ∃ X, X = (w.alloc (.cells #[.slice aL L.length cL, .slice aS S.length cS, .slice aO O.length cO] 27)).alloc (.cells #[.slice none 0 0, .slice none 0 0, .slice none 0 0] 27) := ⟨_, rfl⟩
  have hBX : Below w.heap.size w X := by rw [hX]; exact ((Below.refl _ _).alloc (Nat.le_refl _) _).alloc (by simp) _
  have gX : X.heap[w.heap.size]? = some (.cells #[.slice aL L.length cL, .slice aS S.length cS, .slice aO O.length cO] 27 (0, 0)) := by rw [hX, Below.heap_alloc _ _ _ (by simp)]; exact heap_alloc_new _ _
  have gR : X.heap[w.heap.size + 1]? = some (.cells #[.slice none 0 0, .slice none 0 0, .slice none 0 0] 27 (0, 0)) := by
    rw [hX]
    have := heap_alloc_new (w.alloc (.cells #[.slice aL L.length cL, .slice aS S.length cS, .slice aO O.length cO] 27)) (.cells #[.slice none 0 0, .slice none 0 0, .slice none 0 0] 27)
    simpa using this
  have HX := (show Hid _ from hX)
  have HBX : Hid (Below w.heap.size w X) := hBX
  have HG : Hid (∀ w', Below X.heap.size X w' → w'.heap[w.heap.size]? = some (.cells #[.slice aL L.length cL, .slice aS S.length cS, .slice aO O.length cO] 27 (0, 0)) ∧ w'.heap[w.heap.size + 1]? = some (.cells #[.slice none 0 0, .slice none 0 0, .slice none 0 0] 27 (0, 0)) ∧ Below w.heap.size w w') := fun w' hB => ⟨(hB.block _ (lt_of_block gX)).trans gX, (hB.block _ (lt_of_block gR)).trans gR, hBX.trans (hB.mono hBX.size)⟩
  have c0 : X.cell? ⟨w.heap.size, 0, none⟩ = some (.slice aL L.length cL) := cellN gX
  have c1 : X.cell? ⟨w.heap.size, 1, none⟩ = some (.slice aS S.length cS) := cellN gX
  have c2 : X.cell? ⟨w.heap.size, 2, none⟩ = some (.slice aO O.length cO) := cellN gX
  rw [hX] at c0 c1 c2
  clear hX hBX gX gR hL hS hO hz
  have en : ∀ args w, (callFunc 32 args).run Try.prog w = .ok (.enter 32 args) w := enters_of Try.func32 (by kernel_rfl) rfl
  have HEN := (show Hid _ from en)
  clear en
  go_enter Try.func8, Try.ntmps8
  go_wp2_with fail
  rw [← HX.out]
  have hAX := HA.out X HBX.out
  refine (implDisk_any _ _ _ L S O X hAX.1 hAX.2.1 hAX.2.2 HZ.out).mono ?_
  rintro e w1 ⟨rfl, hB1⟩
  obtain ⟨g1, gr1, hbw1⟩ := HG.out w1 hB1
  have HW1 : Hid (Below w.heap.size w w1) := hbw1
  have HRB0 : Hid (w1.heap[w.heap.size + 1]? = some (.cells #[.slice none 0 0, .slice none 0 0, .slice none 0 0] 27 (0, 0))) := gr1
  clear hB1 hbw1 c0 c1 c2 hAX
  cases hd : diskB L S O with
  | false =>
    have HD : Hid (syL L S O = []) := by show _ = _; unfold syL; rw [hd]; rfl
    clear hd g1 gr1
    obtain ⟨q, hq⟩ : ∃ q, q = #[Value.slice none 0 0, .slice none 0 0, .slice none 0 0] := ⟨_, rfl⟩
    have hi6 : (Try.prog.info? 27).map (·.size) = some q.size := by rw [hq]; exact infoDk
    have ho6 : (#[Value.slice none 0 0, .slice none 0 0, .slice none 0 0] : Array Value).size = q.size := by rw [hq]
    have h16 : q.all (·.oneCell') = true := by rw [hq]; simp [Value.oneCell']
    have HQ : Hid (q = #[Value.slice none 0 0, .slice none 0 0, .slice none 0 0]) := hq
    go_wp2_with (refine wpList_store_row rfl 27 _ _ rfl (w.heap.size + 1) q rfl (congrArg Value.agg hq.symm) 27 _ HRB0.out hi6 ho6 h16 ?_)
    refine bodyPost_ret (v := .agg q) (results_cell_row rfl _ _ (w.heap.size + 1) 27 _ _ _ rfl (setRow_heap _ _ _ _ _ _ HRB0.out) Try.underlying27 rfl hi6) rfl ⟨_, _, _, ret_val (by rw [HQ.out]), ?_, ?_, ?_⟩
    · rw [HD.out]
      exact ⟨(HoldF.nil _ 0).1, (HoldF.nil _ 0).1, (HoldO.nil _ 0).1⟩
    · rw [HD.out]
      exact ⟨OwA2.nil _ _, OwA2.nil _ _, OwA4.nil _ _, fun b hb => by cases hb⟩
    · exact below_setRow HW1.out (by omega) _
  | true =>
    have HD : Hid (syL L S O = L) := by show _ = _; unfold syL; rw [hd]; rfl
    have HRB : Hid (w1.heap[w.heap.size + 1]? = some (.cells #[.slice none 0 0, .slice none 0 0, .slice none 0 0] 27 (0, 0))) := HRB0
    have HC : Hid (∀ wy, Below w1.heap.size w1 wy → wy.cell? ⟨w.heap.size, 0, none⟩ = some (.slice aL L.length cL)) := fun wy hy => cellN ((hy.block _ (lt_of_block g1)).trans g1)
    have HR1 : Hid (∀ wy, Below w1.heap.size w1 wy → RdF wy (.slice aL L.length cL) L) := fun wy hy => (HA.out wy (HW1.out.trans (hy.mono HW1.out.size))).1
    clear hd g1 gr1
    go_wp2
    refine wp_cut_to (fun a0 t w' => ∃ f, t = canon a0 dsY f ∧ (∃ x y, w'.heap[w.heap.size + 1]? = some (.cells #[x, y, .slice none 0 0] 27 (0, 0)) ∧ HoldF w' w1.heap.size x L ∧ HoldF w' w1.heap.size y L ∧ (∀ k, x.ownBlock = some k → y.ownBlock ≠ some k) ∧ Below w.heap.size w w')) ?_ ?_
    · rintro _ w7 ⟨f, rfl, h7⟩
      simp only [canon, dsY, List.foldl, Act.put, List.setIfInBounds_toArray, List.set_cons_succ, List.set_cons_zero]
      have H7 := (show Hid _ from h7)
      clear h7
      obtain ⟨x, y, hb7, hx7, hy7, hap, hbw⟩ := H7.out
      have HE : Hid (HoldF w7 w1.heap.size x L ∧ HoldF w7 w1.heap.size y L ∧ (∀ k, x.ownBlock = some k → y.ownBlock ≠ some k) ∧ Below w.heap.size w w7) := ⟨hx7, hy7, hap, hbw⟩
      clear hx7 hy7 hap hbw H7
      go_wp2
      have hle := HW1.out.size
      refine bodyPost_ret (results_cell_row rfl _ _ (w.heap.size + 1) 27 _ _ _ rfl hb7 Try.underlying27 rfl infoDk) rfl ⟨x, y, .slice none 0 0, rfl, ?_, ?_, ?_⟩
      · rw [HD.out]
        exact ⟨HE.out.1.1, HE.out.2.1.1, (HoldO.nil _ 0).1⟩
      · rw [HD.out]
        exact ⟨HE.out.1.2.base hle, HE.out.2.1.2.base hle, OwA4.nil _ _, HE.out.2.2.1⟩
      · exact HE.out.2.2.2
    · intro J K' hJ hK
      refine wp_letter ?_
      intro fr hfr
      have hsz : 13 < fr.tmps.size := by rw [hfr]; exact Nat.le_of_ble_eq_true rfl
      have t1 : fr.eval (.tmp 1) = .pointer (some ⟨w.heap.size, 0, none⟩) := by rw [hfr]; rfl
      have t2 : fr.eval (.tmp 2) = .pointer (some ⟨w.heap.size + 1, 0, none⟩) := by rw [hfr]; rfl
      have HFR := (show Hid _ from hfr)
      clear hfr
      refine wp_region_fin (Rel := fun v v' => Below v.heap.size v v') (fun v => Below.refl _ _) (fun h k => h.trans (k.mono h.size)) (fun v => (Below.refl _ _).drew) 7 rfl (by kernel_rfl) (by kernel_rfl) dsY slotY (YF w.heap.size w1.heap.size (.slice aL L.length cL) L) _ rfl (by kernel_rfl) (fun _ _ _ _ h hB => h.below hB) ?_ ?_ ?_ ?_ ?_
      · intro j f f' wy hj he h
        exact h.dep hj (fun i hi => he i (by revert hi; match j, hj with | 0, _ => (intro hi; simp only [depY, beq_iff_eq] at hi; rcases hi with rfl <;> kernel_rfl) | 1, _ => (intro hi; simp only [depY, beq_iff_eq] at hi; rcases hi with rfl <;> kernel_rfl) | 2, _ => (intro hi; simp only [depY, beq_iff_eq] at hi; rcases hi with rfl <;> kernel_rfl) | 3, _ => (intro hi; simp only [depY, beq_iff_eq] at hi; rcases hi with rfl <;> kernel_rfl) | 4, _ => (intro hi; simp only [depY, beq_iff_eq] at hi; rcases hi with rfl <;> kernel_rfl) | 5, _ => (intro hi; simp only [depY, Bool.or_eq_true, beq_iff_eq] at hi; rcases hi with rfl | rfl <;> kernel_rfl) | 6, _ => (intro hi; simp only [depY, Bool.or_eq_true, beq_iff_eq] at hi; rcases hi with (rfl | rfl) | rfl <;> kernel_rfl)))
      · intro i hi
        exact slotY_mem i hi
      · intro i j hi hj q
        exact slotY_inj i j hi hj q
      · intro ops hops f wy j oo hj hy ho hd
        have ho2 := ho
        rw [hops] at ho
        have N1 := (canon_eval_ne fr dsY f 1 (by decide)).trans t1
        have N2 := (canon_eval_ne fr dsY f 2 (by decide)).trans t2
        have hj' : j = 0 ∨ j = 1 ∨ j = 2 ∨ j = 3 ∨ j = 4 ∨ j = 5 ∨ j = 6 := by omega
        rcases hj' with rfl | rfl | rfl | rfl | rfl | rfl | rfl <;> simp only [List.getElem?_toArray, List.getElem?_cons_succ, List.getElem?_cons_zero, Option.some.injEq] at ho <;> subst ho
        · refine wpOp_runG ho2 (wanted_none rfl) (q_fieldK (canon fr dsY f).eval _ wy _ w.heap.size 0 rfl N1 (.inl rfl)) ?_
          exact ⟨_, rfl, upd_same f 7 _, Below.refl _ _⟩
        · refine wpOp_runG ho2 (wanted_none rfl) (q_loadF (canon fr dsY f).eval _ wy _ w.heap.size 0 rfl ((canon_eval fr dsY f 7 (by decide) (Nat.lt_of_le_of_lt (by decide) hsz)).trans (hd ⟨0, .data⟩ (by simp) rfl (by decide))) (HC.out wy hy)) ?_
          exact ⟨_, rfl, upd_same f 8 _, Below.refl _ _⟩
        · refine wpOp_enterG ho2 (wanted_none rfl) (q_call1I (canon fr dsY f).eval _ wy _ HEN.out _ _ rfl rfl) ?_
          rw [(canon_eval fr dsY f 8 (by decide) (Nat.lt_of_le_of_lt (by decide) hsz)).trans (hd ⟨1, .data⟩ (by simp) rfl (by decide))]
          refine (clone_any _ L wy (HR1.out wy hy) HN.out).mono ?_
          rintro e wz ⟨u, rfl, hu, hBz⟩
          exact ⟨_, rfl, _, rfl, by show HoldF _ _ (upd f 9 u 9) L; rw [upd_same]; exact hu.hold.base (Nat.le_trans hy.size (Nat.le_refl _)), hBz⟩
        · refine wpOp_runG ho2 (wanted_none rfl) (q_fieldK (canon fr dsY f).eval _ wy _ w.heap.size 0 rfl N1 (.inl rfl)) ?_
          exact ⟨_, rfl, upd_same f 10 _, Below.refl _ _⟩
        · refine wpOp_runG ho2 (wanted_none rfl) (q_loadF (canon fr dsY f).eval _ wy _ w.heap.size 0 rfl ((canon_eval fr dsY f 10 (by decide) (Nat.lt_of_le_of_lt (by decide) hsz)).trans (hd ⟨3, .data⟩ (by simp) rfl (by decide))) (HC.out wy hy)) ?_
          exact ⟨_, rfl, upd_same f 11 _, Below.refl _ _⟩
        · have h9 : HoldF wy w1.heap.size (f 9) L := hd ⟨2, .chain⟩ (by simp) rfl (by decide)
          refine wpOp_enterG ho2 (wanted_none rfl) (q_call1I (canon fr dsY f).eval _ wy _ HEN.out _ _ rfl rfl) ?_
          rw [(canon_eval fr dsY f 11 (by decide) (Nat.lt_of_le_of_lt (by decide) hsz)).trans (hd ⟨4, .data⟩ (by simp) rfl (by decide))]
          refine (clone_any _ L wy (HR1.out wy hy) HN.out).mono ?_
          rintro e wz ⟨u, rfl, hu, hBz⟩
          refine ⟨_, rfl, _, rfl, ⟨by show HoldF _ _ (upd f 12 u 12) L; rw [upd_same]; exact hu.hold.base hy.size, fun k hk => ?_⟩, hBz⟩
          have e9 : upd f 12 u 9 = f 9 := upd_ne f u (by decide)
          have hk' : (f 9).ownBlock = some k := by rw [← e9]; exact hk
          show (upd f 12 u 12).ownBlock ≠ some k
          rw [upd_same]
          intro e
          have h1 := (h9.2.lt k hk').2
          have h2 := (World.ownsRow.lt hu k e).1
          omega
        · have h9 : HoldF wy w1.heap.size (f 9) L := hd ⟨2, .data⟩ (by simp) rfl (by decide)
          have h12 : HoldF wy w1.heap.size (f 12) L ∧ _ := hd ⟨5, .data⟩ (by simp) rfl (by decide)
          obtain ⟨a9, c9, e9⟩ := h9.2.slice
          obtain ⟨a12, c12, e12⟩ := h12.1.2.slice
          refine wpOp_runG ho2 (wanted_none rfl) (q_build2 (canon fr dsY f).eval _ wy _ _ rfl ((canon_eval fr dsY f 9 (by decide) (Nat.lt_of_le_of_lt (by decide) hsz)).trans e9) ((canon_eval fr dsY f 12 (by decide) (Nat.lt_of_le_of_lt (by decide) hsz)).trans e12)) ?_
          refine ⟨_, rfl, ?_, Below.refl _ _⟩
          show upd f 13 _ 13 = .agg #[upd f 13 _ 9, upd f 13 _ 12, .slice none 0 0]
          rw [upd_same, upd_ne f _ (by decide : (9 : Nat) ≠ 13), upd_ne f _ (by decide : (12 : Nat) ≠ 13), e9, e12]
      · intro ops hops f wy hy ho hall
        have ho2 := ho
        have N1 := (canon_eval_ne fr dsY f 1 (by decide)).trans t1
        have N2 := (canon_eval_ne fr dsY f 2 (by decide)).trans t2
        have h9 : HoldF wy w1.heap.size (f 9) L := hall 2 (by omega)
        have h12 : HoldF wy w1.heap.size (f 12) L ∧ _ := hall 5 (by omega)
        have h13 : f 13 = .agg #[f 9, f 12, .slice none 0 0] := hall 6 (by omega)
        obtain ⟨a9, c9, e9⟩ := h9.2.slice
        obtain ⟨a12, c12, e12⟩ := h12.1.2.slice
        have hrb : wy.heap[w.heap.size + 1]? = some (.cells #[.slice none 0 0, .slice none 0 0, .slice none 0 0] 27 (0, 0)) := (hy.block _ (lt_of_block HRB.out)).trans HRB.out
        refine wpOp_storeD ho2 (wanted_none rfl) _ _ (w.heap.size + 1) rfl N2 ((canon_eval fr dsY f 13 (by decide) (Nat.lt_of_le_of_lt (by decide) hsz)).trans (h13.trans (by rw [e9, e12]))) rfl hrb ?_
        intro wz hz1 hz2 hz3 hz4 hz5 hz6
        have hlt : w.heap.size + 1 < w1.heap.size := lt_of_block HRB.out
        have hkz : ∀ k, w1.heap.size ≤ k → k < wy.heap.size → wz.heap[k]? = wy.heap[k]? := fun k h1 h2 => hz2 k (by omega)
        refine hK _ _ (Met.intro (hJ _ _ ⟨f, congrArg (fun z => canon z dsY f) HFR.out, f 9, f 12, ?_, h9.kept (by omega) hkz, h12.1.kept (by omega) hkz, h12.2, ?_⟩))
        · rw [e9, e12]; exact hz1
        · have hbw := HW1.out.trans (hy.mono HW1.out.size)
          exact ⟨hz4.trans hbw.os, hz5.trans hbw.tape, hz6.trans hbw.output, by rw [hz3]; exact hbw.size, fun k hk => (hz2 k (by omega)).trans (hbw.block k hk)⟩
  
def dsZ : List Nat := [7, 8, 9, 10, 11, 12, 13, 14, 15]
def slotZ (j : Nat) : Nat := dsZ.getD j 0
theorem slotZ_inj (i j : Nat) (hi : i < 9) (hj : j < 9) (q : slotZ i = slotZ j) : i = j := by
  have h : ∀ i : Fin 9, ∀ j : Fin 9, slotZ i.val = slotZ j.val → i.val = j.val := by decide
  exact h ⟨i, hi⟩ ⟨j, hj⟩ q
theorem slotZ_mem (i : Nat) (hi : i < 9) : slotZ i ∈ dsZ := by
  have h : ∀ i : Fin 9, slotZ i.val ∈ dsZ := by decide
  exact h ⟨i, hi⟩
def ZF (B base : Nat) (v : Value) (L : List Fl) : Nat → (Nat → Value) → World → Prop
  | 0, f, w => ∃ g, f 7 = .slice (some ⟨g, 0, none⟩) 0 0 ∧ base ≤ g ∧ w.heap[g]? = some (.cells #[] 68 (0, 0))
  | 1, f, w => f 8 = .pointer (some ⟨B, 0, none⟩)
  | 2, f, w => f 9 = v
  | 3, f, w => HoldF w base (f 10) L
  | 4, f, w => ∃ g, f 11 = .slice (some ⟨g, 0, none⟩) 0 0 ∧ base ≤ g ∧ w.heap[g]? = some (.cells #[] 68 (0, 0))
  | 5, f, w => f 12 = .pointer (some ⟨B, 0, none⟩)
  | 6, f, w => f 13 = v
  | 7, f, w => HoldF w base (f 14) L
  | 8, f, w => f 15 = .agg #[f 10, f 14, .slice none 0 0]
  | _, _, _ => True
theorem ZF.below {B base : Nat} {v : Value} {L : List Fl} {j : Nat} {f : Nat → Value} {w w' : World} (h : ZF B base v L j f w) (hB : Below w.heap.size w w') : ZF B base v L j f w' := by
  match j, h with
  | 0, h => exact (by obtain ⟨g, e, hb, hh⟩ := h; exact ⟨g, e, hb, (hB.block _ (lt_of_block hh)).trans hh⟩)
  | 1, h => exact h
  | 2, h => exact h
  | 3, h => exact HoldF.below (h) hB
  | 4, h => exact (by obtain ⟨g, e, hb, hh⟩ := h; exact ⟨g, e, hb, (hB.block _ (lt_of_block hh)).trans hh⟩)
  | 5, h => exact h
  | 6, h => exact h
  | 7, h => exact HoldF.below (h) hB
  | 8, h => exact h
  | (m + 9), _ => exact trivial
def depZ (j i : Nat) : Bool := match j with
  | 0 => i == 0
  | 1 => i == 1
  | 2 => i == 2
  | 3 => i == 3
  | 4 => i == 4
  | 5 => i == 5
  | 6 => i == 6
  | 7 => i == 7
  | 8 => i == 8 || i == 3 || i == 7
  | _ => false
theorem ZF.dep {B base : Nat} {v : Value} {L : List Fl} {j : Nat} {f f' : Nat → Value} {w : World} (hj : j < 9) (h : ZF B base v L j f w) (he : ∀ i, depZ j i = true → f (slotZ i) = f' (slotZ i)) : ZF B base v L j f' w := by
  match j, hj, h, he with
  | 0, _, h, he =>
    have e0 : f 7 = f' 7 := he 0 rfl
    simp only [ZF] at h ⊢
    rw [← e0]
    exact h
  | 1, _, h, he =>
    have e1 : f 8 = f' 8 := he 1 rfl
    simp only [ZF] at h ⊢
    rw [← e1]
    exact h
  | 2, _, h, he =>
    have e2 : f 9 = f' 9 := he 2 rfl
    simp only [ZF] at h ⊢
    rw [← e2]
    exact h
  | 3, _, h, he =>
    have e3 : f 10 = f' 10 := he 3 rfl
    simp only [ZF] at h ⊢
    rw [← e3]
    exact h
  | 4, _, h, he =>
    have e4 : f 11 = f' 11 := he 4 rfl
    simp only [ZF] at h ⊢
    rw [← e4]
    exact h
  | 5, _, h, he =>
    have e5 : f 12 = f' 12 := he 5 rfl
    simp only [ZF] at h ⊢
    rw [← e5]
    exact h
  | 6, _, h, he =>
    have e6 : f 13 = f' 13 := he 6 rfl
    simp only [ZF] at h ⊢
    rw [← e6]
    exact h
  | 7, _, h, he =>
    have e7 : f 14 = f' 14 := he 7 rfl
    simp only [ZF] at h ⊢
    rw [← e7]
    exact h
  | 8, _, h, he =>
    have e8 : f 15 = f' 15 := he 8 rfl
    have e3 : f 10 = f' 10 := he 3 rfl
    have e7 : f 14 = f' 14 := he 7 rfl
    simp only [ZF] at h ⊢
    rw [← e8, ← e3, ← e7]
    exact h
  | (m + 9), hj, _, _ => exact absurd hj (by omega)
set_option maxRecDepth 10000 in
set_option maxHeartbeats 4000000 in
theorem specSync_any (vL vS vO : Value) (L S : List Fl) (O : List Dop) (w : World) (hL : RdF w vL L) (hS : RdF w vS S) (hO : RdO w vO O) (hz : SmallD L S O) (hl : L.length ≤ 1048576) :
    Calls Try.prog 60 #[.agg #[vL, vS, vO]] w fun e w' => ∃ x y z, e = .returned (.agg #[x, y, z]) ∧ RdD w' x y z (syL L S O) (syL L S O) [] ∧ Below w.heap.size w w' := by
  have HN : Hid (L.length ≤ 1048576) := hl
  clear hl
  have HZ : Hid (SmallD L S O) := hz
  have HA : Hid (∀ w', Below w.heap.size w w' → RdF w' vL L ∧ RdF w' vS S ∧ RdO w' vO O) := fun w' hB => ⟨hL.below hB, hS.below hB, hO.below hB⟩
  obtain ⟨aL, cL, rfl⟩ := hL.slice
  obtain ⟨aS, cS, rfl⟩ := hS.slice
  obtain ⟨aO, cO, rfl⟩ := hO.slice
  obtain ⟨X, hX⟩ : ∃ X, X = (w.alloc (.cells #[.slice aL L.length cL, .slice aS S.length cS, .slice aO O.length cO] 27)).alloc (.cells #[.slice none 0 0, .slice none 0 0, .slice none 0 0] 27) := ⟨_, rfl⟩
  have hBX : Below w.heap.size w X := by rw [hX]; exact ((Below.refl _ _).alloc (Nat.le_refl _) _).alloc (by simp) _
  have gX : X.heap[w.heap.size]? = some (.cells #[.slice aL L.length cL, .slice aS S.length cS, .slice aO O.length cO] 27 (0, 0)) := by rw [hX, Below.heap_alloc _ _ _ (by simp)]; exact heap_alloc_new _ _
  have gR : X.heap[w.heap.size + 1]? = some (.cells #[.slice none 0 0, .slice none 0 0, .slice none 0 0] 27 (0, 0)) := by
    rw [hX]
    have := heap_alloc_new (w.alloc (.cells #[.slice aL L.length cL, .slice aS S.length cS, .slice aO O.length cO] 27)) (.cells #[.slice none 0 0, .slice none 0 0, .slice none 0 0] 27)
    simpa using this
  have HX := (show Hid _ from hX)
  have HBX : Hid (Below w.heap.size w X) := hBX
  have HG : Hid (∀ w', Below X.heap.size X w' → w'.heap[w.heap.size]? = some (.cells #[.slice aL L.length cL, .slice aS S.length cS, .slice aO O.length cO] 27 (0, 0)) ∧ w'.heap[w.heap.size + 1]? = some (.cells #[.slice none 0 0, .slice none 0 0, .slice none 0 0] 27 (0, 0)) ∧ Below w.heap.size w w') := fun w' hB => ⟨(hB.block _ (lt_of_block gX)).trans gX, (hB.block _ (lt_of_block gR)).trans gR, hBX.trans (hB.mono hBX.size)⟩
  have c0 : X.cell? ⟨w.heap.size, 0, none⟩ = some (.slice aL L.length cL) := cellN gX
  have c1 : X.cell? ⟨w.heap.size, 1, none⟩ = some (.slice aS S.length cS) := cellN gX
  have c2 : X.cell? ⟨w.heap.size, 2, none⟩ = some (.slice aO O.length cO) := cellN gX
  rw [hX] at c0 c1 c2
  clear hX hBX gX gR hL hS hO hz
  go_enter Try.func60, Try.ntmps60
  go_wp2_with fail
  rw [← HX.out]
  have hAX := HA.out X HBX.out
  refine (specDisk_any _ _ _ L S O X hAX.1 hAX.2.1 hAX.2.2 HZ.out).mono ?_
  rintro e w1 ⟨rfl, hB1⟩
  obtain ⟨g1, gr1, hbw1⟩ := HG.out w1 hB1
  have HW1 : Hid (Below w.heap.size w w1) := hbw1
  have HRB0 : Hid (w1.heap[w.heap.size + 1]? = some (.cells #[.slice none 0 0, .slice none 0 0, .slice none 0 0] 27 (0, 0))) := gr1
  clear hB1 hbw1 c0 c1 c2 hAX
  cases hd : diskB L S O with
  | false =>
    have HD : Hid (syL L S O = []) := by show _ = _; unfold syL; rw [hd]; rfl
    clear hd g1 gr1
    obtain ⟨q, hq⟩ : ∃ q, q = #[Value.slice none 0 0, .slice none 0 0, .slice none 0 0] := ⟨_, rfl⟩
    have hi6 : (Try.prog.info? 27).map (·.size) = some q.size := by rw [hq]; exact infoDk
    have ho6 : (#[Value.slice none 0 0, .slice none 0 0, .slice none 0 0] : Array Value).size = q.size := by rw [hq]
    have h16 : q.all (·.oneCell') = true := by rw [hq]; simp [Value.oneCell']
    have HQ : Hid (q = #[Value.slice none 0 0, .slice none 0 0, .slice none 0 0]) := hq
    go_wp2_with (refine wpList_store_row rfl 27 _ _ rfl (w.heap.size + 1) q rfl (congrArg Value.agg hq.symm) 27 _ HRB0.out hi6 ho6 h16 ?_)
    refine bodyPost_ret (v := .agg q) (results_cell_row rfl _ _ (w.heap.size + 1) 27 _ _ _ rfl (setRow_heap _ _ _ _ _ _ HRB0.out) Try.underlying27 rfl hi6) rfl ⟨_, _, _, ret_val (by rw [HQ.out]), ?_, ?_⟩
    · rw [HD.out]
      exact ⟨(HoldF.nil _ 0).1, (HoldF.nil _ 0).1, (HoldO.nil _ 0).1⟩
    · exact below_setRow HW1.out (by omega) _
  | true =>
    have HD : Hid (syL L S O = L) := by show _ = _; unfold syL; rw [hd]; rfl
    have HRB : Hid (w1.heap[w.heap.size + 1]? = some (.cells #[.slice none 0 0, .slice none 0 0, .slice none 0 0] 27 (0, 0))) := HRB0
    have HC : Hid (∀ wy, Below w1.heap.size w1 wy → wy.cell? ⟨w.heap.size, 0, none⟩ = some (.slice aL L.length cL)) := fun wy hy => cellN ((hy.block _ (lt_of_block g1)).trans g1)
    have HR1 : Hid (∀ wy, Below w1.heap.size w1 wy → RdF wy (.slice aL L.length cL) L) := fun wy hy => (HA.out wy (HW1.out.trans (hy.mono HW1.out.size))).1
    clear hd g1 gr1
    go_wp2
    refine wp_cut_to (fun a0 t w' => ∃ f, t = canon a0 dsZ f ∧ (∃ x y, w'.heap[w.heap.size + 1]? = some (.cells #[x, y, .slice none 0 0] 27 (0, 0)) ∧ HoldF w' w1.heap.size x L ∧ HoldF w' w1.heap.size y L ∧ Below w.heap.size w w')) ?_ ?_
    · rintro _ w7 ⟨f, rfl, h7⟩
      simp only [canon, dsZ, List.foldl, Act.put, List.setIfInBounds_toArray, List.set_cons_succ, List.set_cons_zero]
      have H7 := (show Hid _ from h7)
      clear h7
      obtain ⟨x, y, hb7, hx7, hy7, hbw⟩ := H7.out
      have HE : Hid (HoldF w7 w1.heap.size x L ∧ HoldF w7 w1.heap.size y L ∧ Below w.heap.size w w7) := ⟨hx7, hy7, hbw⟩
      clear hx7 hy7 hbw H7
      go_wp2
      refine bodyPost_ret (results_cell_row rfl _ _ (w.heap.size + 1) 27 _ _ _ rfl hb7 Try.underlying27 rfl infoDk) rfl ⟨x, y, .slice none 0 0, rfl, ?_, ?_⟩
      · rw [HD.out]
        exact ⟨HE.out.1.1, HE.out.2.1.1, (HoldO.nil _ 0).1⟩
      · exact HE.out.2.2
    · intro J K' hJ hK
      refine wp_letter ?_
      intro fr hfr
      have hsz : 15 < fr.tmps.size := by rw [hfr]; exact Nat.le_of_ble_eq_true rfl
      have t1 : fr.eval (.tmp 1) = .pointer (some ⟨w.heap.size, 0, none⟩) := by rw [hfr]; rfl
      have t2 : fr.eval (.tmp 2) = .pointer (some ⟨w.heap.size + 1, 0, none⟩) := by rw [hfr]; rfl
      have HFR := (show Hid _ from hfr)
      clear hfr
      refine wp_region_fin (Rel := fun v v' => Below v.heap.size v v') (fun v => Below.refl _ _) (fun h k => h.trans (k.mono h.size)) (fun v => (Below.refl _ _).drew) 9 rfl (by kernel_rfl) (by kernel_rfl) dsZ slotZ (ZF w.heap.size w1.heap.size (.slice aL L.length cL) L) _ rfl (by kernel_rfl) (fun _ _ _ _ h hB => h.below hB) ?_ ?_ ?_ ?_ ?_
      · intro j f f' wy hj he h
        exact h.dep hj (fun i hi => he i (by revert hi; match j, hj with | 0, _ => (intro hi; simp only [depZ, beq_iff_eq] at hi; rcases hi with rfl <;> kernel_rfl) | 1, _ => (intro hi; simp only [depZ, beq_iff_eq] at hi; rcases hi with rfl <;> kernel_rfl) | 2, _ => (intro hi; simp only [depZ, beq_iff_eq] at hi; rcases hi with rfl <;> kernel_rfl) | 3, _ => (intro hi; simp only [depZ, beq_iff_eq] at hi; rcases hi with rfl <;> kernel_rfl) | 4, _ => (intro hi; simp only [depZ, beq_iff_eq] at hi; rcases hi with rfl <;> kernel_rfl) | 5, _ => (intro hi; simp only [depZ, beq_iff_eq] at hi; rcases hi with rfl <;> kernel_rfl) | 6, _ => (intro hi; simp only [depZ, beq_iff_eq] at hi; rcases hi with rfl <;> kernel_rfl) | 7, _ => (intro hi; simp only [depZ, beq_iff_eq] at hi; rcases hi with rfl <;> kernel_rfl) | 8, _ => (intro hi; simp only [depZ, Bool.or_eq_true, beq_iff_eq] at hi; rcases hi with (rfl | rfl) | rfl <;> kernel_rfl)))
      · intro i hi
        exact slotZ_mem i hi
      · intro i j hi hj q
        exact slotZ_inj i j hi hj q
      · intro ops hops f wy j oo hj hy ho hd
        have ho2 := ho
        rw [hops] at ho
        have N1 := (canon_eval_ne fr dsZ f 1 (by decide)).trans t1
        have N2 := (canon_eval_ne fr dsZ f 2 (by decide)).trans t2
        have hj' : j = 0 ∨ j = 1 ∨ j = 2 ∨ j = 3 ∨ j = 4 ∨ j = 5 ∨ j = 6 ∨ j = 7 ∨ j = 8 := by omega
        rcases hj' with rfl | rfl | rfl | rfl | rfl | rfl | rfl | rfl | rfl <;> simp only [List.getElem?_toArray, List.getElem?_cons_succ, List.getElem?_cons_zero, Option.some.injEq] at ho <;> subst ho
        · refine wpOp_runG ho2 (wanted_none rfl) (q_madeF (canon fr dsZ f).eval _ wy rfl) ?_
          refine ⟨_, rfl, ⟨wy.heap.size, upd_same f 7 _, hy.size, heap_alloc_new _ _⟩, (Below.refl _ _).alloc (Nat.le_refl _) _⟩
        · refine wpOp_runG ho2 (wanted_none rfl) (q_fieldK (canon fr dsZ f).eval _ wy _ w.heap.size 0 rfl N1 (.inl rfl)) ?_
          exact ⟨_, rfl, upd_same f 8 _, Below.refl _ _⟩
        · refine wpOp_runG ho2 (wanted_none rfl) (q_loadF (canon fr dsZ f).eval _ wy _ w.heap.size 0 rfl ((canon_eval fr dsZ f 8 (by decide) (Nat.lt_of_le_of_lt (by decide) hsz)).trans (hd ⟨1, .data⟩ (by simp) rfl (by decide))) (HC.out wy hy)) ?_
          exact ⟨_, rfl, upd_same f 9 _, Below.refl _ _⟩
        · obtain ⟨g, eg, hbg, hgh⟩ := hd ⟨0, .data⟩ (by simp) rfl (by decide)
          have hv : f 9 = .slice aL L.length cL := hd ⟨2, .data⟩ (by simp) rfl (by decide)
          refine wpOp_app0F ho2 (wanted_none rfl) _ _ w1.heap.size g L rfl ((canon_eval fr dsZ f 7 (by decide) (Nat.lt_of_le_of_lt (by decide) hsz)).trans eg) hgh hbg (by rw [(canon_eval fr dsZ f 9 (by decide) (Nat.lt_of_le_of_lt (by decide) hsz)).trans hv]; exact HR1.out wy hy) (by have := HN.out; omega) ?_
          intro u wz hu hBz
          exact ⟨_, rfl, by show HoldF _ _ (upd f 10 u 10) L; rw [upd_same]; exact hu, hBz⟩
        · refine wpOp_runG ho2 (wanted_none rfl) (q_madeF (canon fr dsZ f).eval _ wy rfl) ?_
          refine ⟨_, rfl, ⟨wy.heap.size, upd_same f 11 _, hy.size, heap_alloc_new _ _⟩, (Below.refl _ _).alloc (Nat.le_refl _) _⟩
        · refine wpOp_runG ho2 (wanted_none rfl) (q_fieldK (canon fr dsZ f).eval _ wy _ w.heap.size 0 rfl N1 (.inl rfl)) ?_
          exact ⟨_, rfl, upd_same f 12 _, Below.refl _ _⟩
        · refine wpOp_runG ho2 (wanted_none rfl) (q_loadF (canon fr dsZ f).eval _ wy _ w.heap.size 0 rfl ((canon_eval fr dsZ f 12 (by decide) (Nat.lt_of_le_of_lt (by decide) hsz)).trans (hd ⟨5, .data⟩ (by simp) rfl (by decide))) (HC.out wy hy)) ?_
          exact ⟨_, rfl, upd_same f 13 _, Below.refl _ _⟩
        · obtain ⟨g, eg, hbg, hgh⟩ := hd ⟨4, .data⟩ (by simp) rfl (by decide)
          have hv : f 13 = .slice aL L.length cL := hd ⟨6, .data⟩ (by simp) rfl (by decide)
          refine wpOp_app0F ho2 (wanted_none rfl) _ _ w1.heap.size g L rfl ((canon_eval fr dsZ f 11 (by decide) (Nat.lt_of_le_of_lt (by decide) hsz)).trans eg) hgh hbg (by rw [(canon_eval fr dsZ f 13 (by decide) (Nat.lt_of_le_of_lt (by decide) hsz)).trans hv]; exact HR1.out wy hy) (by have := HN.out; omega) ?_
          intro u wz hu hBz
          exact ⟨_, rfl, by show HoldF _ _ (upd f 14 u 14) L; rw [upd_same]; exact hu, hBz⟩
        · have h9 : HoldF wy w1.heap.size (f 10) L := hd ⟨3, .data⟩ (by simp) rfl (by decide)
          have h12 : HoldF wy w1.heap.size (f 14) L := hd ⟨7, .data⟩ (by simp) rfl (by decide)
          obtain ⟨a9, c9, e9⟩ := h9.2.slice
          obtain ⟨a12, c12, e12⟩ := h12.2.slice
          refine wpOp_runG ho2 (wanted_none rfl) (q_build2 (canon fr dsZ f).eval _ wy _ _ rfl ((canon_eval fr dsZ f 10 (by decide) (Nat.lt_of_le_of_lt (by decide) hsz)).trans e9) ((canon_eval fr dsZ f 14 (by decide) (Nat.lt_of_le_of_lt (by decide) hsz)).trans e12)) ?_
          refine ⟨_, rfl, ?_, Below.refl _ _⟩
          show upd f 15 _ 15 = .agg #[upd f 15 _ 10, upd f 15 _ 14, .slice none 0 0]
          rw [upd_same, upd_ne f _ (by decide : (10 : Nat) ≠ 15), upd_ne f _ (by decide : (14 : Nat) ≠ 15), e9, e12]
      · intro ops hops f wy hy ho hall
        have ho2 := ho
        have N1 := (canon_eval_ne fr dsZ f 1 (by decide)).trans t1
        have N2 := (canon_eval_ne fr dsZ f 2 (by decide)).trans t2
        have h9 : HoldF wy w1.heap.size (f 10) L := hall 3 (by omega)
        have h12 : HoldF wy w1.heap.size (f 14) L := hall 7 (by omega)
        have h15 : f 15 = .agg #[f 10, f 14, .slice none 0 0] := hall 8 (by omega)
        obtain ⟨a9, c9, e9⟩ := h9.2.slice
        obtain ⟨a12, c12, e12⟩ := h12.2.slice
        have hrb : wy.heap[w.heap.size + 1]? = some (.cells #[.slice none 0 0, .slice none 0 0, .slice none 0 0] 27 (0, 0)) := (hy.block _ (lt_of_block HRB.out)).trans HRB.out
        refine wpOp_storeD ho2 (wanted_none rfl) _ _ (w.heap.size + 1) rfl N2 ((canon_eval fr dsZ f 15 (by decide) (Nat.lt_of_le_of_lt (by decide) hsz)).trans (h15.trans (by rw [e9, e12]))) rfl hrb ?_
        intro wz hz1 hz2 hz3 hz4 hz5 hz6
        have hlt : w.heap.size + 1 < w1.heap.size := lt_of_block HRB.out
        have hkz : ∀ k, w1.heap.size ≤ k → k < wy.heap.size → wz.heap[k]? = wy.heap[k]? := fun k h1 h2 => hz2 k (by omega)
        refine hK _ _ (Met.intro (hJ _ _ ⟨f, congrArg (fun z => canon z dsZ f) HFR.out, f 10, f 14, ?_, h9.kept (by omega) hkz, h12.kept (by omega) hkz, ?_⟩))
        · rw [e9, e12]; exact hz1
        · have hbw := HW1.out.trans (hy.mono HW1.out.size)
          exact ⟨hz4.trans hbw.os, hz5.trans hbw.tape, hz6.trans hbw.output, by rw [hz3]; exact hbw.size, fun k hk => (hz2 k (by omega)).trans (hbw.block k hk)⟩
  
end Go.Proofs.Ytbohaefmokbgbaa
