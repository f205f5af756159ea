/-
  Copies of a whole disk. No condition but that it reads.
-/
import Derived.Test.YtbohaefmokbgbaaDkS1
namespace Go.Proofs.Ytbohaefmokbgbaa
open Go.RowKit
set_option linter.unusedVariables false

def OwnO (w : World) (base : Nat) (v : Value) (L : List Dop) : Prop := w.ownsRow base 49 4 v L.length (cellsO L)
theorem OwnO.nil (w : World) (base : Nat) : OwnO w base (.slice none 0 0) [] := ⟨rfl, .inl ⟨rfl, rfl⟩⟩
theorem OwnO.hold {w : World} {base : Nat} {v : Value} {L : List Dop} (h : OwnO w base v L) : HoldO w base v L := ⟨rdO_of h, ⟨_, h⟩⟩
theorem nilNO (n c : Nat) (w : World) : (binOp .eql 25 (.slice none n c) (.slice none 0 0)).run Try.prog w = .ok (.bool true) w := by kernel_rfl
theorem nilSO (a : Addr) (n c : Nat) (w : World) : (binOp .eql 25 (.slice (some a) n c) (.slice none 0 0)).run Try.prog w = .ok (.bool false) w := by kernel_rfl

set_option maxRecDepth 10000 in
set_option maxHeartbeats 1000000 in
theorem cloneO_own (v : Value) (L : List Dop) (w : World) (h : RdO w v L) (hL : L.length ≤ 1048576) :
    Calls Try.prog 67 #[v] w fun e w' => ∃ u, e = .returned u ∧ OwnO w' w.heap.size u L ∧ Below w.heap.size w w' := by
  obtain ⟨a, cap, rfl, hlc, hcm, hc⟩ := h
  obtain ⟨i0, hi, hz0, hz1, hz2⟩ := info_parts infoDOpT
  obtain ⟨n, hn⟩ : ∃ n, n = L.length := ⟨_, rfl⟩
  have HN : Hid (n = L.length) := hn
  rw [← hn] at hlc hc hL ⊢
  clear hn
  cases a with
  | none =>
    have HE : Hid (L = []) := by
      show _ = _
      rcases Nat.eq_zero_or_pos n with h0 | h0
      · exact List.length_eq_zero_iff.1 (by rw [← HN.out, h0])
      · obtain ⟨b, off, e, _⟩ := hc h0
        cases e
    clear hc
    have hnn := nilNO n cap
    go_enter Try.func67, Try.ntmps67
    go_wp2
    go_ret
    exact ⟨_, rfl, by rw [HE.out]; exact OwnO.nil _ _, Below.refl _ _⟩
  | some ad =>
    have HL : Hid (∀ j u, (cellsO L)[j]? = some u → (w.alloc (.cells #[] 49)).cell? (ad.add j) = some u) := fun j u hu => by
      have hj : j < L.length * 4 := by rw [← cellsO_len]; exact (List.getElem?_eq_some_iff.1 hu).1
      obtain ⟨b, off, e, hbs, hl⟩ := hc (by have := HN.out; omega)
      cases e
      exact newsO (w := w.alloc (.cells #[] 49)) (fun i hi t ht => (((Below.refl w.heap.size w).alloc (Nat.le_refl _) _).cell (p := ⟨b, off + i * 4 + t, none⟩) hbs).trans (hl i (by rw [HN.out]; exact hi) t ht)) j u hu
    have hc1 : Hid (0 + n ≤ maxLen) := by show _ ≤ _; unfold maxLen; omega
    have hc2 : Hid ((0 + n) * 56 ≤ 140737488355328) := by show _ ≤ _; omega
    clear hc
    have hnn := nilSO ad n cap
    go_enter Try.func67, Try.ntmps67
    go_wp2_with (first
      | (at_builtin
         refine wpList_append_own _ rfl _ _ 25 rfl w.heap.size 49 i0 (.agg #[.int .i64 0, .string ⟨#[]⟩, .string ⟨#[]⟩, .string ⟨#[]⟩]) 4 56 Try.underlying25 hi hz0 hz1 hz2 rfl (by decide) _ 0 [] rfl (World.ownsRow_made w #[] 0 (Nat.le_refl _) (by decide) rfl) ad n cap (cellsO L) rfl (by rw [cellsO_len, ← HN.out]) HL.out (oneO L) hc1.out hc2.out (by simp) ?_
         intro v' w3 hown hgrow hnil
         have HE : Hid (OwnO w3 w.heap.size v' L ∧ Below w.heap.size w w3) := by
           refine ⟨?_, ((Below.refl _ w).alloc (Nat.le_refl _) _).grown hgrow (by simp) (fun x hx => by have hx' : some w.heap.size = some x := hx; cases hx'; exact Nat.le_refl _)⟩
           show w3.ownsRow _ _ _ _ _ _
           rw [← HN.out]
           rw [Nat.zero_add, List.nil_append] at hown
           exact hown
         clear hown hgrow hnil))
    go_ret
    exact ⟨_, rfl, HE.out.1, HE.out.2⟩

theorem cloneO_any (v : Value) (L : List Dop) (w : World) (h : RdO w v L) (hL : L.length ≤ 1048576) :
    Calls Try.prog 67 #[v] w fun e w' => ∃ u, e = .returned u ∧ HoldO w' w.heap.size u L ∧ Below w.heap.size w w' :=
  (cloneO_own v L w h hL).mono fun e w' ⟨u, h1, h2, h3⟩ => ⟨u, h1, h2.hold, h3⟩
theorem cloneF_any (v : Value) (L : List Fl) (w : World) (h : RdF w v L) (hL : L.length ≤ 1048576) :
    Calls Try.prog 32 #[v] w fun e w' => ∃ u, e = .returned u ∧ HoldF w' w.heap.size u L ∧ Below w.heap.size w w' :=
  (clone_any v L w h hL).mono fun e w' ⟨u, h1, h2, h3⟩ => ⟨u, h1, h2.hold, h3⟩

def dsC : List Nat := [3, 4, 5, 6, 7, 8, 9, 10, 11, 12]
def slotC (j : Nat) : Nat := dsC.getD j 0
theorem slotC_inj (i j : Nat) (hi : i < 10) (hj : j < 10) (q : slotC i = slotC j) : i = j := by
  have h : ∀ i : Fin 10, ∀ j : Fin 10, slotC i.val = slotC j.val → i.val = j.val := by decide
  exact h ⟨i, hi⟩ ⟨j, hj⟩ q
theorem slotC_mem (i : Nat) (hi : i < 10) : slotC i ∈ dsC := by
  have h : ∀ i : Fin 10, slotC i.val ∈ dsC := by decide
  exact h ⟨i, hi⟩
def CF (B base : Nat) (vL vS vO : Value) (L S : List Fl) (O : List Dop) : Nat → (Nat → Value) → World → Prop
  | 0, f, w => f 3 = .pointer (some ⟨B, 0, none⟩)
  | 1, f, w => f 4 = vL
  | 2, f, w => HoldF w base (f 5) L
  | 3, f, w => f 6 = .pointer (some ⟨B, 1, none⟩)
  | 4, f, w => f 7 = vS
  | 5, f, w => HoldF w base (f 8) S ∧ (∀ k, (f 5).ownBlock = some k → (f 8).ownBlock ≠ some k)
  | 6, f, w => f 9 = .pointer (some ⟨B, 2, none⟩)
  | 7, f, w => f 10 = vO
  | 8, f, w => HoldO w base (f 11) O
  | 9, f, w => f 12 = .agg #[f 5, f 8, f 11]
  | _, _, _ => True
theorem CF.below {B base : Nat} {vL vS vO : Value} {L S : List Fl} {O : List Dop} {j : Nat} {f : Nat → Value} {w w' : World} (h : CF B base vL vS vO L S O j f w) (hB : Below w.heap.size w w') : CF B base vL vS vO L S O j f w' := by
  match j, h with
  | 0, h => exact h
  | 1, h => exact h
  | 2, h => exact HoldF.below (h) hB
  | 3, h => exact h
  | 4, h => exact h
  | 5, h => exact ⟨HoldF.below (h.1) hB, h.2⟩
  | 6, h => exact h
  | 7, h => exact h
  | 8, h => exact HoldO.below (h) hB
  | 9, h => exact h
  | (m + 10), _ => exact trivial
def depC (j i : Nat) : Bool := match j with
  | 0 => i == 0
  | 1 => i == 1
  | 2 => i == 2
  | 3 => i == 3
  | 4 => i == 4
  | 5 => i == 5 || i == 2
  | 6 => i == 6
  | 7 => i == 7
  | 8 => i == 8
  | 9 => i == 9 || i == 2 || i == 5 || i == 8
  | _ => false
theorem CF.dep {B base : Nat} {vL vS vO : Value} {L S : List Fl} {O : List Dop} {j : Nat} {f f' : Nat → Value} {w : World} (hj : j < 10) (h : CF B base vL vS vO L S O j f w) (he : ∀ i, depC j i = true → f (slotC i) = f' (slotC i)) : CF B base vL vS vO L S O j f' w := by
  match j, hj, h, he with
  | 0, _, h, he =>
    have e0 : f 3 = f' 3 := he 0 rfl
    simp only [CF] at h ⊢
    rw [← e0]
    exact h
  | 1, _, h, he =>
    have e1 : f 4 = f' 4 := he 1 rfl
    simp only [CF] at h ⊢
    rw [← e1]
    exact h
  | 2, _, h, he =>
    have e2 : f 5 = f' 5 := he 2 rfl
    simp only [CF] at h ⊢
    rw [← e2]
    exact h
  | 3, _, h, he =>
    have e3 : f 6 = f' 6 := he 3 rfl
    simp only [CF] at h ⊢
    rw [← e3]
    exact h
  | 4, _, h, he =>
    have e4 : f 7 = f' 7 := he 4 rfl
    simp only [CF] at h ⊢
    rw [← e4]
    exact h
  | 5, _, h, he =>
    have e5 : f 8 = f' 8 := he 5 rfl
    have e2 : f 5 = f' 5 := he 2 rfl
    simp only [CF] at h ⊢
    rw [← e5, ← e2]
    exact h
  | 6, _, h, he =>
    have e6 : f 9 = f' 9 := he 6 rfl
    simp only [CF] at h ⊢
    rw [← e6]
    exact h
  | 7, _, h, he =>
    have e7 : f 10 = f' 10 := he 7 rfl
    simp only [CF] at h ⊢
    rw [← e7]
    exact h
  | 8, _, h, he =>
    have e8 : f 11 = f' 11 := he 8 rfl
    simp only [CF] at h ⊢
    rw [← e8]
    exact h
  | 9, _, h, he =>
    have e9 : f 12 = f' 12 := he 9 rfl
    have e2 : f 5 = f' 5 := he 2 rfl
    have e5 : f 8 = f' 8 := he 5 rfl
    have e8 : f 11 = f' 11 := he 8 rfl
    simp only [CF] at h ⊢
    rw [← e9, ← e2, ← e5, ← e8]
    exact h
  | (m + 10), hj, _, _ => exact absurd hj (by omega)
set_option maxRecDepth 10000 in
set_option maxHeartbeats 4000000 in
theorem implCopy_any (vL vS vO : Value) (L S : List Fl) (O : List Dop) (w : World) (h : RdD w vL vS vO L S O) (hn : L.length ≤ 1048576 ∧ S.length ≤ 1048576 ∧ O.length ≤ 1048576) :
    Calls Try.prog 34 #[.agg #[vL, vS, vO]] w fun e w' => ∃ x y z, e = .returned (.agg #[x, y, z]) ∧ RdD w' x y z L S O ∧ OwD w' w.heap.size x y z L.length S.length O.length ∧ Below w.heap.size w w' := by
  have HN : Hid (L.length ≤ 1048576 ∧ S.length ≤ 1048576 ∧ O.length ≤ 1048576) := hn
  have HA : Hid (∀ w', Below w.heap.size w w' → RdF w' vL L ∧ RdF w' vS S ∧ RdO w' vO O) := fun w' hB => ⟨h.1.below hB, h.2.1.below hB, h.2.2.below hB⟩
  obtain ⟨aL, cL, rfl⟩ := h.1.slice
  obtain ⟨aS, cS, rfl⟩ := h.2.1.slice
  obtain ⟨aO, cO, rfl⟩ := h.2.2.slice
  obtain ⟨w1, hX⟩ : ∃ w1, w1 = (w.alloc (.cells #[.slice aL L.length cL, .slice aS S.length cS, .slice aO O.length cO] 27)).alloc (.cells #[.slice none 0 0, .slice none 0 0, .slice none 0 0] 27) := ⟨_, rfl⟩
  have HW1 : Hid (Below w.heap.size w w1) := by rw [hX]; exact ((Below.refl _ _).alloc (Nat.le_refl _) _).alloc (by simp) _
  have gX : w1.heap[w.heap.size]? = some (.cells #[.slice aL L.length cL, .slice aS S.length cS, .slice aO O.length cO] 27 (0, 0)) := by rw [hX, Below.heap_alloc _ _ _ (by simp)]; exact heap_alloc_new _ _
  have HRB : Hid (w1.heap[w.heap.size + 1]? = some (.cells #[.slice none 0 0, .slice none 0 0, .slice none 0 0] 27 (0, 0))) := by
    show _ = _
    rw [hX]
    have := heap_alloc_new (w.alloc (.cells #[.slice aL L.length cL, .slice aS S.length cS, .slice aO O.length cO] 27)) (.cells #[.slice none 0 0, .slice none 0 0, .slice none 0 0] 27)
    simpa using this
  have HX := (show Hid _ from hX)
  have HC : Hid (∀ wy, Below w1.heap.size w1 wy → wy.cell? ⟨w.heap.size, 0, none⟩ = some (.slice aL L.length cL) ∧ wy.cell? ⟨w.heap.size, 1, none⟩ = some (.slice aS S.length cS) ∧ wy.cell? ⟨w.heap.size, 2, none⟩ = some (.slice aO O.length cO)) := fun wy hy => by
    have g := (hy.block _ (lt_of_block gX)).trans gX
    exact ⟨cellN g, cellN g, cellN g⟩
  have HR1 : Hid (∀ wy, Below w1.heap.size w1 wy → RdF wy (.slice aL L.length cL) L ∧ RdF wy (.slice aS S.length cS) S ∧ RdO wy (.slice aO O.length cO) O) := fun wy hy => HA.out wy (HW1.out.trans (hy.mono HW1.out.size))
  clear hX gX h hn
  have en1 : ∀ args w, (callFunc 32 args).run Try.prog w = .ok (.enter 32 args) w := enters_of Try.func32 (by kernel_rfl) rfl
  have en2 : ∀ args w, (callFunc 67 args).run Try.prog w = .ok (.enter 67 args) w := enters_of Try.func67 (by kernel_rfl) rfl
  have HEN1 := (show Hid _ from en1)
  have HEN2 := (show Hid _ from en2)
  clear en1 en2
  go_enter Try.func34, Try.ntmps34
  go_wp2
  rw [← HX.out]
  refine wp_cut_to (fun a0 t w' => ∃ f, t = canon a0 dsC f ∧ (∃ x y z, w'.heap[w.heap.size + 1]? = some (.cells #[x, y, z] 27 (0, 0)) ∧ HoldF w' w1.heap.size x L ∧ HoldF w' w1.heap.size y S ∧ HoldO w' w1.heap.size z O ∧ (∀ k, x.ownBlock = some k → y.ownBlock ≠ some k) ∧ Below w.heap.size w w')) ?_ ?_
  · rintro _ w7 ⟨f, rfl, h7⟩
    simp only [canon, dsC, List.foldl, Act.put, List.setIfInBounds_toArray, List.set_cons_succ, List.set_cons_zero]
    have H7 := (show Hid _ from h7)
    clear h7
    obtain ⟨x, y, z, hb7, hx7, hy7, hz7, hap, hbw⟩ := H7.out
    have HE : Hid (HoldF w7 w1.heap.size x L ∧ HoldF w7 w1.heap.size y S ∧ HoldO w7 w1.heap.size z O ∧ (∀ k, x.ownBlock = some k → y.ownBlock ≠ some k) ∧ Below w.heap.size w w7) := ⟨hx7, hy7, hz7, hap, hbw⟩
    clear hx7 hy7 hz7 hap hbw H7
    go_wp2
    have hle := HW1.out.size
    refine bodyPost_ret (results_cell_row rfl _ _ (w.heap.size + 1) 27 _ _ _ rfl hb7 Try.underlying27 rfl infoDk) rfl ⟨x, y, z, rfl, ⟨HE.out.1.1, HE.out.2.1.1, HE.out.2.2.1.1⟩, ⟨HE.out.1.2.base hle, HE.out.2.1.2.base hle, HE.out.2.2.1.2.base hle, HE.out.2.2.2.1⟩, HE.out.2.2.2.2⟩
  · intro J K' hJ hK
    refine wp_letter ?_
    intro fr hfr
    have hsz : 12 < fr.tmps.size := by rw [hfr]; exact Nat.le_of_ble_eq_true rfl
    have t1 : fr.eval (.tmp 1) = .pointer (some ⟨w.heap.size, 0, none⟩) := by rw [hfr]; rfl
    have t2 : fr.eval (.tmp 2) = .pointer (some ⟨w.heap.size + 1, 0, none⟩) := by rw [hfr]; rfl
    have HFR := (show Hid _ from hfr)
    clear hfr
    refine wp_region_fin (Rel := fun v v' => Below v.heap.size v v') (fun v => Below.refl _ _) (fun h k => h.trans (k.mono h.size)) (fun v => (Below.refl _ _).drew) 10 rfl (by kernel_rfl) (by kernel_rfl) dsC slotC (CF w.heap.size w1.heap.size (.slice aL L.length cL) (.slice aS S.length cS) (.slice aO O.length cO) L S O) _ rfl (by kernel_rfl) (fun _ _ _ _ h hB => h.below hB) ?_ ?_ ?_ ?_ ?_
    · intro j f f' wy hj he h
      exact h.dep hj (fun i hi => he i (by revert hi; match j, hj with | 0, _ => (intro hi; simp only [depC, beq_iff_eq] at hi; rcases hi with rfl <;> kernel_rfl) | 1, _ => (intro hi; simp only [depC, beq_iff_eq] at hi; rcases hi with rfl <;> kernel_rfl) | 2, _ => (intro hi; simp only [depC, beq_iff_eq] at hi; rcases hi with rfl <;> kernel_rfl) | 3, _ => (intro hi; simp only [depC, beq_iff_eq] at hi; rcases hi with rfl <;> kernel_rfl) | 4, _ => (intro hi; simp only [depC, beq_iff_eq] at hi; rcases hi with rfl <;> kernel_rfl) | 5, _ => (intro hi; simp only [depC, Bool.or_eq_true, beq_iff_eq] at hi; rcases hi with rfl | rfl <;> kernel_rfl) | 6, _ => (intro hi; simp only [depC, beq_iff_eq] at hi; rcases hi with rfl <;> kernel_rfl) | 7, _ => (intro hi; simp only [depC, beq_iff_eq] at hi; rcases hi with rfl <;> kernel_rfl) | 8, _ => (intro hi; simp only [depC, beq_iff_eq] at hi; rcases hi with rfl <;> kernel_rfl) | 9, _ => (intro hi; simp only [depC, Bool.or_eq_true, beq_iff_eq] at hi; rcases hi with ((rfl | rfl) | rfl) | rfl <;> kernel_rfl)))
    · intro i hi
      exact slotC_mem i hi
    · intro i j hi hj q
      exact slotC_inj i j hi hj q
    · intro ops hops f wy j oo hj hy ho hd
      have ho2 := ho
      rw [hops] at ho
      have N1 := (canon_eval_ne fr dsC f 1 (by decide)).trans t1
      have N2 := (canon_eval_ne fr dsC f 2 (by decide)).trans t2
      have hj' : j = 0 ∨ j = 1 ∨ j = 2 ∨ j = 3 ∨ j = 4 ∨ j = 5 ∨ j = 6 ∨ j = 7 ∨ j = 8 ∨ j = 9 := by omega
      rcases hj' with rfl | rfl | rfl | rfl | rfl | rfl | rfl | rfl | rfl | rfl <;> simp only [List.getElem?_toArray, List.getElem?_cons_succ, List.getElem?_cons_zero, Option.some.injEq] at ho <;> subst ho
      · refine wpOp_runG ho2 (wanted_none rfl) (q_fieldK (canon fr dsC f).eval _ wy _ w.heap.size 0 rfl N1 (by decide)) ?_
        exact ⟨_, rfl, upd_same f 3 _, Below.refl _ _⟩
      · refine wpOp_runG ho2 (wanted_none rfl) (q_loadF (canon fr dsC f).eval _ wy _ w.heap.size 0 rfl ((canon_eval fr dsC f 3 (by decide) (Nat.lt_of_le_of_lt (by decide) hsz)).trans (hd ⟨0, .data⟩ (by simp) rfl (by decide))) (HC.out wy hy).1) ?_
        exact ⟨_, rfl, upd_same f 4 _, Below.refl _ _⟩
      · refine wpOp_enterG ho2 (wanted_none rfl) (q_call1I (canon fr dsC f).eval _ wy _ HEN1.out _ _ rfl rfl) ?_
        rw [(canon_eval fr dsC f 4 (by decide) (Nat.lt_of_le_of_lt (by decide) hsz)).trans (hd ⟨1, .data⟩ (by simp) rfl (by decide))]
        refine (cloneF_any _ L wy ((HR1.out wy hy).1) HN.out.1).mono ?_
        rintro e wz ⟨u, rfl, hu, hBz⟩
        exact ⟨_, rfl, _, rfl, by show HoldF _ _ (upd f 5 u 5) L; rw [upd_same]; exact hu.base hy.size, hBz⟩
      · refine wpOp_runG ho2 (wanted_none rfl) (q_fieldK (canon fr dsC f).eval _ wy _ w.heap.size 1 rfl N1 (by decide)) ?_
        exact ⟨_, rfl, upd_same f 6 _, Below.refl _ _⟩
      · refine wpOp_runG ho2 (wanted_none rfl) (q_loadF (canon fr dsC f).eval _ wy _ w.heap.size 1 rfl ((canon_eval fr dsC f 6 (by decide) (Nat.lt_of_le_of_lt (by decide) hsz)).trans (hd ⟨3, .data⟩ (by simp) rfl (by decide))) (HC.out wy hy).2.1) ?_
        exact ⟨_, rfl, upd_same f 7 _, Below.refl _ _⟩
      · have h9 : HoldF wy w1.heap.size (f 5) L := hd ⟨2, .chain⟩ (by simp) rfl (by decide)
        refine wpOp_enterG ho2 (wanted_none rfl) (q_call1I (canon fr dsC f).eval _ wy _ HEN1.out _ _ rfl rfl) ?_
        rw [(canon_eval fr dsC f 7 (by decide) (Nat.lt_of_le_of_lt (by decide) hsz)).trans (hd ⟨4, .data⟩ (by simp) rfl (by decide))]
        refine (cloneF_any _ S wy ((HR1.out wy hy).2.1) HN.out.2.1).mono ?_
        rintro e wz ⟨u, rfl, hu, hBz⟩
        refine ⟨_, rfl, _, rfl, ⟨by show HoldF _ _ (upd f 8 u 8) S; rw [upd_same]; exact hu.base hy.size, fun q hk => ?_⟩, hBz⟩
        have e9 : upd f 8 u 5 = f 5 := upd_ne f u (by decide)
        have hk' : (f 5).ownBlock = some q := by rw [← e9]; exact hk
        show (upd f 8 u 8).ownBlock ≠ some q
        rw [upd_same]
        intro e
        have h1 := (h9.2.lt q hk').2
        have h2 := (hu.2.lt q e).1
        omega
      · refine wpOp_runG ho2 (wanted_none rfl) (q_fieldK (canon fr dsC f).eval _ wy _ w.heap.size 2 rfl N1 (by decide)) ?_
        exact ⟨_, rfl, upd_same f 9 _, Below.refl _ _⟩
      · refine wpOp_runG ho2 (wanted_none rfl) (q_loadO (canon fr dsC f).eval _ wy _ w.heap.size 2 rfl ((canon_eval fr dsC f 9 (by decide) (Nat.lt_of_le_of_lt (by decide) hsz)).trans (hd ⟨6, .data⟩ (by simp) rfl (by decide))) (HC.out wy hy).2.2) ?_
        exact ⟨_, rfl, upd_same f 10 _, Below.refl _ _⟩
      · refine wpOp_enterG ho2 (wanted_none rfl) (q_call1I (canon fr dsC f).eval _ wy _ HEN2.out _ _ rfl rfl) ?_
        rw [(canon_eval fr dsC f 10 (by decide) (Nat.lt_of_le_of_lt (by decide) hsz)).trans (hd ⟨7, .data⟩ (by simp) rfl (by decide))]
        refine (cloneO_any _ O wy ((HR1.out wy hy).2.2) HN.out.2.2).mono ?_
        rintro e wz ⟨u, rfl, hu, hBz⟩
        exact ⟨_, rfl, _, rfl, by show HoldO _ _ (upd f 11 u 11) O; rw [upd_same]; exact hu.base hy.size, hBz⟩
      · have h9 : HoldF wy w1.heap.size (f 5) L := hd ⟨2, .data⟩ (by simp) rfl (by decide)
        have h12 : HoldF wy w1.heap.size (f 8) S ∧ _ := hd ⟨5, .data⟩ (by simp) rfl (by decide)
        have h15 : HoldO wy w1.heap.size (f 11) O := hd ⟨8, .data⟩ (by simp) rfl (by decide)
        obtain ⟨a9, c9, e9⟩ := h9.2.slice
        obtain ⟨a12, c12, e12⟩ := h12.1.2.slice
        obtain ⟨a15, c15, e15⟩ := h15.2.slice
        refine wpOp_runG ho2 (wanted_none rfl) (q_build3 (canon fr dsC f).eval _ wy _ _ _ rfl ((canon_eval fr dsC f 5 (by decide) (Nat.lt_of_le_of_lt (by decide) hsz)).trans e9) ((canon_eval fr dsC f 8 (by decide) (Nat.lt_of_le_of_lt (by decide) hsz)).trans e12) ((canon_eval fr dsC f 11 (by decide) (Nat.lt_of_le_of_lt (by decide) hsz)).trans e15)) ?_
        refine ⟨_, rfl, ?_, Below.refl _ _⟩
        show upd f 12 _ 12 = .agg #[upd f 12 _ 5, upd f 12 _ 8, upd f 12 _ 11]
        rw [upd_same, upd_ne f _ (by decide : (5 : Nat) ≠ 12), upd_ne f _ (by decide : (8 : Nat) ≠ 12), upd_ne f _ (by decide : (11 : Nat) ≠ 12), e9, e12, e15]
    · intro ops hops f wy hy ho hall
      have ho2 := ho
      have N1 := (canon_eval_ne fr dsC f 1 (by decide)).trans t1
      have N2 := (canon_eval_ne fr dsC f 2 (by decide)).trans t2
      have h9 : HoldF wy w1.heap.size (f 5) L := hall 2 (by omega)
      have h12 : HoldF wy w1.heap.size (f 8) S ∧ _ := hall 5 (by omega)
      have h15 : HoldO wy w1.heap.size (f 11) O := hall 8 (by omega)
      have h13 : f 12 = .agg #[f 5, f 8, f 11] := hall 9 (by omega)
      obtain ⟨a9, c9, e9⟩ := h9.2.slice
      obtain ⟨a12, c12, e12⟩ := h12.1.2.slice
      obtain ⟨a15, c15, e15⟩ := h15.2.slice
      have hrb : wy.heap[w.heap.size + 1]? = some (.cells #[.slice none 0 0, .slice none 0 0, .slice none 0 0] 27 (0, 0)) := (hy.block _ (lt_of_block HRB.out)).trans HRB.out
      refine wpOp_storeD ho2 (wanted_none rfl) _ _ (w.heap.size + 1) rfl N2 ((canon_eval fr dsC f 12 (by decide) (Nat.lt_of_le_of_lt (by decide) hsz)).trans (h13.trans (by rw [e9, e12, e15]))) rfl hrb ?_
      intro wz hz1 hz2 hz3 hz4 hz5 hz6
      have hlt : w.heap.size + 1 < w1.heap.size := lt_of_block HRB.out
      have hkz : ∀ k, w1.heap.size ≤ k → k < wy.heap.size → wz.heap[k]? = wy.heap[k]? := fun k h1 h2 => hz2 k (by omega)
      refine hK _ _ (Met.intro (hJ _ _ ⟨f, congrArg (fun z => canon z dsC f) HFR.out, f 5, f 8, f 11, ?_, h9.kept (by omega) hkz, h12.1.kept (by omega) hkz, h15.kept (by omega) hkz, h12.2, ?_⟩))
      · rw [e9, e12, e15]; exact hz1
      · have hbw := HW1.out.trans (hy.mono HW1.out.size)
        exact ⟨hz4.trans hbw.os, hz5.trans hbw.tape, hz6.trans hbw.output, by rw [hz3]; exact hbw.size, fun k hk => (hz2 k (by omega)).trans (hbw.block k hk)⟩

def dsD2 : List Nat := [3, 4, 5, 6, 7, 8, 9, 10, 11, 12, 13, 14, 15]
def slotD2 (j : Nat) : Nat := dsD2.getD j 0
theorem slotD2_inj (i j : Nat) (hi : i < 13) (hj : j < 13) (q : slotD2 i = slotD2 j) : i = j := by
  have h : ∀ i : Fin 13, ∀ j : Fin 13, slotD2 i.val = slotD2 j.val → i.val = j.val := by decide
  exact h ⟨i, hi⟩ ⟨j, hj⟩ q
theorem slotD2_mem (i : Nat) (hi : i < 13) : slotD2 i ∈ dsD2 := by
  have h : ∀ i : Fin 13, slotD2 i.val ∈ dsD2 := by decide
  exact h ⟨i, hi⟩
def DF2 (B base : Nat) (vL vS vO : Value) (L S : List Fl) (O : List Dop) : Nat → (Nat → Value) → World → Prop
  | 0, f, w => ∃ g, f 3 = .slice (some ⟨g, 0, none⟩) 0 0 ∧ base ≤ g ∧ w.heap[g]? = some (.cells #[] 68 (0, 0))
  | 1, f, w => f 4 = .pointer (some ⟨B, 0, none⟩)
  | 2, f, w => f 5 = vL
  | 3, f, w => HoldF w base (f 6) L
  | 4, f, w => ∃ g, f 7 = .slice (some ⟨g, 0, none⟩) 0 0 ∧ base ≤ g ∧ w.heap[g]? = some (.cells #[] 68 (0, 0))
  | 5, f, w => f 8 = .pointer (some ⟨B, 1, none⟩)
  | 6, f, w => f 9 = vS
  | 7, f, w => HoldF w base (f 10) S
  | 8, f, w => ∃ g, f 11 = .slice (some ⟨g, 0, none⟩) 0 0 ∧ base ≤ g ∧ w.heap[g]? = some (.cells #[] 49 (0, 0))
  | 9, f, w => f 12 = .pointer (some ⟨B, 2, none⟩)
  | 10, f, w => f 13 = vO
  | 11, f, w => HoldO w base (f 14) O
  | 12, f, w => f 15 = .agg #[f 6, f 10, f 14]
  | _, _, _ => True
theorem DF2.below {B base : Nat} {vL vS vO : Value} {L S : List Fl} {O : List Dop} {j : Nat} {f : Nat → Value} {w w' : World} (h : DF2 B base vL vS vO L S O j f w) (hB : Below w.heap.size w w') : DF2 B base vL vS vO L S O j f w' := by
  match j, h with
  | 0, h => exact (by obtain ⟨g, e, hb, hh⟩ := h; exact ⟨g, e, hb, (hB.block _ (lt_of_block hh)).trans hh⟩)
  | 1, h => exact h
  | 2, h => exact h
  | 3, h => exact HoldF.below (h) hB
  | 4, h => exact (by obtain ⟨g, e, hb, hh⟩ := h; exact ⟨g, e, hb, (hB.block _ (lt_of_block hh)).trans hh⟩)
  | 5, h => exact h
  | 6, h => exact h
  | 7, h => exact HoldF.below (h) hB
  | 8, h => exact (by obtain ⟨g, e, hb, hh⟩ := h; exact ⟨g, e, hb, (hB.block _ (lt_of_block hh)).trans hh⟩)
  | 9, h => exact h
  | 10, h => exact h
  | 11, h => exact HoldO.below (h) hB
  | 12, h => exact h
  | (m + 13), _ => exact trivial
def depD2 (j i : Nat) : Bool := match j with
  | 0 => i == 0
  | 1 => i == 1
  | 2 => i == 2
  | 3 => i == 3
  | 4 => i == 4
  | 5 => i == 5
  | 6 => i == 6
  | 7 => i == 7
  | 8 => i == 8
  | 9 => i == 9
  | 10 => i == 10
  | 11 => i == 11
  | 12 => i == 12 || i == 3 || i == 7 || i == 11
  | _ => false
theorem DF2.dep {B base : Nat} {vL vS vO : Value} {L S : List Fl} {O : List Dop} {j : Nat} {f f' : Nat → Value} {w : World} (hj : j < 13) (h : DF2 B base vL vS vO L S O j f w) (he : ∀ i, depD2 j i = true → f (slotD2 i) = f' (slotD2 i)) : DF2 B base vL vS vO L S O j f' w := by
  match j, hj, h, he with
  | 0, _, h, he =>
    have e0 : f 3 = f' 3 := he 0 rfl
    simp only [DF2] at h ⊢
    rw [← e0]
    exact h
  | 1, _, h, he =>
    have e1 : f 4 = f' 4 := he 1 rfl
    simp only [DF2] at h ⊢
    rw [← e1]
    exact h
  | 2, _, h, he =>
    have e2 : f 5 = f' 5 := he 2 rfl
    simp only [DF2] at h ⊢
    rw [← e2]
    exact h
  | 3, _, h, he =>
    have e3 : f 6 = f' 6 := he 3 rfl
    simp only [DF2] at h ⊢
    rw [← e3]
    exact h
  | 4, _, h, he =>
    have e4 : f 7 = f' 7 := he 4 rfl
    simp only [DF2] at h ⊢
    rw [← e4]
    exact h
  | 5, _, h, he =>
    have e5 : f 8 = f' 8 := he 5 rfl
    simp only [DF2] at h ⊢
    rw [← e5]
    exact h
  | 6, _, h, he =>
    have e6 : f 9 = f' 9 := he 6 rfl
    simp only [DF2] at h ⊢
    rw [← e6]
    exact h
  | 7, _, h, he =>
    have e7 : f 10 = f' 10 := he 7 rfl
    simp only [DF2] at h ⊢
    rw [← e7]
    exact h
  | 8, _, h, he =>
    have e8 : f 11 = f' 11 := he 8 rfl
    simp only [DF2] at h ⊢
    rw [← e8]
    exact h
  | 9, _, h, he =>
    have e9 : f 12 = f' 12 := he 9 rfl
    simp only [DF2] at h ⊢
    rw [← e9]
    exact h
  | 10, _, h, he =>
    have e10 : f 13 = f' 13 := he 10 rfl
    simp only [DF2] at h ⊢
    rw [← e10]
    exact h
  | 11, _, h, he =>
    have e11 : f 14 = f' 14 := he 11 rfl
    simp only [DF2] at h ⊢
    rw [← e11]
    exact h
  | 12, _, h, he =>
    have e12 : f 15 = f' 15 := he 12 rfl
    have e3 : f 6 = f' 6 := he 3 rfl
    have e7 : f 10 = f' 10 := he 7 rfl
    have e11 : f 14 = f' 14 := he 11 rfl
    simp only [DF2] at h ⊢
    rw [← e12, ← e3, ← e7, ← e11]
    exact h
  | (m + 13), hj, _, _ => exact absurd hj (by omega)
set_option maxRecDepth 10000 in
set_option maxHeartbeats 4000000 in
theorem specCopy_any (vL vS vO : Value) (L S : List Fl) (O : List Dop) (w : World) (h : RdD w vL vS vO L S O) (hn : L.length ≤ 1048576 ∧ S.length ≤ 1048576 ∧ O.length ≤ 1048576) :
    Calls Try.prog 38 #[.agg #[vL, vS, vO]] w fun e w' => ∃ x y z, e = .returned (.agg #[x, y, z]) ∧ RdD w' x y z L S O ∧ (HoldF w' w.heap.size x L ∧ HoldF w' w.heap.size y S ∧ HoldO w' w.heap.size z O) ∧ Below w.heap.size w w' := by
  have HN : Hid (L.length ≤ 1048576 ∧ S.length ≤ 1048576 ∧ O.length ≤ 1048576) := hn
  have HA : Hid (∀ w', Below w.heap.size w w' → RdF w' vL L ∧ RdF w' vS S ∧ RdO w' vO O) := fun w' hB => ⟨h.1.below hB, h.2.1.below hB, h.2.2.below hB⟩
  obtain ⟨aL, cL, rfl⟩ := h.1.slice
  obtain ⟨aS, cS, rfl⟩ := h.2.1.slice
  obtain ⟨aO, cO, rfl⟩ := h.2.2.slice
  obtain ⟨w1, hX⟩ : ∃ w1, w1 = (w.alloc (.cells #[.slice aL L.length cL, .slice aS S.length cS, .slice aO O.length cO] 27)).alloc (.cells #[.slice none 0 0, .slice none 0 0, .slice none 0 0] 27) := ⟨_, rfl⟩
  have HW1 : Hid (Below w.heap.size w w1) := by rw [hX]; exact ((Below.refl _ _).alloc (Nat.le_refl _) _).alloc (by simp) _
  have gX : w1.heap[w.heap.size]? = some (.cells #[.slice aL L.length cL, .slice aS S.length cS, .slice aO O.length cO] 27 (0, 0)) := by rw [hX, Below.heap_alloc _ _ _ (by simp)]; exact heap_alloc_new _ _
  have HRB : Hid (w1.heap[w.heap.size + 1]? = some (.cells #[.slice none 0 0, .slice none 0 0, .slice none 0 0] 27 (0, 0))) := by
    show _ = _
    rw [hX]
    have := heap_alloc_new (w.alloc (.cells #[.slice aL L.length cL, .slice aS S.length cS, .slice aO O.length cO] 27)) (.cells #[.slice none 0 0, .slice none 0 0, .slice none 0 0] 27)
    simpa using this
  have HX := (show Hid _ from hX)
  have HC : Hid (∀ wy, Below w1.heap.size w1 wy → wy.cell? ⟨w.heap.size, 0, none⟩ = some (.slice aL L.length cL) ∧ wy.cell? ⟨w.heap.size, 1, none⟩ = some (.slice aS S.length cS) ∧ wy.cell? ⟨w.heap.size, 2, none⟩ = some (.slice aO O.length cO)) := fun wy hy => by
    have g := (hy.block _ (lt_of_block gX)).trans gX
    exact ⟨cellN g, cellN g, cellN g⟩
  have HR1 : Hid (∀ wy, Below w1.heap.size w1 wy → RdF wy (.slice aL L.length cL) L ∧ RdF wy (.slice aS S.length cS) S ∧ RdO wy (.slice aO O.length cO) O) := fun wy hy => HA.out wy (HW1.out.trans (hy.mono HW1.out.size))
  clear hX gX h hn
  go_enter Try.func38, Try.ntmps38
  go_wp2
  rw [← HX.out]
  refine wp_cut_to (fun a0 t w' => ∃ f, t = canon a0 dsD2 f ∧ (∃ x y z, w'.heap[w.heap.size + 1]? = some (.cells #[x, y, z] 27 (0, 0)) ∧ HoldF w' w1.heap.size x L ∧ HoldF w' w1.heap.size y S ∧ HoldO w' w1.heap.size z O ∧ Below w.heap.size w w')) ?_ ?_
  · rintro _ w7 ⟨f, rfl, h7⟩
    simp only [canon, dsD2, List.foldl, Act.put, List.setIfInBounds_toArray, List.set_cons_succ, List.set_cons_zero]
    have H7 := (show Hid _ from h7)
    clear h7
    obtain ⟨x, y, z, hb7, hx7, hy7, hz7, hbw⟩ := H7.out
    have HE : Hid (HoldF w7 w1.heap.size x L ∧ HoldF w7 w1.heap.size y S ∧ HoldO w7 w1.heap.size z O ∧ Below w.heap.size w w7) := ⟨hx7, hy7, hz7, hbw⟩
    clear hx7 hy7 hz7 hbw H7
    go_wp2
    have hle := HW1.out.size
    refine bodyPost_ret (results_cell_row rfl _ _ (w.heap.size + 1) 27 _ _ _ rfl hb7 Try.underlying27 rfl infoDk) rfl ⟨x, y, z, rfl, ⟨HE.out.1.1, HE.out.2.1.1, HE.out.2.2.1.1⟩, ⟨HE.out.1.base hle, HE.out.2.1.base hle, HE.out.2.2.1.base hle⟩, HE.out.2.2.2⟩
  · intro J K' hJ hK
    refine wp_letter ?_
    intro fr hfr
    have hsz : 15 < fr.tmps.size := by rw [hfr]; exact Nat.le_of_ble_eq_true rfl
    have t1 : fr.eval (.tmp 1) = .pointer (some ⟨w.heap.size, 0, none⟩) := by rw [hfr]; rfl
    have t2 : fr.eval (.tmp 2) = .pointer (some ⟨w.heap.size + 1, 0, none⟩) := by rw [hfr]; rfl
    have HFR := (show Hid _ from hfr)
    clear hfr
    refine wp_region_fin (Rel := fun v v' => Below v.heap.size v v') (fun v => Below.refl _ _) (fun h k => h.trans (k.mono h.size)) (fun v => (Below.refl _ _).drew) 13 rfl (by kernel_rfl) (by kernel_rfl) dsD2 slotD2 (DF2 w.heap.size w1.heap.size (.slice aL L.length cL) (.slice aS S.length cS) (.slice aO O.length cO) L S O) _ rfl (by kernel_rfl) (fun _ _ _ _ h hB => h.below hB) ?_ ?_ ?_ ?_ ?_
    · intro j f f' wy hj he h
      exact h.dep hj (fun i hi => he i (by revert hi; match j, hj with | 0, _ => (intro hi; simp only [depD2, beq_iff_eq] at hi; rcases hi with rfl <;> kernel_rfl) | 1, _ => (intro hi; simp only [depD2, beq_iff_eq] at hi; rcases hi with rfl <;> kernel_rfl) | 2, _ => (intro hi; simp only [depD2, beq_iff_eq] at hi; rcases hi with rfl <;> kernel_rfl) | 3, _ => (intro hi; simp only [depD2, beq_iff_eq] at hi; rcases hi with rfl <;> kernel_rfl) | 4, _ => (intro hi; simp only [depD2, beq_iff_eq] at hi; rcases hi with rfl <;> kernel_rfl) | 5, _ => (intro hi; simp only [depD2, beq_iff_eq] at hi; rcases hi with rfl <;> kernel_rfl) | 6, _ => (intro hi; simp only [depD2, beq_iff_eq] at hi; rcases hi with rfl <;> kernel_rfl) | 7, _ => (intro hi; simp only [depD2, beq_iff_eq] at hi; rcases hi with rfl <;> kernel_rfl) | 8, _ => (intro hi; simp only [depD2, beq_iff_eq] at hi; rcases hi with rfl <;> kernel_rfl) | 9, _ => (intro hi; simp only [depD2, beq_iff_eq] at hi; rcases hi with rfl <;> kernel_rfl) | 10, _ => (intro hi; simp only [depD2, beq_iff_eq] at hi; rcases hi with rfl <;> kernel_rfl) | 11, _ => (intro hi; simp only [depD2, beq_iff_eq] at hi; rcases hi with rfl <;> kernel_rfl) | 12, _ => (intro hi; simp only [depD2, Bool.or_eq_true, beq_iff_eq] at hi; rcases hi with ((rfl | rfl) | rfl) | rfl <;> kernel_rfl)))
    · intro i hi
      exact slotD2_mem i hi
    · intro i j hi hj q
      exact slotD2_inj i j hi hj q
    · intro ops hops f wy j oo hj hy ho hd
      have ho2 := ho
      rw [hops] at ho
      have N1 := (canon_eval_ne fr dsD2 f 1 (by decide)).trans t1
      have N2 := (canon_eval_ne fr dsD2 f 2 (by decide)).trans t2
      have hj' : j = 0 ∨ j = 1 ∨ j = 2 ∨ j = 3 ∨ j = 4 ∨ j = 5 ∨ j = 6 ∨ j = 7 ∨ j = 8 ∨ j = 9 ∨ j = 10 ∨ j = 11 ∨ j = 12 := by omega
      rcases hj' with rfl | rfl | rfl | rfl | rfl | rfl | rfl | rfl | rfl | rfl | rfl | rfl | rfl <;> simp only [List.getElem?_toArray, List.getElem?_cons_succ, List.getElem?_cons_zero, Option.some.injEq] at ho <;> subst ho
      · refine wpOp_runG ho2 (wanted_none rfl) (q_madeF (canon fr dsD2 f).eval _ wy rfl) ?_
        refine ⟨_, rfl, ⟨wy.heap.size, upd_same f 3 _, hy.size, heap_alloc_new _ _⟩, (Below.refl _ _).alloc (Nat.le_refl _) _⟩
      · refine wpOp_runG ho2 (wanted_none rfl) (q_fieldK (canon fr dsD2 f).eval _ wy _ w.heap.size 0 rfl N1 (by decide)) ?_
        exact ⟨_, rfl, upd_same f 4 _, Below.refl _ _⟩
      · refine wpOp_runG ho2 (wanted_none rfl) (q_loadF (canon fr dsD2 f).eval _ wy _ w.heap.size 0 rfl ((canon_eval fr dsD2 f 4 (by decide) (Nat.lt_of_le_of_lt (by decide) hsz)).trans (hd ⟨1, .data⟩ (by simp) rfl (by decide))) (HC.out wy hy).1) ?_
        exact ⟨_, rfl, upd_same f 5 _, Below.refl _ _⟩
      · obtain ⟨g, eg, hbg, hgh⟩ := hd ⟨0, .data⟩ (by simp) rfl (by decide)
        have hv : f 5 = .slice aL L.length cL := hd ⟨2, .data⟩ (by simp) rfl (by decide)
        refine wpOp_app0F ho2 (wanted_none rfl) _ _ w1.heap.size g L rfl ((canon_eval fr dsD2 f 3 (by decide) (Nat.lt_of_le_of_lt (by decide) hsz)).trans eg) hgh hbg (by rw [(canon_eval fr dsD2 f 5 (by decide) (Nat.lt_of_le_of_lt (by decide) hsz)).trans hv]; exact (HR1.out wy hy).1) HN.out.1 ?_
        intro u wz hu hBz
        exact ⟨_, rfl, by show HoldF _ _ (upd f 6 u 6) L; rw [upd_same]; exact hu, hBz⟩
      · refine wpOp_runG ho2 (wanted_none rfl) (q_madeF (canon fr dsD2 f).eval _ wy rfl) ?_
        refine ⟨_, rfl, ⟨wy.heap.size, upd_same f 7 _, hy.size, heap_alloc_new _ _⟩, (Below.refl _ _).alloc (Nat.le_refl _) _⟩
      · refine wpOp_runG ho2 (wanted_none rfl) (q_fieldK (canon fr dsD2 f).eval _ wy _ w.heap.size 1 rfl N1 (by decide)) ?_
        exact ⟨_, rfl, upd_same f 8 _, Below.refl _ _⟩
      · refine wpOp_runG ho2 (wanted_none rfl) (q_loadF (canon fr dsD2 f).eval _ wy _ w.heap.size 1 rfl ((canon_eval fr dsD2 f 8 (by decide) (Nat.lt_of_le_of_lt (by decide) hsz)).trans (hd ⟨5, .data⟩ (by simp) rfl (by decide))) (HC.out wy hy).2.1) ?_
        exact ⟨_, rfl, upd_same f 9 _, Below.refl _ _⟩
      · obtain ⟨g, eg, hbg, hgh⟩ := hd ⟨4, .data⟩ (by simp) rfl (by decide)
        have hv : f 9 = .slice aS S.length cS := hd ⟨6, .data⟩ (by simp) rfl (by decide)
        refine wpOp_app0F ho2 (wanted_none rfl) _ _ w1.heap.size g S rfl ((canon_eval fr dsD2 f 7 (by decide) (Nat.lt_of_le_of_lt (by decide) hsz)).trans eg) hgh hbg (by rw [(canon_eval fr dsD2 f 9 (by decide) (Nat.lt_of_le_of_lt (by decide) hsz)).trans hv]; exact (HR1.out wy hy).2.1) HN.out.2.1 ?_
        intro u wz hu hBz
        exact ⟨_, rfl, by show HoldF _ _ (upd f 10 u 10) S; rw [upd_same]; exact hu, hBz⟩
      · refine wpOp_runG ho2 (wanted_none rfl) (q_madeO (canon fr dsD2 f).eval _ wy rfl) ?_
        refine ⟨_, rfl, ⟨wy.heap.size, upd_same f 11 _, hy.size, heap_alloc_new _ _⟩, (Below.refl _ _).alloc (Nat.le_refl _) _⟩
      · refine wpOp_runG ho2 (wanted_none rfl) (q_fieldK (canon fr dsD2 f).eval _ wy _ w.heap.size 2 rfl N1 (by decide)) ?_
        exact ⟨_, rfl, upd_same f 12 _, Below.refl _ _⟩
      · refine wpOp_runG ho2 (wanted_none rfl) (q_loadO (canon fr dsD2 f).eval _ wy _ w.heap.size 2 rfl ((canon_eval fr dsD2 f 12 (by decide) (Nat.lt_of_le_of_lt (by decide) hsz)).trans (hd ⟨9, .data⟩ (by simp) rfl (by decide))) (HC.out wy hy).2.2) ?_
        exact ⟨_, rfl, upd_same f 13 _, Below.refl _ _⟩
      · obtain ⟨g, eg, hbg, hgh⟩ := hd ⟨8, .data⟩ (by simp) rfl (by decide)
        have hv : f 13 = .slice aO O.length cO := hd ⟨10, .data⟩ (by simp) rfl (by decide)
        refine wpOp_app0O ho2 (wanted_none rfl) _ _ w1.heap.size g O rfl ((canon_eval fr dsD2 f 11 (by decide) (Nat.lt_of_le_of_lt (by decide) hsz)).trans eg) hgh hbg (by rw [(canon_eval fr dsD2 f 13 (by decide) (Nat.lt_of_le_of_lt (by decide) hsz)).trans hv]; exact (HR1.out wy hy).2.2) HN.out.2.2 ?_
        intro u wz hu hBz
        exact ⟨_, rfl, by show HoldO _ _ (upd f 14 u 14) O; rw [upd_same]; exact hu, hBz⟩
      · have h9 : HoldF wy w1.heap.size (f 6) L := hd ⟨3, .data⟩ (by simp) rfl (by decide)
        have h12 : HoldF wy w1.heap.size (f 10) S := hd ⟨7, .data⟩ (by simp) rfl (by decide)
        have h15 : HoldO wy w1.heap.size (f 14) O := hd ⟨11, .data⟩ (by simp) rfl (by decide)
        obtain ⟨a9, c9, e9⟩ := h9.2.slice
        obtain ⟨a12, c12, e12⟩ := h12.2.slice
        obtain ⟨a15, c15, e15⟩ := h15.2.slice
        refine wpOp_runG ho2 (wanted_none rfl) (q_build3 (canon fr dsD2 f).eval _ wy _ _ _ rfl ((canon_eval fr dsD2 f 6 (by decide) (Nat.lt_of_le_of_lt (by decide) hsz)).trans e9) ((canon_eval fr dsD2 f 10 (by decide) (Nat.lt_of_le_of_lt (by decide) hsz)).trans e12) ((canon_eval fr dsD2 f 14 (by decide) (Nat.lt_of_le_of_lt (by decide) hsz)).trans e15)) ?_
        refine ⟨_, rfl, ?_, Below.refl _ _⟩
        show upd f 15 _ 15 = .agg #[upd f 15 _ 6, upd f 15 _ 10, upd f 15 _ 14]
        rw [upd_same, upd_ne f _ (by decide : (6 : Nat) ≠ 15), upd_ne f _ (by decide : (10 : Nat) ≠ 15), upd_ne f _ (by decide : (14 : Nat) ≠ 15), e9, e12, e15]
    · intro ops hops f wy hy ho hall
      have ho2 := ho
      have N1 := (canon_eval_ne fr dsD2 f 1 (by decide)).trans t1
      have N2 := (canon_eval_ne fr dsD2 f 2 (by decide)).trans t2
      have h9 : HoldF wy w1.heap.size (f 6) L := hall 3 (by omega)
      have h12 : HoldF wy w1.heap.size (f 10) S := hall 7 (by omega)
      have h15 : HoldO wy w1.heap.size (f 14) O := hall 11 (by omega)
      have h13 : f 15 = .agg #[f 6, f 10, f 14] := hall 12 (by omega)
      obtain ⟨a9, c9, e9⟩ := h9.2.slice
      obtain ⟨a12, c12, e12⟩ := h12.2.slice
      obtain ⟨a15, c15, e15⟩ := h15.2.slice
      have hrb : wy.heap[w.heap.size + 1]? = some (.cells #[.slice none 0 0, .slice none 0 0, .slice none 0 0] 27 (0, 0)) := (hy.block _ (lt_of_block HRB.out)).trans HRB.out
      refine wpOp_storeD ho2 (wanted_none rfl) _ _ (w.heap.size + 1) rfl N2 ((canon_eval fr dsD2 f 15 (by decide) (Nat.lt_of_le_of_lt (by decide) hsz)).trans (h13.trans (by rw [e9, e12, e15]))) rfl hrb ?_
      intro wz hz1 hz2 hz3 hz4 hz5 hz6
      have hlt : w.heap.size + 1 < w1.heap.size := lt_of_block HRB.out
      have hkz : ∀ k, w1.heap.size ≤ k → k < wy.heap.size → wz.heap[k]? = wy.heap[k]? := fun k h1 h2 => hz2 k (by omega)
      refine hK _ _ (Met.intro (hJ _ _ ⟨f, congrArg (fun z => canon z dsD2 f) HFR.out, f 6, f 10, f 14, ?_, h9.kept (by omega) hkz, h12.kept (by omega) hkz, h15.kept (by omega) hkz, ?_⟩))
      · rw [e9, e12, e15]; exact hz1
      · have hbw := HW1.out.trans (hy.mono HW1.out.size)
        exact ⟨hz4.trans hbw.os, hz5.trans hbw.tape, hz6.trans hbw.output, by rw [hz3]; exact hbw.size, fun k hk => (hz2 k (by omega)).trans (hbw.block k hk)⟩

end Go.Proofs.Ytbohaefmokbgbaa
