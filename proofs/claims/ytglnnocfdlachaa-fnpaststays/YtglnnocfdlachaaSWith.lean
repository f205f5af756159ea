/-
  A chain with one event more, as the specification answers it. No condition but that the slices read.
-/
import Derived.Test.YtglnnocfdlachaaSWq
import Derived.Test.YtglnnocfdlachaaRsE
namespace Go.Proofs.Ytglnnocfdlachaa
open Go.RowKit
set_option linter.unusedVariables false

theorem chainL_bad {x : Ev} (h : x.fine = false) : chainL [x] = false := by
  unfold chainL chainB
  simp [allB, okAt, h]

/-- of the values of the first region: the literal holds x, each other is the one told -/
def WF (x : Ev) (lit : Bool) (vl : List Value) (j : Nat) (v : Value) (w : World) : Prop := if j = 5 ∧ lit = true then ∃ p, v = .slice (some ⟨p, 0, none⟩) 1 1 ∧ Lies w p 0 [x] ∧ p < w.heap.size else v = vl.getD j undef
theorem WF.below {x : Ev} {lit : Bool} {vl : List Value} {j : Nat} {v : Value} {w w' : World} (h : WF x lit vl j v w) (hB : Below w.heap.size w w') : WF x lit vl j v w' := by
  unfold WF at h ⊢
  split at h
  · rename_i q
    rw [if_pos q]
    obtain ⟨p, e, hr, hp⟩ := h
    exact ⟨p, e, hr.grow hp hB, Nat.lt_of_lt_of_le hp hB.size⟩
  · rename_i q
    rw [if_neg q]
    exact h
theorem WF.eq {x : Ev} {lit : Bool} {vl : List Value} {j : Nat} {v : Value} {w : World} (h : WF x lit vl j v w) (h1 : j ≠ 5) : v = vl.getD j undef := by
  unfold WF at h
  rw [if_neg (fun q => h1 q.1)] at h
  exact h
theorem WF.mk {x : Ev} {lit : Bool} {vl : List Value} {j : Nat} {v : Value} {w : World} (h1 : j ≠ 5) (h : v = vl.getD j undef) : WF x lit vl j v w := by
  unfold WF
  rw [if_neg (fun q => h1 q.1)]
  exact h
theorem WF.mkF {x : Ev} {vl : List Value} {j : Nat} {v : Value} {w : World} (h : v = vl.getD j undef) : WF x false vl j v w := by
  unfold WF
  rw [if_neg (fun q => by cases q.2)]
  exact h
theorem WF.lit {x : Ev} {vl : List Value} {v : Value} {w : World} (h : WF x true vl 5 v w) : ∃ p, v = .slice (some ⟨p, 0, none⟩) 1 1 ∧ Lies w p 0 [x] ∧ p < w.heap.size := by
  unfold WF at h
  rw [if_pos ⟨rfl, rfl⟩] at h
  exact h
theorem WF.mkLit {x : Ev} {vl : List Value} (w : World) : WF x true vl 5 (.slice (some ⟨w.heap.size, 0, none⟩) 1 1) (w.alloc (.cells #[.int .i64 x.a, .int .i64 x.b, .int .i64 x.c, .int .i64 x.d] 30)) := by
  unfold WF
  rw [if_pos ⟨rfl, rfl⟩]
  have ho := own_one_ev (w := w) x
  exact ⟨_, rfl, ho.lies.1, ho.lies.2.1⟩
def slotW (j : Nat) : Nat := 9 + j
def dsW : List Nat := [9, 10, 11, 12, 13, 14, 15, 16, 17, 18, 19, 20, 21, 22, 23, 24, 25, 26, 27, 28, 29, 30, 31, 32, 33, 34]

set_option maxRecDepth 10000 in
set_option maxHeartbeats 4000000 in
theorem specWith_any (b1 o1 c1 : Nat) (A : List Ev) (x : Ev) (w : World) (h1 : Lies w b1 o1 A) (hb1 : b1 < w.heap.size) (hl1 : A.length ≤ c1) (hc1 : c1 ≤ 9223372036854775807) :
    Calls Try.prog 6 #[.slice (some ⟨b1, o1, none⟩) A.length c1, .agg #[.int .i64 x.a, .int .i64 x.b, .int .i64 x.c, .int .i64 x.d]] w fun r w' => ∃ v, r = .returned (.tuple #[v, .bool (withB A x)]) ∧ GaveV w' w.heap.size (withB A x) (putE A x) v ∧ Below w.heap.size w w' := by
  obtain ⟨X, hX⟩ : ∃ X, X = w.alloc (.cells #[.int .i64 x.a, .int .i64 x.b, .int .i64 x.c, .int .i64 x.d] 30) := ⟨_, rfl⟩
  have hBX : Below w.heap.size w X := by rw [hX]; exact (Below.refl _ _).alloc (Nat.le_refl _) _
  have gX : X.heap[w.heap.size]? = some (.cells #[.int .i64 x.a, .int .i64 x.b, .int .i64 x.c, .int .i64 x.d] 30 (0, 0)) := by rw [hX]; exact heap_alloc_new _ _
  have HL : Hid (∀ w', Below w.heap.size w w' → Lies w' b1 o1 A ∧ b1 < w'.heap.size) := fun w' hB => ⟨h1.grow hb1 hB, Nat.lt_of_lt_of_le hb1 hB.size⟩
  have HG : Hid (∀ w', Below X.heap.size X w' → w'.heap[w.heap.size]? = some (.cells #[.int .i64 x.a, .int .i64 x.b, .int .i64 x.c, .int .i64 x.d] 30 (0, 0)) ∧ Below w.heap.size w w') := fun w' hB => ⟨(hB.block _ (lt_of_block gX)).trans gX, hBX.trans (hB.mono hBX.size)⟩
  have HC : Hid (∀ w', Below w.heap.size w w' → ∀ y, chainL A = y → Calls Try.prog 20 #[.slice (some ⟨b1, o1, none⟩) A.length c1] w' fun e w'' => e = .returned (.bool y) ∧ Below w'.heap.size w' w'') := fun w' hB y hy => specChainL _ _ _ A w' (HL.out w' hB).1 (HL.out w' hB).2 hl1 hc1 y hy
  have HXE := (show Hid _ from hX)
  have HBX := (show Hid _ from hBX)
  clear h1 hb1 hX hBX gX
  have enC : ∀ args w, (callFunc 20 args).run Try.prog w = .ok (.enter 20 args) w := enters_of Try.func20 (by kernel_rfl) rfl
  have HEN := (show Hid _ from enC)
  clear enC
  cases hA : chainL A with
  | false =>
    have hr : Hid (withB A x = false) := by show _ = _; unfold withB; rw [hA]; rfl
    go_enter Try.func6, Try.ntmps6
    go_wp2
    rw [← HXE.out]
    have enC := HEN.out
    refine wp_cut_at (fun a0 t w' => ∃ f, t = canon a0 dsW f ∧ f 34 = .bool true ∧ Below X.heap.size X w') ?_ ?_
    · rintro _ wy ⟨f, rfl, h34, hy⟩
      simp only [canon, dsW, List.foldl, Act.put, List.setIfInBounds_toArray, List.set_cons_succ, List.set_cons_zero]
      rw [h34]
      have HY := (show Hid _ from (HG.out wy hy).2)
      clear hy
      go_wp2
      go_ret2
      rw [hr.out]
      exact ⟨_, rfl, .inl ⟨rfl, rfl⟩, HY.out⟩
    intro J K' hJ hK
    refine wp_letter ?_
    intro fr hfr
    have hs : 34 < fr.tmps.size := by rw [hfr]; exact Nat.le_of_ble_eq_true rfl
    have t0 : fr.eval (.tmp 0) = .slice (some ⟨b1, o1, none⟩) A.length c1 := by rw [hfr]; rfl
    have t3 : fr.eval (.tmp 3) = .pointer (some ⟨w.heap.size, 0, none⟩) := by rw [hfr]; rfl
    have HFR := (show Hid _ from hfr)
    clear hfr
    refine wp_region_skips (by kernel_rfl) (by kernel_rfl) dsW slotW (WF x false [.slice (some ⟨b1, o1, none⟩) A.length c1, .bool false, .bool true, .bool true, undef, undef, undef, undef, .bool true, .bool true, undef, undef, undef, undef, undef, undef, undef, undef, undef, undef, undef, undef, undef, undef, undef, .bool true]) (fun _ _ _ _ h hB => h.below hB) ?_ ?_ ?_ ?_
    · intro i hi
      have hi' : i < 26 := hi
      simp [slotW, dsW]; omega
    · intro i j hi hj q
      unfold slotW at q
      omega
    · intro ops hops f wy i o hy ho hd
      have ho2 := ho
      rw [hops] at ho
      have N0 := (canon_eval_ne fr dsW f 0 (by decide)).trans t0
      have N3 := (canon_eval_ne fr dsW f 3 (by decide)).trans t3
      have hi : i < 26 := by
        rcases Nat.lt_or_ge i 26 with h | h
        · exact h
        · rw [Array.getElem?_eq_none (by simpa using h)] at ho; cases ho
      have hi' : i = 0 ∨ i = 1 ∨ i = 2 ∨ i = 3 ∨ i = 4 ∨ i = 5 ∨ i = 6 ∨ i = 7 ∨ i = 8 ∨ i = 9 ∨ i = 10 ∨ i = 11 ∨ i = 12 ∨ i = 13 ∨ i = 14 ∨ i = 15 ∨ i = 16 ∨ i = 17 ∨ i = 18 ∨ i = 19 ∨ i = 20 ∨ i = 21 ∨ i = 22 ∨ i = 23 ∨ i = 24 ∨ i = 25 := by omega
      have W3 := wanted_is (a0 := fr) (ds := dsW) (f := f) ho2 3 12 false (by rw [hops]; simp) (by decide) (Nat.lt_of_le_of_lt (by decide) hs)
      have W9 := wanted_is (a0 := fr) (ds := dsW) (f := f) ho2 9 18 false (by rw [hops]; simp) (by decide) (Nat.lt_of_le_of_lt (by decide) hs)
      have W13 := wanted_is (a0 := fr) (ds := dsW) (f := f) ho2 13 22 true (by rw [hops]; simp) (by decide) (Nat.lt_of_le_of_lt (by decide) hs)
      have W13u := wanted_undef (a0 := fr) (ds := dsW) (f := f) ho2 13 22 true (by rw [hops]; simp) (by decide) (Nat.lt_of_le_of_lt (by decide) hs)
      clear hops
      rcases hi' with rfl | rfl | rfl | rfl | rfl | rfl | rfl | rfl | rfl | rfl | rfl | rfl | rfl | rfl | rfl | rfl | rfl | rfl | rfl | rfl | rfl | rfl | rfl | rfl | rfl | rfl <;> simp only [List.getElem?_toArray, List.getElem?_cons_succ, List.getElem?_cons_zero, Option.some.injEq] at ho <;> subst ho
      · refine wpOp_runG ho2 (wanted_none rfl) (q_move (canon fr dsW f).eval _ wy _ rfl) ?_
        exact ⟨_, rfl, WF.mk (by decide) N0, Below.refl _ _⟩
      · refine wpOp_enterG ho2 (wanted_none rfl) (q_call1 (canon fr dsW f).eval _ wy _ enC _ _ rfl rfl) ?_
        rw [((canon_eval fr dsW f 9 (by decide) (Nat.lt_of_le_of_lt (by decide) hs)).trans ((hd ⟨0, .data⟩ (by simp) rfl).eq (by decide)))]
        refine (HC.out wy (HG.out wy hy).2 false hA).mono ?_
        rintro e wz ⟨rfl, hz⟩
        exact ⟨_, rfl, _, rfl, WF.mk (by decide) rfl, hz⟩
      · refine wpOp_runG ho2 (wanted_none rfl) (q_not (canon fr dsW f).eval _ wy _ _ rfl ((canon_eval fr dsW f 10 (by decide) (Nat.lt_of_le_of_lt (by decide) hs)).trans ((hd ⟨1, .data⟩ (by simp) rfl).eq (by decide)))) ?_
        exact ⟨_, rfl, WF.mk (by decide) rfl, Below.refl _ _⟩
      · refine wpOp_runG ho2 (wanted_none rfl) (q_move (canon fr dsW f).eval _ wy _ rfl) ?_
        exact ⟨_, rfl, WF.mk (by decide) ((canon_eval fr dsW f 11 (by decide) (Nat.lt_of_le_of_lt (by decide) hs)).trans ((hd ⟨2, .data⟩ (by simp) rfl).eq (by decide))), Below.refl _ _⟩
      · refine wpOp_skipG ho2 ((W3 _ true ((hd ⟨3, .guard⟩ (by simp) rfl).eq (by decide)) rfl).trans rfl) ?_
        exact ⟨undef, rfl, WF.mk (by decide) rfl, Below.refl _ _⟩
      · refine wpOp_skipG ho2 ((W3 _ true ((hd ⟨3, .guard⟩ (by simp) rfl).eq (by decide)) rfl).trans rfl) ?_
        exact ⟨undef, rfl, WF.mkF rfl, Below.refl _ _⟩
      · refine wpOp_skipG ho2 ((W3 _ true ((hd ⟨3, .guard⟩ (by simp) rfl).eq (by decide)) rfl).trans rfl) ?_
        exact ⟨undef, rfl, WF.mk (by decide) rfl, Below.refl _ _⟩
      · refine wpOp_skipG ho2 ((W3 _ true ((hd ⟨3, .guard⟩ (by simp) rfl).eq (by decide)) rfl).trans rfl) ?_
        exact ⟨undef, rfl, WF.mk (by decide) rfl, Below.refl _ _⟩
      · refine wpOp_runG ho2 (wanted_none rfl) (q_pick (canon fr dsW f).eval _ wy _ _ _ rfl ((canon_eval fr dsW f 12 (by decide) (Nat.lt_of_le_of_lt (by decide) hs)).trans ((hd ⟨3, .data⟩ (by simp) rfl).eq (by decide)))) ?_
        exact ⟨_, rfl, WF.mk (by decide) rfl, Below.refl _ _⟩
      · refine wpOp_runG ho2 (wanted_none rfl) (q_move (canon fr dsW f).eval _ wy _ rfl) ?_
        exact ⟨_, rfl, WF.mk (by decide) ((canon_eval fr dsW f 17 (by decide) (Nat.lt_of_le_of_lt (by decide) hs)).trans ((hd ⟨8, .data⟩ (by simp) rfl).eq (by decide))), Below.refl _ _⟩
      · refine wpOp_skipG ho2 ((W9 _ true ((hd ⟨9, .guard⟩ (by simp) rfl).eq (by decide)) rfl).trans rfl) ?_
        exact ⟨undef, rfl, WF.mk (by decide) rfl, Below.refl _ _⟩
      · refine wpOp_skipG ho2 ((W9 _ true ((hd ⟨9, .guard⟩ (by simp) rfl).eq (by decide)) rfl).trans rfl) ?_
        exact ⟨undef, rfl, WF.mk (by decide) rfl, Below.refl _ _⟩
      · refine wpOp_skipG ho2 ((W9 _ true ((hd ⟨9, .guard⟩ (by simp) rfl).eq (by decide)) rfl).trans rfl) ?_
        exact ⟨undef, rfl, WF.mk (by decide) rfl, Below.refl _ _⟩
      · refine wpOp_skipG ho2 ((W9 _ true ((hd ⟨9, .guard⟩ (by simp) rfl).eq (by decide)) rfl).trans rfl) ?_
        exact ⟨undef, rfl, WF.mk (by decide) rfl, Below.refl _ _⟩
      · refine wpOp_skipG ho2 (W13u _ ((hd ⟨13, .guard⟩ (by simp) rfl).eq (by decide)) rfl) ?_
        exact ⟨undef, rfl, WF.mk (by decide) rfl, Below.refl _ _⟩
      · refine wpOp_skipG ho2 (W13u _ ((hd ⟨13, .guard⟩ (by simp) rfl).eq (by decide)) rfl) ?_
        exact ⟨undef, rfl, WF.mk (by decide) rfl, Below.refl _ _⟩
      · refine wpOp_skipG ho2 (W13u _ ((hd ⟨13, .guard⟩ (by simp) rfl).eq (by decide)) rfl) ?_
        exact ⟨undef, rfl, WF.mk (by decide) rfl, Below.refl _ _⟩
      · refine wpOp_skipG ho2 (W13u _ ((hd ⟨13, .guard⟩ (by simp) rfl).eq (by decide)) rfl) ?_
        exact ⟨undef, rfl, WF.mk (by decide) rfl, Below.refl _ _⟩
      · refine wpOp_skipG ho2 (W13u _ ((hd ⟨13, .guard⟩ (by simp) rfl).eq (by decide)) rfl) ?_
        exact ⟨undef, rfl, WF.mk (by decide) rfl, Below.refl _ _⟩
      · refine wpOp_skipG ho2 (W13u _ ((hd ⟨13, .guard⟩ (by simp) rfl).eq (by decide)) rfl) ?_
        exact ⟨undef, rfl, WF.mk (by decide) rfl, Below.refl _ _⟩
      · refine wpOp_skipG ho2 (W13u _ ((hd ⟨13, .guard⟩ (by simp) rfl).eq (by decide)) rfl) ?_
        exact ⟨undef, rfl, WF.mk (by decide) rfl, Below.refl _ _⟩
      · refine wpOp_skipG ho2 (W13u _ ((hd ⟨13, .guard⟩ (by simp) rfl).eq (by decide)) rfl) ?_
        exact ⟨undef, rfl, WF.mk (by decide) rfl, Below.refl _ _⟩
      · refine wpOp_skipG ho2 (W13u _ ((hd ⟨13, .guard⟩ (by simp) rfl).eq (by decide)) rfl) ?_
        exact ⟨undef, rfl, WF.mk (by decide) rfl, Below.refl _ _⟩
      · refine wpOp_skipG ho2 (W13u _ ((hd ⟨13, .guard⟩ (by simp) rfl).eq (by decide)) rfl) ?_
        exact ⟨undef, rfl, WF.mk (by decide) rfl, Below.refl _ _⟩
      · refine wpOp_skipG ho2 ((W9 _ true ((hd ⟨9, .guard⟩ (by simp) rfl).eq (by decide)) rfl).trans rfl) ?_
        exact ⟨undef, rfl, WF.mk (by decide) rfl, Below.refl _ _⟩
      · refine wpOp_runG ho2 (wanted_none rfl) (q_pick (canon fr dsW f).eval _ wy _ _ _ rfl ((canon_eval fr dsW f 18 (by decide) (Nat.lt_of_le_of_lt (by decide) hs)).trans ((hd ⟨9, .data⟩ (by simp) rfl).eq (by decide)))) ?_
        exact ⟨_, rfl, WF.mk (by decide) rfl, Below.refl _ _⟩
    · intro f wy hy hall
      have h34 : f 34 = _ := (hall 25 (by decide)).eq (by decide)
      exact hK _ _ (Met.intro (hJ _ _ ⟨f, congrArg (fun z => canon z dsW f) HFR.out, h34, hy⟩))
  | true =>
  have hn30 : A.length ≤ 30 := chainL_len hA
  cases hF : chainL [x] with
  | false =>
    have hr : Hid (withB A x = false) := by
      show _ = _
      have hx : x.fine = false := by
        cases hx : x.fine with
        | false => rfl
        | true => exact absurd hF (by rw [chainL_one hx]; decide)
      unfold withB; rw [hA, hx]; rfl
    go_enter Try.func6, Try.ntmps6
    go_wp2
    rw [← HXE.out]
    have enC := HEN.out
    refine wp_cut_at (fun a0 t w' => ∃ f, t = canon a0 dsW f ∧ f 34 = .bool true ∧ Below X.heap.size X w') ?_ ?_
    · rintro _ wy ⟨f, rfl, h34, hy⟩
      simp only [canon, dsW, List.foldl, Act.put, List.setIfInBounds_toArray, List.set_cons_succ, List.set_cons_zero]
      rw [h34]
      have HY := (show Hid _ from (HG.out wy hy).2)
      clear hy
      go_wp2
      go_ret2
      rw [hr.out]
      exact ⟨_, rfl, .inl ⟨rfl, rfl⟩, HY.out⟩
    intro J K' hJ hK
    refine wp_letter ?_
    intro fr hfr
    have hs : 34 < fr.tmps.size := by rw [hfr]; exact Nat.le_of_ble_eq_true rfl
    have t0 : fr.eval (.tmp 0) = .slice (some ⟨b1, o1, none⟩) A.length c1 := by rw [hfr]; rfl
    have t3 : fr.eval (.tmp 3) = .pointer (some ⟨w.heap.size, 0, none⟩) := by rw [hfr]; rfl
    have HFR := (show Hid _ from hfr)
    clear hfr
    refine wp_region_skips (by kernel_rfl) (by kernel_rfl) dsW slotW (WF x true [.slice (some ⟨b1, o1, none⟩) A.length c1, .bool true, .bool false, .bool false, .agg #[.int .i64 x.a, .int .i64 x.b, .int .i64 x.c, .int .i64 x.d], undef, .bool false, .bool true, .bool true, .bool true, undef, undef, undef, undef, undef, undef, undef, undef, undef, undef, undef, undef, undef, undef, undef, .bool true]) (fun _ _ _ _ h hB => h.below hB) ?_ ?_ ?_ ?_
    · intro i hi
      have hi' : i < 26 := hi
      simp [slotW, dsW]; omega
    · intro i j hi hj q
      unfold slotW at q
      omega
    · intro ops hops f wy i o hy ho hd
      have ho2 := ho
      rw [hops] at ho
      have N0 := (canon_eval_ne fr dsW f 0 (by decide)).trans t0
      have N3 := (canon_eval_ne fr dsW f 3 (by decide)).trans t3
      have hi : i < 26 := by
        rcases Nat.lt_or_ge i 26 with h | h
        · exact h
        · rw [Array.getElem?_eq_none (by simpa using h)] at ho; cases ho
      have hi' : i = 0 ∨ i = 1 ∨ i = 2 ∨ i = 3 ∨ i = 4 ∨ i = 5 ∨ i = 6 ∨ i = 7 ∨ i = 8 ∨ i = 9 ∨ i = 10 ∨ i = 11 ∨ i = 12 ∨ i = 13 ∨ i = 14 ∨ i = 15 ∨ i = 16 ∨ i = 17 ∨ i = 18 ∨ i = 19 ∨ i = 20 ∨ i = 21 ∨ i = 22 ∨ i = 23 ∨ i = 24 ∨ i = 25 := by omega
      have W3 := wanted_is (a0 := fr) (ds := dsW) (f := f) ho2 3 12 false (by rw [hops]; simp) (by decide) (Nat.lt_of_le_of_lt (by decide) hs)
      have W9 := wanted_is (a0 := fr) (ds := dsW) (f := f) ho2 9 18 false (by rw [hops]; simp) (by decide) (Nat.lt_of_le_of_lt (by decide) hs)
      have W13 := wanted_is (a0 := fr) (ds := dsW) (f := f) ho2 13 22 true (by rw [hops]; simp) (by decide) (Nat.lt_of_le_of_lt (by decide) hs)
      have W13u := wanted_undef (a0 := fr) (ds := dsW) (f := f) ho2 13 22 true (by rw [hops]; simp) (by decide) (Nat.lt_of_le_of_lt (by decide) hs)
      clear hops
      rcases hi' with rfl | rfl | rfl | rfl | rfl | rfl | rfl | rfl | rfl | rfl | rfl | rfl | rfl | rfl | rfl | rfl | rfl | rfl | rfl | rfl | rfl | rfl | rfl | rfl | rfl | rfl <;> simp only [List.getElem?_toArray, List.getElem?_cons_succ, List.getElem?_cons_zero, Option.some.injEq] at ho <;> subst ho
      · refine wpOp_runG ho2 (wanted_none rfl) (q_move (canon fr dsW f).eval _ wy _ rfl) ?_
        exact ⟨_, rfl, WF.mk (by decide) N0, Below.refl _ _⟩
      · refine wpOp_enterG ho2 (wanted_none rfl) (q_call1 (canon fr dsW f).eval _ wy _ enC _ _ rfl rfl) ?_
        rw [((canon_eval fr dsW f 9 (by decide) (Nat.lt_of_le_of_lt (by decide) hs)).trans ((hd ⟨0, .data⟩ (by simp) rfl).eq (by decide)))]
        refine (HC.out wy (HG.out wy hy).2 true hA).mono ?_
        rintro e wz ⟨rfl, hz⟩
        exact ⟨_, rfl, _, rfl, WF.mk (by decide) rfl, hz⟩
      · refine wpOp_runG ho2 (wanted_none rfl) (q_not (canon fr dsW f).eval _ wy _ _ rfl ((canon_eval fr dsW f 10 (by decide) (Nat.lt_of_le_of_lt (by decide) hs)).trans ((hd ⟨1, .data⟩ (by simp) rfl).eq (by decide)))) ?_
        exact ⟨_, rfl, WF.mk (by decide) rfl, Below.refl _ _⟩
      · refine wpOp_runG ho2 (wanted_none rfl) (q_move (canon fr dsW f).eval _ wy _ rfl) ?_
        exact ⟨_, rfl, WF.mk (by decide) ((canon_eval fr dsW f 11 (by decide) (Nat.lt_of_le_of_lt (by decide) hs)).trans ((hd ⟨2, .data⟩ (by simp) rfl).eq (by decide))), Below.refl _ _⟩
      · refine wpOp_runG ho2 ((W3 _ false ((hd ⟨3, .guard⟩ (by simp) rfl).eq (by decide)) rfl).trans rfl) (q_loadE (canon fr dsW f).eval _ wy _ w.heap.size x.a x.b x.c x.d rfl N3 (HG.out wy hy).1) ?_
        exact ⟨_, rfl, WF.mk (by decide) rfl, Below.refl _ _⟩
      · refine wpOp_runG ho2 ((W3 _ false ((hd ⟨3, .guard⟩ (by simp) rfl).eq (by decide)) rfl).trans rfl) (q_litE (canon fr dsW f).eval _ wy _ x.a x.b x.c x.d rfl ((canon_eval fr dsW f 13 (by decide) (Nat.lt_of_le_of_lt (by decide) hs)).trans ((hd ⟨4, .data⟩ (by simp) rfl).eq (by decide)))) ?_
        exact ⟨_, rfl, WF.mkLit wy, (Below.refl _ _).alloc (Nat.le_refl _) _⟩
      · obtain ⟨p', hp, hr, hpl⟩ := (hd ⟨5, .data⟩ (by simp) rfl).lit
        refine wpOp_enterG ho2 ((W3 _ false ((hd ⟨3, .guard⟩ (by simp) rfl).eq (by decide)) rfl).trans rfl) (q_call1 (canon fr dsW f).eval _ wy _ enC _ _ rfl rfl) ?_
        rw [(canon_eval fr dsW f 14 (by decide) (Nat.lt_of_le_of_lt (by decide) hs)).trans hp]
        refine (specChainL p' 0 1 [x] wy hr hpl (by simp) (by omega) false hF).mono ?_
        rintro e wz ⟨rfl, hz⟩
        exact ⟨_, rfl, _, rfl, WF.mk (by decide) rfl, hz⟩
      · refine wpOp_runG ho2 ((W3 _ false ((hd ⟨3, .guard⟩ (by simp) rfl).eq (by decide)) rfl).trans rfl) (q_not (canon fr dsW f).eval _ wy _ _ rfl ((canon_eval fr dsW f 15 (by decide) (Nat.lt_of_le_of_lt (by decide) hs)).trans ((hd ⟨6, .data⟩ (by simp) rfl).eq (by decide)))) ?_
        exact ⟨_, rfl, WF.mk (by decide) rfl, Below.refl _ _⟩
      · refine wpOp_runG ho2 (wanted_none rfl) (q_pickF (canon fr dsW f).eval _ wy _ _ _ rfl ((canon_eval fr dsW f 12 (by decide) (Nat.lt_of_le_of_lt (by decide) hs)).trans ((hd ⟨3, .data⟩ (by simp) rfl).eq (by decide)))) ?_
        exact ⟨_, rfl, WF.mk (by decide) ((canon_eval fr dsW f 16 (by decide) (Nat.lt_of_le_of_lt (by decide) hs)).trans ((hd ⟨7, .data⟩ (by simp) rfl).eq (by decide))), Below.refl _ _⟩
      · refine wpOp_runG ho2 (wanted_none rfl) (q_move (canon fr dsW f).eval _ wy _ rfl) ?_
        exact ⟨_, rfl, WF.mk (by decide) ((canon_eval fr dsW f 17 (by decide) (Nat.lt_of_le_of_lt (by decide) hs)).trans ((hd ⟨8, .data⟩ (by simp) rfl).eq (by decide))), Below.refl _ _⟩
      · refine wpOp_skipG ho2 ((W9 _ true ((hd ⟨9, .guard⟩ (by simp) rfl).eq (by decide)) rfl).trans rfl) ?_
        exact ⟨undef, rfl, WF.mk (by decide) rfl, Below.refl _ _⟩
      · refine wpOp_skipG ho2 ((W9 _ true ((hd ⟨9, .guard⟩ (by simp) rfl).eq (by decide)) rfl).trans rfl) ?_
        exact ⟨undef, rfl, WF.mk (by decide) rfl, Below.refl _ _⟩
      · refine wpOp_skipG ho2 ((W9 _ true ((hd ⟨9, .guard⟩ (by simp) rfl).eq (by decide)) rfl).trans rfl) ?_
        exact ⟨undef, rfl, WF.mk (by decide) rfl, Below.refl _ _⟩
      · refine wpOp_skipG ho2 ((W9 _ true ((hd ⟨9, .guard⟩ (by simp) rfl).eq (by decide)) rfl).trans rfl) ?_
        exact ⟨undef, rfl, WF.mk (by decide) rfl, Below.refl _ _⟩
      · refine wpOp_skipG ho2 (W13u _ ((hd ⟨13, .guard⟩ (by simp) rfl).eq (by decide)) rfl) ?_
        exact ⟨undef, rfl, WF.mk (by decide) rfl, Below.refl _ _⟩
      · refine wpOp_skipG ho2 (W13u _ ((hd ⟨13, .guard⟩ (by simp) rfl).eq (by decide)) rfl) ?_
        exact ⟨undef, rfl, WF.mk (by decide) rfl, Below.refl _ _⟩
      · refine wpOp_skipG ho2 (W13u _ ((hd ⟨13, .guard⟩ (by simp) rfl).eq (by decide)) rfl) ?_
        exact ⟨undef, rfl, WF.mk (by decide) rfl, Below.refl _ _⟩
      · refine wpOp_skipG ho2 (W13u _ ((hd ⟨13, .guard⟩ (by simp) rfl).eq (by decide)) rfl) ?_
        exact ⟨undef, rfl, WF.mk (by decide) rfl, Below.refl _ _⟩
      · refine wpOp_skipG ho2 (W13u _ ((hd ⟨13, .guard⟩ (by simp) rfl).eq (by decide)) rfl) ?_
        exact ⟨undef, rfl, WF.mk (by decide) rfl, Below.refl _ _⟩
      · refine wpOp_skipG ho2 (W13u _ ((hd ⟨13, .guard⟩ (by simp) rfl).eq (by decide)) rfl) ?_
        exact ⟨undef, rfl, WF.mk (by decide) rfl, Below.refl _ _⟩
      · refine wpOp_skipG ho2 (W13u _ ((hd ⟨13, .guard⟩ (by simp) rfl).eq (by decide)) rfl) ?_
        exact ⟨undef, rfl, WF.mk (by decide) rfl, Below.refl _ _⟩
      · refine wpOp_skipG ho2 (W13u _ ((hd ⟨13, .guard⟩ (by simp) rfl).eq (by decide)) rfl) ?_
        exact ⟨undef, rfl, WF.mk (by decide) rfl, Below.refl _ _⟩
      · refine wpOp_skipG ho2 (W13u _ ((hd ⟨13, .guard⟩ (by simp) rfl).eq (by decide)) rfl) ?_
        exact ⟨undef, rfl, WF.mk (by decide) rfl, Below.refl _ _⟩
      · refine wpOp_skipG ho2 (W13u _ ((hd ⟨13, .guard⟩ (by simp) rfl).eq (by decide)) rfl) ?_
        exact ⟨undef, rfl, WF.mk (by decide) rfl, Below.refl _ _⟩
      · refine wpOp_skipG ho2 ((W9 _ true ((hd ⟨9, .guard⟩ (by simp) rfl).eq (by decide)) rfl).trans rfl) ?_
        exact ⟨undef, rfl, WF.mk (by decide) rfl, Below.refl _ _⟩
      · refine wpOp_runG ho2 (wanted_none rfl) (q_pick (canon fr dsW f).eval _ wy _ _ _ rfl ((canon_eval fr dsW f 18 (by decide) (Nat.lt_of_le_of_lt (by decide) hs)).trans ((hd ⟨9, .data⟩ (by simp) rfl).eq (by decide)))) ?_
        exact ⟨_, rfl, WF.mk (by decide) rfl, Below.refl _ _⟩
    · intro f wy hy hall
      have h34 : f 34 = _ := (hall 25 (by decide)).eq (by decide)
      exact hK _ _ (Met.intro (hJ _ _ ⟨f, congrArg (fun z => canon z dsW f) HFR.out, h34, hy⟩))
  | true =>
  have hx : x.fine = true := by
    cases hx : x.fine with
    | true => rfl
    | false => exact absurd hF (by rw [chainL_bad hx]; decide)
  have HHA := (show Hid _ from hA)
  have HHF := (show Hid _ from hx)
  have hfa : 1 ≤ x.a ∧ x.a ≤ 20 := by unfold Ev.fine inB at hx; simp at hx; omega
  have hwz : wrap64 (x.a - 1) = x.a - 1 := by unfold wrap64; omega
  obtain ⟨R1, hR1⟩ : ∃ R1, R1 = (resR (fun i => A.getD i evZ) A.length (x.a - 1)).1 := ⟨_, rfl⟩
  obtain ⟨R2, hR2⟩ : ∃ R2, R2 = (resR (fun i => A.getD i evZ) A.length (x.a - 1)).2 := ⟨_, rfl⟩
  obtain ⟨rb, hrb⟩ : ∃ rb, rb = rosB (fun i => A.getD i evZ) A.length (x.a - 1) := ⟨_, rfl⟩
  have HADM : Hid (hasI R2 x.b = admB A x) := by show _ = _; rw [hR2]; rfl
  have HSR : Hid (∀ w', Below w.heap.size w w' → Calls Try.prog 21 #[.slice (some ⟨b1, o1, none⟩) A.length c1, .int .i64 (x.a - 1)] w' fun r w'' => ∃ a1 c1' a2 c2, r = .returned (.tuple #[.agg #[.slice a1 R1.length c1', .slice a2 R2.length c2], .bool rb]) ∧ OwnI w'' w'.heap.size (.slice a2 R2.length c2) R2 ∧ Below w'.heap.size w' w'') := fun w' hB => by
    rw [hR1, hR2, hrb]
    refine (specR _ _ _ _ (x.a - 1) w' ((HL.out w' hB).1.evs (HL.out w' hB).2 hl1 hc1)).mono ?_
    rintro r w'' ⟨a1, c1', a2, c2, rfl, _, o2, hB2⟩
    exact ⟨a1, c1', a2, c2, rfl, o2, hB2⟩
  have HPUT : Hid (∀ w', Below w.heap.size w w' → Calls Try.prog 23 #[.slice (some ⟨b1, o1, none⟩) A.length c1, .agg #[.int .i64 x.a, .int .i64 x.b, .int .i64 x.c, .int .i64 x.d]] w' fun e w'' => ∃ g gc, e = .returned (.slice (some ⟨g, 0, none⟩) (putE A x).length gc) ∧ OwnE w'' w'.heap.size g gc (putE A x) ∧ Below w'.heap.size w' w'') := fun w' hB => put_any _ _ _ A x w' (HL.out w' hB).1 (HL.out w' hB).2 hl1 hc1 (by omega)
  clear hR1 hR2 hrb hfa
  by_cases hn0 : A.length = 0
  · have hM : decide (0 < (A.length : Int)) = false := decide_eq_false (by omega)
    have hlate : Hid (lateB A x = false) := by show _ = _; unfold lateB; rw [hn0]; rfl
    go_enter Try.func6, Try.ntmps6
    go_wp2
    rw [← HXE.out]
    have enC := HEN.out
    refine wp_cut_at (fun a0 t w' => ∃ f, t = canon a0 dsW f ∧ f 34 = .bool false ∧ Below X.heap.size X w') ?_ ?_
    · rintro _ wy ⟨f, rfl, h34, hy⟩
      simp only [canon, dsW, List.foldl, Act.put, List.setIfInBounds_toArray, List.set_cons_succ, List.set_cons_zero]
      rw [h34]
      have HY := (show Hid _ from hy)
      clear hy
      have e0 : wy.cell? ⟨w.heap.size, 0, none⟩ = some (.int .i64 x.a) := cellN (HG.out wy HY.out).1
      clear hn0 hM h34
      go_wp2_with fail
      rw [hwz]
      refine (HSR.out wy (HG.out wy HY.out).2).mono ?_
      rintro r w3 ⟨a1, c1', a2, c2, rfl, o2, hB3⟩
      have b3 : Below X.heap.size X w3 := HY.out.trans (hB3.mono HY.out.size)
      obtain ⟨x3, hx3⟩ : ∃ x3, x3 = w3.alloc (.cells #[.slice a1 R1.length c1', .slice a2 R2.length c2] 41) := ⟨_, rfl⟩
      have hb3 : Below w3.heap.size w3 x3 := by rw [hx3]; exact (Below.refl _ _).alloc (Nat.le_refl _) _
      have p3 : x3.heap[w3.heap.size]? = some (.cells #[.slice a1 R1.length c1', .slice a2 R2.length c2] 41 (0, 0)) := by rw [hx3]; exact heap_alloc_new _ _
      have H3 : Hid (Below X.heap.size X x3 ∧ RdI x3 (.slice a2 R2.length c2) R2) := ⟨b3.trans (hb3.mono b3.size), (o2.below hb3).rd⟩
      have f1 : x3.cell? ⟨w3.heap.size, 1, none⟩ = some (.slice a2 R2.length c2) := cellN p3
      have g1 : x3.cell? ⟨w.heap.size, 1, none⟩ = some (.int .i64 x.b) := cellN (HG.out x3 H3.out.1).1
      have HX3 := (show Hid _ from hx3)
      rw [hx3] at f1 g1
      clear hx3 hb3 p3 b3 hB3 o2 e0
      go_wp2_with fail
      rw [← HX3.out]
      clear HX3 f1 g1
      refine (has_any _ R2 x.b x3 H3.out.2).mono ?_
      rintro r w4 ⟨rfl, hw4⟩
      rw [hw4, HADM.out]
      clear hw4 w4
      have d0 : x3.cell? ⟨w.heap.size, 0, none⟩ = some (.int .i64 x.a) := cellN (HG.out x3 H3.out.1).1
      have d1 : x3.cell? ⟨w.heap.size, 1, none⟩ = some (.int .i64 x.b) := cellN (HG.out x3 H3.out.1).1
      have d2 : x3.cell? ⟨w.heap.size, 2, none⟩ = some (.int .i64 x.c) := cellN (HG.out x3 H3.out.1).1
      have d3 : x3.cell? ⟨w.heap.size, 3, none⟩ = some (.int .i64 x.d) := cellN (HG.out x3 H3.out.1).1
      cases hadm : admB A x with
      | false =>
        have hr : Hid (withB A x = false) := by show _ = _; unfold withB; rw [HHA.out, HHF.out, hlate.out, hadm]; rfl
        have HE : Hid (Below w.heap.size w x3) := (HG.out x3 H3.out.1).2
        clear d0 d1 d2 d3
        go_wp2
        go_ret2
        rw [hr.out]
        exact ⟨_, rfl, .inl ⟨rfl, rfl⟩, HE.out⟩
      | true =>
        have hr : Hid (withB A x = chainL (putE A x)) := by show _ = _; unfold withB; rw [HHA.out, HHF.out, hlate.out, hadm]; rfl
        clear hadm
        go_wp2_with fail
        refine (HPUT.out x3 (HG.out x3 H3.out.1).2).mono ?_
        rintro r w5 ⟨g, gc, rfl, hO, hB5⟩
        have b5 : Below w.heap.size w w5 := (HG.out x3 H3.out.1).2.trans (hB5.mono (HG.out x3 H3.out.1).2.size)
        have HO5 : Hid (OwnE w5 w.heap.size g gc (putE A x) ∧ Below w.heap.size w w5) := ⟨World.ownsRow.mono hO (HG.out x3 H3.out.1).2.size, b5⟩
        have hgl := HO5.out.1.lies
        have hcap := HO5.out.1.caps
        clear d0 d1 d2 d3 hO hB5 b5
        go_wp2_with fail
        refine (specChainL g 0 gc (putE A x) w5 hgl.1 hgl.2.1 hcap.1 hcap.2 _ rfl).mono ?_
        rintro r w6 ⟨rfl, hB6⟩
        have HE : Hid (OwnE w6 w.heap.size g gc (putE A x) ∧ Below w.heap.size w w6) := ⟨HO5.out.1.below hB6, HO5.out.2.trans (hB6.mono HO5.out.2.size)⟩
        clear hB6 hgl hcap HO5
        cases hq : chainL (putE A x) with
        | false =>
          go_wp2
          go_ret2
          rw [hr.out, hq]
          exact ⟨_, rfl, .inl ⟨rfl, rfl⟩, HE.out.2⟩
        | true =>
          go_wp2
          go_ret2
          rw [hr.out, hq]
          exact ⟨_, rfl, .inr ⟨rfl, HE.out.1.v⟩, HE.out.2⟩
    intro J K' hJ hK
    refine wp_letter ?_
    intro fr hfr
    have hs : 34 < fr.tmps.size := by rw [hfr]; exact Nat.le_of_ble_eq_true rfl
    have t0 : fr.eval (.tmp 0) = .slice (some ⟨b1, o1, none⟩) A.length c1 := by rw [hfr]; rfl
    have t3 : fr.eval (.tmp 3) = .pointer (some ⟨w.heap.size, 0, none⟩) := by rw [hfr]; rfl
    have HFR := (show Hid _ from hfr)
    clear hfr
    refine wp_region_skips (by kernel_rfl) (by kernel_rfl) dsW slotW (WF x true [.slice (some ⟨b1, o1, none⟩) A.length c1, .bool true, .bool false, .bool false, .agg #[.int .i64 x.a, .int .i64 x.b, .int .i64 x.c, .int .i64 x.d], undef, .bool true, .bool false, .bool false, .bool false, .slice (some ⟨b1, o1, none⟩) A.length c1, .int .i64 A.length, .bool false, .bool false, undef, undef, undef, undef, undef, undef, undef, undef, undef, undef, .bool false, .bool false]) (fun _ _ _ _ h hB => h.below hB) ?_ ?_ ?_ ?_
    · intro i hi
      have hi' : i < 26 := hi
      simp [slotW, dsW]; omega
    · intro i j hi hj q
      unfold slotW at q
      omega
    · intro ops hops f wy i o hy ho hd
      have ho2 := ho
      rw [hops] at ho
      have N0 := (canon_eval_ne fr dsW f 0 (by decide)).trans t0
      have N3 := (canon_eval_ne fr dsW f 3 (by decide)).trans t3
      have hi : i < 26 := by
        rcases Nat.lt_or_ge i 26 with h | h
        · exact h
        · rw [Array.getElem?_eq_none (by simpa using h)] at ho; cases ho
      have hi' : i = 0 ∨ i = 1 ∨ i = 2 ∨ i = 3 ∨ i = 4 ∨ i = 5 ∨ i = 6 ∨ i = 7 ∨ i = 8 ∨ i = 9 ∨ i = 10 ∨ i = 11 ∨ i = 12 ∨ i = 13 ∨ i = 14 ∨ i = 15 ∨ i = 16 ∨ i = 17 ∨ i = 18 ∨ i = 19 ∨ i = 20 ∨ i = 21 ∨ i = 22 ∨ i = 23 ∨ i = 24 ∨ i = 25 := by omega
      have W3 := wanted_is (a0 := fr) (ds := dsW) (f := f) ho2 3 12 false (by rw [hops]; simp) (by decide) (Nat.lt_of_le_of_lt (by decide) hs)
      have W9 := wanted_is (a0 := fr) (ds := dsW) (f := f) ho2 9 18 false (by rw [hops]; simp) (by decide) (Nat.lt_of_le_of_lt (by decide) hs)
      have W13 := wanted_is (a0 := fr) (ds := dsW) (f := f) ho2 13 22 true (by rw [hops]; simp) (by decide) (Nat.lt_of_le_of_lt (by decide) hs)
      have W13u := wanted_undef (a0 := fr) (ds := dsW) (f := f) ho2 13 22 true (by rw [hops]; simp) (by decide) (Nat.lt_of_le_of_lt (by decide) hs)
      clear hops
      rcases hi' with rfl | rfl | rfl | rfl | rfl | rfl | rfl | rfl | rfl | rfl | rfl | rfl | rfl | rfl | rfl | rfl | rfl | rfl | rfl | rfl | rfl | rfl | rfl | rfl | rfl | rfl <;> simp only [List.getElem?_toArray, List.getElem?_cons_succ, List.getElem?_cons_zero, Option.some.injEq] at ho <;> subst ho
      · refine wpOp_runG ho2 (wanted_none rfl) (q_move (canon fr dsW f).eval _ wy _ rfl) ?_
        exact ⟨_, rfl, WF.mk (by decide) N0, Below.refl _ _⟩
      · refine wpOp_enterG ho2 (wanted_none rfl) (q_call1 (canon fr dsW f).eval _ wy _ enC _ _ rfl rfl) ?_
        rw [((canon_eval fr dsW f 9 (by decide) (Nat.lt_of_le_of_lt (by decide) hs)).trans ((hd ⟨0, .data⟩ (by simp) rfl).eq (by decide)))]
        refine (HC.out wy (HG.out wy hy).2 true hA).mono ?_
        rintro e wz ⟨rfl, hz⟩
        exact ⟨_, rfl, _, rfl, WF.mk (by decide) rfl, hz⟩
      · refine wpOp_runG ho2 (wanted_none rfl) (q_not (canon fr dsW f).eval _ wy _ _ rfl ((canon_eval fr dsW f 10 (by decide) (Nat.lt_of_le_of_lt (by decide) hs)).trans ((hd ⟨1, .data⟩ (by simp) rfl).eq (by decide)))) ?_
        exact ⟨_, rfl, WF.mk (by decide) rfl, Below.refl _ _⟩
      · refine wpOp_runG ho2 (wanted_none rfl) (q_move (canon fr dsW f).eval _ wy _ rfl) ?_
        exact ⟨_, rfl, WF.mk (by decide) ((canon_eval fr dsW f 11 (by decide) (Nat.lt_of_le_of_lt (by decide) hs)).trans ((hd ⟨2, .data⟩ (by simp) rfl).eq (by decide))), Below.refl _ _⟩
      · refine wpOp_runG ho2 ((W3 _ false ((hd ⟨3, .guard⟩ (by simp) rfl).eq (by decide)) rfl).trans rfl) (q_loadE (canon fr dsW f).eval _ wy _ w.heap.size x.a x.b x.c x.d rfl N3 (HG.out wy hy).1) ?_
        exact ⟨_, rfl, WF.mk (by decide) rfl, Below.refl _ _⟩
      · refine wpOp_runG ho2 ((W3 _ false ((hd ⟨3, .guard⟩ (by simp) rfl).eq (by decide)) rfl).trans rfl) (q_litE (canon fr dsW f).eval _ wy _ x.a x.b x.c x.d rfl ((canon_eval fr dsW f 13 (by decide) (Nat.lt_of_le_of_lt (by decide) hs)).trans ((hd ⟨4, .data⟩ (by simp) rfl).eq (by decide)))) ?_
        exact ⟨_, rfl, WF.mkLit wy, (Below.refl _ _).alloc (Nat.le_refl _) _⟩
      · obtain ⟨p', hp, hr, hpl⟩ := (hd ⟨5, .data⟩ (by simp) rfl).lit
        refine wpOp_enterG ho2 ((W3 _ false ((hd ⟨3, .guard⟩ (by simp) rfl).eq (by decide)) rfl).trans rfl) (q_call1 (canon fr dsW f).eval _ wy _ enC _ _ rfl rfl) ?_
        rw [(canon_eval fr dsW f 14 (by decide) (Nat.lt_of_le_of_lt (by decide) hs)).trans hp]
        refine (specChainL p' 0 1 [x] wy hr hpl (by simp) (by omega) true hF).mono ?_
        rintro e wz ⟨rfl, hz⟩
        exact ⟨_, rfl, _, rfl, WF.mk (by decide) rfl, hz⟩
      · refine wpOp_runG ho2 ((W3 _ false ((hd ⟨3, .guard⟩ (by simp) rfl).eq (by decide)) rfl).trans rfl) (q_not (canon fr dsW f).eval _ wy _ _ rfl ((canon_eval fr dsW f 15 (by decide) (Nat.lt_of_le_of_lt (by decide) hs)).trans ((hd ⟨6, .data⟩ (by simp) rfl).eq (by decide)))) ?_
        exact ⟨_, rfl, WF.mk (by decide) rfl, Below.refl _ _⟩
      · refine wpOp_runG ho2 (wanted_none rfl) (q_pickF (canon fr dsW f).eval _ wy _ _ _ rfl ((canon_eval fr dsW f 12 (by decide) (Nat.lt_of_le_of_lt (by decide) hs)).trans ((hd ⟨3, .data⟩ (by simp) rfl).eq (by decide)))) ?_
        exact ⟨_, rfl, WF.mk (by decide) ((canon_eval fr dsW f 16 (by decide) (Nat.lt_of_le_of_lt (by decide) hs)).trans ((hd ⟨7, .data⟩ (by simp) rfl).eq (by decide))), Below.refl _ _⟩
      · refine wpOp_runG ho2 (wanted_none rfl) (q_move (canon fr dsW f).eval _ wy _ rfl) ?_
        exact ⟨_, rfl, WF.mk (by decide) ((canon_eval fr dsW f 17 (by decide) (Nat.lt_of_le_of_lt (by decide) hs)).trans ((hd ⟨8, .data⟩ (by simp) rfl).eq (by decide))), Below.refl _ _⟩
      · refine wpOp_runG ho2 ((W9 _ false ((hd ⟨9, .guard⟩ (by simp) rfl).eq (by decide)) rfl).trans rfl) (q_move (canon fr dsW f).eval _ wy _ rfl) ?_
        exact ⟨_, rfl, WF.mk (by decide) N0, Below.refl _ _⟩
      · refine wpOp_runG ho2 ((W9 _ false ((hd ⟨9, .guard⟩ (by simp) rfl).eq (by decide)) rfl).trans rfl) (q_len (canon fr dsW f).eval _ wy _ _ _ _ rfl ((canon_eval fr dsW f 19 (by decide) (Nat.lt_of_le_of_lt (by decide) hs)).trans ((hd ⟨10, .data⟩ (by simp) rfl).eq (by decide)))) ?_
        exact ⟨_, rfl, WF.mk (by decide) rfl, Below.refl _ _⟩
      · refine wpOp_runG ho2 ((W9 _ false ((hd ⟨9, .guard⟩ (by simp) rfl).eq (by decide)) rfl).trans rfl) (q_gtr (canon fr dsW f).eval _ wy _ _ A.length rfl ((canon_eval fr dsW f 20 (by decide) (Nat.lt_of_le_of_lt (by decide) hs)).trans ((hd ⟨11, .data⟩ (by simp) rfl).eq (by decide))) rfl) ?_
        exact ⟨_, rfl, WF.mk (by decide) (congrArg Value.bool hM), Below.refl _ _⟩
      · refine wpOp_runG ho2 ((W9 _ false ((hd ⟨9, .guard⟩ (by simp) rfl).eq (by decide)) rfl).trans rfl) (q_move (canon fr dsW f).eval _ wy _ rfl) ?_
        exact ⟨_, rfl, WF.mk (by decide) ((canon_eval fr dsW f 21 (by decide) (Nat.lt_of_le_of_lt (by decide) hs)).trans ((hd ⟨12, .data⟩ (by simp) rfl).eq (by decide))), Below.refl _ _⟩
      · refine wpOp_skipG ho2 ((W13 _ false ((hd ⟨13, .guard⟩ (by simp) rfl).eq (by decide)) rfl).trans rfl) ?_
        exact ⟨undef, rfl, WF.mk (by decide) rfl, Below.refl _ _⟩
      · refine wpOp_skipG ho2 ((W13 _ false ((hd ⟨13, .guard⟩ (by simp) rfl).eq (by decide)) rfl).trans rfl) ?_
        exact ⟨undef, rfl, WF.mk (by decide) rfl, Below.refl _ _⟩
      · refine wpOp_skipG ho2 ((W13 _ false ((hd ⟨13, .guard⟩ (by simp) rfl).eq (by decide)) rfl).trans rfl) ?_
        exact ⟨undef, rfl, WF.mk (by decide) rfl, Below.refl _ _⟩
      · refine wpOp_skipG ho2 ((W13 _ false ((hd ⟨13, .guard⟩ (by simp) rfl).eq (by decide)) rfl).trans rfl) ?_
        exact ⟨undef, rfl, WF.mk (by decide) rfl, Below.refl _ _⟩
      · refine wpOp_skipG ho2 ((W13 _ false ((hd ⟨13, .guard⟩ (by simp) rfl).eq (by decide)) rfl).trans rfl) ?_
        exact ⟨undef, rfl, WF.mk (by decide) rfl, Below.refl _ _⟩
      · refine wpOp_skipG ho2 ((W13 _ false ((hd ⟨13, .guard⟩ (by simp) rfl).eq (by decide)) rfl).trans rfl) ?_
        exact ⟨undef, rfl, WF.mk (by decide) rfl, Below.refl _ _⟩
      · refine wpOp_skipG ho2 ((W13 _ false ((hd ⟨13, .guard⟩ (by simp) rfl).eq (by decide)) rfl).trans rfl) ?_
        exact ⟨undef, rfl, WF.mk (by decide) rfl, Below.refl _ _⟩
      · refine wpOp_skipG ho2 ((W13 _ false ((hd ⟨13, .guard⟩ (by simp) rfl).eq (by decide)) rfl).trans rfl) ?_
        exact ⟨undef, rfl, WF.mk (by decide) rfl, Below.refl _ _⟩
      · refine wpOp_skipG ho2 ((W13 _ false ((hd ⟨13, .guard⟩ (by simp) rfl).eq (by decide)) rfl).trans rfl) ?_
        exact ⟨undef, rfl, WF.mk (by decide) rfl, Below.refl _ _⟩
      · refine wpOp_skipG ho2 ((W13 _ false ((hd ⟨13, .guard⟩ (by simp) rfl).eq (by decide)) rfl).trans rfl) ?_
        exact ⟨undef, rfl, WF.mk (by decide) rfl, Below.refl _ _⟩
      · refine wpOp_runG ho2 ((W9 _ false ((hd ⟨9, .guard⟩ (by simp) rfl).eq (by decide)) rfl).trans rfl) (q_pickF (canon fr dsW f).eval _ wy _ _ _ rfl ((canon_eval fr dsW f 22 (by decide) (Nat.lt_of_le_of_lt (by decide) hs)).trans ((hd ⟨13, .data⟩ (by simp) rfl).eq (by decide)))) ?_
        exact ⟨_, rfl, WF.mk (by decide) rfl, Below.refl _ _⟩
      · refine wpOp_runG ho2 (wanted_none rfl) (q_pickF (canon fr dsW f).eval _ wy _ _ _ rfl ((canon_eval fr dsW f 18 (by decide) (Nat.lt_of_le_of_lt (by decide) hs)).trans ((hd ⟨9, .data⟩ (by simp) rfl).eq (by decide)))) ?_
        exact ⟨_, rfl, WF.mk (by decide) ((canon_eval fr dsW f 33 (by decide) (Nat.lt_of_le_of_lt (by decide) hs)).trans ((hd ⟨24, .data⟩ (by simp) rfl).eq (by decide))), Below.refl _ _⟩
    · intro f wy hy hall
      have h34 : f 34 = _ := (hall 25 (by decide)).eq (by decide)
      exact hK _ _ (Met.intro (hJ _ _ ⟨f, congrArg (fun z => canon z dsW f) HFR.out, h34, hy⟩))
  · have hM : decide (0 < (A.length : Int)) = true := decide_eq_true (by omega)
    have hn1 : 1 ≤ A.length := by omega
    have hlast : ∀ wy, Below X.heap.size X wy → wy.cell? ⟨b1, o1 + (A.length - 1) * 4, none⟩ = some (.int .i64 (A.getD (A.length - 1) evZ).a) := fun wy hy => ((HL.out wy (HG.out wy hy).2).1 (A.length - 1) (by omega)).1
    have hlate : Hid (lateB A x = decide (x.a < (A.getD (A.length - 1) evZ).a)) := by show _ = _; unfold lateB; rw [decide_eq_true (show 0 < A.length by omega)]; rfl
    go_enter Try.func6, Try.ntmps6
    go_wp2
    rw [← HXE.out]
    have enC := HEN.out
    refine wp_cut_at (fun a0 t w' => ∃ f, t = canon a0 dsW f ∧ f 34 = .bool (decide (x.a < (A.getD (A.length - 1) evZ).a)) ∧ Below X.heap.size X w') ?_ ?_
    · rintro _ wy ⟨f, rfl, h34, hy⟩
      cases hlt : decide (x.a < (A.getD (A.length - 1) evZ).a) with
      | true =>
        have hr : Hid (withB A x = false) := by show _ = _; unfold withB; rw [HHA.out, HHF.out, hlate.out, hlt]; rfl
        rw [hlt] at h34
        simp only [canon, dsW, List.foldl, Act.put, List.setIfInBounds_toArray, List.set_cons_succ, List.set_cons_zero]
        rw [h34]
        have HY := (show Hid _ from (HG.out wy hy).2)
        clear hy
        go_wp2
        go_ret2
        rw [hr.out]
        exact ⟨_, rfl, .inl ⟨rfl, rfl⟩, HY.out⟩
      | false =>
        rw [hlt] at h34
        have hlate : Hid (lateB A x = false) := hlate.out.trans hlt
        clear hlt hn1 hlast
        simp only [canon, dsW, List.foldl, Act.put, List.setIfInBounds_toArray, List.set_cons_succ, List.set_cons_zero]
        rw [h34]
        have HY := (show Hid _ from hy)
        clear hy
        have e0 : wy.cell? ⟨w.heap.size, 0, none⟩ = some (.int .i64 x.a) := cellN (HG.out wy HY.out).1
        clear hn0 hM h34
        go_wp2_with fail
        rw [hwz]
        refine (HSR.out wy (HG.out wy HY.out).2).mono ?_
        rintro r w3 ⟨a1, c1', a2, c2, rfl, o2, hB3⟩
        have b3 : Below X.heap.size X w3 := HY.out.trans (hB3.mono HY.out.size)
        obtain ⟨x3, hx3⟩ : ∃ x3, x3 = w3.alloc (.cells #[.slice a1 R1.length c1', .slice a2 R2.length c2] 41) := ⟨_, rfl⟩
        have hb3 : Below w3.heap.size w3 x3 := by rw [hx3]; exact (Below.refl _ _).alloc (Nat.le_refl _) _
        have p3 : x3.heap[w3.heap.size]? = some (.cells #[.slice a1 R1.length c1', .slice a2 R2.length c2] 41 (0, 0)) := by rw [hx3]; exact heap_alloc_new _ _
        have H3 : Hid (Below X.heap.size X x3 ∧ RdI x3 (.slice a2 R2.length c2) R2) := ⟨b3.trans (hb3.mono b3.size), (o2.below hb3).rd⟩
        have f1 : x3.cell? ⟨w3.heap.size, 1, none⟩ = some (.slice a2 R2.length c2) := cellN p3
        have g1 : x3.cell? ⟨w.heap.size, 1, none⟩ = some (.int .i64 x.b) := cellN (HG.out x3 H3.out.1).1
        have HX3 := (show Hid _ from hx3)
        rw [hx3] at f1 g1
        clear hx3 hb3 p3 b3 hB3 o2 e0
        go_wp2_with fail
        rw [← HX3.out]
        clear HX3 f1 g1
        refine (has_any _ R2 x.b x3 H3.out.2).mono ?_
        rintro r w4 ⟨rfl, hw4⟩
        rw [hw4, HADM.out]
        clear hw4 w4
        have d0 : x3.cell? ⟨w.heap.size, 0, none⟩ = some (.int .i64 x.a) := cellN (HG.out x3 H3.out.1).1
        have d1 : x3.cell? ⟨w.heap.size, 1, none⟩ = some (.int .i64 x.b) := cellN (HG.out x3 H3.out.1).1
        have d2 : x3.cell? ⟨w.heap.size, 2, none⟩ = some (.int .i64 x.c) := cellN (HG.out x3 H3.out.1).1
        have d3 : x3.cell? ⟨w.heap.size, 3, none⟩ = some (.int .i64 x.d) := cellN (HG.out x3 H3.out.1).1
        cases hadm : admB A x with
        | false =>
          have hr : Hid (withB A x = false) := by show _ = _; unfold withB; rw [HHA.out, HHF.out, hlate.out, hadm]; rfl
          have HE : Hid (Below w.heap.size w x3) := (HG.out x3 H3.out.1).2
          clear d0 d1 d2 d3
          go_wp2
          go_ret2
          rw [hr.out]
          exact ⟨_, rfl, .inl ⟨rfl, rfl⟩, HE.out⟩
        | true =>
          have hr : Hid (withB A x = chainL (putE A x)) := by show _ = _; unfold withB; rw [HHA.out, HHF.out, hlate.out, hadm]; rfl
          clear hadm
          go_wp2_with fail
          refine (HPUT.out x3 (HG.out x3 H3.out.1).2).mono ?_
          rintro r w5 ⟨g, gc, rfl, hO, hB5⟩
          have b5 : Below w.heap.size w w5 := (HG.out x3 H3.out.1).2.trans (hB5.mono (HG.out x3 H3.out.1).2.size)
          have HO5 : Hid (OwnE w5 w.heap.size g gc (putE A x) ∧ Below w.heap.size w w5) := ⟨World.ownsRow.mono hO (HG.out x3 H3.out.1).2.size, b5⟩
          have hgl := HO5.out.1.lies
          have hcap := HO5.out.1.caps
          clear d0 d1 d2 d3 hO hB5 b5
          go_wp2_with fail
          refine (specChainL g 0 gc (putE A x) w5 hgl.1 hgl.2.1 hcap.1 hcap.2 _ rfl).mono ?_
          rintro r w6 ⟨rfl, hB6⟩
          have HE : Hid (OwnE w6 w.heap.size g gc (putE A x) ∧ Below w.heap.size w w6) := ⟨HO5.out.1.below hB6, HO5.out.2.trans (hB6.mono HO5.out.2.size)⟩
          clear hB6 hgl hcap HO5
          cases hq : chainL (putE A x) with
          | false =>
            go_wp2
            go_ret2
            rw [hr.out, hq]
            exact ⟨_, rfl, .inl ⟨rfl, rfl⟩, HE.out.2⟩
          | true =>
            go_wp2
            go_ret2
            rw [hr.out, hq]
            exact ⟨_, rfl, .inr ⟨rfl, HE.out.1.v⟩, HE.out.2⟩
    intro J K' hJ hK
    refine wp_letter ?_
    intro fr hfr
    have hs : 34 < fr.tmps.size := by rw [hfr]; exact Nat.le_of_ble_eq_true rfl
    have t0 : fr.eval (.tmp 0) = .slice (some ⟨b1, o1, none⟩) A.length c1 := by rw [hfr]; rfl
    have t3 : fr.eval (.tmp 3) = .pointer (some ⟨w.heap.size, 0, none⟩) := by rw [hfr]; rfl
    have HFR := (show Hid _ from hfr)
    clear hfr
    refine wp_region_skips (by kernel_rfl) (by kernel_rfl) dsW slotW (WF x true [.slice (some ⟨b1, o1, none⟩) A.length c1, .bool true, .bool false, .bool false, .agg #[.int .i64 x.a, .int .i64 x.b, .int .i64 x.c, .int .i64 x.d], undef, .bool true, .bool false, .bool false, .bool false, .slice (some ⟨b1, o1, none⟩) A.length c1, .int .i64 A.length, .bool true, .bool true, .pointer (some ⟨w.heap.size, 0, none⟩), .int .i64 x.a, .slice (some ⟨b1, o1, none⟩) A.length c1, .slice (some ⟨b1, o1, none⟩) A.length c1, .int .i64 A.length, .int .i64 (A.length - 1 : Nat), (.pointer (some ⟨b1, o1 + (A.length - 1) * 4, none⟩)), (.pointer (some ⟨b1, o1 + (A.length - 1) * 4, none⟩)), .int .i64 (A.getD (A.length - 1) evZ).a, .bool (decide (x.a < (A.getD (A.length - 1) evZ).a)), .bool (decide (x.a < (A.getD (A.length - 1) evZ).a)), .bool (decide (x.a < (A.getD (A.length - 1) evZ).a))]) (fun _ _ _ _ h hB => h.below hB) ?_ ?_ ?_ ?_
    · intro i hi
      have hi' : i < 26 := hi
      simp [slotW, dsW]; omega
    · intro i j hi hj q
      unfold slotW at q
      omega
    · intro ops hops f wy i o hy ho hd
      have ho2 := ho
      rw [hops] at ho
      have N0 := (canon_eval_ne fr dsW f 0 (by decide)).trans t0
      have N3 := (canon_eval_ne fr dsW f 3 (by decide)).trans t3
      have hi : i < 26 := by
        rcases Nat.lt_or_ge i 26 with h | h
        · exact h
        · rw [Array.getElem?_eq_none (by simpa using h)] at ho; cases ho
      have hi' : i = 0 ∨ i = 1 ∨ i = 2 ∨ i = 3 ∨ i = 4 ∨ i = 5 ∨ i = 6 ∨ i = 7 ∨ i = 8 ∨ i = 9 ∨ i = 10 ∨ i = 11 ∨ i = 12 ∨ i = 13 ∨ i = 14 ∨ i = 15 ∨ i = 16 ∨ i = 17 ∨ i = 18 ∨ i = 19 ∨ i = 20 ∨ i = 21 ∨ i = 22 ∨ i = 23 ∨ i = 24 ∨ i = 25 := by omega
      have W3 := wanted_is (a0 := fr) (ds := dsW) (f := f) ho2 3 12 false (by rw [hops]; simp) (by decide) (Nat.lt_of_le_of_lt (by decide) hs)
      have W9 := wanted_is (a0 := fr) (ds := dsW) (f := f) ho2 9 18 false (by rw [hops]; simp) (by decide) (Nat.lt_of_le_of_lt (by decide) hs)
      have W13 := wanted_is (a0 := fr) (ds := dsW) (f := f) ho2 13 22 true (by rw [hops]; simp) (by decide) (Nat.lt_of_le_of_lt (by decide) hs)
      have W13u := wanted_undef (a0 := fr) (ds := dsW) (f := f) ho2 13 22 true (by rw [hops]; simp) (by decide) (Nat.lt_of_le_of_lt (by decide) hs)
      clear hops
      rcases hi' with rfl | rfl | rfl | rfl | rfl | rfl | rfl | rfl | rfl | rfl | rfl | rfl | rfl | rfl | rfl | rfl | rfl | rfl | rfl | rfl | rfl | rfl | rfl | rfl | rfl | rfl <;> simp only [List.getElem?_toArray, List.getElem?_cons_succ, List.getElem?_cons_zero, Option.some.injEq] at ho <;> subst ho
      · refine wpOp_runG ho2 (wanted_none rfl) (q_move (canon fr dsW f).eval _ wy _ rfl) ?_
        exact ⟨_, rfl, WF.mk (by decide) N0, Below.refl _ _⟩
      · refine wpOp_enterG ho2 (wanted_none rfl) (q_call1 (canon fr dsW f).eval _ wy _ enC _ _ rfl rfl) ?_
        rw [((canon_eval fr dsW f 9 (by decide) (Nat.lt_of_le_of_lt (by decide) hs)).trans ((hd ⟨0, .data⟩ (by simp) rfl).eq (by decide)))]
        refine (HC.out wy (HG.out wy hy).2 true hA).mono ?_
        rintro e wz ⟨rfl, hz⟩
        exact ⟨_, rfl, _, rfl, WF.mk (by decide) rfl, hz⟩
      · refine wpOp_runG ho2 (wanted_none rfl) (q_not (canon fr dsW f).eval _ wy _ _ rfl ((canon_eval fr dsW f 10 (by decide) (Nat.lt_of_le_of_lt (by decide) hs)).trans ((hd ⟨1, .data⟩ (by simp) rfl).eq (by decide)))) ?_
        exact ⟨_, rfl, WF.mk (by decide) rfl, Below.refl _ _⟩
      · refine wpOp_runG ho2 (wanted_none rfl) (q_move (canon fr dsW f).eval _ wy _ rfl) ?_
        exact ⟨_, rfl, WF.mk (by decide) ((canon_eval fr dsW f 11 (by decide) (Nat.lt_of_le_of_lt (by decide) hs)).trans ((hd ⟨2, .data⟩ (by simp) rfl).eq (by decide))), Below.refl _ _⟩
      · refine wpOp_runG ho2 ((W3 _ false ((hd ⟨3, .guard⟩ (by simp) rfl).eq (by decide)) rfl).trans rfl) (q_loadE (canon fr dsW f).eval _ wy _ w.heap.size x.a x.b x.c x.d rfl N3 (HG.out wy hy).1) ?_
        exact ⟨_, rfl, WF.mk (by decide) rfl, Below.refl _ _⟩
      · refine wpOp_runG ho2 ((W3 _ false ((hd ⟨3, .guard⟩ (by simp) rfl).eq (by decide)) rfl).trans rfl) (q_litE (canon fr dsW f).eval _ wy _ x.a x.b x.c x.d rfl ((canon_eval fr dsW f 13 (by decide) (Nat.lt_of_le_of_lt (by decide) hs)).trans ((hd ⟨4, .data⟩ (by simp) rfl).eq (by decide)))) ?_
        exact ⟨_, rfl, WF.mkLit wy, (Below.refl _ _).alloc (Nat.le_refl _) _⟩
      · obtain ⟨p', hp, hr, hpl⟩ := (hd ⟨5, .data⟩ (by simp) rfl).lit
        refine wpOp_enterG ho2 ((W3 _ false ((hd ⟨3, .guard⟩ (by simp) rfl).eq (by decide)) rfl).trans rfl) (q_call1 (canon fr dsW f).eval _ wy _ enC _ _ rfl rfl) ?_
        rw [(canon_eval fr dsW f 14 (by decide) (Nat.lt_of_le_of_lt (by decide) hs)).trans hp]
        refine (specChainL p' 0 1 [x] wy hr hpl (by simp) (by omega) true hF).mono ?_
        rintro e wz ⟨rfl, hz⟩
        exact ⟨_, rfl, _, rfl, WF.mk (by decide) rfl, hz⟩
      · refine wpOp_runG ho2 ((W3 _ false ((hd ⟨3, .guard⟩ (by simp) rfl).eq (by decide)) rfl).trans rfl) (q_not (canon fr dsW f).eval _ wy _ _ rfl ((canon_eval fr dsW f 15 (by decide) (Nat.lt_of_le_of_lt (by decide) hs)).trans ((hd ⟨6, .data⟩ (by simp) rfl).eq (by decide)))) ?_
        exact ⟨_, rfl, WF.mk (by decide) rfl, Below.refl _ _⟩
      · refine wpOp_runG ho2 (wanted_none rfl) (q_pickF (canon fr dsW f).eval _ wy _ _ _ rfl ((canon_eval fr dsW f 12 (by decide) (Nat.lt_of_le_of_lt (by decide) hs)).trans ((hd ⟨3, .data⟩ (by simp) rfl).eq (by decide)))) ?_
        exact ⟨_, rfl, WF.mk (by decide) ((canon_eval fr dsW f 16 (by decide) (Nat.lt_of_le_of_lt (by decide) hs)).trans ((hd ⟨7, .data⟩ (by simp) rfl).eq (by decide))), Below.refl _ _⟩
      · refine wpOp_runG ho2 (wanted_none rfl) (q_move (canon fr dsW f).eval _ wy _ rfl) ?_
        exact ⟨_, rfl, WF.mk (by decide) ((canon_eval fr dsW f 17 (by decide) (Nat.lt_of_le_of_lt (by decide) hs)).trans ((hd ⟨8, .data⟩ (by simp) rfl).eq (by decide))), Below.refl _ _⟩
      · refine wpOp_runG ho2 ((W9 _ false ((hd ⟨9, .guard⟩ (by simp) rfl).eq (by decide)) rfl).trans rfl) (q_move (canon fr dsW f).eval _ wy _ rfl) ?_
        exact ⟨_, rfl, WF.mk (by decide) N0, Below.refl _ _⟩
      · refine wpOp_runG ho2 ((W9 _ false ((hd ⟨9, .guard⟩ (by simp) rfl).eq (by decide)) rfl).trans rfl) (q_len (canon fr dsW f).eval _ wy _ _ _ _ rfl ((canon_eval fr dsW f 19 (by decide) (Nat.lt_of_le_of_lt (by decide) hs)).trans ((hd ⟨10, .data⟩ (by simp) rfl).eq (by decide)))) ?_
        exact ⟨_, rfl, WF.mk (by decide) rfl, Below.refl _ _⟩
      · refine wpOp_runG ho2 ((W9 _ false ((hd ⟨9, .guard⟩ (by simp) rfl).eq (by decide)) rfl).trans rfl) (q_gtr (canon fr dsW f).eval _ wy _ _ A.length rfl ((canon_eval fr dsW f 20 (by decide) (Nat.lt_of_le_of_lt (by decide) hs)).trans ((hd ⟨11, .data⟩ (by simp) rfl).eq (by decide))) rfl) ?_
        exact ⟨_, rfl, WF.mk (by decide) (congrArg Value.bool hM), Below.refl _ _⟩
      · refine wpOp_runG ho2 ((W9 _ false ((hd ⟨9, .guard⟩ (by simp) rfl).eq (by decide)) rfl).trans rfl) (q_move (canon fr dsW f).eval _ wy _ rfl) ?_
        exact ⟨_, rfl, WF.mk (by decide) ((canon_eval fr dsW f 21 (by decide) (Nat.lt_of_le_of_lt (by decide) hs)).trans ((hd ⟨12, .data⟩ (by simp) rfl).eq (by decide))), Below.refl _ _⟩
      · refine wpOp_runG ho2 ((W13 _ true ((hd ⟨13, .guard⟩ (by simp) rfl).eq (by decide)) rfl).trans rfl) (q_fieldE (canon fr dsW f).eval _ wy _ w.heap.size 0 rfl N3) ?_
        exact ⟨_, rfl, WF.mk (by decide) rfl, Below.refl _ _⟩
      · refine wpOp_runG ho2 ((W13 _ true ((hd ⟨13, .guard⟩ (by simp) rfl).eq (by decide)) rfl).trans rfl) (q_loadI (canon fr dsW f).eval _ wy _ w.heap.size 0 x.a rfl ((canon_eval fr dsW f 23 (by decide) (Nat.lt_of_le_of_lt (by decide) hs)).trans ((hd ⟨14, .data⟩ (by simp) rfl).eq (by decide))) (cellN (HG.out wy hy).1)) ?_
        exact ⟨_, rfl, WF.mk (by decide) rfl, Below.refl _ _⟩
      · refine wpOp_runG ho2 ((W13 _ true ((hd ⟨13, .guard⟩ (by simp) rfl).eq (by decide)) rfl).trans rfl) (q_move (canon fr dsW f).eval _ wy _ rfl) ?_
        exact ⟨_, rfl, WF.mk (by decide) N0, Below.refl _ _⟩
      · refine wpOp_runG ho2 ((W13 _ true ((hd ⟨13, .guard⟩ (by simp) rfl).eq (by decide)) rfl).trans rfl) (q_move (canon fr dsW f).eval _ wy _ rfl) ?_
        exact ⟨_, rfl, WF.mk (by decide) N0, Below.refl _ _⟩
      · refine wpOp_runG ho2 ((W13 _ true ((hd ⟨13, .guard⟩ (by simp) rfl).eq (by decide)) rfl).trans rfl) (q_len (canon fr dsW f).eval _ wy _ _ _ _ rfl ((canon_eval fr dsW f 26 (by decide) (Nat.lt_of_le_of_lt (by decide) hs)).trans ((hd ⟨17, .data⟩ (by simp) rfl).eq (by decide)))) ?_
        exact ⟨_, rfl, WF.mk (by decide) rfl, Below.refl _ _⟩
      · refine wpOp_runG ho2 ((W13 _ true ((hd ⟨13, .guard⟩ (by simp) rfl).eq (by decide)) rfl).trans rfl) (q_sub (canon fr dsW f).eval _ wy _ _ A.length rfl ((canon_eval fr dsW f 27 (by decide) (Nat.lt_of_le_of_lt (by decide) hs)).trans ((hd ⟨18, .data⟩ (by simp) rfl).eq (by decide))) rfl hn1 hn30) ?_
        exact ⟨_, rfl, WF.mk (by decide) rfl, Below.refl _ _⟩
      · refine wpOp_runG ho2 ((W13 _ true ((hd ⟨13, .guard⟩ (by simp) rfl).eq (by decide)) rfl).trans rfl) (q_idx (canon fr dsW f).eval _ wy _ _ b1 o1 A.length (A.length - 1) c1 rfl ((canon_eval fr dsW f 25 (by decide) (Nat.lt_of_le_of_lt (by decide) hs)).trans ((hd ⟨16, .data⟩ (by simp) rfl).eq (by decide))) ((canon_eval fr dsW f 28 (by decide) (Nat.lt_of_le_of_lt (by decide) hs)).trans ((hd ⟨19, .data⟩ (by simp) rfl).eq (by decide))) (by omega)) ?_
        exact ⟨_, rfl, WF.mk (by decide) rfl, Below.refl _ _⟩
      · refine wpOp_runG ho2 ((W13 _ true ((hd ⟨13, .guard⟩ (by simp) rfl).eq (by decide)) rfl).trans rfl) (q_fieldE (canon fr dsW f).eval _ wy _ b1 _ rfl ((canon_eval fr dsW f 29 (by decide) (Nat.lt_of_le_of_lt (by decide) hs)).trans ((hd ⟨20, .data⟩ (by simp) rfl).eq (by decide)))) ?_
        exact ⟨_, rfl, WF.mk (by decide) rfl, Below.refl _ _⟩
      · refine wpOp_runG ho2 ((W13 _ true ((hd ⟨13, .guard⟩ (by simp) rfl).eq (by decide)) rfl).trans rfl) (q_loadI (canon fr dsW f).eval _ wy _ b1 _ (A.getD (A.length - 1) evZ).a rfl ((canon_eval fr dsW f 30 (by decide) (Nat.lt_of_le_of_lt (by decide) hs)).trans ((hd ⟨21, .data⟩ (by simp) rfl).eq (by decide))) (hlast wy hy)) ?_
        exact ⟨_, rfl, WF.mk (by decide) rfl, Below.refl _ _⟩
      · refine wpOp_runG ho2 ((W13 _ true ((hd ⟨13, .guard⟩ (by simp) rfl).eq (by decide)) rfl).trans rfl) (q_lss (canon fr dsW f).eval _ wy _ _ x.a (A.getD (A.length - 1) evZ).a rfl ((canon_eval fr dsW f 24 (by decide) (Nat.lt_of_le_of_lt (by decide) hs)).trans ((hd ⟨15, .data⟩ (by simp) rfl).eq (by decide))) ((canon_eval fr dsW f 31 (by decide) (Nat.lt_of_le_of_lt (by decide) hs)).trans ((hd ⟨22, .data⟩ (by simp) rfl).eq (by decide)))) ?_
        exact ⟨_, rfl, WF.mk (by decide) rfl, Below.refl _ _⟩
      · refine wpOp_runG ho2 ((W9 _ false ((hd ⟨9, .guard⟩ (by simp) rfl).eq (by decide)) rfl).trans rfl) (q_pick (canon fr dsW f).eval _ wy _ _ _ rfl ((canon_eval fr dsW f 22 (by decide) (Nat.lt_of_le_of_lt (by decide) hs)).trans ((hd ⟨13, .data⟩ (by simp) rfl).eq (by decide)))) ?_
        exact ⟨_, rfl, WF.mk (by decide) ((canon_eval fr dsW f 32 (by decide) (Nat.lt_of_le_of_lt (by decide) hs)).trans ((hd ⟨23, .data⟩ (by simp) rfl).eq (by decide))), Below.refl _ _⟩
      · refine wpOp_runG ho2 (wanted_none rfl) (q_pickF (canon fr dsW f).eval _ wy _ _ _ rfl ((canon_eval fr dsW f 18 (by decide) (Nat.lt_of_le_of_lt (by decide) hs)).trans ((hd ⟨9, .data⟩ (by simp) rfl).eq (by decide)))) ?_
        exact ⟨_, rfl, WF.mk (by decide) ((canon_eval fr dsW f 33 (by decide) (Nat.lt_of_le_of_lt (by decide) hs)).trans ((hd ⟨24, .data⟩ (by simp) rfl).eq (by decide))), Below.refl _ _⟩
    · intro f wy hy hall
      have h34 : f 34 = _ := (hall 25 (by decide)).eq (by decide)
      exact hK _ _ (Met.intro (hJ _ _ ⟨f, congrArg (fun z => canon z dsW f) HFR.out, h34, hy⟩))
end Go.Proofs.Ytglnnocfdlachaa
