/-
  The program's recursive reader of terms returns what the plain reader returns, or panics with the reader's own word. No condition but that the reader lies in memory.
-/
import Derived.Test.YtcolcnkjcagbaaaDoorRead
namespace Go.Proofs.YtcolcnkjcagbaaaDoor
open Go.RowKit
set_option linter.unusedVariables false

/-- how the reader's term ends -/
def TermPost (R : Nat) (s : ByteArray) (w : World) : Option (Value × Nat × Nat) → Ending → World → Prop
  | some (v, j, m), e, w' => e = .returned v ∧ Rd w' R s j m ∧ Mut R w w'
  | none, e, w' => e = .panicked noWord ∧ Mut R w w'

/-- the contract of the reader's term at fuel f -/
def TermC (s : ByteArray) (R f : Nat) : Prop :=
  ∀ (i nd : Nat) (d : Int) (w : World), 1 ≤ d → d = 11 - (f : Int) → i ≤ s.size → nd ≤ 40 → Rd w R s i nd → Calls Tryd.prog 45 #[.pointer (some ⟨R, 0, none⟩), .int .i64 d] w fun e w' => TermPost R s w (pT s f i nd) e w'

set_option maxHeartbeats 400000 in
theorem term_zero (s : ByteArray) (R : Nat) : TermC s R 0 := by
  intro i nd d w hd1 hdf hi hnd h
  have hd : d = 11 := by omega
  subst hd
  have hr : Hid (pT s 0 i nd = none) := rfl
  have c2 := h.c2
  have f2 := h.f1 2
  clear hdf h
  by_cases h40 : (40 : Int) < (nd : Int) + 1
  · go_enter Tryd.func45, Tryd.ntmps45
    go_wp2
    refine ⟨rfl, ?_⟩
    rw [hr.out]
    exact ⟨rfl, (Mut.refl R w).setCell 2 _⟩
  · go_enter Tryd.func45, Tryd.ntmps45
    go_wp2
    refine ⟨rfl, ?_⟩
    rw [hr.out]
    exact ⟨rfl, (Mut.refl R w).setCell 2 _⟩

theorem pT_full {s : ByteArray} {f i nd : Nat} (h : 40 ≤ nd) : pT s (f + 1) i nd = none := by unfold pT; rw [if_pos h]
theorem pT_end {s : ByteArray} {f i nd : Nat} (h : ¬ 40 ≤ nd) (h2 : s.size ≤ i) : pT s (f + 1) i nd = none := by unfold pT; rw [if_neg h, if_pos h2]
/-- what the plain reader does at a letter of kind k -/
def pK (s : ByteArray) (f i nd : Nat) (k : Int) : Option (Value × Nat × Nat) :=
    if k = 1 ∨ k = 2 ∨ k = 3 then
      match numR s (i + 1) with
      | none => none
      | some (n, j) => some (.iface 77 (.agg #[.int .i64 k, .int .i64 n]), j, nd + 1)
    else if k = 4 then
      if preB s (i + 1) sLp = false then none
      else match pT s f (i + 1 + 1) (nd + 1) with
        | none => none
        | some (v, j, m) => if preB s j sRp = false then none else some (.iface 111 (.agg #[v]), j + 1, m)
    else if k = 5 then
      if preB s (i + 1) sLp = false then none
      else match pT s f (i + 1 + 1) (nd + 1) with
        | none => none
        | some (v, j, m) =>
          if preB s j sCm = false then none
          else match pT s f (j + 1) m with
            | none => none
            | some (v2, j2, m2) => if preB s j2 sRp = false then none else some (.iface 113 (.agg #[v, v2]), j2 + 1, m2)
    else if k = 6 ∨ k = 7 then
      if preB s (i + 1) sLk = false then none
      else match numR s (i + 1 + 2) with
        | none => none
        | some (n, j) =>
          if preB s j sCm = false then none
          else match pT s f (j + 1) (nd + 1) with
            | none => none
            | some (v, j2, m) => if preB s j2 sRp = false then none else some (.iface 71 (.agg #[.int .i64 k, .int .i64 n, v]), j2 + 1, m)
    else none

theorem pT_open {s : ByteArray} {f i nd : Nat} (h : ¬ 40 ≤ nd) (h2 : ¬ s.size ≤ i) : pT s (f + 1) i nd = pK s f i nd (kindI (bt s i)) := by
  rw [show pT s (f + 1) i nd = _ from rfl]
  unfold pK
  rw [pT, if_neg h, if_neg h2]
  rfl

theorem kindI_ways (c : Int) : kindI c = -1 ∨ kindI c = 0 ∨ kindI c = 1 ∨ kindI c = 2 ∨ kindI c = 3 ∨ kindI c = 4 ∨ kindI c = 5 ∨ kindI c = 6 ∨ kindI c = 7 := by
  unfold kindI
  repeat' split
  all_goals simp

set_option maxHeartbeats 8000000 in
theorem term_step (s : ByteArray) (R f : Nat) (hs : s.size ≤ 1048576) (ih : TermC s R f) : TermC s R (f + 1) := by
  intro i nd d w hd1 hdf hi hnd h
  have IH : Hid (TermC s R f) := ih
  have c2 := h.c2
  have f2 := h.f1 2
  have hdI : d ≤ 10 := by omega
  have hdf2 : Hid (d + 1 = 11 - (f : Int)) := by show _ = _; omega
  have HR : Hid (Rd w R s i nd) := h
  clear ih hdf h
  by_cases h40 : 40 ≤ nd
  · have hr : Hid (pT s (f + 1) i nd = none) := pT_full h40
    have h40' : (40 : Int) < (nd : Int) + 1 := by omega
    go_enter Tryd.func45, Tryd.ntmps45
    go_wp2
    refine ⟨rfl, ?_⟩
    rw [hr.out]
    exact ⟨rfl, (Mut.refl R w).setCell 2 _⟩
  have h40' : (nd : Int) + 1 ≤ 40 := by omega
  have hR1 : Rd (w.setCell ⟨R, 2, none⟩ (.int .i64 ((nd : Int) + 1))) R s i ((nd + 1 : Nat) : Int) := HR.out.set2 _
  have hM1 : Mut R w (w.setCell ⟨R, 2, none⟩ (.int .i64 ((nd : Int) + 1))) := (Mut.refl R w).setCell 2 _
  have HR1 : Hid (Rd (w.setCell ⟨R, 2, none⟩ (.int .i64 ((nd : Int) + 1))) R s i ((nd + 1 : Nat) : Int)) := hR1
  have HM1 : Hid (Mut R w (w.setCell ⟨R, 2, none⟩ (.int .i64 ((nd : Int) + 1)))) := hM1
  clear hR1 hM1
  by_cases hse : s.size ≤ i
  · have hr : Hid (pT s (f + 1) i nd = none) := pT_end h40 hse
    go_enter Tryd.func45, Tryd.ntmps45
    go_wp2_with fail
    refine (next_out R s i _ _ HR1.out hse (by omega)).mono ?_
    rintro e w1 ⟨rfl, hM2⟩
    go_wp2
    refine ⟨rfl, ?_⟩
    rw [hr.out]
    exact ⟨rfl, HM1.out.trans hM2⟩
  have HP0 : Hid (pT s (f + 1) i nd = pK s f i nd (kindI (bt s i))) := pT_open h40 hse
  have hil : i < s.size := by omega
  clear h40
  go_enter Tryd.func45, Tryd.ntmps45
  go_wp2_with fail
  refine (next_in R s i _ _ HR1.out hil hs).mono ?_
  rintro e w1 ⟨rfl, hR2, hM2⟩
  have HR2 : Hid (Rd w1 R s ((i + 1 : Nat) : Int) ((nd + 1 : Nat) : Int)) := hR2
  have HM2 : Hid (Mut R w w1) := HM1.out.trans hM2
  clear hR2 hM2 HR1 HM1 c2 f2 HR hse
  go_wp2_with fail
  refine (indexByte_any (bt s i) (bt_range hil) _).mono ?_
  rintro e w2 ⟨rfl, hw2⟩
  subst hw2
  obtain ⟨k, hk⟩ : ∃ k, kindI (bt s i) = k := ⟨_, rfl⟩
  have hkw := kindI_ways (bt s i)
  rw [hk] at hkw
  rw [hk] at HP0 ⊢
  have HP : Hid (pT s (f + 1) i nd = pK s f i nd k) := HP0
  clear HP0 hk
  rcases hkw with rfl | rfl | rfl | rfl | rfl | rfl | rfl | rfl | rfl
  · clear IH
    have hr : Hid (pT s (f + 1) i nd = none) := by
      show _ = _
      rw [HP.out]; simp [pK]
    go_wp2
    refine ⟨rfl, ?_⟩
    rw [hr.out]
    exact ⟨rfl, HM2.out⟩
  · clear IH
    have hr : Hid (pT s (f + 1) i nd = none) := by
      show _ = _
      rw [HP.out]; simp [pK]
    go_wp2
    refine ⟨rfl, ?_⟩
    rw [hr.out]
    exact ⟨rfl, HM2.out⟩
  · clear IH
    go_wp2_with fail
    refine (number_any R s (i + 1) _ _ HR2.out (by omega) hs).mono ?_
    intro e w3 hN
    cases en : numR s (i + 1) with
    | none =>
      rw [en] at hN
      obtain ⟨rfl, hM3⟩ := hN
      have hr : Hid (pT s (f + 1) i nd = none) := by
        show _ = _
        rw [HP.out]; simp [pK, en]
      go_wp2
      refine ⟨rfl, ?_⟩
      rw [hr.out]
      exact ⟨rfl, HM2.out.trans hM3⟩
    | some q =>
      obtain ⟨n, j⟩ := q
      rw [en] at hN
      obtain ⟨rfl, hR3, hM3⟩ := hN
      have hr : Hid (pT s (f + 1) i nd = some (.iface 77 (.agg #[.int .i64 1, .int .i64 n]), j, nd + 1)) := by
        show _ = _
        rw [HP.out]; simp [pK, en]
      clear en
      go_wp2
      go_ret
      rw [hr.out]
      exact ⟨rfl, hR3, HM2.out.trans hM3⟩
  · clear IH
    go_wp2_with fail
    refine (number_any R s (i + 1) _ _ HR2.out (by omega) hs).mono ?_
    intro e w3 hN
    cases en : numR s (i + 1) with
    | none =>
      rw [en] at hN
      obtain ⟨rfl, hM3⟩ := hN
      have hr : Hid (pT s (f + 1) i nd = none) := by
        show _ = _
        rw [HP.out]; simp [pK, en]
      go_wp2
      refine ⟨rfl, ?_⟩
      rw [hr.out]
      exact ⟨rfl, HM2.out.trans hM3⟩
    | some q =>
      obtain ⟨n, j⟩ := q
      rw [en] at hN
      obtain ⟨rfl, hR3, hM3⟩ := hN
      have hr : Hid (pT s (f + 1) i nd = some (.iface 77 (.agg #[.int .i64 2, .int .i64 n]), j, nd + 1)) := by
        show _ = _
        rw [HP.out]; simp [pK, en]
      clear en
      go_wp2
      go_ret
      rw [hr.out]
      exact ⟨rfl, hR3, HM2.out.trans hM3⟩
  · clear IH
    go_wp2_with fail
    refine (number_any R s (i + 1) _ _ HR2.out (by omega) hs).mono ?_
    intro e w3 hN
    cases en : numR s (i + 1) with
    | none =>
      rw [en] at hN
      obtain ⟨rfl, hM3⟩ := hN
      have hr : Hid (pT s (f + 1) i nd = none) := by
        show _ = _
        rw [HP.out]; simp [pK, en]
      go_wp2
      refine ⟨rfl, ?_⟩
      rw [hr.out]
      exact ⟨rfl, HM2.out.trans hM3⟩
    | some q =>
      obtain ⟨n, j⟩ := q
      rw [en] at hN
      obtain ⟨rfl, hR3, hM3⟩ := hN
      have hr : Hid (pT s (f + 1) i nd = some (.iface 77 (.agg #[.int .i64 3, .int .i64 n]), j, nd + 1)) := by
        show _ = _
        rw [HP.out]; simp [pK, en]
      clear en
      go_wp2
      go_ret
      rw [hr.out]
      exact ⟨rfl, hR3, HM2.out.trans hM3⟩
  · skip
    by_cases p1 : preB s (i + 1) sLp = true
    · go_wp2_with fail
      refine (skip_in R s sLp (i + 1) _ _ HR2.out (by omega) hs (by decide) p1).mono ?_
      rintro e w3 ⟨rfl, hRx, hMx⟩
      have rm3 := preB_room (s := s) (i := i + 1) (by omega) p1
      have z3 : sLp.size = 1 := rfl
      rw [z3] at rm3
      have HR3 : Hid (Rd w3 R s ((i + 1 + 1 : Nat) : Int) ((nd + 1 : Nat) : Int)) := hRx
      have HM3 : Hid (Mut R w w3) := HM2.out.trans hMx
      clear hRx hMx z3
      go_wp2_with fail
      refine (IH.out (i + 1 + 1) (nd + 1) (d + 1) _ (by omega) hdf2.out (by omega) (by omega) HR3.out).mono ?_
      intro e w4 hN
      cases e1 : pT s f (i + 1 + 1) (nd + 1) with
      | none =>
        rw [e1] at hN
        obtain ⟨rfl, hMx⟩ := hN
        have hr : Hid (pT s (f + 1) i nd = none) := by
          show _ = _
          rw [HP.out]; simp [pK, p1, e1]
        go_wp2
        refine ⟨rfl, ?_⟩
        rw [hr.out]
        exact ⟨rfl, HM3.out.trans hMx⟩
      | some q =>
        obtain ⟨v, j, m⟩ := q
        rw [e1] at hN
        obtain ⟨rfl, hRx, hMx⟩ := hN
        obtain ⟨bd4, be4, bf4, t4, u4, rfl⟩ := pT_bound _ _ _ _ _ _ (by omega) e1
        have HR4 : Hid (Rd w4 R s ((j : Nat) : Int) ((m : Nat) : Int)) := hRx
        have HM4 : Hid (Mut R w w4) := HM3.out.trans hMx
        have E4 := (show Hid _ from e1)
        clear hRx hMx e1
        by_cases p2 : preB s (j) sRp = true
        · go_wp2_with fail
          refine (skip_in R s sRp (j) _ _ HR4.out (by omega) hs (by decide) p2).mono ?_
          rintro e w5 ⟨rfl, hRx, hMx⟩
          have rm5 := preB_room (s := s) (i := j) (by omega) p2
          have z5 : sRp.size = 1 := rfl
          rw [z5] at rm5
          have HR5 : Hid (Rd w5 R s ((j + 1 : Nat) : Int) ((m : Nat) : Int)) := hRx
          have HM5 : Hid (Mut R w w5) := HM4.out.trans hMx
          clear hRx hMx z5
          have hr : Hid (pT s (f + 1) i nd = some (.iface 111 (.agg #[.iface t4 u4]), j + 1, m)) := by
            show _ = _
            rw [HP.out]; simp [pK, p1, E4.out, p2]
          go_wp2
          go_ret
          rw [hr.out]
          exact ⟨rfl, HR5.out, HM5.out⟩
        · have p2 : preB s (j) sRp = false := by simpa using p2
          go_wp2_with fail
          refine (skip_out R s sRp (j) _ _ HR4.out (by omega) hs (by decide) p2).mono ?_
          rintro e w5 ⟨rfl, hMx⟩
          have hr : Hid (pT s (f + 1) i nd = none) := by
            show _ = _
            rw [HP.out]; simp [pK, p1, E4.out, p2]
          go_wp2
          refine ⟨rfl, ?_⟩
          rw [hr.out]
          exact ⟨rfl, HM4.out.trans hMx⟩
    · have p1 : preB s (i + 1) sLp = false := by simpa using p1
      go_wp2_with fail
      refine (skip_out R s sLp (i + 1) _ _ HR2.out (by omega) hs (by decide) p1).mono ?_
      rintro e w3 ⟨rfl, hMx⟩
      have hr : Hid (pT s (f + 1) i nd = none) := by
        show _ = _
        rw [HP.out]; simp [pK, p1]
      go_wp2
      refine ⟨rfl, ?_⟩
      rw [hr.out]
      exact ⟨rfl, HM2.out.trans hMx⟩
  · skip
    by_cases p1 : preB s (i + 1) sLp = true
    · go_wp2_with fail
      refine (skip_in R s sLp (i + 1) _ _ HR2.out (by omega) hs (by decide) p1).mono ?_
      rintro e w3 ⟨rfl, hRx, hMx⟩
      have rm3 := preB_room (s := s) (i := i + 1) (by omega) p1
      have z3 : sLp.size = 1 := rfl
      rw [z3] at rm3
      have HR3 : Hid (Rd w3 R s ((i + 1 + 1 : Nat) : Int) ((nd + 1 : Nat) : Int)) := hRx
      have HM3 : Hid (Mut R w w3) := HM2.out.trans hMx
      clear hRx hMx z3
      go_wp2_with fail
      refine (IH.out (i + 1 + 1) (nd + 1) (d + 1) _ (by omega) hdf2.out (by omega) (by omega) HR3.out).mono ?_
      intro e w4 hN
      cases e1 : pT s f (i + 1 + 1) (nd + 1) with
      | none =>
        rw [e1] at hN
        obtain ⟨rfl, hMx⟩ := hN
        have hr : Hid (pT s (f + 1) i nd = none) := by
          show _ = _
          rw [HP.out]; simp [pK, p1, e1]
        go_wp2
        refine ⟨rfl, ?_⟩
        rw [hr.out]
        exact ⟨rfl, HM3.out.trans hMx⟩
      | some q =>
        obtain ⟨v, j, m⟩ := q
        rw [e1] at hN
        obtain ⟨rfl, hRx, hMx⟩ := hN
        obtain ⟨bd4, be4, bf4, t4, u4, rfl⟩ := pT_bound _ _ _ _ _ _ (by omega) e1
        have HR4 : Hid (Rd w4 R s ((j : Nat) : Int) ((m : Nat) : Int)) := hRx
        have HM4 : Hid (Mut R w w4) := HM3.out.trans hMx
        have E4 := (show Hid _ from e1)
        clear hRx hMx e1
        by_cases p2 : preB s (j) sCm = true
        · go_wp2_with fail
          refine (skip_in R s sCm (j) _ _ HR4.out (by omega) hs (by decide) p2).mono ?_
          rintro e w5 ⟨rfl, hRx, hMx⟩
          have rm5 := preB_room (s := s) (i := j) (by omega) p2
          have z5 : sCm.size = 1 := rfl
          rw [z5] at rm5
          have HR5 : Hid (Rd w5 R s ((j + 1 : Nat) : Int) ((m : Nat) : Int)) := hRx
          have HM5 : Hid (Mut R w w5) := HM4.out.trans hMx
          clear hRx hMx z5
          go_wp2_with fail
          refine (IH.out (j + 1) (m) (d + 1) _ (by omega) hdf2.out (by omega) (by omega) HR5.out).mono ?_
          intro e w6 hN
          cases e2 : pT s f (j + 1) (m) with
          | none =>
            rw [e2] at hN
            obtain ⟨rfl, hMx⟩ := hN
            have hr : Hid (pT s (f + 1) i nd = none) := by
              show _ = _
              rw [HP.out]; simp [pK, p1, E4.out, p2, e2]
            go_wp2
            refine ⟨rfl, ?_⟩
            rw [hr.out]
            exact ⟨rfl, HM5.out.trans hMx⟩
          | some q =>
            obtain ⟨v2, j2, m2⟩ := q
            rw [e2] at hN
            obtain ⟨rfl, hRx, hMx⟩ := hN
            obtain ⟨bd6, be6, bf6, t6, u6, rfl⟩ := pT_bound _ _ _ _ _ _ (by omega) e2
            have HR6 : Hid (Rd w6 R s ((j2 : Nat) : Int) ((m2 : Nat) : Int)) := hRx
            have HM6 : Hid (Mut R w w6) := HM5.out.trans hMx
            have E6 := (show Hid _ from e2)
            clear hRx hMx e2
            by_cases p3 : preB s (j2) sRp = true
            · go_wp2_with fail
              refine (skip_in R s sRp (j2) _ _ HR6.out (by omega) hs (by decide) p3).mono ?_
              rintro e w7 ⟨rfl, hRx, hMx⟩
              have rm7 := preB_room (s := s) (i := j2) (by omega) p3
              have z7 : sRp.size = 1 := rfl
              rw [z7] at rm7
              have HR7 : Hid (Rd w7 R s ((j2 + 1 : Nat) : Int) ((m2 : Nat) : Int)) := hRx
              have HM7 : Hid (Mut R w w7) := HM6.out.trans hMx
              clear hRx hMx z7
              have hr : Hid (pT s (f + 1) i nd = some (.iface 113 (.agg #[.iface t4 u4, .iface t6 u6]), j2 + 1, m2)) := by
                show _ = _
                rw [HP.out]; simp [pK, p1, E4.out, p2, E6.out, p3]
              go_wp2
              go_ret
              rw [hr.out]
              exact ⟨rfl, HR7.out, HM7.out⟩
            · have p3 : preB s (j2) sRp = false := by simpa using p3
              go_wp2_with fail
              refine (skip_out R s sRp (j2) _ _ HR6.out (by omega) hs (by decide) p3).mono ?_
              rintro e w7 ⟨rfl, hMx⟩
              have hr : Hid (pT s (f + 1) i nd = none) := by
                show _ = _
                rw [HP.out]; simp [pK, p1, E4.out, p2, E6.out, p3]
              go_wp2
              refine ⟨rfl, ?_⟩
              rw [hr.out]
              exact ⟨rfl, HM6.out.trans hMx⟩
        · have p2 : preB s (j) sCm = false := by simpa using p2
          go_wp2_with fail
          refine (skip_out R s sCm (j) _ _ HR4.out (by omega) hs (by decide) p2).mono ?_
          rintro e w5 ⟨rfl, hMx⟩
          have hr : Hid (pT s (f + 1) i nd = none) := by
            show _ = _
            rw [HP.out]; simp [pK, p1, E4.out, p2]
          go_wp2
          refine ⟨rfl, ?_⟩
          rw [hr.out]
          exact ⟨rfl, HM4.out.trans hMx⟩
    · have p1 : preB s (i + 1) sLp = false := by simpa using p1
      go_wp2_with fail
      refine (skip_out R s sLp (i + 1) _ _ HR2.out (by omega) hs (by decide) p1).mono ?_
      rintro e w3 ⟨rfl, hMx⟩
      have hr : Hid (pT s (f + 1) i nd = none) := by
        show _ = _
        rw [HP.out]; simp [pK, p1]
      go_wp2
      refine ⟨rfl, ?_⟩
      rw [hr.out]
      exact ⟨rfl, HM2.out.trans hMx⟩
  · skip
    by_cases p1 : preB s (i + 1) sLk = true
    · go_wp2_with fail
      refine (skip_in R s sLk (i + 1) _ _ HR2.out (by omega) hs (by decide) p1).mono ?_
      rintro e w3 ⟨rfl, hRx, hMx⟩
      have rm3 := preB_room (s := s) (i := i + 1) (by omega) p1
      have z3 : sLk.size = 2 := rfl
      rw [z3] at rm3
      have HR3 : Hid (Rd w3 R s ((i + 1 + 2 : Nat) : Int) ((nd + 1 : Nat) : Int)) := hRx
      have HM3 : Hid (Mut R w w3) := HM2.out.trans hMx
      clear hRx hMx z3
      go_wp2_with fail
      refine (number_any R s (i + 1 + 2) _ _ HR3.out (by omega) hs).mono ?_
      intro e w4 hN
      cases en : numR s (i + 1 + 2) with
      | none =>
        rw [en] at hN
        obtain ⟨rfl, hMx⟩ := hN
        have hr : Hid (pT s (f + 1) i nd = none) := by
          show _ = _
          rw [HP.out]; simp [pK, p1, en]
        go_wp2
        refine ⟨rfl, ?_⟩
        rw [hr.out]
        exact ⟨rfl, HM3.out.trans hMx⟩
      | some q =>
        obtain ⟨n, j⟩ := q
        rw [en] at hN
        obtain ⟨rfl, hRx, hMx⟩ := hN
        have bn := numR_bound (by omega) en
        have HR4 : Hid (Rd w4 R s ((j : Nat) : Int) ((nd + 1 : Nat) : Int)) := hRx
        have HM4 : Hid (Mut R w w4) := HM3.out.trans hMx
        have EN := (show Hid _ from en)
        clear hRx hMx en
        by_cases p2 : preB s (j) sCm = true
        · go_wp2_with fail
          refine (skip_in R s sCm (j) _ _ HR4.out (by omega) hs (by decide) p2).mono ?_
          rintro e w5 ⟨rfl, hRx, hMx⟩
          have rm5 := preB_room (s := s) (i := j) (by omega) p2
          have z5 : sCm.size = 1 := rfl
          rw [z5] at rm5
          have HR5 : Hid (Rd w5 R s ((j + 1 : Nat) : Int) ((nd + 1 : Nat) : Int)) := hRx
          have HM5 : Hid (Mut R w w5) := HM4.out.trans hMx
          clear hRx hMx z5
          go_wp2_with fail
          refine (IH.out (j + 1) (nd + 1) (d + 1) _ (by omega) hdf2.out (by omega) (by omega) HR5.out).mono ?_
          intro e w6 hN
          cases e2 : pT s f (j + 1) (nd + 1) with
          | none =>
            rw [e2] at hN
            obtain ⟨rfl, hMx⟩ := hN
            have hr : Hid (pT s (f + 1) i nd = none) := by
              show _ = _
              rw [HP.out]; simp [pK, p1, EN.out, p2, e2]
            go_wp2
            refine ⟨rfl, ?_⟩
            rw [hr.out]
            exact ⟨rfl, HM5.out.trans hMx⟩
          | some q =>
            obtain ⟨v2, j2, m2⟩ := q
            rw [e2] at hN
            obtain ⟨rfl, hRx, hMx⟩ := hN
            obtain ⟨bd6, be6, bf6, t6, u6, rfl⟩ := pT_bound _ _ _ _ _ _ (by omega) e2
            have HR6 : Hid (Rd w6 R s ((j2 : Nat) : Int) ((m2 : Nat) : Int)) := hRx
            have HM6 : Hid (Mut R w w6) := HM5.out.trans hMx
            have E6 := (show Hid _ from e2)
            clear hRx hMx e2
            by_cases p3 : preB s (j2) sRp = true
            · go_wp2_with fail
              refine (skip_in R s sRp (j2) _ _ HR6.out (by omega) hs (by decide) p3).mono ?_
              rintro e w7 ⟨rfl, hRx, hMx⟩
              have rm7 := preB_room (s := s) (i := j2) (by omega) p3
              have z7 : sRp.size = 1 := rfl
              rw [z7] at rm7
              have HR7 : Hid (Rd w7 R s ((j2 + 1 : Nat) : Int) ((m2 : Nat) : Int)) := hRx
              have HM7 : Hid (Mut R w w7) := HM6.out.trans hMx
              clear hRx hMx z7
              have hr : Hid (pT s (f + 1) i nd = some (.iface 71 (.agg #[.int .i64 6, .int .i64 n, .iface t6 u6]), j2 + 1, m2)) := by
                show _ = _
                rw [HP.out]; simp [pK, p1, EN.out, p2, E6.out, p3]
              go_wp2
              go_ret
              rw [hr.out]
              exact ⟨rfl, HR7.out, HM7.out⟩
            · have p3 : preB s (j2) sRp = false := by simpa using p3
              go_wp2_with fail
              refine (skip_out R s sRp (j2) _ _ HR6.out (by omega) hs (by decide) p3).mono ?_
              rintro e w7 ⟨rfl, hMx⟩
              have hr : Hid (pT s (f + 1) i nd = none) := by
                show _ = _
                rw [HP.out]; simp [pK, p1, EN.out, p2, E6.out, p3]
              go_wp2
              refine ⟨rfl, ?_⟩
              rw [hr.out]
              exact ⟨rfl, HM6.out.trans hMx⟩
        · have p2 : preB s (j) sCm = false := by simpa using p2
          go_wp2_with fail
          refine (skip_out R s sCm (j) _ _ HR4.out (by omega) hs (by decide) p2).mono ?_
          rintro e w5 ⟨rfl, hMx⟩
          have hr : Hid (pT s (f + 1) i nd = none) := by
            show _ = _
            rw [HP.out]; simp [pK, p1, EN.out, p2]
          go_wp2
          refine ⟨rfl, ?_⟩
          rw [hr.out]
          exact ⟨rfl, HM4.out.trans hMx⟩
    · have p1 : preB s (i + 1) sLk = false := by simpa using p1
      go_wp2_with fail
      refine (skip_out R s sLk (i + 1) _ _ HR2.out (by omega) hs (by decide) p1).mono ?_
      rintro e w3 ⟨rfl, hMx⟩
      have hr : Hid (pT s (f + 1) i nd = none) := by
        show _ = _
        rw [HP.out]; simp [pK, p1]
      go_wp2
      refine ⟨rfl, ?_⟩
      rw [hr.out]
      exact ⟨rfl, HM2.out.trans hMx⟩
  · skip
    by_cases p1 : preB s (i + 1) sLk = true
    · go_wp2_with fail
      refine (skip_in R s sLk (i + 1) _ _ HR2.out (by omega) hs (by decide) p1).mono ?_
      rintro e w3 ⟨rfl, hRx, hMx⟩
      have rm3 := preB_room (s := s) (i := i + 1) (by omega) p1
      have z3 : sLk.size = 2 := rfl
      rw [z3] at rm3
      have HR3 : Hid (Rd w3 R s ((i + 1 + 2 : Nat) : Int) ((nd + 1 : Nat) : Int)) := hRx
      have HM3 : Hid (Mut R w w3) := HM2.out.trans hMx
      clear hRx hMx z3
      go_wp2_with fail
      refine (number_any R s (i + 1 + 2) _ _ HR3.out (by omega) hs).mono ?_
      intro e w4 hN
      cases en : numR s (i + 1 + 2) with
      | none =>
        rw [en] at hN
        obtain ⟨rfl, hMx⟩ := hN
        have hr : Hid (pT s (f + 1) i nd = none) := by
          show _ = _
          rw [HP.out]; simp [pK, p1, en]
        go_wp2
        refine ⟨rfl, ?_⟩
        rw [hr.out]
        exact ⟨rfl, HM3.out.trans hMx⟩
      | some q =>
        obtain ⟨n, j⟩ := q
        rw [en] at hN
        obtain ⟨rfl, hRx, hMx⟩ := hN
        have bn := numR_bound (by omega) en
        have HR4 : Hid (Rd w4 R s ((j : Nat) : Int) ((nd + 1 : Nat) : Int)) := hRx
        have HM4 : Hid (Mut R w w4) := HM3.out.trans hMx
        have EN := (show Hid _ from en)
        clear hRx hMx en
        by_cases p2 : preB s (j) sCm = true
        · go_wp2_with fail
          refine (skip_in R s sCm (j) _ _ HR4.out (by omega) hs (by decide) p2).mono ?_
          rintro e w5 ⟨rfl, hRx, hMx⟩
          have rm5 := preB_room (s := s) (i := j) (by omega) p2
          have z5 : sCm.size = 1 := rfl
          rw [z5] at rm5
          have HR5 : Hid (Rd w5 R s ((j + 1 : Nat) : Int) ((nd + 1 : Nat) : Int)) := hRx
          have HM5 : Hid (Mut R w w5) := HM4.out.trans hMx
          clear hRx hMx z5
          go_wp2_with fail
          refine (IH.out (j + 1) (nd + 1) (d + 1) _ (by omega) hdf2.out (by omega) (by omega) HR5.out).mono ?_
          intro e w6 hN
          cases e2 : pT s f (j + 1) (nd + 1) with
          | none =>
            rw [e2] at hN
            obtain ⟨rfl, hMx⟩ := hN
            have hr : Hid (pT s (f + 1) i nd = none) := by
              show _ = _
              rw [HP.out]; simp [pK, p1, EN.out, p2, e2]
            go_wp2
            refine ⟨rfl, ?_⟩
            rw [hr.out]
            exact ⟨rfl, HM5.out.trans hMx⟩
          | some q =>
            obtain ⟨v2, j2, m2⟩ := q
            rw [e2] at hN
            obtain ⟨rfl, hRx, hMx⟩ := hN
            obtain ⟨bd6, be6, bf6, t6, u6, rfl⟩ := pT_bound _ _ _ _ _ _ (by omega) e2
            have HR6 : Hid (Rd w6 R s ((j2 : Nat) : Int) ((m2 : Nat) : Int)) := hRx
            have HM6 : Hid (Mut R w w6) := HM5.out.trans hMx
            have E6 := (show Hid _ from e2)
            clear hRx hMx e2
            by_cases p3 : preB s (j2) sRp = true
            · go_wp2_with fail
              refine (skip_in R s sRp (j2) _ _ HR6.out (by omega) hs (by decide) p3).mono ?_
              rintro e w7 ⟨rfl, hRx, hMx⟩
              have rm7 := preB_room (s := s) (i := j2) (by omega) p3
              have z7 : sRp.size = 1 := rfl
              rw [z7] at rm7
              have HR7 : Hid (Rd w7 R s ((j2 + 1 : Nat) : Int) ((m2 : Nat) : Int)) := hRx
              have HM7 : Hid (Mut R w w7) := HM6.out.trans hMx
              clear hRx hMx z7
              have hr : Hid (pT s (f + 1) i nd = some (.iface 71 (.agg #[.int .i64 7, .int .i64 n, .iface t6 u6]), j2 + 1, m2)) := by
                show _ = _
                rw [HP.out]; simp [pK, p1, EN.out, p2, E6.out, p3]
              go_wp2
              go_ret
              rw [hr.out]
              exact ⟨rfl, HR7.out, HM7.out⟩
            · have p3 : preB s (j2) sRp = false := by simpa using p3
              go_wp2_with fail
              refine (skip_out R s sRp (j2) _ _ HR6.out (by omega) hs (by decide) p3).mono ?_
              rintro e w7 ⟨rfl, hMx⟩
              have hr : Hid (pT s (f + 1) i nd = none) := by
                show _ = _
                rw [HP.out]; simp [pK, p1, EN.out, p2, E6.out, p3]
              go_wp2
              refine ⟨rfl, ?_⟩
              rw [hr.out]
              exact ⟨rfl, HM6.out.trans hMx⟩
        · have p2 : preB s (j) sCm = false := by simpa using p2
          go_wp2_with fail
          refine (skip_out R s sCm (j) _ _ HR4.out (by omega) hs (by decide) p2).mono ?_
          rintro e w5 ⟨rfl, hMx⟩
          have hr : Hid (pT s (f + 1) i nd = none) := by
            show _ = _
            rw [HP.out]; simp [pK, p1, EN.out, p2]
          go_wp2
          refine ⟨rfl, ?_⟩
          rw [hr.out]
          exact ⟨rfl, HM4.out.trans hMx⟩
    · have p1 : preB s (i + 1) sLk = false := by simpa using p1
      go_wp2_with fail
      refine (skip_out R s sLk (i + 1) _ _ HR2.out (by omega) hs (by decide) p1).mono ?_
      rintro e w3 ⟨rfl, hMx⟩
      have hr : Hid (pT s (f + 1) i nd = none) := by
        show _ = _
        rw [HP.out]; simp [pK, p1]
      go_wp2
      refine ⟨rfl, ?_⟩
      rw [hr.out]
      exact ⟨rfl, HM2.out.trans hMx⟩

theorem term_any (s : ByteArray) (R : Nat) (hs : s.size ≤ 1048576) : ∀ f, TermC s R f
  | 0 => term_zero s R
  | f + 1 => term_step s R f hs (term_any s R hs f)

end Go.Proofs.YtcolcnkjcagbaaaDoor
