/-
  The statement FnRowsMergedSaid: at every code the law returns true, and the code reads afterwards as it read before. No condition.
-/
import Derived.Test.YtjnngncnfbdpkaaRdE
import Derived.Test.YtjnngncnfbdpkaaOpenU5
import Derived.Test.YtjnngncnfbdpkaaRwZ
import Derived.Test.YtjnngncnfbdpkaaRwF
import Derived.Test.YtjnngncnfbdpkaaRows
namespace Go.Proofs.Ytjnngncnfbdpkaa
open Go.ChangeShapes Go.WideShapes Go.ChangeAt Go.RowKit Go.Deep
set_option linter.unusedVariables false

theorem implRows_any (v : Value) (L : List Rw) (w : World) (h : RdR w v L) (hL : L.length ≤ 1048576) :
    Calls Try.prog 16 #[v] w fun e w' => e = .returned (.bool (rowsB L)) ∧ Below w.heap.size w w' := by
  go_enter Try.func16, Try.ntmps16
  go_wp2_with fail
  refine (tallies_any v L w h hL).mono ?_
  rintro e w1 ⟨hr, hB⟩
  rcases hr with ⟨hr, rfl⟩ | ⟨hr, E, rfl, _⟩
  · go_wp2
    go_ret
    exact ⟨ret_bool hr.symm, hB⟩
  · go_wp2
    go_ret
    exact ⟨ret_bool hr.symm, hB⟩


set_option maxRecDepth 10000 in
set_option maxHeartbeats 8000000 in
theorem rmerged_walk {a : Option Addr} {len cap : Nat} {Z : Nat → Int} (W : World) (hU : IsU8 W a len cap Z) :
    Calls Try.prog 4 #[.slice a len cap] W fun e w' => e = .returned (.bool true) ∧ Below W.heap.size W w' := by
  go_enter Try.func4, Try.ntmps4
  go_wp2_with fail
  refine (big_any _ _ _ _).mono ?_
  rintro e w0 ⟨rfl, rfl⟩
  by_cases hbg : (1048576 : Int) < (len : Int)
  · go_wp2
    go_ret
    exact ⟨rfl, Below.refl _ _⟩
  have hbd : decide ((1048576 : Int) < (len : Int)) = false := by simpa using hbg
  clear hbg
  go_wp2_with fail
  refine (drawMerged_any hU).mono ?_
  rintro e w1 ⟨va, A, vb, B, rfl, hA, hB, hR1, hR2, hB1⟩
  have RA : Hid (∀ w', Below w1.heap.size w1 w' → RdR w' va A) := fun w' h => hR1.below h
  have RB : Hid (∀ w', Below w1.heap.size w1 w' → RdR w' vb B) := fun w' h => hR2.below h
  have HB1 : Hid (Below w0.heap.size w0 w1) := hB1
  have HL : Hid (A.length ≤ 1048576 ∧ B.length ≤ 1048576) := ⟨by omega, by omega⟩
  clear hR1 hR2 hB1 hA hB hU
  go_wp2_with fail
  refine (implMerged_any va vb A B w1 (RA.out _ (Below.refl _ _)) (RB.out _ (Below.refl _ _)) HL.out.1 HL.out.2).mono ?_
  rintro e X ⟨vm, rfl, hM, hX⟩
  have HX : Hid (Below w1.heap.size w1 X) := hX
  have RM : Hid (∀ w', Below X.heap.size X w' → RdR w' vm (mgR A B)) := fun w' h => hM.rd.below h
  clear hM hX
  go_wp2_with fail
  refine (specMerged_any va vb A B X (RA.out _ HX.out) (RB.out _ HX.out)).mono ?_
  rintro e x1 ⟨u1, rfl, r1, q1⟩
  have HX1 : Hid (Below X.heap.size X x1) := q1
  have RW : Hid (∀ w', Below x1.heap.size x1 w' → RdR w' u1 (mgR A B)) := fun w' h => r1.rd.below h
  clear q1 r1
  cases hb : (rowsB A && rowsB B) with
  | false =>
    go_wp2_with fail
    refine (sameRows_same _ _ _ _ (RM.out _ HX1.out) (RW.out _ (Below.refl _ _))).mono ?_
    rintro e x2 ⟨rfl, q2⟩
    have HW2 : Hid (Below x1.heap.size x1 x2) := q2
    have HX2 : Hid (Below X.heap.size X x2) := HX1.out.trans (q2.mono HX1.out.size)
    clear q2
    go_wp2_with fail
    refine (implRows_any va A _ (RA.out _ (HX.out.trans (HX2.out.mono HX.out.size))) HL.out.1).mono ?_
    rintro e x3 ⟨rfl, q3⟩
    have HW3 : Hid (Below x1.heap.size x1 x3) := HW2.out.trans (q3.mono HW2.out.size)
    have HX3 : Hid (Below X.heap.size X x3) := HX2.out.trans (q3.mono HX2.out.size)
    clear q3
    go_wp2_with fail
    refine (specRows_any va A _ (RA.out _ (HX.out.trans (HX3.out.mono HX.out.size)))).mono ?_
    rintro e x4 ⟨rfl, q4⟩
    have HW4 : Hid (Below x1.heap.size x1 x4) := HW3.out.trans (q4.mono HW3.out.size)
    have HX4 : Hid (Below X.heap.size X x4) := HX3.out.trans (q4.mono HX3.out.size)
    clear q4
    generalize rowsB A = ra
    have hra : (ra != ra) = false := by simp
    clear hb
    go_wp2_with fail
    refine (sameRows_same _ _ _ _ (RM.out _ HX4.out) (RW.out _ HW4.out)).mono ?_
    rintro e x5 ⟨rfl, q5⟩
    have HX5 : Hid (Below X.heap.size X x5) := HX4.out.trans (q5.mono HX4.out.size)
    clear q5
    go_wp2
    go_ret
    exact ⟨rfl, (HB1.out.trans (HX.out.mono HB1.out.size)).trans (HX5.out.mono (HB1.out.trans (HX.out.mono HB1.out.size)).size)⟩
  | true =>
    have hbA : rowsB A = true := by revert hb; cases rowsB A <;> simp
    have hbB : rowsB B = true := by revert hb; cases rowsB B <;> simp
    have hbM := mgR_ok hbA hbB
    have E1 : Hid (mgR B A = mgR A B) := (mgR_comm B A)
    have E2 : Hid (mgR (mgR A B) B = mgR A B) := mgR_again hbA hbB
    have E3 : Hid (mgR A A = A) := mgR_self hbA
    have hlM : (mgR A B).length ≤ 1048576 := by have := mgR_len A B; omega
    obtain ⟨M, hMM⟩ : ∃ M, M = mgR A B := ⟨_, rfl⟩
    rw [← hMM] at hbM E1 E2 hlM RM RW
    have HBA : Hid (rowsB A = true) := hbA
    have HBB : Hid (rowsB B = true) := hbB
    have HBM : Hid (rowsB M = true) := hbM
    clear hb hbA hbB hbM hMM
    go_wp2_with fail
    refine (sameRows_same _ _ _ _ (RM.out _ HX1.out) (RW.out _ (Below.refl _ _))).mono ?_
    rintro e x2 ⟨rfl, q2⟩
    have HW2 : Hid (Below x1.heap.size x1 x2) := q2
    have HX2 : Hid (Below X.heap.size X x2) := HX1.out.trans (q2.mono HX1.out.size)
    clear q2
    go_wp2_with fail
    refine (implRows_any va A _ (RA.out _ (HX.out.trans (HX2.out.mono HX.out.size))) HL.out.1).mono ?_
    rintro e x3 ⟨rfl, q3⟩
    have HW3 : Hid (Below x1.heap.size x1 x3) := HW2.out.trans (q3.mono HW2.out.size)
    have HX3 : Hid (Below X.heap.size X x3) := HX2.out.trans (q3.mono HX2.out.size)
    clear q3
    go_wp2_with fail
    refine (specRows_any va A _ (RA.out _ (HX.out.trans (HX3.out.mono HX.out.size)))).mono ?_
    rintro e x4 ⟨rfl, q4⟩
    have HW4 : Hid (Below x1.heap.size x1 x4) := HW3.out.trans (q4.mono HW3.out.size)
    have HX4 : Hid (Below X.heap.size X x4) := HX3.out.trans (q4.mono HX3.out.size)
    clear q4
    rw [HBA.out]
    go_wp2_with fail
    refine (implMerged_any vb va B A _ (RB.out _ (HX.out.trans (HX4.out.mono HX.out.size))) (RA.out _ (HX.out.trans (HX4.out.mono HX.out.size))) HL.out.2 HL.out.1).mono ?_
    rintro e z1 ⟨vn, rfl, hn, q⟩
    have HZ1 : Hid (Below X.heap.size X z1) := HX4.out.trans (q.mono HX4.out.size)
    rw [E1.out] at hn
    have RN : Hid (∀ w', Below z1.heap.size z1 w' → RdR w' vn M) := fun w' h => hn.rd.below h
    clear hn q
    rw [HBA.out, HBB.out]
    go_wp2_with fail
    refine (implMerged_any vm vb M B _ (RM.out _ HZ1.out) (RB.out _ (HX.out.trans (HZ1.out.mono HX.out.size))) hlM HL.out.2).mono ?_
    rintro e z2 ⟨vg, rfl, hg, q⟩
    have HY2 : Hid (Below z1.heap.size z1 z2) := q
    have HZ2 : Hid (Below X.heap.size X z2) := HZ1.out.trans (q.mono HZ1.out.size)
    rw [E2.out] at hg
    have RG : Hid (∀ w', Below z2.heap.size z2 w' → RdR w' vg M) := fun w' h => hg.rd.below h
    clear hg q
    rw [HBM.out, HBB.out]
    go_wp2_with fail
    refine (implMerged_any va va A A _ (RA.out _ (HX.out.trans (HZ2.out.mono HX.out.size))) (RA.out _ (HX.out.trans (HZ2.out.mono HX.out.size))) HL.out.1 HL.out.1).mono ?_
    rintro e z3 ⟨vs, rfl, hs, q⟩
    have HY3 : Hid (Below z1.heap.size z1 z3) := HY2.out.trans (q.mono HY2.out.size)
    have HV3 : Hid (Below z2.heap.size z2 z3) := q
    have HZ3 : Hid (Below X.heap.size X z3) := HZ2.out.trans (q.mono HZ2.out.size)
    rw [E3.out] at hs
    have RS : Hid (∀ w', Below z3.heap.size z3 w' → RdR w' vs A) := fun w' h => hs.rd.below h
    clear hs q
    rw [HBA.out]
    go_wp2_with fail
    refine (implRows_any vm M _ (RM.out _ HZ3.out) hlM).mono ?_
    rintro e z4 ⟨rfl, q⟩
    have HS4 : Hid (Below z3.heap.size z3 z4) := q
    clear q
    rw [HBM.out]
    go_wp2_with fail
    have hz4 := HZ3.out.trans (HS4.out.mono HZ3.out.size)
    refine (sameRows_same _ _ _ _ (RN.out _ (HY3.out.trans (HS4.out.mono HY3.out.size))) (RM.out _ hz4)).mono ?_
    rintro e z5 ⟨rfl, q⟩
    have HS5 : Hid (Below z3.heap.size z3 z5) := HS4.out.trans (q.mono HS4.out.size)
    clear q hz4
    go_wp2_with fail
    have hz5 := HZ3.out.trans (HS5.out.mono HZ3.out.size)
    refine (sameRows_same _ _ _ _ (RG.out _ (HV3.out.trans (HS5.out.mono HV3.out.size))) (RM.out _ hz5)).mono ?_
    rintro e z6 ⟨rfl, q⟩
    have HS6 : Hid (Below z3.heap.size z3 z6) := HS5.out.trans (q.mono HS5.out.size)
    clear q hz5
    go_wp2_with fail
    have hz6 := HZ3.out.trans (HS6.out.mono HZ3.out.size)
    refine (sameRows_same _ _ _ _ (RS.out _ HS6.out) (RA.out _ (HX.out.trans (hz6.mono HX.out.size)))).mono ?_
    rintro e z7 ⟨rfl, q⟩
    have HZ7 : Hid (Below X.heap.size X z7) := hz6.trans (q.mono hz6.size)
    clear q hz6
    go_wp2
    go_ret
    exact ⟨rfl, (HB1.out.trans (HX.out.mono HB1.out.size)).trans (HZ7.out.mono (HB1.out.trans (HX.out.mono HB1.out.size)).size)⟩

set_option maxRecDepth 100000 in
theorem rmerged_lifted (os : Os) (started : os.Started) (H : Type) (enc : TypeId × Value → H) :
    ReturnsInHanded {} Try.checked os 4 .any (Rows.fnRowsMergedSpec.pre6 enc Try.prog Try.f4 Rows.fnRowsMergedRow.domain false) (Rows.fnRowsMergedSpec.post enc Try.prog Try.f4 false true false false) := by
  refine returnsInHanded_of_change (C := Try.checked) own started (by kernel_rfl) Try.func4
    (ChangeSpec.witness6 (enc := enc) (C := Try.checked) false ⟨#[], #[.slice none 0 0], []⟩ 8 (by kernel_rfl) (by kernel_rfl) (by kernel_rfl) (by kernel_rfl)) ?_
  intro W base args ds gs before hval0 hW hcnd _
  have hval : ∀ (j : Nat) t v, Try.f4.params[j]? = some t → args[j]? = some v → Value.okWide Try.prog W .any base t v := hval0
  have hW' := hW
  obtain ⟨p, q, hA0, hV, rfl, hfz, hnd⟩ := hW
  have hA : DataW.TrodAll enc Try.prog W 0 (fun _ => true) true Try.f4.params.toList args.toList ds p := hA0
  rw [Try.params4] at hA hval
  obtain ⟨v0, vs0, d0, ds0, p0, q0, hargs, rfl, rfl, h0, r0⟩ := trodAll_cons hA
  obtain ⟨rfl, rfl, rfl⟩ := trodAll_nil r0
  obtain rfl : args = #[v0] := by cases args; simp_all
  obtain ⟨rfl, rfl⟩ := trodVars_none hV
  obtain ⟨a0, len0, cap0, rfl⟩ := okWide_slice Try.underlying31 (hval 0 31 v0 rfl rfl)
  have k0 := h0
  have lt0 : ∀ x ∈ p0, x.block < W.heap.size := by obtain ⟨m, hm⟩ := k0; exact DataW.trod_lt m _ _ _ hm
  obtain ⟨Z, w0⟩ : ∃ Z, IsU8 W a0 len0 cap0 Z := by
    obtain ⟨fuel, hf⟩ := h0
    obtain ⟨a, len, cap, Z, e, hI⟩ := open_u8 (by simpa [Value.cells] using hf)
    simp at e
    obtain ⟨rfl, rfl, rfl⟩ := e
    exact ⟨Z, hI⟩
  clear hA0 hval0
  refine (rmerged_walk W w0).mono fun e W' ⟨he, bel⟩ => ?_
  subst he
  exact ⟨_, rfl, _, _, _, [], _, [], hW', trodAll_mk1 (shut_bool Try.underlying4 _), (trodAll_cons_mk (Below.trod laidOut (by kernel_rfl) (of_decide_eq_true (by kernel_rfl)) k0 bel lt0) trodAll_mk0), rfl, bel.frame _, fun h => by cases h⟩

theorem rmerged_proved : Rows.FnRowsMergedSaid :=
  OpenClaim.holds_of_wide 4 Try.f4 rfl rfl rfl rfl rfl rfl rfl ⟨rfl, rfl, rfl, rfl, rfl⟩ rfl rfl rfl rfl rfl (by kernel_rfl) Try.func4 (by kernel_rfl)
    (of_decide_eq_true (by kernel_rfl)) (by unfold Func.isWrapper; first | (rw [if_pos (by decide +kernel)]; kernel_rfl) | (rw [if_neg (by decide +kernel)]; exact ⟨rfl, rfl⟩))
    (fun os started H enc _ => rmerged_lifted os started H enc)
#print axioms rmerged_proved
end Go.Proofs.Ytjnngncnfbdpkaa
