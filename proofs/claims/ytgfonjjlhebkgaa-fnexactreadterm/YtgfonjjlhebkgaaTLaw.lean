/-
  The statement FnExactReadTermSaid: at every text the law returns true. No condition.
-/
import Derived.Test.YtgfonjjlhebkgaaTBoth
import Derived.Test.YtgfonjjlhebkgaaRows
import Derived.ProofKit
import Derived.OpenShut
import Derived.ShutString
import Derived.ChangeOld
namespace Go.Proofs.Ytgfonjjlhebkgaa
open Go.ChangeShapes Go.WideShapes Go.ChangeAt Go.RowKit Go.Deep
set_option linter.unusedVariables false

set_option maxHeartbeats 4000000 in
theorem readTerm_walk (t : ByteArray) (w : World) :
    Calls Try.prog 3 #[.string t] w fun e w' => e = .returned (.bool true) ∧ Below w.heap.size w w' := by
  by_cases hbig : (1048576 : Int) < (t.size : Int)
  · go_enter Try.func3, Try.ntmps3
    go_wp2
    go_ret
    exact ⟨rfl, Below.refl _ _⟩
  have ht : t.size ≤ 1048576 := by omega
  have hbigI : decide ((1048576 : Int) < (t.size : Int)) = false := by simp; omega
  obtain ⟨l, x, hl, gS, gI⟩ := both_give t ht
  have HS : Hid (Gives 4 t l x) := gS
  have HI : Hid (Gives 5 t l x) := gI
  have hxx : (x != x) = false := by simp
  clear hbig gS gI
  go_enter Try.func3, Try.ntmps3
  go_wp2_with fail
  refine (HS.out w).mono ?_
  rintro e w1 ⟨a1, c1, rfl, o1, B1⟩
  have i1 := own_nodes o1
  go_wp2_with fail
  refine (HI.out w1).mono ?_
  rintro e w2 ⟨a2, c2, rfl, o2, B2⟩
  have i2 := own_nodes o2
  have b2 := B1.trans (B2.mono B1.size)
  go_wp2_with fail
  refine (eqTNodeS_same _ _ _ _ _ _ _ _ _ _ i2 (i1.below B2)).mono ?_
  rintro e w3 ⟨rfl, B3⟩
  have b3 := b2.trans (B3.mono b2.size)
  have k3 := B2.trans (B3.mono B2.size)
  have o3 : w3.ownsRow w1.heap.size 40 4 (.slice a2 l.length c2) l.length (ndCells l) := ownsRow_below o2 B3
  obtain ⟨n, hn⟩ : ∃ n, n = l.length := ⟨_, rfl⟩
  have HN : Hid (n = l.length) := hn
  rw [← hn] at hl o3 i1 ⊢
  clear hn o2 i2 B2 B3 b2 o1
  go_wp2_with fail
  refine (markTNodeS_any a2 n c2 w1.heap.size (ndCells l) 1 _ o3 (by omega)).mono ?_
  rintro e w4 ⟨rfl, o4, G4⟩
  have hrow : ∀ k, (Value.slice a2 n c2).ownBlock = some k → w1.heap.size ≤ k := fun k hk => (o3.lt k hk).1
  have k4 : Below w1.heap.size w1 w4 := k3.trans ⟨G4.os, G4.tape, G4.output, G4.size, fun k hk => G4.block k (by have := k3.size; omega) (fun e => by have := hrow k e.symm; omega)⟩
  have b4 : Below w.heap.size w w4 := B1.trans (k4.mono B1.size)
  have i4 := nodes_marked o4
  clear o3 o4 G4 hrow k3 b3
  have hkn : decide (((1 + 4 * n : Nat) : Int) < 0) = false := by simp; omega
  have hq2 : ((((1 + 4 * n : Nat) : Int)) != ((1 + 4 * n : Nat) : Int)) = false := by simp
  go_wp2_with fail
  refine (heldTNodeS_any a2 n c2 1 _ i4 (by omega)).mono ?_
  rintro e w5 ⟨rfl, B5⟩
  have b5 := b4.trans (B5.mono b4.size)
  have k5 := k4.trans (B5.mono k4.size)
  go_wp2_with fail
  refine (HI.out w5).mono ?_
  rintro e w6 ⟨a6, c6, rfl, o6, B6⟩
  have i6 := own_nodes o6
  rw [← HN.out] at i6 ⊢
  have b6 := b5.trans (B6.mono b5.size)
  have k6 := k5.trans (B6.mono k5.size)
  have j1 := i1.below k6
  clear o6
  go_wp2_with fail
  refine (eqTNodeS_same _ _ _ _ _ _ _ _ _ _ i6 j1).mono ?_
  rintro e w7 ⟨rfl, B7⟩
  have b7 := b6.trans (B7.mono b6.size)
  have i7 := i4.below (B5.trans ((B6.trans (B7.mono B6.size)).mono B5.size))
  go_wp2_with fail
  refine (heldTNodeS_any a2 n c2 1 _ i7 (by omega)).mono ?_
  rintro e w8 ⟨rfl, B8⟩
  go_wp2
  go_ret
  exact ⟨rfl, b7.trans (B8.mono b7.size)⟩

theorem own : ownKnob Try.prog.godebug = none := by kernel_rfl
theorem laidOut : laidOutB Try.prog = true := by kernel_rfl

set_option maxRecDepth 100000 in
theorem readTerm_lifted (os : Os) (started : os.Started) (H : Type) (enc : TypeId × Value → H) :
    ReturnsInHanded {} Try.checked os 3 .any (Rows.fnExactReadTermSpec.pre6 enc Try.prog Try.f3 Rows.fnExactReadTermRow.domain false) (Rows.fnExactReadTermSpec.post enc Try.prog Try.f3 false true false false) := by
  refine returnsInHanded_of_change (C := Try.checked) own started (by kernel_rfl) Try.func3
    (ChangeSpec.witness6 (enc := enc) (C := Try.checked) false ⟨#[], #[.string ⟨#[]⟩], []⟩ 8 (by kernel_rfl) (by kernel_rfl) (by kernel_rfl) (by kernel_rfl)) ?_
  intro W base args ds gs before hval0 hW hcnd _
  have hval : ∀ (j : Nat) t v, Try.f3.params[j]? = some t → args[j]? = some v → Value.okWide Try.prog W .any base t v := hval0
  have hW' := hW
  obtain ⟨p, q, hA0, hV, rfl, hfz, hnd⟩ := hW
  have hA : DataW.TrodAll enc Try.prog W 0 (fun _ => true) true Try.f3.params.toList args.toList ds p := hA0
  rw [Try.params3] at hA hval
  obtain ⟨v1, vs1, d1, ds1, p1, q1, hargs, rfl, rfl, h1, r1⟩ := trodAll_cons hA
  obtain ⟨rfl, rfl, rfl⟩ := trodAll_nil r1
  obtain rfl : args = #[v1] := by cases args; simp_all
  obtain ⟨rfl, rfl⟩ := trodVars_none hV
  obtain ⟨s, rfl, rfl, rfl, ws⟩ := Go.ChangeMaps.open_string Try.underlying9 (hval 0 9 v1 rfl rfl) h1
  clear hA0 hval0
  refine (readTerm_walk s W).mono fun e W' ⟨he, bel⟩ => ?_
  subst he
  exact ⟨_, rfl, _, _, _, [], _, [], hW', trodAll_mk1 (shut_bool Try.underlying4 _), (trodAll_cons_mk (Go.ChangeMaps.shut_string Try.underlying9 ws) trodAll_mk0), rfl, bel.frame _, fun h => by cases h⟩

theorem readTerm_proved : Rows.FnExactReadTermSaid :=
  OpenClaim.holds_of_wide 3 Try.f3 rfl rfl rfl rfl rfl rfl rfl ⟨rfl, rfl, rfl, rfl, rfl⟩ rfl rfl rfl rfl rfl (by kernel_rfl) Try.func3 (by kernel_rfl)
    (of_decide_eq_true (by kernel_rfl)) (by unfold Func.isWrapper; first | (rw [if_pos (by decide +kernel)]; kernel_rfl) | (rw [if_neg (by decide +kernel)]; exact ⟨rfl, rfl⟩))
    (fun os started H enc _ => readTerm_lifted os started H enc)
#print axioms readTerm_proved
end Go.Proofs.Ytgfonjjlhebkgaa
