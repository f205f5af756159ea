/-
  The card FnExactCommitsOkCardSaid: at every slice of commitments the law returns true, and the slice reads afterwards as before. Conditions: the row's own (the library's tables that it lists start as they are laid).
-/
import Derived.Test.YtcaacchhmhdbpaaDoorCmOpen
namespace Go.Proofs.YtcaacchhmhdbpaaDoor
open Go.ChangeShapes Go.WideShapes Go.ChangeAt Go.RowKit Go.Deep
set_option linter.unusedVariables false

theorem cmsB_at (D : Nat → Cm) (G : Nat → Nat) (len : Nat) : cmsB (fun i => (D i).at (G i)) len = cmsB D len := rfl

set_option maxHeartbeats 2000000 in
theorem lawC_walk (a : Option Addr) (len cap : Nat) (D : Nat → Cm) (w : World) (h : IsCms w a len cap D) (hf : CFine D len) :
    Calls Tryd.prog 3 #[.slice a len cap] w fun e w' => e = .returned (.bool true) ∧ Below w.heap.size w w' := by
  go_enter Tryd.func3, Tryd.ntmps3
  go_wp2_with fail
  refine (szCms_any a len cap D _ h hf _ (by omega) (by omega)).mono ?_
  rintro e w1 ⟨r, rfl, hr, hB1⟩
  rcases hr with hr | ⟨hr, hrl, hl, hz0⟩
  · go_wp2
    go_ret
    exact ⟨rfl, hB1⟩
  have hz : ∀ i, i < len → (D i).n ≤ 1048576 := fun i hi => (hz0 i hi).1
  clear hz0
  have H1 := h.below hB1
  go_wp2_with fail
  refine (toCms_any a len cap D _ H1 hl hz).mono ?_
  rintro e w2 ⟨g2, G2, rfl, i2, hB2⟩
  have b2 := hB1.trans (hB2.mono hB1.size)
  have f2 : CFine (fun i => (D i).at (G2 i)) len := hf
  go_wp2_with fail
  refine (specCms_any _ len len _ _ i2 f2).mono ?_
  rintro e w3 ⟨rfl, hB3⟩
  rw [cmsB_at]
  have b3 := b2.trans (hB3.mono b2.size)
  go_wp2_with fail
  refine (toCms_any a len cap D _ (h.below b3) hl hz).mono ?_
  rintro e w4 ⟨g4, G4, rfl, i4, hB4⟩
  have b4 := b3.trans (hB4.mono b3.size)
  have f4 : CFine (fun i => (D i).at (G4 i)) len := hf
  go_wp2_with fail
  refine (implCms_any _ len len _ _ i4 f4).mono ?_
  rintro e w5 ⟨rfl, hB5⟩
  rw [cmsB_at]
  have b5 := b4.trans (hB5.mono b4.size)
  have i5 := i4.below hB5
  generalize cmsB D len = x
  have hx : (x != x) = false := by simp
  go_wp2_with fail
  refine (toCms_any a len cap D _ (h.below b5) hl hz).mono ?_
  rintro e w6 ⟨g6, G6, rfl, i6, hB6⟩
  have b6 := b5.trans (hB6.mono b5.size)
  go_wp2_with fail
  refine (eqCms_like _ _ len len len _ _ _ (i5.below hB6) i6 (fun i hi => ⟨rfl, rfl, rfl, rfl⟩)).mono ?_
  rintro e w7 ⟨rfl, hB7⟩
  go_wp2
  go_ret
  exact ⟨rfl, b6.trans (hB7.mono b6.size)⟩

set_option maxRecDepth 100000 in
theorem contractC (H : Type) (enc : TypeId × Value → H) (W : World) (base : Nat) (args : Array Value) (ds gs : List (DataW H)) (before : List MemPlace)
    (hval : ∀ (j : Nat) t v, Tryd.f3.params[j]? = some t → args[j]? = some v → Value.okWide Tryd.prog W .any base t v)
    (hW : DataW.Whole enc Tryd.prog Tryd.f3.params.toList Rows.fnExactCommitsOkSpec.vars false W args.toList ds gs before) :
    Calls Tryd.prog 3 args W fun e W' => ∃ v, e = .returned v ∧ Rows.fnExactCommitsOkSpec.post enc Tryd.prog Tryd.f3 false true false false W args v W' := by
  have hW' := hW
  obtain ⟨p, q, hA0, hV, rfl, hfz, hnd⟩ := hW
  have hA : DataW.TrodAll enc Tryd.prog W 0 (fun _ => true) true Tryd.f3.params.toList args.toList ds p := hA0
  rw [Tryd.params3] at hA hval
  obtain ⟨v0, vs0, d0, ds0, p0, q0, hargs, rfl, rfl, h0, r0⟩ := trodAll_cons hA
  obtain ⟨rfl, rfl, rfl⟩ := trodAll_nil r0
  obtain rfl : args = #[v0] := by cases args; simp_all
  obtain ⟨rfl, rfl⟩ := trodVars_none hV
  obtain ⟨a0, len0, cap0, rfl⟩ := okWide_slice Tryd.underlying22 (hval 0 22 v0 rfl rfl)
  have k0 := h0
  have lt0 : ∀ x ∈ p0, x.block < W.heap.size := by obtain ⟨m, hm⟩ := k0; exact DataW.trod_lt m _ _ _ hm
  obtain ⟨a, len, cap, D, hv, hI, hF⟩ : ∃ a len cap D, Value.slice a0 len0 cap0 = .slice a len cap ∧ IsCms W a len cap D ∧ CFine D len := by
    obtain ⟨fuel, hf⟩ := h0
    exact open_cms (by simpa [Value.cells] using hf)
  rw [hv]
  clear hA0
  refine (lawC_walk a len cap D W hI hF).mono fun e W' ⟨he, bel⟩ => ?_
  rw [← hv]
  subst he
  exact ⟨_, rfl, _, _, _, [], _, [], hW', trodAll_mk1 (shut_bool Tryd.underlying4 _), (trodAll_cons_mk (Below.trod laidOutN (by kernel_rfl) (of_decide_eq_true (by kernel_rfl)) k0 bel lt0) trodAll_mk0), rfl, bel.frame _, fun h => by cases h⟩

theorem laid_metC (os : Os) : laidMet Tryd.prog Rows.fnExactCommitsOkRow.laid ((World.laidAll Tryd.prog os Rows.fnExactCommitsOkRow.laid).forCall (fun _ _ => 0) ⟨#[], #[.slice none 0 0], []⟩).memory :=
  laidMet_laidAll _ (by kernel_rfl) (by kernel_rfl)
theorem readsC (os : Os) {H : Type} (enc : TypeId × Value → H) : ∃ ds places, DataW.whole enc Tryd.prog ((World.laidAll Tryd.prog os Rows.fnExactCommitsOkRow.laid).forCall (fun _ _ => 0) ⟨#[], #[.slice none 0 0], []⟩).memory Tryd.f3.params.toList Rows.fnExactCommitsOkSpec.vars false #[(.slice none 0 0 : Value)].toList 8 = some (ds, [], places) :=
  ⟨[.nil], [], by kernel_rfl⟩

set_option maxRecDepth 100000 in
theorem liftedC (os : Os) (started : os.Started) (H : Type) (enc : TypeId × Value → H) (F : Stop.Interp) :
    ReturnsInHanded {} Tryd.checked os 3 .any ((OpenSpec.ofChange Rows.fnExactCommitsOkSpec).preRow enc Tryd.prog Tryd.f3 Rows.fnExactCommitsOkRow.domain false Rows.fnExactCommitsOkRow.laid) (((OpenSpec.ofChange Rows.fnExactCommitsOkSpec).at F).post enc Tryd.prog Tryd.f3 false true false false) := by
  obtain ⟨dz, places, hx⟩ := readsC os enc
  refine returnsInHanded_of_row (C := Tryd.checked) (s := OpenSpec.ofChange Rows.fnExactCommitsOkSpec) ownN started (by kernel_rfl) Tryd.func3
    (witness_row_at (enc := enc) (C := Tryd.checked) false (World.laidAll Tryd.prog os Rows.fnExactCommitsOkRow.laid) #[.slice none 0 0] (World.laidAll_os _ _ _) (by kernel_rfl) (by kernel_rfl) (by kernel_rfl)
      (OpenSpec.preRow_of_cond 8 hx (by kernel_rfl) (fun k hk => by cases hk) (by kernel_rfl) (laid_metC os))) ?_
  intro W base args ds gs before hval hW _ _ _ hL _ _
  exact contractC H enc W base args ds gs before hval hW

theorem saidC : Rows.FnExactCommitsOkSaid :=
  OpenClaim.holds_of_cond 3 Tryd.f3 rfl rfl rfl rfl rfl rfl rfl ⟨rfl, rfl, rfl, rfl, rfl⟩ rfl rfl rfl rfl rfl (by kernel_rfl) Tryd.func3 (by kernel_rfl)
    (of_decide_eq_true (by kernel_rfl)) (by unfold Func.isWrapper; first | (rw [if_pos (by decide +kernel)]; kernel_rfl) | (rw [if_neg (by decide +kernel)]; exact ⟨rfl, rfl⟩))
    (fun os started H enc _ F => by rw [OpenClaim.pre_eq_preRow]; exact liftedC os started H enc F)

theorem plainC (f : FuncId) (fn : Func) (hf : Tryd.pinned.checked.prog.funcNamed Rows.fnExactCommitsOkRow.func = some f) (hfn : Tryd.pinned.checked.prog.funcs[f]? = some fn) :
    false = Tryd.pinned.checked.prog.looks [] ∧ ∀ (j : Nat) t, fn.params[j]? = some t → Tryd.pinned.checked.prog.wantsStandIn t = false := by
  obtain rfl : f = 3 := Option.some.inj ((show Tryd.prog.funcNamed Rows.fnExactCommitsOkRow.func = some 3 by kernel_rfl).symm.trans hf) |>.symm
  obtain rfl : fn = Tryd.f3 := (Option.some.inj (Tryd.func3.symm.trans hfn)).symm
  refine ⟨by kernel_rfl, fun j t ht => ?_⟩
  rw [Tryd.params3] at ht
  obtain rfl : t = 22 := by simpa using Array.mem_of_getElem? ht
  exact (show Tryd.prog.wantsStandIn 22 = false by kernel_rfl)

/-- THE CARD -/
theorem cardC : Rows.FnExactCommitsOkCardSaid :=
  Claim7.holds_tied_plain_at .later [] _ _ _ _ saidC (fun _ h => by cases h) (by kernel_rfl) (fun _ h => by cases h) fnExactCommitsOk_row_tie rfl ⟨rfl, rfl⟩ (by kernel_rfl) rfl plainC (by kernel_rfl)
#print axioms cardC
end Go.Proofs.YtcaacchhmhdbpaaDoor
