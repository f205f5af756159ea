/-
  The statement FnChainMergedSaid: at every code the law returns true, and the code reads afterwards as it read before. No condition.
-/
import Derived.Test.YtimgcnhihhoniaaCNil
import Derived.Test.YtimgcnhihhoniaaRows
import Derived.ProofKit
import Derived.OpenShut
import Derived.Deep.DeepHandedRow
namespace Go.Proofs.Ytimgcnhihhoniaa
open Go.ChangeShapes Go.WideShapes Go.ChangeAt Go.RowKit Go.Deep
set_option linter.unusedVariables false

set_option maxRecDepth 10000 in
set_option maxHeartbeats 4000000 in
theorem merged_walk {a : Option Addr} {len cap : Nat} {Z : Nat → Int} (w : World) (hU : IsU8 w a len cap Z) :
    Calls Try.prog 3 #[.slice a len cap] w fun e w' => e = .returned (.bool true) ∧ Below w.heap.size w w' := by
  by_cases hbig : (1048576 : Int) < (len : Int)
  · go_enter Try.func3, Try.ntmps3
    go_wp2_with fail
    refine (big_any _ _ _ _).mono ?_
    rintro e w1 ⟨rfl, hw⟩
    rw [hw, decide_eq_true hbig]
    go_wp2
    go_ret
    exact ⟨rfl, Below.refl _ _⟩
  · have HN : Hid (decide ((1048576 : Int) < (len : Int)) = false) := decide_eq_false hbig
    clear hbig
    go_enter Try.func3, Try.ntmps3
    go_wp2_with fail
    refine (big_any _ _ _ _).mono ?_
    rintro e w1 ⟨rfl, hw⟩
    rw [hw, HN.out]
    clear hw w1
    go_wp2_with fail
    refine (drawMerged_any hU).mono ?_
    rintro e w2 ⟨g1, c1, A, g2, c2, B, rfl, hAl, hBl, oA, oB, b2⟩
    have HU : Hid (IsU8 w a len cap Z) := hU
    clear hU
    go_wp2_with fail
    refine (implMerged_any g1 0 c1 g2 0 c2 A B w2 oA.lies.1 oA.lies.2.1 oA.caps.1 oA.caps.2 oB.lies.1 oB.lies.2.1 oB.caps.1 oB.caps.2).mono ?_
    rintro e w3 ⟨vm, rfl, gm, hB3⟩
    have b3 : Below w.heap.size w w3 := b2.trans (hB3.mono b2.size)
    have oA3 := oA.below hB3
    have oB3 := oB.below hB3
    have m3 : OwnV w3 w.heap.size vm (resM A B) := gm.res.base b2.size
    clear gm hB3 oA oB b2
    go_wp2_with fail
    refine (specMerged_any g1 0 c1 g2 0 c2 A B w3 oA3.lies.1 oA3.lies.2.1 oA3.caps.1 oA3.caps.2 oB3.lies.1 oB3.lies.2.1 oB3.caps.1 oB3.caps.2).mono ?_
    rintro e w4 ⟨vw, rfl, gw, hB4⟩
    have b4 : Below w.heap.size w w4 := b3.trans (hB4.mono b3.size)
    have oA4 := oA3.below hB4
    have oB4 := oB3.below hB4
    have m4 := m3.below hB4
    have k4 : OwnV w4 w.heap.size vw (resM A B) := gw.v.res.base b3.size
    clear gw hB4 oA3 oB3 m3 b3
    go_wp2_with fail
    refine (implMerged_any g2 0 c2 g1 0 c1 B A w4 oB4.lies.1 oB4.lies.2.1 oB4.caps.1 oB4.caps.2 oA4.lies.1 oA4.lies.2.1 oA4.caps.1 oA4.caps.2).mono ?_
    rintro e w5 ⟨vn, rfl, gn, hB5⟩
    have b5 : Below w.heap.size w w5 := b4.trans (hB5.mono b4.size)
    have oA5 := oA4.below hB5
    have oB5 := oB4.below hB5
    have m5 := m4.below hB5
    have k5 := k4.below hB5
    have n5 : OwnV w5 w.heap.size vn (resM A B) := by
      have := gn.res.base b4.size
      rwa [resM_comm A B] at this
    rw [mergedB_comm A B]
    clear gn hB5 oA4 oB4 m4 k4 b4
    cases hok : mergedB A B with
    | false =>
      go_wp2_with fail
      refine (same_any _ _ _ _ _ _ m5 k5).mono ?_
      rintro e w6 ⟨rfl, hB6⟩
      have b6 : Below w.heap.size w w6 := b5.trans (hB6.mono b5.size)
      have m6 := m5.below hB6
      have k6 := k5.below hB6
      have n6 := n5.below hB6
      clear m5 k5 n5 hB6 b5 oA5 oB5
      go_wp2_with fail
      refine (same_any _ _ _ _ _ _ n6 m6).mono ?_
      rintro e w7 ⟨rfl, hB7⟩
      have b7 : Below w.heap.size w w7 := b6.trans (hB7.mono b6.size)
      have m7 := m6.below hB7
      have k7 := k6.below hB7
      clear m6 k6 n6 hB7 b6
      go_wp2_with fail
      refine (same_any _ _ _ _ _ _ m7 k7).mono ?_
      rintro e w8 ⟨rfl, hB8⟩
      have HF : Hid (Below w.heap.size w w8) := b7.trans (hB8.mono b7.size)
      clear m7 k7 hB8 b7
      go_wp2
      go_ret
      exact ⟨rfl, HF.out⟩
    | true =>
      obtain ⟨hcA, hcB, hcM⟩ := mergedB_parts hok
      have hres : resM A B = mergeE A B := by unfold resM; rw [hok]; rfl
      have hag := mergedB_again hok
      have hse := mergedB_self hcA
      have hnil : mergeE A B = [] → A = [] := fun e => by
        have h1 := mergeE_ge A B
        rw [e] at h1
        exact List.eq_nil_of_length_eq_zero (Nat.le_zero.1 h1)
      have ha : mergeE (mergeE A B) A = mergeE A B := mergeE_again (chainL_up hcA)
      have hs : mergeE A A = A := mergeE_self (chainL_up hcA)
      have hl1 : A.length ≤ (mergeE A B).length := mergeE_ge A B
      have hl2 : B.length ≤ (mergeE A B).length := by rw [mergeE_comm (chainL_up hcA) (chainL_up hcB)]; exact mergeE_ge B A
      rw [hres] at m5 k5 n5
      have HP : Hid (mergedB (mergeE A B) A = true ∧ mergedB A A = true ∧ (mergeE A B = [] → A = []) ∧ mergeE (mergeE A B) A = mergeE A B ∧ mergeE A A = A ∧ chainL (mergeE A B) = true) := ⟨hag, hse, hnil, ha, hs, hcM⟩
      clear hcA hcB hcM hres hag hse hnil ha hs hok
      obtain ⟨M, hM⟩ : ∃ M, M = mergeE A B := ⟨_, rfl⟩
      rw [← hM] at m5 k5 n5 hl1 hl2 HP
      clear hM
      go_wp2_with fail
      refine (same_any _ _ _ _ _ _ m5 k5).mono ?_
      rintro e w6 ⟨rfl, hB6⟩
      have b6 : Below w.heap.size w w6 := b5.trans (hB6.mono b5.size)
      have m6 := m5.below hB6
      have n6 := n5.below hB6
      have oA6 := oA5.below hB6
      clear m5 k5 n5 hB6 b5 oA5 oB5
      go_wp2_with fail
      refine (same_any _ _ _ _ _ _ n6 m6).mono ?_
      rintro e w7 ⟨rfl, hB7⟩
      have b7 : Below w.heap.size w w7 := b6.trans (hB7.mono b6.size)
      have m7 := m6.below hB7
      have oA7 := oA6.below hB7
      clear m6 n6 hB7 b6 oA6
      go_wp2_with fail
      refine (implMergedV w.heap.size g1 c1 vm M A w7 m7 oA7 HP.out.2.2.1 HP.out.1).mono ?_
      rintro e w8 ⟨va, rfl, ga, hB8⟩
      have b8 : Below w.heap.size w w8 := b7.trans (hB8.mono b7.size)
      have m8 := m7.below hB8
      have oA8 := oA7.below hB8
      have a8 : OwnV w8 w.heap.size va M := by
        have := ga.base b7.size
        rwa [HP.out.2.2.2.1] at this
      clear ga hB8 m7 oA7 b7
      go_wp2_with fail
      refine (implMergedV w.heap.size g1 c1 _ A A w8 oA8.v oA8 id HP.out.2.1).mono ?_
      rintro e w9 ⟨vs, rfl, gs, hB9⟩
      have b9 : Below w.heap.size w w9 := b8.trans (hB9.mono b8.size)
      have m9 := m8.below hB9
      have oA9 := oA8.below hB9
      have a9 := a8.below hB9
      have s9 : OwnV w9 w.heap.size vs A := by
        have := gs.base b8.size
        rwa [HP.out.2.2.2.2.1] at this
      clear gs hB9 m8 oA8 a8 b8
      go_wp2_with fail
      refine (implChainV w.heap.size vm M w9 m9 true HP.out.2.2.2.2.2).mono ?_
      rintro e w10 ⟨rfl, hB10⟩
      have b10 : Below w.heap.size w w10 := b9.trans (hB10.mono b9.size)
      have m10 := m9.below hB10
      have oA10 := oA9.below hB10
      have a10 := a9.below hB10
      have s10 := s9.below hB10
      clear hB10 m9 oA9 a9 s9 b9
      go_wp2_with fail
      refine (same_any _ _ _ _ _ _ a10 m10).mono ?_
      rintro e w11 ⟨rfl, hB11⟩
      have b11 : Below w.heap.size w w11 := b10.trans (hB11.mono b10.size)
      have m11 := m10.below hB11
      have oA11 := oA10.below hB11
      have s11 := s10.below hB11
      clear hB11 m10 oA10 a10 s10 b10
      go_wp2_with fail
      refine (same_any _ _ _ _ _ _ s11 oA11.v).mono ?_
      rintro e w12 ⟨rfl, hB12⟩
      have HF : Hid (Below w.heap.size w w12) := b11.trans (hB12.mono b11.size)
      obtain ⟨am, cm, rfl, _⟩ := m11.evs
      have hd1 : decide ((A.length : Int) ≤ (M.length : Int)) = true := decide_eq_true (by omega)
      have hd2 : decide ((B.length : Int) ≤ (M.length : Int)) = true := decide_eq_true (by omega)
      clear hB12 m11 oA11 s11 b11 HP
      go_wp2
      go_ret
      exact ⟨rfl, HF.out⟩

theorem own : ownKnob Try.prog.godebug = none := by kernel_rfl
theorem laidOut : laidOutB Try.prog = true := by kernel_rfl
theorem cellsU8 : Try.prog.cellsOf 5 = 1 := by kernel_rfl

/-- a slice of bytes that came in reads as bytes -/
theorem open_u8 {H : Type} {enc : TypeId × Value → H} {W : World} {n : Nat} {v : Value} {x : DataW H × List MemPlace} (h : DataW.trod enc Try.prog W 0 (fun _ => true) true n 22 [v] = some x) :
    ∃ a len cap Z, v = .slice a len cap ∧ IsU8 W a len cap Z := by
  rcases open_ints Try.underlying22 Try.underlying5 cellsU8 h with ⟨hcs, _⟩ | ⟨a, l, c, zs, hcs, _, hl, hm, hz, _, hcell, hwz⟩
  · simp at hcs
    exact ⟨none, 0, 0, fun _ => 0, hcs, Nat.le_refl _, by omega, fun _ => by simp, fun h => absurd h (by omega)⟩
  · simp at hcs
    have hrg : ∀ i, 0 ≤ zs.getD i 0 ∧ zs.getD i 0 ≤ 255 := by
      intro i
      by_cases hi : i < zs.length
      · have hw := hwz (zs.getD i 0) (by simp [List.getD, List.getElem?_eq_getElem hi])
        simpa [Lit.wf, IntKind.min, IntKind.max, IntKind.signed, IntKind.bits] using hw
      · rw [List.getD, List.getElem?_eq_none (by omega)]
        simp
    refine ⟨some a, l, c, fun i => zs.getD i 0, hcs, hl, by unfold maxLen at hm; omega, hrg, fun hp => ?_⟩
    obtain ⟨b, off, spot⟩ := a
    have hc0 := hcell 0 (by simp at hz; omega)
    have hspot : spot = none := by simpa [Addr.add] using World.cell?_spot hc0
    subst hspot
    refine ⟨b, off, rfl, ?_, fun i hi => ?_⟩
    · rcases Nat.lt_or_ge b W.heap.size with h' | h'
      · exact h'
      · simp [Addr.add, World.cell?, Array.getElem?_eq_none h'] at hc0
    · have := hcell i (by simp at hz; omega)
      rw [add_plain] at this
      exact this

set_option maxRecDepth 100000 in
theorem merged_lifted (os : Os) (started : os.Started) (H : Type) (enc : TypeId × Value → H) :
    ReturnsInHanded {} Try.checked os 3 .any (Rows.fnChainMergedSpec.pre6 enc Try.prog Try.f3 Rows.fnChainMergedRow.domain false) (Rows.fnChainMergedSpec.post enc Try.prog Try.f3 false true false false) := by
  refine returnsInHanded_of_change (C := Try.checked) own started (by kernel_rfl) Try.func3
    (ChangeSpec.witness6 (enc := enc) (C := Try.checked) false ⟨#[], #[.slice none 0 0], []⟩ 8 (by kernel_rfl) (by kernel_rfl) (by kernel_rfl) (by kernel_rfl)) ?_
  intro W base args ds gs before hval0 hW hcnd _
  have hval : ∀ (j : Nat) t v, Try.f3.params[j]? = some t → args[j]? = some v → Value.okWide Try.prog W .any base t v := hval0
  have hW' := hW
  obtain ⟨p, q, hA0, hV, rfl, hfz, hnd⟩ := hW
  have hA : DataW.TrodAll enc Try.prog W 0 (fun _ => true) true Try.f3.params.toList args.toList ds p := hA0
  rw [Try.params3] at hA hval
  obtain ⟨v0, vs0, d0, ds0, p0, q0, hargs, rfl, rfl, h0, r0⟩ := trodAll_cons hA
  obtain ⟨rfl, rfl, rfl⟩ := trodAll_nil r0
  obtain rfl : args = #[v0] := by cases args; simp_all
  obtain ⟨rfl, rfl⟩ := trodVars_none hV
  obtain ⟨a0, len0, cap0, rfl⟩ := okWide_slice Try.underlying22 (hval 0 22 v0 rfl rfl)
  have k0 := h0
  have lt0 : ∀ x ∈ p0, x.block < W.heap.size := by obtain ⟨m, hm⟩ := k0; exact DataW.trod_lt m _ _ _ hm
  obtain ⟨Z, w0⟩ : ∃ Z, IsU8 W a0 len0 cap0 Z := by
    obtain ⟨fuel, hf⟩ := h0
    obtain ⟨a, len, cap, Z, e, hI⟩ := open_u8 (by simpa [Value.cells] using hf)
    simp at e
    obtain ⟨rfl, rfl, rfl⟩ := e
    exact ⟨Z, hI⟩
  clear hA0 hval0
  refine (merged_walk W w0).mono fun e W' ⟨he, bel⟩ => ?_
  subst he
  exact ⟨_, rfl, _, _, _, [], _, [], hW', trodAll_mk1 (shut_bool Try.underlying4 _), (trodAll_cons_mk (Below.trod laidOut (by kernel_rfl) (of_decide_eq_true (by kernel_rfl)) k0 bel lt0) trodAll_mk0), rfl, bel.frame _, fun h => by cases h⟩

theorem merged_proved : Rows.FnChainMergedSaid :=
  OpenClaim.holds_of_wide 3 Try.f3 rfl rfl rfl rfl rfl rfl rfl ⟨rfl, rfl, rfl, rfl, rfl⟩ rfl rfl rfl rfl rfl (by kernel_rfl) Try.func3 (by kernel_rfl)
    (of_decide_eq_true (by kernel_rfl)) (by unfold Func.isWrapper; first | (rw [if_pos (by decide +kernel)]; kernel_rfl) | (rw [if_neg (by decide +kernel)]; exact ⟨rfl, rfl⟩))
    (fun os started H enc _ => merged_lifted os started H enc)
#print axioms merged_proved
end Go.Proofs.Ytimgcnhihhoniaa
