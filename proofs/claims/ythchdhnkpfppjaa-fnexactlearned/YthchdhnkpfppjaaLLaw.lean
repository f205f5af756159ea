/-
  The statement FnExactLearnedSaid: at every slice of texts and every text the law returns true, and the slice reads afterwards as it read before. No condition.
-/
import Derived.Test.YthchdhnkpfppjaaLIm
import Derived.Test.YthchdhnkpfppjaaRows
import Derived.ProofKit
import Derived.OpenShut
import Derived.ShutString
import Derived.ChangeOld
namespace Go.Proofs.Ythchdhnkpfppjaa
open Go.ChangeShapes Go.WideShapes Go.ChangeAt Go.RowKit Go.Deep
set_option linter.unusedVariables false

theorem lrR_len (S : Nat → ByteArray) (n : Nat) (t : ByteArray) (hn : n ≤ 1048576) : (lrR S n t).length ≤ 1048577 := by
  unfold lrR
  split
  · have := putL_len t.toList (LL S n)
    rw [LL_len] at this
    omega
  · simp
theorem Rw.kept2 {p : Nat → Prop} {w w' : World} {g n : Nat} (h : Rw w g n) (hK : Kept p w w') (hp : p g) : Rw w' g n := h.kept (hK.block g h.lt hp)

set_option maxHeartbeats 4000000 in
theorem learned_walk (u : Option Addr) (m uc : Nat) (S : Nat → ByteArray) (t : ByteArray) (w : World) (hS : IsStrs w u m uc S) (hSs : ∀ i, i < m → (S i).size ≤ 9223372036854775807) :
    Calls Try.prog 3 #[.slice u m uc, .string t] w fun e w' => e = .returned (.bool true) ∧ Below w.heap.size w w' := by
  by_cases hbig : (1048576 : Int) < (t.size : Int)
  · go_enter Try.func3, Try.ntmps3
    go_wp2
    go_ret
    exact ⟨rfl, Below.refl _ _⟩
  have ht : t.size ≤ 1048576 := by omega
  have hbigI : decide ((1048576 : Int) < (t.size : Int)) = false := by simp; omega
  go_enter Try.func3, Try.ntmps3
  go_wp2_with fail
  refine (szStringS_any u m uc S _ hS hSs).mono ?_
  rintro e w1' ⟨r', rfl, hr', hw⟩
  rw [hw]
  clear hw w1'
  rcases hr' with hr' | ⟨hr', hml, hms⟩
  · go_wp2
    go_ret
    exact ⟨rfl, Below.refl _ _⟩
  clear hbig
  go_wp2_with fail
  refine (toStrs_own u m uc S _ hS hml).mono ?_
  rintro e w2 ⟨t2, rfl, j2, hB2, _, r2⟩
  have b2 := hB2
  go_wp2_with fail
  refine (specLearned_any t2 m m S t _ j2 r2.lt hml hms ht).mono ?_
  rintro e w3 ⟨v3, rfl, o3, hB3⟩
  have b3 := b2.trans (hB3.mono b2.size)
  obtain ⟨L, hL⟩ : ∃ L, L = lrR S m t := ⟨_, rfl⟩
  rw [← hL] at o3
  have HL : Hid (L = lrR S m t) := hL
  obtain ⟨x, hx⟩ : ∃ x, x = lrB S m t := ⟨_, rfl⟩
  rw [← hx]
  have HX : Hid (x = lrB S m t) := hx
  have hxx : (x != x) = false := by simp
  clear hL hx hB2 hB3 j2 r2
  obtain ⟨a3, c3, rfl, i3, q3⟩ := o3.strs2
  go_wp2_with fail
  refine (toStrs_own u m uc S _ (hS.below b3) hml).mono ?_
  rintro e w5 ⟨t5, rfl, j5, hB5, ht5, r5⟩
  have b5 := b3.trans (hB5.mono b3.size)
  go_wp2_with fail
  refine (implLearned_any t5 m m S t _ j5 hms ht).mono ?_
  rintro e w6 ⟨v6, rfl, o6, hB6⟩
  rw [← HX.out]
  rw [← HL.out] at o6
  have b6 := b5.trans (hB6.mono b5.size)
  have B6 : Below w3.heap.size w3 w6 := hB5.trans (hB6.mono hB5.size)
  obtain ⟨a6, c6, rfl, i6, q6⟩ := o6.strs2
  go_wp2_with fail
  refine (eqStringS_same _ _ _ _ _ _ _ i6 (i3.below B6)).mono ?_
  rintro e w7 ⟨rfl, hB7⟩
  have b7 := b6.trans (hB7.mono b6.size)
  have H57 : Below w5.heap.size w5 w7 := hB6.trans (hB7.mono hB6.size)
  go_wp2_with fail
  refine (toStrs_own u m uc S _ (hS.below b7) hml).mono ?_
  rintro e w10 ⟨t10, rfl, j10, hB10, _, _⟩
  have b10 := b7.trans (hB10.mono b7.size)
  have H510 : Below w5.heap.size w5 w10 := H57.trans (hB10.mono H57.size)
  go_wp2_with fail
  refine (eqStringS_same _ _ _ _ _ _ _ (j5.below H510) j10).mono ?_
  rintro e w11 ⟨rfl, hB11⟩
  have b11 := b10.trans (hB11.mono b10.size)
  have H611 : Below w6.heap.size w6 w11 := hB7.trans ((hB10.trans (hB11.mono hB10.size)).mono hB7.size)
  have H511 : Below w5.heap.size w5 w11 := H510.trans (hB11.mono H510.size)
  have B11 : Below w3.heap.size w3 w11 := hB5.trans (H511.mono hB5.size)
  have i11 := i6.below H611
  have o11 : OwnL w11 w5.heap.size (.slice a6 L.length c6) L := o6.below H611
  have ht5' : t5 < w5.heap.size := r5.lt
  obtain ⟨xs11, x11⟩ := r5.below H511
  have s35 : w3.heap.size ≤ w5.heap.size := hB5.size
  clear hB5 hB6 hB7 hB10 hB11 H57 H510 H511 H611 r5 j5 j10 i6 B6 o6
  go_wp2_with fail
  refine (markStringS_any _ m m 0 xs11 1 _ x11 (by omega) (by omega)).mono ?_
  rintro e w13 ⟨rfl, _, hG13⟩
  have hrow : ∀ k, (Value.slice (some (⟨t5, 0, none⟩ : Addr)) m m).ownBlock = some k → k = t5 := fun k hk => by
    have hk' : some t5 = some k := hk
    cases hk'
    rfl
  have B13 : Below w3.heap.size w3 w13 := B11.grown hG13 B11.size (fun k hk => by have := hrow k hk; omega)
  have b13 : Below w.heap.size w w13 := b11.grown hG13 b11.size (fun k hk => by have := hrow k hk; have := b3.size; omega)
  have K13 : Kept (fun b => w5.heap.size ≤ b) w11 w13 := Kept.of_grown hG13 (fun k hk => by have := hrow k hk; omega)
  have i13 := i11.kept K13 (fun b off e => (q6 b off e).1)
  have o13 : OwnL w13 w5.heap.size (.slice a6 L.length c6) L := o11.kept K13 (fun b hb => hb)
  have hkn : decide (((1 + m : Nat) : Int) < 0) = false := by simp; omega
  have H313 := i3.below B13
  clear hG13 hrow K13 i11 o11 x11
  go_wp2_with fail
  refine (eqStringS_same _ _ _ _ _ _ _ i13 H313).mono ?_
  rintro e w14 ⟨rfl, hB14⟩
  have b14 := b13.trans (hB14.mono b13.size)
  have B14 := B13.trans (hB14.mono B13.size)
  have o14 := o13.below hB14
  obtain ⟨n, hn⟩ : ∃ n, n = L.length := ⟨_, rfl⟩
  have HLL : Hid (L.length ≤ 1048577) := by show _ ≤ _; rw [HL.out]; exact lrR_len S m t hml
  clear hkn H313 i13 o13
  rw [← hn] at o14 i3 HLL ⊢
  have HN : Hid (n = L.length) := hn
  have o14' : w14.ownsRow w5.heap.size 9 1 (.slice a6 n c6) n (L.map encStr) := by have := o14; unfold OwnL at this; rw [← hn] at this; exact this
  clear hn o14
  go_wp2_with fail
  refine (markStringS_any a6 n c6 w5.heap.size (L.map encStr) 1 _ o14' (by omega) (by have := HLL.out; omega)).mono ?_
  rintro e w15 ⟨rfl, o15, hG15⟩
  have hrow : ∀ k, (Value.slice a6 n c6).ownBlock = some k → w5.heap.size ≤ k := fun k hk => (o14'.lt k hk).1
  have b15 := b14.grown hG15 b14.size (fun k hk => by have := hrow k hk; have := b5.size; omega)
  have B15 := B14.grown hG15 B14.size (fun k hk => by have := hrow k hk; omega)
  have i15 : IsStrs w15 a6 n c6 (fun i => mt (1 + i)) := by
    obtain ⟨a', cap', e', hI⟩ := strs_of_own (S := fun i => mt (1 + i)) o15 (fun i hi => marks_at hi)
    simp only [Value.slice.injEq, true_and] at e'
    obtain ⟨rfl, rfl⟩ := e'
    exact hI
  clear o14' hG15 hrow o15
  have hq1 : decide (((1 + n : Nat) : Int) < 0) = false := by simp; omega
  have hq2 : ((((1 + n : Nat) : Int)) != ((1 + n : Nat) : Int)) = false := by simp
  go_wp2_with fail
  refine (heldStringS_any a6 n c6 1 _ i15 (by omega) (by have := HLL.out; omega)).mono ?_
  rintro e w16 ⟨rfl, hB16⟩
  have b16 := b15.trans (hB16.mono b15.size)
  have B16 := B15.trans (hB16.mono B15.size)
  go_wp2_with fail
  refine (toStrs_own u m uc S _ (hS.below b16) hml).mono ?_
  rintro e w18 ⟨t18, rfl, j18, hB18, _, _⟩
  have b18 := b16.trans (hB18.mono b16.size)
  have B18 := B16.trans (hB18.mono B16.size)
  go_wp2_with fail
  refine (implLearned_any t18 m m S t _ j18 hms ht).mono ?_
  rintro e w19 ⟨v19, rfl, o19, hB19⟩
  rw [← HX.out]
  rw [← HL.out] at o19
  have b19 := b18.trans (hB19.mono b18.size)
  have B19 := B18.trans (hB19.mono B18.size)
  obtain ⟨a19, c19, rfl, i19, q19⟩ := o19.strs2
  rw [← HN.out] at i19 ⊢
  have H3 := i3.below B19
  clear o19
  go_wp2_with fail
  refine (eqStringS_same _ _ _ _ _ _ _ i19 H3).mono ?_
  rintro e w20 ⟨rfl, hB20⟩
  have b20 := b19.trans (hB20.mono b19.size)
  have i20 := i15.below (hB16.trans ((hB18.trans ((hB19.trans (hB20.mono hB19.size)).mono hB18.size)).mono hB16.size))
  go_wp2_with fail
  refine (heldStringS_any a6 n c6 1 _ i20 (by omega) (by have := HLL.out; omega)).mono ?_
  rintro e w21 ⟨rfl, hB21⟩
  go_wp2
  go_ret
  exact ⟨rfl, b20.trans (hB21.mono b20.size)⟩

theorem own : ownKnob Try.prog.godebug = none := by kernel_rfl
theorem laidOut : laidOutB Try.prog = true := by kernel_rfl
theorem cells9 : Try.prog.cellsOf 9 = 1 := by kernel_rfl

/-- a slice of texts that came in reads as texts -/
theorem open_strs {H : Type} {enc : TypeId × Value → H} {W : World} {n : Nat} {v : Value} {x : DataW H × List MemPlace} (h : DataW.trod enc Try.prog W 0 (fun _ => true) true n 22 [v] = some x) :
    ∃ a len cap S, v = .slice a len cap ∧ IsStrs W a len cap S ∧ ∀ i, i < len → (S i).size ≤ 9223372036854775807 := by
  rcases open_slice Try.underlying22 h with ⟨hcs, _⟩ | ⟨a, len, cap, m, n', D, Pl, hcs, _, hl, hm, hmm, _, hall⟩
  · simp at hcs
    exact ⟨none, 0, 0, fun _ => ⟨#[]⟩, hcs, ⟨Nat.le_refl _, by omega, fun h => absurd h (by omega)⟩, fun i h => absurd h (by omega)⟩
  · simp at hcs hmm
    subst hmm
    rw [cells9] at hall
    have key : ∀ i, i < len → ∃ s : ByteArray, W.cell? (a.add (i * 1)) = some (.string s) ∧ s.size ≤ 9223372036854775807 := by
      intro i hi
      obtain ⟨cs', h1, h2⟩ := hall i (by omega)
      obtain ⟨_, hlen, hcell⟩ := World.cells?_some h1
      obtain ⟨s, rfl, _, hs⟩ := DataW.trod_string Try.underlying9 h2
      have e0 := hcell 0 (by omega)
      rw [add_add] at e0
      exact ⟨s, by simpa using e0, by unfold maxLen at hs; omega⟩
    obtain ⟨q, hq⟩ := choose_lt key
    refine ⟨some a, len, _, q, hcs, ⟨hl, by unfold maxLen at hm; omega, fun hp => ?_⟩, fun i hi => (hq i hi).2⟩
    obtain ⟨b, off, spot⟩ := a
    have hc0 := (hq 0 hp).1
    have hspot : spot = none := by simpa [Addr.add] using World.cell?_spot hc0
    subst hspot
    refine ⟨b, off, rfl, ?_, fun i hi => ?_⟩
    · rw [add_plain] at hc0; exact cell_lt hc0
    · have h1 := (hq i hi).1
      rw [add_plain, Nat.mul_one] at h1
      exact h1

set_option maxRecDepth 100000 in
theorem learned_lifted (os : Os) (started : os.Started) (H : Type) (enc : TypeId × Value → H) :
    ReturnsInHanded {} Try.checked os 3 .any (Rows.fnExactLearnedSpec.pre6 enc Try.prog Try.f3 Rows.fnExactLearnedRow.domain false) (Rows.fnExactLearnedSpec.post enc Try.prog Try.f3 false true false false) := by
  refine returnsInHanded_of_change (C := Try.checked) own started (by kernel_rfl) Try.func3
    (ChangeSpec.witness6 (enc := enc) (C := Try.checked) false ⟨#[], #[.slice none 0 0, .string ⟨#[]⟩], []⟩ 8 (by kernel_rfl) (by kernel_rfl) (by kernel_rfl) (by kernel_rfl)) ?_
  intro W base args ds gs before hval0 hW hcnd _
  have hval : ∀ (j : Nat) t v, Try.f3.params[j]? = some t → args[j]? = some v → Value.okWide Try.prog W .any base t v := hval0
  have hW' := hW
  obtain ⟨p, q, hA0, hV, rfl, hfz, hnd⟩ := hW
  have hA : DataW.TrodAll enc Try.prog W 0 (fun _ => true) true Try.f3.params.toList args.toList ds p := hA0
  rw [Try.params3] at hA hval
  obtain ⟨v0, vs0, d0, ds0, p0, q0, hargs, rfl, rfl, h0, r0⟩ := trodAll_cons hA
  obtain ⟨v1, vs1, d1, ds1, p1, q1, rfl, rfl, rfl, h1, r1⟩ := trodAll_cons r0
  obtain ⟨rfl, rfl, rfl⟩ := trodAll_nil r1
  obtain rfl : args = #[v0, v1] := by cases args; simp_all
  obtain ⟨rfl, rfl⟩ := trodVars_none hV
  obtain ⟨a0, len0, cap0, rfl⟩ := okWide_slice Try.underlying22 (hval 0 22 v0 rfl rfl)
  obtain ⟨s, rfl, rfl, rfl, ws⟩ := Go.ChangeMaps.open_string Try.underlying9 (hval 1 9 v1 rfl rfl) h1
  have k0 := h0
  have lt0 : ∀ x ∈ p0, x.block < W.heap.size := by obtain ⟨m, hm⟩ := k0; exact DataW.trod_lt m _ _ _ hm
  obtain ⟨S, w0, s0⟩ : ∃ S, IsStrs W a0 len0 cap0 S ∧ ∀ i, i < len0 → (S i).size ≤ 9223372036854775807 := by
    obtain ⟨fuel, hf⟩ := h0
    obtain ⟨a, len, cap, S, e, hI, hS⟩ := open_strs (by simpa [Value.cells] using hf)
    simp at e
    obtain ⟨rfl, rfl, rfl⟩ := e
    exact ⟨S, hI, hS⟩
  clear hA0 hval0
  refine (learned_walk a0 len0 cap0 S s W w0 s0).mono fun e W' ⟨he, bel⟩ => ?_
  subst he
  exact ⟨_, rfl, _, _, _, [], _, [], hW', trodAll_mk1 (shut_bool Try.underlying4 _), (trodAll_cons_mk (Below.trod laidOut (by kernel_rfl) (of_decide_eq_true (by kernel_rfl)) k0 bel lt0) (trodAll_cons_mk (Go.ChangeMaps.shut_string Try.underlying9 ws) trodAll_mk0)), rfl, bel.frame _, fun h => by cases h⟩

theorem learned_proved : Rows.FnExactLearnedSaid :=
  OpenClaim.holds_of_wide 3 Try.f3 rfl rfl rfl rfl rfl rfl rfl ⟨rfl, rfl, rfl, rfl, rfl⟩ rfl rfl rfl rfl rfl (by kernel_rfl) Try.func3 (by kernel_rfl)
    (of_decide_eq_true (by kernel_rfl)) (by unfold Func.isWrapper; first | (rw [if_pos (by decide +kernel)]; kernel_rfl) | (rw [if_neg (by decide +kernel)]; exact ⟨rfl, rfl⟩))
    (fun os started H enc _ => learned_lifted os started H enc)
#print axioms learned_proved
end Go.Proofs.Ythchdhnkpfppjaa
