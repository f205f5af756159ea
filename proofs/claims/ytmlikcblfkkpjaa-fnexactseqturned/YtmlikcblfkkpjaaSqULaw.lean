/-
  The statement FnExactSeqTurnedSaid: at every argument the law returns true, and the argument reads afterwards as it read before. No condition.
-/
import Derived.Test.YtmlikcblfkkpjaaSqTs
import Derived.Test.YtmlikcblfkkpjaaEMark
import Derived.Test.YtmlikcblfkkpjaaEVal2
namespace Go.Proofs.Ytmlikcblfkkpjaa
open Go.ChangeShapes Go.WideShapes Go.ChangeAt Go.RowKit Go.Deep
set_option linter.unusedVariables false

theorem itD_good {author z : Int} : ∀ (k : Nat) {A B : List Ev}, Good A → itD author z k A = some B → Good B := by
  intro k
  induction k with
  | zero => intro A B hA h; cases h; exact hA
  | succ k ih =>
    intro A B hA h
    cases hs : stD author z A with
    | none => rw [itD_no hs] at h; cases h
    | some C => rw [itD_yes hs] at h; exact ih (stD_some hA hs).1 h
theorem itI_good {author : Int} {t : ByteArray} (ht : t.size ≤ 1048576) : ∀ (k i : Nat) {A B : List Ev}, Good A → itI author t k i A = some B → Good B := by
  intro k
  induction k with
  | zero => intro i A B hA h; cases h; exact hA
  | succ k ih =>
    intro i A B hA h
    cases hs : stI author i (t.extract i (i + 1)) A with
    | none => rw [itI_no hs] at h; cases h
    | some C => rw [itI_yes hs] at h; exact ih (i + 1) (stI_some (by rw [ByteArray.size_extract]; omega) hA hs).1 h
theorem tuR_len {D : Nat → Ev} {len : Nat} {author : Int} {t : ByteArray} (hF : ∀ i, i < len → (D i).in) (ht : t.size ≤ 1048576) : ((tuR D len author t).getD []).length ≤ 40 := by
  cases hg : tuG D len author t with
  | false => rw [tuR_no hg]; exact Nat.zero_le _
  | true =>
    rw [tuR_yes hg]
    unfold tuG at hg
    simp only [Bool.and_eq_true] at hg
    have hG : Good (listD D len) := by
      refine ⟨by rw [listD_len]; exact (seqB_parts hg.1.1).1, fun i hi => ?_⟩
      rw [listD_len] at hi
      unfold gD
      rw [listD_at D len i hi]
      exact hF i hi
    cases h1 : itD author (cb (textR D len) t) (tuN (textR D len) t) (listD D len) with
    | none => exact Nat.zero_le _
    | some B =>
      cases h2 : itI author t (tuM (textR D len) t) (cb (textR D len) t) B with
      | none => show (Option.getD (itI author t (tuM (textR D len) t) (cb (textR D len) t) B) []).length ≤ 40; rw [h2]; exact Nat.zero_le _
      | some C => show (Option.getD (itI author t (tuM (textR D len) t) (cb (textR D len) t) B) []).length ≤ 40; rw [h2]; exact (itI_good ht _ _ (itD_good _ hG h1) h2).1

set_option maxRecDepth 10000 in
set_option maxHeartbeats 8000000 in
theorem seqTurned_walk (a : Option Addr) (len cap : Nat) (D : Nat → Ev) (author : Int) (t : ByteArray) (ht : t.size ≤ 9223372036854775807) (w0 : World) (h : IsEvs w0 a len cap D) (hF : ∀ i, i < len → (D i).in) :
    Calls Try.prog 7 #[.slice a len cap, .int .i64 author, .string t] w0 fun e w' => e = .returned (.bool true) ∧ Below w0.heap.size w0 w' := by
  by_cases hbig : 1048576 < (t.size : Int)
  · go_enter Try.func7, Try.ntmps7
    go_wp2
    go_ret
    exact ⟨rfl, Below.refl _ _⟩
  go_enter Try.func7, Try.ntmps7
  go_wp2_with fail
  refine (szOps_any a len cap D w0 h hF _ (by omega) (by omega)).mono ?_
  rintro e w ⟨r, rfl, hr, hB0⟩
  rcases hr with hr | ⟨hr, hr1, hl, _⟩
  · go_wp2
    go_ret
    exact ⟨rfl, hB0⟩
  have HB0 : Hid (Below w0.heap.size w0 w) := hB0
  have h1 := h.below hB0
  clear hB0
  have T : Hid (∀ w', Below w.heap.size w w' → Calls Try.prog 11 #[.slice a len cap] w' fun e w'' => e = .returned (.slice (some ⟨w'.heap.size, 0, none⟩) len len) ∧ EOwn w'' w'.heap.size w'.heap.size len D ∧ Below w'.heap.size w' w'') := fun w' hB' => toEvs_own a len cap D w' (h1.below hB') hl
  have HV : Hid (∀ w' base g, EOwn w' base g len D → OwnV w' base (.slice (some ⟨g, 0, none⟩) len len) (listD D len)) := fun w' base g q => by
    have := q.own.v
    rw [listD_len] at this
    exact this
  obtain ⟨ok, hok⟩ : ∃ ok, ok = (tuR D len author t).isSome := ⟨_, rfl⟩
  obtain ⟨R, hR⟩ : ∃ R, R = (tuR D len author t).getD [] := ⟨_, rfl⟩
  obtain ⟨N, hN⟩ : ∃ N, N = R.drop len := ⟨_, rfl⟩
  have hRl : R.length ≤ 40 := by rw [hR]; exact tuR_len hF (by omega)
  have hNl : N.length ≤ 40 := by rw [hN, List.length_drop]; omega
  have S : Hid (∀ w' g base, EOwn w' base g len D → Calls Try.prog 26 #[.slice (some ⟨g, 0, none⟩) len len, .int .i64 author, .string t] w' fun e w'' => ∃ v u, e = .returned (.tuple #[v, u, .bool ok]) ∧ OwnV w'' w'.heap.size v R ∧ OwnV w'' w'.heap.size u N ∧ Below w'.heap.size w' w'') := fun w' g base q => by
    rw [hN, hR, hok]
    exact specTurned_any _ _ _ _ D author t ht w' (q.evs hl) hF
  have I : Hid (∀ w' g base, EOwn w' base g len D → Calls Try.prog 27 #[.slice (some ⟨g, 0, none⟩) len len, .int .i64 author, .string t] w' fun e w'' => ∃ v u, e = .returned (.tuple #[v, u, .bool ok]) ∧ OwnV w'' w'.heap.size v R ∧ OwnV w'' w'.heap.size u N ∧ (∀ k, v.ownBlock = some k → u.ownBlock ≠ some k) ∧ Below w'.heap.size w' w'') := fun w' g base q => by
    rw [hN, hR, hok]
    exact implTurned_any _ _ _ D author t ht w' (q.evs hl) hF
  have hll : (listD D len).length ≤ 1048576 := by rw [listD_len]; exact hl
  have hokn : (ok != ok) = false := by simp
  clear hR hN hok h h1 hF
  go_wp2_with fail
  refine (T.out w (Below.refl _ _)).mono ?_
  rintro e w2 ⟨rfl, o2, b2⟩
  go_wp2_with fail
  refine (S.out w2 _ _ o2).mono ?_
  rintro e w4 ⟨vw, uw, rfl, q4, r4, hB4⟩
  have b4 : Below w.heap.size w w4 := b2.trans (hB4.mono b2.size)
  have ql : ∀ k, vw.ownBlock = some k → k < w4.heap.size := fun k hk => (World.ownsRow.lt q4 k hk).2
  have rl : ∀ k, uw.ownBlock = some k → k < w4.heap.size := fun k hk => (World.ownsRow.lt r4 k hk).2
  have b4s : w.heap.size ≤ w4.heap.size := b4.size
  clear o2 hB4 b2
  go_wp2_with fail
  refine (T.out w4 b4).mono ?_
  rintro e w5 ⟨rfl, o5, hB5⟩
  have b5 : Below w.heap.size w w5 := b4.trans (hB5.mono b4.size)
  have q5 := q4.below hB5
  have r5 := r4.below hB5
  have s5 : w4.heap.size < w5.heap.size := (HV.out _ _ _ o5).cases.elim (fun h => by cases h.1) (fun ⟨g, c, h, hO⟩ => by simp at h; rw [h.1]; exact hO.lies.2.1)
  go_wp2_with fail
  refine (I.out w5 _ _ o5).mono ?_
  rintro e w7 ⟨vg, ug, rfl, g7, n7, hap, hB7⟩
  have b7 : Below w.heap.size w w7 := b5.trans (hB7.mono b5.size)
  have q7 := q5.below hB7
  have r7 := r5.below hB7
  have p7 := o5.below hB7
  clear o5 q5 q4 r5 r4 hB5 hB7 b4 b5
  go_wp2_with fail
  refine (eqV_same _ _ _ _ _ _ g7 q7).mono ?_
  rintro e w8' ⟨rfl, hB8⟩
  have b8' : Below w.heap.size w _ := b7.trans (hB8.mono b7.size)
  have q8' := q7.below hB8
  have r8' := r7.below hB8
  have p8' := p7.below hB8
  have g8' := g7.below hB8
  have n8' := n7.below hB8
  clear b7 q7 r7 p7 g7 n7 hB8
  go_wp2_with fail
  refine (eqV_same _ _ _ _ _ _ n8' r8').mono ?_
  rintro e w8 ⟨rfl, hB8⟩
  have b8 : Below w.heap.size w _ := b8'.trans (hB8.mono b8'.size)
  have q8 := q8'.below hB8
  have r8 := r8'.below hB8
  have p8 := p8'.below hB8
  have g8 := g8'.below hB8
  have n8 := n8'.below hB8
  clear b8' q8' r8' p8' g8' n8' hB8
  go_wp2_with fail
  refine (T.out w8 b8).mono ?_
  rintro e w9 ⟨rfl, x9, hB9⟩
  go_wp2_with fail
  refine (eqEvs_same _ _ _ _ _ D _ ((p8.below hB9).evs hl) (x9.evs hl)).mono ?_
  rintro e w10 ⟨rfl, hB10⟩
  have hB810 : Below w8.heap.size w8 w10 := hB9.trans (hB10.mono hB9.size)
  clear hB9 hB10 x9
  have b12 : Below w.heap.size w _ := b8.trans (hB810.mono b8.size)
  have q12 := q8.below hB810
  have r12 := r8.below hB810
  have p12 := p8.below hB810
  have g12 := g8.below hB810
  have n12 := n8.below hB810
  clear b8 q8 r8 p8 g8 n8 hB810
  have gl : ∀ k, vg.ownBlock = some k → w5.heap.size ≤ k := fun k hk => (World.ownsRow.lt g12 k hk).1
  have nl : ∀ k, ug.ownBlock = some k → w5.heap.size ≤ k := fun k hk => (World.ownsRow.lt n12 k hk).1
  go_wp2_with fail
  refine (markEvs_any _ _ (listD D len) 1 w10 (HV.out _ _ _ p12) hll (by omega)).mono ?_
  rintro e w13 ⟨rfl, _, hG13⟩
  have b14 := b12.grown hG13 b12.size (fun k hk => by have hk' : some w4.heap.size = some k := hk; cases hk'; exact b4s)
  have g14 := g12.kept hG13 (fun k hk e => by have := gl k hk; have e' : some k = some w4.heap.size := e; cases e'; omega)
  have n14 := n12.kept hG13 (fun k hk e => by have := nl k hk; have e' : some k = some w4.heap.size := e; cases e'; omega)
  have q14 := q12.kept hG13 (fun k hk e => by have := ql k hk; have e' : some k = some w4.heap.size := e; cases e'; omega)
  have r14 := r12.kept hG13 (fun k hk e => by have := rl k hk; have e' : some k = some w4.heap.size := e; cases e'; omega)
  rw [listD_len]
  clear p12 g12 n12 q12 r12 hG13 b12
  have hk14 : decide (((1 + len * 4 : Nat) : Int) < 0) = false := decide_eq_false (by omega)
  go_wp2_with fail
  refine (eqV_same _ _ _ _ _ _ g14 q14).mono ?_
  rintro e w15' ⟨rfl, hB15⟩
  have b15' : Below w.heap.size w _ := b14.trans (hB15.mono b14.size)
  have q15' := q14.below hB15
  have r15' := r14.below hB15
  have g15' := g14.below hB15
  have n15' := n14.below hB15
  clear b14 q14 r14 g14 n14 hB15
  go_wp2_with fail
  refine (eqV_same _ _ _ _ _ _ n15' r15').mono ?_
  rintro e w15 ⟨rfl, hB15⟩
  have b15 : Below w.heap.size w _ := b15'.trans (hB15.mono b15'.size)
  have q15 := q15'.below hB15
  have r15 := r15'.below hB15
  have g15 := g15'.below hB15
  have n15 := n15'.below hB15
  clear b15' q15' r15' g15' n15' hB15
  go_wp2_with fail
  refine (markEvs_any _ _ R 1 w15 g15 (by omega) (by omega)).mono ?_
  rintro e w16 ⟨rfl, m16, hG16⟩
  have b16 := b15.grown hG16 b15.size (fun k hk => by have := gl k hk; omega)
  have q16 := q15.kept hG16 (fun k hk e => by have h1 := ql k hk; have h2 := gl k e.symm; omega)
  have r16 := r15.kept hG16 (fun k hk e => by have h1 := rl k hk; have h2 := gl k e.symm; omega)
  have n16 := n15.kept hG16 (fun k hk e => hap k e.symm hk)
  clear g15 n15 q15 r15 hG16 b15
  go_wp2_with fail
  refine (markEvs_any _ _ N (1 + R.length * 4) w16 n16 (by omega) (by omega)).mono ?_
  rintro e w17 ⟨rfl, l17, hG17⟩
  have b17 := b16.grown hG17 b16.size (fun k hk => by have := nl k hk; omega)
  have q17 := q16.kept hG17 (fun k hk e => by have h1 := ql k hk; have h2 := nl k e.symm; omega)
  have r17 := r16.kept hG17 (fun k hk e => by have h1 := rl k hk; have h2 := nl k e.symm; omega)
  have m17 := m16.kept hG17 (fun k hk e => hap k hk e.symm)
  clear m16 n16 q16 r16 hG17 b16
  have hq1 : decide (((1 + R.length * 4 : Nat) : Int) < 0) = false := decide_eq_false (by omega)
  have hq3 : decide (((1 + R.length * 4 + N.length * 4 : Nat) : Int) < 0) = false := decide_eq_false (by omega)
  have hq2 : (((1 + R.length * 4 + N.length * 4 : Nat) : Int) != ((1 + R.length * 4 + N.length * 4 : Nat) : Int)) = false := by simp
  go_wp2_with fail
  refine (heldEvs_any _ _ 1 R.length w17 m17 (by omega) (by omega)).mono ?_
  rintro e w18' ⟨rfl, hB18⟩
  have b18' : Below w.heap.size w _ := b17.trans (hB18.mono b17.size)
  have q18' := q17.below hB18
  have r18' := r17.below hB18
  have m18' := m17.below hB18
  have l18' := l17.below hB18
  clear b17 q17 r17 m17 l17 hB18
  go_wp2_with fail
  refine (heldEvs_any _ _ (1 + R.length * 4) N.length w18' l18' (by omega) (by omega)).mono ?_
  rintro e w18 ⟨rfl, hB18⟩
  have b18 : Below w.heap.size w _ := b18'.trans (hB18.mono b18'.size)
  have q18 := q18'.below hB18
  have r18 := r18'.below hB18
  have m18 := m18'.below hB18
  have l18 := l18'.below hB18
  clear b18' q18' r18' m18' l18' hB18
  go_wp2_with fail
  refine (T.out w18 b18).mono ?_
  rintro e w19 ⟨rfl, o19, hB19⟩
  go_wp2_with fail
  refine (I.out w19 _ _ o19).mono ?_
  rintro e w20 ⟨vh, uh, rfl, g20, n20, _, hB20⟩
  have hB1820 : Below w18.heap.size w18 w20 := hB19.trans (hB20.mono hB19.size)
  clear o19 hB19 hB20
  have b20 : Below w.heap.size w _ := b18.trans (hB1820.mono b18.size)
  have q20 := q18.below hB1820
  have r20 := r18.below hB1820
  have m20 := m18.below hB1820
  have l20 := l18.below hB1820
  clear b18 q18 r18 m18 l18 hB1820
  go_wp2_with fail
  refine (eqV_same _ _ _ _ _ _ g20 q20).mono ?_
  rintro e w21 ⟨rfl, hB21⟩
  have b21 : Below w.heap.size w _ := b20.trans (hB21.mono b20.size)
  have r21 := r20.below hB21
  have m21 := m20.below hB21
  have l21 := l20.below hB21
  have n21 := n20.below hB21
  clear b20 r20 m20 l20 n20 hB21
  clear g20 q20
  go_wp2_with fail
  refine (eqV_same _ _ _ _ _ _ n21 r21).mono ?_
  rintro e w22 ⟨rfl, hB22⟩
  have b22 : Below w.heap.size w _ := b21.trans (hB22.mono b21.size)
  have m22 := m21.below hB22
  have l22 := l21.below hB22
  clear b21 m21 l21 hB22
  clear n21 r21
  go_wp2_with fail
  refine (heldEvs_any _ _ 1 R.length w22 m22 (by omega) (by omega)).mono ?_
  rintro e w23 ⟨rfl, hB23⟩
  have b23 : Below w.heap.size w _ := b22.trans (hB23.mono b22.size)
  have l23 := l22.below hB23
  clear b22 l22 hB23
  clear m22
  go_wp2_with fail
  refine (heldEvs_any _ _ (1 + R.length * 4) N.length w23 l23 (by omega) (by omega)).mono ?_
  rintro e w24 ⟨rfl, hB24⟩
  have b24 := b23.trans (hB24.mono b23.size)
  go_wp2
  go_ret
  exact ⟨rfl, HB0.out.trans (b24.mono HB0.out.size)⟩

set_option maxRecDepth 100000 in
theorem seqTurned_lifted (os : Os) (started : os.Started) (H : Type) (enc : TypeId × Value → H) :
    ReturnsInHanded {} Try.checked os 7 .any (Rows.fnExactSeqTurnedSpec.pre6 enc Try.prog Try.f7 Rows.fnExactSeqTurnedRow.domain false) (Rows.fnExactSeqTurnedSpec.post enc Try.prog Try.f7 false true false false) := by
  refine returnsInHanded_of_change (C := Try.checked) own started (by kernel_rfl) Try.func7
    (ChangeSpec.witness6 (enc := enc) (C := Try.checked) false ⟨#[], #[.slice none 0 0, .int .i64 0, .string ⟨#[]⟩], []⟩ 8 (by kernel_rfl) (by kernel_rfl) (by kernel_rfl) (by kernel_rfl)) ?_
  intro W base args ds gs before hval0 hW hcnd _
  have hval : ∀ (j : Nat) t v, Try.f7.params[j]? = some t → args[j]? = some v → Value.okWide Try.prog W .any base t v := hval0
  have hW' := hW
  obtain ⟨p, q, hA0, hV, rfl, hfz, hnd⟩ := hW
  have hA : DataW.TrodAll enc Try.prog W 0 (fun _ => true) true Try.f7.params.toList args.toList ds p := hA0
  rw [Try.params7] at hA hval
  obtain ⟨v0, vs0, d0, ds0, p0, q0, hargs, rfl, rfl, h0, r0⟩ := trodAll_cons hA
  obtain ⟨v1, vs1, d1, ds1, p1, q1, rfl, rfl, rfl, h1, r1⟩ := trodAll_cons r0
  obtain ⟨v2, vs2, d2, ds2, p2, q2, rfl, rfl, rfl, h2, r2⟩ := trodAll_cons r1
  obtain ⟨rfl, rfl, rfl⟩ := trodAll_nil r2
  obtain rfl : args = #[v0, v1, v2] := by cases args; simp_all
  obtain ⟨rfl, rfl⟩ := trodVars_none hV
  obtain ⟨a0, len0, cap0, rfl⟩ := okWide_slice Try.underlying22 (hval 0 22 v0 rfl rfl)
  have k0 := h0
  have lt0 : ∀ x ∈ p0, x.block < W.heap.size := by obtain ⟨m, hm⟩ := k0; exact DataW.trod_lt m _ _ _ hm
  have k1 := h1
  have lt1 : ∀ x ∈ p1, x.block < W.heap.size := by obtain ⟨m, hm⟩ := k1; exact DataW.trod_lt m _ _ _ hm
  have k2 := h2
  have lt2 : ∀ x ∈ p2, x.block < W.heap.size := by obtain ⟨m, hm⟩ := k2; exact DataW.trod_lt m _ _ _ hm
  obtain ⟨z1, rfl⟩ := okWide_int Try.underlying2 (hval 1 2 v1 rfl rfl)
  obtain ⟨sg, rfl, rfl, rfl, wsg⟩ := Go.ChangeMaps.open_string Try.underlying9 (hval 2 9 v2 rfl rfl) h2
  have hsg : sg.size ≤ 9223372036854775807 := by
    obtain ⟨fuel, hf⟩ := k2
    obtain ⟨z, q, _, hz⟩ := DataW.trod_string Try.underlying9 hf
    simp [Value.cells] at q
    subst q
    exact Nat.le_trans hz (by decide)
  obtain ⟨D, w0, f0⟩ : ∃ D, IsEvs W a0 len0 cap0 D ∧ ∀ i, i < len0 → (D i).in := by
    obtain ⟨fuel, hf⟩ := h0
    obtain ⟨a, len, cap, D, e, hI, hF⟩ := open_evs (by simpa [Value.cells] using hf)
    simp at e
    obtain ⟨rfl, rfl, rfl⟩ := e
    exact ⟨D, hI, hF⟩
  clear hA0 hval0
  refine (seqTurned_walk a0 len0 cap0 D z1 sg hsg W w0 f0).mono fun e W' ⟨he, bel⟩ => ?_
  subst he
  exact ⟨_, rfl, _, _, _, [], _, [], hW', trodAll_mk1 (shut_bool Try.underlying4 _), (trodAll_cons_mk (Below.trod laidOut (by kernel_rfl) (of_decide_eq_true (by kernel_rfl)) k0 bel lt0) (trodAll_cons_mk (Below.trod laidOut (by kernel_rfl) (of_decide_eq_true (by kernel_rfl)) k1 bel lt1) (trodAll_cons_mk (Below.trod laidOut (by kernel_rfl) (of_decide_eq_true (by kernel_rfl)) k2 bel lt2) trodAll_mk0))), rfl, bel.frame _, fun h => by cases h⟩

theorem seqTurned_proved : Rows.FnExactSeqTurnedSaid :=
  OpenClaim.holds_of_wide 7 Try.f7 rfl rfl rfl rfl rfl rfl rfl ⟨rfl, rfl, rfl, rfl, rfl⟩ rfl rfl rfl rfl rfl (by kernel_rfl) Try.func7 (by kernel_rfl)
    (of_decide_eq_true (by kernel_rfl)) (by unfold Func.isWrapper; first | (rw [if_pos (by decide +kernel)]; kernel_rfl) | (rw [if_neg (by decide +kernel)]; exact ⟨rfl, rfl⟩))
    (fun os started H enc _ => seqTurned_lifted os started H enc)
#print axioms seqTurned_proved
end Go.Proofs.Ytmlikcblfkkpjaa
