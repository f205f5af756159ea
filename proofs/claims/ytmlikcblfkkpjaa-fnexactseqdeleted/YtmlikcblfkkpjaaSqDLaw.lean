/-
  The statement FnExactSeqDeletedSaid: at every argument the law returns true, and the argument reads afterwards as it read before. No condition.
-/
import Derived.Test.YtmlikcblfkkpjaaSqDs
import Derived.Test.YtmlikcblfkkpjaaEMark
import Derived.Test.YtmlikcblfkkpjaaEVal2
namespace Go.Proofs.Ytmlikcblfkkpjaa
open Go.ChangeShapes Go.WideShapes Go.ChangeAt Go.RowKit Go.Deep
set_option linter.unusedVariables false

set_option maxRecDepth 10000 in
set_option maxHeartbeats 8000000 in
theorem seqDel_walk (a : Option Addr) (len cap : Nat) (D : Nat → Ev) (author z : Int) (w0 : World) (h : IsEvs w0 a len cap D) (hF : ∀ i, i < len → (D i).in) :
    Calls Try.prog 6 #[.slice a len cap, .int .i64 author, .int .i64 z] w0 fun e w' => e = .returned (.bool true) ∧ Below w0.heap.size w0 w' := by
  go_enter Try.func6, Try.ntmps6
  go_wp2_with fail
  refine (szOps_any a len cap D w0 h hF _ (by omega) (by omega)).mono ?_
  rintro e w ⟨r, rfl, hr, hB0⟩
  rcases hr with hr | ⟨hr, hr1, hl, _⟩
  · go_wp2
    go_ret
    exact ⟨rfl, hB0⟩
  have HB0 : Hid (Below w0.heap.size w0 w) := hB0
  have h1 := h.below hB0
  clear hB0
  have T : Hid (∀ w', Below w.heap.size w w' → Calls Try.prog 11 #[.slice a len cap] w' fun e w'' => e = .returned (.slice (some ⟨w'.heap.size, 0, none⟩) len len) ∧ EOwn w'' w'.heap.size w'.heap.size len D ∧ Below w'.heap.size w' w'') := fun w' hB' => toEvs_own a len cap D w' (h1.below hB') hl
  have HV : Hid (∀ w' base g, EOwn w' base g len D → OwnV w' base (.slice (some ⟨g, 0, none⟩) len len) (listD D len)) := fun w' base g q => by
    have := q.own.v
    rw [listD_len] at this
    exact this
  obtain ⟨ok, hok⟩ : ∃ ok, ok = okD D len author z := ⟨_, rfl⟩
  obtain ⟨x, hx⟩ : ∃ x, x = (if ok then opD D len author z else evZ) := ⟨_, rfl⟩
  obtain ⟨R, hR⟩ : ∃ R, R = (if ok then listD D len ++ [opD D len author z] else []) := ⟨_, rfl⟩
  have hRl : R.length ≤ 40 := by
    rw [hR]
    split
    · rename_i hy
      rw [snoc_len]
      rw [hok] at hy
      unfold okD okW at hy
      simp only [Bool.and_eq_true] at hy
      exact (seqB_parts hy.2.2).1
    · exact Nat.zero_le _
  have S : Hid (∀ w' g base, EOwn w' base g len D → Calls Try.prog 24 #[.slice (some ⟨g, 0, none⟩) len len, .int .i64 author, .int .i64 z] w' fun e w'' => ∃ v, e = .returned (.tuple #[v, .agg #[.int .i64 x.a, .int .i64 x.b, .int .i64 x.c, .string x.d], .bool ok]) ∧ OwnV w'' w'.heap.size v R ∧ Below w'.heap.size w' w'') := fun w' g base q => by
    rw [hR, hx, hok]
    exact specDeleted_any _ _ _ D author z w' (q.evs hl) hF
  have I : Hid (∀ w' g base, EOwn w' base g len D → Calls Try.prog 25 #[.slice (some ⟨g, 0, none⟩) len len, .int .i64 author, .int .i64 z] w' fun e w'' => ∃ v, e = .returned (.tuple #[v, .agg #[.int .i64 x.a, .int .i64 x.b, .int .i64 x.c, .string x.d], .bool ok]) ∧ OwnV w'' w'.heap.size v R ∧ Below w'.heap.size w' w'') := fun w' g base q => by
    rw [hR, hx, hok]
    exact implDeleted_any _ _ _ D author z w' (q.evs hl) hF
  have hll : (listD D len).length ≤ 1048576 := by rw [listD_len]; exact hl
  have hokn : (ok != ok) = false := by simp
  obtain ⟨cw, hcw⟩ : ∃ cw : Array Value, cw = #[.int .i64 x.a, .int .i64 x.b, .int .i64 x.c, .string x.d] := ⟨_, rfl⟩
  clear hR hx hok hcw cw h h1 hF
  go_wp2_with fail
  refine (T.out w (Below.refl _ _)).mono ?_
  rintro e w2 ⟨rfl, o2, b2⟩
  go_wp2_with fail
  refine (S.out w2 _ _ o2).mono ?_
  rintro e w3 ⟨vw, rfl, q3, hB3⟩
  have b3 : Below w.heap.size w w3 := b2.trans (hB3.mono b2.size)
  obtain ⟨w4, hw4⟩ : ∃ w4, w4 = w3.alloc (.cells #[.int .i64 x.a, .int .i64 x.b, .int .i64 x.c, .string x.d] 35) := ⟨_, rfl⟩
  have hB34 : Below w3.heap.size w3 w4 := by rw [hw4]; exact (Below.refl _ _).alloc (Nat.le_refl _) _
  have c3 : w4.heap[w3.heap.size]? = some (.cells #[.int .i64 x.a, .int .i64 x.b, .int .i64 x.c, .string x.d] 35 (0, 0)) := by rw [hw4]; exact heap_alloc_new _ _
  have b4 : Below w.heap.size w w4 := b3.trans (hB34.mono b3.size)
  have q4 := q3.below hB34
  have HW4 := (show Hid _ from hw4)
  have ql : ∀ k, vw.ownBlock = some k → k < w3.heap.size := fun k hk => (World.ownsRow.lt q3 k hk).2
  have b4s : w.heap.size ≤ w4.heap.size := b4.size
  have s34 : w3.heap.size < w4.heap.size := lt_of_block c3
  clear o2 hB3 b2 b3 hB34 q3 hw4
  go_wp2_with fail
  rw [← HW4.out]
  refine (T.out w4 b4).mono ?_
  rintro e w5 ⟨rfl, o5, hB5⟩
  have b5 : Below w.heap.size w w5 := b4.trans (hB5.mono b4.size)
  have q5 := q4.below hB5
  have d5 := (hB5.block _ (lt_of_block c3)).trans c3
  have s5 : w4.heap.size < w5.heap.size := (HV.out _ _ _ o5).cases.elim (fun h => by cases h.1) (fun ⟨g, c, h, hO⟩ => by simp at h; rw [h.1]; exact hO.lies.2.1)
  clear HW4 c3
  go_wp2_with fail
  refine (I.out w5 _ _ o5).mono ?_
  rintro e w6 ⟨vg, rfl, g6, hB6⟩
  obtain ⟨w7, hw7⟩ : ∃ w7, w7 = w6.alloc (.cells #[.int .i64 x.a, .int .i64 x.b, .int .i64 x.c, .string x.d] 35) := ⟨_, rfl⟩
  have hB67 : Below w6.heap.size w6 w7 := by rw [hw7]; exact (Below.refl _ _).alloc (Nat.le_refl _) _
  have hB7 : Below w5.heap.size w5 w7 := hB6.trans (hB67.mono hB6.size)
  have e7 : w7.heap[w6.heap.size]? = some (.cells #[.int .i64 x.a, .int .i64 x.b, .int .i64 x.c, .string x.d] 35 (0, 0)) := by rw [hw7]; exact heap_alloc_new _ _
  have b7 : Below w.heap.size w w7 := b5.trans (hB7.mono b5.size)
  have q7 := q5.below hB7
  have g7 := g6.below hB67
  have gh : ∀ k, vg.ownBlock = some k → k < w6.heap.size := fun k hk => (World.ownsRow.lt g6 k hk).2
  have d7 := (hB7.block _ (lt_of_block d5)).trans d5
  have p7 := o5.below hB7
  have s56 : w5.heap.size ≤ w6.heap.size := hB6.size
  have HW7 := (show Hid _ from hw7)
  clear o5 q5 q4 hB5 hB6 hB7 hB67 g6 b4 b5 d5 hw7
  go_wp2_with fail
  rw [← HW7.out]
  refine (eqV_same _ _ _ _ _ _ g7 q7).mono ?_
  rintro e w8' ⟨rfl, hB8⟩
  have b8' : Below w.heap.size w w8' := b7.trans (hB8.mono b7.size)
  have q8' := q7.below hB8
  have p8' := p7.below hB8
  have g8' := g7.below hB8
  have d8' := (hB8.block _ (lt_of_block d7)).trans d7
  have e8' := (hB8.block _ (lt_of_block e7)).trans e7
  clear q7 p7 g7 hB8 b7 d7 e7 HW7
  have lc0 : w8'.cell? ⟨w3.heap.size, 0, none⟩ = some (.int .i64 x.a) := cellN d8'
  have ld0 : w8'.cell? ⟨w6.heap.size, 0, none⟩ = some (.int .i64 x.a) := cellN e8'
  have lc1 : w8'.cell? ⟨w3.heap.size, 1, none⟩ = some (.int .i64 x.b) := cellN d8'
  have ld1 : w8'.cell? ⟨w6.heap.size, 1, none⟩ = some (.int .i64 x.b) := cellN e8'
  have lc2 : w8'.cell? ⟨w3.heap.size, 2, none⟩ = some (.int .i64 x.c) := cellN d8'
  have ld2 : w8'.cell? ⟨w6.heap.size, 2, none⟩ = some (.int .i64 x.c) := cellN e8'
  have lc3 : w8'.cell? ⟨w3.heap.size, 3, none⟩ = some (.string x.d) := cellN d8'
  have ld3 : w8'.cell? ⟨w6.heap.size, 3, none⟩ = some (.string x.d) := cellN e8'
  go_wp2_with fail
  refine (eqEv_same x w8').mono ?_
  rintro e w8 ⟨rfl, hB8⟩
  have b8 : Below w.heap.size w w8 := b8'.trans (hB8.mono b8'.size)
  have q8 := q8'.below hB8
  have p8 := p8'.below hB8
  have g8 := g8'.below hB8
  have d8 := (hB8.block _ (lt_of_block d8')).trans d8'
  have e8 := (hB8.block _ (lt_of_block e8')).trans e8'
  clear q8' p8' g8' hB8 b8' d8' e8' lc0 lc1 lc2 lc3 ld0 ld1 ld2 ld3
  go_wp2_with fail
  refine (T.out w8 b8).mono ?_
  rintro e w9 ⟨rfl, x9, hB9⟩
  go_wp2_with fail
  refine (eqEvs_same _ _ _ _ _ D _ ((p8.below hB9).evs hl) (x9.evs hl)).mono ?_
  rintro e w10 ⟨rfl, hB10⟩
  have hB810 : Below w8.heap.size w8 w10 := hB9.trans (hB10.mono hB9.size)
  have b12 : Below w.heap.size w w10 := b8.trans (hB810.mono b8.size)
  have q12 := q8.below hB810
  have p12 := p8.below hB810
  have g12 := g8.below hB810
  have d12 := (hB810.block _ (lt_of_block d8)).trans d8
  have e12 := (hB810.block _ (lt_of_block e8)).trans e8
  clear q8 p8 g8 hB9 hB10 hB810 x9 b8 d8 e8
  have gl : ∀ k, vg.ownBlock = some k → w5.heap.size ≤ k := fun k hk => (World.ownsRow.lt g12 k hk).1
  go_wp2_with fail
  refine (markEvs_any _ _ (listD D len) 1 w10 (HV.out _ _ _ p12) hll (by omega)).mono ?_
  rintro e w13 ⟨rfl, _, hG13⟩
  have b14 := b12.grown hG13 b12.size (fun k hk => by have hk' : some w4.heap.size = some k := hk; cases hk'; exact b4s)
  have g14 := g12.kept hG13 (fun k hk e => by have := gl k hk; have e' : some k = some w4.heap.size := e; cases e'; omega)
  have q14 := q12.kept hG13 (fun k hk e => by have := ql k hk; have e' : some k = some w4.heap.size := e; cases e'; omega)
  have d14 := (hG13.block _ (lt_of_block d12) (fun e => by have e' : some w3.heap.size = some w4.heap.size := e; simp at e'; omega)).trans d12
  have e14 := (hG13.block _ (lt_of_block e12) (fun e => by have e' : some w6.heap.size = some w4.heap.size := e; simp at e'; omega)).trans e12
  rw [listD_len]
  clear p12 g12 q12 hG13 b12 d12 e12
  have hk14 : decide (((1 + len * 4 : Nat) : Int) < 0) = false := decide_eq_false (by omega)
  go_wp2_with fail
  refine (eqV_same _ _ _ _ _ _ g14 q14).mono ?_
  rintro e w15' ⟨rfl, hB15⟩
  have b15' := b14.trans (hB15.mono b14.size)
  have g15' := g14.below hB15
  have q15' := q14.below hB15
  have d15' := (hB15.block _ (lt_of_block d14)).trans d14
  have e15' := (hB15.block _ (lt_of_block e14)).trans e14
  clear g14 q14 hB15 b14 d14 e14
  have lc0 : w15'.cell? ⟨w3.heap.size, 0, none⟩ = some (.int .i64 x.a) := cellN d15'
  have ld0 : w15'.cell? ⟨w6.heap.size, 0, none⟩ = some (.int .i64 x.a) := cellN e15'
  have lc1 : w15'.cell? ⟨w3.heap.size, 1, none⟩ = some (.int .i64 x.b) := cellN d15'
  have ld1 : w15'.cell? ⟨w6.heap.size, 1, none⟩ = some (.int .i64 x.b) := cellN e15'
  have lc2 : w15'.cell? ⟨w3.heap.size, 2, none⟩ = some (.int .i64 x.c) := cellN d15'
  have ld2 : w15'.cell? ⟨w6.heap.size, 2, none⟩ = some (.int .i64 x.c) := cellN e15'
  have lc3 : w15'.cell? ⟨w3.heap.size, 3, none⟩ = some (.string x.d) := cellN d15'
  have ld3 : w15'.cell? ⟨w6.heap.size, 3, none⟩ = some (.string x.d) := cellN e15'
  go_wp2_with fail
  refine (eqEv_same x w15').mono ?_
  rintro e w15 ⟨rfl, hB15⟩
  have b15 := b15'.trans (hB15.mono b15'.size)
  have g15 := g15'.below hB15
  have q15 := q15'.below hB15
  have d15 := (hB15.block _ (lt_of_block d15')).trans d15'
  clear g15' q15' hB15 b15' d15' e15' lc0 lc1 lc2 lc3 ld0 ld1 ld2 ld3
  go_wp2_with fail
  refine (markEvs_any _ _ R 1 w15 g15 (by omega) (by omega)).mono ?_
  rintro e w16 ⟨rfl, m16, hG16⟩
  have b16 := b15.grown hG16 b15.size (fun k hk => by have := gl k hk; omega)
  have q16 := q15.kept hG16 (fun k hk e => by have h1 := ql k hk; have h2 := gl k e.symm; omega)
  have d16 := (hG16.block _ (lt_of_block d15) (fun e => by have h2 := gl _ e.symm; omega)).trans d15
  clear g15 q15 hG16 b15 d15
  have hq1 : decide (((1 + R.length * 4 : Nat) : Int) < 0) = false := decide_eq_false (by omega)
  have hq2 : (((1 + R.length * 4 : Nat) : Int) != ((1 + R.length * 4 : Nat) : Int)) = false := by simp
  go_wp2_with fail
  refine (heldEvs_any _ _ 1 R.length w16 m16 (by omega) (by omega)).mono ?_
  rintro e w16' ⟨rfl, hB16'⟩
  have b16' := b16.trans (hB16'.mono b16.size)
  have q16' := q16.below hB16'
  have m16' := m16.below hB16'
  have d16' := (hB16'.block _ (lt_of_block d16)).trans d16
  clear q16 m16 b16 d16 hB16'
  go_wp2_with fail
  refine (T.out w16' b16').mono ?_
  rintro e w17 ⟨rfl, o17, hB17⟩
  go_wp2_with fail
  refine (I.out w17 _ _ o17).mono ?_
  rintro e w18 ⟨vh, rfl, g18, hB18⟩
  obtain ⟨w19, hw19⟩ : ∃ w19, w19 = w18.alloc (.cells #[.int .i64 x.a, .int .i64 x.b, .int .i64 x.c, .string x.d] 35) := ⟨_, rfl⟩
  have hB1819 : Below w18.heap.size w18 w19 := by rw [hw19]; exact (Below.refl _ _).alloc (Nat.le_refl _) _
  have e19 : w19.heap[w18.heap.size]? = some (.cells #[.int .i64 x.a, .int .i64 x.b, .int .i64 x.c, .string x.d] 35 (0, 0)) := by rw [hw19]; exact heap_alloc_new _ _
  have hB1619 : Below w16'.heap.size w16' w19 := (hB17.trans (hB18.mono hB17.size)).trans (hB1819.mono (Nat.le_trans hB17.size hB18.size))
  have b19 := b16'.trans (hB1619.mono b16'.size)
  have q19 := q16'.below hB1619
  have m19 := m16'.below hB1619
  have d19 := (hB1619.block _ (lt_of_block d16')).trans d16'
  have g19 := g18.below hB1819
  have HW19 := (show Hid _ from hw19)
  clear o17 hB17 hB18 hB1819 hB1619 b16' q16' m16' d16' g18 hw19
  go_wp2_with fail
  rw [← HW19.out]
  refine (eqV_same _ _ _ _ _ _ g19 q19).mono ?_
  rintro e w20' ⟨rfl, hB20⟩
  have b20' := b19.trans (hB20.mono b19.size)
  have m20' := m19.below hB20
  have d20' := (hB20.block _ (lt_of_block d19)).trans d19
  have e20' := (hB20.block _ (lt_of_block e19)).trans e19
  clear g19 q19 m19 hB20 b19 d19 e19 HW19
  have lc0 : w20'.cell? ⟨w3.heap.size, 0, none⟩ = some (.int .i64 x.a) := cellN d20'
  have ld0 : w20'.cell? ⟨w18.heap.size, 0, none⟩ = some (.int .i64 x.a) := cellN e20'
  have lc1 : w20'.cell? ⟨w3.heap.size, 1, none⟩ = some (.int .i64 x.b) := cellN d20'
  have ld1 : w20'.cell? ⟨w18.heap.size, 1, none⟩ = some (.int .i64 x.b) := cellN e20'
  have lc2 : w20'.cell? ⟨w3.heap.size, 2, none⟩ = some (.int .i64 x.c) := cellN d20'
  have ld2 : w20'.cell? ⟨w18.heap.size, 2, none⟩ = some (.int .i64 x.c) := cellN e20'
  have lc3 : w20'.cell? ⟨w3.heap.size, 3, none⟩ = some (.string x.d) := cellN d20'
  have ld3 : w20'.cell? ⟨w18.heap.size, 3, none⟩ = some (.string x.d) := cellN e20'
  go_wp2_with fail
  refine (eqEv_same x w20').mono ?_
  rintro e w20 ⟨rfl, hB20⟩
  have b20 := b20'.trans (hB20.mono b20'.size)
  have m20 := m20'.below hB20
  clear m20' hB20 b20' d20' e20' lc0 lc1 lc2 lc3 ld0 ld1 ld2 ld3
  go_wp2_with fail
  refine (heldEvs_any _ _ 1 R.length w20 m20 (by omega) (by omega)).mono ?_
  rintro e w21 ⟨rfl, hB21⟩
  have b21 := b20.trans (hB21.mono b20.size)
  go_wp2
  go_ret
  exact ⟨rfl, HB0.out.trans (b21.mono HB0.out.size)⟩

set_option maxRecDepth 100000 in
theorem seqDel_lifted (os : Os) (started : os.Started) (H : Type) (enc : TypeId × Value → H) :
    ReturnsInHanded {} Try.checked os 6 .any (Rows.fnExactSeqDeletedSpec.pre6 enc Try.prog Try.f6 Rows.fnExactSeqDeletedRow.domain false) (Rows.fnExactSeqDeletedSpec.post enc Try.prog Try.f6 false true false false) := by
  refine returnsInHanded_of_change (C := Try.checked) own started (by kernel_rfl) Try.func6
    (ChangeSpec.witness6 (enc := enc) (C := Try.checked) false ⟨#[], #[.slice none 0 0, .int .i64 0, .int .i64 0], []⟩ 8 (by kernel_rfl) (by kernel_rfl) (by kernel_rfl) (by kernel_rfl)) ?_
  intro W base args ds gs before hval0 hW hcnd _
  have hval : ∀ (j : Nat) t v, Try.f6.params[j]? = some t → args[j]? = some v → Value.okWide Try.prog W .any base t v := hval0
  have hW' := hW
  obtain ⟨p, q, hA0, hV, rfl, hfz, hnd⟩ := hW
  have hA : DataW.TrodAll enc Try.prog W 0 (fun _ => true) true Try.f6.params.toList args.toList ds p := hA0
  rw [Try.params6] at hA hval
  obtain ⟨v0, vs0, d0, ds0, p0, q0, hargs, rfl, rfl, h0, r0⟩ := trodAll_cons hA
  obtain ⟨v1, vs1, d1, ds1, p1, q1, rfl, rfl, rfl, h1, r1⟩ := trodAll_cons r0
  obtain ⟨v2, vs2, d2, ds2, p2, q2, rfl, rfl, rfl, h2, r2⟩ := trodAll_cons r1
  obtain ⟨rfl, rfl, rfl⟩ := trodAll_nil r2
  obtain rfl : args = #[v0, v1, v2] := by cases args; simp_all
  obtain ⟨rfl, rfl⟩ := trodVars_none hV
  obtain ⟨a0, len0, cap0, rfl⟩ := okWide_slice Try.underlying22 (hval 0 22 v0 rfl rfl)
  have k0 := h0
  have lt0 : ∀ x ∈ p0, x.block < W.heap.size := by obtain ⟨m, hm⟩ := k0; exact DataW.trod_lt m _ _ _ hm
  have k1 := h1
  have lt1 : ∀ x ∈ p1, x.block < W.heap.size := by obtain ⟨m, hm⟩ := k1; exact DataW.trod_lt m _ _ _ hm
  have k2 := h2
  have lt2 : ∀ x ∈ p2, x.block < W.heap.size := by obtain ⟨m, hm⟩ := k2; exact DataW.trod_lt m _ _ _ hm
  obtain ⟨z1, rfl⟩ := okWide_int Try.underlying2 (hval 1 2 v1 rfl rfl)
  obtain ⟨z2, rfl⟩ := okWide_int Try.underlying2 (hval 2 2 v2 rfl rfl)
  obtain ⟨D, w0, f0⟩ : ∃ D, IsEvs W a0 len0 cap0 D ∧ ∀ i, i < len0 → (D i).in := by
    obtain ⟨fuel, hf⟩ := h0
    obtain ⟨a, len, cap, D, e, hI, hF⟩ := open_evs (by simpa [Value.cells] using hf)
    simp at e
    obtain ⟨rfl, rfl, rfl⟩ := e
    exact ⟨D, hI, hF⟩
  clear hA0 hval0
  refine (seqDel_walk a0 len0 cap0 D z1 z2 W w0 f0).mono fun e W' ⟨he, bel⟩ => ?_
  subst he
  exact ⟨_, rfl, _, _, _, [], _, [], hW', trodAll_mk1 (shut_bool Try.underlying4 _), (trodAll_cons_mk (Below.trod laidOut (by kernel_rfl) (of_decide_eq_true (by kernel_rfl)) k0 bel lt0) (trodAll_cons_mk (Below.trod laidOut (by kernel_rfl) (of_decide_eq_true (by kernel_rfl)) k1 bel lt1) (trodAll_cons_mk (Below.trod laidOut (by kernel_rfl) (of_decide_eq_true (by kernel_rfl)) k2 bel lt2) trodAll_mk0))), rfl, bel.frame _, fun h => by cases h⟩

theorem seqDel_proved : Rows.FnExactSeqDeletedSaid :=
  OpenClaim.holds_of_wide 6 Try.f6 rfl rfl rfl rfl rfl rfl rfl ⟨rfl, rfl, rfl, rfl, rfl⟩ rfl rfl rfl rfl rfl (by kernel_rfl) Try.func6 (by kernel_rfl)
    (of_decide_eq_true (by kernel_rfl)) (by unfold Func.isWrapper; first | (rw [if_pos (by decide +kernel)]; kernel_rfl) | (rw [if_neg (by decide +kernel)]; exact ⟨rfl, rfl⟩))
    (fun os started H enc _ => seqDel_lifted os started H enc)
#print axioms seqDel_proved
end Go.Proofs.Ytmlikcblfkkpjaa
