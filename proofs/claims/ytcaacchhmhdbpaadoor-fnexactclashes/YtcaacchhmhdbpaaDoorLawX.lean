/-
  The law of Clashes returns true. No condition but that the slice reads.
-/
import Derived.Test.YtcaacchhmhdbpaaDoorIMark
namespace Go.Proofs.YtcaacchhmhdbpaaDoor
open Go.RowKit
set_option linter.unusedVariables false

theorem clR_at (C : Nat → Cm) (T : Nat → Nat) (m : Nat) : clR (fun i => (C i).at (T i)) m = clR C m := by
  have hr : ∀ who i k, rowB (fun i => (C i).at (T i)) who i k = rowB C who i k := fun who i k => by
    induction k with
    | zero => rfl
    | succ k ih => rw [rowB, rowB, ih]; rfl
  have hh : ∀ who m, hitB (fun i => (C i).at (T i)) who m = hitB C who m := fun who m => by
    induction m with
    | zero => rfl
    | succ m ih => rw [hitB, hitB, ih, hr]
  have hl : ∀ q, clL (fun i => (C i).at (T i)) m q = clL C m q := fun q => by
    induction q with
    | zero => rfl
    | succ q ih => rw [clL, clL, ih, hh]
  unfold clR
  rw [show cmsB (fun i => (C i).at (T i)) m = cmsB C m from rfl, hl]

set_option maxHeartbeats 4000000 in
theorem lawX_walk (u : Option Addr) (m uc : Nat) (C : Nat → Cm) (w : World) (hC : IsCms w u m uc C) (hCf : CFine C m) :
    Calls Tryd.prog 4 #[.slice u m uc] w fun e w' => e = .returned (.bool true) ∧ Below w.heap.size w w' := by
  go_enter Tryd.func4, Tryd.ntmps4
  go_wp2_with fail
  refine (szCms_any u m uc C _ hC hCf 1048576 (by omega) (by omega)).mono ?_
  rintro e w1 ⟨r', rfl, hr', b1⟩
  rcases hr' with hr' | ⟨hr', _, hml, hms0⟩
  · go_wp2
    go_ret
    exact ⟨rfl, b1⟩
  have hms : ∀ i, i < m → (C i).n ≤ 1048576 := fun i hi => (hms0 i hi).1
  clear hms0
  go_wp2_with fail
  refine (toCms_any u m uc C _ (hC.below b1) hml hms).mono ?_
  rintro e w2 ⟨t2, T2, rfl, j2, hB2⟩
  have b2 := b1.trans (hB2.mono b1.size)
  have cf2 : CFine (fun i => (C i).at (T2 i)) m := hCf
  go_wp2_with fail
  refine (specClashes_any _ m m _ _ j2 cf2).mono ?_
  rintro e w3 ⟨v3, rfl, o3, hB3⟩
  rw [clR_at C T2 m] at o3
  have b3 := b2.trans (hB3.mono b2.size)
  obtain ⟨L, hL⟩ : ∃ L, L = clR C m := ⟨_, rfl⟩
  rw [← hL] at o3
  have HL : Hid (L = clR C m) := hL
  clear hL hB2 hB3 j2 cf2
  obtain ⟨a3, c3, rfl, i3, q3⟩ := o3.ints
  go_wp2_with fail
  refine (toCms_own u m uc C _ (hC.below b3) hml hms).mono ?_
  rintro e w5 ⟨t5, T5, rfl, j5, hB5, r5⟩
  have b5 := b3.trans (hB5.mono b3.size)
  have cf5 : CFine (fun i => (C i).at (T5 i)) m := hCf
  go_wp2_with fail
  refine (implClashes_any _ m m _ _ j5 cf5).mono ?_
  rintro e w6 ⟨v6, rfl, o6, hB6⟩
  rw [clR_at C T5 m, ← HL.out] at o6
  have b6 := b5.trans (hB6.mono b5.size)
  have B6 : Below w3.heap.size w3 w6 := hB5.trans (hB6.mono hB5.size)
  obtain ⟨a6, c6, rfl, i6, q6⟩ := o6.ints
  clear cf5
  go_wp2_with fail
  refine (eqInt64S_same _ _ _ _ _ _ _ i6 (i3.below B6)).mono ?_
  rintro e w7 ⟨rfl, hB7⟩
  have b7 := b6.trans (hB7.mono b6.size)
  have H57 : Below w5.heap.size w5 w7 := hB6.trans (hB7.mono hB6.size)
  go_wp2_with fail
  refine (toCms_any u m uc C _ (hC.below b7) hml hms).mono ?_
  rintro e w10 ⟨t10, T10, rfl, j10, hB10⟩
  have b10 := b7.trans (hB10.mono b7.size)
  have H510 : Below w5.heap.size w5 w10 := H57.trans (hB10.mono H57.size)
  go_wp2_with fail
  refine (eqCms_like _ _ m m m _ _ _ (j5.below H510) j10 (fun i hi => ⟨rfl, rfl, rfl, rfl⟩)).mono ?_
  rintro e w11 ⟨rfl, hB11⟩
  have b11 := b10.trans (hB11.mono b10.size)
  have H611 : Below w6.heap.size w6 w11 := hB7.trans ((hB10.trans (hB11.mono hB10.size)).mono hB7.size)
  have H511 : Below w5.heap.size w5 w11 := H510.trans (hB11.mono H510.size)
  have B11 : Below w3.heap.size w3 w11 := hB5.trans (H511.mono hB5.size)
  have r11 := r5.below H511
  have ht5 := r5.top
  have s35 : w3.heap.size ≤ w5.heap.size := hB5.size
  have s311 : w3.heap.size ≤ w11.heap.size := B11.size
  go_wp2_with fail
  refine (markCms_any t5 m w3.heap.size w5.heap.size 1 T5 _ _ r11 hml hms ht5.1 ht5.2 (by omega) (by omega)).mono ?_
  rintro e w13 ⟨k13, rfl, hk13, hk13', K13⟩
  have B13 : Below w3.heap.size w3 w13 := B11.trans ((K13.mono (fun k (hk : k < w3.heap.size) => .inl hk)).below s311)
  have b13 : Below w.heap.size w w13 := b11.trans (((K13.mono (fun k (hk : k < w3.heap.size) => .inl hk)).below s311).mono b3.size)
  have i13 := (i6.below H611).kept K13 (fun b off e => .inr (q6 b off e).1)
  have o13 : OwnI w13 w5.heap.size (.slice a6 L.length c6) L := (OwnI.below o6 H611).kept K13 (fun b hb => .inr hb)
  have hkn : decide ((k13 : Int) < 0) = false := by simp
  have H313 := i3.below B13
  clear K13 r11 r5 ht5 hB5 hB6 hB7 hB10 hB11 H57 H510 H511 H611 j5 j10 i6 B6 B11 o6
  go_wp2_with fail
  refine (eqInt64S_same _ _ _ _ _ _ _ i13 H313).mono ?_
  rintro e w14 ⟨rfl, hB14⟩
  have b14 := b13.trans (hB14.mono b13.size)
  have B14 := B13.trans (hB14.mono B13.size)
  have o14 := OwnI.below o13 hB14
  obtain ⟨n, hn⟩ : ∃ n, n = L.length := ⟨_, rfl⟩
  have HLL : Hid (L.length ≤ 1000000) := by show _ ≤ _; rw [HL.out]; exact Nat.le_trans (clR_len C m) (by omega)
  clear hkn H313 i13 o13
  rw [← hn] at o14 i3 HLL ⊢
  have HN : Hid (n = L.length) := hn
  have o14' : w14.ownsRow w5.heap.size 2 1 (.slice a6 n c6) n (L.map encI) := by have := o14; unfold OwnI at this; rw [← hn] at this; exact this
  clear hn o14
  go_wp2_with fail
  refine (markInt64S_any a6 n c6 w5.heap.size (L.map encI) _ o14' HLL.out).mono ?_
  rintro e w15 ⟨rfl, o15, hG15⟩
  have hrow : ∀ k, (Value.slice a6 n c6).ownBlock = some k → w5.heap.size ≤ k := fun k hk => (o14'.lt k hk).1
  have b15 := b14.grown hG15 b14.size (fun k hk => by have := hrow k hk; have := b5.size; omega)
  have B15 := B14.grown hG15 B14.size (fun k hk => by have := hrow k hk; omega)
  have i15 : IsI64 w15 a6 n c6 (fun i => ((1 + i : Nat) : Int)) := by
    obtain ⟨a', cap', e', hI, _⟩ := ints_of_own (Z := fun i => ((1 + i : Nat) : Int)) o15 (fun i hi => imarks_at hi)
    simp only [Value.slice.injEq, true_and] at e'
    obtain ⟨rfl, rfl⟩ := e'
    exact hI
  clear o14' hG15 hrow o15
  have hq1 : decide (((1 + n : Nat) : Int) < 0) = false := by simp; omega
  have hq2 : ((((1 + n : Nat) : Int)) != ((1 + n : Nat) : Int)) = false := by simp
  go_wp2_with fail
  refine (heldInt64S_any a6 n c6 _ i15 HLL.out).mono ?_
  rintro e w16 ⟨rfl, hB16⟩
  have b16 := b15.trans (hB16.mono b15.size)
  have B16 := B15.trans (hB16.mono B15.size)
  go_wp2_with fail
  refine (toCms_any u m uc C _ (hC.below b16) hml hms).mono ?_
  rintro e w18 ⟨t18, T18, rfl, j18, hB18⟩
  have b18 := b16.trans (hB18.mono b16.size)
  have B18 := B16.trans (hB18.mono B16.size)
  have cf18 : CFine (fun i => (C i).at (T18 i)) m := hCf
  go_wp2_with fail
  refine (implClashes_any _ m m _ _ j18 cf18).mono ?_
  rintro e w19 ⟨v19, rfl, o19, hB19⟩
  rw [clR_at C T18 m, ← HL.out] at o19
  have b19 := b18.trans (hB19.mono b18.size)
  have B19 := B18.trans (hB19.mono B18.size)
  obtain ⟨a19, c19, rfl, i19, q19⟩ := o19.ints
  rw [← HN.out] at i19 ⊢
  have H3 := i3.below B19
  clear o19 cf18
  go_wp2_with fail
  refine (eqInt64S_same _ _ _ _ _ _ _ i19 H3).mono ?_
  rintro e w20 ⟨rfl, hB20⟩
  have b20 := b19.trans (hB20.mono b19.size)
  have i20 := i15.below (hB16.trans ((hB18.trans ((hB19.trans (hB20.mono hB19.size)).mono hB18.size)).mono hB16.size))
  go_wp2_with fail
  refine (heldInt64S_any a6 n c6 _ i20 HLL.out).mono ?_
  rintro e w21 ⟨rfl, hB21⟩
  go_wp2
  go_ret
  exact ⟨rfl, b20.trans (hB21.mono b20.size)⟩
end Go.Proofs.YtcaacchhmhdbpaaDoor
