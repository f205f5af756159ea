/-
  The law of Lacking returns true. No condition but that the slices read and that the tables lie.
-/
import Derived.Test.YtgacfcalbmegpaaGreatDoorLk
import Derived.Test.YtgacfcalbmegpaaGreatDoorLawS
namespace Go.Proofs.YtgacfcalbmegpaaGreatDoor
open Go.RowKit
set_option linter.unusedVariables false

set_option maxHeartbeats 1000000 in
theorem szNodeS_top (a : Option Addr) (len cap : Nat) (D : Nat → Nd) (w : World) (h : IsNds w a len cap D) (hF : Fine D len) :
    Calls Tryz.prog 7 #[.slice a len cap, .int .i64 1048576] w fun e w' => ∃ r : Int, e = .returned (.int .i64 r) ∧ (r < 0 ∨ (0 ≤ r ∧ r ≤ 1048576 ∧ len ≤ 1048576 ∧ ∀ i, i < len → (D i).n ≤ 1048576)) ∧ Below w.heap.size w w' := by
  obtain ⟨hlc, hcm, hc⟩ := h
  by_cases hneg : (1048576 : Int) - (len : Int) < 0
  · go_enter Tryz.func7, Tryz.ntmps7
    go_wp2
    go_ret
    exact ⟨_, rfl, .inl (by decide), Below.refl _ _⟩
  have hlen : len ≤ 1048576 := by omega
  go_enter Tryz.func7, Tryz.ntmps7
  go_wp2
  go_loopw [1, 5] (fun x i wr => ∃ (k : Nat) (r : Int), k ≤ len ∧ i = .int .i64 k ∧ x = .int .i64 r ∧ 0 ≤ r ∧ r ≤ 1048576 ∧ Hid (∀ j, j < k → (D j).n ≤ 1048576) ∧ Below w.heap.size w wr) (fun _ i _ => len - (intOf i).toNat)
  case atStart => exact ⟨0, _, Nat.zero_le _, rfl, rfl, by omega, by omega, fun j hj => absurd hj (Nat.not_lt_zero _), Below.refl _ _⟩
  case round =>
    obtain ⟨k, r, hk, rfl, rfl, hr0, hr1, HA, hB⟩ := hrel
    by_cases hlt : k < len
    · obtain ⟨b, off, rfl, hbs, hcell⟩ := hc (by omega)
      obtain ⟨c0, c1, c2, c3, c4, c5, ci⟩ : NdAt wr b (off + k * 6) (D k) := by
        have := hcell k hlt
        refine ⟨(hB.cell (p := ⟨b, _, none⟩) hbs).trans this.c0, (hB.cell (p := ⟨b, _, none⟩) hbs).trans this.c1, (hB.cell (p := ⟨b, _, none⟩) hbs).trans this.c2, (hB.cell (p := ⟨b, _, none⟩) hbs).trans this.c3, (hB.cell (p := ⟨b, _, none⟩) hbs).trans this.c4, (hB.cell (p := ⟨b, _, none⟩) hbs).trans this.c5, this.i.below hB⟩
      have hltI : (k : Int) < (len : Int) := by omega
      have hf := hF k hlt
      have HI : Hid (IsStrs wr (D k).u (D k).n (D k).cap (D k).S) := ci
      clear hcell hc ci hF
      go_wp2_with fail
      refine (szNode2 _ _ _ _ _ _ _ _ (D k).S _ HI.out hf.2.2 hf.1 hf.2.1 r hr0 hr1).mono ?_
      rintro e w1 ⟨r1, rfl, hq, hB1⟩
      have HB1 : Hid (Below w.heap.size w w1) := hB.trans (hB1.mono hB.size)
      clear hB1
      rcases hq with hq | ⟨hq0, hq1, _, _, hq2, _⟩
      · go_wp2
        go_ret
        exact ⟨_, rfl, .inl (by decide), HB1.out⟩
      · have HA' : Hid (∀ j, j < k + 1 → (D j).n ≤ 1048576) := by
          intro j hj
          rcases Nat.lt_succ_iff_lt_or_eq.1 hj with h1 | rfl
          · exact HA.out j h1
          · exact hq2
        go_wp2
        go_roundw
        case rel => exact ⟨k + 1, _, by omega, by go_num, rfl, by omega, by omega, HA', HB1.out⟩
        case measure => simp [intOf]; omega
    · have hke : k = len := by omega
      subst hke
      go_wp2
      go_ret
      exact ⟨_, rfl, .inr ⟨hr0, hr1, hlen, HA.out⟩, hB⟩

theorem Rw.kept2 {p : Nat → Prop} {w w' : World} {g n : Nat} (h : Rw w g n) (hK : Kept p w w') (hp : p g) : Rw w' g n := h.kept (hK.block g h.lt hp)

set_option maxHeartbeats 4000000 in
theorem lawL_walk (a : Option Addr) (len cap : Nat) (D : Nat → Nd) (u : Option Addr) (m uc : Nat) (S : Nat → ByteArray) (w : World) (h : IsNds w a len cap D) (hf : Fine D len) (hS : IsStrs w u m uc S) (hSs : ∀ j, j < m → (S j).size ≤ 9223372036854775807) (hP : AllT w) :
    Calls Tryz.prog 3 #[.slice a len cap, .slice u m uc] w fun e w' => e = .returned (.bool true) ∧ Below w.heap.size w w' := by
  go_enter Tryz.func3, Tryz.ntmps3
  go_wp2_with fail
  refine (szNodeS_top a len cap D _ h hf).mono ?_
  rintro e w1 ⟨r, rfl, hr, b1⟩
  rcases hr with hr | ⟨hr, hr2, hl, hz⟩
  · go_wp2
    go_ret
    exact ⟨rfl, b1⟩
  go_wp2_with fail
  refine (szStrings2 u m uc S _ (hS.below b1) r hr hr2 hSs).mono ?_
  rintro e w1' ⟨r', rfl, hr', hw⟩
  rw [hw]
  clear hw w1'
  rcases hr' with hr' | ⟨hr', _, hml, hms⟩
  · go_wp2
    go_ret
    exact ⟨rfl, b1⟩
  have hSz : ∀ j, j < m → (S j).size ≤ 9223372036854775807 := hSs
  clear hr2
  go_wp2_with fail
  refine (toNodeS_any a len cap D _ (h.below b1) hl hz).mono ?_
  rintro e w2 ⟨g2, G2, rfl, i2, hB2⟩
  have b2 := b1.trans (hB2.mono b1.size)
  have f2 : Fine (fun i => (D i).at (G2 i)) len := hf
  go_wp2_with fail
  refine (toStrs_any u m uc S _ (hS.below b2) hml).mono ?_
  rintro e w2' ⟨t2, rfl, j2, hB2', _⟩
  have b2' := b2.trans (hB2'.mono b2.size)
  go_wp2_with fail
  refine (specLacking_any _ len len _ _ m m S _ (i2.below hB2') f2 j2).mono ?_
  rintro e w3 ⟨v3, rfl, o3, hB3⟩
  rw [lkR_at D G2] at o3
  have b3 := b2'.trans (hB3.mono b2'.size)
  obtain ⟨L, hL⟩ : ∃ L, L = lkR D len S m := ⟨_, rfl⟩
  rw [← hL] at o3
  have HL : Hid (L = lkR D len S m) := hL
  clear hL hB2 hB3 i2 f2 j2 hB2' b2'
  obtain ⟨a3, c3, rfl, i3, q3⟩ := o3.strs2
  go_wp2_with fail
  refine (toNodeS_own a len cap D _ (h.below b3) hl hz).mono ?_
  rintro e w4 ⟨g4, G4, rfl, i4, hB4, n4⟩
  have b4 := b3.trans (hB4.mono b3.size)
  have f4 : Fine (fun i => (D i).at (G4 i)) len := hf
  go_wp2_with fail
  refine (toStrs_own u m uc S _ (hS.below b4) hml).mono ?_
  rintro e w5 ⟨t5, rfl, j5, hB5, ht5, r5⟩
  have b5 := b4.trans (hB5.mono b4.size)
  have H45 := hB5
  go_wp2_with fail
  refine (implLacking_any _ len len _ _ m m S _ (i4.below hB5) f4 j5 hSz (hP.below b5)).mono ?_
  rintro e w6 ⟨v6, rfl, o6, hB6⟩
  rw [lkR_at D G4, ← HL.out] at o6
  have b6 := b5.trans (hB6.mono b5.size)
  have B5 : Below w3.heap.size w3 w5 := hB4.trans (hB5.mono hB4.size)
  have B6 : Below w3.heap.size w3 w6 := B5.trans (hB6.mono B5.size)
  obtain ⟨a6, c6, rfl, i6, q6⟩ := o6.strs2
  clear f4
  go_wp2_with fail
  refine (eqStringS_same _ _ _ _ _ _ _ i6 (i3.below B6)).mono ?_
  rintro e w7 ⟨rfl, hB7⟩
  have b7 := b6.trans (hB7.mono b6.size)
  go_wp2_with fail
  refine (toNodeS_any a len cap D _ (h.below b7) hl hz).mono ?_
  rintro e w8 ⟨g8, G8, rfl, i8, hB8⟩
  have b8 := b7.trans (hB8.mono b7.size)
  have H68 : Below w6.heap.size w6 w8 := hB7.trans (hB8.mono hB7.size)
  have H58 : Below w5.heap.size w5 w8 := hB6.trans (H68.mono hB6.size)
  have H48 : Below w4.heap.size w4 w8 := hB5.trans (H58.mono hB5.size)
  go_wp2_with fail
  refine (eqNodeS_like _ _ len len len _ _ _ (i4.below H48) i8 (fun i hi => ⟨rfl, rfl, rfl, rfl, rfl, rfl, rfl⟩)).mono ?_
  rintro e w9 ⟨rfl, hB9⟩
  have b9 := b8.trans (hB9.mono b8.size)
  have H59 : Below w5.heap.size w5 w9 := H58.trans (hB9.mono H58.size)
  go_wp2_with fail
  refine (toStrs_any u m uc S _ (hS.below b9) hml).mono ?_
  rintro e w10 ⟨t10, rfl, j10, hB10, _⟩
  have b10 := b9.trans (hB10.mono b9.size)
  have H510 : Below w5.heap.size w5 w10 := H59.trans (hB10.mono H59.size)
  go_wp2_with fail
  refine (eqStringS_same _ _ _ _ _ _ _ (j5.below H510) j10).mono ?_
  rintro e w11 ⟨rfl, hB11⟩
  have b11 := b10.trans (hB11.mono b10.size)
  have H611 : Below w6.heap.size w6 w11 := H68.trans ((hB9.trans ((hB10.trans (hB11.mono hB10.size)).mono hB9.size)).mono H68.size)
  have H511 : Below w5.heap.size w5 w11 := H510.trans (hB11.mono H510.size)
  have H411 : Below w4.heap.size w4 w11 := H45.trans (H511.mono H45.size)
  have B11 : Below w3.heap.size w3 w11 := hB4.trans (H411.mono hB4.size)
  have n11 := n4.below H411
  have r11 := r5.below H511
  go_wp2_with fail
  refine (markNodeS_any g4 len w3.heap.size w4.heap.size G4 _ _ n11 hl hz n4.top.1 n4.top.2).mono ?_
  rintro e w12 ⟨k12, rfl, hk12, hk12', K12⟩
  have s34 : w3.heap.size ≤ w4.heap.size := hB4.size
  have s45 : w4.heap.size ≤ w5.heap.size := H45.size
  have s311 : w3.heap.size ≤ w11.heap.size := B11.size
  have B12 : Below w3.heap.size w3 w12 := B11.trans ((K12.mono (fun k hk => .inl hk)).below s311)
  have b12 : Below w.heap.size w w12 := b11.trans (((K12.mono (fun k hk => .inl hk)).below s311).mono b3.size)
  have i12 := (i6.below H611).kept K12 (fun b off e => .inr (by have := (q6 b off e).1; omega))
  have o12 : OwnL w12 w5.heap.size (.slice a6 L.length c6) L := ((o6.below H611).kept K12 (fun b hb => .inr (by omega)))
  have r12 : Rw w12 t5 m := r11.kept2 K12 (.inr ht5)
  have ht5' : t5 < w5.heap.size := r5.lt
  obtain ⟨xs12, x12⟩ := r12
  clear hB4 hB5 hB6 hB7 hB8 hB9 hB10 hB11 H45 H48 H58 H59 H68 H510 H511 H411 H611 n4 n11 r5 r11 i8 i4 j5 j10 i6 B5 B6 B11 o6
  go_wp2_with fail
  refine (markStringS_int _ _ _ _ 0 xs12 k12 rfl _ x12 hk12 (by omega)).mono ?_
  rintro e w13 ⟨rfl, _, hG13⟩
  have hrow : ∀ k, (Value.slice (some (⟨t5, 0, none⟩ : Addr)) m m).ownBlock = some k → k = t5 := fun k hk => by
    have hk' : some t5 = some k := hk
    cases hk'
    rfl
  have s312 : w3.heap.size ≤ w12.heap.size := B12.size
  have B13 : Below w3.heap.size w3 w13 := B12.grown hG13 B12.size (fun k hk => by have := hrow k hk; omega)
  have b13 : Below w.heap.size w w13 := b12.grown hG13 b12.size (fun k hk => by have := hrow k hk; have := b4.size; omega)
  have K13 : Kept (fun b => w5.heap.size ≤ b) w12 w13 := Kept.of_grown hG13 (fun k hk => by have := hrow k hk; omega)
  have i13 := i12.kept K13 (fun b off e => (q6 b off e).1)
  have o13 : OwnL w13 w5.heap.size (.slice a6 L.length c6) L := o12.kept K13 (fun b hb => hb)
  have hkn : decide (((k12 + m : Nat) : Int) < 0) = false := by simp; omega
  have H313 := i3.below B13
  clear hG13 hrow K12 K13 i12 o12 x12
  go_wp2_with fail
  refine (eqStringS_same _ _ _ _ _ _ _ i13 H313).mono ?_
  rintro e w14 ⟨rfl, hB14⟩
  have b14 := b13.trans (hB14.mono b13.size)
  have B14 := B13.trans (hB14.mono B13.size)
  have o14 := o13.below hB14
  obtain ⟨n, hn⟩ : ∃ n, n = L.length := ⟨_, rfl⟩
  have HLL : Hid (L.length ≤ 1000000) := by show _ ≤ _; rw [HL.out]; exact lkR_len D len S m
  clear hkn H313 i13 o13
  rw [← hn] at o14 i3 HLL ⊢
  have HN : Hid (n = L.length) := hn
  have o14' : w14.ownsRow w5.heap.size 9 1 (.slice a6 n c6) n (L.map encStr) := by have := o14; unfold OwnL at this; rw [← hn] at this; exact this
  clear hn o14
  go_wp2_with fail
  refine (markStringS_any a6 n c6 w5.heap.size (L.map encStr) 1 _ o14' (by omega) (by have := HLL.out; omega)).mono ?_
  rintro e w15 ⟨rfl, o15, hG15⟩
  have hrow : ∀ k, (Value.slice a6 n c6).ownBlock = some k → w5.heap.size ≤ k := fun k hk => (o14'.lt k hk).1
  have b15 := b14.grown hG15 b14.size (fun k hk => by have := hrow k hk; have := b5.size; omega)
  have B15 := B14.grown hG15 B14.size (fun k hk => by have := hrow k hk; omega)
  have i15 : IsStrs w15 a6 n c6 (fun i => mt (1 + i)) := by
    obtain ⟨a', cap', e', hI⟩ := strs_of_own (S := fun i => mt (1 + i)) o15 (fun i hi => marks_at hi)
    simp only [Value.slice.injEq, true_and] at e'
    obtain ⟨rfl, rfl⟩ := e'
    exact hI
  clear o14' hG15 hrow o15
  have hq1 : decide (((1 + n : Nat) : Int) < 0) = false := by simp; omega
  have hq2 : ((((1 + n : Nat) : Int)) != ((1 + n : Nat) : Int)) = false := by simp
  go_wp2_with fail
  refine (heldStringS_any a6 n c6 1 _ i15 (by omega) (by have := HLL.out; omega)).mono ?_
  rintro e w16 ⟨rfl, hB16⟩
  have b16 := b15.trans (hB16.mono b15.size)
  have B16 := B15.trans (hB16.mono B15.size)
  go_wp2_with fail
  refine (toNodeS_any a len cap D _ (h.below b16) hl hz).mono ?_
  rintro e w17 ⟨g17, G17, rfl, i17, hB17⟩
  have b17 := b16.trans (hB17.mono b16.size)
  have B17 := B16.trans (hB17.mono B16.size)
  have f17 : Fine (fun i => (D i).at (G17 i)) len := hf
  go_wp2_with fail
  refine (toStrs_any u m uc S _ (hS.below b17) hml).mono ?_
  rintro e w18 ⟨t18, rfl, j18, hB18, _⟩
  have b18 := b17.trans (hB18.mono b17.size)
  have B18 := B17.trans (hB18.mono B17.size)
  go_wp2_with fail
  refine (implLacking_any _ len len _ _ m m S _ (i17.below hB18) f17 j18 hSz (hP.below b18)).mono ?_
  rintro e w19 ⟨v19, rfl, o19, hB19⟩
  rw [lkR_at D G17, ← HL.out] at o19
  have b19 := b18.trans (hB19.mono b18.size)
  have B19 := B18.trans (hB19.mono B18.size)
  obtain ⟨a19, c19, rfl, i19, q19⟩ := o19.strs2
  rw [← HN.out] at i19 ⊢
  have H3 := i3.below B19
  clear o19 f17
  go_wp2_with fail
  refine (eqStringS_same _ _ _ _ _ _ _ i19 H3).mono ?_
  rintro e w20 ⟨rfl, hB20⟩
  have b20 := b19.trans (hB20.mono b19.size)
  have i20 := i15.below (hB16.trans ((hB17.trans ((hB18.trans ((hB19.trans (hB20.mono hB19.size)).mono hB18.size)).mono hB17.size)).mono hB16.size))
  go_wp2_with fail
  refine (heldStringS_any a6 n c6 1 _ i20 (by omega) (by have := HLL.out; omega)).mono ?_
  rintro e w21 ⟨rfl, hB21⟩
  go_wp2
  go_ret
  exact ⟨rfl, b20.trans (hB21.mono b20.size)⟩
end Go.Proofs.YtgacfcalbmegpaaGreatDoor
