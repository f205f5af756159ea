/-
  The law of KeysIn returns true. No condition but that the slice reads and that the tables lie.
-/
import Derived.Test.YtjhbccppihledaaGreatDoorIKeys
import Derived.Test.YtjhbccppihledaaGreatDoorDag7
import Derived.Test.YtjhbccppihledaaGreatDoorMark3
import Derived.Test.YtjhbccppihledaaGreatDoorLawS
namespace Go.Proofs.YtjhbccppihledaaGreatDoor
open Go.RowKit
set_option linter.unusedVariables false

theorem keysL_at (D : Nat → Nd) (G : Nat → Nat) : ∀ k, keysL (fun i => (D i).at (G i)) k = keysL D k
  | 0 => rfl
  | k + 1 => by
    have ih := keysL_at D G k
    show (if (D k).k = 3 then putL (keysL (fun i => (D i).at (G i)) k) (D k).key.toList else keysL (fun i => (D i).at (G i)) k) = _
    rw [ih]
    rfl
theorem keysR_at (D : Nat → Nd) (G : Nat → Nat) (len : Nat) : keysR (fun i => (D i).at (G i)) len = keysR D len := by
  unfold keysR
  rw [keysL_at]
  rfl

set_option maxHeartbeats 4000000 in
theorem law6_walk (a : Option Addr) (len cap : Nat) (D : Nat → Nd) (w : World) (h : IsNds w a len cap D) (hf : Fine D len) (hP : AllT w) :
    Calls Tryz.prog 5 #[.slice a len cap] w fun e w' => e = .returned (.bool true) ∧ Below w.heap.size w w' := by
  go_enter Tryz.func5, Tryz.ntmps5
  go_wp2_with fail
  refine (szNodeS_any a len cap D _ h hf).mono ?_
  rintro e w1 ⟨r, rfl, hr, b1⟩
  rcases hr with hr | ⟨hr, hl, hz⟩
  · go_wp2
    go_ret
    exact ⟨rfl, b1⟩
  go_wp2_with fail
  refine (toNodeS_any a len cap D _ (h.below b1) hl hz).mono ?_
  rintro e w2 ⟨g2, G2, rfl, i2, hB2⟩
  have b2 := b1.trans (hB2.mono b1.size)
  have f2 : Fine (fun i => (D i).at (G2 i)) len := hf
  go_wp2_with fail
  refine (specKeysIn_any _ len len _ _ i2 f2).mono ?_
  rintro e w3 ⟨v3, rfl, o3, hB3⟩
  have e3 : keysR (fun i => (D i).at (G2 i)) len = keysR D len := keysR_at D G2 len
  rw [e3] at o3
  have b3 := b2.trans (hB3.mono b2.size)
  obtain ⟨L, hL⟩ : ∃ L, L = keysR D len := ⟨_, rfl⟩
  rw [← hL] at o3
  have HL : Hid (L = keysR D len) := hL
  clear hL e3 hB2 hB3 i2 f2
  obtain ⟨a3, c3, rfl, i3, q3⟩ := o3.strs2
  go_wp2_with fail
  refine (toNodeS_own a len cap D _ (h.below b3) hl hz).mono ?_
  rintro e w4 ⟨g4, G4, rfl, i4, hB4, n4⟩
  have b4 := b3.trans (hB4.mono b3.size)
  have f4 : Fine (fun i => (D i).at (G4 i)) len := hf
  go_wp2_with fail
  refine (implKeysIn_any _ len len _ _ i4 f4 (hP.below b4)).mono ?_
  rintro e w5 ⟨v5, rfl, o5, hB5⟩
  have e5 : keysR (fun i => (D i).at (G4 i)) len = keysR D len := keysR_at D G4 len
  rw [e5, ← HL.out] at o5
  have b5 := b4.trans (hB5.mono b4.size)
  have B5 : Below w3.heap.size w3 w5 := hB4.trans (hB5.mono hB4.size)
  obtain ⟨a5, c5, rfl, i5, q5⟩ := o5.strs2
  clear e5 f4
  go_wp2_with fail
  refine (eqStringS_same _ _ _ _ _ _ _ i5 (i3.below B5)).mono ?_
  rintro e w6 ⟨rfl, hB6⟩
  have b6 := b5.trans (hB6.mono b5.size)
  go_wp2_with fail
  refine (toNodeS_any a len cap D _ (h.below b6) hl hz).mono ?_
  rintro e w7 ⟨g7, G7, rfl, i7, hB7⟩
  have b7 := b6.trans (hB7.mono b6.size)
  have H47 : Below w4.heap.size w4 w7 := hB5.trans ((hB6.trans (hB7.mono hB6.size)).mono hB5.size)
  go_wp2_with fail
  refine (eqNodeS_like _ _ len len len _ _ _ (i4.below H47) i7 (fun i hi => ⟨rfl, rfl, rfl, rfl, rfl, rfl, rfl⟩)).mono ?_
  rintro e w8 ⟨rfl, hB8⟩
  have b8 := b7.trans (hB8.mono b7.size)
  have H48 : Below w4.heap.size w4 w8 := H47.trans (hB8.mono H47.size)
  have H58 : Below w5.heap.size w5 w8 := hB6.trans ((hB7.trans (hB8.mono hB7.size)).mono hB6.size)
  have B8 : Below w3.heap.size w3 w8 := hB4.trans (H48.mono hB4.size)
  have n8 := n4.below H48
  go_wp2_with fail
  refine (markNodeS_any g4 len w3.heap.size w4.heap.size G4 _ _ n8 hl hz n4.top.1 n4.top.2).mono ?_
  rintro e w9 ⟨k9, rfl, hk9, _, K9⟩
  have s34 : w3.heap.size ≤ w4.heap.size := hB4.size
  have s38 : w3.heap.size ≤ w8.heap.size := B8.size
  have B9 : Below w3.heap.size w3 w9 := B8.trans ((K9.mono (fun k hk => .inl hk)).below s38)
  have b9 : Below w.heap.size w w9 := b8.trans (((K9.mono (fun k hk => .inl hk)).below s38).mono b3.size)
  have i9 := (i5.below H58).kept K9 (fun b off e => .inr (q5 b off e).1)
  have o9 : OwnL w9 w4.heap.size (.slice a5 L.length c5) L := ((o5.below H58).kept K9 (fun b hb => .inr hb))
  have hkn : decide ((k9 : Int) < 0) = false := by simp
  have H39 := i3.below B9
  clear hB4 hB5 hB6 hB7 hB8 H47 H48 H58 n4 n8 K9 i7 i4 B8 i5 B5
  go_wp2_with fail
  refine (eqStringS_same _ _ _ _ _ _ _ i9 H39).mono ?_
  rintro e w10 ⟨rfl, hB10⟩
  have b10 := b9.trans (hB10.mono b9.size)
  have B10 := B9.trans (hB10.mono B9.size)
  have o10 := o9.below hB10
  have hln := o10.len
  obtain ⟨n, hn⟩ : ∃ n, n = L.length := ⟨_, rfl⟩
  have HLL : Hid (L.length ≤ 1000000) := by show _ ≤ _; rw [HL.out]; exact keysR_len D len
  clear hkn H39 i9 o9 o5 hln
  rw [← hn] at o10 i3 HLL ⊢
  have HN : Hid (n = L.length) := hn
  have o10' : w10.ownsRow w4.heap.size 9 1 (.slice a5 n c5) n (L.map encStr) := by have := o10; unfold OwnL at this; rw [← hn] at this; exact this
  clear hn o10
  go_wp2_with fail
  refine (markStringS_any a5 n c5 w4.heap.size (L.map encStr) 1 _ o10' (by omega) (by have := HLL.out; omega)).mono ?_
  rintro e w11 ⟨rfl, o11, hG11⟩
  have hrow : ∀ k, (Value.slice a5 n c5).ownBlock = some k → w4.heap.size ≤ k := fun k hk => (o10'.lt k hk).1
  have b11 := b10.grown hG11 b10.size (fun k hk => by have := hrow k hk; have := b4.size; omega)
  have B11 := B10.grown hG11 B10.size (fun k hk => by have := hrow k hk; omega)
  have i11 : IsStrs w11 a5 n c5 (fun i => mt (1 + i)) := by
    obtain ⟨a', cap', e', hI⟩ := strs_of_own (S := fun i => mt (1 + i)) o11 (fun i hi => marks_at hi)
    simp only [Value.slice.injEq, true_and] at e'
    obtain ⟨rfl, rfl⟩ := e'
    exact hI
  clear o10' hG11 hrow o11
  have hq1 : decide (((1 + n : Nat) : Int) < 0) = false := by simp; omega
  have hq2 : ((((1 + n : Nat) : Int)) != ((1 + n : Nat) : Int)) = false := by simp
  go_wp2_with fail
  refine (heldStringS_any a5 n c5 1 _ i11 (by omega) (by have := HLL.out; omega)).mono ?_
  rintro e w12 ⟨rfl, hB12⟩
  have b12 := b11.trans (hB12.mono b11.size)
  have B12 := B11.trans (hB12.mono B11.size)
  go_wp2_with fail
  refine (toNodeS_any a len cap D _ (h.below b12) hl hz).mono ?_
  rintro e w13 ⟨g13, G13, rfl, i13, hB13⟩
  have b13 := b12.trans (hB13.mono b12.size)
  have B13 := B12.trans (hB13.mono B12.size)
  have f13 : Fine (fun i => (D i).at (G13 i)) len := hf
  go_wp2_with fail
  refine (implKeysIn_any _ len len _ _ i13 f13 (hP.below b13)).mono ?_
  rintro e w14 ⟨v14, rfl, o14, hB14⟩
  have e14 : keysR (fun i => (D i).at (G13 i)) len = keysR D len := keysR_at D G13 len
  rw [e14, ← HL.out] at o14
  have b14 := b13.trans (hB14.mono b13.size)
  have B14 := B13.trans (hB14.mono B13.size)
  obtain ⟨a14, c14, rfl, i14, q14⟩ := o14.strs2
  rw [← HN.out] at i14 ⊢
  have H3 := i3.below B14
  clear o14 e14 f13
  go_wp2_with fail
  refine (eqStringS_same _ _ _ _ _ _ _ i14 H3).mono ?_
  rintro e w15 ⟨rfl, hB15⟩
  have b15 := b14.trans (hB15.mono b14.size)
  have i15 := i11.below (hB12.trans ((hB13.trans ((hB14.trans (hB15.mono hB14.size)).mono hB13.size)).mono hB12.size))
  go_wp2_with fail
  refine (heldStringS_any a5 n c5 1 _ i15 (by omega) (by have := HLL.out; omega)).mono ?_
  rintro e w16 ⟨rfl, hB16⟩
  go_wp2
  go_ret
  exact ⟨rfl, b15.trans (hB16.mono b15.size)⟩
end Go.Proofs.YtjhbccppihledaaGreatDoor
