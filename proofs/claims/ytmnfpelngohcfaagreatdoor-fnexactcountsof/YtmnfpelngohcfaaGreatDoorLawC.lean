/-
  The law of CountsOf returns true. No condition but that the slice reads and that the tables lie.
-/
import Derived.Test.YtmnfpelngohcfaaGreatDoorCoI
import Derived.Test.YtmnfpelngohcfaaGreatDoorCoS
import Derived.Test.YtmnfpelngohcfaaGreatDoorDag7
import Derived.Test.YtmnfpelngohcfaaGreatDoorMark3
import Derived.Test.YtmnfpelngohcfaaGreatDoorLawSn
namespace Go.Proofs.YtmnfpelngohcfaaGreatDoor
open Go.RowKit
set_option linter.unusedVariables false

theorem cnt_at (D : Nat → Nd) (G : Nat → Nat) (who : Int) : ∀ k, cnt (fun i => (D i).at (G i)) who k = cnt D who k
  | 0 => rfl
  | k + 1 => by
    show (if (D k).a = who then max (cnt (fun i => (D i).at (G i)) who k) (D k).s else cnt (fun i => (D i).at (G i)) who k) = _
    rw [cnt_at D G who k]
    rfl
theorem cntR_at (D : Nat → Nd) (G : Nat → Nat) (len : Nat) : cntR (fun i => (D i).at (G i)) len = cntR D len := by
  unfold cntR cntF
  have : (fun i : Nat => cnt (fun i => (D i).at (G i)) ((i : Int) + 1) len) = fun i : Nat => cnt D ((i : Int) + 1) len := funext fun i => cnt_at D G _ len
  rw [this]
  rfl
theorem cntR_len (D : Nat → Nd) (len : Nat) : (cntR D len).length ≤ 9 := by
  unfold cntR
  split
  · rw [lst9_len]; omega
  · exact Nat.zero_le _
theorem OwnI.keptK {p : Nat → Prop} {w w' : World} {base : Nat} {v : Value} {L : List Int} (h : OwnI w base v L) (hK : Kept p w w') (hp : ∀ b, base ≤ b → p b) : OwnI w' base v L := by
  obtain ⟨h1, h2⟩ := h
  refine ⟨h1, ?_⟩
  rcases h2 with h2 | ⟨g, cap, cur, hv, hg, hh, r⟩
  · exact Or.inl h2
  · exact Or.inr ⟨g, cap, cur, hv, hg, (hK.block g (lt_of_block hh) (hp g hg)).trans hh, r⟩

set_option maxHeartbeats 4000000 in
theorem lawC_walk (a : Option Addr) (len cap : Nat) (D : Nat → Nd) (w : World) (h : IsNds w a len cap D) (hf : Fine D len) (hP : AllT w) :
    Calls Tryz.prog 4 #[.slice a len cap] w fun e w' => e = .returned (.bool true) ∧ Below w.heap.size w w' := by
  go_enter Tryz.func4, Tryz.ntmps4
  go_wp2_with fail
  refine (szNodeS_any a len cap D _ h hf).mono ?_
  rintro e w1 ⟨r, rfl, hr, b1⟩
  rcases hr with hr | ⟨hr, hl, hz⟩
  · go_wp2
    go_ret
    exact ⟨rfl, b1⟩
  go_wp2_with fail
  refine (toNodeS_any a len cap D _ (h.below b1) hl hz).mono ?_
  rintro e w2 ⟨g2, G2, rfl, i2, hB2⟩
  have b2 := b1.trans (hB2.mono b1.size)
  have f2 : Fine (fun i => (D i).at (G2 i)) len := hf
  go_wp2_with fail
  refine (specCountsOf_any _ len len _ _ i2 f2).mono ?_
  rintro e w3 ⟨v3, rfl, o3, hB3⟩
  rw [cntR_at] at o3
  have b3 := b2.trans (hB3.mono b2.size)
  obtain ⟨L, hL⟩ : ∃ L, L = cntR D len := ⟨_, rfl⟩
  obtain ⟨ok, hok⟩ : ∃ ok, ok = dagB D len := ⟨_, rfl⟩
  have e3 : dagB (fun i => (D i).at (G2 i)) len = ok := by rw [hok]; rfl
  rw [e3]
  rw [← hL] at o3
  have HL : Hid (L = cntR D len) := hL
  have HOK : Hid (ok = dagB D len) := hok
  have r3 := o3.rd
  have hokn : (ok != ok) = false := by simp
  clear hL hok e3 hB2 hB3 i2 f2 o3
  go_wp2_with fail
  refine (toNodeS_own a len cap D _ (h.below b3) hl hz).mono ?_
  rintro e w4 ⟨g4, G4, rfl, i4, hB4, n4⟩
  have b4 := b3.trans (hB4.mono b3.size)
  have f4 : Fine (fun i => (D i).at (G4 i)) len := hf
  go_wp2_with fail
  refine (implCountsOf_any _ len len _ _ i4 f4 (hP.below b4)).mono ?_
  rintro e w5 ⟨v5, rfl, o5, hB5⟩
  rw [cntR_at, ← HL.out] at o5
  have e5 : dagB (fun i => (D i).at (G4 i)) len = ok := by rw [HOK.out]; rfl
  rw [e5]
  have b5 := b4.trans (hB5.mono b4.size)
  have B5 : Below w3.heap.size w3 w5 := hB4.trans (hB5.mono hB4.size)
  clear e5 f4
  go_wp2_with fail
  refine (eqI_same _ _ _ _ o5.rd (r3.below B5)).mono ?_
  rintro e w6 ⟨rfl, hB6⟩
  have b6 := b5.trans (hB6.mono b5.size)
  go_wp2_with fail
  refine (toNodeS_any a len cap D _ (h.below b6) hl hz).mono ?_
  rintro e w7 ⟨g7, G7, rfl, i7, hB7⟩
  have b7 := b6.trans (hB7.mono b6.size)
  have H47 : Below w4.heap.size w4 w7 := hB5.trans ((hB6.trans (hB7.mono hB6.size)).mono hB5.size)
  go_wp2_with fail
  refine (eqNodeS_like _ _ len len len _ _ _ (i4.below H47) i7 (fun i hi => ⟨rfl, rfl, rfl, rfl, rfl, rfl, rfl⟩)).mono ?_
  rintro e w8 ⟨rfl, hB8⟩
  have b8 := b7.trans (hB8.mono b7.size)
  have H48 : Below w4.heap.size w4 w8 := H47.trans (hB8.mono H47.size)
  have H58 : Below w5.heap.size w5 w8 := hB6.trans ((hB7.trans (hB8.mono hB7.size)).mono hB6.size)
  have B8 : Below w3.heap.size w3 w8 := hB4.trans (H48.mono hB4.size)
  have n8 := n4.below H48
  go_wp2_with fail
  refine (markNodeS_any g4 len w3.heap.size w4.heap.size G4 _ _ n8 hl hz n4.top.1 n4.top.2).mono ?_
  rintro e w9 ⟨k9, rfl, hk9, _, K9⟩
  have s34 : w3.heap.size ≤ w4.heap.size := hB4.size
  have s38 : w3.heap.size ≤ w8.heap.size := B8.size
  have B9 : Below w3.heap.size w3 w9 := B8.trans ((K9.mono (fun k hk => .inl hk)).below s38)
  have b9 : Below w.heap.size w w9 := b8.trans (((K9.mono (fun k hk => .inl hk)).below s38).mono b3.size)
  have o9 : OwnI w9 w4.heap.size v5 L := ((o5.below H58).keptK K9 (fun b hb => .inr hb))
  have hkn : decide ((k9 : Int) < 0) = false := by simp
  have r9 := r3.below B9
  clear hB4 hB5 hB6 hB7 hB8 H47 H48 H58 n4 n8 K9 i7 i4 B8 B5
  go_wp2_with fail
  refine (eqI_same _ _ _ _ o9.rd r9).mono ?_
  rintro e w10 ⟨rfl, hB10⟩
  have b10 := b9.trans (hB10.mono b9.size)
  have B10 := B9.trans (hB10.mono B9.size)
  have o10 := o9.below hB10
  have hLn : L.length ≤ 9 := by rw [HL.out]; exact cntR_len D len
  clear hkn r9 o9 o5
  go_wp2_with fail
  refine (markI_any _ _ L 1 w10 o10 (by omega) (by omega)).mono ?_
  rintro e w11 ⟨rfl, o11, hG11⟩
  have hrow : ∀ k, v5.ownBlock = some k → w4.heap.size ≤ k := fun k hk => (World.ownsRow.lt o10 k hk).1
  have b11 := b10.grown hG11 b10.size (fun k hk => by have := hrow k hk; have := b4.size; omega)
  have B11 := B10.grown hG11 B10.size (fun k hk => by have := hrow k hk; omega)
  obtain ⟨n, hn⟩ : ∃ n, n = L.length := ⟨_, rfl⟩
  rw [← hn] at o11 hLn ⊢
  have r11 := o11.rd
  clear hG11 hrow o11 o10 hn
  have hq1 : decide (((1 + n : Nat) : Int) < 0) = false := by simp; omega
  have hq2 : ((((1 + n : Nat) : Int)) != ((1 + n : Nat) : Int)) = false := by simp
  go_wp2_with fail
  refine (heldI_any v5 1 n _ r11 (by omega) (by omega)).mono ?_
  rintro e w12 ⟨rfl, hB12⟩
  have b12 := b11.trans (hB12.mono b11.size)
  have B12 := B11.trans (hB12.mono B11.size)
  go_wp2_with fail
  refine (toNodeS_any a len cap D _ (h.below b12) hl hz).mono ?_
  rintro e w13 ⟨g13, G13, rfl, i13, hB13⟩
  have b13 := b12.trans (hB13.mono b12.size)
  have B13 := B12.trans (hB13.mono B12.size)
  have f13 : Fine (fun i => (D i).at (G13 i)) len := hf
  go_wp2_with fail
  refine (implCountsOf_any _ len len _ _ i13 f13 (hP.below b13)).mono ?_
  rintro e w14 ⟨v14, rfl, o14, hB14⟩
  rw [cntR_at, ← HL.out] at o14
  have e14 : dagB (fun i => (D i).at (G13 i)) len = ok := by rw [HOK.out]; rfl
  rw [e14]
  have b14 := b13.trans (hB14.mono b13.size)
  have B14 := B13.trans (hB14.mono B13.size)
  have H3 := r3.below B14
  have r14 := o14.rd
  clear o14 e14 f13
  go_wp2_with fail
  refine (eqI_same _ _ _ _ r14 H3).mono ?_
  rintro e w15 ⟨rfl, hB15⟩
  have b15 := b14.trans (hB15.mono b14.size)
  have r15 := r11.below (hB12.trans ((hB13.trans ((hB14.trans (hB15.mono hB14.size)).mono hB13.size)).mono hB12.size))
  go_wp2_with fail
  refine (heldI_any v5 1 n _ r15 (by omega) (by omega)).mono ?_
  rintro e w16 ⟨rfl, hB16⟩
  go_wp2
  go_ret
  exact ⟨rfl, b15.trans (hB16.mono b15.size)⟩
end Go.Proofs.YtmnfpelngohcfaaGreatDoor
