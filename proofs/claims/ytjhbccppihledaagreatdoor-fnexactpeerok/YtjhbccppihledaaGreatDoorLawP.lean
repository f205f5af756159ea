/-
  The law of PeerOk returns true. No condition but that the peer's slices read and the tables lie.
-/
import Derived.Test.YtjhbccppihledaaGreatDoorPeer3
namespace Go.Proofs.YtjhbccppihledaaGreatDoor
open Go.RowKit
set_option linter.unusedVariables false

theorem peerB_at (D : Nat → Nd) (G : Nat → Nat) (n : Nat) (E : Nat → Nd) (G' : Nat → Nat) (m : Nat) : peerB (fun i => (D i).at (G i)) n (fun i => (E i).at (G' i)) m = peerB D n E m := rfl

set_option maxHeartbeats 4000000 in
theorem lawP_walk (a : Option Addr) (n cap : Nat) (D : Nat → Nd) (b : Option Addr) (m mcap : Nat) (E : Nat → Nd) (w : World) (h : IsNds w a n cap D) (hf : Fine D n) (h' : IsNds w b m mcap E) (hf' : Fine E m) (hP : AllT w) :
    Calls Tryz.prog 8 #[.agg #[.slice a n cap, .slice b m mcap]] w fun e w' => e = .returned (.bool true) ∧ Below w.heap.size w w' := by
  obtain ⟨W0, hW0⟩ : ∃ W0, W0 = w.alloc (.cells #[.slice a n cap, .slice b m mcap] 38) := ⟨_, rfl⟩
  have b0 : Below w.heap.size w W0 := by rw [hW0]; exact (Below.refl _ _).alloc (Nat.le_refl _) _
  have hg0 : W0.heap[w.heap.size]? = some (.cells #[.slice a n cap, .slice b m mcap] 38) := by rw [hW0]; exact heap_alloc_new w _
  have HW : Hid (W0 = w.alloc (.cells #[.slice a n cap, .slice b m mcap] 38)) := hW0
  have HC : Hid (∀ v, Below W0.heap.size W0 v → v.cell? ⟨w.heap.size, 0, none⟩ = some (.slice a n cap) ∧ v.cell? ⟨w.heap.size, 1, none⟩ = some (.slice b m mcap)) := fun v hv => ⟨cellN ((hv.block _ (lt_of_block hg0)).trans hg0), cellN ((hv.block _ (lt_of_block hg0)).trans hg0)⟩
  have H0 := h.below b0
  have H0' := h'.below b0
  clear hW0 hg0
  go_enter Tryz.func8, Tryz.ntmps8
  go_wp2_with fail
  rw [← HW.out]
  refine (szPeer_any a n cap D b m mcap E _ H0 hf H0' hf').mono ?_
  rintro e w1 ⟨r, rfl, hr, hB1⟩
  have b1 := b0.trans (hB1.mono b0.size)
  rcases hr with hr | ⟨hr, hl, hl', hz, hz'⟩
  · go_wp2
    go_ret
    exact ⟨rfl, b1⟩
  have B1 : Below W0.heap.size W0 w1 := hB1
  obtain ⟨x10, x11⟩ := HC.out w1 B1
  go_wp2_with fail
  refine (toPeer_any a n cap D b m mcap E _ (h.below b1) (h'.below b1) hl hl' hz hz').mono ?_
  rintro e w2 ⟨g2, G2, k2, K2, rfl, i2, j2, hB2⟩
  have b2 := b1.trans (hB2.mono b1.size)
  have B2 := B1.trans (hB2.mono B1.size)
  have f2 : Fine (fun i => (D i).at (G2 i)) n := hf
  have e2 : Fine (fun i => (E i).at (K2 i)) m := hf'
  clear x10 x11
  go_wp2_with fail
  refine (specPeerOk_any _ n n _ _ m m _ _ i2 f2 j2 e2).mono ?_
  rintro e w3 ⟨rfl, hB3⟩
  rw [peerB_at]
  have b3 := b2.trans (hB3.mono b2.size)
  have B3 := B2.trans (hB3.mono B2.size)
  obtain ⟨x30, x31⟩ := HC.out w3 B3
  go_wp2_with fail
  refine (toPeer_any a n cap D b m mcap E _ (h.below b3) (h'.below b3) hl hl' hz hz').mono ?_
  rintro e w4 ⟨g4, G4, k4, K4, rfl, i4, j4, hB4⟩
  have b4 := b3.trans (hB4.mono b3.size)
  have B4 := B3.trans (hB4.mono B3.size)
  have f4 : Fine (fun i => (D i).at (G4 i)) n := hf
  have e4 : Fine (fun i => (E i).at (K4 i)) m := hf'
  clear x30 x31
  go_wp2_with fail
  obtain ⟨wb, hwb⟩ : ∃ wb, wb = w4.alloc (.cells #[.slice (some ⟨g4, 0, none⟩) n n, .slice (some ⟨k4, 0, none⟩) m m] 42) := ⟨_, rfl⟩
  rw [← hwb]
  have hBb : Below w4.heap.size w4 wb := by rw [hwb]; exact (Below.refl _ _).alloc (Nat.le_refl _) _
  have hgb : wb.heap[w4.heap.size]? = some (.cells #[.slice (some ⟨g4, 0, none⟩) n n, .slice (some ⟨k4, 0, none⟩) m m] 42) := by rw [hwb]; exact heap_alloc_new w4 _
  clear hwb
  have bb := b4.trans (hBb.mono b4.size)
  refine (implPeerOk_any _ n n _ _ m m _ _ (i4.below hBb) f4 (j4.below hBb) e4 (hP.below bb)).mono ?_
  rintro e w5 ⟨rfl, hB5⟩
  rw [peerB_at]
  have hB45 : Below w4.heap.size w4 w5 := hBb.trans (hB5.mono hBb.size)
  have b5 := b4.trans (hB45.mono b4.size)
  have B5 := B4.trans (hB45.mono B4.size)
  have hg5 : w5.heap[w4.heap.size]? = some (.cells #[.slice (some ⟨g4, 0, none⟩) n n, .slice (some ⟨k4, 0, none⟩) m m] 42) := (hB5.block _ (lt_of_block hgb)).trans hgb
  have HI5 : Hid (IsNds w5 (some ⟨g4, 0, none⟩) n n (fun i => (D i).at (G4 i))) := i4.below hB45
  have HJ5 : Hid (IsNds w5 (some ⟨k4, 0, none⟩) m m (fun i => (E i).at (K4 i))) := j4.below hB45
  have HU5 : Hid (IsNds w5 a n cap D) := h.below b5
  have HV5 : Hid (IsNds w5 b m mcap E) := h'.below b5
  have HB5 : Hid (Below w.heap.size w w5) := b5
  have HBW : Hid (Below W0.heap.size W0 w5) := B5
  generalize peerB D n E m = x
  have hx : (x != x) = false := by simp
  have HK : Hid (∀ w', Below w5.heap.size w5 w' → (w'.cell? ⟨w4.heap.size, 0, none⟩ = some (.slice (some ⟨g4, 0, none⟩) n n) ∧ w'.cell? ⟨w4.heap.size, 1, none⟩ = some (.slice (some ⟨k4, 0, none⟩) m m) ∧ w'.cell? ⟨w.heap.size, 0, none⟩ = some (.slice a n cap) ∧ w'.cell? ⟨w.heap.size, 1, none⟩ = some (.slice b m mcap))) := fun w' hB => by
    have y := (hB.block _ (lt_of_block hg5)).trans hg5
    have z := HC.out w' (HBW.out.trans (hB.mono HBW.out.size))
    exact ⟨cellN y, cellN y, z.1, z.2⟩
  generalize w4.heap.size = P4 at *
  clear hB45 hB5 hBb b1 b2 b3 b4 b5 bb B1 B2 B3 B4 B5 hB1 hB2 hB3 hB4 i2 j2 i4 j4 f2 e2 f4 e4 hg5 hgb H0 H0' h h'
  go_wp2
  go_region_held3 (fun w' => w'.cell? ⟨P4, 0, none⟩ = some (.slice (some ⟨g4, 0, none⟩) n n) ∧ w'.cell? ⟨P4, 1, none⟩ = some (.slice (some ⟨k4, 0, none⟩) m m) ∧ w'.cell? ⟨w.heap.size, 0, none⟩ = some (.slice a n cap) ∧ w'.cell? ⟨w.heap.size, 1, none⟩ = some (.slice b m mcap)) (first | exact HK.out _ hBd | exact HK.out _ hBc | exact HK.out _ (Below.refl _ _).drew) ((first
    | (go_at_call 31; refine (toPeer_any a n cap D b m mcap E _ (HU5.out.below (Below.refl _ _).drew) (HV5.out.below (Below.refl _ _).drew) hl hl' hz hz').mono ?_; rintro e w6 ⟨g6, G6, k6, K6, rfl, i6, j6, hB6⟩; have hBc : Below w5.heap.size w5 w6 := ((Below.refl _ _).drew).trans hB6)
    | (go_at_call 33; refine (eqPeer_like _ _ n n n _ _ _ _ m m m _ _ _ (HI5.out.below hBc) i6 (HJ5.out.below hBc) j6 (fun i hi => ⟨rfl, rfl, rfl, rfl, rfl, rfl, rfl⟩) (fun i hi => ⟨rfl, rfl, rfl, rfl, rfl, rfl, rfl⟩)).mono ?_; rintro e w7 ⟨rfl, hB7⟩; have hBd : Below w5.heap.size w5 w7 := hBc.trans (hB7.mono hBc.size))))
  all_goals
    go_wp2
    go_ret
    exact ⟨rfl, HB5.out.trans (hBd.mono HB5.out.size)⟩
end Go.Proofs.YtjhbccppihledaaGreatDoor
