/-
  The size of a disk, with what is left. No condition but that it reads.
-/
import Derived.Test.YtdlkokdhbffhpaaDkX
namespace Go.Proofs.Ytdlkokdhbffhpaa
open Go.RowKit
set_option linter.unusedVariables false

set_option maxHeartbeats 1000000 in
theorem szDisk2_any (vL vS vO : Value) (L S : List Fl) (O : List Dop) (w : World) (hL : RdF w vL L) (hS : RdF w vS S) (hO : RdO w vO O) (hin : InD L S O) :
    Calls Try.prog 8 #[.agg #[vL, vS, vO], .int .i64 1048576] w fun e w' => ∃ r : Int, e = .returned (.int .i64 r) ∧ (r < 0 ∨ ((0 ≤ r ∧ r ≤ 1048576) ∧ SmallD L S O ∧ L.length ≤ 1048576 ∧ S.length ≤ 1048576 ∧ O.length ≤ 1048576)) ∧ Below w.heap.size w w' := by
  have HL : Hid (∀ w', Below w.heap.size w w' → RdF w' vL L) := fun w' hB => hL.below hB
  have HS : Hid (∀ w', Below w.heap.size w w' → RdF w' vS S) := fun w' hB => hS.below hB
  have HO : Hid (∀ w', Below w.heap.size w w' → RdO w' vO O) := fun w' hB => hO.below hB
  obtain ⟨aL, cL, eL⟩ := hL.slice
  obtain ⟨nL, hnL⟩ : ∃ n, n = L.length := ⟨_, rfl⟩
  rw [← hnL] at eL
  obtain ⟨aS, cS, eS⟩ := hS.slice
  obtain ⟨nS, hnS⟩ : ∃ n, n = S.length := ⟨_, rfl⟩
  rw [← hnS] at eS
  obtain ⟨aO, cO, eO⟩ := hO.slice
  obtain ⟨nO, hnO⟩ : ∃ n, n = O.length := ⟨_, rfl⟩
  rw [← hnO] at eO
  subst eL eS eO
  obtain ⟨X, hX⟩ : ∃ X, X = w.alloc (.cells #[.slice aL nL cL, .slice aS nS cS, .slice aO nO cO] 25) := ⟨_, rfl⟩
  have hBX : Below w.heap.size w X := by rw [hX]; exact (Below.refl _ _).alloc (Nat.le_refl _) _
  have gX : X.heap[w.heap.size]? = some (.cells #[.slice aL nL cL, .slice aS nS cS, .slice aO nO cO] 25 (0, 0)) := by rw [hX]; exact heap_alloc_new _ _
  have HG : Hid (∀ w', Below X.heap.size X w' → w'.cell? ⟨w.heap.size, 0, none⟩ = some (.slice aL nL cL) ∧ w'.cell? ⟨w.heap.size, 1, none⟩ = some (.slice aS nS cS) ∧ w'.cell? ⟨w.heap.size, 2, none⟩ = some (.slice aO nO cO) ∧ Below w.heap.size w w') := fun w' hB => by
    have g := (hB.block _ (lt_of_block gX)).trans gX
    exact ⟨cellN g, cellN g, cellN g, hBX.trans (hB.mono hBX.size)⟩
  have HX := (show Hid _ from hX)
  have HI : Hid (InD L S O) := hin
  obtain ⟨c0, _, _, _⟩ := HG.out X (Below.refl _ _)
  rw [hX] at c0
  clear hX hBX gX hL hS hO hnL hnS hnO hin
  go_enter Try.func8, Try.ntmps8
  go_wp2_with fail
  rw [← HX.out]
  refine (szFileS_any _ L X (HL.out X (HG.out X (Below.refl _ _)).2.2.2) HI.out.1 1048576 (by omega) (by omega)).mono ?_
  rintro e w1 ⟨r, rfl, hr, hB1⟩
  have HB1 := (show Hid _ from hB1)
  clear c0 HX
  obtain ⟨_, c1, _, hBw1⟩ := HG.out w1 hB1
  have HBW1 := (show Hid _ from hBw1)
  clear hB1 hBw1
  rcases hr with hr | ⟨hr, hrl, hl1, hz1, ht1⟩
  · go_wp2
    go_ret
    exact ⟨_, rfl, .inl (by decide), HBW1.out⟩
  have H1 : Hid (L.length ≤ 1048576 ∧ (∀ f ∈ L, f.n.size ≤ 100000000) ∧ tot L ≤ 1048576) := ⟨hl1, of_at hz1 (by omega), by omega⟩
  clear hl1 hz1 ht1
  go_wp2_with fail
  refine (szFileS_any _ S w1 (HS.out w1 HBW1.out) HI.out.2.1 r hr (by omega)).mono ?_
  rintro e w2 ⟨r2, rfl, hr2, hB2⟩
  have HB2 : Hid (Below X.heap.size X w2) := HB1.out.trans (hB2.mono HB1.out.size)
  clear c1
  obtain ⟨_, _, c2, hBw2⟩ := HG.out w2 HB2.out
  have HBW2 := (show Hid _ from hBw2)
  clear hB2 hBw2
  rcases hr2 with hr2 | ⟨hr2, hrl2, hl2, hz2, ht2⟩
  · go_wp2
    go_ret
    exact ⟨_, rfl, .inl (by decide), HBW2.out⟩
  have H2 : Hid (S.length ≤ 1048576 ∧ (∀ f ∈ S, f.n.size ≤ 100000000) ∧ tot S ≤ 1048576) := ⟨hl2, of_at hz2 (by omega), by omega⟩
  clear hl2 hz2 ht2
  go_wp2_with fail
  refine (szDOpS_any _ O w2 (HO.out w2 HBW2.out) HI.out.2.2 r2 hr2 (by omega)).mono ?_
  rintro e w3 ⟨r3, rfl, hr3, hB3⟩
  have HB3 : Hid (Below w.heap.size w w3) := HBW2.out.trans (hB3.mono HBW2.out.size)
  clear hB3 c2
  rcases hr3 with hr3 | ⟨hr3, hrl3, hl3, hz3⟩
  · go_wp2
    go_ret
    exact ⟨_, rfl, .inl (by decide), HB3.out⟩
  have H3 : Hid (O.length ≤ 1048576 ∧ ∀ o ∈ O, o.n.size ≤ 100000000 ∧ o.t.size ≤ 100000000 ∧ o.d.size ≤ 100000000) := ⟨hl3, of_atO hz3 (by omega)⟩
  clear hl3 hz3
  go_wp2
  go_ret
  exact ⟨_, rfl, .inr ⟨⟨hr3, by omega⟩, ⟨by have := H1.out.2.2; omega, by have := H2.out.2.2; omega, H1.out.2.1, H2.out.2.1, H3.out.2⟩, H1.out.1, H2.out.1, H3.out.1⟩, HB3.out⟩
end Go.Proofs.Ytdlkokdhbffhpaa
