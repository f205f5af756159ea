/-
  Marks on a whole disk. No condition but that its lists are the call's own.
-/
import Derived.Test.YtbohaefmokbgbaaDkM
namespace Go.Proofs.Ytbohaefmokbgbaa
open Go.RowKit
set_option linter.unusedVariables false

theorem OwA2.slice {w : World} {base : Nat} {v : Value} {n : Nat} (h : OwA2 w base v n) : ∃ a c, v = .slice a n c := by
  obtain ⟨xs, h1, h2⟩ := h
  rcases h2 with ⟨e, e0⟩ | ⟨g, cap, cur, hv, _⟩
  · subst e0; exact ⟨_, _, e⟩
  · exact ⟨_, _, hv⟩
theorem OwA4.slice {w : World} {base : Nat} {v : Value} {n : Nat} (h : OwA4 w base v n) : ∃ a c, v = .slice a n c := by
  obtain ⟨xs, h1, h2⟩ := h
  rcases h2 with ⟨e, e0⟩ | ⟨g, cap, cur, hv, _⟩
  · subst e0; exact ⟨_, _, e⟩
  · exact ⟨_, _, hv⟩
theorem OwA24 {w : World} {b1 b2 : Nat} {v u : Value} {n m k : Nat} (h : OwA2 w b1 v n) (h' : OwA4 w b2 u m) (hk : v.ownBlock = some k) : u.ownBlock ≠ some k := fun e => by
  obtain ⟨c1, q1⟩ := h.cells hk
  obtain ⟨c2, q2⟩ := h'.cells e
  rw [q1] at q2
  cases q2
theorem RdF.own {w w' : World} {v : Value} {L : List Fl} {base n : Nat} (h : RdF w v L) (ho : OwA2 w base v n) (hs : w.heap.size ≤ w'.heap.size) (he : ∀ k, v.ownBlock = some k → w'.heap[k]? = w.heap[k]?) : RdF w' v L :=
  h.kept hs (fun b off n' cap e => by
    obtain ⟨xs, h1, h2⟩ := ho
    rcases h2 with ⟨e2, _⟩ | ⟨g, cap', cur, hv, _⟩
    · rw [e] at e2; cases e2
    · rw [e] at hv
      simp only [Value.slice.injEq, Option.some.injEq, Addr.mk.injEq] at hv
      refine he b ?_
      rw [e, hv.1.2.1]
      rfl)
theorem RdO.own {w w' : World} {v : Value} {L : List Dop} {base n : Nat} (h : RdO w v L) (ho : OwA4 w base v n) (hs : w.heap.size ≤ w'.heap.size) (he : ∀ k, v.ownBlock = some k → w'.heap[k]? = w.heap[k]?) : RdO w' v L :=
  h.kept hs (fun b off n' cap e => by
    obtain ⟨xs, h1, h2⟩ := ho
    rcases h2 with ⟨e2, _⟩ | ⟨g, cap', cur, hv, _⟩
    · rw [e] at e2; cases e2
    · rw [e] at hv
      simp only [Value.slice.injEq, Option.some.injEq, Addr.mk.injEq] at hv
      refine he b ?_
      rw [e, hv.1.2.1]
      rfl)

/-- a disk whose three lists are the call's own, each in its own block -/
structure OwD (w : World) (base : Nat) (vL vS vO : Value) (nL nS nO : Nat) : Prop where
  l : OwA2 w base vL nL
  s : OwA2 w base vS nS
  o : OwA4 w base vO nO
  ap : ∀ b, vL.ownBlock = some b → vS.ownBlock ≠ some b
/-- no old block but those of the disk has turned -/
def KeptD (vL vS vO : Value) (w w' : World) : Prop := Kept (fun b => vL.ownBlock ≠ some b ∧ vS.ownBlock ≠ some b ∧ vO.ownBlock ≠ some b) w w'
theorem OwD.below {w w' : World} {base : Nat} {vL vS vO : Value} {nL nS nO : Nat} (h : OwD w base vL vS vO nL nS nO) (hB : Below w.heap.size w w') : OwD w' base vL vS vO nL nS nO := ⟨h.l.below hB, h.s.below hB, h.o.below hB, h.ap⟩
theorem OwD.base {w : World} {base base' : Nat} {vL vS vO : Value} {nL nS nO : Nat} (h : OwD w base vL vS vO nL nS nO) (hb : base' ≤ base) : OwD w base' vL vS vO nL nS nO := ⟨h.l.base hb, h.s.base hb, h.o.base hb, h.ap⟩
/-- reads as a disk -/
def RdD (w : World) (vL vS vO : Value) (L S : List Fl) (O : List Dop) : Prop := RdF w vL L ∧ RdF w vS S ∧ RdO w vO O
theorem RdD.below {w w' : World} {vL vS vO : Value} {L S : List Fl} {O : List Dop} (h : RdD w vL vS vO L S O) (hB : Below w.heap.size w w') : RdD w' vL vS vO L S O := ⟨h.1.below hB, h.2.1.below hB, h.2.2.below hB⟩
theorem RdD.own {w w' : World} {vL vS vO : Value} {L S : List Fl} {O : List Dop} {base nL nS nO : Nat} (h : RdD w vL vS vO L S O) (ho : OwD w base vL vS vO nL nS nO) (hs : w.heap.size ≤ w'.heap.size) (he : ∀ k, base ≤ k → k < w.heap.size → w'.heap[k]? = w.heap[k]?) : RdD w' vL vS vO L S O :=
  ⟨h.1.own ho.l hs (fun k hk => he k (ho.l.lt k hk).1 (ho.l.lt k hk).2), h.2.1.own ho.s hs (fun k hk => he k (ho.s.lt k hk).1 (ho.s.lt k hk).2), h.2.2.own ho.o hs (fun k hk => he k (ho.o.lt k hk).1 (ho.o.lt k hk).2)⟩

set_option maxRecDepth 10000 in
set_option maxHeartbeats 2000000 in
theorem markDisk_any (base : Nat) (vL vS vO : Value) (nL nS nO k : Nat) (w : World) (h : OwD w base vL vS vO nL nS nO) (hk : 0 < k) (hb : k + nL * 2 + nS * 2 + nO * 4 ≤ 1152921504606846976) :
    Calls Try.prog 20 #[.agg #[vL, vS, vO], .int .i64 (k : Int)] w fun e w' => e = .returned (.int .i64 ((k + nL * 2 + nS * 2 + nO * 4 : Nat) : Int)) ∧ RdD w' vL vS vO (mkF k nL) (mkF (k + nL * 2) nS) (mkO (k + nL * 2 + nS * 2) nO) ∧ KeptD vL vS vO w w' := by
  have HH : Hid (OwD w base vL vS vO nL nS nO) := h
  obtain ⟨aL, cL, rfl⟩ := h.l.slice
  obtain ⟨aS, cS, rfl⟩ := h.s.slice
  obtain ⟨aO, cO, rfl⟩ := h.o.slice
  obtain ⟨X, hX⟩ : ∃ X, X = w.alloc (.cells #[.slice aL nL cL, .slice aS nS cS, .slice aO nO cO] 27) := ⟨_, rfl⟩
  have hBX : Below w.heap.size w X := by rw [hX]; exact (Below.refl _ _).alloc (Nat.le_refl _) _
  have gX : X.heap[w.heap.size]? = some (.cells #[.slice aL nL cL, .slice aS nS cS, .slice aO nO cO] 27 (0, 0)) := by rw [hX]; exact heap_alloc_new _ _
  have HX := (show Hid _ from hX)
  have HHX : Hid (OwD X base (.slice aL nL cL) (.slice aS nS cS) (.slice aO nO cO) nL nS nO) := h.below hBX
  have HLT : Hid (∀ b, (Value.slice aL nL cL).ownBlock = some b ∨ (Value.slice aS nS cS).ownBlock = some b ∨ (Value.slice aO nO cO).ownBlock = some b → b ≠ w.heap.size) := fun b hb e => by
    rcases hb with hb | hb | hb
    · have := (HH.out.l.lt b hb).2; omega
    · have := (HH.out.s.lt b hb).2; omega
    · have := (HH.out.o.lt b hb).2; omega
  have HGX : Hid (X.heap[w.heap.size]? = some (.cells #[.slice aL nL cL, .slice aS nS cS, .slice aO nO cO] 27 (0, 0))) := gX
  have HKX : Hid (Kept (fun b => (Value.slice aL nL cL).ownBlock ≠ some b ∧ (Value.slice aS nS cS).ownBlock ≠ some b ∧ (Value.slice aO nO cO).ownBlock ≠ some b) w X) := Kept.of_below hBX
  have c0 : X.cell? ⟨w.heap.size, 0, none⟩ = some (.slice aL nL cL) := cellN gX
  rw [hX] at c0
  clear h hX hBX gX
  go_enter Try.func20, Try.ntmps20
  go_wp2_with fail
  rw [← HX.out]
  refine (markFileS_any base _ nL k X HHX.out.l hk (by omega)).mono ?_
  rintro e w1 ⟨rfl, hr1, ho1, hg1⟩
  have g1 : w1.heap[w.heap.size]? = some (.cells #[.slice aL nL cL, .slice aS nS cS, .slice aO nO cO] 27 (0, 0)) := (hg1.block _ (lt_of_block HGX.out) (fun e => HLT.out _ (.inl e.symm) rfl)).trans HGX.out
  have os1 : OwA2 w1 base (.slice aS nS cS) nS := HHX.out.s.blk (fun b hb => hg1.block b (HHX.out.s.lt b hb).2 (fun e => HH.out.ap b e.symm hb))
  have oo1 : OwA4 w1 base (.slice aO nO cO) nO := HHX.out.o.blk (fun b hb => hg1.block b (HHX.out.o.lt b hb).2 (fun e => OwA24 HHX.out.l HHX.out.o e.symm hb))
  have H1 : Hid (RdF w1 (.slice aL nL cL) (mkF k nL) ∧ OwA2 w1 base (.slice aL nL cL) nL ∧ OwA2 w1 base (.slice aS nS cS) nS ∧ OwA4 w1 base (.slice aO nO cO) nO ∧ w1.heap[w.heap.size]? = some (.cells #[.slice aL nL cL, .slice aS nS cS, .slice aO nO cO] 27 (0, 0)) ∧ Kept (fun b => (Value.slice aL nL cL).ownBlock ≠ some b ∧ (Value.slice aS nS cS).ownBlock ≠ some b ∧ (Value.slice aO nO cO).ownBlock ≠ some b) w w1) :=
    ⟨hr1, ho1, os1, oo1, g1, HKX.out.trans (Kept.of_grown hg1 (fun b hb hp => hp.1 hb))⟩
  clear hr1 ho1 hg1 os1 oo1 c0
  have c1 : w1.cell? ⟨w.heap.size, 1, none⟩ = some (.slice aS nS cS) := cellN g1
  clear g1
  go_wp2_with fail
  refine (markFileS_any base _ nS (k + nL * 2) w1 H1.out.2.2.1 (by omega) (by omega)).mono ?_
  rintro e w2 ⟨rfl, hr2, ho2, hg2⟩
  have g2 : w2.heap[w.heap.size]? = some (.cells #[.slice aL nL cL, .slice aS nS cS, .slice aO nO cO] 27 (0, 0)) := (hg2.block _ (lt_of_block H1.out.2.2.2.2.1) (fun e => HLT.out _ (.inr (.inl e.symm)) rfl)).trans H1.out.2.2.2.2.1
  have rl2 : RdF w2 (.slice aL nL cL) (mkF k nL) := H1.out.1.own H1.out.2.1 hg2.size (fun b hb => hg2.block b (H1.out.2.1.lt b hb).2 (fun e => HH.out.ap b hb e.symm))
  have ol2 : OwA2 w2 base (.slice aL nL cL) nL := H1.out.2.1.blk (fun b hb => hg2.block b (H1.out.2.1.lt b hb).2 (fun e => HH.out.ap b hb e.symm))
  have oo2 : OwA4 w2 base (.slice aO nO cO) nO := H1.out.2.2.2.1.blk (fun b hb => hg2.block b (H1.out.2.2.2.1.lt b hb).2 (fun e => OwA24 H1.out.2.2.1 H1.out.2.2.2.1 e.symm hb))
  have H2 : Hid (RdF w2 (.slice aL nL cL) (mkF k nL) ∧ OwA2 w2 base (.slice aL nL cL) nL ∧ RdF w2 (.slice aS nS cS) (mkF (k + nL * 2) nS) ∧ OwA2 w2 base (.slice aS nS cS) nS ∧ OwA4 w2 base (.slice aO nO cO) nO ∧ Kept (fun b => (Value.slice aL nL cL).ownBlock ≠ some b ∧ (Value.slice aS nS cS).ownBlock ≠ some b ∧ (Value.slice aO nO cO).ownBlock ≠ some b) w w2) :=
    ⟨rl2, ol2, hr2, ho2, oo2, H1.out.2.2.2.2.2.trans (Kept.of_grown hg2 (fun b hb hp => hp.2.1 hb))⟩
  clear hr2 ho2 hg2 rl2 ol2 oo2 c1
  have c2 : w2.cell? ⟨w.heap.size, 2, none⟩ = some (.slice aO nO cO) := cellN g2
  clear g2
  go_wp2_with fail
  refine (markDOpS_any base _ nO (k + nL * 2 + nS * 2) w2 H2.out.2.2.2.2.1 (by omega) (by omega)).mono ?_
  rintro e w3 ⟨rfl, hr3, ho3, hg3⟩
  have HF : Hid (RdD w3 (.slice aL nL cL) (.slice aS nS cS) (.slice aO nO cO) (mkF k nL) (mkF (k + nL * 2) nS) (mkO (k + nL * 2 + nS * 2) nO) ∧ KeptD (.slice aL nL cL) (.slice aS nS cS) (.slice aO nO cO) w w3) :=
    ⟨⟨H2.out.1.own H2.out.2.1 hg3.size (fun b hb => hg3.block b (H2.out.2.1.lt b hb).2 (fun e => OwA24 H2.out.2.1 H2.out.2.2.2.2.1 hb e.symm)), H2.out.2.2.1.own H2.out.2.2.2.1 hg3.size (fun b hb => hg3.block b (H2.out.2.2.2.1.lt b hb).2 (fun e => OwA24 H2.out.2.2.2.1 H2.out.2.2.2.2.1 hb e.symm)), hr3⟩, H2.out.2.2.2.2.2.trans (Kept.of_grown hg3 (fun b hb hp => hp.2.2 hb))⟩
  clear hr3 ho3 hg3 c2
  go_wp2
  go_ret
  exact ⟨rfl, HF.out.1, HF.out.2⟩

set_option maxRecDepth 10000 in
set_option maxHeartbeats 2000000 in
theorem heldDisk_any (vL vS vO : Value) (nL nS nO k : Nat) (w : World) (h : RdD w vL vS vO (mkF k nL) (mkF (k + nL * 2) nS) (mkO (k + nL * 2 + nS * 2) nO)) (hk : 0 < k) (hb : k + nL * 2 + nS * 2 + nO * 4 ≤ 1152921504606846976) :
    Calls Try.prog 21 #[.agg #[vL, vS, vO], .int .i64 (k : Int)] w fun e w' => e = .returned (.int .i64 ((k + nL * 2 + nS * 2 + nO * 4 : Nat) : Int)) ∧ Below w.heap.size w w' := by
  have HH : Hid (∀ w', Below w.heap.size w w' → RdD w' vL vS vO (mkF k nL) (mkF (k + nL * 2) nS) (mkO (k + nL * 2 + nS * 2) nO)) := fun w' hB => h.below hB
  obtain ⟨aL, cL, eL⟩ := h.1.slice
  obtain ⟨aS, cS, eS⟩ := h.2.1.slice
  obtain ⟨aO, cO, eO⟩ := h.2.2.slice
  rw [mkF_len] at eL eS
  rw [mkO_len] at eO
  subst eL eS eO
  obtain ⟨X, hX⟩ : ∃ X, X = w.alloc (.cells #[.slice aL nL cL, .slice aS nS cS, .slice aO nO cO] 27) := ⟨_, rfl⟩
  have hBX : Below w.heap.size w X := by rw [hX]; exact (Below.refl _ _).alloc (Nat.le_refl _) _
  have gX : X.heap[w.heap.size]? = some (.cells #[.slice aL nL cL, .slice aS nS cS, .slice aO nO cO] 27 (0, 0)) := by rw [hX]; exact heap_alloc_new _ _
  have HX := (show Hid _ from hX)
  have HG : Hid (∀ w', Below X.heap.size X w' → w'.cell? ⟨w.heap.size, 1, none⟩ = some (.slice aS nS cS) ∧ w'.cell? ⟨w.heap.size, 2, none⟩ = some (.slice aO nO cO) ∧ Below w.heap.size w w') := fun w' hB => by
    have g := (hB.block _ (lt_of_block gX)).trans gX
    exact ⟨cellN g, cellN g, hBX.trans (hB.mono hBX.size)⟩
  have HBX : Hid (Below w.heap.size w X) := hBX
  have c0 : X.cell? ⟨w.heap.size, 0, none⟩ = some (.slice aL nL cL) := cellN gX
  rw [hX] at c0
  clear h hX hBX gX
  go_enter Try.func21, Try.ntmps21
  go_wp2_with fail
  rw [← HX.out]
  refine (heldFileS_any _ nL k X (HH.out X HBX.out).1 hk (by omega)).mono ?_
  rintro e w1 ⟨rfl, hB1⟩
  have HB1 : Hid (Below X.heap.size X w1) := hB1
  obtain ⟨c1, _, hb1⟩ := HG.out w1 hB1
  have HW1 : Hid (Below w.heap.size w w1) := hb1
  have hn1 : decide (((k + nL * 2 : Nat) : Int) < 0) = false := decide_eq_false (by omega)
  clear hB1 hb1 c0
  go_wp2_with fail
  refine (heldFileS_any _ nS (k + nL * 2) w1 (HH.out w1 HW1.out).2.1 (by omega) (by omega)).mono ?_
  rintro e w2 ⟨rfl, hB2⟩
  have HB2 : Hid (Below X.heap.size X w2) := HB1.out.trans (hB2.mono HB1.out.size)
  obtain ⟨_, c2, hb2⟩ := HG.out w2 HB2.out
  have HW2 : Hid (Below w.heap.size w w2) := hb2
  have hn2 : decide (((k + nL * 2 + nS * 2 : Nat) : Int) < 0) = false := decide_eq_false (by omega)
  clear hB2 hb2 c1 hn1
  go_wp2_with fail
  refine (heldDOpS_any _ nO (k + nL * 2 + nS * 2) w2 (HH.out w2 HW2.out).2.2 (by omega) (by omega)).mono ?_
  rintro e w3 ⟨rfl, hB3⟩
  have HW3 : Hid (Below w.heap.size w w3) := HW2.out.trans (hB3.mono HW2.out.size)
  have hn3 : decide (((k + nL * 2 + nS * 2 + nO * 4 : Nat) : Int) < 0) = false := decide_eq_false (by omega)
  clear hB3 c2 hn2
  go_wp2
  go_ret
  exact ⟨rfl, HW3.out⟩
end Go.Proofs.Ytbohaefmokbgbaa
