/-
  A copy of a disk that the call owns. No condition but that it reads.
-/
import Derived.Test.YtbohaefmokbgbaaDkX2
import Derived.Test.YtbohaefmokbgbaaDkTO
namespace Go.Proofs.Ytbohaefmokbgbaa
open Go.RowKit
set_option linter.unusedVariables false

/-- a row of File in memory of the call's own, whatever it holds -/
def OwA2 (w : World) (base : Nat) (v : Value) (n : Nat) : Prop := ∃ xs, w.ownsRow base 68 2 v n xs
theorem OwA2.base {w : World} {base base' : Nat} {v : Value} {n : Nat} (h : OwA2 w base v n) (hb : base' ≤ base) : OwA2 w base' v n := by obtain ⟨xs, h⟩ := h; exact ⟨xs, ownsRow_base h hb⟩
theorem OwA2.below {w w' : World} {base : Nat} {v : Value} {n : Nat} (h : OwA2 w base v n) (hB : Below w.heap.size w w') : OwA2 w' base v n := by obtain ⟨xs, h⟩ := h; exact ⟨xs, ownsRow_below h hB⟩
theorem OwA2.blk {w w' : World} {base : Nat} {v : Value} {n : Nat} (h : OwA2 w base v n) (he : ∀ k, v.ownBlock = some k → w'.heap[k]? = w.heap[k]?) : OwA2 w' base v n := by obtain ⟨xs, h⟩ := h; exact ⟨xs, ownsRow_kept h he⟩
theorem OwA2.lt {w : World} {base : Nat} {v : Value} {n : Nat} (h : OwA2 w base v n) (k : Nat) (hk : v.ownBlock = some k) : base ≤ k ∧ k < w.heap.size := by obtain ⟨xs, h⟩ := h; exact World.ownsRow.lt h k hk
theorem OwA2.nil (w : World) (base : Nat) : OwA2 w base (.slice none 0 0) 0 := ⟨[], rfl, .inl ⟨rfl, rfl⟩⟩
theorem OwA2.cells {w : World} {base : Nat} {v : Value} {n k : Nat} (h : OwA2 w base v n) (hk : v.ownBlock = some k) : ∃ cs, w.heap[k]? = some (.cells cs 68 (0, 0)) := by
  obtain ⟨xs, h1, h2⟩ := h
  rcases h2 with ⟨e, _⟩ | ⟨g, cap, cur, hv, hb, hh, _⟩
  · rw [e] at hk; cases hk
  · rw [hv] at hk
    have : g = k := Option.some.inj hk
    subst this
    exact ⟨_, hh⟩
/-- a row of DOp in memory of the call's own, whatever it holds -/
def OwA4 (w : World) (base : Nat) (v : Value) (n : Nat) : Prop := ∃ xs, w.ownsRow base 49 4 v n xs
theorem OwA4.base {w : World} {base base' : Nat} {v : Value} {n : Nat} (h : OwA4 w base v n) (hb : base' ≤ base) : OwA4 w base' v n := by obtain ⟨xs, h⟩ := h; exact ⟨xs, ownsRow_base h hb⟩
theorem OwA4.below {w w' : World} {base : Nat} {v : Value} {n : Nat} (h : OwA4 w base v n) (hB : Below w.heap.size w w') : OwA4 w' base v n := by obtain ⟨xs, h⟩ := h; exact ⟨xs, ownsRow_below h hB⟩
theorem OwA4.blk {w w' : World} {base : Nat} {v : Value} {n : Nat} (h : OwA4 w base v n) (he : ∀ k, v.ownBlock = some k → w'.heap[k]? = w.heap[k]?) : OwA4 w' base v n := by obtain ⟨xs, h⟩ := h; exact ⟨xs, ownsRow_kept h he⟩
theorem OwA4.lt {w : World} {base : Nat} {v : Value} {n : Nat} (h : OwA4 w base v n) (k : Nat) (hk : v.ownBlock = some k) : base ≤ k ∧ k < w.heap.size := by obtain ⟨xs, h⟩ := h; exact World.ownsRow.lt h k hk
theorem OwA4.nil (w : World) (base : Nat) : OwA4 w base (.slice none 0 0) 0 := ⟨[], rfl, .inl ⟨rfl, rfl⟩⟩
theorem OwA4.cells {w : World} {base : Nat} {v : Value} {n k : Nat} (h : OwA4 w base v n) (hk : v.ownBlock = some k) : ∃ cs, w.heap[k]? = some (.cells cs 49 (0, 0)) := by
  obtain ⟨xs, h1, h2⟩ := h
  rcases h2 with ⟨e, _⟩ | ⟨g, cap, cur, hv, hb, hh, _⟩
  · rw [e] at hk; cases hk
  · rw [hv] at hk
    have : g = k := Option.some.inj hk
    subst this
    exact ⟨_, hh⟩

set_option maxRecDepth 4000 in
set_option maxHeartbeats 2000000 in
theorem toDisk_own (vL vS vO : Value) (L S : List Fl) (O : List Dop) (w : World) (hL : RdF w vL L) (hS : RdF w vS S) (hO : RdO w vO O) (h1 : L.length ≤ 1048576) (h2 : S.length ≤ 1048576) (h3 : O.length ≤ 1048576) :
    Calls Try.prog 16 #[.agg #[vL, vS, vO]] w fun e w' => ∃ g1 g2 g3 : Nat, e = .returned (.agg #[.slice (some ⟨g1, 0, none⟩) L.length L.length, .slice (some ⟨g2, 0, none⟩) S.length S.length, .slice (some ⟨g3, 0, none⟩) O.length O.length]) ∧ RdF w' (.slice (some ⟨g1, 0, none⟩) L.length L.length) L ∧ RdF w' (.slice (some ⟨g2, 0, none⟩) S.length S.length) S ∧ RdO w' (.slice (some ⟨g3, 0, none⟩) O.length O.length) O ∧ (OwA2 w' w.heap.size (.slice (some ⟨g1, 0, none⟩) L.length L.length) L.length ∧ OwA2 w' w.heap.size (.slice (some ⟨g2, 0, none⟩) S.length S.length) S.length ∧ OwA4 w' w.heap.size (.slice (some ⟨g3, 0, none⟩) O.length O.length) O.length ∧ g1 ≠ g2) ∧ Below w.heap.size w w' := by
  have HA : Hid (∀ w', Below w.heap.size w w' → RdF w' vL L ∧ RdF w' vS S ∧ RdO w' vO O) := fun w' hB => ⟨hL.below hB, hS.below hB, hO.below hB⟩
  have HN : Hid (L.length ≤ 1048576 ∧ S.length ≤ 1048576 ∧ O.length ≤ 1048576) := ⟨h1, h2, h3⟩
  obtain ⟨aL, cL, eL⟩ := hL.slice
  obtain ⟨aS, cS, eS⟩ := hS.slice
  obtain ⟨aO, cO, eO⟩ := hO.slice
  subst eL eS eO
  obtain ⟨W3, hW3⟩ : ∃ W3, W3 = ((w.alloc (.cells #[.slice aL L.length cL, .slice aS S.length cS, .slice aO O.length cO] 42)).alloc (.cells #[.slice none 0 0, .slice none 0 0, .slice none 0 0] 27)).alloc (.cells #[.slice none 0 0, .slice none 0 0, .slice none 0 0] 27) := ⟨_, rfl⟩
  have hB3 : Below w.heap.size w W3 := by rw [hW3]; exact (((Below.refl _ _).alloc (Nat.le_refl _) _).alloc (by simp) _).alloc (by simp; omega) _
  have g0 : W3.heap[w.heap.size]? = some (.cells #[.slice aL L.length cL, .slice aS S.length cS, .slice aO O.length cO] 42) := by
    rw [hW3, Below.heap_alloc _ _ _ (by simp; omega), Below.heap_alloc _ _ _ (by simp)]
    exact heap_alloc_new w _
  have g1 : W3.heap[w.heap.size + 1]? = some (.cells #[.slice none 0 0, .slice none 0 0, .slice none 0 0] 27) := by
    rw [hW3, Below.heap_alloc _ _ _ (by simp)]
    have := heap_alloc_new (w.alloc (.cells #[.slice aL L.length cL, .slice aS S.length cS, .slice aO O.length cO] 42)) (.cells #[.slice none 0 0, .slice none 0 0, .slice none 0 0] 27)
    simpa using this
  have g2 : W3.heap[w.heap.size + 1 + 1]? = some (.cells #[.slice none 0 0, .slice none 0 0, .slice none 0 0] 27) := by
    rw [hW3]
    have := heap_alloc_new ((w.alloc (.cells #[.slice aL L.length cL, .slice aS S.length cS, .slice aO O.length cO] 42)).alloc (.cells #[.slice none 0 0, .slice none 0 0, .slice none 0 0] 27)) (.cells #[.slice none 0 0, .slice none 0 0, .slice none 0 0] 27)
    simpa using this
  have HW3 : Hid (W3 = _) := hW3
  have H3 : Hid (Below w.heap.size w W3 ∧ W3.heap[w.heap.size]? = some (.cells #[.slice aL L.length cL, .slice aS S.length cS, .slice aO O.length cO] 42) ∧ W3.heap[w.heap.size + 1]? = some (.cells #[.slice none 0 0, .slice none 0 0, .slice none 0 0] 27) ∧ W3.heap[w.heap.size + 1 + 1]? = some (.cells #[.slice none 0 0, .slice none 0 0, .slice none 0 0] 27) ∧ w.heap.size + 1 + 1 < W3.heap.size) := ⟨hB3, g0, g1, g2, lt_of_block g2⟩
  clear hW3 hB3 g0 g1 g2 hL hS hO h1 h2 h3
  go_enter Try.func16, Try.ntmps16
  go_wp2_with fail
  rw [← HW3.out]
  refine (toFileS_own _ L W3 (HA.out W3 H3.out.1).1 HN.out.1).mono ?_
  rintro e w4 ⟨rfl, hr4, ho4, hB4⟩
  have hx4 : OwA2 w4 w.heap.size (.slice (some ⟨W3.heap.size, 0, none⟩) L.length L.length) L.length := OwA2.base ho4 H3.out.1.size
  obtain ⟨q1, hq1⟩ : ∃ q1, q1 = W3.heap.size := ⟨_, rfl⟩
  rw [← hq1] at hr4 hx4 ⊢
  have Q1 : Hid (q1 = W3.heap.size) := hq1
  clear hq1
  -- the first list stored
  have k0 := (hB4.block _ (lt_of_block H3.out.2.1)).trans H3.out.2.1
  have k1 := (hB4.block _ (lt_of_block H3.out.2.2.1)).trans H3.out.2.2.1
  have k2 := (hB4.block _ (lt_of_block H3.out.2.2.2.1)).trans H3.out.2.2.2.1
  obtain ⟨W5, hW5⟩ : ∃ W5, W5 = w4.setCell ⟨w.heap.size + 1 + 1, 0, none⟩ (.slice (some ⟨q1, 0, none⟩) L.length L.length) := ⟨_, rfl⟩
  have c0 : w4.cell? ⟨w.heap.size + 1 + 1, 0, none⟩ = some (.slice none 0 0) := cellN k2
  have f0 : w4.frozen? ⟨w.heap.size + 1 + 1, 0, none⟩ = false := frozN k2
  have H5 : Hid (Below w.heap.size w W5 ∧ W5.heap[w.heap.size]? = some (.cells #[.slice aL L.length cL, .slice aS S.length cS, .slice aO O.length cO] 42) ∧ W5.heap[w.heap.size + 1]? = some (.cells #[.slice none 0 0, .slice none 0 0, .slice none 0 0] 27) ∧ W5.heap[w.heap.size + 1 + 1]? = some (.cells #[.slice (some ⟨q1, 0, none⟩) L.length L.length, .slice none 0 0, .slice none 0 0] 27) ∧ RdF W5 (.slice (some ⟨q1, 0, none⟩) L.length L.length) L ∧ W3.heap.size ≤ W5.heap.size) := by
    have hs := H3.out.2.2.2.2
    refine ⟨?_, ?_, ?_, ?_, ?_, ?_⟩
    · rw [hW5]; exact (H3.out.1.trans (hB4.mono H3.out.1.size)).setCell (p := ⟨w.heap.size + 1 + 1, 0, none⟩) (by show w.heap.size ≤ w.heap.size + 1 + 1; omega) _
    · rw [hW5, Below.heap_setCell _ _ _ _ (by simp; omega)]; exact k0
    · rw [hW5, Below.heap_setCell _ _ _ _ (by simp)]; exact k1
    · rw [hW5, heap_setCell_same _ _ _ _ 27 _ k2]; rfl
    · rw [hW5]; exact hr4.set (by rw [Q1.out]; omega) _ _
    · rw [hW5]; simp only [World.setCell, Array.size_modify]; exact hB4.size
  have X5 : Hid (OwA2 W5 w.heap.size (.slice (some ⟨q1, 0, none⟩) L.length L.length) L.length ∧ q1 < W5.heap.size) := by
    have hs := H3.out.2.2.2.2
    refine ⟨?_, ?_⟩
    · rw [hW5]; exact hx4.blk (fun k hk => Below.heap_setCell _ _ _ _ (by have : q1 = k := Option.some.inj hk; have := Q1.out; dsimp only; omega))
    · have := (hx4.lt q1 rfl).2; rw [hW5]; simpa only [World.setCell, Array.size_modify] using this
  have e1 : W5.cell? ⟨w.heap.size, 1, none⟩ = some (.slice aS S.length cS) := cellN H5.out.2.1
  rw [hW5] at e1
  have HW5 := (show Hid _ from hW5)
  clear hW5 k0 k1 k2 hr4 hB4 ho4 hx4
  go_wp2_with fail
  rw [← HW5.out]
  refine (toFileS_own _ S W5 (HA.out W5 H5.out.1).2.1 HN.out.2.1).mono ?_
  rintro e w6 ⟨rfl, hr6, ho6, hB6⟩
  have hx6 : OwA2 w6 w.heap.size (.slice (some ⟨W5.heap.size, 0, none⟩) S.length S.length) S.length := OwA2.base ho6 H5.out.1.size
  obtain ⟨q2, hq2⟩ : ∃ q2, q2 = W5.heap.size := ⟨_, rfl⟩
  rw [← hq2] at hr6 hx6 ⊢
  have Q2 : Hid (q2 = W5.heap.size) := hq2
  clear hq2 c0 f0 e1 HW5
  have k0 := (hB6.block _ (lt_of_block H5.out.2.1)).trans H5.out.2.1
  have k1 := (hB6.block _ (lt_of_block H5.out.2.2.1)).trans H5.out.2.2.1
  have k2 := (hB6.block _ (lt_of_block H5.out.2.2.2.1)).trans H5.out.2.2.2.1
  obtain ⟨W7, hW7⟩ : ∃ W7, W7 = w6.setCell ⟨w.heap.size + 1 + 1, 1, none⟩ (.slice (some ⟨q2, 0, none⟩) S.length S.length) := ⟨_, rfl⟩
  have c0 : w6.cell? ⟨w.heap.size + 1 + 1, 1, none⟩ = some (.slice none 0 0) := cellN k2
  have f0 : w6.frozen? ⟨w.heap.size + 1 + 1, 1, none⟩ = false := frozN k2
  have H7 : Hid (Below w.heap.size w W7 ∧ W7.heap[w.heap.size]? = some (.cells #[.slice aL L.length cL, .slice aS S.length cS, .slice aO O.length cO] 42) ∧ W7.heap[w.heap.size + 1]? = some (.cells #[.slice none 0 0, .slice none 0 0, .slice none 0 0] 27) ∧ W7.heap[w.heap.size + 1 + 1]? = some (.cells #[.slice (some ⟨q1, 0, none⟩) L.length L.length, .slice (some ⟨q2, 0, none⟩) S.length S.length, .slice none 0 0] 27) ∧ RdF W7 (.slice (some ⟨q1, 0, none⟩) L.length L.length) L ∧ RdF W7 (.slice (some ⟨q2, 0, none⟩) S.length S.length) S ∧ W3.heap.size ≤ W7.heap.size) := by
    have hs := H3.out.2.2.2.2
    have hs5 := H5.out.2.2.2.2.2
    refine ⟨?_, ?_, ?_, ?_, ?_, ?_, ?_⟩
    · rw [hW7]; exact (H5.out.1.trans (hB6.mono H5.out.1.size)).setCell (p := ⟨w.heap.size + 1 + 1, 1, none⟩) (by show w.heap.size ≤ w.heap.size + 1 + 1; omega) _
    · rw [hW7, Below.heap_setCell _ _ _ _ (by simp; omega)]; exact k0
    · rw [hW7, Below.heap_setCell _ _ _ _ (by simp)]; exact k1
    · rw [hW7, heap_setCell_same _ _ _ _ 27 _ k2]; rfl
    · rw [hW7]; exact (H5.out.2.2.2.2.1.below hB6).set (by rw [Q1.out]; omega) _ _
    · rw [hW7]; exact hr6.set (by rw [Q2.out]; omega) _ _
    · rw [hW7]; simp only [World.setCell, Array.size_modify]; exact Nat.le_trans hs5 hB6.size
  have X7 : Hid (OwA2 W7 w.heap.size (.slice (some ⟨q1, 0, none⟩) L.length L.length) L.length ∧ OwA2 W7 w.heap.size (.slice (some ⟨q2, 0, none⟩) S.length S.length) S.length ∧ q1 ≠ q2) := by
    have hs := H3.out.2.2.2.2
    have hs5 := H5.out.2.2.2.2.2
    refine ⟨?_, ?_, ?_⟩
    · rw [hW7]; exact (X5.out.1.below hB6).blk (fun k hk => Below.heap_setCell _ _ _ _ (by have : q1 = k := Option.some.inj hk; have := Q1.out; dsimp only; omega))
    · rw [hW7]; exact hx6.blk (fun k hk => Below.heap_setCell _ _ _ _ (by have : q2 = k := Option.some.inj hk; have := Q2.out; dsimp only; omega))
    · have := X5.out.2; have := Q2.out; omega
  have e1 : W7.cell? ⟨w.heap.size, 2, none⟩ = some (.slice aO O.length cO) := cellN H7.out.2.1
  rw [hW7] at e1
  have HW7 := (show Hid _ from hW7)
  clear hW7 k0 k1 k2 hr6 hB6 ho6 hx6
  go_wp2_with fail
  rw [← HW7.out]
  refine (toDOpS_own _ O W7 (HA.out W7 H7.out.1).2.2 HN.out.2.2).mono ?_
  rintro e w8 ⟨rfl, hr8, ho8, hB8⟩
  have hx8 : OwA4 w8 w.heap.size (.slice (some ⟨W7.heap.size, 0, none⟩) O.length O.length) O.length := OwA4.base ho8 H7.out.1.size
  obtain ⟨q3, hq3⟩ : ∃ q3, q3 = W7.heap.size := ⟨_, rfl⟩
  rw [← hq3] at hr8 hx8 ⊢
  have Q3 : Hid (q3 = W7.heap.size) := hq3
  clear hq3 c0 f0 e1 HW7
  have k1 := (hB8.block _ (lt_of_block H7.out.2.2.1)).trans H7.out.2.2.1
  have k2 := (hB8.block _ (lt_of_block H7.out.2.2.2.1)).trans H7.out.2.2.2.1
  obtain ⟨W9, hW9⟩ : ∃ W9, W9 = w8.setCell ⟨w.heap.size + 1 + 1, 2, none⟩ (.slice (some ⟨q3, 0, none⟩) O.length O.length) := ⟨_, rfl⟩
  have c0 : w8.cell? ⟨w.heap.size + 1 + 1, 2, none⟩ = some (.slice none 0 0) := cellN k2
  have f0 : w8.frozen? ⟨w.heap.size + 1 + 1, 2, none⟩ = false := frozN k2
  have H9 : Hid (Below w.heap.size w W9 ∧ W9.heap[w.heap.size + 1]? = some (.cells #[.slice none 0 0, .slice none 0 0, .slice none 0 0] 27) ∧ W9.heap[w.heap.size + 1 + 1]? = some (.cells #[.slice (some ⟨q1, 0, none⟩) L.length L.length, .slice (some ⟨q2, 0, none⟩) S.length S.length, .slice (some ⟨q3, 0, none⟩) O.length O.length] 27) ∧ RdF W9 (.slice (some ⟨q1, 0, none⟩) L.length L.length) L ∧ RdF W9 (.slice (some ⟨q2, 0, none⟩) S.length S.length) S ∧ RdO W9 (.slice (some ⟨q3, 0, none⟩) O.length O.length) O) := by
    have hs := H3.out.2.2.2.2
    have hs5 := H5.out.2.2.2.2.2
    have hs7 := H7.out.2.2.2.2.2.2
    refine ⟨?_, ?_, ?_, ?_, ?_, ?_⟩
    · rw [hW9]; exact (H7.out.1.trans (hB8.mono H7.out.1.size)).setCell (p := ⟨w.heap.size + 1 + 1, 2, none⟩) (by show w.heap.size ≤ w.heap.size + 1 + 1; omega) _
    · rw [hW9, Below.heap_setCell _ _ _ _ (by simp)]; exact k1
    · rw [hW9, heap_setCell_same _ _ _ _ 27 _ k2]; rfl
    · rw [hW9]; exact (H7.out.2.2.2.2.1.below hB8).set (by rw [Q1.out]; omega) _ _
    · rw [hW9]; exact (H7.out.2.2.2.2.2.1.below hB8).set (by rw [Q2.out]; omega) _ _
    · rw [hW9]; exact hr8.set (by rw [Q3.out]; omega) _ _
  have X9 : Hid (OwA2 W9 w.heap.size (.slice (some ⟨q1, 0, none⟩) L.length L.length) L.length ∧ OwA2 W9 w.heap.size (.slice (some ⟨q2, 0, none⟩) S.length S.length) S.length ∧ OwA4 W9 w.heap.size (.slice (some ⟨q3, 0, none⟩) O.length O.length) O.length ∧ q1 ≠ q2) := by
    have hs := H3.out.2.2.2.2
    have hs5 := H5.out.2.2.2.2.2
    have hs7 := H7.out.2.2.2.2.2.2
    refine ⟨?_, ?_, ?_, X7.out.2.2⟩
    · rw [hW9]; exact (X7.out.1.below hB8).blk (fun k hk => Below.heap_setCell _ _ _ _ (by have : q1 = k := Option.some.inj hk; have := Q1.out; dsimp only; omega))
    · rw [hW9]; exact (X7.out.2.1.below hB8).blk (fun k hk => Below.heap_setCell _ _ _ _ (by have : q2 = k := Option.some.inj hk; have := Q2.out; dsimp only; omega))
    · rw [hW9]; exact hx8.blk (fun k hk => Below.heap_setCell _ _ _ _ (by have : q3 = k := Option.some.inj hk; have := Q3.out; dsimp only; omega))
  have d0 : W9.cell? ⟨w.heap.size + 1 + 1, 0, none⟩ = some (.slice (some ⟨q1, 0, none⟩) L.length L.length) := cellN H9.out.2.2.1
  have d1 : W9.cell? ⟨w.heap.size + 1 + 1, 1, none⟩ = some (.slice (some ⟨q2, 0, none⟩) S.length S.length) := cellN H9.out.2.2.1
  have d2 : W9.cell? ⟨w.heap.size + 1 + 1, 2, none⟩ = some (.slice (some ⟨q3, 0, none⟩) O.length O.length) := cellN H9.out.2.2.1
  rw [hW9] at d0 d1 d2
  have HR : Hid ((w8.setCell ⟨w.heap.size + 1 + 1, 2, none⟩ (.slice (some ⟨q3, 0, none⟩) O.length O.length)).heap[w.heap.size + 1]? = some (.cells #[.slice none 0 0, .slice none 0 0, .slice none 0 0] 27)) := by rw [← hW9]; exact H9.out.2.1
  have HW9 := (show Hid _ from hW9)
  obtain ⟨q, hq⟩ : ∃ q, q = #[Value.slice (some ⟨q1, 0, none⟩) L.length L.length, .slice (some ⟨q2, 0, none⟩) S.length S.length, .slice (some ⟨q3, 0, none⟩) O.length O.length] := ⟨_, rfl⟩
  have hi6 : (Try.prog.info? 27).map (·.size) = some q.size := by rw [hq]; exact infoDk
  have ho6 : (#[Value.slice none 0 0, .slice none 0 0, .slice none 0 0] : Array Value).size = q.size := by rw [hq]; rfl
  have h16 : q.all (·.oneCell') = true := by rw [hq]; simp [Value.oneCell']
  have HQ : Hid (q = #[Value.slice (some ⟨q1, 0, none⟩) L.length L.length, .slice (some ⟨q2, 0, none⟩) S.length S.length, .slice (some ⟨q3, 0, none⟩) O.length O.length]) := hq
  clear hW9 k1 k2 hr8 hB8 ho8 hx8
  go_wp2_with (refine wpList_store_row rfl 27 _ _ rfl (w.heap.size + 1) q rfl (congrArg Value.agg hq.symm) 27 _ HR.out hi6 ho6 h16 ?_)
  have hs := H3.out.2.2.2.2
  have hs5 := H5.out.2.2.2.2.2
  have hs7 := H7.out.2.2.2.2.2.2
  refine bodyPost_ret (v := .agg q) (results_cell_row rfl _ _ (w.heap.size + 1) 27 _ _ _ rfl (setRow_heap _ _ _ _ _ _ HR.out) Try.underlying27 rfl hi6) rfl ⟨q1, q2, q3, ret_val (by rw [HQ.out]), ?_, ?_, ?_, ⟨?_, ?_, ?_, X9.out.2.2.2⟩, ?_⟩
  · rw [← HW9.out]; exact H9.out.2.2.2.1.row (by rw [Q1.out]; omega) _
  · rw [← HW9.out]; exact H9.out.2.2.2.2.1.row (by rw [Q2.out]; omega) _
  · rw [← HW9.out]; exact H9.out.2.2.2.2.2.row (by rw [Q3.out]; omega) _
  · rw [← HW9.out]; exact X9.out.1.blk (fun k hk => setRow_other _ _ _ _ (by have : q1 = k := Option.some.inj hk; have := Q1.out; omega))
  · rw [← HW9.out]; exact X9.out.2.1.blk (fun k hk => setRow_other _ _ _ _ (by have : q2 = k := Option.some.inj hk; have := Q2.out; omega))
  · rw [← HW9.out]; exact X9.out.2.2.1.blk (fun k hk => setRow_other _ _ _ _ (by have : q3 = k := Option.some.inj hk; have := Q3.out; omega))
  · rw [← HW9.out]; exact below_setRow H9.out.1 (by omega) _
end Go.Proofs.Ytbohaefmokbgbaa
