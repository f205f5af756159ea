/-
  The laws' own functions over disks. No condition but that their slices read.
-/
import Derived.Test.YtbohaefmokbgbaaDkT2
import Derived.Laws.Tables
namespace Go.Proofs.Ytbohaefmokbgbaa
open Go.RowKit
set_option linter.unusedVariables false

theorem RdF.set {w : World} {g n c : Nat} {L : List Fl} (h : RdF w (.slice (some ⟨g, 0, none⟩) n c) L) {k : Nat} (hk : g ≠ k) (o : Nat) (u : Value) : RdF (w.setCell ⟨k, o, none⟩ u) (.slice (some ⟨g, 0, none⟩) n c) L :=
  h.kept (by simp [World.setCell]) fun b off n' c' e => by
    simp at e
    obtain ⟨⟨rfl, rfl⟩, _⟩ := e
    exact Below.heap_setCell _ _ _ _ hk
theorem RdO.kept {w w' : World} {v : Value} {O : List Dop} (h : RdO w v O) (hs : w.heap.size ≤ w'.heap.size) (he : ∀ b off n cap, v = .slice (some ⟨b, off, none⟩) n cap → w'.heap[b]? = w.heap[b]?) : RdO w' v O := by
  obtain ⟨a, cap, e, h1, h2, h3⟩ := h
  refine ⟨a, cap, e, h1, h2, fun hp => ?_⟩
  obtain ⟨b, off, e', hb, hc⟩ := h3 hp
  exact ⟨b, off, e', Nat.lt_of_lt_of_le hb hs, fun i hi t ht => (World.cell?_of_block (he b off _ _ (by rw [e, e']))).trans (hc i hi t ht)⟩
theorem RdO.set {w : World} {g n c : Nat} {O : List Dop} (h : RdO w (.slice (some ⟨g, 0, none⟩) n c) O) {k : Nat} (hk : g ≠ k) (o : Nat) (u : Value) : RdO (w.setCell ⟨k, o, none⟩ u) (.slice (some ⟨g, 0, none⟩) n c) O :=
  h.kept (by simp [World.setCell]) fun b off n' c' e => by
    simp at e
    obtain ⟨⟨rfl, rfl⟩, _⟩ := e
    exact Below.heap_setCell _ _ _ _ hk
theorem RdF.row {w : World} {g n c : Nat} {L : List Fl} (h : RdF w (.slice (some ⟨g, 0, none⟩) n c) L) {k : Nat} (hk : g ≠ k) (q : Array Value) : RdF (w.setRow k q) (.slice (some ⟨g, 0, none⟩) n c) L :=
  h.kept (by simp [World.setRow]) fun b off n' c' e => by
    simp at e
    obtain ⟨⟨rfl, rfl⟩, _⟩ := e
    exact setRow_other _ _ _ _ hk
theorem RdO.row {w : World} {g n c : Nat} {O : List Dop} (h : RdO w (.slice (some ⟨g, 0, none⟩) n c) O) {k : Nat} (hk : g ≠ k) (q : Array Value) : RdO (w.setRow k q) (.slice (some ⟨g, 0, none⟩) n c) O :=
  h.kept (by simp [World.setRow]) fun b off n' c' e => by
    simp at e
    obtain ⟨⟨rfl, rfl⟩, _⟩ := e
    exact setRow_other _ _ _ _ hk
/-- what came in is not too great for the model's integers -/
def InD (L S : List Fl) (O : List Dop) : Prop := (∀ f ∈ L, f.n.size ≤ 9223372036854775807 ∧ f.d.size ≤ 9223372036854775807) ∧ (∀ f ∈ S, f.n.size ≤ 9223372036854775807 ∧ f.d.size ≤ 9223372036854775807) ∧ ∀ o ∈ O, o.n.size ≤ 9223372036854775807 ∧ o.t.size ≤ 9223372036854775807 ∧ o.d.size ≤ 9223372036854775807
theorem RdF.slice {w : World} {v : Value} {L : List Fl} (h : RdF w v L) : ∃ a c, v = .slice a L.length c := by
  obtain ⟨a, c, e, _⟩ := h
  exact ⟨a, c, e⟩
theorem RdO.slice {w : World} {v : Value} {O : List Dop} (h : RdO w v O) : ∃ a c, v = .slice a O.length c := by
  obtain ⟨a, c, e, _⟩ := h
  exact ⟨a, c, e⟩
theorem of_at {L : List Fl} {z z' : Nat} (h : ∀ j, j < L.length → (L.getD j flZ).n.size ≤ z ∧ (L.getD j flZ).d.size ≤ z) (hz : z ≤ z') : ∀ f ∈ L, f.n.size ≤ z' := fun f hf => by
  obtain ⟨i, hi, e⟩ := List.getElem_of_mem hf
  have := (h i hi).1
  rw [show L.getD i flZ = f by simp [hi, e]] at this
  omega
theorem of_atO {O : List Dop} {z z' : Nat} (h : ∀ j, j < O.length → (O.getD j dopZ).n.size ≤ z ∧ (O.getD j dopZ).t.size ≤ z ∧ (O.getD j dopZ).d.size ≤ z) (hz : z ≤ z') : ∀ f ∈ O, f.n.size ≤ z' ∧ f.t.size ≤ z' ∧ f.d.size ≤ z' := fun f hf => by
  obtain ⟨i, hi, e⟩ := List.getElem_of_mem hf
  have := h i hi
  rw [show O.getD i dopZ = f by simp [hi, e]] at this
  omega

set_option maxHeartbeats 1000000 in
theorem szDisk_any (vL vS vO : Value) (L S : List Fl) (O : List Dop) (w : World) (hL : RdF w vL L) (hS : RdF w vS S) (hO : RdO w vO O) (hin : InD L S O) :
    Calls Try.prog 13 #[.agg #[vL, vS, vO], .int .i64 1048576] w fun e w' => ∃ r : Int, e = .returned (.int .i64 r) ∧ (r < 0 ∨ (0 ≤ r ∧ SmallD L S O ∧ L.length ≤ 1048576 ∧ S.length ≤ 1048576 ∧ O.length ≤ 1048576)) ∧ Below w.heap.size w w' := by
  have HL : Hid (∀ w', Below w.heap.size w w' → RdF w' vL L) := fun w' hB => hL.below hB
  have HS : Hid (∀ w', Below w.heap.size w w' → RdF w' vS S) := fun w' hB => hS.below hB
  have HO : Hid (∀ w', Below w.heap.size w w' → RdO w' vO O) := fun w' hB => hO.below hB
  obtain ⟨aL, cL, eL⟩ := hL.slice
  obtain ⟨nL, hnL⟩ : ∃ n, n = L.length := ⟨_, rfl⟩
  rw [← hnL] at eL
  obtain ⟨aS, cS, eS⟩ := hS.slice
  obtain ⟨nS, hnS⟩ : ∃ n, n = S.length := ⟨_, rfl⟩
  rw [← hnS] at eS
  obtain ⟨aO, cO, eO⟩ := hO.slice
  obtain ⟨nO, hnO⟩ : ∃ n, n = O.length := ⟨_, rfl⟩
  rw [← hnO] at eO
  subst eL eS eO
  obtain ⟨X, hX⟩ : ∃ X, X = w.alloc (.cells #[.slice aL nL cL, .slice aS nS cS, .slice aO nO cO] 42) := ⟨_, rfl⟩
  have hBX : Below w.heap.size w X := by rw [hX]; exact (Below.refl _ _).alloc (Nat.le_refl _) _
  have gX : X.heap[w.heap.size]? = some (.cells #[.slice aL nL cL, .slice aS nS cS, .slice aO nO cO] 42 (0, 0)) := by rw [hX]; exact heap_alloc_new _ _
  have HG : Hid (∀ w', Below X.heap.size X w' → w'.cell? ⟨w.heap.size, 0, none⟩ = some (.slice aL nL cL) ∧ w'.cell? ⟨w.heap.size, 1, none⟩ = some (.slice aS nS cS) ∧ w'.cell? ⟨w.heap.size, 2, none⟩ = some (.slice aO nO cO) ∧ Below w.heap.size w w') := fun w' hB => by
    have g := (hB.block _ (lt_of_block gX)).trans gX
    exact ⟨cellN g, cellN g, cellN g, hBX.trans (hB.mono hBX.size)⟩
  have HX := (show Hid _ from hX)
  have HI : Hid (InD L S O) := hin
  obtain ⟨c0, _, _, _⟩ := HG.out X (Below.refl _ _)
  rw [hX] at c0
  clear hX hBX gX hL hS hO hnL hnS hnO hin
  go_enter Try.func13, Try.ntmps13
  go_wp2_with fail
  rw [← HX.out]
  refine (szFileS_any _ L X (HL.out X (HG.out X (Below.refl _ _)).2.2.2) HI.out.1 1048576 (by omega) (by omega)).mono ?_
  rintro e w1 ⟨r, rfl, hr, hB1⟩
  have HB1 := (show Hid _ from hB1)
  clear c0 HX
  obtain ⟨_, c1, _, hBw1⟩ := HG.out w1 hB1
  have HBW1 := (show Hid _ from hBw1)
  clear hB1 hBw1
  rcases hr with hr | ⟨hr, hrl, hl1, hz1, ht1⟩
  · go_wp2
    go_ret
    exact ⟨_, rfl, .inl (by decide), HBW1.out⟩
  have H1 : Hid (L.length ≤ 1048576 ∧ (∀ f ∈ L, f.n.size ≤ 100000000) ∧ tot L ≤ 1048576) := ⟨hl1, of_at hz1 (by omega), by omega⟩
  clear hl1 hz1 ht1
  go_wp2_with fail
  refine (szFileS_any _ S w1 (HS.out w1 HBW1.out) HI.out.2.1 r hr (by omega)).mono ?_
  rintro e w2 ⟨r2, rfl, hr2, hB2⟩
  have HB2 : Hid (Below X.heap.size X w2) := HB1.out.trans (hB2.mono HB1.out.size)
  clear c1
  obtain ⟨_, _, c2, hBw2⟩ := HG.out w2 HB2.out
  have HBW2 := (show Hid _ from hBw2)
  clear hB2 hBw2
  rcases hr2 with hr2 | ⟨hr2, hrl2, hl2, hz2, ht2⟩
  · go_wp2
    go_ret
    exact ⟨_, rfl, .inl (by decide), HBW2.out⟩
  have H2 : Hid (S.length ≤ 1048576 ∧ (∀ f ∈ S, f.n.size ≤ 100000000) ∧ tot S ≤ 1048576) := ⟨hl2, of_at hz2 (by omega), by omega⟩
  clear hl2 hz2 ht2
  go_wp2_with fail
  refine (szDOpS_any _ O w2 (HO.out w2 HBW2.out) HI.out.2.2 r2 hr2 (by omega)).mono ?_
  rintro e w3 ⟨r3, rfl, hr3, hB3⟩
  have HB3 : Hid (Below w.heap.size w w3) := HBW2.out.trans (hB3.mono HBW2.out.size)
  clear hB3 c2
  rcases hr3 with hr3 | ⟨hr3, hrl3, hl3, hz3⟩
  · go_wp2
    go_ret
    exact ⟨_, rfl, .inl (by decide), HB3.out⟩
  have H3 : Hid (O.length ≤ 1048576 ∧ ∀ o ∈ O, o.n.size ≤ 100000000 ∧ o.t.size ≤ 100000000 ∧ o.d.size ≤ 100000000) := ⟨hl3, of_atO hz3 (by omega)⟩
  clear hl3 hz3
  go_wp2
  go_ret
  exact ⟨_, rfl, .inr ⟨hr3, ⟨by have := H1.out.2.2; omega, by have := H2.out.2.2; omega, H1.out.2.1, H2.out.2.1, H3.out.2⟩, H1.out.1, H2.out.1, H3.out.1⟩, HB3.out⟩

set_option maxHeartbeats 1000000 in
theorem eqDisk_same (vL vS vO uL uS uO : Value) (L S : List Fl) (O : List Dop) (w : World) (hL : RdF w vL L) (hS : RdF w vS S) (hO : RdO w vO O) (kL : RdF w uL L) (kS : RdF w uS S) (kO : RdO w uO O) :
    Calls Try.prog 19 #[.agg #[vL, vS, vO], .agg #[uL, uS, uO]] w fun e w' => e = .returned (.bool true) ∧ Below w.heap.size w w' := by
  have HL : Hid (∀ w', Below w.heap.size w w' → RdF w' vL L ∧ RdF w' uL L ∧ RdF w' vS S ∧ RdF w' uS S ∧ RdO w' vO O ∧ RdO w' uO O) := fun w' hB => ⟨hL.below hB, kL.below hB, hS.below hB, kS.below hB, hO.below hB, kO.below hB⟩
  obtain ⟨a1, c1, rfl⟩ := hL.slice
  obtain ⟨a2, c2, rfl⟩ := hS.slice
  obtain ⟨a3, c3, rfl⟩ := hO.slice
  obtain ⟨a4, c4, rfl⟩ := kL.slice
  obtain ⟨a5, c5, rfl⟩ := kS.slice
  obtain ⟨a6, c6, rfl⟩ := kO.slice
  obtain ⟨W, hW⟩ : ∃ W, W = (w.alloc (.cells #[.slice a1 L.length c1, .slice a2 S.length c2, .slice a3 O.length c3] 27)).alloc (.cells #[.slice a4 L.length c4, .slice a5 S.length c5, .slice a6 O.length c6] 27) := ⟨_, rfl⟩
  have hB : Below w.heap.size w W := by rw [hW]; exact ((Below.refl _ _).alloc (Nat.le_refl _) _).alloc (by simp) _
  have g1 : W.heap[w.heap.size]? = some (.cells #[.slice a1 L.length c1, .slice a2 S.length c2, .slice a3 O.length c3] 27) := by
    rw [hW, Below.heap_alloc _ _ _ (by simp)]
    exact heap_alloc_new w _
  have g2 : W.heap[w.heap.size + 1]? = some (.cells #[.slice a4 L.length c4, .slice a5 S.length c5, .slice a6 O.length c6] 27) := by
    rw [hW]
    have := heap_alloc_new (w.alloc (.cells #[.slice a1 L.length c1, .slice a2 S.length c2, .slice a3 O.length c3] 27)) (.cells #[.slice a4 L.length c4, .slice a5 S.length c5, .slice a6 O.length c6] 27)
    simpa using this
  have HW : Hid (W = _) := hW
  have HB := (show Hid _ from hB)
  have HG : Hid (∀ w', Below W.heap.size W w' → (w'.cell? ⟨w.heap.size, 1, none⟩ = some (.slice a2 S.length c2) ∧ w'.cell? ⟨w.heap.size + 1, 1, none⟩ = some (.slice a5 S.length c5)) ∧ (w'.cell? ⟨w.heap.size, 2, none⟩ = some (.slice a3 O.length c3) ∧ w'.cell? ⟨w.heap.size + 1, 2, none⟩ = some (.slice a6 O.length c6)) ∧ Below w.heap.size w w') := fun w' h' => by
    have k1 := (h'.block _ (lt_of_block g1)).trans g1
    have k2 := (h'.block _ (lt_of_block g2)).trans g2
    exact ⟨⟨cellN k1, cellN k2⟩, ⟨cellN k1, cellN k2⟩, hB.trans (h'.mono hB.size)⟩
  clear hW hB g1 g2 hL hS hO kL kS kO
  go_enter Try.func19, Try.ntmps19
  go_wp2_with fail
  rw [← HW.out]
  refine (eqFileS_same _ _ L W (HL.out W HB.out).1 (HL.out W HB.out).2.1).mono ?_
  rintro e w1 ⟨rfl, hB1⟩
  have HB1 := (show Hid _ from hB1)
  obtain ⟨⟨d1, d2⟩, _, hbw1⟩ := HG.out w1 hB1
  have HBW1 := (show Hid _ from hbw1)
  clear hB1 hbw1
  go_wp2_with fail
  refine (eqFileS_same _ _ S w1 (HL.out w1 HBW1.out).2.2.1 (HL.out w1 HBW1.out).2.2.2.1).mono ?_
  rintro e w2 ⟨rfl, hB2⟩
  have HB2 : Hid (Below W.heap.size W w2) := HB1.out.trans (hB2.mono HB1.out.size)
  clear d1 d2
  obtain ⟨_, ⟨d1, d2⟩, hbw2⟩ := HG.out w2 HB2.out
  have HBW2 := (show Hid _ from hbw2)
  clear hB2 hbw2
  go_wp2_with fail
  refine (eqDOpS_same _ _ O w2 (HL.out w2 HBW2.out).2.2.2.2.1 (HL.out w2 HBW2.out).2.2.2.2.2).mono ?_
  rintro e w3 ⟨rfl, hB3⟩
  have HB3 : Hid (Below w.heap.size w w3) := HBW2.out.trans (hB3.mono HBW2.out.size)
  clear hB3 d1 d2
  go_wp2
  go_ret
  exact ⟨rfl, HB3.out⟩
end Go.Proofs.Ytbohaefmokbgbaa
