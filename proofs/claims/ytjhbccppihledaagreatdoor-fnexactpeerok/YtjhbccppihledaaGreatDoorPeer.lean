/-
  Peers: the laws' own functions over them. No condition but that their slices read.
-/
import Derived.Test.YtjhbccppihledaaGreatDoorSz
import Derived.Test.YtjhbccppihledaaGreatDoorMark2
namespace Go.Proofs.YtjhbccppihledaaGreatDoor
open Go.RowKit
set_option linter.unusedVariables false

/-- a peer as a value -/
abbrev peerV (a : Option Addr) (n cap : Nat) (b : Option Addr) (m mcap : Nat) : Value := .agg #[.slice a n cap, .slice b m mcap]

set_option maxHeartbeats 1000000 in
theorem szPeer_any (a : Option Addr) (n cap : Nat) (D : Nat → Nd) (b : Option Addr) (m mcap : Nat) (E : Nat → Nd) (w : World) (h : IsNds w a n cap D) (hF : Fine D n) (h' : IsNds w b m mcap E) (hF' : Fine E m) :
    Calls Tryz.prog 29 #[.agg #[.slice a n cap, .slice b m mcap], .int .i64 1048576] w fun e w' => ∃ r : Int, e = .returned (.int .i64 r) ∧ (r < 0 ∨ (0 ≤ r ∧ n ≤ 1048576 ∧ m ≤ 1048576 ∧ (∀ i, i < n → (D i).n ≤ 1048576) ∧ ∀ i, i < m → (E i).n ≤ 1048576)) ∧ Below w.heap.size w w' := by
  have hB0 : Below w.heap.size w (w.alloc (.cells #[.slice a n cap, .slice b m mcap] 38)) := (Below.refl _ _).alloc (Nat.le_refl _) _
  have hg : (w.alloc (.cells #[.slice a n cap, .slice b m mcap] 38)).heap[w.heap.size]? = some (.cells #[.slice a n cap, .slice b m mcap] 38) := heap_alloc_new w _
  obtain ⟨W, hW⟩ : ∃ W, W = w.alloc (.cells #[.slice a n cap, .slice b m mcap] 38) := ⟨_, rfl⟩
  rw [← hW] at hB0 hg
  have H := h.below hB0
  have H' := h'.below hB0
  have HW : Hid (W = _) := hW
  have HG : Hid (W.heap[w.heap.size]? = some (.cells #[.slice a n cap, .slice b m mcap] 38)) := hg
  have HB0 : Hid (Below w.heap.size w W) := hB0
  clear h h' hW hg hB0
  go_enter Tryz.func29, Tryz.ntmps29
  go_wp2_with fail
  rw [← HW.out]
  refine (szNodeS_L a n cap D _ H hF 1048576 (by omega) (by omega)).mono ?_
  rintro e w1 ⟨r, rfl, hr, hB1⟩
  have HB1 : Hid (Below w.heap.size w w1) := HB0.out.trans (hB1.mono HB0.out.size)
  have hg1 : w1.heap[w.heap.size]? = some (.cells #[.slice a n cap, .slice b m mcap] 38) := (hB1.block _ (lt_of_block HG.out)).trans HG.out
  have c1 : w1.cell? ⟨w.heap.size, 1, none⟩ = some (.slice b m mcap) := cellN hg1
  have H1' := H'.below hB1
  clear hg1 hB1
  rcases hr with hr | ⟨hr, hrl, hl, hz⟩
  · go_wp2
    go_ret
    exact ⟨_, rfl, .inl (by decide), HB1.out⟩
  have HZ : Hid (∀ i, i < n → (D i).n ≤ 1048576) := hz
  clear hz
  go_wp2_with fail
  refine (szNodeS_L b m mcap E _ H1' hF' r hr hrl).mono ?_
  rintro e w2 ⟨r2, rfl, hr2, hB2⟩
  have HB2 : Hid (Below w.heap.size w w2) := HB1.out.trans (hB2.mono HB1.out.size)
  clear hB2
  rcases hr2 with hr2 | ⟨hr2, hrl2, hl2, hz2⟩
  · go_wp2
    go_ret
    exact ⟨_, rfl, .inl (by decide), HB2.out⟩
  have HZ2 : Hid (∀ i, i < m → (E i).n ≤ 1048576) := hz2
  clear hz2
  go_wp2
  go_ret
  exact ⟨_, rfl, .inr ⟨hr2, hl, hl2, HZ.out, HZ2.out⟩, HB2.out⟩

theorem infoP : (Tryz.prog.info? 42).map (·.size) = some 2 := by kernel_rfl

theorem IsNds.other {w w' : World} {B g n : Nat} {G : Nat → Nat} {D : Nat → Nd} (h : IsNds w (some ⟨g, 0, none⟩) n n (fun i => (D i).at (G i))) (hs : w.heap.size ≤ w'.heap.size) (hc : ∀ b o, b ≠ B → w'.cell? ⟨b, o, none⟩ = w.cell? ⟨b, o, none⟩) (hg : g ≠ B) (hG : ∀ i, i < n → G i ≠ B) :
    IsNds w' (some ⟨g, 0, none⟩) n n (fun i => (D i).at (G i)) := by
  obtain ⟨h1, h2, h3⟩ := h
  refine ⟨h1, h2, fun hp => ?_⟩
  obtain ⟨b, off, e, hb, hall⟩ := h3 hp
  simp only [Option.some.injEq, Addr.mk.injEq, and_true] at e
  obtain ⟨rfl, rfl⟩ := e
  refine ⟨g, 0, rfl, by omega, fun i hi => ?_⟩
  obtain ⟨c0, c1, c2, c3, c4, c5, ⟨i1, i2, i3⟩⟩ := hall i hi
  refine ⟨(hc _ _ hg).trans c0, (hc _ _ hg).trans c1, (hc _ _ hg).trans c2, (hc _ _ hg).trans c3, (hc _ _ hg).trans c4, (hc _ _ hg).trans c5, i1, i2, fun hq => ?_⟩
  obtain ⟨b', off', e', hb', hl'⟩ := i3 hq
  have e2 : (some ⟨G i, 0, none⟩ : Option Addr) = some ⟨b', off', none⟩ := e'
  simp only [Option.some.injEq, Addr.mk.injEq, and_true] at e2
  obtain ⟨rfl, rfl⟩ := e2
  exact ⟨G i, 0, rfl, by omega, fun j hj => (hc _ _ (hG i hi)).trans (hl' j hj)⟩

set_option maxHeartbeats 1000000 in
theorem toPeer_any (a : Option Addr) (n cap : Nat) (D : Nat → Nd) (b : Option Addr) (m mcap : Nat) (E : Nat → Nd) (w : World) (h : IsNds w a n cap D) (h' : IsNds w b m mcap E) (hn : n ≤ 1048576) (hm : m ≤ 1048576) (hz : ∀ i, i < n → (D i).n ≤ 1048576) (hz' : ∀ i, i < m → (E i).n ≤ 1048576) :
    Calls Tryz.prog 31 #[.agg #[.slice a n cap, .slice b m mcap]] w fun e w' => ∃ (g : Nat) (G : Nat → Nat) (g' : Nat) (G' : Nat → Nat), e = .returned (.agg #[.slice (some ⟨g, 0, none⟩) n n, .slice (some ⟨g', 0, none⟩) m m]) ∧ IsNds w' (some ⟨g, 0, none⟩) n n (fun i => (D i).at (G i)) ∧ IsNds w' (some ⟨g', 0, none⟩) m m (fun i => (E i).at (G' i)) ∧ Below w.heap.size w w' := by
  obtain ⟨W3, hW3⟩ : ∃ W3, W3 = ((w.alloc (.cells #[.slice a n cap, .slice b m mcap] 38)).alloc (.cells #[.slice none 0 0, .slice none 0 0] 42)).alloc (.cells #[.slice none 0 0, .slice none 0 0] 42) := ⟨_, rfl⟩
  have hB3 : Below w.heap.size w W3 := by rw [hW3]; exact (((Below.refl _ _).alloc (Nat.le_refl _) _).alloc (by simp) _).alloc (by simp; omega) _
  have g1 : W3.heap[w.heap.size]? = some (.cells #[.slice a n cap, .slice b m mcap] 38) := by
    rw [hW3, Below.heap_alloc _ _ _ (by simp; omega), Below.heap_alloc _ _ _ (by simp)]
    exact heap_alloc_new w _
  have g2 : W3.heap[w.heap.size + 1]? = some (.cells #[.slice none 0 0, .slice none 0 0] 42) := by
    rw [hW3, Below.heap_alloc _ _ _ (by simp)]
    have := heap_alloc_new (w.alloc (.cells #[.slice a n cap, .slice b m mcap] 38)) (.cells #[.slice none 0 0, .slice none 0 0] 42)
    simpa using this
  have g3 : W3.heap[w.heap.size + 2]? = some (.cells #[.slice none 0 0, .slice none 0 0] 42) := by
    rw [hW3]
    have := heap_alloc_new ((w.alloc (.cells #[.slice a n cap, .slice b m mcap] 38)).alloc (.cells #[.slice none 0 0, .slice none 0 0] 42)) (.cells #[.slice none 0 0, .slice none 0 0] 42)
    simpa using this
  have HW : Hid (W3 = _) := hW3
  have H : Hid (IsNds W3 a n cap D) := h.below hB3
  have H0' : Hid (IsNds w b m mcap E) := h'
  have HB3 : Hid (Below w.heap.size w W3) := hB3
  have G1 : Hid (_) := g1
  have G2 : Hid (_) := g2
  have G3 : Hid (_) := g3
  have HZ' : Hid (_) := hz'
  have HS3 : Hid (w.heap.size + 2 < W3.heap.size) := lt_of_block g3
  clear hW3 h h' hB3 g1 g2 g3 hz'
  go_enter Tryz.func31, Tryz.ntmps31
  go_wp2_with fail
  rw [← HW.out]
  refine (toNodeS_own a n cap D _ H.out hn hz).mono ?_
  rintro e w1 ⟨g, G, rfl, i1, hB1, n1⟩
  have k1 : w1.heap[w.heap.size]? = some (.cells #[.slice a n cap, .slice b m mcap] 38) := (hB1.block _ (lt_of_block G1.out)).trans G1.out
  have k2 : w1.heap[w.heap.size + 1]? = some (.cells #[.slice none 0 0, .slice none 0 0] 42) := (hB1.block _ (lt_of_block G2.out)).trans G2.out
  have k3 : w1.heap[w.heap.size + 2]? = some (.cells #[.slice none 0 0, .slice none 0 0] 42) := (hB1.block _ (lt_of_block G3.out)).trans G3.out
  have c0 : w1.cell? ⟨w.heap.size + 2, 0, none⟩ = some (.slice none 0 0) := cellN k3
  have cf0 : w1.frozen? ⟨w.heap.size + 2, 0, none⟩ = false := frozN k3
  have d1 : w1.cell? ⟨w.heap.size, 1, none⟩ = some (.slice b m mcap) := cellN k1
  have hB1' : Below w.heap.size w w1 := HB3.out.trans (hB1.mono HB3.out.size)
  obtain ⟨W4, hW4⟩ : ∃ W4, W4 = w1.setCell ⟨w.heap.size + 1 + 1, 0, none⟩ (.slice (some ⟨g, 0, none⟩) n n) := ⟨_, rfl⟩
  have hc4 : ∀ b o, b ≠ w.heap.size + 1 + 1 → W4.cell? ⟨b, o, none⟩ = w1.cell? ⟨b, o, none⟩ := fun b o hb => by rw [hW4]; exact World.cell?_setCell_other _ _ _ _ (by simp <;> omega)
  have hs4 : W4.heap.size = w1.heap.size := by rw [hW4]; simp [World.setCell]
  have hn1 : W3.heap.size ≤ g ∧ ∀ i, i < n → W3.heap.size ≤ G i := by
    obtain ⟨h1, ys, _, h2⟩ := n1
    exact ⟨h1, fun i hi => (h2 i hi).2.2⟩
  have hs3 := HS3.out
  have I1 : Hid (IsNds W4 (some ⟨g, 0, none⟩) n n (fun i => (D i).at (G i))) := i1.other (by omega) hc4 (by omega) (fun i hi => by have := hn1.2 i hi; omega)
  have HB4 : Hid (Below w.heap.size w W4) := by show Below _ _ _; rw [hW4]; exact hB1'.setCell (p := ⟨w.heap.size + 1 + 1, 0, none⟩) (by show w.heap.size ≤ w.heap.size + 1 + 1; omega) _
  have k2' : W4.heap[w.heap.size + 1]? = some (.cells #[.slice none 0 0, .slice none 0 0] 42) := by rw [hW4, Below.heap_setCell _ _ _ _ (by simp)]; exact k2
  have k1' : W4.cell? ⟨w.heap.size, 1, none⟩ = some (.slice b m mcap) := by rw [hc4 _ _ (by omega)]; exact d1
  have e0 : W4.cell? ⟨w.heap.size + 2, 0, none⟩ = some (.slice (some ⟨g, 0, none⟩) n n) := by rw [hW4]; exact World.cell?_setCell_same _ _ _ c0
  have e1 : W4.cell? ⟨w.heap.size + 2, 1, none⟩ = some (.slice none 0 0) := by
    rw [hW4, World.cell?_setCell_other _ _ _ _ (by simp)]
    exact cellN k3
  have ef : ∀ o, W4.frozen? ⟨w.heap.size + 2, o, none⟩ = false := fun o => by
    rw [hW4]
    simp only [World.frozen?_setCell]
    exact frozN k3
  have hgG : Hid (W3.heap.size ≤ g ∧ ∀ i, i < n → W3.heap.size ≤ G i) := hn1
  have HW4 : Hid (W4 = _) := hW4
  have K2 : Hid (_) := k2'
  have HS4 : Hid (W3.heap.size ≤ W4.heap.size) := by show _ ≤ _; rw [hs4]; exact hB1.size
  have E0 : Hid (_) := e0
  have E1 : Hid (_) := e1
  have EF : Hid (_) := ef
  clear n1 i1 hB1 hB1' k1 k2 k3 hc4 hs4 hn1 hs3 k2' k1' hW4 e0 e1 ef
  go_wp2_with fail
  rw [← HW4.out]
  refine (toNodeS_own b m mcap E _ (H0'.out.below HB4.out) hm HZ'.out).mono ?_
  rintro e w5 ⟨g', G', rfl, i5, hB5, n5⟩
  have hn5 : W4.heap.size ≤ g' ∧ ∀ i, i < m → W4.heap.size ≤ G' i := by
    obtain ⟨h1, ys, _, h2⟩ := n5
    exact ⟨h1, fun i hi => (h2 i hi).2.2⟩
  have hs3 := HS3.out
  have hs4 := HS4.out
  have x0 : w5.cell? ⟨w.heap.size + 2, 0, none⟩ = some (.slice (some ⟨g, 0, none⟩) n n) := (hB5.cell (p := ⟨w.heap.size + 2, 0, none⟩) (by show w.heap.size + 2 < _; omega)).trans E0.out
  have x1 : w5.cell? ⟨w.heap.size + 2, 1, none⟩ = some (.slice none 0 0) := (hB5.cell (p := ⟨w.heap.size + 2, 1, none⟩) (by show w.heap.size + 2 < _; omega)).trans E1.out
  have xf : ∀ o, w5.frozen? ⟨w.heap.size + 2, o, none⟩ = false := fun o => by
    have hb := hB5.block (w.heap.size + 2) (by omega)
    have := EF.out o
    unfold World.frozen? at this ⊢
    rw [hb]
    exact this
  have xf1 := xf 1
  have HB5 : Hid (Below w.heap.size w w5) := HB4.out.trans (hB5.mono HB4.out.size)
  have k2 : w5.heap[w.heap.size + 1]? = some (.cells #[.slice none 0 0, .slice none 0 0] 42) := (hB5.block _ (lt_of_block K2.out)).trans K2.out
  have H2 : Hid ((w5.setCell ⟨w.heap.size + 1 + 1, 1, none⟩ (.slice (some ⟨g', 0, none⟩) m m)).heap[w.heap.size + 1]? = some (.cells #[.slice none 0 0, .slice none 0 0] 42)) := by
    show _ = _
    rw [Below.heap_setCell _ _ _ _ (by simp)]
    exact k2
  have I15 : Hid (IsNds w5 (some ⟨g, 0, none⟩) n n (fun i => (D i).at (G i))) := I1.out.below hB5
  have I5 : Hid (IsNds w5 (some ⟨g', 0, none⟩) m m (fun i => (E i).at (G' i))) := i5
  have HN5 : Hid (_) := hn5
  obtain ⟨q, hq⟩ : ∃ q, q = #[Value.slice (some ⟨g, 0, none⟩) n n, .slice (some ⟨g', 0, none⟩) m m] := ⟨_, rfl⟩
  have hi6 : (Tryz.prog.info? 42).map (·.size) = some q.size := by rw [hq]; exact infoP
  have ho6 : (#[Value.slice none 0 0, .slice none 0 0] : Array Value).size = q.size := by rw [hq]; rfl
  have h16 : q.all (·.oneCell') = true := by rw [hq]; simp [Value.oneCell']
  have HQ : Hid (q = #[Value.slice (some ⟨g, 0, none⟩) n n, .slice (some ⟨g', 0, none⟩) m m]) := hq
  clear i5 hB5 n5 hn5 k2 hs3 hs4 xf c0 cf0 d1
  go_wp2_with (refine wpList_store_row rfl 42 _ _ rfl (w.heap.size + 1) q rfl (congrArg Value.agg hq.symm) 42 _ H2.out hi6 ho6 h16 ?_)
  have hs3 := HS3.out
  have hs4 := HS4.out
  have hc9 : ∀ b o, b ≠ w.heap.size + 1 + 1 → b ≠ w.heap.size + 1 → ((w5.setCell ⟨w.heap.size + 1 + 1, 1, none⟩ (.slice (some ⟨g', 0, none⟩) m m)).setRow (w.heap.size + 1) q).cell? ⟨b, o, none⟩ = w5.cell? ⟨b, o, none⟩ := fun b o h1 h2 => by
    rw [cell_setRow_other _ _ _ _ (by exact h2), World.cell?_setCell_other _ _ _ _ (by simp <;> omega)]
  have hsz : w5.heap.size ≤ ((w5.setCell ⟨w.heap.size + 1 + 1, 1, none⟩ (.slice (some ⟨g', 0, none⟩) m m)).setRow (w.heap.size + 1) q).heap.size := by simp [World.setRow, World.setCell]
  have hc8 : ∀ b o, b ≠ w.heap.size + 1 + 1 → (w5.setCell ⟨w.heap.size + 1 + 1, 1, none⟩ (.slice (some ⟨g', 0, none⟩) m m)).cell? ⟨b, o, none⟩ = w5.cell? ⟨b, o, none⟩ := fun b o h1 => World.cell?_setCell_other _ _ _ _ (by simp <;> omega)
  have hc7 : ∀ b o, b ≠ w.heap.size + 1 → ((w5.setCell ⟨w.heap.size + 1 + 1, 1, none⟩ (.slice (some ⟨g', 0, none⟩) m m)).setRow (w.heap.size + 1) q).cell? ⟨b, o, none⟩ = (w5.setCell ⟨w.heap.size + 1 + 1, 1, none⟩ (.slice (some ⟨g', 0, none⟩) m m)).cell? ⟨b, o, none⟩ := fun b o h1 => cell_setRow_other _ _ _ _ (by exact h1)
  have hsA : w5.heap.size ≤ (w5.setCell ⟨w.heap.size + 1 + 1, 1, none⟩ (.slice (some ⟨g', 0, none⟩) m m)).heap.size := by simp [World.setCell]
  have hsB : (w5.setCell ⟨w.heap.size + 1 + 1, 1, none⟩ (.slice (some ⟨g', 0, none⟩) m m)).heap.size ≤ ((w5.setCell ⟨w.heap.size + 1 + 1, 1, none⟩ (.slice (some ⟨g', 0, none⟩) m m)).setRow (w.heap.size + 1) q).heap.size := by simp [World.setRow]
  obtain ⟨p1, p2⟩ := hgG.out
  obtain ⟨p3, p4⟩ := HN5.out
  refine bodyPost_ret (v := .agg q) (results_cell_row rfl _ _ (w.heap.size + 1) 42 _ _ _ rfl (setRow_heap _ _ _ _ _ _ H2.out) Tryz.underlying42 rfl hi6) rfl ⟨g, G, g', G', ret_val (by rw [HQ.out]), ?_, ?_, ?_⟩
  · exact (I15.out.other hsA hc8 (by omega) (fun i hi => by have := p2 i hi; omega)).other hsB hc7 (by omega) (fun i hi => by have := p2 i hi; omega)
  · exact (I5.out.other hsA hc8 (by omega) (fun i hi => by have := p4 i hi; omega)).other hsB hc7 (by omega) (fun i hi => by have := p4 i hi; omega)
  · exact below_setRow (HB5.out.setCell (p := ⟨w.heap.size + 1 + 1, 1, none⟩) (by show w.heap.size ≤ w.heap.size + 1 + 1; omega) _) (by omega) _

set_option maxHeartbeats 1000000 in
theorem eqPeer_like (a a' : Option Addr) (n cap cap' : Nat) (D D' : Nat → Nd) (b b' : Option Addr) (m mcap mcap' : Nat) (E E' : Nat → Nd) (w : World) (h : IsNds w a n cap D) (k : IsNds w a' n cap' D') (h' : IsNds w b m mcap E) (k' : IsNds w b' m mcap' E') (hL : ∀ i, i < n → (D i).Like (D' i)) (hL' : ∀ i, i < m → (E i).Like (E' i)) :
    Calls Tryz.prog 33 #[.agg #[.slice a n cap, .slice b m mcap], .agg #[.slice a' n cap', .slice b' m mcap']] w fun e w' => e = .returned (.bool true) ∧ Below w.heap.size w w' := by
  obtain ⟨W, hW⟩ : ∃ W, W = (w.alloc (.cells #[.slice a n cap, .slice b m mcap] 42)).alloc (.cells #[.slice a' n cap', .slice b' m mcap'] 42) := ⟨_, rfl⟩
  have hB : Below w.heap.size w W := by rw [hW]; exact ((Below.refl _ _).alloc (Nat.le_refl _) _).alloc (by simp) _
  have g1 : W.heap[w.heap.size]? = some (.cells #[.slice a n cap, .slice b m mcap] 42) := by
    rw [hW, Below.heap_alloc _ _ _ (by simp)]
    exact heap_alloc_new w _
  have g2 : W.heap[w.heap.size + 1]? = some (.cells #[.slice a' n cap', .slice b' m mcap'] 42) := by
    rw [hW]
    have := heap_alloc_new (w.alloc (.cells #[.slice a n cap, .slice b m mcap] 42)) (.cells #[.slice a' n cap', .slice b' m mcap'] 42)
    simpa using this
  have HW : Hid (W = _) := hW
  have H1 := h.below hB
  have H2 := k.below hB
  have H3 := h'.below hB
  have H4 := k'.below hB
  have HB : Hid (Below w.heap.size w W) := hB
  have G1 : Hid (_) := g1
  have G2 : Hid (_) := g2
  clear hW h k h' k' hB g1 g2
  go_enter Tryz.func33, Tryz.ntmps33
  go_wp2_with fail
  rw [← HW.out]
  refine (eqNodeS_like _ _ n cap cap' _ _ _ H1 H2 hL).mono ?_
  rintro e w1 ⟨rfl, hB1⟩
  have k1 := (hB1.block _ (lt_of_block G1.out)).trans G1.out
  have k2 := (hB1.block _ (lt_of_block G2.out)).trans G2.out
  have d1 : w1.cell? ⟨w.heap.size, 1, none⟩ = some (.slice b m mcap) := cellN k1
  have d2 : w1.cell? ⟨w.heap.size + 1, 1, none⟩ = some (.slice b' m mcap') := cellN k2
  have HB1 : Hid (Below w.heap.size w w1) := HB.out.trans (hB1.mono HB.out.size)
  have J3 := H3.below hB1
  have J4 := H4.below hB1
  clear k1 k2 hB1 H1 H2 H3 H4
  go_wp2_with fail
  refine (eqNodeS_like _ _ m mcap mcap' _ _ _ J3 J4 hL').mono ?_
  rintro e w2 ⟨rfl, hB2⟩
  go_wp2
  go_ret
  exact ⟨rfl, HB1.out.trans (hB2.mono HB1.out.size)⟩
end Go.Proofs.YtjhbccppihledaaGreatDoor
