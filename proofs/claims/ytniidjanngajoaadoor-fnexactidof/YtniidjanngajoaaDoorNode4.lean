/-
  The law of NodeOk returns true. No condition but that the ups read.
-/
import Derived.Test.YtniidjanngajoaaDoorNode3
import Derived.Deep.RegionHeld3
namespace Go.Proofs.YtniidjanngajoaaDoor
open Go.RowKit
set_option linter.unusedVariables false

/-- a node lies at block b -/
structure NodeAt (w : World) (b : Nat) (a s k : Int) (key text : ByteArray) (v : Value) : Prop where
  c0 : w.cell? ⟨b, 0, none⟩ = some (.int .i64 a)
  c1 : w.cell? ⟨b, 1, none⟩ = some (.int .i64 s)
  c2 : w.cell? ⟨b, 2, none⟩ = some (.int .i64 k)
  c3 : w.cell? ⟨b, 3, none⟩ = some (.string key)
  c4 : w.cell? ⟨b, 4, none⟩ = some (.string text)
  c5 : w.cell? ⟨b, 5, none⟩ = some v

theorem NodeAt.new (w : World) (a s k : Int) (key text : ByteArray) (v : Value) (t : TypeId) : NodeAt (w.alloc (.cells #[.int .i64 a, .int .i64 s, .int .i64 k, .string key, .string text, v] t)) w.heap.size a s k key text v :=
  ⟨cellN (heap_alloc_new w _), cellN (heap_alloc_new w _), cellN (heap_alloc_new w _), cellN (heap_alloc_new w _), cellN (heap_alloc_new w _), cellN (heap_alloc_new w _)⟩
theorem NodeAt.below {w w' : World} {b : Nat} {a s k : Int} {key text : ByteArray} {v : Value} (h : NodeAt w b a s k key text v) (hB : Below w.heap.size w w') : NodeAt w' b a s k key text v :=
  ⟨(hB.cell (p := ⟨b, 0, none⟩) (cell_lt h.c0)).trans h.c0, (hB.cell (p := ⟨b, 1, none⟩) (cell_lt h.c0)).trans h.c1, (hB.cell (p := ⟨b, 2, none⟩) (cell_lt h.c0)).trans h.c2, (hB.cell (p := ⟨b, 3, none⟩) (cell_lt h.c0)).trans h.c3, (hB.cell (p := ⟨b, 4, none⟩) (cell_lt h.c0)).trans h.c4, (hB.cell (p := ⟨b, 5, none⟩) (cell_lt h.c0)).trans h.c5⟩

set_option maxHeartbeats 2000000 in
theorem law5_walk (a s k : Int) (key text : ByteArray) (u : Option Addr) (len cap : Nat) (S : Nat → ByteArray) (w : World) (h : IsStrs w u len cap S) (hS : ∀ i, i < len → (S i).size ≤ 9223372036854775807) (hkey : key.size ≤ 9223372036854775807) (htext : text.size ≤ 9223372036854775807) :
    Calls Tryd.prog 5 #[.agg #[.int .i64 a, .int .i64 s, .int .i64 k, .string key, .string text, .slice u len cap]] w fun e w' => e = .returned (.bool true) ∧ Below w.heap.size w w' := by
  obtain ⟨wa, hwa⟩ : ∃ wa, wa = w.alloc (.cells #[.int .i64 a, .int .i64 s, .int .i64 k, .string key, .string text, .slice u len cap] 26) := ⟨_, rfl⟩
  have na : NodeAt wa w.heap.size a s k key text (.slice u len cap) := by rw [hwa]; exact NodeAt.new _ _ _ _ _ _ _ _
  have hBa : Below w.heap.size w wa := by rw [hwa]; exact (Below.refl _ _).alloc (Nat.le_refl _) _
  have ha := h.below hBa
  have HA : Hid (NodeAt wa w.heap.size a s k key text (.slice u len cap)) := na
  clear na h
  go_enter Tryd.func5, Tryd.ntmps5
  go_wp2_with fail
  rw [← hwa]
  clear hwa
  refine (szNode_any a s k key text u len cap S _ ha hS hkey htext).mono ?_
  rintro e w1 ⟨r, rfl, hr, hB1⟩
  have b1 := hBa.trans (hB1.mono hBa.size)
  rcases hr with hr | ⟨hr, hk1, ht1, hl, hz⟩
  · go_wp2
    go_ret
    exact ⟨rfl, b1⟩
  have H1 := ha.below hB1
  have n1 := HA.out.below hB1
  obtain ⟨c0, c1, c2, c3, c4, c5⟩ := n1
  have HN1 : Hid (NodeAt w1 w.heap.size a s k key text (.slice u len cap)) := HA.out.below hB1
  have HZ : Hid (∀ i, i < len → (S i).size ≤ 9223372036854775807) := hS
  have HKT : Hid (key.size ≤ 9223372036854775807 ∧ text.size ≤ 9223372036854775807) := ⟨hkey, htext⟩
  clear hS hz hkey htext hB1 ha
  go_wp2_with fail
  refine (toNode_any a s k key text u len cap S _ H1 hl).mono ?_
  rintro e w2 ⟨g2, rfl, i2, hB2⟩
  have HN2 : Hid (NodeAt w2 w.heap.size a s k key text (.slice u len cap)) := HN1.out.below hB2
  have H2 := H1.below hB2
  have b2 := b1.trans (hB2.mono b1.size)
  clear c0 c1 c2 c3 c4 c5
  go_wp2_with fail
  refine (specNodeOk_any a s k key text _ len len S _ i2 HZ.out HKT.out.1 HKT.out.2).mono ?_
  rintro e w3 ⟨rfl, hB3⟩
  have HN3 : Hid (NodeAt w3 w.heap.size a s k key text (.slice u len cap)) := HN2.out.below hB3
  have H3 := H2.below hB3
  have b3 := b2.trans (hB3.mono b2.size)
  obtain ⟨c0, c1, c2, c3, c4, c5⟩ := HN3.out
  go_wp2_with fail
  refine (toNode_any a s k key text u len cap S _ H3 hl).mono ?_
  rintro e w4 ⟨g4, rfl, i4, hB4⟩
  have HN4 : Hid (NodeAt w4 w.heap.size a s k key text (.slice u len cap)) := HN3.out.below hB4
  have H4 := H3.below hB4
  have b4 := b3.trans (hB4.mono b3.size)
  clear c0 c1 c2 c3 c4 c5
  go_wp2_with fail
  obtain ⟨wb, hwb⟩ : ∃ wb, wb = w4.alloc (.cells #[.int .i64 a, .int .i64 s, .int .i64 k, .string key, .string text, .slice (some ⟨g4, 0, none⟩) len len] 29) := ⟨_, rfl⟩
  rw [← hwb]
  have hBb : Below w4.heap.size w4 wb := by rw [hwb]; exact (Below.refl _ _).alloc (Nat.le_refl _) _
  have HNb : Hid (NodeAt wb w4.heap.size a s k key text (.slice (some ⟨g4, 0, none⟩) len len)) := by rw [hwb]; exact NodeAt.new _ _ _ _ _ _ _ _
  clear hwb
  refine (implNodeOk_any a s k key text _ len len S _ (i4.below hBb) HZ.out HKT.out.1 HKT.out.2).mono ?_
  rintro e w5 ⟨rfl, hB5⟩
  have hB45 : Below w4.heap.size w4 w5 := hBb.trans (hB5.mono hBb.size)
  have HNx : Hid (NodeAt w5 w4.heap.size a s k key text (.slice (some ⟨g4, 0, none⟩) len len)) := HNb.out.below hB5
  have HNy : Hid (NodeAt w5 w.heap.size a s k key text (.slice u len cap)) := HN4.out.below hB45
  have HI5 : Hid (IsStrs w5 (some ⟨g4, 0, none⟩) len len S) := i4.below hB45
  have HU5 : Hid (IsStrs w5 u len cap S) := H4.below hB45
  have b5 := b4.trans (hB45.mono b4.size)
  have HB5 : Hid (Below w.heap.size w w5) := b5
  generalize nodeB a s k key text S len = x
  have hx : (x != x) = false := by simp
  generalize w4.heap.size = B4 at *
  clear hB45 hB5 hBb b1 b2 b3 b4 b5 hB2 hB3 hB4 H1 H2 H3 H4 i2 i4 hBa
  have HK : Hid (∀ w', Below w5.heap.size w5 w' → (w'.cell? ⟨B4, 0, none⟩ = some (.int .i64 a) ∧ w'.cell? ⟨B4, 1, none⟩ = some (.int .i64 s) ∧ w'.cell? ⟨B4, 2, none⟩ = some (.int .i64 k) ∧ w'.cell? ⟨B4, 3, none⟩ = some (.string key) ∧ w'.cell? ⟨B4, 4, none⟩ = some (.string text) ∧ w'.cell? ⟨B4, 5, none⟩ = some (.slice (some ⟨g4, 0, none⟩) len len) ∧ w'.cell? ⟨w.heap.size, 0, none⟩ = some (.int .i64 a) ∧ w'.cell? ⟨w.heap.size, 1, none⟩ = some (.int .i64 s) ∧ w'.cell? ⟨w.heap.size, 2, none⟩ = some (.int .i64 k) ∧ w'.cell? ⟨w.heap.size, 3, none⟩ = some (.string key) ∧ w'.cell? ⟨w.heap.size, 4, none⟩ = some (.string text) ∧ w'.cell? ⟨w.heap.size, 5, none⟩ = some (.slice u len cap))) := fun w' hB => by
    have n1 := HNx.out.below hB
    have n2 := HNy.out.below hB
    exact ⟨n1.c0, n1.c1, n1.c2, n1.c3, n1.c4, n1.c5, n2.c0, n2.c1, n2.c2, n2.c3, n2.c4, n2.c5⟩
  go_wp2
  go_region_held3 (fun w' => w'.cell? ⟨B4, 0, none⟩ = some (.int .i64 a) ∧ w'.cell? ⟨B4, 1, none⟩ = some (.int .i64 s) ∧ w'.cell? ⟨B4, 2, none⟩ = some (.int .i64 k) ∧ w'.cell? ⟨B4, 3, none⟩ = some (.string key) ∧ w'.cell? ⟨B4, 4, none⟩ = some (.string text) ∧ w'.cell? ⟨B4, 5, none⟩ = some (.slice (some ⟨g4, 0, none⟩) len len) ∧ w'.cell? ⟨w.heap.size, 0, none⟩ = some (.int .i64 a) ∧ w'.cell? ⟨w.heap.size, 1, none⟩ = some (.int .i64 s) ∧ w'.cell? ⟨w.heap.size, 2, none⟩ = some (.int .i64 k) ∧ w'.cell? ⟨w.heap.size, 3, none⟩ = some (.string key) ∧ w'.cell? ⟨w.heap.size, 4, none⟩ = some (.string text) ∧ w'.cell? ⟨w.heap.size, 5, none⟩ = some (.slice u len cap)) (first | exact HK.out _ hBd | exact HK.out _ hBc | exact HK.out _ (Below.refl _ _).drew) ((first
    | (go_at_call 15; refine (toNode_any a s k key text u len cap S _ (HU5.out.below (Below.refl _ _).drew) hl).mono ?_; rintro e w6 ⟨g6, rfl, i6, hB6⟩; have hBc : Below w5.heap.size w5 w6 := ((Below.refl _ _).drew).trans hB6)
    | (go_at_call 17; refine (eqNode_same a s k key text _ _ len len len S _ (HI5.out.below hBc) i6).mono ?_; rintro e w7 ⟨rfl, hB7⟩; have hBd : Below w5.heap.size w5 w7 := hBc.trans (hB7.mono hBc.size))))
  all_goals
    go_wp2
    go_ret
    exact ⟨rfl, HB5.out.trans (hBd.mono HB5.out.size)⟩
end Go.Proofs.YtniidjanngajoaaDoor
