/-
  FnExactReadNode, whole: at every text it returns true and no old block turns. Condition: bytealg's variable lies in block 0.
-/
import Derived.Test.YtcaomoadkbdmgaaDoorRC
namespace Go.Proofs.YtcaomoadkbdmgaaDoor
open Go.RowKit
set_option linter.unusedVariables false

theorem strs_ups {w : World} {base : Nat} {p : PN} {a : Option Addr} {cap : Nat} (h : w.ownsRow base 9 1 (.slice a p.ups.length cap) p.ups.length (p.ups.map Value.string)) : IsStrs w a p.ups.length cap p.S ∧ ∀ b off, a = some ⟨b, off, none⟩ → base ≤ b ∧ b < w.heap.size := by
  obtain ⟨a', cap', e, hI⟩ := strs_of_own' (S := p.S) h (fun i hi => by rw [S_at p i hi, List.getElem?_map, List.getElem?_eq_getElem hi]; rfl)
  simp only [Value.slice.injEq, true_and] at e
  obtain ⟨rfl, rfl⟩ := e
  refine ⟨hI, fun b off e => ?_⟩
  subst e
  exact h.lt b rfl

theorem NodeAt.kept {pr : Nat → Prop} {w w' : World} {b : Nat} {a s k : Int} {key text : ByteArray} {v : Value} (h : NodeAt w b a s k key text v) (hK : Kept pr w w') (hp : pr b) : NodeAt w' b a s k key text v := by
  have e : w'.heap[b]? = w.heap[b]? := hK.block b (cell_lt h.c0) hp
  exact ⟨(World.cell?_of_block e).trans h.c0, (World.cell?_of_block e).trans h.c1, (World.cell?_of_block e).trans h.c2, (World.cell?_of_block e).trans h.c3, (World.cell?_of_block e).trans h.c4, (World.cell?_of_block e).trans h.c5⟩

set_option maxRecDepth 20000 in
set_option maxHeartbeats 2000000 in
theorem law3_walk (s : ByteArray) (m : Int) (w : World) (hm : w.cell? ⟨0, 0, none⟩ = some (.int .i64 m)) :
    Calls Tryd.prog 3 #[.string s] w fun e w' => e = .returned (.bool true) ∧ Below w.heap.size w w' := by
  by_cases hs : s.size ≤ 1048576
  · have hlen : decide ((1048576 : Int) < (s.size : Int)) = false := by simp; omega
    have h0 := cell_lt hm
    have HM : Hid (∀ w' : World, Below w.heap.size w w' → w'.cell? ⟨0, 0, none⟩ = some (.int .i64 m)) := fun w' hB => (hB.cell (p := ⟨0, 0, none⟩) h0).trans hm
    clear hm
    go_enter Tryd.func3, Tryd.ntmps3
    go_wp2_with fail
    refine (specRead s _ hs).mono ?_
    rintro e w1 ⟨p, b, a1, c1, rfl, r1, o1, hB1⟩
    obtain ⟨i1, q1⟩ := strs_ups o1
    unfold nodeQ
    have hl := r1.len
    have hbb : (b != b) = false := by simp
    have hbb2 : (b == b) = true := by simp
    clear o1
    go_wp2_with fail
    obtain ⟨x1, hx1⟩ : ∃ x1, x1 = w1.alloc (.cells #[.int .i64 p.a, .int .i64 p.s, .int .i64 p.k, .string p.key, .string p.text, .slice a1 p.ups.length c1] 24) := ⟨_, rfl⟩
    rw [← hx1]
    have n1 : NodeAt x1 w1.heap.size p.a p.s p.k p.key p.text (.slice a1 p.ups.length c1) := by rw [hx1]; exact NodeAt.new _ _ _ _ _ _ _ _
    have hA1 : Below w1.heap.size w1 x1 := by rw [hx1]; exact (Below.refl _ _).alloc (Nat.le_refl _) _
    have z1 : x1.heap.size = w1.heap.size + 1 := by rw [hx1]; simp
    have b1 : Below w.heap.size w x1 := hB1.trans (hA1.mono hB1.size)
    have k1 := i1.below hA1
    clear hx1 i1
    refine (implRead s m _ hs (HM.out _ b1)).mono ?_
    rintro e w2 ⟨p2, b2, a2, c2, rfl, r2, o2, hB2⟩
    obtain ⟨rfl, rfl⟩ := r1.unique r2
    unfold nodeQ
    have q2 := fun k hk => o2.lt k hk
    have b2' : Below w.heap.size w w2 := b1.trans (hB2.mono b1.size)
    obtain ⟨i2, _⟩ := strs_ups o2
    have hA2 : ∀ o, Below w2.heap.size w2 (w2.alloc o) := fun o => (Below.refl _ _).alloc (Nat.le_refl _) o
    have N1 := fun o => (n1.below hB2).below (hA2 o)
    have f0 := fun o => (N1 o).c0
    have f1 := fun o => (N1 o).c1
    have f2 := fun o => (N1 o).c2
    have f3 := fun o => (N1 o).c3
    have f4 := fun o => (N1 o).c4
    have f5 := fun o => (N1 o).c5
    go_wp2_with fail
    obtain ⟨x2, hx2⟩ : ∃ x2, x2 = w2.alloc (.cells #[.int .i64 p2.a, .int .i64 p2.s, .int .i64 p2.k, .string p2.key, .string p2.text, .slice a2 p2.ups.length c2] 24) := ⟨_, rfl⟩
    rw [← hx2]
    have m1 : NodeAt x2 w1.heap.size p2.a p2.s p2.k p2.key p2.text (.slice a1 p2.ups.length c1) := by rw [hx2]; exact N1 _
    have n2 : NodeAt x2 w2.heap.size p2.a p2.s p2.k p2.key p2.text (.slice a2 p2.ups.length c2) := by rw [hx2]; exact NodeAt.new _ _ _ _ _ _ _ _
    have hX2 : Below w2.heap.size w2 x2 := by rw [hx2]; exact hA2 _
    clear f0 f1 f2 f3 f4 f5 N1 hA2 hx2 r2
    have b3 := b2'.trans (hX2.mono b2'.size)
    have k2 := (k1.below hB2).below hX2
    refine (eqNode_same _ _ _ _ _ _ _ _ _ _ _ _ (i2.below hX2) k2).mono ?_
    rintro e w3 ⟨rfl, hB3⟩
    have b3' := b3.trans (hB3.mono b3.size)
    have k3 := k2.below hB3
    have o3 := ownsRow_below (ownsRow_below o2 hX2) hB3
    have m3 := m1.below hB3
    have n3 := n2.below hB3
    have s3 : w2.heap.size < w3.heap.size := cell_lt n3.c0
    clear o2 i2 k1 k2 b2' b3 n1 m1 n2 hX2 hB3
    have d0 := n3.c0
    have d1 := n3.c1
    have d2 := n3.c2
    have d3 := n3.c3
    have d4 := n3.c4
    have d5 := n3.c5
    go_wp2_with fail
    refine (markNode_any _ _ _ _ _ a2 _ c2 _ _ _ o3 (by omega)).mono ?_
    rintro e w4 ⟨rfl, o4, K4⟩
    have b4 : Below w.heap.size w w4 := b3'.trans ((K4.mono (q := fun k => k < w.heap.size) (fun k hk e => by have := (q2 k e).1; have := b1.size; omega)).below b3'.size)
    have k4 := k3.kept K4 (fun b off e e' => by have := (q1 b off e).2; have := (q2 b e').1; omega)
    have m4 := m3.kept K4 (fun e' => by have := (q2 _ e').1; omega)
    have n4 := n3.kept K4 (fun e' => by have := (q2 _ e').2; omega)
    have i4 : IsStrs w4 a2 p2.ups.length c2 (fun i => mt (1 + i)) := by
      obtain ⟨a', cap', e', hI⟩ := strs_of_own' (S := fun i => mt (1 + i)) o4 (fun i hi => marks_at hi)
      simp only [Value.slice.injEq, true_and] at e'
      obtain ⟨rfl, rfl⟩ := e'
      exact hI
    clear o3 o4 K4 k3 m3 n3 q1 q2 hB2 b3' d0 d1 d2 d3 d4 d5 s3
    have hq1 : decide (((1 + p2.ups.length : Nat) : Int) < 0) = false := by simp; omega
    have hq2 : ((((1 + p2.ups.length : Nat) : Int)) != ((1 + p2.ups.length : Nat) : Int)) = false := by simp
    have d0 := n4.c0
    have d1 := n4.c1
    have d2 := n4.c2
    have d3 := n4.c3
    have d4 := n4.c4
    have d5 := n4.c5
    go_wp2_with fail
    refine (heldNode_any _ _ _ _ _ a2 _ c2 _ i4 (by omega)).mono ?_
    rintro e w5 ⟨rfl, hB5⟩
    have b5 := b4.trans (hB5.mono b4.size)
    have k5 := k4.below hB5
    have m5 := m4.below hB5
    have n5 := n4.below hB5
    have i5 := i4.below hB5
    clear d0 d1 d2 d3 d4 d5 k4 m4 n4 i4 b4 hB5
    go_wp2_with fail
    refine (implRead s m _ hs (HM.out _ b5)).mono ?_
    rintro e w6 ⟨p6, b6, a6, c6, rfl, r6, o6, hB6⟩
    obtain ⟨rfl, rfl⟩ := r1.unique r6
    obtain ⟨i6, _⟩ := strs_ups o6
    unfold nodeQ
    have b6' : Below w.heap.size w w6 := b5.trans (hB6.mono b5.size)
    have hA6 : ∀ o, Below w6.heap.size w6 (w6.alloc o) := fun o => (Below.refl _ _).alloc (Nat.le_refl _) o
    have M6 := fun o => (m5.below hB6).below (hA6 o)
    have N6 := fun o => (n5.below hB6).below (hA6 o)
    have f0 := fun o => (M6 o).c0
    have f1 := fun o => (M6 o).c1
    have f2 := fun o => (M6 o).c2
    have f3 := fun o => (M6 o).c3
    have f4 := fun o => (M6 o).c4
    have f5 := fun o => (M6 o).c5
    go_wp2_with fail
    obtain ⟨x6, hx6⟩ : ∃ x6, x6 = w6.alloc (.cells #[.int .i64 p6.a, .int .i64 p6.s, .int .i64 p6.k, .string p6.key, .string p6.text, .slice a6 p6.ups.length c6] 24) := ⟨_, rfl⟩
    rw [← hx6]
    have hX6 : Below w6.heap.size w6 x6 := by rw [hx6]; exact hA6 _
    have n6 := N6 (.cells #[.int .i64 p6.a, .int .i64 p6.s, .int .i64 p6.k, .string p6.key, .string p6.text, .slice a6 p6.ups.length c6] 24)
    rw [← hx6] at n6
    clear f0 f1 f2 f3 f4 f5 M6 N6 hA6 hx6 r6
    have b7 := b6'.trans (hX6.mono b6'.size)
    refine (eqNode_same _ _ _ _ _ _ _ _ _ _ _ _ (i6.below hX6) ((k5.below hB6).below hX6)).mono ?_
    rintro e w7 ⟨rfl, hB7⟩
    have b7' := b7.trans (hB7.mono b7.size)
    have i7 := ((i5.below hB6).below hX6).below hB7
    have n7 := n6.below hB7
    have d0 := n7.c0
    have d1 := n7.c1
    have d2 := n7.c2
    have d3 := n7.c3
    have d4 := n7.c4
    have d5 := n7.c5
    go_wp2_with fail
    refine (heldNode_any _ _ _ _ _ a2 _ c2 _ i7 (by omega)).mono ?_
    rintro e w8 ⟨rfl, hB8⟩
    go_wp2
    go_ret
    exact ⟨rfl, b7'.trans (hB8.mono b7'.size)⟩
  · have hlen : decide ((1048576 : Int) < (s.size : Int)) = true := by simp; omega
    go_enter Tryd.func3, Tryd.ntmps3
    go_wp2
    go_ret
    exact ⟨rfl, Below.refl _ _⟩
end Go.Proofs.YtcaomoadkbdmgaaDoor
