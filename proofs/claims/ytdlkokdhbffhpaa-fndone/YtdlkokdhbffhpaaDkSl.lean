/-
  FnExactSync: the walk of the law. No condition but that the slices that came in read.
-/
import Derived.Test.YtdlkokdhbffhpaaDkSy
namespace Go.Proofs.Ytdlkokdhbffhpaa
open Go.RowKit
set_option linter.unusedVariables false

/-- a struct of three slices lies in block b -/
def At3 (w : World) (b : Nat) (t : TypeId) (x y z : Value) : Prop := w.heap[b]? = some (.cells #[x, y, z] t (0, 0))
theorem At3.below {w w' : World} {b : Nat} {t : TypeId} {x y z : Value} (h : At3 w b t x y z) (hB : Below w.heap.size w w') : At3 w' b t x y z := (hB.block _ (lt_of_block h)).trans h
theorem At3.lt {w : World} {b : Nat} {t : TypeId} {x y z : Value} (h : At3 w b t x y z) : b < w.heap.size := lt_of_block h
theorem At3.c0 {w : World} {b : Nat} {t : TypeId} {x y z : Value} (h : At3 w b t x y z) : w.cell? ⟨b, 0, none⟩ = some x := cellN h
theorem At3.c1 {w : World} {b : Nat} {t : TypeId} {x y z : Value} (h : At3 w b t x y z) : w.cell? ⟨b, 1, none⟩ = some y := cellN h
theorem At3.c2 {w : World} {b : Nat} {t : TypeId} {x y z : Value} (h : At3 w b t x y z) : w.cell? ⟨b, 2, none⟩ = some z := cellN h
theorem At3.new (w : World) (t : TypeId) (x y z : Value) : At3 (w.alloc (.cells #[x, y, z] t)) w.heap.size t x y z := heap_alloc_new _ _
theorem RdD.slices {w : World} {x y z : Value} {L S : List Fl} {O : List Dop} (h : RdD w x y z L S O) : ∃ a1 c1 a2 c2 a3 c3, x = .slice a1 L.length c1 ∧ y = .slice a2 S.length c2 ∧ z = .slice a3 O.length c3 := by
  obtain ⟨a1, c1, e1⟩ := h.1.slice
  obtain ⟨a2, c2, e2⟩ := h.2.1.slice
  obtain ⟨a3, c3, e3⟩ := h.2.2.slice
  exact ⟨a1, c1, a2, c2, a3, c3, e1, e2, e3⟩

theorem OwD.kept {w w' : World} {base : Nat} {vL vS vO : Value} {nL nS nO : Nat} (h : OwD w base vL vS vO nL nS nO) (he : ∀ k, base ≤ k → k < w.heap.size → w'.heap[k]? = w.heap[k]?) : OwD w' base vL vS vO nL nS nO :=
  ⟨h.l.blk (fun k hk => he k (h.l.lt k hk).1 (h.l.lt k hk).2), h.s.blk (fun k hk => he k (h.s.lt k hk).1 (h.s.lt k hk).2), h.o.blk (fun k hk => he k (h.o.lt k hk).1 (h.o.lt k hk).2), h.ap⟩
theorem q_load31 (ev : Operand → Value) (o : Oper) (w : World) (x : Operand) (p : Nat) {a b c : Option Addr} {i j k l m n : Nat} (h : o.op = .load 30 x) (hx : ev x = .pointer (some ⟨p, 0, none⟩)) (h0 : w.cell? ⟨p, 0, none⟩ = some (.slice a i j)) (h1 : w.cell? ⟨p, 1, none⟩ = some (.slice b k l)) (h2 : w.cell? ⟨p, 2, none⟩ = some (.slice c m n)) : (execOp ev o).run Try.prog w = .ok (.value (.agg #[.slice a i j, .slice b k l, .slice c m n])) w := by
  simp [execOp, h, hx]
  go_simp
theorem q_load25 (ev : Operand → Value) (o : Oper) (w : World) (x : Operand) (p : Nat) {a b c : Option Addr} {i j k l m n : Nat} (h : o.op = .load 25 x) (hx : ev x = .pointer (some ⟨p, 0, none⟩)) (h0 : w.cell? ⟨p, 0, none⟩ = some (.slice a i j)) (h1 : w.cell? ⟨p, 1, none⟩ = some (.slice b k l)) (h2 : w.cell? ⟨p, 2, none⟩ = some (.slice c m n)) : (execOp ev o).run Try.prog w = .ok (.value (.agg #[.slice a i j, .slice b k l, .slice c m n])) w := by
  simp [execOp, h, hx]
  go_simp
theorem q_notI (ev : Operand → Value) (o : Oper) (w : World) (x : Operand) (b : Bool) (h : o.op = .unOp .not 4 x) (hx : ev x = .bool b) : (execOp ev o).run Try.prog w = .ok (.value (.bool (!b))) w := by
  simp [execOp, h, hx]
  go_simp
def dsQ : List Nat := [27, 28, 29, 30, 31]
def slotQ (j : Nat) : Nat := dsQ.getD j 0
theorem slotQ_inj (i j : Nat) (hi : i < 5) (hj : j < 5) (q : slotQ i = slotQ j) : i = j := by
  have h : ∀ i : Fin 5, ∀ j : Fin 5, slotQ i.val = slotQ j.val → i.val = j.val := by decide
  exact h ⟨i, hi⟩ ⟨j, hj⟩ q
theorem slotQ_mem (i : Nat) (hi : i < 5) : slotQ i ∈ dsQ := by
  have h : ∀ i : Fin 5, slotQ i.val ∈ dsQ := by decide
  exact h ⟨i, hi⟩
def QF (x y : Value) (L S : List Fl) (O : List Dop) : Nat → Value → World → Prop
  | 0, v, _ => v = x
  | 1, v, _ => v = y
  | 2, v, w => ∃ u1 u2 u3, v = .agg #[u1, u2, u3] ∧ RdF w u1 L ∧ RdF w u2 S ∧ RdO w u3 O
  | 3, v, _ => v = .bool true
  | 4, v, _ => v = .bool false
  | _, _, _ => True
theorem QF.below {x y : Value} {L S : List Fl} {O : List Dop} {j : Nat} {v : Value} {w w' : World} (h : QF x y L S O j v w) (hB : Below w.heap.size w w') : QF x y L S O j v w' := by
  match j, h with
  | 0, h => exact h
  | 1, h => exact h
  | 2, h =>
    obtain ⟨u1, u2, u3, e, h1, h2, h3⟩ := h
    exact ⟨u1, u2, u3, e, h1.below hB, h2.below hB, h3.below hB⟩
  | 3, h => exact h
  | 4, h => exact h
  | (m + 5), _ => trivial

set_option maxRecDepth 10000 in
set_option maxHeartbeats 8000000 in
theorem sync_walk (vL vS vO : Value) (L S : List Fl) (O : List Dop) (w : World) (hL : RdF w vL L) (hS : RdF w vS S) (hO : RdO w vO O) (hin : InD L S O) :
    Calls Try.prog 3 #[.agg #[vL, vS, vO]] w fun e w' => e = .returned (.bool true) ∧ Below w.heap.size w w' := by
  have HA : Hid (∀ w', Below w.heap.size w w' → RdF w' vL L ∧ RdF w' vS S ∧ RdO w' vO O) := fun w' hB => ⟨hL.below hB, hS.below hB, hO.below hB⟩
  obtain ⟨aL, cL, eL⟩ := hL.slice
  obtain ⟨nL, hnL⟩ : ∃ n, n = L.length := ⟨_, rfl⟩
  rw [← hnL] at eL
  obtain ⟨aS, cS, eS⟩ := hS.slice
  obtain ⟨nS, hnS⟩ : ∃ n, n = S.length := ⟨_, rfl⟩
  rw [← hnS] at eS
  obtain ⟨aO, cO, eO⟩ := hO.slice
  obtain ⟨nO, hnO⟩ : ∃ n, n = O.length := ⟨_, rfl⟩
  rw [← hnO] at eO
  subst eL eS eO
  have HE : Hid (nL = L.length ∧ nS = S.length ∧ nO = O.length) := ⟨hnL, hnS, hnO⟩
  have HI : Hid (InD L S O) := hin
  have en1 : ∀ args w, (callFunc 10 args).run Try.prog w = .ok (.enter 10 args) w := enters_of Try.func10 (by kernel_rfl) rfl
  have en2 : ∀ args w, (callFunc 12 args).run Try.prog w = .ok (.enter 12 args) w := enters_of Try.func12 (by kernel_rfl) rfl
  have HEN1 := (show Hid _ from en1)
  have HEN2 := (show Hid _ from en2)
  clear en1 en2
  obtain ⟨X, hX⟩ : ∃ X, X = w.alloc (.cells #[.slice aL nL cL, .slice aS nS cS, .slice aO nO cO] 25) := ⟨_, rfl⟩
  have HX := (show Hid _ from hX)
  have HBX : Hid (Below w.heap.size w X) := by rw [hX]; exact (Below.refl _ _).alloc (Nat.le_refl _) _
  have HAX : Hid (At3 X w.heap.size 25 (.slice aL nL cL) (.slice aS nS cS) (.slice aO nO cO)) := by rw [hX]; exact At3.new _ _ _ _ _
  have c0 := HAX.out.c0
  have c1 := HAX.out.c1
  have c2 := HAX.out.c2
  rw [hX] at c0 c1 c2
  clear hX hL hS hO hin hnL hnS hnO
  go_enter Try.func3, Try.ntmps3
  go_wp2_with fail
  rw [← HX.out]
  have hAX := HA.out X HBX.out
  refine (szDisk_any _ _ _ L S O X hAX.1 hAX.2.1 hAX.2.2 HI.out).mono ?_
  rintro e w1 ⟨r, rfl, hr, hB1⟩
  have HB1 : Hid (Below X.heap.size X w1) := hB1
  have HW1 : Hid (Below w.heap.size w w1) := HBX.out.trans (hB1.mono HBX.out.size)
  have HA1 : Hid (At3 w1 w.heap.size 25 (.slice aL nL cL) (.slice aS nS cS) (.slice aO nO cO)) := HAX.out.below hB1
  clear c0 c1 c2 HX hAX hB1
  rcases hr with hr | ⟨hr, hsm, hl1, hl2, hl3⟩
  · have c0 := HA1.out.c0
    have c1 := HA1.out.c1
    have c2 := HA1.out.c2
    go_wp2
    go_ret
    exact ⟨rfl, HW1.out⟩
  have HZ : Hid (SmallD L S O) := hsm
  have HN : Hid (L.length ≤ 1048576 ∧ S.length ≤ 1048576 ∧ O.length ≤ 1048576) := ⟨hl1, hl2, hl3⟩
  clear hsm hl1 hl2 hl3
  -- w0
  have c0 := HA1.out.c0
  have c1 := HA1.out.c1
  have c2 := HA1.out.c2
  go_wp2_with fail
  refine (toDisk_own _ _ _ L S O w1 (HA.out w1 HW1.out).1 (HA.out w1 HW1.out).2.1 (HA.out w1 HW1.out).2.2 HN.out.1 HN.out.2.1 HN.out.2.2).mono ?_
  rintro e w2 ⟨y1, y2, y3, rfl, hy1, hy2, hy3, _, hB2⟩
  have HW2 : Hid (Below w.heap.size w w2) := HW1.out.trans (hB2.mono HW1.out.size)
  have HA2 : Hid (At3 w2 w.heap.size 25 (.slice aL nL cL) (.slice aS nS cS) (.slice aO nO cO)) := HA1.out.below hB2
  clear c0 c1 c2
  go_wp2_with fail
  refine (specSync_any _ _ _ L S O w2 hy1 hy2 hy3 HZ.out HN.out.1).mono ?_
  rintro e w3 ⟨p1, p2, p3, rfl, hp3, hB3⟩
  have HW3 : Hid (Below w.heap.size w w3) := HW2.out.trans (hB3.mono HW2.out.size)
  have HA3 : Hid (At3 w3 w.heap.size 25 (.slice aL nL cL) (.slice aS nS cS) (.slice aO nO cO)) := HA2.out.below hB3
  clear hy1 hy2 hy3 hB2 hB3
  obtain ⟨ap1, cp1, ap2, cp2, ap3, cp3, e1, e2, e3⟩ := hp3.slices
  obtain ⟨R, hR⟩ : ∃ R, R = syL L S O := ⟨_, rfl⟩
  have HRl : Hid (R.length ≤ 1048576) := by show _ ≤ _; rw [hR]; unfold syL; split; exact HN.out.1; exact Nat.zero_le _
  rw [← hR] at hp3 e1 e2
  obtain ⟨nR, hnR⟩ : ∃ n, n = R.length := ⟨_, rfl⟩
  rw [← hnR] at e1 e2
  have HRR : Hid (R = syL L S O ∧ nR = R.length) := ⟨hR, hnR⟩
  subst e1 e2 e3
  obtain ⟨X4, hX4⟩ : ∃ X4, X4 = w3.alloc (.cells #[.slice ap1 nR cp1, .slice ap2 nR cp2, .slice ap3 0 cp3] 30) := ⟨_, rfl⟩
  have hB4 : Below w3.heap.size w3 X4 := by rw [hX4]; exact (Below.refl _ _).alloc (Nat.le_refl _) _
  have HX4 := (show Hid _ from hX4)
  have HP4 : Hid (RdD X4 (.slice ap1 nR cp1) (.slice ap2 nR cp2) (.slice ap3 0 cp3) R R []) := hp3.below hB4
  have HW4 : Hid (Below w.heap.size w X4) := HW3.out.trans (hB4.mono HW3.out.size)
  have HA4 : Hid (At3 X4 w.heap.size 25 (.slice aL nL cL) (.slice aS nS cS) (.slice aO nO cO)) := HA3.out.below hB4
  have HQ4 : Hid (At3 X4 w3.heap.size 30 (.slice ap1 nR cp1) (.slice ap2 nR cp2) (.slice ap3 0 cp3)) := by rw [hX4]; exact At3.new _ _ _ _ _
  have c0 := HA4.out.c0
  have c1 := HA4.out.c1
  have c2 := HA4.out.c2
  rw [hX4] at c0 c1 c2
  clear hX4 hB4 hp3 hR hnR
  go_wp2_with fail
  rw [← HX4.out]
  -- x0
  refine (toDisk_own _ _ _ L S O X4 (HA.out X4 HW4.out).1 (HA.out X4 HW4.out).2.1 (HA.out X4 HW4.out).2.2 HN.out.1 HN.out.2.1 HN.out.2.2).mono ?_
  rintro e w5 ⟨x1, x2, x3, rfl, hx1, hx2, hx3, ⟨ho1, ho2, ho3, hox⟩, hB5⟩
  rw [← HE.out.1] at hx1 ho1
  rw [← HE.out.2.1] at hx2 ho2
  rw [← HE.out.2.2] at hx3 ho3
  rw [← HE.out.1, ← HE.out.2.1, ← HE.out.2.2]
  have HW5 : Hid (Below w.heap.size w w5) := HW4.out.trans (hB5.mono HW4.out.size)
  have HQ5 : Hid (At3 w5 w3.heap.size 30 (.slice ap1 nR cp1) (.slice ap2 nR cp2) (.slice ap3 0 cp3)) := HQ4.out.below hB5
  have HA5 : Hid (At3 w5 w.heap.size 25 (.slice aL nL cL) (.slice aS nS cS) (.slice aO nO cO)) := HA4.out.below hB5
  have HP5 : Hid (RdD w5 (.slice ap1 nR cp1) (.slice ap2 nR cp2) (.slice ap3 0 cp3) R R []) := HP4.out.below hB5
  have HS45 : Hid (X4.heap.size ≤ w5.heap.size) := hB5.size
  have hox5 : OwD w5 X4.heap.size (.slice (some ⟨x1, 0, none⟩) nL nL) (.slice (some ⟨x2, 0, none⟩) nS nS) (.slice (some ⟨x3, 0, none⟩) nO nO) nL nS nO := ⟨ho1, ho2, ho3, fun b hb e => hox (Option.some.inj (hb.trans e.symm))⟩
  have hrx5 : RdD w5 (.slice (some ⟨x1, 0, none⟩) nL nL) (.slice (some ⟨x2, 0, none⟩) nS nS) (.slice (some ⟨x3, 0, none⟩) nO nO) L S O := ⟨hx1, hx2, hx3⟩
  obtain ⟨X6, hX6⟩ : ∃ X6, X6 = w5.alloc (.cells #[.slice (some ⟨x1, 0, none⟩) nL nL, .slice (some ⟨x2, 0, none⟩) nS nS, .slice (some ⟨x3, 0, none⟩) nO nO] 30) := ⟨_, rfl⟩
  have hB6 : Below w5.heap.size w5 X6 := by rw [hX6]; exact (Below.refl _ _).alloc (Nat.le_refl _) _
  have HX6 := (show Hid _ from hX6)
  have HW6 : Hid (Below w.heap.size w X6) := HW5.out.trans (hB6.mono HW5.out.size)
  have HQ6 : Hid (At3 X6 w3.heap.size 30 (.slice ap1 nR cp1) (.slice ap2 nR cp2) (.slice ap3 0 cp3)) := HQ5.out.below hB6
  have HA6 : Hid (At3 X6 w.heap.size 25 (.slice aL nL cL) (.slice aS nS cS) (.slice aO nO cO)) := HA5.out.below hB6
  have HP6 : Hid (RdD X6 (.slice ap1 nR cp1) (.slice ap2 nR cp2) (.slice ap3 0 cp3) R R []) := HP5.out.below hB6
  have HT6 : Hid (At3 X6 w5.heap.size 30 (.slice (some ⟨x1, 0, none⟩) nL nL) (.slice (some ⟨x2, 0, none⟩) nS nS) (.slice (some ⟨x3, 0, none⟩) nO nO)) := by rw [hX6]; exact At3.new _ _ _ _ _
  have HO6 : Hid (OwD X6 X4.heap.size (.slice (some ⟨x1, 0, none⟩) nL nL) (.slice (some ⟨x2, 0, none⟩) nS nS) (.slice (some ⟨x3, 0, none⟩) nO nO) nL nS nO) := hox5.below hB6
  have HY6 : Hid (RdD X6 (.slice (some ⟨x1, 0, none⟩) nL nL) (.slice (some ⟨x2, 0, none⟩) nS nS) (.slice (some ⟨x3, 0, none⟩) nO nO) L S O) := hrx5.below hB6
  have HB46 : Hid (Below X4.heap.size X4 X6) := hB5.trans (hB6.mono hB5.size)
  have HLX : Hid (∀ b, (Value.slice (some ⟨x1, 0, none⟩) nL nL).ownBlock = some b ∨ (Value.slice (some ⟨x2, 0, none⟩) nS nS).ownBlock = some b ∨ (Value.slice (some ⟨x3, 0, none⟩) nO nO).ownBlock = some b → X4.heap.size ≤ b ∧ b < w5.heap.size) := fun b hb => by
    rcases hb with hb | hb | hb
    · exact hox5.l.lt b hb
    · exact hox5.s.lt b hb
    · exact hox5.o.lt b hb
  clear c0 c1 c2
  have c0 := HT6.out.c0
  have c1 := HT6.out.c1
  have c2 := HT6.out.c2
  rw [hX6] at c0 c1 c2
  clear hX6 hB6 hx1 hx2 hx3 ho1 ho2 ho3 hox hox5 hrx5 hB5 HX4
  go_wp2_with fail
  rw [← HX6.out]
  -- g0
  refine (implSync_any _ _ _ L S O X6 HY6.out.1 HY6.out.2.1 HY6.out.2.2 HZ.out HN.out.1).mono ?_
  rintro e w7 ⟨p1, p2, p3, rfl, hg7, hog7, hB7⟩
  obtain ⟨ag1, cg1, ag2, cg2, ag3, cg3, e1, e2, e3⟩ := hg7.slices
  rw [← HRR.out.1] at hg7 hog7 e1 e2
  rw [← HRR.out.2] at hog7 e1 e2
  subst e1 e2 e3
  have HW7 : Hid (Below w.heap.size w w7) := HW6.out.trans (hB7.mono HW6.out.size)
  obtain ⟨X8, hX8⟩ : ∃ X8, X8 = w7.alloc (.cells #[.slice ag1 nR cg1, .slice ag2 nR cg2, .slice ag3 0 cg3] 30) := ⟨_, rfl⟩
  have hB8' : Below w7.heap.size w7 X8 := by rw [hX8]; exact (Below.refl _ _).alloc (Nat.le_refl _) _
  have hB8 : Below X6.heap.size X6 X8 := hB7.trans (hB8'.mono hB7.size)
  have HX8 := (show Hid _ from hX8)
  have HW8 : Hid (Below w.heap.size w X8) := HW7.out.trans (hB8'.mono HW7.out.size)
  have HQ8 : Hid (At3 X8 w3.heap.size 30 (.slice ap1 nR cp1) (.slice ap2 nR cp2) (.slice ap3 0 cp3)) := HQ6.out.below hB8
  have HA8 : Hid (At3 X8 w.heap.size 25 (.slice aL nL cL) (.slice aS nS cS) (.slice aO nO cO)) := HA6.out.below hB8
  have HP8 : Hid (RdD X8 (.slice ap1 nR cp1) (.slice ap2 nR cp2) (.slice ap3 0 cp3) R R []) := HP6.out.below hB8
  have HT8 : Hid (At3 X8 w5.heap.size 30 (.slice (some ⟨x1, 0, none⟩) nL nL) (.slice (some ⟨x2, 0, none⟩) nS nS) (.slice (some ⟨x3, 0, none⟩) nO nO)) := HT6.out.below hB8
  have HO8 : Hid (OwD X8 X4.heap.size (.slice (some ⟨x1, 0, none⟩) nL nL) (.slice (some ⟨x2, 0, none⟩) nS nS) (.slice (some ⟨x3, 0, none⟩) nO nO) nL nS nO) := HO6.out.below hB8
  have HY8 : Hid (RdD X8 (.slice (some ⟨x1, 0, none⟩) nL nL) (.slice (some ⟨x2, 0, none⟩) nS nS) (.slice (some ⟨x3, 0, none⟩) nO nO) L S O) := HY6.out.below hB8
  have HG8 : Hid (RdD X8 (.slice ag1 nR cg1) (.slice ag2 nR cg2) (.slice ag3 0 cg3) R R []) := hg7.below hB8'
  have HD8 : Hid (OwD X8 X6.heap.size (.slice ag1 nR cg1) (.slice ag2 nR cg2) (.slice ag3 0 cg3) nR nR 0) := hog7.below hB8'
  have HV8 : Hid (At3 X8 w7.heap.size 30 (.slice ag1 nR cg1) (.slice ag2 nR cg2) (.slice ag3 0 cg3)) := by rw [hX8]; exact At3.new _ _ _ _ _
  have HLG : Hid (∀ b, (Value.slice ag1 nR cg1).ownBlock = some b ∨ (Value.slice ag2 nR cg2).ownBlock = some b ∨ (Value.slice ag3 0 cg3).ownBlock = some b → X6.heap.size ≤ b ∧ b < w7.heap.size) := fun b hb => by
    rcases hb with hb | hb | hb
    · exact hog7.l.lt b hb
    · exact hog7.s.lt b hb
    · exact hog7.o.lt b hb
  have HB410 : Hid (Below X4.heap.size X4 X8) := HB46.out.trans (hB8.mono HB46.out.size)
  have HSZ : Hid (w.heap.size < w3.heap.size ∧ w3.heap.size < X4.heap.size ∧ X4.heap.size ≤ w5.heap.size ∧ w5.heap.size < X6.heap.size ∧ X6.heap.size ≤ w7.heap.size ∧ w7.heap.size < X8.heap.size) := ⟨HA3.out.lt, HQ4.out.lt, HS45.out, HT6.out.lt, hB7.size, HV8.out.lt⟩
  clear c0 c1 c2
  have c0 := HQ8.out.c0
  have c1 := HQ8.out.c1
  have c2 := HQ8.out.c2
  rw [hX8] at c0 c1 c2
  have d0 := HV8.out.c0
  have d1 := HV8.out.c1
  have d2 := HV8.out.c2
  rw [hX8] at d0 d1 d2
  clear hB7 hB8 hB8' hg7 hog7 HX6 hX8
  -- is it the same?
  go_wp2_with fail
  rw [← HX8.out]
  refine (eqDisk_same _ _ _ _ _ _ R R [] X8 HG8.out.1 HG8.out.2.1 HG8.out.2.2 HP8.out.1 HP8.out.2.1 HP8.out.2.2).mono ?_
  rintro e w9 ⟨rfl, hB9⟩
  have HB9 : Hid (Below X8.heap.size X8 w9) := hB9
  clear c0 c1 c2 d0 d1 d2 hB9
  -- is the argument as it was?
  have HBQ : Hid (Below w.heap.size w w9) := HW8.out.trans (HB9.out.mono HW8.out.size)
  have HCQ : Hid (∀ wy, Below w9.heap.size w9 wy → wy.cell? ⟨w5.heap.size, 0, none⟩ = some (.slice (some ⟨x1, 0, none⟩) nL nL) ∧ wy.cell? ⟨w5.heap.size, 1, none⟩ = some (.slice (some ⟨x2, 0, none⟩) nS nS) ∧ wy.cell? ⟨w5.heap.size, 2, none⟩ = some (.slice (some ⟨x3, 0, none⟩) nO nO) ∧ wy.cell? ⟨w.heap.size, 0, none⟩ = some (.slice aL nL cL) ∧ wy.cell? ⟨w.heap.size, 1, none⟩ = some (.slice aS nS cS) ∧ wy.cell? ⟨w.heap.size, 2, none⟩ = some (.slice aO nO cO)) := fun wy hy => by
    have h8 := HB9.out.trans (hy.mono HB9.out.size)
    exact ⟨(HT8.out.below h8).c0, (HT8.out.below h8).c1, (HT8.out.below h8).c2, (HA8.out.below h8).c0, (HA8.out.below h8).c1, (HA8.out.below h8).c2⟩
  have HXQ : Hid (∀ wy, Below w9.heap.size w9 wy → RdD wy (.slice (some ⟨x1, 0, none⟩) nL nL) (.slice (some ⟨x2, 0, none⟩) nS nS) (.slice (some ⟨x3, 0, none⟩) nO nO) L S O) := fun wy hy => HY8.out.below (HB9.out.trans (hy.mono HB9.out.size))
  go_wp2
  refine wp_cut_to (fun a0 t w' => ∃ f, t = canon a0 dsQ f ∧ f 31 = .bool false ∧ Below w9.heap.size w9 w') ?_ ?_
  rotate_left
  · intro J K' hJ hK
    refine wp_letter ?_
    intro fr hfr
    have hs7 : 31 < fr.tmps.size := by rw [hfr]; exact Nat.le_of_ble_eq_true rfl
    have t5 : fr.eval (.tmp 5) = .pointer (some ⟨w5.heap.size, 0, none⟩) := by rw [hfr]; rfl
    have t1 : fr.eval (.tmp 1) = .pointer (some ⟨w.heap.size, 0, none⟩) := by rw [hfr]; rfl
    have HFR := (show Hid _ from hfr)
    clear hfr
    refine wp_region_rel (Rel := fun v v' => Below v.heap.size v v') (fun v => Below.refl _ _) (fun h k => h.trans (k.mono h.size)) (fun v => (Below.refl _ _).drew) (by kernel_rfl) (by kernel_rfl) dsQ slotQ (QF (.agg #[.slice (some ⟨x1, 0, none⟩) nL nL, .slice (some ⟨x2, 0, none⟩) nS nS, .slice (some ⟨x3, 0, none⟩) nO nO]) (.agg #[.slice aL nL cL, .slice aS nS cS, .slice aO nO cO]) L S O) (fun _ _ _ _ h hB => h.below hB) ?_ ?_ ?_ ?_
    · intro i hi
      exact slotQ_mem i hi
    · intro i j hi hj q
      exact slotQ_inj i j hi hj q
    · intro ops hops f wy j oo hy ho hd
      have ho2 := ho
      rw [hops] at ho
      have N1 := (canon_eval_ne fr dsQ f 1 (by decide)).trans t1
      have N5 := (canon_eval_ne fr dsQ f 5 (by decide)).trans t5
      have hi : j < 5 := by
        rcases Nat.lt_or_ge j 5 with h | h
        · exact h
        · rw [Array.getElem?_eq_none (by simpa using h)] at ho; cases ho
      have hi' : j = 0 ∨ j = 1 ∨ j = 2 ∨ j = 3 ∨ j = 4 := by omega
      rcases hi' with rfl | rfl | rfl | rfl | rfl <;> simp only [List.getElem?_toArray, List.getElem?_cons_succ, List.getElem?_cons_zero, Option.some.injEq] at ho <;> subst ho
      · refine wpOp_runG ho2 (wanted_none rfl) (q_load31 (canon fr dsQ f).eval _ wy _ w5.heap.size rfl N5 (HCQ.out wy hy).1 (HCQ.out wy hy).2.1 (HCQ.out wy hy).2.2.1) ?_
        exact ⟨_, rfl, rfl, Below.refl _ _⟩
      · refine wpOp_runG ho2 (wanted_none rfl) (q_load25 (canon fr dsQ f).eval _ wy _ w.heap.size rfl N1 (HCQ.out wy hy).2.2.2.1 (HCQ.out wy hy).2.2.2.2.1 (HCQ.out wy hy).2.2.2.2.2) ?_
        exact ⟨_, rfl, rfl, Below.refl _ _⟩
      · refine wpOp_enterG ho2 (wanted_none rfl) (q_call1I (canon fr dsQ f).eval _ wy _ HEN1.out _ _ rfl rfl) ?_
        rw [(canon_eval fr dsQ f 28 (by decide) (Nat.lt_of_le_of_lt (by decide) hs7)).trans (hd ⟨1, .data⟩ (by simp) rfl)]
        refine (toDisk_any _ _ _ L S O wy (HA.out wy (HBQ.out.trans (hy.mono HBQ.out.size))).1 (HA.out wy (HBQ.out.trans (hy.mono HBQ.out.size))).2.1 (HA.out wy (HBQ.out.trans (hy.mono HBQ.out.size))).2.2 HN.out.1 HN.out.2.1 HN.out.2.2).mono ?_
        rintro e wz ⟨u1, u2, u3, rfl, hu1, hu2, hu3, hBz⟩
        exact ⟨_, rfl, _, rfl, ⟨_, _, _, rfl, hu1, hu2, hu3⟩, hBz⟩
      · obtain ⟨u1, u2, u3, hu, hu1, hu2, hu3⟩ := hd ⟨2, .data⟩ (by simp) rfl
        refine wpOp_enterG ho2 (wanted_none rfl) (q_call2 (canon fr dsQ f).eval _ wy _ HEN2.out _ _ _ rfl rfl) ?_
        rw [(canon_eval fr dsQ f 27 (by decide) (Nat.lt_of_le_of_lt (by decide) hs7)).trans (hd ⟨0, .data⟩ (by simp) rfl), (canon_eval fr dsQ f 29 (by decide) (Nat.lt_of_le_of_lt (by decide) hs7)).trans hu]
        refine (eqDisk_same _ _ _ u1 u2 u3 L S O wy (HXQ.out wy hy).1 (HXQ.out wy hy).2.1 (HXQ.out wy hy).2.2 hu1 hu2 hu3).mono ?_
        rintro e wz ⟨rfl, hBz⟩
        exact ⟨_, rfl, _, rfl, rfl, hBz⟩
      · refine wpOp_runG ho2 (wanted_none rfl) (q_notI (canon fr dsQ f).eval _ wy _ true rfl ((canon_eval fr dsQ f 30 (by decide) (Nat.lt_of_le_of_lt (by decide) hs7)).trans (hd ⟨3, .data⟩ (by simp) rfl))) ?_
        exact ⟨_, rfl, rfl, Below.refl _ _⟩
    · intro f wy hy hall
      exact hK _ _ (Met.intro (hJ _ _ ⟨f, congrArg (fun z => canon z dsQ f) HFR.out, hall 4 (by decide), hy⟩))

  rintro _ w10 ⟨f, rfl, h10, hB10⟩
  simp only [canon, dsQ, List.foldl, Act.put, List.setIfInBounds_toArray, List.set_cons_succ, List.set_cons_zero]
  rw [h10]
  have HB10 : Hid (Below X8.heap.size X8 w10) := HB9.out.trans (hB10.mono HB9.out.size)
  have HW10 : Hid (Below w.heap.size w w10) := HW8.out.trans (HB10.out.mono HW8.out.size)
  clear h10 hB10
  -- marks on the argument
  have d0 := (HT8.out.below HB10.out).c0
  have d1 := (HT8.out.below HB10.out).c1
  have d2 := (HT8.out.below HB10.out).c2
  go_wp2_with fail
  refine (markDisk_any X4.heap.size _ _ _ nL nS nO 1 w10 (HO8.out.below HB10.out) (by omega) (by have := HN.out; have := HE.out; omega)).mono ?_
  rintro e w11 ⟨rfl, _, hK11⟩
  clear d0 d1 d2
  have HX411 : Hid (Below X4.heap.size X4 w11 ∧ w10.heap.size ≤ w11.heap.size) := by
    have hb : Below X4.heap.size X4 w10 := HB410.out.trans (HB10.out.mono HB410.out.size)
    refine ⟨⟨hK11.os.trans hb.os, hK11.tape.trans hb.tape, hK11.output.trans hb.output, Nat.le_trans hb.size hK11.size, fun b hb' => ?_⟩, hK11.size⟩
    have hbs := hb.size
    refine (hK11.block b (by omega) ⟨fun e => ?_, fun e => ?_, fun e => ?_⟩).trans (hb.block b hb')
    · have := HLX.out b (.inl e); omega
    · have := HLX.out b (.inr (.inl e)); omega
    · have := HLX.out b (.inr (.inr e)); omega
  have hkg : ∀ b, X6.heap.size ≤ b → b < w10.heap.size → w11.heap[b]? = w10.heap[b]? := fun b h1 h2 => by
    have hsz := HSZ.out
    refine hK11.block b h2 ⟨fun e => ?_, fun e => ?_, fun e => ?_⟩
    · have := HLX.out b (.inl e); omega
    · have := HLX.out b (.inr (.inl e)); omega
    · have := HLX.out b (.inr (.inr e)); omega
  have HV11 : Hid (At3 w11 w7.heap.size 30 (.slice ag1 nR cg1) (.slice ag2 nR cg2) (.slice ag3 0 cg3)) := (hkg _ HSZ.out.2.2.2.2.1 (HV8.out.below HB10.out).lt).trans (HV8.out.below HB10.out)
  have HG11 : Hid (RdD w11 (.slice ag1 nR cg1) (.slice ag2 nR cg2) (.slice ag3 0 cg3) R R []) := (HG8.out.below HB10.out).own (HD8.out.below HB10.out) hK11.size hkg
  have HD11 : Hid (OwD w11 X6.heap.size (.slice ag1 nR cg1) (.slice ag2 nR cg2) (.slice ag3 0 cg3) nR nR 0) := (HD8.out.below HB10.out).kept hkg
  have HW11 : Hid (Below w.heap.size w w11) := HW4.out.trans (HX411.out.1.mono HW4.out.size)
  have HP11 : Hid (RdD w11 (.slice ap1 nR cp1) (.slice ap2 nR cp2) (.slice ap3 0 cp3) R R []) := HP4.out.below HX411.out.1
  have HQ11 : Hid (At3 w11 w3.heap.size 30 (.slice ap1 nR cp1) (.slice ap2 nR cp2) (.slice ap3 0 cp3)) := HQ4.out.below HX411.out.1
  have HA11 : Hid (At3 w11 w.heap.size 25 (.slice aL nL cL) (.slice aS nS cS) (.slice aO nO cO)) := HA4.out.below HX411.out.1
  obtain ⟨K, hK⟩ : ∃ K, K = 1 + nL * 2 + nS * 2 + nO * 4 := ⟨_, rfl⟩
  rw [← hK]
  have hKd : decide ((K : Int) < 0) = false := decide_eq_false (by omega)
  have hKn : ¬ ((K : Int) < 0) := by omega
  clear hK11 hkg hK
  have c0 := HQ11.out.c0
  have c1 := HQ11.out.c1
  have c2 := HQ11.out.c2
  have d0 := HV11.out.c0
  have d1 := HV11.out.c1
  have d2 := HV11.out.c2
  go_wp2_with fail
  refine (eqDisk_same _ _ _ _ _ _ R R [] w11 HG11.out.1 HG11.out.2.1 HG11.out.2.2 HP11.out.1 HP11.out.2.1 HP11.out.2.2).mono ?_
  rintro e w12 ⟨rfl, hB12⟩
  have HB12 : Hid (Below w11.heap.size w11 w12) := hB12
  have HV12 : Hid (At3 w12 w7.heap.size 30 (.slice ag1 nR cg1) (.slice ag2 nR cg2) (.slice ag3 0 cg3)) := HV11.out.below hB12
  have HX412 : Hid (Below X4.heap.size X4 w12) := HX411.out.1.trans (hB12.mono HX411.out.1.size)
  have HS12 : Hid (X8.heap.size ≤ w12.heap.size) := Nat.le_trans HB10.out.size (Nat.le_trans HX411.out.2 hB12.size)
  clear c0 c1 c2 d0 d1 d2 hB12 hKd hKn
  -- marks on the answer
  have d0 := HV12.out.c0
  have d1 := HV12.out.c1
  have d2 := HV12.out.c2
  go_wp2_with fail
  refine (markDisk_any X6.heap.size _ _ _ nR nR 0 1 w12 (HD11.out.below HB12.out) (by omega) (by have := HRl.out; have := HRR.out.2; omega)).mono ?_
  rintro e w13 ⟨rfl, hm13, hK13⟩
  have HX413 : Hid (Below X4.heap.size X4 w13) := by
    have hb := HX412.out
    have hsz := HSZ.out
    refine ⟨hK13.os.trans hb.os, hK13.tape.trans hb.tape, hK13.output.trans hb.output, Nat.le_trans hb.size hK13.size, fun b hb' => ?_⟩
    have hbs := hb.size
    refine (hK13.block b (by omega) ⟨fun e => ?_, fun e => ?_, fun e => ?_⟩).trans (hb.block b hb')
    · have := HLG.out b (.inl e); omega
    · have := HLG.out b (.inr (.inl e)); omega
    · have := HLG.out b (.inr (.inr e)); omega
  have HV13 : Hid (At3 w13 w7.heap.size 30 (.slice ag1 nR cg1) (.slice ag2 nR cg2) (.slice ag3 0 cg3)) := by
    have hsz := HSZ.out
    refine (hK13.block _ HV12.out.lt ⟨fun e => ?_, fun e => ?_, fun e => ?_⟩).trans HV12.out
    · have := HLG.out _ (.inl e); omega
    · have := HLG.out _ (.inr (.inl e)); omega
    · have := HLG.out _ (.inr (.inr e)); omega
  have HM13 : Hid (RdD w13 (.slice ag1 nR cg1) (.slice ag2 nR cg2) (.slice ag3 0 cg3) (mkF 1 nR) (mkF (1 + nR * 2) nR) (mkO (1 + nR * 2 + nR * 2) 0)) := hm13
  have HNR : Hid (1 + nR * 2 + nR * 2 + 0 * 4 ≤ 1152921504606846976) := by show _ ≤ _; have := HRl.out; have := HRR.out.2; omega
  obtain ⟨T, hT⟩ : ∃ T, T = 1 + nR * 2 + nR * 2 + 0 * 4 := ⟨_, rfl⟩
  have HT : Hid (T = 1 + nR * 2 + nR * 2 + 0 * 4) := hT
  rw [← hT]
  have hTd : decide ((T : Int) < 0) = false := decide_eq_false (by omega)
  have hTT : ((T : Int) != (T : Int)) = false := by simp
  clear d0 d1 d2 hm13 hK13 hT
  -- are they held?
  have d0 := HV13.out.c0
  have d1 := HV13.out.c1
  have d2 := HV13.out.c2
  go_wp2_with fail
  refine (heldDisk_any _ _ _ nR nR 0 1 w13 HM13.out (by omega) HNR.out).mono ?_
  rintro e w14 ⟨rfl, hB14⟩
  rw [← HT.out]
  have HX414 : Hid (Below X4.heap.size X4 w14) := HX413.out.trans (hB14.mono HX413.out.size)
  have HV14 : Hid (At3 w14 w7.heap.size 30 (.slice ag1 nR cg1) (.slice ag2 nR cg2) (.slice ag3 0 cg3)) := HV13.out.below hB14
  have HM14 : Hid (RdD w14 (.slice ag1 nR cg1) (.slice ag2 nR cg2) (.slice ag3 0 cg3) (mkF 1 nR) (mkF (1 + nR * 2) nR) (mkO (1 + nR * 2 + nR * 2) 0)) := HM13.out.below hB14
  have HW14 : Hid (Below w.heap.size w w14) := HW4.out.trans (HX414.out.mono HW4.out.size)
  have HA14 : Hid (At3 w14 w.heap.size 25 (.slice aL nL cL) (.slice aS nS cS) (.slice aO nO cO)) := HA4.out.below HX414.out
  clear d0 d1 d2 hB14
  -- once more
  have d0 := HA14.out.c0
  have d1 := HA14.out.c1
  have d2 := HA14.out.c2
  go_wp2_with fail
  refine (toDisk_own _ _ _ L S O w14 (HA.out w14 HW14.out).1 (HA.out w14 HW14.out).2.1 (HA.out w14 HW14.out).2.2 HN.out.1 HN.out.2.1 HN.out.2.2).mono ?_
  rintro e w15 ⟨z1, z2, z3, rfl, hz1, hz2, hz3, _, hB15⟩
  have HB15 : Hid (Below w14.heap.size w14 w15) := hB15
  clear d0 d1 d2 hB15
  go_wp2_with fail
  refine (implSync_any _ _ _ L S O w15 hz1 hz2 hz3 HZ.out HN.out.1).mono ?_
  rintro e w16 ⟨p1, p2, p3, rfl, hh16, _, hB16⟩
  obtain ⟨ah1, ch1, ah2, ch2, ah3, ch3, e1, e2, e3⟩ := hh16.slices
  rw [← HRR.out.1] at hh16 e1 e2
  rw [← HRR.out.2] at e1 e2
  subst e1 e2 e3
  obtain ⟨X17, hX17⟩ : ∃ X17, X17 = w16.alloc (.cells #[.slice ah1 nR ch1, .slice ah2 nR ch2, .slice ah3 0 ch3] 30) := ⟨_, rfl⟩
  have hB17' : Below w16.heap.size w16 X17 := by rw [hX17]; exact (Below.refl _ _).alloc (Nat.le_refl _) _
  have HX17 := (show Hid _ from hX17)
  have hB17 : Below w14.heap.size w14 X17 := (HB15.out.trans (hB16.mono HB15.out.size)).trans (hB17'.mono (HB15.out.trans (hB16.mono HB15.out.size)).size)
  have HX417 : Hid (Below X4.heap.size X4 X17) := HX414.out.trans (hB17.mono HX414.out.size)
  have HP17 : Hid (RdD X17 (.slice ap1 nR cp1) (.slice ap2 nR cp2) (.slice ap3 0 cp3) R R []) := HP4.out.below HX417.out
  have HQ17 : Hid (At3 X17 w3.heap.size 30 (.slice ap1 nR cp1) (.slice ap2 nR cp2) (.slice ap3 0 cp3)) := HQ4.out.below HX417.out
  have HH17 : Hid (RdD X17 (.slice ah1 nR ch1) (.slice ah2 nR ch2) (.slice ah3 0 ch3) R R []) := hh16.below hB17'
  have HU17 : Hid (At3 X17 w16.heap.size 30 (.slice ah1 nR ch1) (.slice ah2 nR ch2) (.slice ah3 0 ch3)) := by rw [hX17]; exact At3.new _ _ _ _ _
  have HV17 : Hid (At3 X17 w7.heap.size 30 (.slice ag1 nR cg1) (.slice ag2 nR cg2) (.slice ag3 0 cg3)) := HV14.out.below hB17
  have HM17 : Hid (RdD X17 (.slice ag1 nR cg1) (.slice ag2 nR cg2) (.slice ag3 0 cg3) (mkF 1 nR) (mkF (1 + nR * 2) nR) (mkO (1 + nR * 2 + nR * 2) 0)) := HM14.out.below hB17
  have c0 := HQ17.out.c0
  have c1 := HQ17.out.c1
  have c2 := HQ17.out.c2
  rw [hX17] at c0 c1 c2
  have d0 := HU17.out.c0
  have d1 := HU17.out.c1
  have d2 := HU17.out.c2
  rw [hX17] at d0 d1 d2
  clear hz1 hz2 hz3 hh16 hB16 hB17 hB17' hX17
  go_wp2_with fail
  rw [← HX17.out]
  refine (eqDisk_same _ _ _ _ _ _ R R [] X17 HH17.out.1 HH17.out.2.1 HH17.out.2.2 HP17.out.1 HP17.out.2.1 HP17.out.2.2).mono ?_
  rintro e w18 ⟨rfl, hB18⟩
  have HX418 : Hid (Below X4.heap.size X4 w18) := HX417.out.trans (hB18.mono HX417.out.size)
  have HV18 : Hid (At3 w18 w7.heap.size 30 (.slice ag1 nR cg1) (.slice ag2 nR cg2) (.slice ag3 0 cg3)) := HV17.out.below hB18
  have HM18 : Hid (RdD w18 (.slice ag1 nR cg1) (.slice ag2 nR cg2) (.slice ag3 0 cg3) (mkF 1 nR) (mkF (1 + nR * 2) nR) (mkO (1 + nR * 2 + nR * 2) 0)) := HM17.out.below hB18
  clear c0 c1 c2 d0 d1 d2 hB18
  have d0 := HV18.out.c0
  have d1 := HV18.out.c1
  have d2 := HV18.out.c2
  go_wp2_with fail
  refine (heldDisk_any _ _ _ nR nR 0 1 w18 HM18.out (by omega) HNR.out).mono ?_
  rintro e w19 ⟨rfl, hB19⟩
  rw [← HT.out]
  have HX419 : Hid (Below X4.heap.size X4 w19) := HX418.out.trans (hB19.mono HX418.out.size)
  clear d0 d1 d2 hB19
  go_wp2
  go_ret
  exact ⟨rfl, HW4.out.trans (HX419.out.mono HW4.out.size)⟩
end Go.Proofs.Ytdlkokdhbffhpaa
