/-
  FnExactCrash: the walk of the law. No condition but that the slices that came in read.
-/
import Derived.Test.YtdlkokdhbffhpaaDkCi
import Derived.Test.YtdlkokdhbffhpaaDkDk
namespace Go.Proofs.Ytdlkokdhbffhpaa
open Go.RowKit
set_option linter.unusedVariables false

def dsT : List Nat := [56, 57, 58, 59, 60]
def slotT (j : Nat) : Nat := dsT.getD j 0
theorem slotT_inj (i j : Nat) (hi : i < 5) (hj : j < 5) (q : slotT i = slotT j) : i = j := by
  have h : ∀ i : Fin 5, ∀ j : Fin 5, slotT i.val = slotT j.val → i.val = j.val := by decide
  exact h ⟨i, hi⟩ ⟨j, hj⟩ q
theorem slotT_mem (i : Nat) (hi : i < 5) : slotT i ∈ dsT := by
  have h : ∀ i : Fin 5, slotT i.val ∈ dsT := by decide
  exact h ⟨i, hi⟩

set_option maxRecDepth 10000 in
set_option maxHeartbeats 8000000 in
theorem crash_walk (vL vS vO vK : Value) (L S : List Fl) (O : List Dop) (Z : List Int) (tn : Int) (w : World) (hL : RdF w vL L) (hS : RdF w vS S) (hO : RdO w vO O) (hin : InD L S O) (hK : RdI w vK Z) :
    Calls Try.prog 5 #[.agg #[vL, vS, vO], vK, .int .i64 tn] w fun e w' => e = .returned (.bool true) ∧ Below w.heap.size w w' := by
  have HA : Hid (∀ w', Below w.heap.size w w' → RdF w' vL L ∧ RdF w' vS S ∧ RdO w' vO O) := fun w' hB => ⟨hL.below hB, hS.below hB, hO.below hB⟩
  have HKR : Hid (∀ w', Below w.heap.size w w' → RdI w' vK Z) := fun w' hB => hK.below hB
  obtain ⟨aL, cL, eL⟩ := hL.slice
  obtain ⟨nL, hnL⟩ : ∃ n, n = L.length := ⟨_, rfl⟩
  rw [← hnL] at eL
  obtain ⟨aS, cS, eS⟩ := hS.slice
  obtain ⟨nS, hnS⟩ : ∃ n, n = S.length := ⟨_, rfl⟩
  rw [← hnS] at eS
  obtain ⟨aO, cO, eO⟩ := hO.slice
  obtain ⟨nO, hnO⟩ : ∃ n, n = O.length := ⟨_, rfl⟩
  rw [← hnO] at eO
  obtain ⟨aK, cK, eK, _⟩ := hK.shape
  obtain ⟨nK, hnK⟩ : ∃ n, n = Z.length := ⟨_, rfl⟩
  rw [← hnK] at eK
  subst eL eS eO eK
  have HE : Hid (nL = L.length ∧ nS = S.length ∧ nO = O.length) := ⟨hnL, hnS, hnO⟩
  have HNK : Hid (nK = Z.length) := hnK
  have HI : Hid (InD L S O) := hin
  have en1 : ∀ args w, (callFunc 10 args).run Try.prog w = .ok (.enter 10 args) w := enters_of Try.func10 (by kernel_rfl) rfl
  have en2 : ∀ args w, (callFunc 12 args).run Try.prog w = .ok (.enter 12 args) w := enters_of Try.func12 (by kernel_rfl) rfl
  have HEN1 := (show Hid _ from en1)
  have HEN2 := (show Hid _ from en2)
  clear en1 en2
  obtain ⟨X, hX⟩ : ∃ X, X = w.alloc (.cells #[.slice aL nL cL, .slice aS nS cS, .slice aO nO cO] 25) := ⟨_, rfl⟩
  have HX := (show Hid _ from hX)
  have hBX : Below w.heap.size w X := by rw [hX]; exact (Below.refl _ _).alloc (Nat.le_refl _) _
  have HBX : Hid (Below w.heap.size w X) := hBX
  have HAX : Hid (At3 X w.heap.size 25 (.slice aL nL cL) (.slice aS nS cS) (.slice aO nO cO)) := by rw [hX]; exact At3.new _ _ _ _ _
  have c0 := HAX.out.c0
  have c1 := HAX.out.c1
  have c2 := HAX.out.c2
  rw [hX] at c0 c1 c2
  clear hX hL hS hO hin hnL hnS hnO hBX hK hnK
  go_enter Try.func5, Try.ntmps5
  by_cases hbig : 1048576 < nK
  · have hb1 : ¬ (nK : Int) ≤ 1048576 := by omega
    have hb2 : (1048576 : Int) < (nK : Int) := by omega
    go_wp2
    go_ret
    exact ⟨rfl, by rw [← HX.out]; exact HBX.out⟩
  have hb1 : (nK : Int) ≤ 1048576 := by omega
  have hb2 : ¬ (1048576 : Int) < (nK : Int) := by omega
  have HKZ : Hid (Z.length ≤ 1048576) := by show _ ≤ _; rw [← HNK.out]; omega
  go_wp2_with fail
  rw [← HX.out]
  have hAX := HA.out X HBX.out
  refine (szDisk2_any _ _ _ L S O X hAX.1 hAX.2.1 hAX.2.2 HI.out).mono ?_
  rintro e w1 ⟨r, rfl, hr, hB1⟩
  have HB1 : Hid (Below X.heap.size X w1) := hB1
  have HW1 : Hid (Below w.heap.size w w1) := HBX.out.trans (hB1.mono HBX.out.size)
  have HA1 : Hid (At3 w1 w.heap.size 25 (.slice aL nL cL) (.slice aS nS cS) (.slice aO nO cO)) := HAX.out.below hB1
  clear c0 c1 c2 HX hAX hB1
  rcases hr with hr | ⟨⟨hr, hrm⟩, hsm, hl1, hl2, hl3⟩
  · go_wp2
    go_ret
    exact ⟨rfl, HW1.out⟩
  have HZ : Hid (SmallD L S O) := hsm
  have HN : Hid (L.length ≤ 1048576 ∧ S.length ≤ 1048576 ∧ O.length ≤ 1048576) := ⟨hl1, hl2, hl3⟩
  clear hsm hl1 hl2 hl3 hrm
  obtain ⟨CC, hCC⟩ : ∃ C, C = crOk L S O Z tn := ⟨_, rfl⟩
  obtain ⟨AL, hAL⟩ : ∃ A, A = crR L S O Z tn := ⟨_, rfl⟩
  have HSP : Hid (∀ wy u1 u2 u3 u4, RdD wy u1 u2 u3 L S O → RdI wy u4 Z → Calls Try.prog 19 #[.agg #[u1, u2, u3], u4, .int .i64 tn] wy fun e w' => ∃ x y z, e = .returned (.tuple #[.agg #[x, y, z], .bool CC]) ∧ RdD w' x y z AL AL [] ∧ Below wy.heap.size wy w') := fun wy u1 u2 u3 u4 h hk => by
    rw [hCC, hAL]
    exact specCrash_any u1 u2 u3 u4 L S O Z tn wy h hk HZ.out HN.out HKZ.out
  have HIM : Hid (∀ wy u1 u2 u3 u4, RdD wy u1 u2 u3 L S O → RdI wy u4 Z → Calls Try.prog 21 #[.agg #[u1, u2, u3], u4, .int .i64 tn] wy fun e w' => ∃ x y z, e = .returned (.tuple #[.agg #[x, y, z], .bool CC]) ∧ RdD w' x y z AL AL [] ∧ OwD w' wy.heap.size x y z AL.length AL.length 0 ∧ Below wy.heap.size wy w') := fun wy u1 u2 u3 u4 h hk => by
    rw [hCC, hAL]
    exact implCrash_any u1 u2 u3 u4 L S O Z tn wy h hk HZ.out HN.out HKZ.out
  have HLEN : Hid (AL.length ≤ 60) := by
    show _ ≤ _
    rw [hAL]
    cases hd : crOk L S O Z tn with
    | false => rw [cr_no hd]; decide
    | true =>
      rw [cr_yes hd]
      unfold crOk at hd
      simp only [Bool.and_eq_true] at hd
      exact (filesB_parts hd.2.2.2).1
  clear hCC hAL
  have c0 := HA1.out.c0
  have c1 := HA1.out.c1
  have c2 := HA1.out.c2
  -- w0, w1
  go_wp2_with fail
  refine (toDisk_any _ _ _ L S O w1 (HA.out w1 HW1.out).1 (HA.out w1 HW1.out).2.1 (HA.out w1 HW1.out).2.2 HN.out.1 HN.out.2.1 HN.out.2.2).mono ?_
  rintro e y1 ⟨u1, u2, u3, rfl, hu1, hu2, hu3, hBy1⟩
  have HUY : Hid (RdD y1 _ _ _ L S O) := ⟨hu1, hu2, hu3⟩
  have HBY1 : Hid (Below w1.heap.size w1 y1) := hBy1
  have HWY1 : Hid (Below w.heap.size w y1) := HW1.out.trans (hBy1.mono HW1.out.size)
  clear c0 c1 c2 hu1 hu2 hu3 hBy1
  go_wp2_with fail
  refine (toI_any _ Z y1 (HKR.out y1 HWY1.out) HKZ.out).mono ?_
  rintro e y2 ⟨rfl, hi2, hBy2⟩
  have HIY : Hid (RdI y2 _ Z) := hi2.rd
  have HUY2 : Hid (RdD y2 _ _ _ L S O) := HUY.out.below hBy2
  have HBY2 : Hid (Below w1.heap.size w1 y2) := HBY1.out.trans (hBy2.mono HBY1.out.size)
  clear hi2 hBy2 HUY
  go_wp2_with fail
  refine (HSP.out y2 _ _ _ _ HUY2.out HIY.out).mono ?_
  rintro e y3 ⟨p1, p2, p3, rfl, hp3, hBy3⟩
  obtain ⟨ap1, cp1, ap2, cp2, ap3, cp3, e1, e2, e3⟩ := hp3.slices
  obtain ⟨mA, hmA⟩ : ∃ m, m = AL.length := ⟨_, rfl⟩
  rw [← hmA] at e1 e2
  subst e1 e2 e3
  have HMM : Hid (mA = AL.length) := hmA
  have HBY3 : Hid (Below w1.heap.size w1 y3) := HBY2.out.trans (hBy3.mono HBY2.out.size)
  obtain ⟨w3, hw3⟩ : ∃ X5, X5 = y3.alloc (.cells #[.slice ap1 mA cp1, .slice ap2 mA cp2, .slice ap3 0 cp3] 30) := ⟨_, rfl⟩
  have HW3E := (show Hid _ from hw3)
  have hb3 : Below y3.heap.size y3 w3 := by rw [hw3]; exact (Below.refl _ _).alloc (Nat.le_refl _) _
  have HP3 : Hid (RdD w3 (.slice ap1 mA cp1) (.slice ap2 mA cp2) (.slice ap3 0 cp3) AL AL []) := hp3.below hb3
  have HQ3 : Hid (At3 w3 y3.heap.size 30 (.slice ap1 mA cp1) (.slice ap2 mA cp2) (.slice ap3 0 cp3)) := by rw [hw3]; exact At3.new _ _ _ _ _
  have HB3 : Hid (Below w1.heap.size w1 w3) := HBY3.out.trans (hb3.mono HBY3.out.size)
  have HW3 : Hid (Below w.heap.size w w3) := HW1.out.trans (HB3.out.mono HW1.out.size)
  have HA3 : Hid (At3 w3 w.heap.size 25 (.slice aL nL cL) (.slice aS nS cS) (.slice aO nO cO)) := HA1.out.below HB3.out
  have c0 := HA3.out.c0
  have c1 := HA3.out.c1
  have c2 := HA3.out.c2
  rw [hw3] at c0 c1 c2
  clear hp3 hmA hBy3 hb3 hw3 HIY HUY2 HBY1 HWY1
  -- x0
  go_wp2_with fail
  rw [← HW3E.out]
  refine (toDisk_own _ _ _ L S O w3 (HA.out w3 HW3.out).1 (HA.out w3 HW3.out).2.1 (HA.out w3 HW3.out).2.2 HN.out.1 HN.out.2.1 HN.out.2.2).mono ?_
  rintro e w5 ⟨x1, x2, x3, rfl, hx1, hx2, hx3, ⟨ho1, ho2, ho3, hox⟩, hB5⟩
  rw [← HE.out.1] at hx1 ho1
  rw [← HE.out.2.1] at hx2 ho2
  rw [← HE.out.2.2] at hx3 ho3
  rw [← HE.out.1, ← HE.out.2.1, ← HE.out.2.2]
  have HW5 : Hid (Below w.heap.size w w5) := HW3.out.trans (hB5.mono HW3.out.size)
  have hox5 : OwD w5 w3.heap.size (.slice (some ⟨x1, 0, none⟩) nL nL) (.slice (some ⟨x2, 0, none⟩) nS nS) (.slice (some ⟨x3, 0, none⟩) nO nO) nL nS nO := ⟨ho1, ho2, ho3, fun b hb e => hox (Option.some.inj (hb.trans e.symm))⟩
  have hrx5 : RdD w5 (.slice (some ⟨x1, 0, none⟩) nL nL) (.slice (some ⟨x2, 0, none⟩) nS nS) (.slice (some ⟨x3, 0, none⟩) nO nO) L S O := ⟨hx1, hx2, hx3⟩
  obtain ⟨X6, hX6⟩ : ∃ X6, X6 = w5.alloc (.cells #[.slice (some ⟨x1, 0, none⟩) nL nL, .slice (some ⟨x2, 0, none⟩) nS nS, .slice (some ⟨x3, 0, none⟩) nO nO] 30) := ⟨_, rfl⟩
  have hB6 : Below w5.heap.size w5 X6 := by rw [hX6]; exact (Below.refl _ _).alloc (Nat.le_refl _) _
  have HX6 := (show Hid _ from hX6)
  have HS35 : Hid (w3.heap.size ≤ w5.heap.size) := hB5.size
  have HB36 : Hid (Below w3.heap.size w3 X6) := hB5.trans (hB6.mono hB5.size)
  have HW6 : Hid (Below w.heap.size w X6) := HW5.out.trans (hB6.mono HW5.out.size)
  have HT6 : Hid (At3 X6 w5.heap.size 30 (.slice (some ⟨x1, 0, none⟩) nL nL) (.slice (some ⟨x2, 0, none⟩) nS nS) (.slice (some ⟨x3, 0, none⟩) nO nO)) := by rw [hX6]; exact At3.new _ _ _ _ _
  have HO6 : Hid (OwD X6 w3.heap.size (.slice (some ⟨x1, 0, none⟩) nL nL) (.slice (some ⟨x2, 0, none⟩) nS nS) (.slice (some ⟨x3, 0, none⟩) nO nO) nL nS nO) := hox5.below hB6
  have HY6 : Hid (RdD X6 (.slice (some ⟨x1, 0, none⟩) nL nL) (.slice (some ⟨x2, 0, none⟩) nS nS) (.slice (some ⟨x3, 0, none⟩) nO nO) L S O) := hrx5.below hB6
  have HLX : Hid (∀ b, (Value.slice (some ⟨x1, 0, none⟩) nL nL).ownBlock = some b ∨ (Value.slice (some ⟨x2, 0, none⟩) nS nS).ownBlock = some b ∨ (Value.slice (some ⟨x3, 0, none⟩) nO nO).ownBlock = some b → w3.heap.size ≤ b ∧ b < w5.heap.size) := fun b hb => by
    rcases hb with hb | hb | hb
    · exact hox5.l.lt b hb
    · exact hox5.s.lt b hb
    · exact hox5.o.lt b hb
  clear c0 c1 c2 hX6 hB6 hx1 hx2 hx3 ho1 ho2 ho3 hox hox5 hrx5 hB5 HW3E
  -- x1
  go_wp2_with fail
  rw [← HX6.out]
  refine (toI_any _ Z X6 (HKR.out X6 HW6.out) HKZ.out).mono ?_
  rintro e w8 ⟨rfl, hi8, hB8⟩
  rw [← HNK.out] at hi8 ⊢
  have HI8 : Hid (OwnI w8 X6.heap.size (.slice (some ⟨X6.heap.size, 0, none⟩) nK nK) Z) := hi8
  have HB38 : Hid (Below w3.heap.size w3 w8) := HB36.out.trans (hB8.mono HB36.out.size)
  have HW8 : Hid (Below w.heap.size w w8) := HW6.out.trans (hB8.mono HW6.out.size)
  have HT8 : Hid (At3 w8 w5.heap.size 30 (.slice (some ⟨x1, 0, none⟩) nL nL) (.slice (some ⟨x2, 0, none⟩) nS nS) (.slice (some ⟨x3, 0, none⟩) nO nO)) := HT6.out.below hB8
  have HO8 : Hid (OwD w8 w3.heap.size (.slice (some ⟨x1, 0, none⟩) nL nL) (.slice (some ⟨x2, 0, none⟩) nS nS) (.slice (some ⟨x3, 0, none⟩) nO nO) nL nS nO) := HO6.out.below hB8
  have HY8 : Hid (RdD w8 (.slice (some ⟨x1, 0, none⟩) nL nL) (.slice (some ⟨x2, 0, none⟩) nS nS) (.slice (some ⟨x3, 0, none⟩) nO nO) L S O) := HY6.out.below hB8
  have HXL : Hid (w5.heap.size < X6.heap.size ∧ X6.heap.size < w8.heap.size) := ⟨HT6.out.lt, (World.ownsRow.lt hi8 X6.heap.size rfl).2⟩
  clear hi8 hB8 HX6
  have d0 := HT8.out.c0
  have d1 := HT8.out.c1
  have d2 := HT8.out.c2
  -- g0, g1
  go_wp2_with fail
  refine (HIM.out w8 _ _ _ _ HY8.out HI8.out.rd).mono ?_
  rintro e y7 ⟨p1, p2, p3, rfl, hp7, how7, hBy7⟩
  obtain ⟨ag1, cg1, ag2, cg2, ag3, cg3, e1, e2, e3⟩ := hp7.slices
  rw [← HMM.out] at e1 e2 how7
  subst e1 e2 e3
  obtain ⟨w7, hw7⟩ : ∃ X5, X5 = y7.alloc (.cells #[.slice ag1 mA cg1, .slice ag2 mA cg2, .slice ag3 0 cg3] 30) := ⟨_, rfl⟩
  have HW7E := (show Hid _ from hw7)
  have hb7 : Below y7.heap.size y7 w7 := by rw [hw7]; exact (Below.refl _ _).alloc (Nat.le_refl _) _
  have HBD : Hid (Below w8.heap.size w8 w7) := hBy7.trans (hb7.mono hBy7.size)
  have HB37 : Hid (Below w3.heap.size w3 w7) := HB38.out.trans (HBD.out.mono HB38.out.size)
  have HW7 : Hid (Below w.heap.size w w7) := HW8.out.trans (HBD.out.mono HW8.out.size)
  have HT7 : Hid (At3 w7 w5.heap.size 30 (.slice (some ⟨x1, 0, none⟩) nL nL) (.slice (some ⟨x2, 0, none⟩) nS nS) (.slice (some ⟨x3, 0, none⟩) nO nO)) := HT8.out.below HBD.out
  have HO7 : Hid (OwD w7 w3.heap.size (.slice (some ⟨x1, 0, none⟩) nL nL) (.slice (some ⟨x2, 0, none⟩) nS nS) (.slice (some ⟨x3, 0, none⟩) nO nO) nL nS nO) := HO8.out.below HBD.out
  have HY7 : Hid (RdD w7 (.slice (some ⟨x1, 0, none⟩) nL nL) (.slice (some ⟨x2, 0, none⟩) nS nS) (.slice (some ⟨x3, 0, none⟩) nO nO) L S O) := HY8.out.below HBD.out
  have HI7 : Hid (OwnI w7 X6.heap.size (.slice (some ⟨X6.heap.size, 0, none⟩) nK nK) Z) := HI8.out.below HBD.out
  have HG7 : Hid (RdD w7 (.slice ag1 mA cg1) (.slice ag2 mA cg2) (.slice ag3 0 cg3) AL AL []) := hp7.below hb7
  have HD7 : Hid (OwD w7 w8.heap.size (.slice ag1 mA cg1) (.slice ag2 mA cg2) (.slice ag3 0 cg3) mA mA 0) := how7.below hb7
  obtain ⟨bg, hbg⟩ : ∃ bg, bg = y7.heap.size := ⟨_, rfl⟩
  have HV7 : Hid (At3 w7 bg 30 (.slice ag1 mA cg1) (.slice ag2 mA cg2) (.slice ag3 0 cg3)) := by rw [hw7, hbg]; exact At3.new _ _ _ _ _
  have HP7 : Hid (RdD w7 (.slice ap1 mA cp1) (.slice ap2 mA cp2) (.slice ap3 0 cp3) AL AL []) := HP3.out.below HB37.out
  have HQ7 : Hid (At3 w7 y3.heap.size 30 (.slice ap1 mA cp1) (.slice ap2 mA cp2) (.slice ap3 0 cp3)) := HQ3.out.below HB37.out
  have HA7 : Hid (At3 w7 w.heap.size 25 (.slice aL nL cL) (.slice aS nS cS) (.slice aO nO cO)) := HA3.out.below HB37.out
  have HSZ : Hid (w3.heap.size ≤ w5.heap.size ∧ w5.heap.size < X6.heap.size ∧ X6.heap.size < w8.heap.size ∧ w8.heap.size ≤ bg) := ⟨HS35.out, HXL.out.1, HXL.out.2, by rw [hbg]; exact hBy7.size⟩
  have HBG := (show Hid _ from hbg)
  have c0 := HQ7.out.c0
  have c1 := HQ7.out.c1
  have c2 := HQ7.out.c2
  have f0 := HV7.out.c0
  have f1 := HV7.out.c1
  have f2 := HV7.out.c2
  rw [hw7] at c0 c1 c2
  rw [hw7, hbg] at f0 f1 f2
  clear hp7 how7 hBy7 hb7 hw7 hbg d0 d1 d2
  go_wp2_with fail
  rw [← HW7E.out]
  refine (eqDisk_same _ _ _ _ _ _ AL AL [] w7 HG7.out.1 HG7.out.2.1 HG7.out.2.2 HP7.out.1 HP7.out.2.1 HP7.out.2.2).mono ?_
  rintro e w9 ⟨rfl, hB9⟩
  rw [← HBG.out]
  have HB9 : Hid (Below w7.heap.size w7 w9) := hB9
  have hcc : (CC != CC) = false := by cases CC <;> rfl
  clear c0 c1 c2 f0 f1 f2 hB9 HW7E HBG
  -- is the argument as it was?
  have HBQ : Hid (Below w.heap.size w w9) := HW7.out.trans (HB9.out.mono HW7.out.size)
  have HCQ : Hid (∀ wy, Below w9.heap.size w9 wy → wy.cell? ⟨w5.heap.size, 0, none⟩ = some (.slice (some ⟨x1, 0, none⟩) nL nL) ∧ wy.cell? ⟨w5.heap.size, 1, none⟩ = some (.slice (some ⟨x2, 0, none⟩) nS nS) ∧ wy.cell? ⟨w5.heap.size, 2, none⟩ = some (.slice (some ⟨x3, 0, none⟩) nO nO) ∧ wy.cell? ⟨w.heap.size, 0, none⟩ = some (.slice aL nL cL) ∧ wy.cell? ⟨w.heap.size, 1, none⟩ = some (.slice aS nS cS) ∧ wy.cell? ⟨w.heap.size, 2, none⟩ = some (.slice aO nO cO)) := fun wy hy => by
    have h8 := HB9.out.trans (hy.mono HB9.out.size)
    exact ⟨(HT7.out.below h8).c0, (HT7.out.below h8).c1, (HT7.out.below h8).c2, (HA7.out.below h8).c0, (HA7.out.below h8).c1, (HA7.out.below h8).c2⟩
  have HXQ : Hid (∀ wy, Below w9.heap.size w9 wy → RdD wy (.slice (some ⟨x1, 0, none⟩) nL nL) (.slice (some ⟨x2, 0, none⟩) nS nS) (.slice (some ⟨x3, 0, none⟩) nO nO) L S O) := fun wy hy => HY7.out.below (HB9.out.trans (hy.mono HB9.out.size))
  go_wp2
  refine wp_cut_to (fun a0 t w' => ∃ f, t = canon a0 dsT f ∧ f 60 = .bool false ∧ Below w9.heap.size w9 w') ?_ ?_
  rotate_left
  · intro J K' hJ hK
    refine wp_letter ?_
    intro fr hfr
    have hs7 : 60 < fr.tmps.size := by rw [hfr]; exact Nat.le_of_ble_eq_true rfl
    have t5 : fr.eval (.tmp 10) = .pointer (some ⟨w5.heap.size, 0, none⟩) := by rw [hfr]; rfl
    have t1 : fr.eval (.tmp 3) = .pointer (some ⟨w.heap.size, 0, none⟩) := by rw [hfr]; rfl
    have HFR := (show Hid _ from hfr)
    clear hfr
    refine wp_region_rel (Rel := fun v v' => Below v.heap.size v v') (fun v => Below.refl _ _) (fun h k => h.trans (k.mono h.size)) (fun v => (Below.refl _ _).drew) (by kernel_rfl) (by kernel_rfl) dsT slotT (QF (.agg #[.slice (some ⟨x1, 0, none⟩) nL nL, .slice (some ⟨x2, 0, none⟩) nS nS, .slice (some ⟨x3, 0, none⟩) nO nO]) (.agg #[.slice aL nL cL, .slice aS nS cS, .slice aO nO cO]) L S O) (fun _ _ _ _ h hB => h.below hB) ?_ ?_ ?_ ?_
    · intro i hi
      exact slotT_mem i hi
    · intro i j hi hj q
      exact slotT_inj i j hi hj q
    · intro ops hops f wy j oo hy ho hd
      have ho2 := ho
      rw [hops] at ho
      have N1 := (canon_eval_ne fr dsT f 3 (by decide)).trans t1
      have N5 := (canon_eval_ne fr dsT f 10 (by decide)).trans t5
      have hi : j < 5 := by
        rcases Nat.lt_or_ge j 5 with h | h
        · exact h
        · rw [Array.getElem?_eq_none (by simpa using h)] at ho; cases ho
      have hi' : j = 0 ∨ j = 1 ∨ j = 2 ∨ j = 3 ∨ j = 4 := by omega
      rcases hi' with rfl | rfl | rfl | rfl | rfl <;> simp only [List.getElem?_toArray, List.getElem?_cons_succ, List.getElem?_cons_zero, Option.some.injEq] at ho <;> subst ho
      · refine wpOp_runG ho2 (wanted_none rfl) (q_load31 (canon fr dsT f).eval _ wy _ w5.heap.size rfl N5 (HCQ.out wy hy).1 (HCQ.out wy hy).2.1 (HCQ.out wy hy).2.2.1) ?_
        exact ⟨_, rfl, rfl, Below.refl _ _⟩
      · refine wpOp_runG ho2 (wanted_none rfl) (q_load25 (canon fr dsT f).eval _ wy _ w.heap.size rfl N1 (HCQ.out wy hy).2.2.2.1 (HCQ.out wy hy).2.2.2.2.1 (HCQ.out wy hy).2.2.2.2.2) ?_
        exact ⟨_, rfl, rfl, Below.refl _ _⟩
      · refine wpOp_enterG ho2 (wanted_none rfl) (q_call1I (canon fr dsT f).eval _ wy _ HEN1.out _ _ rfl rfl) ?_
        rw [(canon_eval fr dsT f 57 (by decide) (Nat.lt_of_le_of_lt (by decide) hs7)).trans (hd ⟨1, .data⟩ (by simp) rfl)]
        refine (toDisk_any _ _ _ L S O wy (HA.out wy (HBQ.out.trans (hy.mono HBQ.out.size))).1 (HA.out wy (HBQ.out.trans (hy.mono HBQ.out.size))).2.1 (HA.out wy (HBQ.out.trans (hy.mono HBQ.out.size))).2.2 HN.out.1 HN.out.2.1 HN.out.2.2).mono ?_
        rintro e wz ⟨u1, u2, u3, rfl, hu1, hu2, hu3, hBz⟩
        exact ⟨_, rfl, _, rfl, ⟨_, _, _, rfl, hu1, hu2, hu3⟩, hBz⟩
      · obtain ⟨u1, u2, u3, hu, hu1, hu2, hu3⟩ := hd ⟨2, .data⟩ (by simp) rfl
        refine wpOp_enterG ho2 (wanted_none rfl) (q_call2 (canon fr dsT f).eval _ wy _ HEN2.out _ _ _ rfl rfl) ?_
        rw [(canon_eval fr dsT f 56 (by decide) (Nat.lt_of_le_of_lt (by decide) hs7)).trans (hd ⟨0, .data⟩ (by simp) rfl), (canon_eval fr dsT f 58 (by decide) (Nat.lt_of_le_of_lt (by decide) hs7)).trans hu]
        refine (eqDisk_same _ _ _ u1 u2 u3 L S O wy (HXQ.out wy hy).1 (HXQ.out wy hy).2.1 (HXQ.out wy hy).2.2 hu1 hu2 hu3).mono ?_
        rintro e wz ⟨rfl, hBz⟩
        exact ⟨_, rfl, _, rfl, rfl, hBz⟩
      · refine wpOp_runG ho2 (wanted_none rfl) (q_notI (canon fr dsT f).eval _ wy _ true rfl ((canon_eval fr dsT f 59 (by decide) (Nat.lt_of_le_of_lt (by decide) hs7)).trans (hd ⟨3, .data⟩ (by simp) rfl))) ?_
        exact ⟨_, rfl, rfl, Below.refl _ _⟩
    · intro f wy hy hall
      exact hK _ _ (Met.intro (hJ _ _ ⟨f, congrArg (fun z => canon z dsT f) HFR.out, hall 4 (by decide), hy⟩))

  rintro _ w10 ⟨f, rfl, h10, hB10⟩
  simp only [canon, dsT, List.foldl, Act.put, List.setIfInBounds_toArray, List.set_cons_succ, List.set_cons_zero]
  rw [h10]
  have HB10 : Hid (Below w7.heap.size w7 w10) := HB9.out.trans (hB10.mono HB9.out.size)
  have HW10 : Hid (Below w.heap.size w w10) := HW7.out.trans (HB10.out.mono HW7.out.size)
  clear h10 hB10
  go_wp2_with fail
  refine (toI_any _ Z w10 (HKR.out w10 HW10.out) HKZ.out).mono ?_
  rintro e wi ⟨rfl, hii, hBi⟩
  have HII : Hid (RdI wi _ Z) := hii.rd
  have HBI : Hid (Below w7.heap.size w7 wi) := HB10.out.trans (hBi.mono HB10.out.size)
  clear hii hBi
  go_wp2_with fail
  refine (eqI_same _ _ Z wi (HI7.out.below HBI.out).rd HII.out).mono ?_
  rintro e wj ⟨rfl, hBj⟩
  have HBJ : Hid (Below w7.heap.size w7 wj) := HBI.out.trans (hBj.mono HBI.out.size)
  clear hBj HII
  -- marks on the arguments
  have d0 := (HT7.out.below HBJ.out).c0
  have d1 := (HT7.out.below HBJ.out).c1
  have d2 := (HT7.out.below HBJ.out).c2
  go_wp2_with fail
  refine (markDisk_any w3.heap.size _ _ _ nL nS nO 1 wj (HO7.out.below HBJ.out) (by omega) (by have := HN.out; have := HE.out; omega)).mono ?_
  rintro e wk ⟨rfl, _, hKk⟩
  clear d0 d1 d2
  have hsz7 := HSZ.out
  have HXK : Hid (Below w3.heap.size w3 wk ∧ wj.heap.size ≤ wk.heap.size) := by
    have hb : Below w3.heap.size w3 wj := HB37.out.trans (HBJ.out.mono HB37.out.size)
    refine ⟨⟨hKk.os.trans hb.os, hKk.tape.trans hb.tape, hKk.output.trans hb.output, Nat.le_trans hb.size hKk.size, fun b hb' => ?_⟩, hKk.size⟩
    have hbs := hb.size
    refine (hKk.block b (by omega) ⟨fun e => ?_, fun e => ?_, fun e => ?_⟩).trans (hb.block b hb')
    · have := HLX.out b (.inl e); omega
    · have := HLX.out b (.inr (.inl e)); omega
    · have := HLX.out b (.inr (.inr e)); omega
  have hkj : ∀ b, X6.heap.size ≤ b → b < wj.heap.size → wk.heap[b]? = wj.heap[b]? := fun b h1 h2 => by
    refine hKk.block b h2 ⟨fun e => ?_, fun e => ?_, fun e => ?_⟩
    · have := HLX.out b (.inl e); omega
    · have := HLX.out b (.inr (.inl e)); omega
    · have := HLX.out b (.inr (.inr e)); omega
  have HJL : Hid (X6.heap.size < wj.heap.size) := (World.ownsRow.lt (HI7.out.below HBJ.out) X6.heap.size rfl).2
  have HIK : Hid (OwnI wk X6.heap.size (.slice (some ⟨X6.heap.size, 0, none⟩) nK nK) Z) := ownsRow_kept (HI7.out.below HBJ.out) (fun k hk => by
    have e : X6.heap.size = k := by simpa [Value.ownBlock] using hk
    rw [← e]
    exact hkj _ (Nat.le_refl _) HJL.out)
  have HKJ := (show Hid _ from hkj)
  obtain ⟨K, hK⟩ : ∃ K, K = 1 + nL * 2 + nS * 2 + nO * 4 := ⟨_, rfl⟩
  rw [← hK]
  have HKS : Hid (K ≤ 2199023255552) := by show _ ≤ _; have := HN.out; have := HE.out; omega
  clear hKk hkj hK
  go_wp2_with fail
  refine (markI_any X6.heap.size _ Z K wk HIK.out HKZ.out HKS.out).mono ?_
  rintro e w11 ⟨rfl, _, hgr⟩
  have hob : (Value.slice (some ⟨X6.heap.size, 0, none⟩) nK nK).ownBlock = some X6.heap.size := rfl
  rw [hob] at hgr
  have HX411 : Hid (Below w3.heap.size w3 w11) := by
    have hb := HXK.out.1
    refine ⟨hgr.os.trans hb.os, hgr.tape.trans hb.tape, hgr.output.trans hb.output, Nat.le_trans hb.size hgr.size, fun b hb' => ?_⟩
    have hbs := hb.size
    exact (hgr.block b (by omega) (by intro e; have := Option.some.inj e; omega)).trans (hb.block b hb')
  have hkg : ∀ b, w8.heap.size ≤ b → b < wj.heap.size → w11.heap[b]? = wj.heap[b]? := fun b h1 h2 =>
    (hgr.block b (by have := HXK.out.2; omega) (by intro e; have := Option.some.inj e; omega)).trans (HKJ.out b (by omega) h2)
  have hjs : wj.heap.size ≤ w11.heap.size := Nat.le_trans HXK.out.2 hgr.size
  have HV11 : Hid (At3 w11 bg 30 (.slice ag1 mA cg1) (.slice ag2 mA cg2) (.slice ag3 0 cg3)) := (hkg _ HSZ.out.2.2.2 (HV7.out.below HBJ.out).lt).trans (HV7.out.below HBJ.out)
  have HG11 : Hid (RdD w11 (.slice ag1 mA cg1) (.slice ag2 mA cg2) (.slice ag3 0 cg3) AL AL []) := (HG7.out.below HBJ.out).own (HD7.out.below HBJ.out) hjs hkg
  have HD11 : Hid (OwD w11 w8.heap.size (.slice ag1 mA cg1) (.slice ag2 mA cg2) (.slice ag3 0 cg3) mA mA 0) := (HD7.out.below HBJ.out).kept hkg
  have HP11 : Hid (RdD w11 (.slice ap1 mA cp1) (.slice ap2 mA cp2) (.slice ap3 0 cp3) AL AL []) := HP3.out.below HX411.out
  have HQ11 : Hid (At3 w11 y3.heap.size 30 (.slice ap1 mA cp1) (.slice ap2 mA cp2) (.slice ap3 0 cp3)) := HQ3.out.below HX411.out
  obtain ⟨K2, hK2⟩ : ∃ K2, K2 = K + Z.length := ⟨_, rfl⟩
  rw [← hK2]
  have hKd : decide ((K2 : Int) < 0) = false := decide_eq_false (by omega)
  have hKn : ¬ ((K2 : Int) < 0) := by omega
  clear hgr hkg hK2 hsz7 hjs hob
  have c0 := HQ11.out.c0
  have c1 := HQ11.out.c1
  have c2 := HQ11.out.c2
  have d0 := HV11.out.c0
  have d1 := HV11.out.c1
  have d2 := HV11.out.c2
  go_wp2_with fail
  refine (eqDisk_same _ _ _ _ _ _ AL AL [] w11 HG11.out.1 HG11.out.2.1 HG11.out.2.2 HP11.out.1 HP11.out.2.1 HP11.out.2.2).mono ?_
  rintro e w12 ⟨rfl, hB12⟩
  have HV12 : Hid (At3 w12 bg 30 (.slice ag1 mA cg1) (.slice ag2 mA cg2) (.slice ag3 0 cg3)) := HV11.out.below hB12
  have HD12 : Hid (OwD w12 w8.heap.size (.slice ag1 mA cg1) (.slice ag2 mA cg2) (.slice ag3 0 cg3) mA mA 0) := HD11.out.below hB12
  have HX412 : Hid (Below w3.heap.size w3 w12) := HX411.out.trans (hB12.mono HX411.out.size)
  clear c0 c1 c2 d0 d1 d2 hB12 hKd hKn
  -- marks on the answer
  have d0 := HV12.out.c0
  have d1 := HV12.out.c1
  have d2 := HV12.out.c2
  go_wp2_with fail
  refine (markDisk_any w8.heap.size _ _ _ mA mA 0 1 w12 HD12.out (by omega) (by have := HLEN.out; have := HMM.out; omega)).mono ?_
  rintro e w13 ⟨rfl, hm13, hK13⟩
  have hap := HV12.out.apart HD12.out
  have HX413 : Hid (Below w3.heap.size w3 w13) := by
    have hb := HX412.out
    have hsz := HSZ.out
    refine ⟨hK13.os.trans hb.os, hK13.tape.trans hb.tape, hK13.output.trans hb.output, Nat.le_trans hb.size hK13.size, fun b hb' => ?_⟩
    have hbs := hb.size
    refine (hK13.block b (by omega) ⟨fun e => ?_, fun e => ?_, fun e => ?_⟩).trans (hb.block b hb')
    · have := (HD12.out.l.lt b e).1; omega
    · have := (HD12.out.s.lt b e).1; omega
    · have := (HD12.out.o.lt b e).1; omega
  have HV13 : Hid (At3 w13 bg 30 (.slice ag1 mA cg1) (.slice ag2 mA cg2) (.slice ag3 0 cg3)) :=
    (hK13.block _ HV12.out.lt ⟨fun e => hap _ (.inl e) rfl, fun e => hap _ (.inr (.inl e)) rfl, fun e => hap _ (.inr (.inr e)) rfl⟩).trans HV12.out
  have HM13 : Hid (RdD w13 (.slice ag1 mA cg1) (.slice ag2 mA cg2) (.slice ag3 0 cg3) (mkF 1 mA) (mkF (1 + mA * 2) mA) (mkO (1 + mA * 2 + mA * 2) 0)) := hm13
  have HNR : Hid (1 + mA * 2 + mA * 2 + 0 * 4 ≤ 1152921504606846976) := by show _ ≤ _; have := HLEN.out; have := HMM.out; omega
  obtain ⟨T, hT⟩ : ∃ T, T = 1 + mA * 2 + mA * 2 + 0 * 4 := ⟨_, rfl⟩
  have HT : Hid (T = 1 + mA * 2 + mA * 2 + 0 * 4) := hT
  rw [← hT]
  have hTd : decide ((T : Int) < 0) = false := decide_eq_false (by omega)
  have hTT : ((T : Int) != (T : Int)) = false := by simp
  clear d0 d1 d2 hm13 hK13 hT hap
  -- are they held?
  have d0 := HV13.out.c0
  have d1 := HV13.out.c1
  have d2 := HV13.out.c2
  go_wp2_with fail
  refine (heldDisk_any _ _ _ mA mA 0 1 w13 HM13.out (by omega) HNR.out).mono ?_
  rintro e w14 ⟨rfl, hB14⟩
  rw [← HT.out]
  have HX414 : Hid (Below w3.heap.size w3 w14) := HX413.out.trans (hB14.mono HX413.out.size)
  have HV14 : Hid (At3 w14 bg 30 (.slice ag1 mA cg1) (.slice ag2 mA cg2) (.slice ag3 0 cg3)) := HV13.out.below hB14
  have HM14 : Hid (RdD w14 (.slice ag1 mA cg1) (.slice ag2 mA cg2) (.slice ag3 0 cg3) (mkF 1 mA) (mkF (1 + mA * 2) mA) (mkO (1 + mA * 2 + mA * 2) 0)) := HM13.out.below hB14
  have HW14 : Hid (Below w.heap.size w w14) := HW3.out.trans (HX414.out.mono HW3.out.size)
  have HA14 : Hid (At3 w14 w.heap.size 25 (.slice aL nL cL) (.slice aS nS cS) (.slice aO nO cO)) := HA3.out.below HX414.out
  clear d0 d1 d2 hB14
  -- once more
  have c0 := HA14.out.c0
  have c1 := HA14.out.c1
  have c2 := HA14.out.c2
  go_wp2_with fail
  refine (toDisk_any _ _ _ L S O w14 (HA.out w14 HW14.out).1 (HA.out w14 HW14.out).2.1 (HA.out w14 HW14.out).2.2 HN.out.1 HN.out.2.1 HN.out.2.2).mono ?_
  rintro e z1 ⟨v1, v2, v3, rfl, hv1, hv2, hv3, hBz1⟩
  have HUZ : Hid (RdD z1 _ _ _ L S O) := ⟨hv1, hv2, hv3⟩
  have HBZ1 : Hid (Below w14.heap.size w14 z1) := hBz1
  have HWZ1 : Hid (Below w.heap.size w z1) := HW14.out.trans (hBz1.mono HW14.out.size)
  clear c0 c1 c2 hv1 hv2 hv3 hBz1
  go_wp2_with fail
  refine (toI_any _ Z z1 (HKR.out z1 HWZ1.out) HKZ.out).mono ?_
  rintro e z2 ⟨rfl, hz2, hBz2⟩
  have HIZ : Hid (RdI z2 _ Z) := hz2.rd
  have HUZ2 : Hid (RdD z2 _ _ _ L S O) := HUZ.out.below hBz2
  have HBZ2 : Hid (Below w14.heap.size w14 z2) := HBZ1.out.trans (hBz2.mono HBZ1.out.size)
  clear hz2 hBz2 HUZ
  go_wp2_with fail
  refine (HIM.out z2 _ _ _ _ HUZ2.out HIZ.out).mono ?_
  rintro e z3 ⟨p1, p2, p3, rfl, hp17, _, hBz3⟩
  obtain ⟨ah1, ch1, ah2, ch2, ah3, ch3, e1, e2, e3⟩ := hp17.slices
  rw [← HMM.out] at e1 e2
  subst e1 e2 e3
  have HBZ3 : Hid (Below w14.heap.size w14 z3) := HBZ2.out.trans (hBz3.mono HBZ2.out.size)
  obtain ⟨w17, hw17⟩ : ∃ X5, X5 = z3.alloc (.cells #[.slice ah1 mA ch1, .slice ah2 mA ch2, .slice ah3 0 ch3] 30) := ⟨_, rfl⟩
  have HW17E := (show Hid _ from hw17)
  have hb17 : Below z3.heap.size z3 w17 := by rw [hw17]; exact (Below.refl _ _).alloc (Nat.le_refl _) _
  have HB17 : Hid (Below w14.heap.size w14 w17) := HBZ3.out.trans (hb17.mono HBZ3.out.size)
  have HX417 : Hid (Below w3.heap.size w3 w17) := HX414.out.trans (HB17.out.mono HX414.out.size)
  have HP17 : Hid (RdD w17 (.slice ap1 mA cp1) (.slice ap2 mA cp2) (.slice ap3 0 cp3) AL AL []) := HP3.out.below HX417.out
  have HQ17 : Hid (At3 w17 y3.heap.size 30 (.slice ap1 mA cp1) (.slice ap2 mA cp2) (.slice ap3 0 cp3)) := HQ3.out.below HX417.out
  have HH17 : Hid (RdD w17 (.slice ah1 mA ch1) (.slice ah2 mA ch2) (.slice ah3 0 ch3) AL AL []) := hp17.below hb17
  have HU17 : Hid (At3 w17 z3.heap.size 30 (.slice ah1 mA ch1) (.slice ah2 mA ch2) (.slice ah3 0 ch3)) := by rw [hw17]; exact At3.new _ _ _ _ _
  have HV17 : Hid (At3 w17 bg 30 (.slice ag1 mA cg1) (.slice ag2 mA cg2) (.slice ag3 0 cg3)) := HV14.out.below HB17.out
  have HM17 : Hid (RdD w17 (.slice ag1 mA cg1) (.slice ag2 mA cg2) (.slice ag3 0 cg3) (mkF 1 mA) (mkF (1 + mA * 2) mA) (mkO (1 + mA * 2 + mA * 2) 0)) := HM14.out.below HB17.out
  have c0 := HQ17.out.c0
  have c1 := HQ17.out.c1
  have c2 := HQ17.out.c2
  have d0 := HU17.out.c0
  have d1 := HU17.out.c1
  have d2 := HU17.out.c2
  rw [hw17] at c0 c1 c2 d0 d1 d2
  clear hp17 hBz3 hb17 hw17 HIZ HUZ2
  go_wp2_with fail
  rw [← HW17E.out]
  refine (eqDisk_same _ _ _ _ _ _ AL AL [] w17 HH17.out.1 HH17.out.2.1 HH17.out.2.2 HP17.out.1 HP17.out.2.1 HP17.out.2.2).mono ?_
  rintro e w18 ⟨rfl, hB18⟩
  have HX418 : Hid (Below w3.heap.size w3 w18) := HX417.out.trans (hB18.mono HX417.out.size)
  have HV18 : Hid (At3 w18 bg 30 (.slice ag1 mA cg1) (.slice ag2 mA cg2) (.slice ag3 0 cg3)) := HV17.out.below hB18
  have HM18 : Hid (RdD w18 (.slice ag1 mA cg1) (.slice ag2 mA cg2) (.slice ag3 0 cg3) (mkF 1 mA) (mkF (1 + mA * 2) mA) (mkO (1 + mA * 2 + mA * 2) 0)) := HM17.out.below hB18
  clear c0 c1 c2 d0 d1 d2 hB18
  have d0 := HV18.out.c0
  have d1 := HV18.out.c1
  have d2 := HV18.out.c2
  go_wp2_with fail
  refine (heldDisk_any _ _ _ mA mA 0 1 w18 HM18.out (by omega) HNR.out).mono ?_
  rintro e w19 ⟨rfl, hB19⟩
  rw [← HT.out]
  have HX419 : Hid (Below w3.heap.size w3 w19) := HX418.out.trans (hB19.mono HX418.out.size)
  clear d0 d1 d2 hB19
  go_wp2
  go_ret
  exact ⟨rfl, HW3.out.trans (HX419.out.mono HW3.out.size)⟩
end Go.Proofs.Ytdlkokdhbffhpaa
