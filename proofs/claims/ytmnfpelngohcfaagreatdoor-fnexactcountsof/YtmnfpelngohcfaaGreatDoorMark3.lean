/-
  Marks written into a dag that the call owns. No condition but that the dag is not too long.
-/
import Derived.Test.YtmnfpelngohcfaaGreatDoorMark2
namespace Go.Proofs.YtmnfpelngohcfaaGreatDoor
open Go.RowKit
set_option linter.unusedVariables false

theorem NOwn.below {w w' : World} {base g len : Nat} {G n : Nat → Nat} (h : NOwn w base g len G n) (hB : Below w.heap.size w w') : NOwn w' base g len G n := by
  obtain ⟨hb, ys, ho, hr⟩ := h
  exact ⟨hb, ys, ownsRow_below ho hB, fun i hi => ⟨(hr i hi).1, (hr i hi).2.1.below hB, (hr i hi).2.2⟩⟩

theorem row_ne {w : World} {g g' n m : Nat} {ys : List Value} (h : w.ownsRow 0 40 6 (.slice (some ⟨g, 0, none⟩) n n) n ys) (h' : Rw w g' m) : g' ≠ g := by
  intro e
  subst e
  obtain ⟨xs, h'⟩ := h'
  rcases h.2 with ⟨h1, _⟩ | ⟨g1, c1, cur1, e1, _, hg1, _⟩
  · simp at h1
  rcases h'.2 with ⟨h2, _⟩ | ⟨g2, c2, cur2, e2, _, hg2, _⟩
  · simp at h2
  simp only [Value.slice.injEq, Option.some.injEq, Addr.mk.injEq, and_true, true_and] at e1 e2
  obtain ⟨rfl, rfl⟩ := e1
  obtain ⟨rfl, rfl⟩ := e2
  rw [hg1] at hg2
  simp at hg2

theorem rw_same {w : World} {g n m : Nat} (h : Rw w g n) (h' : Rw w g m) : n = m := by
  obtain ⟨xs, h⟩ := h
  obtain ⟨xs', h'⟩ := h'
  rcases h.2 with ⟨h1, _⟩ | ⟨g1, c1, cur1, e1, _, hg1, _, _, s1, _⟩
  · simp at h1
  rcases h'.2 with ⟨h2, _⟩ | ⟨g2, c2, cur2, e2, _, hg2, _, _, s2, _⟩
  · simp at h2
  simp only [Value.slice.injEq, Option.some.injEq, Addr.mk.injEq, and_true, true_and] at e1 e2
  obtain ⟨rfl, rfl⟩ := e1
  obtain ⟨rfl, rfl⟩ := e2
  rw [hg1] at hg2
  simp only [Option.some.injEq, Obj.cells.injEq] at hg2
  rw [hg2.1] at s1
  omega

theorem mt_int (z : Int) (n : Nat) (hz : z = (n : Int)) (h0 : 0 < n) (hn : n ≤ 1152921504606846976) (w : World) :
    Calls Tryz.prog 29 #[.int .i64 z] w fun e w' => e = .returned (.string (mt n)) ∧ Below w.heap.size w w' := by
  rw [hz]
  exact mt_any n h0 hn w
theorem markStringS_int (z : Int) (a : Option Addr) (len cap base : Nat) (xs0 : List Value) (k0 : Nat) (hz : z = (k0 : Int)) (w : World) (h : w.ownsRow base 9 1 (.slice a len cap) len xs0) (hk : 0 < k0) (hb : k0 + len ≤ 1152921504606846976) :
    Calls Tryz.prog 30 #[.slice a len cap, .int .i64 z] w fun e w' => e = .returned (.int .i64 ((k0 + len : Nat) : Int)) ∧ w'.ownsRow base 9 1 (.slice a len cap) len (marks k0 len) ∧ w.grownBy w' (Value.slice a len cap).ownBlock := by
  rw [hz]
  exact markStringS_any a len cap base xs0 k0 w h hk hb

theorem kept_setCell {p : Nat → Prop} {a w : World} {b o : Nat} (h : Kept p a w) (hb : ¬ p b) (v : Value) : Kept p a (w.setCell ⟨b, o, none⟩ v) :=
  h.trans ⟨rfl, rfl, rfl, by simp [World.setCell], fun k _ hp => Below.heap_setCell _ _ _ _ (fun e => hb (by rw [← show k = b from e]; exact hp))⟩

set_option maxHeartbeats 2000000 in
theorem markNodeS_any (g len base top : Nat) (G n : Nat → Nat) (w : World) (h : NOwn w base g len G n) (hl : len ≤ 1048576) (hn : ∀ i, i < len → n i ≤ 1048576) (hg : g < top) (hG : ∀ i, i < len → G i < top) :
    Calls Tryz.prog 13 #[.slice (some ⟨g, 0, none⟩) len len, .int .i64 1] w fun e w' => ∃ k : Nat, e = .returned (.int .i64 k) ∧ 0 < k ∧ k ≤ 1099516870657 ∧ Kept (fun b => b < base ∨ top ≤ b) w w' := by
  go_enter Tryz.func13, Tryz.ntmps13
  go_wp2
  go_loopw [1, 5] (fun x i wr => ∃ (j k : Nat), j ≤ len ∧ i = .int .i64 j ∧ x = .int .i64 k ∧ 0 < k ∧ k ≤ 1 + j * 1048581 ∧ NOwn wr base g len G n ∧ Kept (fun b => b < base ∨ top ≤ b) w wr)
    (fun _ i _ => len - (intOf i).toNat)
  case atStart => exact ⟨0, 1, Nat.zero_le _, rfl, rfl, by omega, by omega, h, Kept.refl _ _⟩
  case round =>
    obtain ⟨j, k, hj, rfl, rfl, hk0, hk, hO, hK⟩ := hrel
    by_cases hlt : j < len
    · have hltI : (j : Int) < (len : Int) := by omega
      obtain ⟨hbg, ys, ho, hr⟩ := hO
      have hnj := hn j hlt
      obtain ⟨ry, rr, rb⟩ := hr j hlt
      have hyl : ys.length = len * 6 := ho.1
      have HO : Hid (_) := ho
      have HR : Hid (_) := hr
      have f0 := ho.frozenAt (j * 6)
      obtain ⟨z0, y0⟩ := own_some ho (j * 6) (by omega)
      have f1 := ho.frozenAt (j * 6 + 1)
      obtain ⟨z1, y1⟩ := own_some ho (j * 6 + 1) (by omega)
      have f2 := ho.frozenAt (j * 6 + 2)
      obtain ⟨z2, y2⟩ := own_some ho (j * 6 + 2) (by omega)
      clear ho hr h
      go_wp2_with fail
      obtain ⟨wa, hwa⟩ : ∃ wa, wa = ((wr.setCell ⟨g, j * 6, none⟩ (.int .i64 (k : Int))).setCell ⟨g, j * 6 + 1, none⟩ (.int .i64 ((k : Int) + 1))).setCell ⟨g, j * 6 + 2, none⟩ (.int .i64 ((k : Int) + 1 + 1)) := ⟨_, rfl⟩
      rw [← hwa]
      have hoa : wa.ownsRow 0 40 6 (.slice (some ⟨g, 0, none⟩) len len) len (((ys.set (j * 6) (.int .i64 (k : Int))).set (j * 6 + 1) (.int .i64 ((k : Int) + 1))).set (j * 6 + 2) (.int .i64 ((k : Int) + 1 + 1))) := by
        rw [hwa]
        exact (((((World.ownsRow.stored HO.out _ _).1).stored _ _).1).stored _ _).1
      have hra : ∀ i, i < len → Rw wa (G i) (n i) := fun i hi => by
        have hne := row_ne HO.out (HR.out i hi).2.1
        rw [hwa]
        exact (((HR.out i hi).2.1.setCell hne).setCell hne).setCell hne
      have hgb : ¬ (g < base ∨ top ≤ g) := by omega
      have hKa : Kept (fun b => b < base ∨ top ≤ b) w wa := by
        rw [hwa]
        exact kept_setCell (kept_setCell (kept_setCell hK hgb _) hgb _) hgb _
      clear hwa f0 y0 f1 y1 f2 y2 hK
      refine (mt_int _ (k + 3) (by omega) (by omega) (by omega) _).mono ?_
      rintro e w1 ⟨rfl, hB1⟩
      have ho1 := ownsRow_below hoa hB1
      have hr1 : ∀ i, i < len → Rw w1 (G i) (n i) := fun i hi => (hra i hi).below hB1
      have hK1 : Kept (fun b => b < base ∨ top ≤ b) w w1 := hKa.trans (Kept.of_below hB1)
      have f3 := ho1.frozenAt (j * 6 + 3)
      obtain ⟨z3, y3⟩ := own_some ho1 (j * 6 + 3) (by omega)
      have HO1 : Hid (_) := ho1
      have HR1 : Hid (_) := hr1
      have HK1 : Hid (_) := hK1
      clear hoa hra hKa ho1 hr1 hK1 hB1
      go_wp2_with fail
      obtain ⟨wb, hwb⟩ : ∃ wb, wb = w1.setCell ⟨g, j * 6 + 3, none⟩ (.string (mt (k + 3))) := ⟨_, rfl⟩
      rw [← hwb]
      have hob := (World.ownsRow.stored HO1.out (j * 6 + 3) (.string (mt (k + 3)))).1
      have hrb : ∀ i, i < len → Rw wb (G i) (n i) := fun i hi => by
        rw [hwb]
        exact (HR1.out i hi).setCell (row_ne HO1.out (HR1.out i hi))
      have hKb : Kept (fun b => b < base ∨ top ≤ b) w wb := by
        rw [hwb]
        exact kept_setCell HK1.out hgb _
      rw [← hwb] at hob
      clear hwb f3 y3 HO1 HR1 HK1
      refine (mt_int _ (k + 4) (by omega) (by omega) (by omega) _).mono ?_
      rintro e w2 ⟨rfl, hB2⟩
      have ho2 := ownsRow_below hob hB2
      have hr2 : ∀ i, i < len → Rw w2 (G i) (n i) := fun i hi => (hrb i hi).below hB2
      have hK2 : Kept (fun b => b < base ∨ top ≤ b) w w2 := hKb.trans (Kept.of_below hB2)
      have f4 := ho2.frozenAt (j * 6 + 4)
      obtain ⟨z4, y4⟩ := own_some ho2 (j * 6 + 4) (by omega)
      have y5 : w2.cell? ⟨g, j * 6 + 5, none⟩ = some (.slice (some ⟨G j, 0, none⟩) (n j) (n j)) := by
        rw [ho2.cellAt _ (by omega), List.getElem?_set_ne (by omega), List.getElem?_set_ne (by omega), List.getElem?_set_ne (by omega), List.getElem?_set_ne (by omega)]
        exact ry
      have HO2 : Hid (_) := ho2
      have HR2 : Hid (_) := hr2
      have HK2 : Hid (_) := hK2
      clear hob hrb hKb ho2 hr2 hK2 hB2
      go_wp2_with fail
      obtain ⟨wc, hwc⟩ : ∃ wc, wc = w2.setCell ⟨g, j * 6 + 4, none⟩ (.string (mt (k + 4))) := ⟨_, rfl⟩
      rw [← hwc]
      have hoc := (World.ownsRow.stored HO2.out (j * 6 + 4) (.string (mt (k + 4)))).1
      have hrc : ∀ i, i < len → Rw wc (G i) (n i) := fun i hi => by
        rw [hwc]
        exact (HR2.out i hi).setCell (row_ne HO2.out (HR2.out i hi))
      have hKc : Kept (fun b => b < base ∨ top ≤ b) w wc := by
        rw [hwc]
        exact kept_setCell HK2.out hgb _
      rw [← hwc] at hoc
      clear hwc f4 y4 y5 HO2 HR2 HK2
      obtain ⟨xs0, hx0⟩ := hrc j hlt
      refine (markStringS_int _ _ _ _ 0 xs0 (k + 5) (by omega) _ hx0 (by omega) (by omega)).mono ?_
      rintro e w3 ⟨rfl, ho3, hG3⟩
      have hneg := row_ne hoc (hrc j hlt)
      have ho4 := hoc.kept hG3 (.inr (by simp [Value.ownBlock]; exact fun e => hneg e.symm))
      have hr4 : ∀ i, i < len → Rw w3 (G i) (n i) := fun i hi => by
        by_cases he : G i = G j
        · have hnn := rw_same (show Rw wc (G j) (n i) by rw [← he]; exact hrc i hi) (hrc j hlt)
          rw [he, hnn]
          exact ⟨_, ho3⟩
        · exact (hrc i hi).kept (hG3.block _ (hrc i hi).lt (by simp [Value.ownBlock]; exact he))
      have hK4 : Kept (fun b => b < base ∨ top ≤ b) w w3 := hKc.trans (Kept.of_grown hG3 (fun b hb => by
        simp [Value.ownBlock] at hb
        have := hG j hlt
        omega))
      have HF : Hid (NOwn w3 base g len G n ∧ Kept (fun b => b < base ∨ top ≤ b) w w3) := by
        refine ⟨⟨hbg, _, ho4, fun i hi => ⟨?_, hr4 i hi, (HR.out i hi).2.2⟩⟩, hK4⟩
        rw [List.getElem?_set_ne (by omega), List.getElem?_set_ne (by omega), List.getElem?_set_ne (by omega), List.getElem?_set_ne (by omega), List.getElem?_set_ne (by omega)]
        exact (HR.out i hi).1
      clear hoc hrc hKc hx0 ho3 hG3 ho4 hr4 hK4 HO HR ry rr
      go_wp2
      go_roundw
      case rel => exact ⟨j + 1, k + 5 + n j, by omega, by go_num, by go_num, by omega, by omega, HF.out.1, HF.out.2⟩
      case measure => simp [intOf]; omega
    · have hje : j = len := by omega
      subst hje
      go_wp2
      go_ret
      exact ⟨k, rfl, hk0, by omega, hK⟩
end Go.Proofs.YtmnfpelngohcfaaGreatDoor
