/-
  The specification's l1Tree and TermOk return what the plain search returns. No condition but that the slice reads.
-/
import Derived.Test.YtcolcnkjcagbaaaGreatDoorTermAt
namespace Go.Proofs.YtcolcnkjcagbaaaGreatDoor
open Go.RowKit
set_option linter.unusedVariables false

section
variable {Kd N A B : Nat → Int}

/-- the contract of l1Tree at fuel f -/
def Tree (Kd N A B : Nat → Int) (a : Option Addr) (len cap f : Nat) : Prop :=
  ∀ (p : Int) (w : World), 0 ≤ p → p < (f : Int) → p < (len : Int) → IsNodes w a len cap Kd N A B →
    Calls Tryz.prog 113 #[.slice a len cap, .int .i64 p] w fun e w' => e = .returned (.tuple #[.int .i64 (sT Kd A B f p.toNat).1, .int .i64 (sT Kd A B f p.toNat).2]) ∧ Below w.heap.size w w'

theorem sT_leaf {f n : Nat} (h : kidsI (Kd n) = 0) : sT Kd A B (f + 1) n = ((n : Int), 1) := by unfold sT; rw [if_pos h]
theorem sT_one0 {f n : Nat} (h : kidsI (Kd n) = 1) (h1 : n = 0 ∨ A n ≠ (n : Int) - 1) : sT Kd A B (f + 1) n = (-1, 0) := by
  unfold sT; rw [if_neg (by omega), if_pos h, if_pos h1]
theorem sT_one1 {f n : Nat} {x d : Int} (h : kidsI (Kd n) = 1) (h1 : ¬ (n = 0 ∨ A n ≠ (n : Int) - 1)) (e : sT Kd A B f (n - 1) = (x, d)) (hx : x < 0) : sT Kd A B (f + 1) n = (-1, 0) := by
  unfold sT; rw [if_neg (by omega), if_pos h, if_neg h1, e, if_pos hx]
theorem sT_one2 {f n : Nat} {x d : Int} (h : kidsI (Kd n) = 1) (h1 : ¬ (n = 0 ∨ A n ≠ (n : Int) - 1)) (e : sT Kd A B f (n - 1) = (x, d)) (hx : ¬ x < 0) : sT Kd A B (f + 1) n = (x, max 0 d + 1) := by
  unfold sT; rw [if_neg (by omega), if_pos h, if_neg h1, e, if_neg hx]

theorem sT_two0 {f n : Nat} (h : kidsI (Kd n) = 2) (h1 : n = 0 ∨ B n ≠ (n : Int) - 1) : sT Kd A B (f + 1) n = (-1, 0) := by
  unfold sT; rw [if_neg (by omega), if_neg (by omega), if_pos h1]
theorem sT_two1 {f n : Nat} {x d : Int} (h : kidsI (Kd n) = 2) (h1 : ¬ (n = 0 ∨ B n ≠ (n : Int) - 1)) (e : sT Kd A B f (n - 1) = (x, d)) (hx : x < 0) : sT Kd A B (f + 1) n = (-1, 0) := by
  unfold sT; rw [if_neg (by omega), if_neg (by omega), if_neg h1, e, if_pos hx]
theorem sT_two2 {f n : Nat} {x d : Int} (h : kidsI (Kd n) = 2) (h1 : ¬ (n = 0 ∨ B n ≠ (n : Int) - 1)) (e : sT Kd A B f (n - 1) = (x, d)) (hx : ¬ x < 0) (h2 : x = 0 ∨ A n ≠ x - 1) : sT Kd A B (f + 1) n = (-1, 0) := by
  unfold sT; rw [if_neg (by omega), if_neg (by omega), if_neg h1, e, if_neg hx, if_pos h2]
theorem sT_two3 {f n : Nat} {x d y d' : Int} (h : kidsI (Kd n) = 2) (h1 : ¬ (n = 0 ∨ B n ≠ (n : Int) - 1)) (e : sT Kd A B f (n - 1) = (x, d)) (hx : ¬ x < 0) (h2 : ¬ (x = 0 ∨ A n ≠ x - 1)) (e2 : sT Kd A B f (x - 1).toNat = (y, d')) (hy : y < 0) : sT Kd A B (f + 1) n = (-1, 0) := by
  unfold sT; rw [if_neg (by omega), if_neg (by omega), if_neg h1, e, if_neg hx, if_neg h2, e2, if_pos hy]
theorem sT_two4 {f n : Nat} {x d y d' : Int} (h : kidsI (Kd n) = 2) (h1 : ¬ (n = 0 ∨ B n ≠ (n : Int) - 1)) (e : sT Kd A B f (n - 1) = (x, d)) (hx : ¬ x < 0) (h2 : ¬ (x = 0 ∨ A n ≠ x - 1)) (e2 : sT Kd A B f (x - 1).toNat = (y, d')) (hy : ¬ y < 0) : sT Kd A B (f + 1) n = (y, max (max 0 d) d' + 1) := by
  unfold sT; rw [if_neg (by omega), if_neg (by omega), if_neg h1, e, if_neg hx, if_neg h2, e2, if_neg hy]

set_option maxHeartbeats 2000000 in
theorem tree_step {a : Option Addr} {len cap f : Nat} (hlen : len ≤ 40) (hf40 : f ≤ 100) (ih : Tree Kd N A B a len cap f) : Tree Kd N A B a len cap (f + 1) := by
  intro p w hp0 hp1 hp2 h
  obtain ⟨n, rfl⟩ := Int.eq_ofNat_of_zero_le hp0
  rw [Int.toNat_natCast]
  have hn : n < len := by omega
  have hnf : n < f + 1 := by omega
  have IH := (show Hid _ from ih)
  have hI := h
  obtain ⟨hlc, hcm, hc⟩ := h
  obtain ⟨b, off, rfl, hbs, hcell⟩ := hc (by omega)
  obtain ⟨c1, c2, c3, c4⟩ := hcell n hn
  clear hc hcell ih hp0 hp1 hp2
  have hBA : Below w.heap.size w (w.alloc (.cells #[.int .i64 (Kd n), .int .i64 (N n), .int .i64 (A n), .int .i64 (B n)] 158)) := (Below.refl _ _).alloc (Nat.le_refl _) _
  by_cases hk0 : kidsI (Kd n) = 0
  · have hr : Hid (sT Kd A B (f + 1) n = ((n : Int), 1)) := sT_leaf hk0
    go_enter Tryz.func113, Tryz.ntmps113
    go_wp2_with (go_at_call 112; refine (l1Kids_any _ _).mono ?_; rintro e w' ⟨rfl, rfl⟩; rw [hk0])
    refine wp_loop_rounds 1 ?_
    rw [rounds_succ]
    go_wp2
    go_ret2
    exact ⟨ret_val (by rw [hr.out]; simp), hBA⟩
  by_cases hk1 : kidsI (Kd n) = 1
  · clear hk0
    by_cases hA : n = 0 ∨ A n ≠ (n : Int) - 1
    · have hr : Hid (sT Kd A B (f + 1) n = (-1, 0)) := sT_one0 hk1 hA
      go_enter Tryz.func113, Tryz.ntmps113
      go_wp2_with (go_at_call 112; refine (l1Kids_any _ _).mono ?_; rintro e w' ⟨rfl, rfl⟩; rw [hk1])
      refine wp_loop_rounds 1 ?_
      rw [rounds_succ]
      by_cases hn0 : (n : Int) - 1 < 0
      · go_wp2
        go_ret2
        exact ⟨ret_val (by rw [hr.out]; rfl), hBA⟩
      · have hAb : (A n != (n : Int) - 1) = true := by simp; omega
        clear hA
        go_wp2
        go_ret2
        exact ⟨ret_val (by rw [hr.out]; rfl), hBA⟩
    · have hn1 : 1 ≤ n := by omega
      have hAb : (A n != (n : Int) - 1) = false := by simp; omega
      have hn0 : ¬ ((n : Int) - 1 < 0) := by omega
      have HA := (show Hid _ from hA)
      have HK := (show Hid _ from hk1)
      clear hA
      go_enter Tryz.func113, Tryz.ntmps113
      go_wp2_with (go_at_call 112; refine (l1Kids_any _ _).mono ?_; rintro e w' ⟨rfl, rfl⟩; rw [hk1])
      refine wp_loop_rounds 2 ?_
      rw [rounds_succ]
      go_wp2_with fail
      refine (IH.out ((n : Int) - 1) _ (by omega) (by omega) (by omega) (hI.below hBA)).mono ?_
      rintro e w2 ⟨rfl, hB2⟩
      have hBF : Below w.heap.size w w2 := hBA.trans (hB2.mono hBA.size)
      have hsb := sT_bound (Kd := Kd) (A := A) (B := B) f (n - 1)
      rw [show ((n : Int) - 1).toNat = n - 1 by omega]
      cases e2 : sT Kd A B f (n - 1) with
      | mk x d =>
      rw [e2] at hsb
      dsimp only at hsb ⊢
      by_cases hx : x < 0
      · have hr : Hid (sT Kd A B (f + 1) n = (-1, 0)) := sT_one1 HK.out HA.out e2 hx
        clear e2 hk1
        go_wp2
        go_ret2
        exact ⟨ret_val (by rw [hr.out]; rfl), hBF⟩
      · have hr : Hid (sT Kd A B (f + 1) n = (x, max 0 d + 1)) := sT_one2 HK.out HA.out e2 hx
        have hxd : 0 ≤ x ∧ x ≤ 40 ∧ 1 ≤ d ∧ d ≤ 100 := by
          rcases hsb with h | h
          · omega
          · omega
        have hmax : Hid (max 0 d = d) := by show _ = _; omega
        obtain ⟨hx0, hx40, hd1, hdf⟩ := hxd
        clear e2 hk1 hsb
        go_wp2
        rw [rounds_succ]
        go_wp2
        go_ret2
        exact ⟨ret_val (by rw [hr.out, hmax.out]; rfl), hBF⟩
  · have hk2 : kidsI (Kd n) = 2 := by
      have : kidsI (Kd n) = 0 ∨ kidsI (Kd n) = 1 ∨ kidsI (Kd n) = 2 := by
        unfold kidsI
        split
        · omega
        · split
          · omega
          · omega
      omega
    clear hk0 hk1
    have HK := (show Hid _ from hk2)
    by_cases hBn : n = 0 ∨ B n ≠ (n : Int) - 1
    · have hr : Hid (sT Kd A B (f + 1) n = (-1, 0)) := sT_two0 hk2 hBn
      go_enter Tryz.func113, Tryz.ntmps113
      go_wp2_with (go_at_call 112; refine (l1Kids_any _ _).mono ?_; rintro e w' ⟨rfl, rfl⟩; rw [hk2])
      refine wp_loop_rounds 1 ?_
      rw [rounds_succ]
      by_cases hn0 : (n : Int) - 1 < 0
      · go_wp2
        go_ret2
        exact ⟨ret_val (by rw [hr.out]; rfl), hBA⟩
      · have hBb : (B n != (n : Int) - 1) = true := by simp; omega
        clear hBn
        go_wp2
        go_ret2
        exact ⟨ret_val (by rw [hr.out]; rfl), hBA⟩
    · have hn1 : 1 ≤ n := by omega
      have hBb : (B n != (n : Int) - 1) = false := by simp; omega
      have hn0 : ¬ ((n : Int) - 1 < 0) := by omega
      have HB := (show Hid _ from hBn)
      clear hBn
      go_enter Tryz.func113, Tryz.ntmps113
      go_wp2_with (go_at_call 112; refine (l1Kids_any _ _).mono ?_; rintro e w' ⟨rfl, rfl⟩; rw [hk2])
      refine wp_loop_rounds 3 ?_
      rw [rounds_succ]
      go_wp2_with fail
      refine (IH.out ((n : Int) - 1) _ (by omega) (by omega) (by omega) (hI.below hBA)).mono ?_
      rintro e w2 ⟨rfl, hB2⟩
      have hBF : Below w.heap.size w w2 := hBA.trans (hB2.mono hBA.size)
      have hsb := sT_bound (Kd := Kd) (A := A) (B := B) f (n - 1)
      rw [show ((n : Int) - 1).toNat = n - 1 by omega]
      cases e2 : sT Kd A B f (n - 1) with
      | mk x d =>
      rw [e2] at hsb
      dsimp only at hsb ⊢
      by_cases hx : x < 0
      · have hr : Hid (sT Kd A B (f + 1) n = (-1, 0)) := sT_two1 HK.out HB.out e2 hx
        clear e2 hk2
        go_wp2
        go_ret2
        exact ⟨ret_val (by rw [hr.out]; rfl), hBF⟩
      · have hxd : 0 ≤ x ∧ x ≤ (n : Int) - 1 ∧ 1 ≤ d ∧ d ≤ 100 := by
          rcases hsb with h | h
          · omega
          · omega
        obtain ⟨hx0, hx40, hd1, hdf⟩ := hxd
        have hmax : Hid (max 0 d = d) := by show _ = _; omega
        have E2 := (show Hid _ from e2)
        obtain ⟨hc2, hf2⟩ := bcell hB2
        simp only [World.size_alloc] at hc2 hf2
        clear e2 hk2 hsb
        by_cases hAn : x = 0 ∨ A n ≠ x - 1
        · have hr : Hid (sT Kd A B (f + 1) n = (-1, 0)) := sT_two2 HK.out HB.out E2.out hx hAn
          go_wp2
          rw [rounds_succ]
          by_cases hx1 : x - 1 < 0
          · go_wp2
            go_ret2
            exact ⟨ret_val (by rw [hr.out]; rfl), hBF⟩
          · have hAb : (A n != x - 1) = true := by simp; omega
            clear hAn
            go_wp2
            go_ret2
            exact ⟨ret_val (by rw [hr.out]; rfl), hBF⟩
        · have hx1 : 1 ≤ x := by omega
          have hAb : (A n != x - 1) = false := by simp; omega
          have HA := (show Hid _ from hAn)
          clear hAn
          go_wp2
          rw [rounds_succ]
          go_wp2_with fail
          refine (IH.out (x - 1) _ (by omega) (by omega) (by omega) (hI.below hBF)).mono ?_
          rintro e w3 ⟨rfl, hB3⟩
          have hBG : Below w.heap.size w w3 := hBF.trans (hB3.mono hBF.size)
          have hsb := sT_bound (Kd := Kd) (A := A) (B := B) f (x - 1).toNat
          cases e3 : sT Kd A B f (x - 1).toNat with
          | mk y d' =>
          rw [e3] at hsb
          dsimp only at hsb ⊢
          by_cases hy : y < 0
          · have hr : Hid (sT Kd A B (f + 1) n = (-1, 0)) := sT_two3 HK.out HB.out E2.out (by omega) HA.out e3 hy
            clear e3 hc2 hf2
            go_wp2
            go_ret2
            exact ⟨ret_val (by rw [hr.out]; rfl), hBG⟩
          · have hr : Hid (sT Kd A B (f + 1) n = (y, max (max 0 d) d' + 1)) := sT_two4 HK.out HB.out E2.out (by omega) HA.out e3 hy
            have hyd : 0 ≤ y ∧ y ≤ 40 ∧ 1 ≤ d' ∧ d' ≤ 100 := by
              rcases hsb with h | h
              · omega
              · omega
            obtain ⟨hy0, hy40, hd1', hdf'⟩ := hyd
            clear e3 hc2 hf2 hsb
            by_cases hdd : d < d'
            · have hm : Hid (max (max 0 d) d' = d') := by show _ = _; omega
              go_wp2
              rw [rounds_succ]
              go_wp2
              go_ret2
              exact ⟨ret_val (by rw [hr.out, hm.out]; rfl), hBG⟩
            · have hm : Hid (max (max 0 d) d' = d) := by show _ = _; omega
              have hdd' : d' ≤ d := by omega
              go_wp2
              rw [rounds_succ]
              go_wp2
              go_ret2
              exact ⟨ret_val (by rw [hr.out, hm.out]; rfl), hBG⟩

theorem tree_any {a : Option Addr} {len cap : Nat} (hlen : len ≤ 40) : ∀ f, f ≤ 100 → Tree Kd N A B a len cap f
  | 0, _ => fun p w h0 h1 _ _ => by omega
  | f + 1, h => tree_step hlen (by omega) (tree_any hlen f (by omega))

end
end Go.Proofs.YtcolcnkjcagbaaaGreatDoor
