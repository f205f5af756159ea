/-
  The library's joining of two lists of ops. No condition but that the slices read and are short.
-/
import Derived.Test.YtbohaefmokbgbaaDkCp
import Derived.Test.YtbohaefmokbgbaaLibG
namespace Go.Proofs.Ytbohaefmokbgbaa
open Go.RowKit Go.Lib
set_option linter.unusedVariables false

theorem cellsO_append (L M : List Dop) : cellsO (L ++ M) = cellsO L ++ cellsO M := by unfold cellsO; simp
theorem zeroCells_size (cs : Array Value) (n : Nat) : (Builtin.zeroCells cs n).size = n * cs.size := by
  simp [Builtin.zeroCells]

theorem grow_any (n : Nat) (z : Int) (hz : z = (n : Int)) (w : World) (hn : n ≤ 1000000) :
    Calls Try.prog 81 #[.slice none 0 0, .int .i64 z] w fun e w' => ∃ v, e = .returned v ∧ OwnO w' w.heap.size v [] ∧ Below w.heap.size w w' := by
  subst hz
  obtain ⟨i0, hi, hz0, hz1, hz2⟩ := info_parts infoDOpT
  by_cases h0 : n = 0
  · subst h0
    refine (Any8.slices_Grow_room Try.growE none 0 0 0 w (Nat.le_refl _) (by omega) (by omega) (by omega)).mono ?_
    rintro e w' ⟨rfl, hw⟩
    rw [hw]
    exact ⟨_, rfl, OwnO.nil _ _, Below.refl _ _⟩
  · have hk := Any8.slices_Grow_grow Try.growE i0 (.agg #[.int .i64 0, .string ⟨#[]⟩, .string ⟨#[]⟩, .string ⟨#[]⟩]) hi hz0 (by rw [hz1]; decide) none 0 0 n [] w (Nat.le_refl _) (by omega) (by rw [hz2]; omega) (by omega) (by simp) (fun _ => rfl) (fun a h => by cases h)
    refine hk.mono ?_
    rintro e w' ⟨rfl, hw⟩
    rw [hw]
    refine ⟨_, rfl, ?_, (Below.refl _ _).drew.alloc (Nat.le_refl _) _⟩
    have hc := grownCap_le_maxLen w (0 + n) 0 49 (by unfold maxLen; omega)
    have hg := grownCap_ge w (0 + n) 0 49
    refine ⟨rfl, .inr ⟨_, _, _, rfl, Nat.le_refl _, heap_alloc_new w.drew _, Nat.zero_le _, hc, ?_, by simp [cellsO]⟩⟩
    rw [Array.size_append, Array.size_append, zeroCells_size, zeroCells_size]
    show 0 + (0 + n - 0) * 4 + (grownCap w (0 + n) 0 49 - (0 + n)) * 4 = grownCap w (0 + n) 0 49 * 4
    omega

set_option maxRecDepth 10000 in
set_option maxHeartbeats 4000000 in
theorem concat_any (G : Nat) (ad1 ad2 : Addr) (c1 c2 : Nat) (A B : List Dop) (w : World) (g0 : w.cell? ⟨G, 0, none⟩ = some (.slice (some ad1) A.length c1)) (g1 : w.cell? ⟨G, 1, none⟩ = some (.slice (some ad2) B.length c2))
    (h1 : ∀ w', Below w.heap.size w w' → ∀ j u, (cellsO A)[j]? = some u → w'.cell? (ad1.add j) = some u) (h2 : ∀ w', Below w.heap.size w w' → ∀ j u, (cellsO B)[j]? = some u → w'.cell? (ad2.add j) = some u) (hA : A.length ≤ 1000) (hB : B.length ≤ 1000) :
    Calls Try.prog 49 #[.slice (some ⟨G, 0, none⟩) 2 2] w fun e w' => ∃ v, e = .returned v ∧ OwnO w' w.heap.size v (A ++ B) ∧ Below w.heap.size w w' := by
  obtain ⟨i0, hi, hz0, hz1, hz2⟩ := info_parts infoDOpT
  have HL1 : Hid (∀ w', Below w.heap.size w w' → ∀ j u, (cellsO A)[j]? = some u → w'.cell? (ad1.add j) = some u) := h1
  have HL2 : Hid (∀ w', Below w.heap.size w w' → ∀ j u, (cellsO B)[j]? = some u → w'.cell? (ad2.add j) = some u) := h2
  have HG : Hid (∀ w', Below w.heap.size w w' → w'.cell? ⟨G, 0, none⟩ = some (.slice (some ad1) A.length c1) ∧ w'.cell? ⟨G, 1, none⟩ = some (.slice (some ad2) B.length c2)) := fun w' hB => ⟨(hB.cell (p := ⟨G, 0, none⟩) (cell_lt g0)).trans g0, (hB.cell (p := ⟨G, 1, none⟩) (cell_lt g0)).trans g1⟩
  clear h1 h2
  obtain ⟨n, hn⟩ : ∃ n, n = A.length := ⟨_, rfl⟩
  obtain ⟨m, hm⟩ : ∃ m, m = B.length := ⟨_, rfl⟩
  have HN : Hid (n = A.length) := hn
  have HM : Hid (m = B.length) := hm
  rw [← hn] at hA g0 HG
  rw [← hm] at hB g1 HG
  clear hn hm
  have k1 : 0 + n ≤ maxLen := by unfold maxLen; omega
  have k2 : (0 + n) * 56 ≤ 140737488355328 := by omega
  have k3 : n + m ≤ maxLen := by unfold maxLen; omega
  have k4 : (n + m) * 56 ≤ 140737488355328 := by omega
  have HK : Hid ((0 + n ≤ maxLen ∧ (0 + n) * 56 ≤ 140737488355328) ∧ (n + m ≤ maxLen ∧ (n + m) * 56 ≤ 140737488355328)) := ⟨⟨k1, k2⟩, k3, k4⟩
  clear k1 k2 k3 k4
  have s1 : decide ((n : Int) < 0) = false := decide_eq_false (by omega)
  have s2 : decide ((n : Int) + (m : Int) < 0) = false := decide_eq_false (by omega)
  go_enter Try.func49, Try.ntmps49
  go_wp2
  refine wp_loop_rounds 3 ?_
  rw [rounds_succ]; go_wp2
  rw [rounds_succ]; go_wp2
  rw [rounds_succ]
  go_wp2_with fail
  refine (grow_any (n + m) _ (by omega) w (by omega)).mono ?_
  rintro e w1 ⟨v1, rfl, hO1, hB1⟩
  have HO1 : Hid (OwnO w1 w.heap.size v1 []) := hO1
  have HB1 : Hid (Below w.heap.size w w1) := hB1
  have HS : Hid (w.heap.size ≤ w1.heap.size) := hB1.size
  have HW1 := (show Hid _ from HL1.out w1 hB1)
  obtain ⟨x0, x1⟩ := HG.out w1 hB1
  clear hO1 hB1
  go_wp2
  refine wp_loop_rounds 3 ?_
  rw [rounds_succ]
  go_wp2_with (at_builtin; refine wpList_append_own _ rfl _ _ 25 rfl w.heap.size 49 i0 (.agg #[.int .i64 0, .string ⟨#[]⟩, .string ⟨#[]⟩, .string ⟨#[]⟩]) 4 56 Try.underlying25 hi hz0 hz1 hz2 rfl (by decide) v1 0 [] rfl HO1.out ad1 n c1 (cellsO A) rfl (by rw [cellsO_len, ← HN.out]) HW1.out (oneO _) HK.out.1.1 HK.out.1.2 HS.out ?_; intro v2 w2 hown hgrow _)
  have hO2 : OwnO w2 w.heap.size v2 A := by
    unfold OwnO
    have h := hown
    rw [Nat.zero_add, List.nil_append, HN.out] at h
    exact h
  have hB2 : Below w.heap.size w w2 := HB1.out.grown hgrow HB1.out.size (fun x hx => (World.ownsRow.lt HO1.out x hx).1)
  have HO2 : Hid (w2.ownsRow w.heap.size 49 4 v2 n (cellsO A)) := by
    have h := hO2
    unfold OwnO at h
    rw [← HN.out] at h
    exact h
  have HB2 : Hid (Below w.heap.size w w2) := hB2
  have HS2 : Hid (w.heap.size ≤ w2.heap.size) := hB2.size
  have HW2 := (show Hid _ from HL2.out w2 hB2)
  obtain ⟨y0, y1⟩ := HG.out w2 hB2
  clear hown hgrow hO2 hB2 x0 x1
  go_wp2
  rw [rounds_succ]
  go_wp2_with (at_builtin; refine wpList_append_own _ rfl _ _ 25 rfl w.heap.size 49 i0 (.agg #[.int .i64 0, .string ⟨#[]⟩, .string ⟨#[]⟩, .string ⟨#[]⟩]) 4 56 Try.underlying25 hi hz0 hz1 hz2 rfl (by decide) v2 n (cellsO A) rfl HO2.out ad2 m c2 (cellsO B) rfl (by rw [cellsO_len, ← HM.out]) HW2.out (oneO _) HK.out.2.1 HK.out.2.2 HS2.out ?_; intro v3 w3 hown hgrow _)
  have hO3 : OwnO w3 w.heap.size v3 (A ++ B) := by
    unfold OwnO
    have h := hown
    rw [← cellsO_append] at h
    rw [List.length_append, ← HN.out, ← HM.out]
    exact h
  have hB3 : Below w.heap.size w w3 := HB2.out.grown hgrow HB2.out.size (fun x hx => (World.ownsRow.lt HO2.out x hx).1)
  have HF : Hid (OwnO w3 w.heap.size v3 (A ++ B) ∧ Below w.heap.size w w3) := ⟨hO3, hB3⟩
  clear hown hgrow hO3 hB3 y0 y1
  go_wp2
  rw [rounds_succ]
  go_wp2
  go_ret
  exact ⟨_, rfl, HF.out.1, HF.out.2⟩
end Go.Proofs.Ytbohaefmokbgbaa
