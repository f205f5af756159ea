/-
  The program's merging of nothing with an empty chain. No condition.
-/
import Derived.Test.YtimgcnhihhoniaaCSame
namespace Go.Proofs.Ytimgcnhihhoniaa
open Go.RowKit Go.Sort Go.Shelf
set_option linter.unusedVariables false

set_option maxRecDepth 10000 in
set_option maxHeartbeats 4000000 in
theorem concat_nil (G b2 o2 c2 : Nat) (w : World) (g0 : w.cell? ⟨G, 0, none⟩ = some (.slice none 0 0)) (g1 : w.cell? ⟨G, 1, none⟩ = some (.slice (some ⟨b2, o2, none⟩) 0 c2)) (hb2 : b2 < w.heap.size) :
    Calls Try.prog 12 #[.slice (some ⟨G, 0, none⟩) 2 2] w fun e w' => ∃ v, e = .returned v ∧ OwnV w' w.heap.size v [] ∧ Below w.heap.size w w' := by
  obtain ⟨i0, hi, hz0, hz1, hz2⟩ := info_parts infoE
  have HG : Hid (∀ w', Below w.heap.size w w' → w'.cell? ⟨G, 0, none⟩ = some (.slice none 0 0) ∧ w'.cell? ⟨G, 1, none⟩ = some (.slice (some ⟨b2, o2, none⟩) 0 c2)) := fun w' hB => ⟨(hB.cell (p := ⟨G, 0, none⟩) (cell_lt g0)).trans g0, (hB.cell (p := ⟨G, 1, none⟩) (cell_lt g0)).trans g1⟩
  go_enter Try.func12, Try.ntmps12
  go_wp2
  refine wp_loop_rounds 3 ?_
  rw [rounds_succ]; go_wp2
  rw [rounds_succ]; go_wp2
  rw [rounds_succ]
  go_wp2_with fail
  refine (grow_any 0 _ rfl w (by omega)).mono ?_
  rintro e w1 ⟨v1, rfl, hO1, hB1⟩
  have HO1 : Hid (w1.ownsRow w.heap.size 36 4 v1 0 []) := hO1
  have HB1 : Hid (Below w.heap.size w w1) := hB1
  have HS : Hid (w.heap.size ≤ w1.heap.size) := hB1.size
  have HW1 : Hid (Lies w1 b2 o2 []) := fun i hi => absurd hi (Nat.not_lt_zero _)
  have HK : Hid (_ ∧ _ ∧ _ ∧ _) := ⟨(cellsL_len []), HW1.out.news, (show 0 + 0 ≤ maxLen by unfold maxLen; omega), (show (0 + 0) * 32 ≤ 140737488355328 by omega)⟩
  obtain ⟨x0, x1⟩ := HG.out w1 hB1
  clear hO1 hB1
  go_wp2
  refine wp_loop_rounds 3 ?_
  rw [rounds_succ]
  go_wp2_with (at_builtin; refine wpList_append_own_none rfl _ _ 24 rfl w.heap.size 36 i0 4 Try.underlying24 hi v1 0 [] rfl HO1.out rfl ?_)
  rw [rounds_succ]
  go_wp2_with (at_builtin; refine wpList_append_own _ rfl _ _ 24 rfl w.heap.size 36 i0 (.agg #[.int .i64 0, .int .i64 0, .int .i64 0, .int .i64 0]) 4 32 Try.underlying24 hi hz0 hz1 hz2 rfl (by decide) v1 0 [] rfl HO1.out ⟨b2, o2, none⟩ 0 c2 (cellsL []) rfl HK.out.1 HK.out.2.1 (oneL _) HK.out.2.2.1 HK.out.2.2.2 HS.out ?_; intro v3 w3 hown hgrow _)
  have HF : Hid (OwnV w3 w.heap.size v3 [] ∧ Below w.heap.size w w3) := ⟨hown, HB1.out.grown hgrow HB1.out.size (fun x hx => (World.ownsRow.lt HO1.out x hx).1)⟩
  clear hown hgrow x0 x1
  go_wp2
  rw [rounds_succ]
  go_wp2
  go_ret
  exact ⟨_, rfl, HF.out.1, HF.out.2⟩

theorem chainL_nil : chainL [] = true := by decide

set_option maxRecDepth 10000 in
set_option maxHeartbeats 4000000 in
theorem implMerged_nil (b2 c2 : Nat) (w : World) (hb2 : b2 < w.heap.size) (hc2 : c2 ≤ 9223372036854775807) :
    Calls Try.prog 6 #[.slice none 0 0, .slice (some ⟨b2, 0, none⟩) 0 c2] w fun e w' => ∃ v, e = .returned (.tuple #[v, .bool true]) ∧ OwnV w' w.heap.size v [] ∧ Below w.heap.size w w' := by
  have HC2 : Hid (∀ w', Below w.heap.size w w' → Calls Try.prog 9 #[.slice (some ⟨b2, 0, none⟩) 0 c2] w' fun e w'' => e = .returned (.bool true) ∧ Below w'.heap.size w' w'') := fun w' hB => implChainL _ _ _ [] w' (fun i hi => absurd hi (Nat.not_lt_zero _)) (by have := hB.size; omega) (Nat.zero_le _) hc2 true chainL_nil
  go_enter Try.func6, Try.ntmps6
  go_wp2_with fail
  refine (implChainV w.heap.size _ [] w (OwnV.nil _ _) true chainL_nil).mono ?_
  rintro e w1 ⟨rfl, hB1⟩
  go_wp2_with fail
  refine (HC2.out _ hB1).mono ?_
  rintro e w2 ⟨rfl, hB2'⟩
  have hB2 : Below w.heap.size w w2 := hB1.trans (hB2'.mono hB1.size)
  clear hB1 hB2'
  have HB2 : Hid (Below w.heap.size w w2) := hB2
  clear hB2
  go_wp2_with fail
  refine (concat_nil w2.heap.size b2 0 c2 _ (cellN (heap_alloc_new _ _)) (cellN (heap_alloc_new _ _)) (by have := HB2.out.size; simp; omega)).mono ?_
  rintro e w3 ⟨v3, rfl, hO3, hB3'⟩
  have hS3 : w.heap.size ≤ (w2.alloc (.cells #[.slice none 0 0, .slice (some ⟨b2, 0, none⟩) 0 c2] 24)).heap.size := by have := HB2.out.size; simp; omega
  have hB3 : Below w.heap.size w w3 := (HB2.out.alloc HB2.out.size _).trans (hB3'.mono hS3)
  have hO3' : OwnV w3 w.heap.size v3 [] := hO3.base hS3
  clear hO3 hB3' hS3
  go_wp2_with fail
  refine (sort_any 14 cmpE swoE cmpEv_lays enters_cmp w.heap.size v3 [] w3 hO3' (by simp)).mono ?_
  rintro e w4 ⟨rfl, L, hp, hs, hO4, hG4⟩
  have hB4 : Below w.heap.size w w4 := hB3.grown hG4 hB3.size (fun x hx => (World.ownsRow.lt hO3' x hx).1)
  obtain rfl : L = [] := hp.eq_nil
  clear hO3' hB3 hG4 hs hp
  go_wp2_with fail
  refine (compact_any w.heap.size v3 [] w4 hO4 (by simp)).mono ?_
  rintro e w5 ⟨v5, rfl, hO5, hG5⟩
  have hB5 : Below w.heap.size w w5 := hB4.grown hG5 hB4.size (fun x hx => (World.ownsRow.lt hO4 x hx).1)
  have HO5 : Hid (OwnV w5 w.heap.size v5 []) := hO5
  have HB5 : Hid (Below w.heap.size w w5) := hB5
  clear hO5 hB5 hO4 hB4 hG5
  go_wp2_with fail
  refine (implChainV w.heap.size v5 [] w5 HO5.out true chainL_nil).mono ?_
  rintro e w6 ⟨rfl, hB6⟩
  go_wp2
  go_ret2
  exact ⟨_, rfl, HO5.out.below hB6, HB5.out.trans (hB6.mono HB5.out.size)⟩

/-- the program's merging, its first chain nil or not -/
theorem implMergedV (base b2 c2 : Nat) (v : Value) (M B : List Ev) (w : World) (h1 : OwnV w base v M) (h2 : OwnE w base b2 c2 B) (hnil : M = [] → B = []) (hm : mergedB M B = true) :
    Calls Try.prog 6 #[v, .slice (some ⟨b2, 0, none⟩) B.length c2] w fun e w' => ∃ v', e = .returned (.tuple #[v', .bool true]) ∧ OwnV w' w.heap.size v' (mergeE M B) ∧ Below w.heap.size w w' := by
  rcases h1.cases with ⟨rfl, rfl⟩ | ⟨g, cap, rfl, hO⟩
  · obtain rfl := hnil rfl
    exact implMerged_nil b2 c2 w h2.lies.2.1 h2.caps.2
  · refine (implMerged_any g 0 cap b2 0 c2 M B w hO.lies.1 hO.lies.2.1 hO.caps.1 hO.caps.2 h2.lies.1 h2.lies.2.1 h2.caps.1 h2.caps.2).mono ?_
    rintro e w' ⟨v', rfl, hg, hB⟩
    rw [hm] at hg ⊢
    rcases hg with ⟨h, _⟩ | ⟨_, hg⟩
    · cases h
    · exact ⟨v', rfl, hg, hB⟩
end Go.Proofs.Ytimgcnhihhoniaa
