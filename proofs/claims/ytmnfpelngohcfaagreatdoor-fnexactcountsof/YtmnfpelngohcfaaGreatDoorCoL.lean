/-
  A tally as a list. No condition.
-/
import Derived.Test.YtmnfpelngohcfaaGreatDoorIL
namespace Go.Proofs.YtmnfpelngohcfaaGreatDoor
open Go.RowKit
set_option linter.unusedVariables false

def lst9 (X : Nat → Int) : List Int := (List.range 9).map X
theorem lst9_len (X : Nat → Int) : (lst9 X).length = 9 := by unfold lst9; simp
def arr9 (X : Nat → Int) : Array Value := ((lst9 X).map (Value.int .i64 ·)).toArray
theorem arr9_list (X : Nat → Int) : (arr9 X).toList = (lst9 X).map (.int .i64 ·) := rfl
theorem arr9_size (X : Nat → Int) : (arr9 X).size = 9 := by unfold arr9 lst9; simp
theorem arr9_at (X : Nat → Int) {i : Nat} (h : i < 9) : (arr9 X)[i]? = some (.int .i64 (X i)) := by
  unfold arr9 lst9
  simp [h]
theorem arr9_one (X : Nat → Int) : (arr9 X).all (·.oneCell') = true := by
  unfold arr9 lst9
  simp [Value.oneCell']
theorem arr9_ext {X Y : Nat → Int} (h : ∀ i, i < 9 → X i = Y i) : arr9 X = arr9 Y := by
  unfold arr9 lst9
  congr 2
  exact List.map_congr_left (fun i hi => h i (List.mem_range.1 hi))
theorem arr9_set (X : Nat → Int) {k : Nat} (h : k < 9) (z : Int) : (arr9 X).setIfInBounds k (.int .i64 z) = arr9 (fun i => if i = k then z else X i) := by
  apply Array.ext'
  rw [Array.toList_setIfInBounds, arr9_list, arr9_list]
  apply List.ext_getElem?
  intro j
  unfold lst9
  by_cases hj : j < 9
  · by_cases e : k = j
    · subst e
      rw [List.getElem?_set_self (by simp; omega)]
      simp [hj]
    · rw [List.getElem?_set_ne e]
      simp [hj, Ne.symm e]
  · rw [List.getElem?_eq_none (by simp; omega), List.getElem?_eq_none (by simp; omega)]
theorem setC_heap {w : World} {B o : Nat} {v : Value} {cs : Array Value} {T : TypeId} {fr : Nat × Nat} (h : w.heap[B]? = some (.cells cs T fr)) : (w.setCell ⟨B, o, none⟩ v).heap[B]? = some (.cells (cs.setIfInBounds o v) T fr) := by
  simp [World.setCell, Array.getElem?_modify, h]
theorem cellC {w : World} {b i : Nat} {cs : Array Value} {t : TypeId} (h : w.heap[b]? = some (.cells cs t (0, 0))) : w.cell? ⟨b, i, none⟩ = cs[i]? := by simp [World.cell?, h]
theorem frozC {w : World} {b i : Nat} {cs : Array Value} {t : TypeId} (h : w.heap[b]? = some (.cells cs t (0, 0))) : w.frozen? ⟨b, i, none⟩ = false := by simp [World.frozen?, h]

theorem nilS (a : Addr) (n c : Nat) (w : World) : (binOp .eql 29 (.slice (some a) n c) (.slice none 0 0)).run Tryz.prog w = .ok (.bool false) w := by kernel_rfl

set_option maxHeartbeats 1000000 in
theorem clone_any (b c : Nat) (X : Nat → Int) (w : World) (hb : w.heap[b]? = some (.cells (arr9 X) 56)) :
    Calls Tryz.prog 44 #[.slice (some ⟨b, 0, none⟩) 9 9] w fun e w' => ∃ v, e = .returned v ∧ OwnI w' w.heap.size v (lst9 X) ∧ Below w.heap.size w w' := by
  obtain ⟨i0, hi, hz0, hz1, hz2⟩ := info_parts infoI
  have HM : Hid (∀ j u, ((lst9 X).map (Value.int .i64 ·))[j]? = some u → (w.alloc (.cells #[] 2)).cell? ((⟨b, 0, none⟩ : Addr).add j) = some u) := fun j u hu => by
    have hbl := lt_of_block hb
    have hb' : (w.alloc (.cells #[] 2)).heap[b]? = some (.cells (arr9 X) 56) := by rw [Below.heap_alloc _ _ _ hbl]; exact hb
    have e : (⟨b, 0, none⟩ : Addr).add j = ⟨b, j, none⟩ := by unfold Addr.add; split <;> simp_all
    rw [e, cellC hb', ← hu, ← arr9_list]
    simp
  have HO0 : Hid (OwnI (w.alloc (.cells #[] 2)) w.heap.size (.slice (some ⟨w.heap.size, 0, none⟩) 0 0) []) := World.ownsRow_made w #[] 0 (Nat.le_refl _) (by decide) rfl
  have HB0 : Hid (Below w.heap.size w (w.alloc (.cells #[] 2))) := (Below.refl _ _).alloc (Nat.le_refl _) _
  have HLL : Hid (((lst9 X).map (Value.int .i64 ·)).length = 9 * 1) := by show _ = _; rw [List.length_map, lst9_len]
  have HMX : Hid (0 + 9 ≤ maxLen ∧ (0 + 9) * 8 ≤ 140737488355328) := ⟨by unfold maxLen; omega, by omega⟩
  clear hb
  have hnn := nilS ⟨b, 0, none⟩ 9 9
  go_enter Tryz.func44, Tryz.ntmps44
  go_wp2_with (at_builtin; refine wpList_append_own _ rfl _ _ 29 rfl w.heap.size 2 i0 (.int .i64 0) 1 8 Tryz.underlying29 hi hz0 hz1 hz2 rfl (by decide) _ 0 [] rfl HO0.out ⟨b, 0, none⟩ 9 9 ((lst9 X).map (.int .i64 ·)) rfl HLL.out HM.out (by intro u hu; obtain ⟨z, _, rfl⟩ := List.mem_map.1 hu; rfl) HMX.out.1 HMX.out.2 HB0.out.size ?_; intro v4 w4 hown4 hgrow4 hnil4)
  have HF : Hid (OwnI w4 w.heap.size v4 (lst9 X) ∧ Below w.heap.size w w4) := by
    refine ⟨?_, HB0.out.grown hgrow4 HB0.out.size (fun x hx => (World.ownsRow.lt HO0.out x hx).1)⟩
    unfold OwnI
    rw [lst9_len]
    exact hown4
  clear hown4 hgrow4 hnil4
  go_wp2
  go_ret
  exact ⟨_, rfl, HF.out.1, HF.out.2⟩

set_option maxHeartbeats 1000000 in
theorem list_any (X : Nat → Int) (w : World) :
    Calls Tryz.prog 28 #[.agg (arr9 X)] w fun e w' => ∃ v, e = .returned v ∧ OwnI w' w.heap.size v (lst9 X) ∧ Below w.heap.size w w' := by
  obtain ⟨p, hp⟩ : ∃ p, p = arr9 X := ⟨_, rfl⟩
  rw [← hp]
  have HP : Hid (p = arr9 X) := hp
  clear hp
  have HB : Hid (Below w.heap.size w (w.alloc (.cells p 56))) := (Below.refl _ _).alloc (Nat.le_refl _) _
  have HG : Hid ((w.alloc (.cells p 56)).heap[w.heap.size]? = some (.cells (arr9 X) 56)) := by rw [← HP.out]; exact heap_alloc_new _ _
  go_enter Tryz.func28, Tryz.ntmps28
  go_wp2_with fail
  refine (clone_any w.heap.size 9 X _ HG.out).mono ?_
  rintro e w1 ⟨v, rfl, hO, hB⟩
  have HF : Hid (OwnI w1 w.heap.size v (lst9 X) ∧ Below w.heap.size w w1) := ⟨hO.base HB.out.size, HB.out.trans (hB.mono HB.out.size)⟩
  clear hO hB
  go_wp2
  go_ret
  exact ⟨_, rfl, HF.out.1, HF.out.2⟩

end Go.Proofs.YtmnfpelngohcfaaGreatDoor
