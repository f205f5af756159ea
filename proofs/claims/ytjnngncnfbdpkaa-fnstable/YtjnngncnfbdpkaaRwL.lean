/-
  The numbers of one, as the specification finds them; the lesser of two tallies; a tally as a list. No condition but that the slices read.
-/
import Derived.Test.YtjnngncnfbdpkaaRwU
import Derived.StillTailTactics
namespace Go.Proofs.Ytjnngncnfbdpkaa
open Go.RowKit Go.Maps
set_option linter.unusedVariables false

/-- the numbers of one, noughts where there is no row -/
def ofR (L : List Rw) (z : Int) : List Int := (lookR L z).getD z9
theorem lookR_yes {L : List Rw} {z : Int} {k : Nat} (hk : k < L.length) (hb : ∀ j, j < k → (L.getD j rwZ).who ≠ z) (hz : (L.getD k rwZ).who = z) : lookR L z = some (L.getD k rwZ).cs := by
  unfold lookR
  have h1 : L.find? (fun x => x.who == z) = some (L.getD k rwZ) := by
    rw [List.find?_eq_some_iff_getElem]
    refine ⟨by simpa using hz, k, hk, by simp [hk], fun j hj => ?_⟩
    have := hb j hj
    simpa [show j < L.length by omega] using this
  rw [h1]; rfl
theorem lookR_no {L : List Rw} {z : Int} (hb : ∀ j, j < L.length → (L.getD j rwZ).who ≠ z) : lookR L z = none := by
  unfold lookR
  have h1 : L.find? (fun x => x.who == z) = none := by
    rw [List.find?_eq_none]
    intro x hx
    obtain ⟨j, hj, rfl⟩ := List.getElem_of_mem hx
    have := hb j hj
    simpa [hj] using this
  rw [h1]; rfl

set_option maxRecDepth 10000 in
set_option maxHeartbeats 2000000 in
theorem of_any (v : Value) (L : List Rw) (z : Int) (w : World) (h : RdR w v L) :
    Calls Try.prog 24 #[v, .int .i64 z] w fun e w' => ∃ u, e = .returned u ∧ RdI w' u (ofR L z) ∧ Below w.heap.size w w' := by
  obtain ⟨a, cap, rfl, hlc, hcm, hc⟩ := h
  obtain ⟨n, hn⟩ : ∃ n, n = L.length := ⟨_, rfl⟩
  have HN : Hid (n = L.length) := hn
  rw [← hn] at hlc hc ⊢
  clear hn
  obtain ⟨i0, hi, hz0, hz1, hz2⟩ := info_parts infoI
  have hb2 : i0.bytes * 9 ≤ 281474976710656 := by rw [hz2]; omega
  have hb3 : 9 ≤ maxLen := by unfold maxLen; omega
  go_enter Try.func24, Try.ntmps24
  go_wp2
  go_loopw [5] (fun i wr => ∃ (k : Nat), k ≤ n ∧ i = .int .i64 k ∧ Hid (∀ j, j < k → (L.getD j rwZ).who ≠ z) ∧ Hid (Below w.heap.size w wr)) (fun i _ => n - (intOf i).toNat)
  case atStart => exact ⟨0, Nat.zero_le _, rfl, fun j hj => absurd hj (Nat.not_lt_zero _), Below.refl _ _⟩
  case round =>
    obtain ⟨k, hk, rfl, HA, HB⟩ := hrel
    by_cases hlt : k < n
    · have hltI : (k : Int) < (n : Int) := by omega
      obtain ⟨b, off, rfl, hbs, hcell⟩ := hc (by omega)
      obtain ⟨c0, u, c1, c2⟩ := hcell k hlt
      have d0 := (HB.out.cell (p := ⟨b, off + k * 2, none⟩) hbs).trans c0
      have d1 := (HB.out.cell (p := ⟨b, off + k * 2 + 1, none⟩) hbs).trans c1
      have d2 := c2.below HB.out
      obtain ⟨y, hy⟩ : ∃ y, y = L.getD k rwZ := ⟨_, rfl⟩
      rw [← hy] at d0 d2
      have HY : Hid (y = L.getD k rwZ) := hy
      have HD : Hid (RdI wr u y.cs) := d2
      clear hcell hc c0 c1 c2 hy d2
      by_cases he : y.who = z
      · have heb : (y.who == z) = true := by simpa using he
        have HF : Hid (RdI wr u (ofR L z)) := by
          show RdI _ _ _
          unfold ofR
          rw [lookR_yes (k := k) (by rw [← HN.out]; exact hlt) HA.out (by rw [← HY.out]; exact he), ← HY.out]
          exact HD.out
        clear he
        go_wp2
        go_ret
        exact ⟨_, rfl, HF.out, HB.out⟩
      · have heb : (y.who == z) = false := by simpa using he
        have HA' : Hid (∀ j, j < k + 1 → (L.getD j rwZ).who ≠ z) := fun j hj => by
          rcases Nat.lt_succ_iff_lt_or_eq.1 hj with h1 | rfl
          · exact HA.out j h1
          · rw [← HY.out]; exact he
        clear he
        go_wp2
        go_roundw
        case rel => exact ⟨k + 1, by omega, by go_num, HA', HB⟩
        case measure => simp [intOf]; omega
    · have hke : k = n := by omega
      subst hke
      have HO : Hid (ofR L z = z9) := by show _ = _; unfold ofR; rw [lookR_no (by rw [← HN.out]; exact HA.out)]; rfl
      clear hc
      go_wp2_with (at_make; refine wpList_make_full _ rfl _ _ 36 rfl w.heap.size 2 i0 (.int .i64 0) 1 Try.underlying36 hi hz0 hz1 .i64 .i64 _ _ 9 rfl rfl rfl rfl hb2 hb3 HB.out.size ?_; intro w1 hown hgrow)
      rw [show (madeCells (Value.int .i64 0).cells (9 * 1)).toList = z9.map (.int .i64 ·) from (made_ints (fun _ => 0) 9).trans rfl] at hown
      have HF : Hid (RdI w1 (.slice (some ⟨wr.heap.size, 0, none⟩) 9 9) z9) := OwnI.rd (base := w.heap.size) (by unfold OwnI; exact hown)
      have HB1 : Hid (Below w.heap.size w w1) := HB.out.grown hgrow HB.out.size (fun k hk => by cases hk)
      clear hown hgrow
      go_wp2
      go_ret
      exact ⟨_, rfl, by rw [HO.out]; exact HF.out, HB1.out⟩

/-- number by number the lesser one -/
def minZ (X Y : Nat → Int) : Nat → Int := fun i => min (X i) (Y i)
def arr9 (X : Nat → Int) : Array Value := (copyTo X 9 9).toArray
theorem arr9_size (X : Nat → Int) : (arr9 X).size = 9 := by unfold arr9 copyTo; simp
theorem arr9_at (X : Nat → Int) {i : Nat} (h : i < 9) : (arr9 X)[i]? = some (.int .i64 (X i)) := by
  unfold arr9 copyTo
  simp [h]
theorem arr9_one (X : Nat → Int) : (arr9 X).all (·.oneCell') = true := by
  unfold arr9 copyTo
  simp [Value.oneCell']

/-- what is written when k rounds are over -/
def mixZ (X Y : Nat → Int) (k : Nat) : Nat → Int := fun i => if i < k then minZ X Y i else X i
theorem arr9_ext {X Y : Nat → Int} (h : ∀ i, i < 9 → X i = Y i) : arr9 X = arr9 Y := by
  unfold arr9 copyTo
  congr 1
  refine List.map_congr_left fun i hi => ?_
  rw [h i (List.mem_range.1 hi)]
theorem arr9_set {X Y : Nat → Int} {k : Nat} (hk : k < 9) (v : Int) (hv : v = minZ X Y k) : (arr9 (mixZ X Y k)).setIfInBounds k (.int .i64 v) = arr9 (mixZ X Y (k + 1)) := by
  apply Array.ext'
  unfold arr9 copyTo
  simp only [Array.toList_setIfInBounds]
  apply List.ext_getElem?
  intro i
  rw [List.getElem?_set]
  by_cases hik : k = i
  · subst hik
    rw [if_pos rfl, hv]
    simp [hk, mixZ]
  · rw [if_neg hik]
    by_cases h : i < 9
    · have e : (i < k) ↔ (i < k + 1) := by omega
      simp [h, mixZ, e]
    · simp [h]

set_option maxRecDepth 10000 in
set_option maxHeartbeats 2000000 in
theorem lowered_any (X Y : Nat → Int) (w : World) :
    Calls Try.prog 39 #[.agg (arr9 X), .agg (arr9 Y)] w fun e w' => e = .returned (.agg (arr9 (minZ X Y))) ∧ Below w.heap.size w w' := by
  obtain ⟨p, hp⟩ : ∃ p, p = arr9 X := ⟨_, rfl⟩
  obtain ⟨q, hq⟩ : ∃ q, q = arr9 Y := ⟨_, rfl⟩
  rw [← hp, ← hq]
  have HP : Hid (p = arr9 (mixZ X Y 0)) := by show _ = _; rw [hp]; exact arr9_ext fun i _ => by unfold mixZ; rw [if_neg (by omega)]
  have HQ : Hid (q = arr9 Y) := hq
  clear hp hq
  obtain ⟨W, hW⟩ : ∃ W, W = ((w.alloc (.cells p 52)).alloc (.cells q 52)).alloc (.cells #[.int .i64 0, .int .i64 0, .int .i64 0, .int .i64 0, .int .i64 0, .int .i64 0, .int .i64 0, .int .i64 0, .int .i64 0] 52) := ⟨_, rfl⟩
  have HBW : Hid (Below w.heap.size w W) := by rw [hW]; exact (((Below.refl _ _).alloc (Nat.le_refl _) _).alloc (by simp) _).alloc (by simp; omega) _
  have HG0 : Hid (W.heap[w.heap.size]? = some (.cells p 52)) := by rw [hW, Below.heap_alloc _ _ _ (by simp; omega), Below.heap_alloc _ _ _ (by simp)]; exact heap_alloc_new _ _
  have HG1 : Hid (W.heap[w.heap.size + 1]? = some (.cells q 52)) := by
    show _ = _
    rw [hW, Below.heap_alloc _ _ _ (by simp)]
    have := heap_alloc_new (w.alloc (.cells p 52)) (.cells q 52)
    rw [World.size_alloc] at this
    exact this
  have HG2 : Hid (W.heap[w.heap.size + 1 + 1]? = some (.cells (tlC z9) 52)) := by
    show _ = _
    rw [hW]
    have := heap_alloc_new ((w.alloc (.cells p 52)).alloc (.cells q 52)) (.cells #[.int .i64 0, .int .i64 0, .int .i64 0, .int .i64 0, .int .i64 0, .int .i64 0, .int .i64 0, .int .i64 0, .int .i64 0] 52)
    rw [World.size_alloc, World.size_alloc] at this
    exact this
  have HW : Hid (W = ((w.alloc (.cells p 52)).alloc (.cells q 52)).alloc (.cells #[.int .i64 0, .int .i64 0, .int .i64 0, .int .i64 0, .int .i64 0, .int .i64 0, .int .i64 0, .int .i64 0, .int .i64 0] 52)) := hW
  clear hW
  go_enter Try.func39, Try.ntmps39
  go_wp2
  rw [← HW.out]
  go_loopw [6] (fun i wr => ∃ (k : Nat), k ≤ 9 ∧ i = .int .i64 k ∧ Hid (wr.heap[w.heap.size]? = some (.cells (arr9 (mixZ X Y k)) 52) ∧ wr.heap[w.heap.size + 1]? = some (.cells (arr9 Y) 52) ∧ wr.heap[w.heap.size + 1 + 1]? = some (.cells (tlC z9) 52)) ∧ Hid (Below w.heap.size w wr)) (fun i _ => 9 - (intOf i).toNat)
  case atStart => exact ⟨0, Nat.zero_le _, rfl, ⟨by rw [← HP.out]; exact HG0.out, by rw [← HQ.out]; exact HG1.out, HG2.out⟩, HBW⟩
  case round =>
    obtain ⟨k, hk, rfl, HG, HB⟩ := hrel
    by_cases hlt : k < 9
    · have hltI : (k : Int) < 9 := by omega
      obtain ⟨x, hx⟩ : ∃ x, x = mixZ X Y k k := ⟨_, rfl⟩
      obtain ⟨y, hy⟩ : ∃ y, y = Y k := ⟨_, rfl⟩
      obtain ⟨wd, hwd⟩ : ∃ wd, wd = wr.drew := ⟨_, rfl⟩
      have hsame : wd.heap = wr.heap := by rw [hwd]; rfl
      have g0 : wd.heap[w.heap.size]? = some (.cells (arr9 (mixZ X Y k)) 52) := by rw [hsame]; exact HG.out.1
      have g1 : wd.heap[w.heap.size + 1]? = some (.cells (arr9 Y) 52) := by rw [hsame]; exact HG.out.2.1
      have c0 : wd.cell? ⟨w.heap.size, k, none⟩ = some (.int .i64 x) := by rw [cellN g0, arr9_at _ hlt, hx]
      have c1 : wd.cell? ⟨w.heap.size + 1, k, none⟩ = some (.int .i64 y) := by rw [cellN g1, arr9_at _ hlt, hy]
      have f0 : wd.frozen? ⟨w.heap.size, k, none⟩ = false := frozN g0
      have HV : Hid ((if y < x then y else x) = minZ X Y k) := by
        show _ = _
        have e : x = X k := by rw [hx]; unfold mixZ; rw [if_neg (by omega)]
        rw [e, hy]
        unfold minZ
        split <;> omega
      have HF : Hid ((wd.setCell ⟨w.heap.size, k, none⟩ (.int .i64 (if y < x then y else x))).heap[w.heap.size]? = some (.cells (arr9 (mixZ X Y (k + 1))) 52) ∧ (wd.setCell ⟨w.heap.size, k, none⟩ (.int .i64 (if y < x then y else x))).heap[w.heap.size + 1]? = some (.cells (arr9 Y) 52) ∧ (wd.setCell ⟨w.heap.size, k, none⟩ (.int .i64 (if y < x then y else x))).heap[w.heap.size + 1 + 1]? = some (.cells (tlC z9) 52)) := by
        refine ⟨?_, ?_, ?_⟩
        · rw [heap_setCell_same _ _ _ _ 52 _ g0, arr9_set hlt _ HV.out]
        · rw [Below.heap_setCell _ _ _ _ (by simp)]; exact g1
        · rw [Below.heap_setCell _ _ _ _ (by simp; omega), hsame]; exact HG.out.2.2
      have HB' : Hid (Below w.heap.size w (wd.setCell ⟨w.heap.size, k, none⟩ (.int .i64 (if y < x then y else x)))) := by
        have : Below w.heap.size w wd := by rw [hwd]; exact HB.out.drew
        exact this.setCell (p := ⟨w.heap.size, k, none⟩) (Nat.le_refl _) _
      clear g0 g1 hx hy hsame
      go_wp2
      refine wp_region_still_tail 9 (by kernel_rfl) (by kernel_rfl) ?_
      simp only [List.take_succ_cons, List.take_zero, List.drop_succ_cons, List.drop_zero]
      rw [show ({ wr with drawn := wr.drawn + 1 } : World) = wd from hwd.symm]
      clear hwd
      repeat still_step
      refine wpStill_nil ?_
      go_wp2
      go_roundw
      case rel => exact ⟨k + 1, by omega, by go_num, HF, HB'⟩
      case measure => simp [intOf]; omega
    · have hke : k = 9 := by omega
      subst hke
      obtain ⟨A, hA⟩ : ∃ A, A = arr9 (mixZ X Y 9) := ⟨_, rfl⟩
      have HA : Hid (A = arr9 (minZ X Y)) := by show _ = _; rw [hA]; exact arr9_ext fun i hi => by unfold mixZ; rw [if_pos hi]
      have hAs : A.size = 9 := by rw [hA, arr9_size]
      have hAi : (Try.prog.info? 52).map (·.size) = some A.size := by rw [hAs]; exact infoT
      have hAo : (tlC z9).size = A.size := by rw [hAs]; rfl
      have hA1 : A.all (·.oneCell') = true := by rw [hA]; exact arr9_one _
      have HG0' : Hid (wr.heap[w.heap.size]? = some (.cells A 52)) := by rw [hA]; exact HG.out.1
      clear hA
      go_wp2_with (first
        | (refine wpList_load_row rfl 52 _ rfl w.heap.size rfl 52 A _ _ HG0'.out Try.underlying52 rfl hAi ?_)
        | (refine wpList_store_row rfl 52 _ _ rfl (w.heap.size + 1 + 1) A rfl rfl 52 _ HG.out.2.2 hAi hAo hA1 ?_))
      refine bodyPost_ret (results_cell_row rfl _ _ (w.heap.size + 1 + 1) 52 _ _ _ rfl (setRow_heap _ _ _ _ _ _ HG.out.2.2) Try.underlying52 rfl hAi) rfl ⟨by rw [← HA.out], below_setRow HB.out (by omega) _⟩
end Go.Proofs.Ytjnngncnfbdpkaa
