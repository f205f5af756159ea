/-
  Tallies: the numbers of a row as an array, and all tallies in a map. No condition but that the slices read.
-/
import Derived.Test.YtjnngncnfbdpkaaRwS
import Derived.Maps.OwnSet
import Derived.Maps.OwnOps
import Derived.Maps.Own
import Derived.Maps.Views
import Derived.Laws.Tables
import Derived.Laws.ResultCell
import Derived.Laws.CopyOwn
namespace Go.Proofs.Ytjnngncnfbdpkaa
open Go.RowKit Go.Maps
set_option linter.unusedVariables false

theorem results_row_tmp {P : Program} {fn : Func} {p u : Tmp} {ty : TypeId} (h : fn.results = #[.cell p ty, .tmp u]) (tmps : Array Value) (w : World) (g : Nat) (t : TypeId) (cs : Array Value) (fr : Nat × Nat) (d : TypeDesc)
    (hp : tmps.getD p undef = .pointer (some ⟨g, 0, none⟩)) (hg : w.heap[g]? = some (.cells cs t fr))
    (hu : P.underlying ty = some d) (hd : (match d with | .struct _ | .array _ _ => true | _ => false) = true) (hi : (P.info? ty).map (·.size) = some cs.size) :
    (results fn tmps).run P w = .ok (.tuple #[.agg cs, tmps.getD u undef]) w := by
  rw [results_cell_tmp h, hp]
  simp [asAddr, run_loadVar_row w g t ty cs fr d hg hu hd hi, Result.andThen]

/-- an array of numbers as its cells -/
def tlC (cs : List Int) : Array Value := (cs.map (fun z => Value.int .i64 z)).toArray
def z9 : List Int := [0, 0, 0, 0, 0, 0, 0, 0, 0]
theorem tlC_size (cs : List Int) : (tlC cs).size = cs.length := by unfold tlC; simp
theorem tlC_one (cs : List Int) : (tlC cs).all (·.oneCell') = true := by
  unfold tlC
  simp [Value.oneCell']
theorem infoT : (Try.prog.info? 52).map (·.size) = some 9 := by kernel_rfl
theorem copy_arr {cs : List Int} (h : cs.length = 9) : (copyTo (fun i => cs.getD i 0) 9 9).toArray = tlC cs := by
  have := copyTo_all cs
  rw [h] at this
  rw [this]
  rfl

set_option maxRecDepth 10000 in
set_option maxHeartbeats 4000000 in
theorem tallyOf_any (u : Value) (cs : List Int) (w : World) (h : RdI w u cs) :
    Calls Try.prog 42 #[u] w fun e w' => e = .returned (.tuple #[.agg (tlC (if csB cs = true then cs else z9)), .bool (csB cs)]) ∧ Below w.heap.size w w' := by
  obtain ⟨a, cap, rfl, hlc, hcm, hc⟩ := h
  obtain ⟨m, hm⟩ : ∃ m, m = cs.length := ⟨_, rfl⟩
  have HM : Hid (m = cs.length) := hm
  obtain ⟨R, hR⟩ : ∃ R, R = if csB cs = true then cs else z9 := ⟨_, rfl⟩
  obtain ⟨ok, hok⟩ : ∃ ok, ok = csB cs := ⟨_, rfl⟩
  have HR : Hid (R = (if csB cs = true then cs else z9) ∧ ok = csB cs) := ⟨hR, hok⟩
  rw [← hm] at hlc hc ⊢
  rw [← hR, ← hok]
  clear hm hR hok
  have HZ : Hid (tlC z9 = #[.int .i64 0, .int .i64 0, .int .i64 0, .int .i64 0, .int .i64 0, .int .i64 0, .int .i64 0, .int .i64 0, .int .i64 0]) := rfl
  have HB2 : Hid (∀ o o', Below w.heap.size w ((w.alloc o).alloc o')) := fun o o' => ((Below.refl _ _).alloc (Nat.le_refl _) _).alloc (by simp) _
  have HB1 : Hid (∀ o, Below w.heap.size w (w.alloc o)) := fun o => (Below.refl _ _).alloc (Nat.le_refl _) _
  by_cases h9 : m = 9
  · subst h9
    have h9b : ((9 : Int) != 9) = false := by decide
    obtain ⟨b, off, rfl, hbs, hcell⟩ := hc (by omega)
    obtain ⟨Z, hZ⟩ : ∃ Z : Nat → Int, Z = fun i => cs.getD i 0 := ⟨_, rfl⟩
    have HZZ : Hid (Z = fun i => cs.getD i 0) := hZ
    have HC : Hid (∀ i, i < 9 → w.cell? ⟨b, off + i, none⟩ = some (.int .i64 (Z i))) := by rw [hZ]; exact hcell
    have HG0 : Hid (∀ o, ((w.alloc (.cells #[.int .i64 0, .int .i64 0, .int .i64 0, .int .i64 0, .int .i64 0, .int .i64 0, .int .i64 0, .int .i64 0, .int .i64 0] 52)).alloc o).heap[w.heap.size]? = some (.cells (tlC z9) 52)) := fun o => by rw [Below.heap_alloc _ _ _ (by simp)]; exact heap_alloc_new _ _
    have HT0 : Hid (∀ o, ((w.alloc o).alloc (.cells #[.int .i64 0, .int .i64 0, .int .i64 0, .int .i64 0, .int .i64 0, .int .i64 0, .int .i64 0, .int .i64 0, .int .i64 0] 52)).heap[w.heap.size + 1]? = some (.cells (copyTo Z 9 0).toArray 52)) := fun o => by
      have h1 : (w.alloc o).heap.size = w.heap.size + 1 := by simp
      have h2 : (copyTo Z 9 0).toArray = #[.int .i64 0, .int .i64 0, .int .i64 0, .int .i64 0, .int .i64 0, .int .i64 0, .int .i64 0, .int .i64 0, .int .i64 0] := rfl
      rw [← h1, h2]
      exact heap_alloc_new _ _
    clear hc hcell hZ
    go_enter Try.func42, Try.ntmps42
    go_wp2
    go_loopw [13] (fun i wr => ∃ (k : Nat) (A : Array Value), k ≤ 9 ∧ i = .int .i64 k ∧ Hid (A = (copyTo Z 9 k).toArray) ∧ Hid (wr.heap[w.heap.size + 1]? = some (.cells A 52)) ∧ Hid (wr.heap[w.heap.size]? = some (.cells (tlC z9) 52)) ∧ Hid (allB (cAt cs) k = true) ∧ Hid (Below w.heap.size w wr)) (fun i _ => 9 - (intOf i).toNat)
    case atStart => exact ⟨0, _, Nat.zero_le _, rfl, rfl, HT0.out _, HG0.out _, rfl, HB2.out _ _⟩
    case round =>
      obtain ⟨k, A, hk, rfl, HA, HT, HG, HK, HB⟩ := hrel
      have hAs : A.size = 9 := by rw [HA.out]; simp [copyTo]
      clear HG0 HT0 HB2 HB1
      by_cases hlt : k < 9
      · have hltI : (k : Int) < 9 := by omega
        have ck := (HB.out.cell (p := ⟨b, off + k, none⟩) hbs).trans (HC.out k hlt)
        obtain ⟨z, hz⟩ : ∃ z, z = Z k := ⟨_, rfl⟩
        rw [← hz] at ck
        have hcz : cAt cs k = inB 0 1000000 z := by rw [hz, HZZ.out]; rfl
        have HZk : Hid (z = Z k) := hz
        have hbad : inB 0 1000000 z = false → R = z9 ∧ ok = false := fun hi => by
          have : csB cs = false := by unfold csB; rw [allB_false (p := cAt cs) (k := k) (by rw [← HM.out]; exact hlt) (by rw [hcz, hi])]; simp
          exact ⟨by rw [HR.out.1, this]; rfl, by rw [HR.out.2, this]⟩
        clear hz
        obtain ⟨q, hq⟩ : ∃ q, q = (#[.int .i64 0, .int .i64 0, .int .i64 0, .int .i64 0, .int .i64 0, .int .i64 0, .int .i64 0, .int .i64 0, .int .i64 0] : Array Value) := ⟨_, rfl⟩
        have hqi : (Try.prog.info? 52).map (·.size) = some q.size := by rw [hq]; exact infoT
        have hqo : (tlC z9).size = q.size := by rw [hq]; rfl
        have hq1 : q.all (·.oneCell') = true := by rw [hq]; simp [Value.oneCell']
        have HQ : Hid (q = tlC z9) := hq
        by_cases hz0 : z < 0
        · have hz0d : decide (z < 0) = true := decide_eq_true hz0
          have HRR : Hid (R = z9 ∧ ok = false) := hbad (by unfold inB; simp; omega)
          clear hbad hcz
          go_wp2_with (refine wpList_store_row rfl 52 _ _ rfl w.heap.size q rfl (congrArg Value.agg hq.symm) 52 _ HG.out hqi hqo hq1 ?_)
          refine bodyPost_ret (results_row_tmp rfl _ _ w.heap.size 52 _ _ _ rfl (setRow_heap _ _ _ _ _ _ HG.out) Try.underlying52 rfl infoT) rfl ⟨by rw [HRR.out.1, HRR.out.2]; rfl, below_setRow HB.out (Nat.le_refl _) _⟩
        · have hz0d : decide (z < 0) = false := decide_eq_false hz0
          by_cases hz1 : 1000000 < z
          · have hz1d : decide ((1000000 : Int) < z) = true := decide_eq_true hz1
            have HRR : Hid (R = z9 ∧ ok = false) := hbad (by unfold inB; simp; omega)
            clear hbad hcz
            go_wp2_with (refine wpList_store_row rfl 52 _ _ rfl w.heap.size q rfl (congrArg Value.agg hq.symm) 52 _ HG.out hqi hqo hq1 ?_)
            refine bodyPost_ret (results_row_tmp rfl _ _ w.heap.size 52 _ _ _ rfl (setRow_heap _ _ _ _ _ _ HG.out) Try.underlying52 rfl infoT) rfl ⟨by rw [HRR.out.1, HRR.out.2]; rfl, below_setRow HB.out (Nat.le_refl _) _⟩
          · have hz1d : decide ((1000000 : Int) < z) = false := decide_eq_false hz1
            have HK' : Hid (allB (cAt cs) (k + 1) = true) := by show _ = _; rw [allB_succ, HK.out, hcz]; unfold inB; simp; omega
            have f1 : wr.frozen? ⟨w.heap.size + 1, k, none⟩ = false := frozN HT.out
            have d1 : ∃ v, wr.cell? ⟨w.heap.size + 1, k, none⟩ = some v := ⟨A[k]'(by omega), by rw [cellN HT.out]; exact Array.getElem?_eq_getElem (by omega)⟩
            obtain ⟨v1, d1⟩ := d1
            have HT' : Hid ((wr.setCell ⟨w.heap.size + 1, k, none⟩ (.int .i64 z)).heap[w.heap.size + 1]? = some (.cells (copyTo Z 9 (k + 1)).toArray 52)) := by
              show _ = _
              rw [heap_setCell_same _ _ _ _ 52 _ HT.out, ← copyTo_set Z 9 k hlt, HA.out, HZk.out]
              simp
            have HG' : Hid ((wr.setCell ⟨w.heap.size + 1, k, none⟩ (.int .i64 z)).heap[w.heap.size]? = some (.cells (tlC z9) 52)) := by
              show _ = _
              rw [Below.heap_setCell _ _ _ _ (by simp)]
              exact HG.out
            have HB' : Hid (Below w.heap.size w (wr.setCell ⟨w.heap.size + 1, k, none⟩ (.int .i64 z))) := HB.out.setCell (p := ⟨w.heap.size + 1, k, none⟩) (by show w.heap.size ≤ w.heap.size + 1; omega) _
            clear hbad hcz hq hqi hqo hq1
            go_wp2
            go_roundw
            case rel => exact ⟨k + 1, _, by omega, by go_num, rfl, HT', HG', HK', HB'⟩
            case measure => simp [intOf]; omega
      · have hke : k = 9 := by omega
        subst hke
        have HRR : Hid (R = cs ∧ ok = true) := by
          have : csB cs = true := by unfold csB; rw [← HM.out, HK.out]; rfl
          exact ⟨by rw [HR.out.1, this]; rfl, by rw [HR.out.2, this]⟩
        have HAe : Hid (A = tlC cs) := by show _ = _; rw [HA.out, HZZ.out]; exact copy_arr HM.out.symm
        have hAi : (Try.prog.info? 52).map (·.size) = some A.size := by rw [hAs]; exact infoT
        have hAo : (tlC z9).size = A.size := by rw [hAs]; rfl
        have hA1 : A.all (·.oneCell') = true := by rw [HAe.out]; exact tlC_one _
        go_wp2_with (first
          | (refine wpList_load_row rfl 52 _ rfl (w.heap.size + 1) rfl 52 A _ _ HT.out Try.underlying52 rfl hAi ?_)
          | (refine wpList_store_row rfl 52 _ _ rfl w.heap.size A rfl rfl 52 _ HG.out hAi hAo hA1 ?_))
        refine bodyPost_ret (results_row_tmp rfl _ _ w.heap.size 52 _ _ _ rfl (setRow_heap _ _ _ _ _ _ HG.out) Try.underlying52 rfl hAi) rfl ⟨by rw [HRR.out.1, HRR.out.2, ← HAe.out]; rfl, below_setRow HB.out (Nat.le_refl _) _⟩
  · have h9b : ((m : Int) != 9) = true := by simp; omega
    have HRR : Hid (R = z9 ∧ ok = false) := by
      have : csB cs = false := by unfold csB; rw [← HM.out, decide_eq_false h9]; rfl
      exact ⟨by rw [HR.out.1, this]; rfl, by rw [HR.out.2, this]⟩
    go_enter Try.func42, Try.ntmps42
    go_wp2
    refine bodyPost_ret (results_row_tmp rfl _ _ w.heap.size 52 _ _ _ rfl (heap_alloc_new _ _) Try.underlying52 rfl infoT) rfl ⟨by rw [HRR.out.1, HRR.out.2]; rfl, HB1.out _⟩
end Go.Proofs.Ytjnngncnfbdpkaa
