/-
  The specification's CountsOf. No condition but that the slice reads.
-/
import Derived.Test.YtmnfpelngohcfaaGreatDoorDag7
import Derived.Test.YtmnfpelngohcfaaGreatDoorCoI
import Derived.StillTailTactics
namespace Go.Proofs.YtmnfpelngohcfaaGreatDoor
open Go.RowKit
set_option linter.unusedVariables false

theorem allB_atC {p : Nat → Bool} {n k : Nat} (h : allB p n = true) (hk : k < n) : p k = true := by
  cases h2 : p k with
  | true => rfl
  | false => rw [allB_false hk h2] at h; cases h
theorem arr9_zero : arr9 (fun _ => 0) = #[.int .i64 0, .int .i64 0, .int .i64 0, .int .i64 0, .int .i64 0, .int .i64 0, .int .i64 0, .int .i64 0, .int .i64 0] := rfl
theorem make9 (w : World) : (Instr.makeSlice 29 (.int .i64 9) (.int .i64 9)).run Tryz.prog w = .ok (.slice (some ⟨w.heap.size, 0, none⟩) 9 9) (w.alloc (.cells (arr9 (fun _ => 0)) 2)) := by
  obtain ⟨i0, hi, hz0, hz1, hz2⟩ := info_parts infoI
  have := run_make (P := Tryz.prog) w 29 2 i0 (.int .i64 0) Tryz.underlying29 hi hz0 .i64 .i64 9 9 (by omega) (by omega) (by rw [hz2]; omega) (by omega)
  rw [hz1] at this
  have hm : madeCells #[Value.int IntKind.i64 0] 9 = arr9 (fun _ => 0) := by kernel_rfl
  rw [← hm]
  simpa [Value.cells] using this

set_option maxRecDepth 10000 in
set_option maxHeartbeats 4000000 in
theorem specCountsOf_any (a : Option Addr) (len cap : Nat) (D : Nat → Nd) (w : World) (h : IsNds w a len cap D) (hf : Fine D len) :
    Calls Tryz.prog 10 #[.slice a len cap] w fun e w' => ∃ v, e = .returned (.tuple #[v, .bool (dagB D len)]) ∧ OwnI w' w.heap.size v (cntR D len) ∧ Below w.heap.size w w' := by
  have HE : Hid (∀ w', Below w.heap.size w w' → IsNds w' a len cap D) := fun w' hB => h.below hB
  have HF := (show Hid _ from hf)
  go_enter Tryz.func10, Tryz.ntmps10
  go_wp2_with fail
  refine (specDagOk_any a len cap D w (HE.out w (Below.refl _ _)) HF.out).mono ?_
  rintro e w1 ⟨rfl, hB1⟩
  have HB1 := (show Hid _ from hB1)
  clear h hf hB1
  cases hd : dagB D len with
  | false =>
    have HR : Hid (OwnI w1 w.heap.size (.slice none 0 0) (cntR D len)) := by
      unfold cntR
      rw [hd]
      exact OwnI.nil _ _
    go_wp2
    go_ret2
    exact ⟨_, by rw [hd]; rfl, HR.out, HB1.out⟩
  | true =>
    have HD : Hid (cntR D len = lst9 (cntF D len)) := by show _ = _; unfold cntR; rw [if_pos hd]
    have HAU : Hid (∀ k, k < len → 1 ≤ (D k).a ∧ (D k).a ≤ 9) := fun k hk => by
      unfold dagB at hd
      simp only [Bool.and_eq_true] at hd
      have := allB_atC hd.2.1 hk
      exact (node_right this).1
    have hl30 : len ≤ 30 := by
      unfold dagB at hd
      simp only [Bool.and_eq_true, decide_eq_true_eq] at hd
      exact hd.1
    obtain ⟨w2, hw2⟩ : ∃ w2, w2 = w1.alloc (.cells (arr9 (fun _ => 0)) 2) := ⟨_, rfl⟩
    obtain ⟨g, hg⟩ : ∃ g, g = w1.heap.size := ⟨_, rfl⟩
    have hmk := make9 w1
    rw [← hw2, ← hg] at hmk
    have HA : Hid (w2.heap[g]? = some (.cells (arr9 (fun i => cnt D ((i : Int) + 1) 0)) 2 (0, 0))) := by
      rw [hw2, hg]
      exact heap_alloc_new _ _
    have HB2 : Hid (Below w1.heap.size w1 w2) := by rw [hw2]; exact (Below.refl _ _).alloc (Nat.le_refl _) _
    have HGE : Hid (w1.heap.size ≤ g) := by rw [hg]; exact Nat.le_refl _
    have HDD := (show Hid _ from hd)
    have HC : Hid (∀ w', Below w.heap.size w w' → ∀ k, k < len → ∃ b off, a = some ⟨b, off, none⟩ ∧ NdAt w' b (off + k * 6) (D k)) := fun w' hB k hk => by
      obtain ⟨_, _, hc⟩ := HE.out w' hB
      obtain ⟨b, off, rfl, _, hcell⟩ := hc (by omega)
      exact ⟨b, off, rfl, hcell k hk⟩
    clear hw2 hd hg
    go_wp2
    clear hmk
    go_loopw [5] (fun i wr => ∃ (k : Nat), k ≤ len ∧ i = .int .i64 k ∧ Hid (wr.heap[g]? = some (.cells (arr9 (fun i => cnt D ((i : Int) + 1) k)) 2 (0, 0))) ∧ Hid (Below w1.heap.size w1 wr)) (fun i _ => len - (Go.RowKit.intOf i).toNat)
    case atStart => exact ⟨0, Nat.zero_le _, rfl, HA.out, HB2.out⟩
    case round =>
      obtain ⟨k, hk, rfl, HT, HBr⟩ := hrel
      by_cases hlt : k < len
      · have hltI : (k : Int) < (len : Int) := by omega
        obtain ⟨b, off, rfl, nd⟩ := HC.out wr (HB1.out.trans (HBr.out.mono HB1.out.size)) k hlt
        obtain ⟨c0, c1, c2, c3, c4, c5, _⟩ := nd
        obtain ⟨da, hda⟩ : ∃ x, x = (D k).a := ⟨_, rfl⟩
        obtain ⟨ds, hds⟩ : ∃ x, x = (D k).s := ⟨_, rfl⟩
        rw [← hda] at c0
        rw [← hds] at c1
        have hr := HAU.out k hlt
        rw [← hda] at hr
        obtain ⟨i, hi⟩ : ∃ i : Nat, da = (i : Int) + 1 := ⟨(da - 1).toNat, by omega⟩
        have hi9 : i < 9 := by omega
        have hin : inB 1 9 da = true := by
          unfold inB
          rw [decide_eq_true hr.1, decide_eq_true hr.2]
          rfl
        have HC1 : Hid (∀ w', Calls Tryz.prog 26 #[.int .i64 da, .int .i64 1, .int .i64 9] w' fun e w'' => e = .returned (.bool true) ∧ w'' = w') := fun w' => in_any da 1 9 true hin w'
        have hsub : da - 1 = (i : Int) := by omega
        have hwr : IntKind.i64.wrap (da - 1) = (i : Int) := by rw [IntKind.wrap_i64]; omega
        have hwi : IntKind.i64.wrap (i : Int) = (i : Int) := by rw [IntKind.wrap_i64]; omega
        have hi9I : (i : Int) < 9 := by omega
        obtain ⟨c, hc⟩ : ∃ c, c = cnt D ((i : Int) + 1) k := ⟨_, rfl⟩
        have hck : wr.cell? ⟨g, i, none⟩ = some (.int .i64 c) := by rw [cellC HT.out, hc]; exact arr9_at _ hi9
        have hfz : wr.frozen? ⟨g, i, none⟩ = false := frozC HT.out
        obtain ⟨wd, hwd⟩ : ∃ wd, wd = ({ wr with drawn := wr.drawn + 1 } : World) := ⟨_, rfl⟩
        have f0 : wd.cell? ⟨b, off + k * 6, none⟩ = some (.int .i64 da) := by rw [hwd]; exact c0
        have f1 : wd.cell? ⟨b, off + k * 6 + 1, none⟩ = some (.int .i64 ds) := by rw [hwd]; exact c1
        have fck : wd.cell? ⟨g, i, none⟩ = some (.int .i64 c) := by rw [hwd]; exact hck
        have ffz : wd.frozen? ⟨g, i, none⟩ = false := by rw [hwd]; exact hfz
        have HN : Hid ((wr.setCell ⟨g, i, none⟩ (.int .i64 (max c ds))).heap[g]? = some (.cells (arr9 (fun i => cnt D ((i : Int) + 1) (k + 1))) 2 (0, 0)) ∧ Below w1.heap.size w1 (wr.setCell ⟨g, i, none⟩ (.int .i64 (max c ds)))) := by
          refine ⟨?_, HBr.out.setCell HGE.out _⟩
          rw [setC_heap HT.out, arr9_set _ hi9]
          have : arr9 (fun j => if j = i then max c ds else cnt D ((j : Int) + 1) k) = arr9 (fun j => cnt D ((j : Int) + 1) (k + 1)) := arr9_ext (fun j hj => by
            by_cases e : j = i
            · subst e
              rw [if_pos rfl, cnt_yes (by rw [← hda]; exact hi), ← hds, hc]
            · rw [if_neg e, cnt_no (by rw [← hda]; omega)])
          rw [this]
        have HN2 : Hid ((wd.setCell ⟨g, i, none⟩ (.int .i64 (max c ds))).heap[g]? = some (.cells (arr9 (fun i => cnt D ((i : Int) + 1) (k + 1))) 2 (0, 0)) ∧ Below w1.heap.size w1 (wd.setCell ⟨g, i, none⟩ (.int .i64 (max c ds)))) := by
          rw [hwd]
          refine ⟨HN.out.1, ?_⟩
          have : Below w1.heap.size w1 ({ wr with drawn := wr.drawn + 1 } : World) := HBr.out.trans ⟨rfl, rfl, rfl, Nat.le_refl _, fun _ _ => rfl⟩
          exact this.setCell HGE.out _
        clear HT hda hds hr hi hin hc
        go_wp2_with fail
        refine (HC1.out wr).mono ?_
        rintro e w3 ⟨rfl, hw3⟩
        rw [hw3]
        clear hw3 w3
        go_wp2
        refine wp_region_still_tail 22 (by kernel_rfl) (by kernel_rfl) ?_
        simp only [List.take_succ_cons, List.take_zero, List.drop_succ_cons, List.drop_zero]
        rw [show ({ wr with drawn := wr.drawn + 1 } : World) = wd from hwd.symm]
        clear hwd
        repeat still_step
        refine wpStill_nil ?_
        go_wp2
        go_roundw
        case rel => exact ⟨k + 1, by omega, by go_num, HN2.out.1, HN2.out.2⟩
        case measure => simp [Go.RowKit.intOf]; omega
      · have hke : k = len := by omega
        subst hke
        have HF : Hid (OwnI wr w.heap.size (.slice (some ⟨g, 0, none⟩) 9 9) (cntR D k) ∧ Below w.heap.size w wr) := by
          refine ⟨?_, HB1.out.trans (HBr.out.mono HB1.out.size)⟩
          rw [HD.out]
          refine ⟨?_, .inr ⟨g, 9, _, ?_, ?_, HT.out, ?_, ?_, ?_, ?_⟩⟩
          · rw [List.length_map, lst9_len]
          · rw [lst9_len]
          · have := HGE.out; have := HB1.out.size; omega
          · rw [lst9_len]; omega
          · unfold maxLen; omega
          · rw [arr9_size]
          · rw [lst9_len, arr9_list, List.take_of_length_le (by rw [List.length_map, lst9_len]; omega)]
            rfl
        clear HT
        go_wp2
        go_ret2
        exact ⟨_, by rw [HDD.out]; rfl, HF.out.1, HF.out.2⟩
end Go.Proofs.YtmnfpelngohcfaaGreatDoor
