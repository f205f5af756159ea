/-
  CountsOf, plainly, and the program's. No condition but that the slice reads and that the tables lie.
-/
import Derived.Test.YtmnfpelngohcfaaGreatDoorDag7
import Derived.Test.YtmnfpelngohcfaaGreatDoorCoQ

namespace Go.Proofs.YtmnfpelngohcfaaGreatDoor
open Go.RowKit
set_option linter.unusedVariables false

def cntR (D : Nat → Nd) (len : Nat) : List Int := if dagB D len = true then lst9 (cntF D len) else []
/-- the tally when k of its numbers are set -/
def mixC (D : Nat → Nd) (len k : Nat) : Nat → Int := fun i => if i < k then cntF D len i else 0

set_option maxRecDepth 10000 in
set_option maxHeartbeats 4000000 in
theorem implCountsOf_any (a : Option Addr) (len cap : Nat) (D : Nat → Nd) (w : World) (h : IsNds w a len cap D) (hf : Fine D len) (hP : AllT w) :
    Calls Tryz.prog 11 #[.slice a len cap] w fun e w' => ∃ v, e = .returned (.tuple #[v, .bool (dagB D len)]) ∧ OwnI w' w.heap.size v (cntR D len) ∧ Below w.heap.size w w' := by
  have HE : Hid (∀ w', Below w.heap.size w w' → IsNds w' a len cap D) := fun w' hB => h.below hB
  have HF := (show Hid _ from hf)
  have HP := (show Hid _ from hP)
  go_enter Tryz.func11, Tryz.ntmps11
  go_wp2_with fail
  refine (implDagOk_any a len cap D w (HE.out w (Below.refl _ _)) HF.out HP.out).mono ?_
  rintro e w1 ⟨rfl, hB1⟩
  have HB1 := (show Hid _ from hB1)
  clear h hf hP hB1
  cases hd : dagB D len with
  | false =>
    have HR : Hid (OwnI w1 w.heap.size (.slice none 0 0) (cntR D len)) := by
      unfold cntR
      rw [hd]
      exact OwnI.nil _ _
    go_wp2
    go_ret2
    exact ⟨_, by rw [hd]; rfl, HR.out, HB1.out⟩
  | true =>
    have HD : Hid (cntR D len = lst9 (cntF D len)) := by show _ = _; unfold cntR; rw [if_pos hd]
    obtain ⟨w2, hw2⟩ : ∃ w2, w2 = w1.alloc (.cells #[.int .i64 0, .int .i64 0, .int .i64 0, .int .i64 0, .int .i64 0, .int .i64 0, .int .i64 0, .int .i64 0, .int .i64 0] 56) := ⟨_, rfl⟩
    obtain ⟨g, hg⟩ : ∃ g, g = w1.heap.size := ⟨_, rfl⟩
    have HA : Hid (w2.heap[g]? = some (.cells (arr9 (mixC D len 0)) 56 (0, 0))) := by
      have e : arr9 (mixC D len 0) = #[.int .i64 0, .int .i64 0, .int .i64 0, .int .i64 0, .int .i64 0, .int .i64 0, .int .i64 0, .int .i64 0, .int .i64 0] := by
        rw [arr9_ext (Y := fun _ => 0) (fun i _ => by unfold mixC; rw [if_neg (by omega)])]
        rfl
      rw [e, hw2, hg]
      exact heap_alloc_new _ _
    have HB2 : Hid (Below w1.heap.size w1 w2) := by rw [hw2]; exact (Below.refl _ _).alloc (Nat.le_refl _) _
    have HGE : Hid (w1.heap.size ≤ g) := by rw [hg]; exact Nat.le_refl _
    have HW2 := (show Hid _ from hw2)
    have HDD := (show Hid _ from hd)
    clear hw2 hd
    go_wp2
    rw [← HW2.out, ← hg]
    clear HW2 hg
    go_loopw [9] (fun i wr => ∃ (k : Nat), k ≤ 9 ∧ i = .int .i64 k ∧ Hid (wr.heap[g]? = some (.cells (arr9 (mixC D len k)) 56 (0, 0))) ∧ Hid (Below w1.heap.size w1 wr)) (fun i _ => 9 - (Go.RowKit.intOf i).toNat)
    case atStart => exact ⟨0, Nat.zero_le _, rfl, HA.out, HB2.out⟩
    case round =>
      obtain ⟨k, hk, rfl, HT, HBr⟩ := hrel
      by_cases hlt : k < 9
      · have hltI : (k : Int) < 9 := by omega
        go_wp2_with fail
        refine (lastSeq_any a len cap D ((k : Int) + 1) wr (HE.out wr (HB1.out.trans (HBr.out.mono HB1.out.size)))).mono ?_
        rintro e w3 ⟨rfl, hB3⟩
        have HT3 : Hid (w3.heap[g]? = some (.cells (arr9 (mixC D len k)) 56 (0, 0))) := (hB3.block _ (lt_of_block HT.out)).trans HT.out
        have HB3 : Hid (Below w1.heap.size w1 w3) := HBr.out.trans (hB3.mono HBr.out.size)
        have hck : w3.cell? ⟨g, k, none⟩ = some (.int .i64 (mixC D len k k)) := by rw [cellC HT3.out]; exact arr9_at _ hlt
        have hfz : w3.frozen? ⟨g, k, none⟩ = false := frozC HT3.out
        obtain ⟨z, hz⟩ : ∃ z, z = cnt D ((k : Int) + 1) len := ⟨_, rfl⟩
        have HN : Hid ((w3.setCell ⟨g, k, none⟩ (.int .i64 z)).heap[g]? = some (.cells (arr9 (mixC D len (k + 1))) 56 (0, 0)) ∧ Below w1.heap.size w1 (w3.setCell ⟨g, k, none⟩ (.int .i64 z))) := by
          refine ⟨?_, HB3.out.setCell HGE.out _⟩
          rw [setC_heap HT3.out, arr9_set _ hlt]
          have : arr9 (fun i => if i = k then z else mixC D len k i) = arr9 (mixC D len (k + 1)) := arr9_ext (fun i hi => by
            unfold mixC
            by_cases e : i = k
            · subst e
              rw [if_pos rfl, if_pos (by omega), hz]
              rfl
            · rw [if_neg e]
              by_cases h2 : i < k
              · rw [if_pos h2, if_pos (by omega)]
              · rw [if_neg h2, if_neg (by omega)])
          rw [this]
        rw [← hz]
        clear hB3 HT HT3 hz
        go_wp2
        go_roundw
        case rel => exact ⟨k + 1, by omega, by go_num, HN.out.1, HN.out.2⟩
        case measure => simp [Go.RowKit.intOf]; omega
      · have hke : k = 9 := by omega
        subst hke
        obtain ⟨A, hA⟩ : ∃ A, A = arr9 (mixC D len 9) := ⟨_, rfl⟩
        have HTA : Hid (wr.heap[g]? = some (.cells A 56 (0, 0))) := by rw [hA]; exact HT.out
        have hAi : (Tryz.prog.info? 56).map (·.size) = some A.size := by rw [hA, arr9_size]; kernel_rfl
        have HL : Hid (Calls Tryz.prog 28 #[.agg A] wr fun e w' => ∃ v, e = .returned v ∧ OwnI w' wr.heap.size v (lst9 (cntF D len)) ∧ Below wr.heap.size wr w') := by
          have e : A = arr9 (cntF D len) := by rw [hA]; exact arr9_ext (fun i hi => by unfold mixC; rw [if_pos hi])
          rw [e]
          exact list_any _ wr
        clear hA HT
        go_wp2_with (first | (refine wpList_load_row rfl 56 _ rfl g rfl 56 A _ _ HTA.out Tryz.underlying56 rfl hAi ?_))
        refine HL.out.mono ?_
        rintro e w4 ⟨v4, rfl, hO4, hB4⟩
        have HF : Hid (OwnI w4 w.heap.size v4 (cntR D len) ∧ Below w.heap.size w w4) := by
          have hB := HBr.out.trans (hB4.mono HBr.out.size)
          refine ⟨?_, HB1.out.trans (hB.mono HB1.out.size)⟩
          rw [HD.out]
          exact hO4.base (Nat.le_trans HB1.out.size HBr.out.size)
        clear hO4 hB4
        go_wp2
        go_ret2
        exact ⟨_, by rw [HDD.out]; rfl, HF.out.1, HF.out.2⟩
end Go.Proofs.YtmnfpelngohcfaaGreatDoor
