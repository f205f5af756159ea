/-
  The last number of one in a dag, plainly, and by the program. No condition but that the slice reads.
-/
import Derived.Test.YtmnfpelngohcfaaGreatDoorDag2
import Derived.Test.YtmnfpelngohcfaaGreatDoorCoL
namespace Go.Proofs.YtmnfpelngohcfaaGreatDoor
open Go.RowKit
set_option linter.unusedVariables false

/-- the last number of one among the first k nodes -/
def cnt (D : Nat → Nd) (who : Int) : Nat → Int
  | 0 => 0
  | k + 1 => if (D k).a = who then max (cnt D who k) (D k).s else cnt D who k
def cntF (D : Nat → Nd) (len : Nat) : Nat → Int := fun i => cnt D ((i : Int) + 1) len
theorem cnt_yes {D : Nat → Nd} {who : Int} {k : Nat} (h : (D k).a = who) : cnt D who (k + 1) = max (cnt D who k) (D k).s := by
  show (if _ then _ else _) = _
  rw [if_pos h]
theorem cnt_no {D : Nat → Nd} {who : Int} {k : Nat} (h : (D k).a ≠ who) : cnt D who (k + 1) = cnt D who k := by
  show (if _ then _ else _) = _
  rw [if_neg h]

set_option maxRecDepth 10000 in
set_option maxHeartbeats 2000000 in
theorem lastSeq_any (a : Option Addr) (len cap : Nat) (D : Nat → Nd) (who : Int) (w : World) (h : IsNds w a len cap D) :
    Calls Tryz.prog 27 #[.slice a len cap, .int .i64 who] w fun e w' => e = .returned (.int .i64 (cnt D who len)) ∧ Below w.heap.size w w' := by
  have HE := (show Hid _ from h)
  obtain ⟨hlc, hcm, hc⟩ := h
  go_enter Tryz.func27, Tryz.ntmps27
  go_wp2
  go_loopw [5, 10] (fun u i wr => ∃ (k : Nat) (c : Int), k ≤ len ∧ u = .int .i64 c ∧ i = .int .i64 k ∧ Hid (c = cnt D who k) ∧ Hid (Below w.heap.size w wr)) (fun _ i _ => len - (Go.RowKit.intOf i).toNat)
  case atStart => exact ⟨0, 0, Nat.zero_le _, rfl, rfl, rfl, Below.refl _ _⟩
  case round =>
    obtain ⟨k, c, hk, rfl, rfl, HC, HB⟩ := hrel
    by_cases hlt : k < len
    · obtain ⟨b, off, rfl, hbs, hcell⟩ := hc (by omega)
      have hltI : (k : Int) < (len : Int) := by omega
      have hBa := HB.out
      have nd : NdAt wr b (off + k * 6) (D k) := by
        have n1 := hcell k hlt
        exact ⟨(hBa.cell (p := ⟨b, _, none⟩) hbs).trans n1.c0, (hBa.cell (p := ⟨b, _, none⟩) hbs).trans n1.c1, (hBa.cell (p := ⟨b, _, none⟩) hbs).trans n1.c2, (hBa.cell (p := ⟨b, _, none⟩) hbs).trans n1.c3, (hBa.cell (p := ⟨b, _, none⟩) hbs).trans n1.c4, (hBa.cell (p := ⟨b, _, none⟩) hbs).trans n1.c5, n1.i.below hBa⟩
      obtain ⟨c0, c1, c2, c3, c4, c5, _⟩ := nd
      clear hBa hcell
      obtain ⟨da, hda⟩ : ∃ x, x = (D k).a := ⟨_, rfl⟩
      obtain ⟨ds, hds⟩ : ∃ x, x = (D k).s := ⟨_, rfl⟩
      rw [← hda] at c0
      rw [← hds] at c1
      have HB2 : Hid (∀ o, Below w.heap.size w (wr.alloc o)) := fun o => HB.out.alloc HB.out.size _
      cases hq : (da == who) with
      | false =>
        have HN : Hid (c = cnt D who (k + 1)) := by
          show _ = _
          rw [cnt_no (by rw [← hda]; simpa using hq)]
          exact HC.out
        clear hda hds
        go_wp2
        go_roundw
        case rel => exact ⟨k + 1, c, by omega, rfl, by go_num, HN.out, HB2.out _⟩
        case measure => simp [Go.RowKit.intOf]; omega
      | true =>
        have HN : Hid (max c ds = cnt D who (k + 1)) := by
          show _ = _
          rw [cnt_yes (by rw [← hda]; simpa using hq), ← hds, HC.out]
        clear hda hds
        go_wp2
        go_roundw
        case rel => exact ⟨k + 1, max c ds, by omega, rfl, by go_num, HN.out, HB2.out _⟩
        case measure => simp [Go.RowKit.intOf]; omega
    · have hke : k = len := by omega
      subst hke
      go_wp2
      go_ret
      exact ⟨by rw [← HC.out]; rfl, HB.out⟩
end Go.Proofs.YtmnfpelngohcfaaGreatDoor
